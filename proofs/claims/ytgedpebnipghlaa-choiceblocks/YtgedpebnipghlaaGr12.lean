import Derived.Test.YtgedpebnipghlaaGr02
import Derived.Test.YtgedpebnipghlaaGr06
import Derived.Test.YtgedpebnipghlaaGr11
import Derived.Deep.RegionHeld3
import Derived.Test.YtgedpebnipghlaaGr10
import Derived.Test.YtgedpebnipghlaaGr09
import Derived.Test.YtgedpebnipghlaaGr08
import Derived.Test.YtgedpebnipghlaaGr00
import Derived.Lib.SmallJoins
import Derived.Deep.Strs
import Derived.Deep.Slices
/- Package grow as it landed: what is growing, where it lies, and what it hangs on. -/
namespace Go.Proofs.Ytgedpebnipghlaa
open Go.RowKit
set_option linter.unusedVariables false
set_option maxRecDepth 4000

def noLink : LinkL := ⟨0, [], []⟩
def linkAt (l : List LinkL) (j : Nat) : LinkL := l.getD j noLink
theorem linkAt_append {l r : List LinkL} {k : Nat} (h : k < l.length) : linkAt (l ++ r) k = linkAt l k := by
  rw [linkAt, linkAt, List.getD_eq_getElem?_getD, List.getD_eq_getElem?_getD, List.getElem?_append_left h]
theorem linkAt_last (l : List LinkL) (x : LinkL) : linkAt (l ++ [x]) l.length = x := by
  rw [linkAt, List.getD_eq_getElem?_getD, List.getElem?_append_right (Nat.le_refl _)]; simp
theorem linkAt_get {l : List LinkL} {k : Nat} (h : k < l.length) : linkAt l k = l[k] := by
  rw [linkAt, List.getD_eq_getElem?_getD, List.getElem?_eq_getElem h]; rfl
/-- Places as numbers. -/
def intsN (l : List Nat) : List Int := l.map fun n : Nat => (n : Int)
theorem intsN_length (l : List Nat) : (intsN l).length = l.length := by simp [intsN]

def linkCells (l : List LinkL) (us vs : List Value) : List Value := triTo (fun j => .int .i64 (linkAt l j).label) (valAt us) (valAt vs) l.length
theorem linkCells_append (l : List LinkL) (us vs : List Value) (x : LinkL) (u v : Value) (hu : us.length = l.length) (hv : vs.length = l.length) : linkCells (l ++ [x]) (us ++ [u]) (vs ++ [v]) = linkCells l us vs ++ [.int .i64 x.label, u, v] := by
  unfold linkCells
  rw [List.length_append]
  show triTo _ _ _ (l.length + 1) = _
  rw [triTo, linkAt_last]
  rw [triTo_congr (f' := fun j => .int .i64 (linkAt l j).label) (g' := valAt us) (h' := valAt vs) (fun j hj => by rw [linkAt_append hj, valAt_append (by omega), valAt_append (by omega)]; exact ⟨rfl, rfl, rfl⟩)]
  have e1 : valAt (us ++ [u]) l.length = u := by rw [← hu]; exact valAt_last _ _
  have e2 : valAt (vs ++ [v]) l.length = v := by rw [← hv]; exact valAt_last _ _
  rw [e1, e2]

/-- The blocks that growing writes. -/
def mineG (x : Nat) (lv : Value) (k : Nat) : Prop := k = x ∨ lv.ownBlock = some k

/-- A net that grows: its struct lies at block x, its links in a row of its own; what the links say hangs on none of these. -/
structure GrowAt (B x : Nat) (W wr : World) (g : GrowL) (lv : Value) (us vs : List Value) : Prop where
  row : wr.ownsRow B 90 3 lv g.links.length (linkCells g.links us vs)
  cells : wr.heap[x]? = some (.cells #[.int .i64 (g.places : Int), lv] 69 (0, 0))
  below : Below B W wr
  hx : B ≤ x
  ap : lv.ownBlock ≠ some x
  lenU : us.length = g.links.length
  lenV : vs.length = g.links.length
  els : ∀ j, j < g.links.length → On (fun k => ¬ mineG x lv k) wr (fun w' => Ints w' (valAt us j) (intsN (linkAt g.links j).src)) ∧ On (fun k => ¬ mineG x lv k) wr (fun w' => Ints w' (valAt vs j) (intsN (linkAt g.links j).dst))

section
variable {B x : Nat} {W wr : World} {g : GrowL} {lv : Value} {us vs : List Value}

theorem GrowAt.lt (h : GrowAt B x W wr g lv us vs) : x < wr.heap.size := (Array.getElem?_eq_some_iff.1 h.cells).1
theorem GrowAt.base (h : GrowAt B x W wr g lv us vs) : B ≤ wr.heap.size := Nat.le_trans h.hx (Nat.le_of_lt h.lt)
theorem GrowAt.to {w' : World} (h : GrowAt B x W wr g lv us vs) (hb : Below wr.heap.size wr w') : GrowAt B x W w' g lv us vs :=
  { h with
    row := ((ownsRow_on h.row).below hb).now
    cells := by rw [hb.block x h.lt]; exact h.cells
    below := h.below.trans (hb.mono h.base)
    els := fun j hj => ⟨(h.els j hj).1.below hb, (h.els j hj).2.below hb⟩ }
theorem GrowAt.at (h : GrowAt B x W wr g lv us vs) : wr.cell? ⟨x, 0, none⟩ = some (.int .i64 (g.places : Int)) ∧ wr.cell? ⟨x, 1, none⟩ = some lv ∧ wr.frozen? ⟨x, 0, none⟩ = false ∧ wr.frozen? ⟨x, 1, none⟩ = false := by
  refine ⟨?_, ?_, ?_, ?_⟩ <;> simp [World.cell?, World.frozen?, h.cells]
theorem GrowAt.slice (h : GrowAt B x W wr g lv us vs) : ∃ a c, lv = .slice a g.links.length c := by
  rcases h.row.2 with ⟨e, h0⟩ | ⟨g', cap', cur, e, _⟩
  · exact ⟨none, 0, by rw [e, h0]⟩
  · exact ⟨_, _, e⟩
theorem GrowAt.notMine (h : GrowAt B x W wr g lv us vs) {b : Nat} (hb : wr.heap.size ≤ b) : ¬ mineG x lv b := by
  rintro (e | e)
  · have := h.lt; omega
  · have := (ownsRow_lt h.row e).2; omega
theorem GrowAt.notOld (h : GrowAt B x W wr g lv us vs) {b : Nat} (hb : b < B) : ¬ mineG x lv b := by
  rintro (e | e)
  · have := h.hx; omega
  · have := (ownsRow_lt h.row e).1; omega

theorem GrowAt.after {wC : World} (h : GrowAt B x W wr g lv us vs) (hg : wr.grownBy wC lv.ownBlock) : wC.cell? ⟨x, 1, none⟩ = some lv ∧ wC.frozen? ⟨x, 1, none⟩ = false := by
  have q := hg.block x h.lt (fun e => h.ap e.symm)
  rw [h.cells] at q
  constructor <;> simp [World.cell?, World.frozen?, q]

/-- One more place. -/
theorem GrowAt.place (h : GrowAt B x W wr g lv us vs) (n : Nat) : GrowAt B x W (wr.setCell ⟨x, 0, none⟩ (.int .i64 (n : Int))) ⟨n, g.links⟩ lv us vs ∧ Keeps wr (mineG x lv) (wr.setCell ⟨x, 0, none⟩ (.int .i64 (n : Int))) (mineG x lv) := by
  have hK : Keeps wr (mineG x lv) (wr.setCell ⟨x, 0, none⟩ (.int .i64 (n : Int))) (mineG x lv) := ⟨by simp [World.setCell], fun k _ hk => ⟨Below.heap_setCell wr ⟨x, 0, none⟩ _ k (fun e => hk (.inl e)), hk⟩⟩
  refine ⟨⟨((ownsRow_on h.row).set (a := ⟨x, 0, none⟩) (fun e => h.ap e.1) _).now, ?_, h.below.setCell (p := ⟨x, 0, none⟩) h.hx _, h.hx, h.ap, h.lenU, h.lenV, fun j hj => ⟨hK.on (h.els j hj).1, hK.on (h.els j hj).2⟩⟩, hK⟩
  rw [setCell_blockK h.cells]; rfl

/-- One more link. -/
theorem GrowAt.link {wC : World} {lv' u v : Value} (h : GrowAt B x W wr g lv us vs) (l : LinkL) (hu : On (fun k => ¬ mineG x lv k) wr (fun w' => Ints w' u (intsN l.src))) (hv : On (fun k => ¬ mineG x lv k) wr (fun w' => Ints w' v (intsN l.dst)))
    (hown : wC.ownsRow B 90 3 lv' (g.links.length + 1) (linkCells g.links us vs ++ [.int .i64 l.label, u, v])) (hg : wr.grownBy wC lv.ownBlock) (hat : lv'.ownBlock = lv.ownBlock ∨ lv'.ownBlock = some wr.heap.size) :
    GrowAt B x W (wC.setCell ⟨x, 1, none⟩ lv') ⟨g.places, g.links ++ [l]⟩ lv' (us ++ [u]) (vs ++ [v]) ∧ Keeps wr (mineG x lv) (wC.setCell ⟨x, 1, none⟩ lv') (mineG x lv') := by
  obtain ⟨hc, hsz, hk⟩ := grow_at (i := 1) (v' := lv') h.lt hg h.ap h.cells
  have ap' : ∀ k, k < wr.heap.size → lv.ownBlock ≠ some k → lv'.ownBlock ≠ some k := by
    intro k hlt hne
    rcases hat with e | e <;> rw [e]
    · exact hne
    · simp; omega
  have apx := ap' x h.lt h.ap
  have hK : Keeps wr (mineG x lv) (wC.setCell ⟨x, 1, none⟩ lv') (mineG x lv') := by
    refine ⟨hsz, fun k hlt hn => ⟨hk k hlt (fun e => hn (.inl e)) (fun e => hn (.inr e)), ?_⟩⟩
    rintro (e | e)
    · exact hn (.inl e)
    · exact ap' k hlt (fun e => hn (.inr e)) e
  refine ⟨⟨?_, by simpa using hc, ?_, h.hx, apx, by simp [h.lenU], by simp [h.lenV], fun j hj => ?_⟩, hK⟩
  · rw [linkCells_append _ _ _ _ _ _ h.lenU h.lenV]
    have := (ownsRow_on hown).set (a := ⟨x, 1, none⟩) (fun e => apx e.1) lv'
    simpa using this.now
  · exact (h.below.grown hg h.base (fun k hk => (ownsRow_lt h.row hk).1)).setCell (p := ⟨x, 1, none⟩) h.hx _
  · simp only [List.length_append, List.length_singleton] at hj
    by_cases hl : j < g.links.length
    · rw [linkAt_append hl, valAt_append (by rw [h.lenU]; exact hl), valAt_append (by rw [h.lenV]; exact hl)]
      exact ⟨hK.on (h.els j hl).1, hK.on (h.els j hl).2⟩
    · have e : j = g.links.length := by omega
      subst e
      rw [linkAt_last]
      have e1 : valAt (us ++ [u]) g.links.length = u := by rw [← h.lenU]; exact valAt_last _ _
      have e2 : valAt (vs ++ [v]) g.links.length = v := by rw [← h.lenV]; exact valAt_last _ _
      rw [e1, e2]
      exact ⟨hK.on hu, hK.on hv⟩
end

/-- What is panicked with where there is no room. -/
abbrev fullP : List PanicEntry := [{ v := .iface 65 (.agg #[]), recovered := false }]

/-- What a method that grows leaves. -/
def Grew (B x : Nat) (W w : World) (lv : Value) (g' : GrowL) (r : Value) (e : Ending) (w' : World) : Prop :=
  (FitG g' ∧ e = .returned r ∧ ∃ lv' us' vs', GrowAt B x W w' g' lv' us' vs' ∧ Keeps w (mineG x lv) w' (mineG x lv')) ∨ (¬ FitG g' ∧ e = .panicked fullP ∧ Below B W w')

/-! It only grows. -/
def LeG (g h : GrowL) : Prop := g.places ≤ h.places ∧ g.links.length ≤ h.links.length
theorem LeG.refl (g : GrowL) : LeG g g := ⟨Nat.le_refl _, Nat.le_refl _⟩
theorem LeG.trans {a b c : GrowL} (h : LeG a b) (k : LeG b c) : LeG a c := ⟨Nat.le_trans h.1 k.1, Nat.le_trans h.2 k.2⟩
theorem LeG.not {g h : GrowL} (k : LeG g h) (n : ¬ FitG g) : ¬ FitG h := fun q => n ⟨Nat.le_trans k.1 q.1, Nat.le_trans k.2 q.2⟩
theorem LeG.fit {g h : GrowL} (k : LeG g h) (n : FitG h) : FitG g := ⟨Nat.le_trans k.1 n.1, Nat.le_trans k.2 n.2⟩
theorem putG_le (g : GrowL) (l : Int) (a b : List Nat) : LeG g (putG g l a b) := ⟨Nat.le_refl _, by simp [putG]⟩
theorem moreG_le (g : GrowL) (n : Nat) : LeG g ⟨g.places + n, g.links⟩ := ⟨by simp, Nat.le_refl _⟩
def UpG (K : GrowT) : Prop := ∀ b p q g, LeG g (K b p q g)
theorem growSeq_le {K : GrowT} (hK : UpG K) : ∀ (l : List BlockL) (p q : Nat) (g : GrowL), LeG g (growSeq K l p q g)
  | [], _, _, g => LeG.refl g
  | [k], p, q, g => hK k p q g
  | k :: k2 :: ks, p, q, g => ((moreG_le g 1).trans (hK k p g.places _)).trans (growSeq_le hK (k2 :: ks) _ _ _)
theorem growAlt_le {K : GrowT} (hK : UpG K) : ∀ (l : List BlockL) (p q : Nat) (g : GrowL), LeG g (growAlt K l p q g)
  | [], _, _, g => LeG.refl g
  | k :: ks, p, q, g => (hK k p q g).trans (growAlt_le hK ks _ _ _)
theorem growBoth_le {K : GrowT} (hK : UpG K) : ∀ (l : List BlockL) (x : Nat) (g : GrowL), LeG g (growBoth K l x g)
  | [], _, g => LeG.refl g
  | k :: ks, x, g => (hK k _ _ g).trans (growBoth_le hK ks _ _)
theorem growF_le {K : GrowT} (hK : UpG K) : UpG (growF K) := by
  intro b p q g
  unfold growF
  split
  · exact putG_le _ _ _ _
  · split
    · exact putG_le _ _ _ _
    · split
      · exact growSeq_le hK _ _ _ _
      · split
        · exact growAlt_le hK _ _ _ _
        · split
          · exact (((moreG_le g _).trans (putG_le _ _ _ _)).trans (growBoth_le hK _ _ _)).trans (putG_le _ _ _ _)
          · exact ((((moreG_le g _).trans (putG_le _ _ _ _)).trans (hK _ _ _ _)).trans (hK _ _ _ _)).trans (putG_le _ _ _ _)
theorem growK_le : ∀ f, UpG (growK f)
  | 0 => fun b p q g => LeG.refl g
  | f + 1 => growF_le (growK_le f)

end Go.Proofs.Ytgedpebnipghlaa

/- The answers of the document itself for shape: closing a net. -/
namespace Go.Proofs.Ytgedpebnipghlaa
open Go.RowKit
set_option linter.unusedVariables false
set_option maxRecDepth 4000

/-- What a transition's cells are told of. -/
def TvOf (w : World) (ts : List TranL) (tv : List (Int × Value × Value)) : Prop :=
  ∀ j (hj : j < tv.length), tv[j].1 = (tranAt ts j).label ∧ Ints w tv[j].2.1 (tranAt ts j).pre ∧ Ints w tv[j].2.2 (tranAt ts j).post

theorem trans_cells {w : World} {b off len cap : Nat} {ts : List TranL} (h : Trans w (.slice (some ⟨b, off, none⟩) len cap) ts) (k : Nat) (hk : k ≤ len) :
    ∃ tv : List (Int × Value × Value), tv.length = k ∧ (∀ j u, (tvCells tv)[j]? = some u → w.cell? ⟨b, off + j, none⟩ = some u) ∧ TvOf w ts tv := by
  induction k with
  | zero => exact ⟨[], rfl, fun j u hj => by simp [tvCells] at hj, fun j hj => absurd hj (by simp)⟩
  | succ k ih =>
    obtain ⟨tv, hl, hc, ho⟩ := ih (by omega)
    obtain ⟨b', off', c1, c2, e, hlt, h0, h1, h2, i1, i2⟩ := h.at (show k < len by omega)
    injection e with e
    injection e with e1 e2
    subst e1 e2
    refine ⟨tv ++ [((tranAt ts k).label, c1, c2)], by simp [hl], fun j u hj => ?_, fun j hj => ?_⟩
    · rw [tvCells_append, List.getElem?_append, tvCells_length, hl] at hj
      by_cases q : j < k * 3
      · rw [if_pos q] at hj
        exact hc j u hj
      · rw [if_neg q] at hj
        have hj3 : j - k * 3 < 3 := by
          rcases Nat.lt_or_ge (j - k * 3) 3 with q | q
          · exact q
          · rw [List.getElem?_eq_none (by simpa [tvCells] using q)] at hj; cases hj
        obtain ⟨d, rfl⟩ : ∃ d, j = k * 3 + d := ⟨j - k * 3, by omega⟩
        rw [show k * 3 + d - k * 3 = d by omega] at hj hj3
        match d, hj3, hj with
        | 0, _, hj => simp [tvCells] at hj; subst hj; simpa using h0
        | 1, _, hj => simp [tvCells] at hj; subst hj; simpa [Nat.add_assoc] using h1
        | 2, _, hj => simp [tvCells] at hj; subst hj; simpa [Nat.add_assoc] using h2
    · by_cases q : j < tv.length
      · rw [List.getElem_append_left q]; exact ho j q
      · have e : j = tv.length := by simp at hj; omega
        subst e
        rw [List.getElem_append_right (Nat.le_refl _)]
        simp only [Nat.sub_self, List.getElem_cons_zero]
        rw [hl]
        exact ⟨rfl, i1, i2⟩

theorem ints_one {w : World} {v : Value} {xs : List Int} (h : Ints w v xs) : v.oneCell' = true := by
  obtain ⟨a, len, cap, rfl, _⟩ := h
  rfl

theorem tv_one {w : World} {ts : List TranL} {tv : List (Int × Value × Value)} (h : TvOf w ts tv) : ∀ u ∈ tvCells tv, u.oneCell' = true := by
  intro u hu
  unfold tvCells at hu
  obtain ⟨x, hx, hu⟩ := List.mem_flatMap.1 hu
  obtain ⟨j, hj, rfl⟩ := List.getElem_of_mem hx
  obtain ⟨_, h1, h2⟩ := h j hj
  simp only [List.mem_cons, List.not_mem_nil, or_false] at hu
  rcases hu with rfl | rfl | rfl
  · rfl
  · exact ints_one h1
  · exact ints_one h2

/-- append of some transitions onto a row that the call itself has made, in a region that draws its order. -/
theorem wpr_append_tvs {o : Oper} {a : Act} {K : Act → World → Prop} {Q : Exit → Act → World → Prop} {Y : Nat → Option Bool} (hwt : Region.wanted o Y = true) (s x : Operand)
    (ho : o.op = .call { callee := .builtin .append, args := #[s, x], argTypes := #[22, 22] }) (B : Nat) (wr : World) (v : Value) (tv us : List (Int × Value × Value)) (b off m c : Nat)
    (hown : wr.ownsRow B 44 3 v tv.length (tvCells tv)) (hs : a.eval s = v) (hx : a.eval x = .slice (some ⟨b, off, none⟩) m c) (hm : us.length = m) (hc : ∀ j u, (tvCells us)[j]? = some u → wr.cell? ⟨b, off + j, none⟩ = some u)
    (h1 : ∀ u ∈ tvCells us, u.oneCell' = true) (hl : tv.length + m ≤ 2513169434916) (hB : B ≤ wr.heap.size)
    (h : ∀ v' w', w'.ownsRow B 44 3 v' (tv ++ us).length (tvCells (tv ++ us)) → wr.grownBy w' v.ownBlock → K (a.put o.dst v') w') :
    if Region.wanted o Y = true then Oper.wp Try.prog o a wr K Q else K (a.put o.dst undef) wr := by
  obtain ⟨i0, hi, hz0, hz1, hz2⟩ := info_parts info_tran
  refine wp_append_at _ hwt s x 22 ho B 44 i0 _ 3 56 Try.underlying22 hi hz0 hz1 hz2 rfl (by decide) v tv.length _ hs hown ⟨b, off, none⟩ m c (tvCells us) hx (by rw [tvCells_length, hm]) ?_ h1 ?_ ?_ hB ?_
  · intro j u hj
    rw [addr_add]
    exact hc j u hj
  · unfold maxLen; omega
  · omega
  · intro v' w' h2 h3 _
    refine h v' w' ?_ h3
    rw [tvCells_append, List.length_append, hm]
    exact h2

/-- A row of numbers is not a row of transitions. -/
theorem rows_apart {w w' : World} {B C : Nat} {r v : Value} {n m : Nat} {xs ys : List Value} (h : w.ownsRow B 3 1 r n xs) (k : w.ownsRow C 44 3 v m ys) (hg : w.grownBy w' v.ownBlock) : w'.ownsRow B 3 1 r n xs := by
  refine h.kept hg ?_
  rcases h.2 with ⟨rfl, _⟩ | ⟨g, cap, cur, rfl, _, hgb, _⟩
  · exact .inl rfl
  · refine .inr fun e => ?_
    rcases k.2 with ⟨rfl, _⟩ | ⟨g2, cap2, cur2, rfl, _, hgb2, _⟩
    · simp [Value.ownBlock] at e
    · obtain rfl : g = g2 := by simpa [Value.ownBlock] using e
      rw [hgb] at hgb2
      simp at hgb2

theorem rowT_none (w : World) (B : Nat) (hB : B ≤ w.heap.size) : (w.alloc (.cells #[] 44)).ownsRow B 44 3 (.slice (some ⟨w.heap.size, 0, none⟩) 0 0) (([] : List (Int × Value × Value))).length (tvCells []) := by
  refine ⟨by simp [tvCells], .inr ⟨w.heap.size, 0, #[], rfl, hB, ?_, Nat.le_refl _, by unfold maxLen; omega, rfl, rfl⟩⟩
  show (w.heap.push _)[w.heap.size]? = _
  simp

end Go.Proofs.Ytgedpebnipghlaa

/- What came in, read as lists and nets; and how much of it there is. -/
namespace Go.Proofs.Ytgedpebnipghlaa
open Go.ChangeShapes Go.WideShapes Go.ChangeAt Go.RowKit Go.Joins Go.Deep
set_option linter.unusedVariables false
set_option maxRecDepth 4000

theorem bulk_pos {H : Type} (d : DataW H) : 1 ≤ Rows.uptoBulk d := by
  cases d with
  | lit l => cases l <;> simp [Rows.uptoBulk]
  | nil => simp [Rows.uptoBulk]
  | ptr d => simp [Rows.uptoBulk]
  | slice elems spare => simp [Rows.uptoBulk]
  | agg parts => simp [Rows.uptoBulk]
  | iface t d => simp [Rows.uptoBulk]
  | map entries => simp [Rows.uptoBulk]
  | held h => simp [Rows.uptoBulk]
theorem bulk_part {H : Type} {d : DataW H} {l : List (DataW H)} (h : d ∈ l) : Rows.uptoBulk d ≤ Rows.uptoBulkAll l := by
  induction l with
  | nil => cases h
  | cons x r ih =>
    simp only [Rows.uptoBulkAll]
    cases List.mem_cons.1 h with
    | inl e => subst e; omega
    | inr e => have := ih e; omega
theorem bulk_length {H : Type} (l : List (DataW H)) : l.length ≤ Rows.uptoBulkAll l := by
  induction l with
  | nil => simp [Rows.uptoBulkAll]
  | cons x r ih => have := bulk_pos x; simp only [Rows.uptoBulkAll, List.length_cons]; omega

theorem weights_part {H : Type} {P : Program} {e : TypeId} {d : DataW H} {l : List (DataW H)} (h : d ∈ l) {x : Nat} (hx : x ∈ d.weights P e) : x ∈ DataW.weightsAll P e l := by
  induction l with
  | nil => cases h
  | cons y r ih =>
    simp only [DataW.weightsAll, List.mem_append]
    cases List.mem_cons.1 h with
    | inl q => subst q; exact .inl hx
    | inr q => exact .inr (ih q)

/-- Nothing in it is too great for a machine. -/
def Fits {H : Type} (t : TypeId) (d : DataW H) : Prop := ∀ x ∈ d.weights Try.prog t, x ≤ reachBytes

theorem ints_read {H : Type} {enc : TypeId × Value → H} {W : World} {fuel : Nat} {c : Value} {d : DataW H} {p : List MemPlace}
    (hf : DataW.trod enc Try.prog W 0 (fun _ => true) true fuel 29 [c] = some (d, p)) (hw : Fits 29 d) : ∃ xs, Ints W c xs ∧ xs.length + 1 ≤ Rows.uptoBulk d := by
  rcases open_ints Try.underlying29 Try.underlying3 (by kernel_rfl) hf with ⟨hcs, hx⟩ | ⟨x, l, cap, zs, hcs, _, hl, hm, hz, hx, hcell, hwz⟩
  · simp only [List.cons.injEq, and_true] at hcs
    subst hcs
    simp only [Prod.mk.injEq] at hx
    obtain ⟨rfl, _⟩ := hx
    exact ⟨[], Ints.nil _, by simp [Rows.uptoBulk]⟩
  · simp only [List.cons.injEq, and_true] at hcs
    subst hcs
    simp only [Prod.mk.injEq] at hx
    obtain ⟨rfl, _⟩ := hx
    simp only [if_true] at hz
    have hs := hw ((zs.take l).length * 8 + (zs.drop l).length * 8) (by
      simp only [DataW.weights, Try.underlying29, List.mem_cons]
      left
      rw [bytes_int]
      simp only [lits, List.length_map]
      omega)
    simp only [List.length_take, List.length_drop, reachBytes] at hs
    have hb := bulk_length (H := H) (lits .i64 (zs.take l))
    refine ⟨zs.take l, ⟨x, l, cap, rfl, by simp; omega, by omega, ⟨hl, by unfold maxLen at hm; omega, fun h => by cases h⟩, fun j hj => ?_⟩, ?_⟩
    · have hj' : j < l := by simp at hj; omega
      have hc := hcell j (by omega)
      obtain ⟨b, off, spot⟩ := x
      have hspot : spot = none := by simpa [Addr.add] using World.cell?_spot (hcell 0 (by omega))
      subst hspot
      rw [addr_add] at hc
      exact ⟨b, off, rfl, cell_lt hc, by rw [hc]; simp [nth, List.getD, hj']⟩
    · simp only [Rows.uptoBulk]
      simp only [lits, List.length_map] at hb
      simp only [lits] at hb ⊢
      omega

theorem ints_arg2 {H : Type} {enc : TypeId × Value → H} {W : World} {base : Nat} {v : Value} {d : DataW H} {p : List MemPlace}
    (hval : Value.okWide Try.prog W .any base 29 v) (h : DataW.Trod enc Try.prog W 0 (fun _ => true) true 29 v d p) (hw : Fits 29 d) : ∃ xs, Ints W v xs ∧ xs.length + 1 ≤ Rows.uptoBulk d := by
  obtain ⟨a0, len, cap, rfl⟩ := okWide_slice Try.underlying29 hval
  obtain ⟨fuel, hf⟩ := h
  exact ints_read (by simpa [Value.cells] using hf) hw

theorem ints_readw {H : Type} {enc : TypeId × Value → H} {W : World} {fuel : Nat} {c : Value} {d : DataW H} {p : List MemPlace}
    (hf : DataW.trod enc Try.prog W 0 (fun _ => true) true fuel 29 [c] = some (d, p)) (hw : Fits 29 d) : ∃ xs, Ints W c xs ∧ xs.length + 1 ≤ Rows.uptoBulk d ∧ ∀ z ∈ xs, (Lit.int .i64 z).wf = true := by
  rcases open_ints Try.underlying29 Try.underlying3 (by kernel_rfl) hf with ⟨hcs, hx⟩ | ⟨x, l, cap, zs, hcs, _, hl, hm, hz, hx, hcell, hwz⟩
  · simp only [List.cons.injEq, and_true] at hcs
    subst hcs
    simp only [Prod.mk.injEq] at hx
    obtain ⟨rfl, _⟩ := hx
    exact ⟨[], Ints.nil _, by simp [Rows.uptoBulk], by simp⟩
  · simp only [List.cons.injEq, and_true] at hcs
    subst hcs
    simp only [Prod.mk.injEq] at hx
    obtain ⟨rfl, _⟩ := hx
    simp only [if_true] at hz
    have hs := hw ((zs.take l).length * 8 + (zs.drop l).length * 8) (by
      simp only [DataW.weights, Try.underlying29, List.mem_cons]
      left
      rw [bytes_int]
      simp only [lits, List.length_map]
      omega)
    simp only [List.length_take, List.length_drop, reachBytes] at hs
    have hb := bulk_length (H := H) (lits .i64 (zs.take l))
    refine ⟨zs.take l, ⟨x, l, cap, rfl, by simp; omega, by omega, ⟨hl, by unfold maxLen at hm; omega, fun h => by cases h⟩, fun j hj => ?_⟩, ?_, fun z hz => hwz z (List.mem_of_mem_take hz)⟩
    · have hj' : j < l := by simp at hj; omega
      have hc := hcell j (by omega)
      obtain ⟨b, off, spot⟩ := x
      have hspot : spot = none := by simpa [Addr.add] using World.cell?_spot (hcell 0 (by omega))
      subst hspot
      rw [addr_add] at hc
      exact ⟨b, off, rfl, cell_lt hc, by rw [hc]; simp [nth, List.getD, hj']⟩
    · simp only [Rows.uptoBulk]
      simp only [lits, List.length_map] at hb
      simp only [lits] at hb ⊢
      omega

theorem ints_arg3 {H : Type} {enc : TypeId × Value → H} {W : World} {base : Nat} {v : Value} {d : DataW H} {p : List MemPlace}
    (hval : Value.okWide Try.prog W .any base 29 v) (h : DataW.Trod enc Try.prog W 0 (fun _ => true) true 29 v d p) (hw : Fits 29 d) : ∃ xs, Ints W v xs ∧ xs.length + 1 ≤ Rows.uptoBulk d ∧ ∀ z ∈ xs, (Lit.int .i64 z).wf = true := by
  obtain ⟨a0, len, cap, rfl⟩ := okWide_slice Try.underlying29 hval
  obtain ⟨fuel, hf⟩ := h
  exact ints_readw (by simpa [Value.cells] using hf) hw

theorem int_arg {H : Type} {enc : TypeId × Value → H} {W : World} {base : Nat} {v : Value} {d : DataW H} {p : List MemPlace}
    (hval : Value.okWide Try.prog W .any base 3 v) (h : DataW.Trod enc Try.prog W 0 (fun _ => true) true 3 v d p) : ∃ x, v = .int .i64 x ∧ 1 ≤ Rows.uptoBulk d := by
  obtain ⟨x, rfl, rfl, rfl, _⟩ := open_int Try.underlying3 hval h
  exact ⟨x, rfl, bulk_pos _⟩

theorem cells3 {w : World} {a : Addr} {cs : List Value} (h : w.cells? 0 a 3 = some cs) : ∃ c0 c1 c2, cs = [c0, c1, c2] ∧ w.cell? (a.add 0) = some c0 ∧ w.cell? (a.add 1) = some c1 ∧ w.cell? (a.add 2) = some c2 := by
  simp only [World.cells?, Nat.zero_le, if_true] at h
  simp only [show List.range 3 = [0, 1, 2] from rfl, List.mapM_cons, List.mapM_nil] at h
  cases h0 : w.cell? (a.add 0) with
  | none => simp [h0] at h
  | some c0 =>
    cases h1 : w.cell? (a.add 1) with
    | none => simp [h0, h1] at h
    | some c1 =>
      cases h2 : w.cell? (a.add 2) with
      | none => simp [h0, h1, h2] at h
      | some c2 =>
        simp [h0, h1, h2] at h
        exact ⟨c0, c1, c2, h.symm, rfl, rfl, rfl⟩

theorem cells_tran : Try.prog.cellsOf 44 = 3 := by kernel_rfl
theorem cells_int : Try.prog.cellsOf 3 = 1 := by kernel_rfl
theorem cells_ints : Try.prog.cellsOf 29 = 1 := by kernel_rfl
theorem cells_trans : Try.prog.cellsOf 22 = 1 := by kernel_rfl
theorem cells_net : Try.prog.cellsOf 24 = 2 := by kernel_rfl
theorem bytes_tran : Try.prog.bytesOf 44 = 56 := by kernel_rfl

theorem tran_one {H : Type} {enc : TypeId × Value → H} {W : World} {fuel : Nat} {c0 c1 c2 : Value} {d : DataW H} {p : List MemPlace}
    (hf : DataW.trod enc Try.prog W 0 (fun _ => true) true fuel 44 [c0, c1, c2] = some (d, p)) (hw : Fits 44 d) :
    ∃ t : TranL, IsTran W c0 c1 c2 t ∧ t.pre.length + t.post.length + 1 ≤ Rows.uptoBulk d := by
  obtain ⟨y0, y1, y2, n, hx, _, h0, h1, h2⟩ := trod_struct3 Try.underlying44 hf
  simp only [Prod.mk.injEq] at hx
  obtain ⟨rfl, _⟩ := hx
  simp only [cells_int, cells_ints, List.drop_zero, List.take_succ_cons, List.take_zero, List.drop_succ_cons] at h0 h1 h2
  have hw' : ∀ x, x ∈ y1.1.weights Try.prog 29 ∨ x ∈ y2.1.weights Try.prog 29 → x ≤ reachBytes := by
    intro x hx
    refine hw x ?_
    simp only [DataW.weights, Try.underlying44, DataW.weightsEach, List.map_cons, List.mem_append]
    rcases hx with hx | hx
    · exact .inr (.inl hx)
    · exact .inr (.inr (.inl hx))
  obtain ⟨l, e0, _, _⟩ := DataW.trod_int Try.underlying3 h0
  simp only [List.cons.injEq, and_true] at e0
  obtain ⟨xs, hxs, bx⟩ := ints_read h1 (fun x hx => hw' x (.inl hx))
  obtain ⟨ys, hys, bY⟩ := ints_read h2 (fun x hx => hw' x (.inr hx))
  refine ⟨⟨l, xs, ys⟩, ⟨e0, hxs, hys⟩, ?_⟩
  have := bulk_pos y0.1
  simp only [Rows.uptoBulk, Rows.uptoBulkAll]
  omega

theorem tranAt_range (len : Nat) (T : Nat → TranL) (j : Nat) (h : j < len) : tranAt ((List.range len).map T) j = T j := by
  simp [tranAt, List.getD, List.getElem?_map, List.getElem?_range h]

set_option maxRecDepth 4000 in
theorem trans_read {H : Type} {enc : TypeId × Value → H} {W : World} {fuel : Nat} {c : Value} {d : DataW H} {p : List MemPlace}
    (hf : DataW.trod enc Try.prog W 0 (fun _ => true) true fuel 22 [c] = some (d, p)) (hw : Fits 22 d) :
    ∃ ts, Trans W c ts ∧ ts.length + 1 ≤ Rows.uptoBulk d ∧ ∀ k, k < ts.length → (tranAt ts k).pre.length + (tranAt ts k).post.length + 1 ≤ Rows.uptoBulk d := by
  rcases open_slice Try.underlying22 hf with ⟨hcs, hx⟩ | ⟨a, len, cap, m, n, D, Pl, hcs, _, hl, hm, hmm, hx, hel⟩
  · simp only [List.cons.injEq, and_true] at hcs
    subst hcs
    simp only [Prod.mk.injEq] at hx
    obtain ⟨rfl, _⟩ := hx
    exact ⟨[], ⟨none, 0, 0, rfl, rfl, by omega, ⟨by omega, by omega, fun _ => rfl⟩, fun j hj => absurd hj (by simp)⟩, by simp [Rows.uptoBulk], fun k hk => absurd hk (by simp)⟩
  · simp only [List.cons.injEq, and_true] at hcs
    subst hcs
    simp only [Prod.mk.injEq] at hx
    obtain ⟨rfl, _⟩ := hx
    simp only [if_true] at hmm
    obtain rfl : cap = m := hmm.symm
    have hs := hw ((len + (cap - len)) * 56) (by
      simp only [DataW.weights, Try.underlying22, List.mem_cons]
      left
      rw [bytes_tran]
      simp)
    simp only [reachBytes] at hs
    have hone : ∀ i, i < len → ∃ t : TranL, (∃ b off c1 c2, a = ⟨b, off, none⟩ ∧ b < W.heap.size ∧ W.cell? ⟨b, off + i * 3, none⟩ = some (.int .i64 t.label) ∧ W.cell? ⟨b, off + i * 3 + 1, none⟩ = some c1 ∧ W.cell? ⟨b, off + i * 3 + 2, none⟩ = some c2 ∧ Ints W c1 t.pre ∧ Ints W c2 t.post) ∧
        t.pre.length + t.post.length + 1 ≤ Rows.uptoBulk (D i) := by
      intro i hi
      obtain ⟨cs', hc, ht⟩ := hel i (by omega)
      rw [cells_tran] at hc
      obtain ⟨c0, c1, c2, rfl, k0, k1, k2⟩ := cells3 hc
      have hmem : D i ∈ (List.range len).map D := List.mem_map.2 ⟨i, by simpa using hi, rfl⟩
      obtain ⟨t, ⟨e0, h1, h2⟩, hb⟩ := tran_one ht (fun x hx => hw x (by
        simp only [DataW.weights, Try.underlying22, List.mem_cons, List.mem_append]
        exact .inr (.inl (weights_part hmem hx))))
      obtain ⟨c0', _, _, _, z0, _, _⟩ : ∃ c0' c1' c2' : Value, ∃ _ : True, W.cell? (a.add 0) = some c0' ∧ True ∧ True := by
        obtain ⟨cs0, hc0, _⟩ := hel 0 (by omega)
        rw [cells_tran, Nat.zero_mul] at hc0
        have ha : a.add 0 = a := by simp [Addr.add]
        rw [ha] at hc0
        obtain ⟨x0, x1, x2, _, y0, _, _⟩ := cells3 hc0
        exact ⟨x0, x1, x2, trivial, y0, trivial, trivial⟩
      obtain ⟨b, off, spot⟩ := a
      have hspot : spot = none := by simpa [Addr.add] using World.cell?_spot z0
      subst hspot
      rw [addr_add, addr_add] at k0 k1 k2
      refine ⟨t, ⟨b, off, c1, c2, rfl, cell_lt k0, by rw [← e0]; simpa using k0, by simpa using k1, by simpa using k2, h1, h2⟩, hb⟩
    haveI : Inhabited TranL := ⟨noTran⟩
    obtain ⟨T, hT⟩ := choose_lt hone
    have hb1 := bulk_length (H := H) ((List.range len).map D)
    simp only [List.length_map, List.length_range] at hb1
    refine ⟨(List.range len).map T, ⟨some a, len, cap, rfl, by simp, by omega, ⟨hl, by unfold maxLen at hm; omega, fun h => by cases h⟩, fun j hj => ?_⟩, ?_, fun k hk => ?_⟩
    · have hj' : j < len := by simpa using hj
      rw [tranAt_range len T j hj']
      obtain ⟨⟨b, off, c1, c2, ha, r⟩, _⟩ := hT j hj'
      exact ⟨b, off, c1, c2, by rw [ha], r⟩
    · simp only [Rows.uptoBulk, List.length_map, List.length_range]; omega
    · have hk' : k < len := by simpa using hk
      rw [tranAt_range len T k hk']
      have h1 := (hT k hk').2
      have h2 : Rows.uptoBulk (D k) ≤ Rows.uptoBulkAll ((List.range len).map D) := bulk_part (List.mem_map.2 ⟨k, by simpa using hk', rfl⟩)
      simp only [Rows.uptoBulk]
      omega

theorem net_read {H : Type} {enc : TypeId × Value → H} {W : World} {base : Nat} {v : Value} {d : DataW H} {p : List MemPlace}
    (hval : Value.okWide Try.prog W .any base 24 v) (h : DataW.Trod enc Try.prog W 0 (fun _ => true) true 24 v d p) (hw : Fits 24 d) :
    ∃ n, Net W v n ∧ n.trans.length + 1 ≤ Rows.uptoBulk d ∧ ∀ k, k < n.trans.length → (tranAt n.trans k).pre.length + (tranAt n.trans k).post.length + 1 ≤ Rows.uptoBulk d := by
  obtain ⟨c0, c1, y0, y1, n, rfl, rfl, _, h0, h1⟩ := open_agg2 Try.underlying24 (by kernel_rfl) cells_net hval h
  obtain ⟨l, e0, _, _⟩ := DataW.trod_int Try.underlying3 h0
  simp only [List.cons.injEq, and_true] at e0
  subst e0
  obtain ⟨ts, hts, b1, b2⟩ := trans_read h1 (fun x hx => hw x (by
    simp only [DataW.weights, Try.underlying24, DataW.weightsEach, List.map_cons, List.mem_append]
    exact .inr (.inl hx)))
  refine ⟨⟨l, ts⟩, ⟨_, rfl, hts⟩, ?_, fun k hk => ?_⟩
  · simp only [Rows.uptoBulk, Rows.uptoBulkAll]; omega
  · have := b2 k hk
    simp only [Rows.uptoBulk, Rows.uptoBulkAll]; omega

end Go.Proofs.Ytgedpebnipghlaa

/- A block that came in, read. -/
namespace Go.Proofs.Ytgedpebnipghlaa
open Go.ChangeShapes Go.WideShapes Go.ChangeAt Go.RowKit Go.Joins Go.Deep
set_option linter.unusedVariables false
set_option maxRecDepth 4000

theorem cells_block : Try.prog.cellsOf 48 = 3 := by kernel_rfl
theorem cells_blocks : Try.prog.cellsOf 46 = 1 := by kernel_rfl
theorem bytes_block : Try.prog.bytesOf 48 = 40 := by kernel_rfl

theorem kids_nil0 (w : World) : KidsV w (.slice none 0 0) [] := ⟨none, 0, 0, rfl, rfl, by omega, ⟨by omega, by omega, fun _ => rfl⟩, fun j hj => absurd hj (by simp)⟩

set_option maxHeartbeats 400000 in
theorem block_fuel {H : Type} {enc : TypeId × Value → H} {W : World} (N : Nat) : ∀ {fuel : Nat} {c0 c1 c2 : Value} {d : DataW H} {p : List MemPlace}, Rows.uptoBulk d ≤ N →
    DataW.trod enc Try.prog W 0 (fun _ => true) true fuel 48 [c0, c1, c2] = some (d, p) → Fits 48 d → ∃ b : BlockL, BlockV W (.agg #[c0, c1, c2]) b := by
  induction N with
  | zero => intro fuel c0 c1 c2 d p hN hf hw; have := bulk_pos d; omega
  | succ N ih =>
    intro fuel c0 c1 c2 d p hN hf hw
    obtain ⟨y0, y1, y2, n, hx, _, h0, h1, h2⟩ := trod_struct3 Try.underlying48 hf
    simp only [Prod.mk.injEq] at hx
    obtain ⟨rfl, _⟩ := hx
    simp only [cells_int, cells_blocks, List.drop_zero, List.take_succ_cons, List.take_zero, List.drop_succ_cons] at h0 h1 h2
    obtain ⟨k, e0, _, _⟩ := DataW.trod_int Try.underlying3 h0
    obtain ⟨l, e1, _, _⟩ := DataW.trod_int Try.underlying3 h1
    simp only [List.cons.injEq, and_true] at e0 e1
    subst e0 e1
    have hw2 : Fits 46 y2.1 := fun x hx => hw x (by
      simp only [DataW.weights, Try.underlying48, DataW.weightsEach, List.map_cons, List.mem_append]
      exact .inr (.inr (.inl hx)))
    have hb2 : Rows.uptoBulk y2.1 ≤ N := by
      have := bulk_pos y0.1
      simp only [Rows.uptoBulk, Rows.uptoBulkAll] at hN
      omega
    obtain ⟨d2, p2⟩ := y2
    simp only at hw2 hb2
    have hkids : ∃ ls : List BlockL, KidsV W c2 ls := by
      rcases open_slice Try.underlying46 h2 with ⟨hcs, hx⟩ | ⟨a, len, cap, m, n', D, Pl, hcs, _, hl, hm, hmm, hx, hel⟩
      · simp only [List.cons.injEq, and_true] at hcs
        subst hcs
        exact ⟨[], kids_nil0 W⟩
      · simp only [List.cons.injEq, and_true] at hcs
        subst hcs
        simp only [Prod.mk.injEq] at hx
        obtain ⟨rfl, _⟩ := hx
        simp only [if_true] at hmm
        obtain rfl : cap = m := hmm.symm
        have hs := hw2 ((len + (cap - len)) * 40) (by
          simp only [DataW.weights, Try.underlying46, List.mem_cons]
          left
          rw [bytes_block]
          simp)
        simp only [reachBytes] at hs
        have hone : ∀ i, i < len → ∃ t : BlockL, ∃ bk off x y z, a = ⟨bk, off, none⟩ ∧ bk < W.heap.size ∧ W.cell? ⟨bk, off + i * 3, none⟩ = some x ∧ W.cell? ⟨bk, off + i * 3 + 1, none⟩ = some y ∧ W.cell? ⟨bk, off + i * 3 + 2, none⟩ = some z ∧ BlockV W (.agg #[x, y, z]) t := by
          intro i hi
          obtain ⟨cs', hc, ht⟩ := hel i (by omega)
          rw [cells_block] at hc
          obtain ⟨x0, x1, x2, rfl, k0, k1, k2⟩ := cells3 hc
          have hmem : D i ∈ (List.range len).map D := List.mem_map.2 ⟨i, by simpa using hi, rfl⟩
          have hbi : Rows.uptoBulk (D i) ≤ N := by
            have := bulk_part hmem
            simp only [Rows.uptoBulk] at hb2
            omega
          obtain ⟨t, hb⟩ := ih hbi ht (fun x hx => hw2 x (by
            simp only [DataW.weights, Try.underlying46, List.mem_cons, List.mem_append]
            exact .inr (.inl (weights_part hmem hx))))
          obtain ⟨z0, hz0⟩ : ∃ z, W.cell? (a.add 0) = some z := by
            obtain ⟨cs0, hc0, _⟩ := hel 0 (by omega)
            rw [cells_block, Nat.zero_mul] at hc0
            have ha : a.add 0 = a := by simp [Addr.add]
            rw [ha] at hc0
            obtain ⟨q0, q1, q2, _, r0, _, _⟩ := cells3 hc0
            exact ⟨q0, r0⟩
          obtain ⟨bk, off, spot⟩ := a
          have hspot : spot = none := by simpa [Addr.add] using World.cell?_spot hz0
          subst hspot
          rw [addr_add, addr_add] at k0 k1 k2
          exact ⟨t, bk, off, x0, x1, x2, rfl, cell_lt k0, by simpa using k0, by simpa using k1, by simpa using k2, hb⟩
        haveI : Inhabited BlockL := ⟨⟨0, 0, []⟩⟩
        obtain ⟨T, hT⟩ := choose_lt hone
        refine ⟨(List.range len).map T, some a, len, cap, rfl, by simp, by omega, ⟨hl, by unfold maxLen at hm; omega, fun h => by cases h⟩, fun j hj => ?_⟩
        have hj' : j < len := by simpa using hj
        obtain ⟨bk, off, x, y, z, ha, r1, r2, r3, r4, r5⟩ := hT j hj'
        refine ⟨bk, off, x, y, z, by rw [ha], r1, r2, r3, r4, ?_⟩
        simpa using r5
    obtain ⟨ls, hls⟩ := hkids
    exact ⟨⟨k, l, ls⟩, blockV_iff.2 ⟨_, rfl, hls⟩⟩

theorem block_read {H : Type} {enc : TypeId × Value → H} {W : World} {base : Nat} {v : Value} {d : DataW H} {p : List MemPlace}
    (hval : Value.okWide Try.prog W .any base 48 v) (h : DataW.Trod enc Try.prog W 0 (fun _ => true) true 48 v d p) (hw : Fits 48 d) : ∃ b, BlockV W v b ∧ 1 ≤ Rows.uptoBulk d := by
  obtain ⟨cs, rfl, hsz⟩ := okWide_struct Try.underlying48 hval
  obtain ⟨c0, c1, c2, rfl⟩ : ∃ c0 c1 c2, cs = #[c0, c1, c2] := by
    rw [cells_block] at hsz
    obtain ⟨l⟩ := cs
    match l, hsz with
    | [c0, c1, c2], _ => exact ⟨c0, c1, c2, rfl⟩
  obtain ⟨fuel, hf⟩ := h
  obtain ⟨b, hb⟩ := block_fuel (Rows.uptoBulk d) (Nat.le_refl _) hf hw
  exact ⟨b, hb, bulk_pos d⟩

end Go.Proofs.Ytgedpebnipghlaa
