/- Package grow as it landed: what is growing, where it lies, and what it hangs on. -/
import Derived.Test.YteoofibhpifmlaaDoorGrowBase
import Derived.Test.YteoofibhpifmlaaDoorKnotAt
import Derived.Test.YteoofibhpifmlaaDoorSearchAt
import Derived.Test.YteoofibhpifmlaaDoorReach1
namespace Go.Proofs.YteoofibhpifmlaaDoor
open Go.RowKit
set_option linter.unusedVariables false
set_option maxRecDepth 4000

def noLink : LinkL := ⟨0, [], []⟩
def linkAt (l : List LinkL) (j : Nat) : LinkL := l.getD j noLink
theorem linkAt_append {l r : List LinkL} {k : Nat} (h : k < l.length) : linkAt (l ++ r) k = linkAt l k := by
  rw [linkAt, linkAt, List.getD_eq_getElem?_getD, List.getD_eq_getElem?_getD, List.getElem?_append_left h]
theorem linkAt_last (l : List LinkL) (x : LinkL) : linkAt (l ++ [x]) l.length = x := by
  rw [linkAt, List.getD_eq_getElem?_getD, List.getElem?_append_right (Nat.le_refl _)]; simp
theorem linkAt_get {l : List LinkL} {k : Nat} (h : k < l.length) : linkAt l k = l[k] := by
  rw [linkAt, List.getD_eq_getElem?_getD, List.getElem?_eq_getElem h]; rfl
/-- Places as numbers. -/
def intsN (l : List Nat) : List Int := l.map fun n : Nat => (n : Int)
theorem intsN_length (l : List Nat) : (intsN l).length = l.length := by simp [intsN]

def linkCells (l : List LinkL) (us vs : List Value) : List Value := triTo (fun j => .int .i64 (linkAt l j).label) (valAt us) (valAt vs) l.length
theorem linkCells_append (l : List LinkL) (us vs : List Value) (x : LinkL) (u v : Value) (hu : us.length = l.length) (hv : vs.length = l.length) : linkCells (l ++ [x]) (us ++ [u]) (vs ++ [v]) = linkCells l us vs ++ [.int .i64 x.label, u, v] := by
  unfold linkCells
  rw [List.length_append]
  show triTo _ _ _ (l.length + 1) = _
  rw [triTo, linkAt_last]
  rw [triTo_congr (f' := fun j => .int .i64 (linkAt l j).label) (g' := valAt us) (h' := valAt vs) (fun j hj => by rw [linkAt_append hj, valAt_append (by omega), valAt_append (by omega)]; exact ⟨rfl, rfl, rfl⟩)]
  have e1 : valAt (us ++ [u]) l.length = u := by rw [← hu]; exact valAt_last _ _
  have e2 : valAt (vs ++ [v]) l.length = v := by rw [← hv]; exact valAt_last _ _
  rw [e1, e2]

/-- The blocks that growing writes. -/
def mineG (x : Nat) (lv : Value) (k : Nat) : Prop := k = x ∨ lv.ownBlock = some k

/-- A net that grows: its struct lies at block x, its links in a row of its own; what the links say hangs on none of these. -/
structure GrowAt (B x : Nat) (W wr : World) (g : GrowL) (lv : Value) (us vs : List Value) : Prop where
  row : wr.ownsRow B 123 3 lv g.links.length (linkCells g.links us vs)
  cells : wr.heap[x]? = some (.cells #[.int .i64 (g.places : Int), lv] 94 (0, 0))
  below : Below B W wr
  hx : B ≤ x
  ap : lv.ownBlock ≠ some x
  lenU : us.length = g.links.length
  lenV : vs.length = g.links.length
  els : ∀ j, j < g.links.length → On (fun k => ¬ mineG x lv k) wr (fun w' => Ints w' (valAt us j) (intsN (linkAt g.links j).src)) ∧ On (fun k => ¬ mineG x lv k) wr (fun w' => Ints w' (valAt vs j) (intsN (linkAt g.links j).dst))

section
variable {B x : Nat} {W wr : World} {g : GrowL} {lv : Value} {us vs : List Value}

theorem GrowAt.lt (h : GrowAt B x W wr g lv us vs) : x < wr.heap.size := (Array.getElem?_eq_some_iff.1 h.cells).1
theorem GrowAt.base (h : GrowAt B x W wr g lv us vs) : B ≤ wr.heap.size := Nat.le_trans h.hx (Nat.le_of_lt h.lt)
theorem GrowAt.to {w' : World} (h : GrowAt B x W wr g lv us vs) (hb : Below wr.heap.size wr w') : GrowAt B x W w' g lv us vs :=
  { h with
    row := ((ownsRow_on h.row).below hb).now
    cells := by rw [hb.block x h.lt]; exact h.cells
    below := h.below.trans (hb.mono h.base)
    els := fun j hj => ⟨(h.els j hj).1.below hb, (h.els j hj).2.below hb⟩ }
theorem GrowAt.at (h : GrowAt B x W wr g lv us vs) : wr.cell? ⟨x, 0, none⟩ = some (.int .i64 (g.places : Int)) ∧ wr.cell? ⟨x, 1, none⟩ = some lv ∧ wr.frozen? ⟨x, 0, none⟩ = false ∧ wr.frozen? ⟨x, 1, none⟩ = false := by
  refine ⟨?_, ?_, ?_, ?_⟩ <;> simp [World.cell?, World.frozen?, h.cells]
theorem GrowAt.slice (h : GrowAt B x W wr g lv us vs) : ∃ a c, lv = .slice a g.links.length c := by
  rcases h.row.2 with ⟨e, h0⟩ | ⟨g', cap', cur, e, _⟩
  · exact ⟨none, 0, by rw [e, h0]⟩
  · exact ⟨_, _, e⟩
theorem GrowAt.notMine (h : GrowAt B x W wr g lv us vs) {b : Nat} (hb : wr.heap.size ≤ b) : ¬ mineG x lv b := by
  rintro (e | e)
  · have := h.lt; omega
  · have := (ownsRow_lt h.row e).2; omega
theorem GrowAt.notOld (h : GrowAt B x W wr g lv us vs) {b : Nat} (hb : b < B) : ¬ mineG x lv b := by
  rintro (e | e)
  · have := h.hx; omega
  · have := (ownsRow_lt h.row e).1; omega

theorem GrowAt.after {wC : World} (h : GrowAt B x W wr g lv us vs) (hg : wr.grownBy wC lv.ownBlock) : wC.cell? ⟨x, 1, none⟩ = some lv ∧ wC.frozen? ⟨x, 1, none⟩ = false := by
  have q := hg.block x h.lt (fun e => h.ap e.symm)
  rw [h.cells] at q
  constructor <;> simp [World.cell?, World.frozen?, q]

/-- One more place. -/
theorem GrowAt.place (h : GrowAt B x W wr g lv us vs) (n : Nat) : GrowAt B x W (wr.setCell ⟨x, 0, none⟩ (.int .i64 (n : Int))) ⟨n, g.links⟩ lv us vs ∧ Keeps wr (mineG x lv) (wr.setCell ⟨x, 0, none⟩ (.int .i64 (n : Int))) (mineG x lv) := by
  have hK : Keeps wr (mineG x lv) (wr.setCell ⟨x, 0, none⟩ (.int .i64 (n : Int))) (mineG x lv) := ⟨by simp [World.setCell], fun k _ hk => ⟨Below.heap_setCell wr ⟨x, 0, none⟩ _ k (fun e => hk (.inl e)), hk⟩⟩
  refine ⟨⟨((ownsRow_on h.row).set (a := ⟨x, 0, none⟩) (fun e => h.ap e.1) _).now, ?_, h.below.setCell (p := ⟨x, 0, none⟩) h.hx _, h.hx, h.ap, h.lenU, h.lenV, fun j hj => ⟨hK.on (h.els j hj).1, hK.on (h.els j hj).2⟩⟩, hK⟩
  rw [setCell_blockK h.cells]; rfl

/-- One more link. -/
theorem GrowAt.link {wC : World} {lv' u v : Value} (h : GrowAt B x W wr g lv us vs) (l : LinkL) (hu : On (fun k => ¬ mineG x lv k) wr (fun w' => Ints w' u (intsN l.src))) (hv : On (fun k => ¬ mineG x lv k) wr (fun w' => Ints w' v (intsN l.dst)))
    (hown : wC.ownsRow B 123 3 lv' (g.links.length + 1) (linkCells g.links us vs ++ [.int .i64 l.label, u, v])) (hg : wr.grownBy wC lv.ownBlock) (hat : lv'.ownBlock = lv.ownBlock ∨ lv'.ownBlock = some wr.heap.size) :
    GrowAt B x W (wC.setCell ⟨x, 1, none⟩ lv') ⟨g.places, g.links ++ [l]⟩ lv' (us ++ [u]) (vs ++ [v]) ∧ Keeps wr (mineG x lv) (wC.setCell ⟨x, 1, none⟩ lv') (mineG x lv') := by
  obtain ⟨hc, hsz, hk⟩ := grow_at (i := 1) (v' := lv') h.lt hg h.ap h.cells
  have ap' : ∀ k, k < wr.heap.size → lv.ownBlock ≠ some k → lv'.ownBlock ≠ some k := by
    intro k hlt hne
    rcases hat with e | e <;> rw [e]
    · exact hne
    · simp; omega
  have apx := ap' x h.lt h.ap
  have hK : Keeps wr (mineG x lv) (wC.setCell ⟨x, 1, none⟩ lv') (mineG x lv') := by
    refine ⟨hsz, fun k hlt hn => ⟨hk k hlt (fun e => hn (.inl e)) (fun e => hn (.inr e)), ?_⟩⟩
    rintro (e | e)
    · exact hn (.inl e)
    · exact ap' k hlt (fun e => hn (.inr e)) e
  refine ⟨⟨?_, by simpa using hc, ?_, h.hx, apx, by simp [h.lenU], by simp [h.lenV], fun j hj => ?_⟩, hK⟩
  · rw [linkCells_append _ _ _ _ _ _ h.lenU h.lenV]
    have := (ownsRow_on hown).set (a := ⟨x, 1, none⟩) (fun e => apx e.1) lv'
    simpa using this.now
  · exact (h.below.grown hg h.base (fun k hk => (ownsRow_lt h.row hk).1)).setCell (p := ⟨x, 1, none⟩) h.hx _
  · simp only [List.length_append, List.length_singleton] at hj
    by_cases hl : j < g.links.length
    · rw [linkAt_append hl, valAt_append (by rw [h.lenU]; exact hl), valAt_append (by rw [h.lenV]; exact hl)]
      exact ⟨hK.on (h.els j hl).1, hK.on (h.els j hl).2⟩
    · have e : j = g.links.length := by omega
      subst e
      rw [linkAt_last]
      have e1 : valAt (us ++ [u]) g.links.length = u := by rw [← h.lenU]; exact valAt_last _ _
      have e2 : valAt (vs ++ [v]) g.links.length = v := by rw [← h.lenV]; exact valAt_last _ _
      rw [e1, e2]
      exact ⟨hK.on hu, hK.on hv⟩
end

/-- What is panicked with where there is no room. -/
abbrev fullP : List PanicEntry := [{ v := .iface 90 (.agg #[]), recovered := false }]

/-- What a method that grows leaves. -/
def Grew (B x : Nat) (W w : World) (lv : Value) (g' : GrowL) (r : Value) (e : Ending) (w' : World) : Prop :=
  (FitG g' ∧ e = .returned r ∧ ∃ lv' us' vs', GrowAt B x W w' g' lv' us' vs' ∧ Keeps w (mineG x lv) w' (mineG x lv')) ∨ (¬ FitG g' ∧ e = .panicked fullP ∧ Below B W w')

/-! It only grows. -/
def LeG (g h : GrowL) : Prop := g.places ≤ h.places ∧ g.links.length ≤ h.links.length
theorem LeG.refl (g : GrowL) : LeG g g := ⟨Nat.le_refl _, Nat.le_refl _⟩
theorem LeG.trans {a b c : GrowL} (h : LeG a b) (k : LeG b c) : LeG a c := ⟨Nat.le_trans h.1 k.1, Nat.le_trans h.2 k.2⟩
theorem LeG.not {g h : GrowL} (k : LeG g h) (n : ¬ FitG g) : ¬ FitG h := fun q => n ⟨Nat.le_trans k.1 q.1, Nat.le_trans k.2 q.2⟩
theorem LeG.fit {g h : GrowL} (k : LeG g h) (n : FitG h) : FitG g := ⟨Nat.le_trans k.1 n.1, Nat.le_trans k.2 n.2⟩
theorem putG_le (g : GrowL) (l : Int) (a b : List Nat) : LeG g (putG g l a b) := ⟨Nat.le_refl _, by simp [putG]⟩
theorem moreG_le (g : GrowL) (n : Nat) : LeG g ⟨g.places + n, g.links⟩ := ⟨by simp, Nat.le_refl _⟩
def UpG (K : GrowT) : Prop := ∀ b p q g, LeG g (K b p q g)
theorem growSeq_le {K : GrowT} (hK : UpG K) : ∀ (l : List BlockL) (p q : Nat) (g : GrowL), LeG g (growSeq K l p q g)
  | [], _, _, g => LeG.refl g
  | [k], p, q, g => hK k p q g
  | k :: k2 :: ks, p, q, g => ((moreG_le g 1).trans (hK k p g.places _)).trans (growSeq_le hK (k2 :: ks) _ _ _)
theorem growAlt_le {K : GrowT} (hK : UpG K) : ∀ (l : List BlockL) (p q : Nat) (g : GrowL), LeG g (growAlt K l p q g)
  | [], _, _, g => LeG.refl g
  | k :: ks, p, q, g => (hK k p q g).trans (growAlt_le hK ks _ _ _)
theorem growBoth_le {K : GrowT} (hK : UpG K) : ∀ (l : List BlockL) (x : Nat) (g : GrowL), LeG g (growBoth K l x g)
  | [], _, g => LeG.refl g
  | k :: ks, x, g => (hK k _ _ g).trans (growBoth_le hK ks _ _)
theorem growF_le {K : GrowT} (hK : UpG K) : UpG (growF K) := by
  intro b p q g
  unfold growF
  split
  · exact putG_le _ _ _ _
  · split
    · exact putG_le _ _ _ _
    · split
      · exact growSeq_le hK _ _ _ _
      · split
        · exact growAlt_le hK _ _ _ _
        · split
          · exact (((moreG_le g _).trans (putG_le _ _ _ _)).trans (growBoth_le hK _ _ _)).trans (putG_le _ _ _ _)
          · exact ((((moreG_le g _).trans (putG_le _ _ _ _)).trans (hK _ _ _ _)).trans (hK _ _ _ _)).trans (putG_le _ _ _ _)
theorem growK_le : ∀ f, UpG (growK f)
  | 0 => fun b p q g => LeG.refl g
  | f + 1 => growF_le (growK_le f)

end Go.Proofs.YteoofibhpifmlaaDoor
