import Derived.Deep.RegionHeld3
import Derived.Test.YtakgppoeikcepaaGr05
import Derived.Test.YtakgppoeikcepaaGr11
import Derived.Test.YtakgppoeikcepaaGr10
/- The answers of the document itself for shape: closing a net. -/
namespace Go.Proofs.Ytakgppoeikcepaa
open Go.RowKit
set_option linter.unusedVariables false
set_option maxRecDepth 4000

/-- What a transition's cells are told of. -/
def TvOf (w : World) (ts : List TranL) (tv : List (Int × Value × Value)) : Prop :=
  ∀ j (hj : j < tv.length), tv[j].1 = (tranAt ts j).label ∧ Ints w tv[j].2.1 (tranAt ts j).pre ∧ Ints w tv[j].2.2 (tranAt ts j).post

theorem trans_cells {w : World} {b off len cap : Nat} {ts : List TranL} (h : Trans w (.slice (some ⟨b, off, none⟩) len cap) ts) (k : Nat) (hk : k ≤ len) :
    ∃ tv : List (Int × Value × Value), tv.length = k ∧ (∀ j u, (tvCells tv)[j]? = some u → w.cell? ⟨b, off + j, none⟩ = some u) ∧ TvOf w ts tv := by
  induction k with
  | zero => exact ⟨[], rfl, fun j u hj => by simp [tvCells] at hj, fun j hj => absurd hj (by simp)⟩
  | succ k ih =>
    obtain ⟨tv, hl, hc, ho⟩ := ih (by omega)
    obtain ⟨b', off', c1, c2, e, hlt, h0, h1, h2, i1, i2⟩ := h.at (show k < len by omega)
    injection e with e
    injection e with e1 e2
    subst e1 e2
    refine ⟨tv ++ [((tranAt ts k).label, c1, c2)], by simp [hl], fun j u hj => ?_, fun j hj => ?_⟩
    · rw [tvCells_append, List.getElem?_append, tvCells_length, hl] at hj
      by_cases q : j < k * 3
      · rw [if_pos q] at hj
        exact hc j u hj
      · rw [if_neg q] at hj
        have hj3 : j - k * 3 < 3 := by
          rcases Nat.lt_or_ge (j - k * 3) 3 with q | q
          · exact q
          · rw [List.getElem?_eq_none (by simpa [tvCells] using q)] at hj; cases hj
        obtain ⟨d, rfl⟩ : ∃ d, j = k * 3 + d := ⟨j - k * 3, by omega⟩
        rw [show k * 3 + d - k * 3 = d by omega] at hj hj3
        match d, hj3, hj with
        | 0, _, hj => simp [tvCells] at hj; subst hj; simpa using h0
        | 1, _, hj => simp [tvCells] at hj; subst hj; simpa [Nat.add_assoc] using h1
        | 2, _, hj => simp [tvCells] at hj; subst hj; simpa [Nat.add_assoc] using h2
    · by_cases q : j < tv.length
      · rw [List.getElem_append_left q]; exact ho j q
      · have e : j = tv.length := by simp at hj; omega
        subst e
        rw [List.getElem_append_right (Nat.le_refl _)]
        simp only [Nat.sub_self, List.getElem_cons_zero]
        rw [hl]
        exact ⟨rfl, i1, i2⟩

theorem ints_one {w : World} {v : Value} {xs : List Int} (h : Ints w v xs) : v.oneCell' = true := by
  obtain ⟨a, len, cap, rfl, _⟩ := h
  rfl

theorem tv_one {w : World} {ts : List TranL} {tv : List (Int × Value × Value)} (h : TvOf w ts tv) : ∀ u ∈ tvCells tv, u.oneCell' = true := by
  intro u hu
  unfold tvCells at hu
  obtain ⟨x, hx, hu⟩ := List.mem_flatMap.1 hu
  obtain ⟨j, hj, rfl⟩ := List.getElem_of_mem hx
  obtain ⟨_, h1, h2⟩ := h j hj
  simp only [List.mem_cons, List.not_mem_nil, or_false] at hu
  rcases hu with rfl | rfl | rfl
  · rfl
  · exact ints_one h1
  · exact ints_one h2

/-- append of some transitions onto a row that the call itself has made, in a region that draws its order. -/
theorem wpr_append_tvs {o : Oper} {a : Act} {K : Act → World → Prop} {Q : Exit → Act → World → Prop} {Y : Nat → Option Bool} (hwt : Region.wanted o Y = true) (s x : Operand)
    (ho : o.op = .call { callee := .builtin .append, args := #[s, x], argTypes := #[22, 22] }) (B : Nat) (wr : World) (v : Value) (tv us : List (Int × Value × Value)) (b off m c : Nat)
    (hown : wr.ownsRow B 37 3 v tv.length (tvCells tv)) (hs : a.eval s = v) (hx : a.eval x = .slice (some ⟨b, off, none⟩) m c) (hm : us.length = m) (hc : ∀ j u, (tvCells us)[j]? = some u → wr.cell? ⟨b, off + j, none⟩ = some u)
    (h1 : ∀ u ∈ tvCells us, u.oneCell' = true) (hl : tv.length + m ≤ 2513169434916) (hB : B ≤ wr.heap.size)
    (h : ∀ v' w', w'.ownsRow B 37 3 v' (tv ++ us).length (tvCells (tv ++ us)) → wr.grownBy w' v.ownBlock → K (a.put o.dst v') w') :
    if Region.wanted o Y = true then Oper.wp Try.prog o a wr K Q else K (a.put o.dst undef) wr := by
  obtain ⟨i0, hi, hz0, hz1, hz2⟩ := info_parts info_tran
  refine wp_append_at _ hwt s x 22 ho B 37 i0 _ 3 56 Try.underlying22 hi hz0 hz1 hz2 rfl (by decide) v tv.length _ hs hown ⟨b, off, none⟩ m c (tvCells us) hx (by rw [tvCells_length, hm]) ?_ h1 ?_ ?_ hB ?_
  · intro j u hj
    rw [addr_add]
    exact hc j u hj
  · unfold maxLen; omega
  · omega
  · intro v' w' h2 h3 _
    refine h v' w' ?_ h3
    rw [tvCells_append, List.length_append, hm]
    exact h2

/-- A row of numbers is not a row of transitions. -/
theorem rows_apart {w w' : World} {B C : Nat} {r v : Value} {n m : Nat} {xs ys : List Value} (h : w.ownsRow B 3 1 r n xs) (k : w.ownsRow C 37 3 v m ys) (hg : w.grownBy w' v.ownBlock) : w'.ownsRow B 3 1 r n xs := by
  refine h.kept hg ?_
  rcases h.2 with ⟨rfl, _⟩ | ⟨g, cap, cur, rfl, _, hgb, _⟩
  · exact .inl rfl
  · refine .inr fun e => ?_
    rcases k.2 with ⟨rfl, _⟩ | ⟨g2, cap2, cur2, rfl, _, hgb2, _⟩
    · simp [Value.ownBlock] at e
    · obtain rfl : g = g2 := by simpa [Value.ownBlock] using e
      rw [hgb] at hgb2
      simp at hgb2

theorem rowT_none (w : World) (B : Nat) (hB : B ≤ w.heap.size) : (w.alloc (.cells #[] 37)).ownsRow B 37 3 (.slice (some ⟨w.heap.size, 0, none⟩) 0 0) (([] : List (Int × Value × Value))).length (tvCells []) := by
  refine ⟨by simp [tvCells], .inr ⟨w.heap.size, 0, #[], rfl, hB, ?_, Nat.le_refl _, by unfold maxLen; omega, rfl, rfl⟩⟩
  show (w.heap.push _)[w.heap.size]? = _
  simp

end Go.Proofs.Ytakgppoeikcepaa

/- The answers of the document itself for shape: closing a net, walked. -/
namespace Go.Proofs.Ytakgppoeikcepaa
open Go.RowKit
set_option linter.unusedVariables false
set_option maxRecDepth 4000

theorem shape_some {n : NetL} {i o : Int} (h : ShapeOk n i o) : 0 < n.trans.length := by
  rcases Nat.eq_zero_or_pos n.trans.length with q | q
  · exfalso
    have hw := h.p1 o.toNat (by have := h.o0; have := h.o1; omega)
    have : o.toNat = i.toNat := hw (fun p => p = i.toNat) rfl (fun k a b hk => by omega)
    have := h.ne
    have := h.i0
    have := h.o0
    omega
  · exact q

theorem results_net {fn : Func} {p u : Tmp} {tmps : Array Value} {w : World} {b : Nat} {x y v : Value} (h : fn.results = #[.cell p 24, .tmp u]) (hp : tmps.getD p undef = .pointer (some ⟨b, 0, none⟩)) (hu : tmps.getD u undef = v) (h1 : w.cell? ⟨b, 0, none⟩ = some x) (h2 : w.cell? ⟨b, 1, none⟩ = some y) :
    (results fn tmps).run Try.prog w = .ok (.tuple #[.agg #[x, y], v]) w := by
  rw [results_cell_tmp h, hp, hu]
  simp [asAddr, go_sem, h1, h2]

theorem closed_bad {n : NetL} {i o d : Int} (hd : Judged n i o d) (h0 : d ≠ 0) : Closed n i o ⟨0, []⟩ d := ⟨fun hs => absurd hs (hd.not_zero h0), fun hs => absurd hs (hd.not_zero h0), fun _ => ⟨hd, rfl⟩⟩
theorem closed_full {n : NetL} {i o : Int} (hs : ShapeOk n i o) (hl : ¬ n.trans.length < 24) : Closed n i o ⟨0, []⟩ 4 := ⟨fun _ q => absurd q hl, fun _ _ => ⟨rfl, rfl⟩, fun q => absurd hs q⟩
theorem closed_right {n : NetL} {i o : Int} (hs : ShapeOk n i o) (hl : n.trans.length < 24) : Closed n i o (closeL n i o) 0 := ⟨fun _ _ => ⟨rfl, rfl⟩, fun _ q => absurd hl q, fun q => absurd hs q⟩

theorem net_none (w : World) : Net w (.agg #[.int .i64 0, .slice none 0 0]) ⟨0, []⟩ := ⟨_, rfl, none, 0, 0, rfl, rfl, by omega, ⟨by omega, by omega, fun _ => rfl⟩, fun j hj => absurd hj (by simp)⟩

/-- A row of numbers that a callee made stands, whatever is appended to a row of transitions, and whatever older cells are written. -/
theorem row_stays {wB wC wD : World} {BO B g : Nat} {r v : Value} {xs : List Int} {m : Nat} {cs : List Value} {ob : Obj} {u u2 : Value} {o o2 : Nat} (h : wC.ownsRow BO 3 1 r xs.length (xs.map (Value.int .i64))) (hBO : BO ≤ wC.heap.size) (k : wC.ownsRow B 37 3 v m cs) (hg : (wC.alloc ob).grownBy wD v.ownBlock) (hlt : g < BO) (hx : xs.length ≤ 17592186044416) :
    Ints ((wD.setCell ⟨g, o, none⟩ u).setCell ⟨g, o2, none⟩ u2) r xs := by
  have h1 := rows_apart (h.alloc ob) (k.alloc ob) hg
  have h2 := ownsRow_setCell_below (ownsRow_setCell_below h1 (a := ⟨g, o, none⟩) hlt u) (a := ⟨g, o2, none⟩) hlt u2
  have hs : BO ≤ ((wD.setCell ⟨g, o, none⟩ u).setCell ⟨g, o2, none⟩ u2).heap.size := by
    have := hg.size
    simp [World.setCell] at this ⊢
    omega
  exact Own.ints (B := BO) (w := (wD.setCell ⟨g, o, none⟩ u).setCell ⟨g, o2, none⟩ u2) ⟨h2, Below.refl _ _, hs⟩ hx

theorem start_short (P i : Int) : (startL P i).length ≤ 16 := by rw [start_length]; omega

/-- Read as the net that was closed. -/
theorem close_read {w Wf : World} {B T : Nat} {n : NetL} {i o : Int} {tvs : List (Int × Value × Value)} {vD sO sI : Value} (htl : tvs.length = T) (hTl : n.trans.length = T) (hT24 : T < 24) (hto : TvOf w n.trans tvs) (c : Below w.heap.size w Wf)
    (hown : Wf.ownsRow B 37 3 vD (tvs.length + 1) (tvCells tvs ++ [.int .i64 0, sO, sI])) (h1 : Ints Wf sO (startL n.places o)) (h2 : Ints Wf sI (startL n.places i)) : Trans Wf vD (closeL n i o).trans := by
  have e : tvCells tvs ++ [.int .i64 0, sO, sI] = tvCells (tvs ++ [(0, sO, sI)]) := by rw [tvCells_append]; rfl
  have el : tvs.length + 1 = (tvs ++ [((0 : Int), sO, sI)]).length := by simp
  rw [e, el] at hown
  refine tran_read (ts := (closeL n i o).trans) hown (by simp; omega) (by rw [close_count]; simp; omega) fun j hj => ?_
  by_cases q : j < tvs.length
  · rw [List.getElem_append_left q, close_at n i o (by omega)]
    obtain ⟨e1, e2, e3⟩ := hto j q
    exact ⟨e1, e2.below c, e3.below c⟩
  · have ej : j = tvs.length := by simp at hj; omega
    subst ej
    rw [List.getElem_append_right (Nat.le_refl _)]
    simp only [Nat.sub_self, List.getElem_cons_zero]
    rw [show tvs.length = n.trans.length by omega, close_last]
    exact ⟨rfl, h1, h2⟩

end Go.Proofs.Ytakgppoeikcepaa
