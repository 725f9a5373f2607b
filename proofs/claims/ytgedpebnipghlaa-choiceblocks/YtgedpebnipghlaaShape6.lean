/- The answers of the document itself for shape: closing a net, walked. -/
import Derived.Test.YtgedpebnipghlaaGr12
namespace Go.Proofs.Ytgedpebnipghlaa
open Go.RowKit
set_option linter.unusedVariables false
set_option maxRecDepth 4000

theorem shape_some {n : NetL} {i o : Int} (h : ShapeOk n i o) : 0 < n.trans.length := by
  rcases Nat.eq_zero_or_pos n.trans.length with q | q
  · exfalso
    have hw := h.p1 o.toNat (by have := h.o0; have := h.o1; omega)
    have : o.toNat = i.toNat := hw (fun p => p = i.toNat) rfl (fun k a b hk => by omega)
    have := h.ne
    have := h.i0
    have := h.o0
    omega
  · exact q

theorem results_net {fn : Func} {p u : Tmp} {tmps : Array Value} {w : World} {b : Nat} {x y v : Value} (h : fn.results = #[.cell p 24, .tmp u]) (hp : tmps.getD p undef = .pointer (some ⟨b, 0, none⟩)) (hu : tmps.getD u undef = v) (h1 : w.cell? ⟨b, 0, none⟩ = some x) (h2 : w.cell? ⟨b, 1, none⟩ = some y) :
    (results fn tmps).run Try.prog w = .ok (.tuple #[.agg #[x, y], v]) w := by
  rw [results_cell_tmp h, hp, hu]
  simp [asAddr, go_sem, h1, h2]

theorem closed_bad {n : NetL} {i o d : Int} (hd : Judged n i o d) (h0 : d ≠ 0) : Closed n i o ⟨0, []⟩ d := ⟨fun hs => absurd hs (hd.not_zero h0), fun hs => absurd hs (hd.not_zero h0), fun _ => ⟨hd, rfl⟩⟩
theorem closed_full {n : NetL} {i o : Int} (hs : ShapeOk n i o) (hl : ¬ n.trans.length < 24) : Closed n i o ⟨0, []⟩ 4 := ⟨fun _ q => absurd q hl, fun _ _ => ⟨rfl, rfl⟩, fun q => absurd hs q⟩
theorem closed_right {n : NetL} {i o : Int} (hs : ShapeOk n i o) (hl : n.trans.length < 24) : Closed n i o (closeL n i o) 0 := ⟨fun _ _ => ⟨rfl, rfl⟩, fun _ q => absurd hl q, fun q => absurd hs q⟩

theorem net_none (w : World) : Net w (.agg #[.int .i64 0, .slice none 0 0]) ⟨0, []⟩ := ⟨_, rfl, none, 0, 0, rfl, rfl, by omega, ⟨by omega, by omega, fun _ => rfl⟩, fun j hj => absurd hj (by simp)⟩

/-- A row of numbers that a callee made stands, whatever is appended to a row of transitions, and whatever older cells are written. -/
theorem row_stays {wB wC wD : World} {BO B g : Nat} {r v : Value} {xs : List Int} {m : Nat} {cs : List Value} {ob : Obj} {u u2 : Value} {o o2 : Nat} (h : wC.ownsRow BO 3 1 r xs.length (xs.map (Value.int .i64))) (hBO : BO ≤ wC.heap.size) (k : wC.ownsRow B 44 3 v m cs) (hg : (wC.alloc ob).grownBy wD v.ownBlock) (hlt : g < BO) (hx : xs.length ≤ 17592186044416) :
    Ints ((wD.setCell ⟨g, o, none⟩ u).setCell ⟨g, o2, none⟩ u2) r xs := by
  have h1 := rows_apart (h.alloc ob) (k.alloc ob) hg
  have h2 := ownsRow_setCell_below (ownsRow_setCell_below h1 (a := ⟨g, o, none⟩) hlt u) (a := ⟨g, o2, none⟩) hlt u2
  have hs : BO ≤ ((wD.setCell ⟨g, o, none⟩ u).setCell ⟨g, o2, none⟩ u2).heap.size := by
    have := hg.size
    simp [World.setCell] at this ⊢
    omega
  exact Own.ints (B := BO) (w := (wD.setCell ⟨g, o, none⟩ u).setCell ⟨g, o2, none⟩ u2) ⟨h2, Below.refl _ _, hs⟩ hx

theorem start_short (P i : Int) : (startL P i).length ≤ 16 := by rw [start_length]; omega

/-- Read as the net that was closed. -/
theorem close_read {w Wf : World} {B T : Nat} {n : NetL} {i o : Int} {tvs : List (Int × Value × Value)} {vD sO sI : Value} (htl : tvs.length = T) (hTl : n.trans.length = T) (hT24 : T < 24) (hto : TvOf w n.trans tvs) (c : Below w.heap.size w Wf)
    (hown : Wf.ownsRow B 44 3 vD (tvs.length + 1) (tvCells tvs ++ [.int .i64 0, sO, sI])) (h1 : Ints Wf sO (startL n.places o)) (h2 : Ints Wf sI (startL n.places i)) : Trans Wf vD (closeL n i o).trans := by
  have e : tvCells tvs ++ [.int .i64 0, sO, sI] = tvCells (tvs ++ [(0, sO, sI)]) := by rw [tvCells_append]; rfl
  have el : tvs.length + 1 = (tvs ++ [((0 : Int), sO, sI)]).length := by simp
  rw [e, el] at hown
  refine tran_read (ts := (closeL n i o).trans) hown (by simp; omega) (by rw [close_count]; simp; omega) fun j hj => ?_
  by_cases q : j < tvs.length
  · rw [List.getElem_append_left q, close_at n i o (by omega)]
    obtain ⟨e1, e2, e3⟩ := hto j q
    exact ⟨e1, e2.below c, e3.below c⟩
  · have ej : j = tvs.length := by simp at hj; omega
    subst ej
    rw [List.getElem_append_right (Nat.le_refl _)]
    simp only [Nat.sub_self, List.getElem_cons_zero]
    rw [show tvs.length = n.trans.length by omega, close_last]
    exact ⟨rfl, h1, h2⟩

end Go.Proofs.Ytgedpebnipghlaa
