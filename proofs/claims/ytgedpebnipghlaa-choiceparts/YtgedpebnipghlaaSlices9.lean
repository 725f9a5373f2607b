/- slices.Compact over numbers of an own row, walked. -/
import Derived.Test.YtgedpebnipghlaaSlices8
namespace Go.Proofs.Ytgedpebnipghlaa
open Go.RowKit
set_option linter.unusedVariables false
set_option maxRecDepth 4000

theorem RowF.cut {B g : Nat} {w wr : World} {n : Nat} {f : Nat → Int} (h : RowF B g w wr n f) {zs : List Int} {a cap : Nat} (ha : a < n) (hz : zs.length = a) (hf : ∀ t, t < a → f t = nth zs t) (hn : n ≤ 17592186044416) (hc : n ≤ cap) (hc2 : cap ≤ 9223372036854775807) :
    (∀ ty c, (Builtin.clear_ #[29] ty #[.slice (some ⟨g, a, none⟩) (n - a) c]).run Try.prog wr = .ok (.tuple #[]) (wr.setCells g a (List.replicate (n - a) (.int .i64 0)))) ∧
    Ints (wr.setCells g a (List.replicate (n - a) (.int .i64 0))) (.slice (some ⟨g, 0, none⟩) a cap) zs ∧ Below B w (wr.setCells g a (List.replicate (n - a) (.int .i64 0))) := by
  have hsz : ∀ (vs : List Value) (o : Nat) (w : World), (w.setCells g o vs).heap.size = w.heap.size := by
    intro vs
    induction vs with
    | nil => intro o w; rfl
    | cons v vs ih => intro o w; simp only [World.setCells]; rw [ih]; simp [World.setCell]
  have hbl : ∀ (vs : List Value) (o : Nat) (w1 : World), Below B w w1 → Below B w (w1.setCells g o vs) := by
    intro vs
    induction vs with
    | nil => intro o w1 hb; exact hb
    | cons v vs ih => intro o w1 hb; simp only [World.setCells]; exact ih _ _ (hb.setCell h.base _)
  refine ⟨fun ty c => Lib.run_clear_slice wr _ _ ty _ Try.underlying29 zero_int rfl rfl g a _ _ (by omega) (fun j hj => by rw [h.cells (a + j) (by omega)]; rfl) (fun j hj => h.frozen (a + j) (by omega)), ?_, hbl _ _ _ h.below⟩
  refine ⟨_, _, _, rfl, hz, by omega, ⟨by omega, hc2, fun h => by cases h⟩, fun j hj => ⟨g, 0, rfl, by rw [hsz]; exact h.size, ?_⟩⟩
  rw [World.cell?_setCells_out _ _ _ _ _ (by intro _ _; left; simp; omega), Nat.zero_add, h.cells j (by omega), hf j (by omega)]

structure MoveD (B g : Nat) (w wr : World) (xs : List Int) (j : Nat) (f : Nat → Int) : Prop where
  row : RowF B g w wr xs.length f
  front : ∀ t, t < (ddTo xs j).length → f t = nth (ddTo xs j) t
  rest : ∀ t, j ≤ t + 1 → t < xs.length → f t = nth xs t
  less : (ddTo xs j).length < j
theorem MoveD.start {B g : Nat} {w wr : World} {xs : List Int} {k : Nat} (h : RowF B g w wr xs.length (nth xs)) (h0 : 0 < k) (hk : k < xs.length) (he : nth xs k = nth xs (k - 1)) (hn : ∀ j, 0 < j → j < k → nth xs j ≠ nth xs (j - 1)) :
    MoveD B g w wr xs (k + 1) (nth xs) ∧ (ddTo xs (k + 1)).length = k := by
  have e : ddTo xs (k + 1) = xs.take k := by rw [ddTo_no (by rintro (q | q); omega; exact q he), ddTo_take (by omega) hn]
  have el : (ddTo xs (k + 1)).length = k := by rw [e]; simp; omega
  refine ⟨⟨h, fun t ht => ?_, fun t _ _ => rfl, by omega⟩, el⟩
  rw [e]
  rw [el] at ht
  simp [nth, List.getD, ht]
theorem MoveD.to {B g : Nat} {w wr w2 : World} {xs : List Int} {j : Nat} {f : Nat → Int} (h : MoveD B g w wr xs j f) (hb : Below wr.heap.size wr w2) : MoveD B g w w2 xs j f := ⟨h.row.to hb, h.front, h.rest, h.less⟩
theorem MoveD.skip {B g : Nat} {w wr : World} {xs : List Int} {j : Nat} {f : Nat → Int} (h : MoveD B g w wr xs j f) (h0 : 0 < j) (he : nth xs j = nth xs (j - 1)) : MoveD B g w wr xs (j + 1) f := by
  have e := ddTo_no (xs := xs) (j := j) (by rintro (q | q); omega; exact q he)
  refine ⟨h.row, fun t ht => ?_, fun t ht => h.rest t (by omega), by rw [e]; have := h.less; omega⟩
  rw [e] at ht ⊢
  exact h.front t ht
theorem MoveD.put {B g : Nat} {w wr : World} {xs : List Int} {j : Nat} {f : Nat → Int} (h : MoveD B g w wr xs j f) (hj : j < xs.length) (hne : nth xs j ≠ nth xs (j - 1)) {a : Nat} (ha : (ddTo xs j).length = a) :
    ∃ f', MoveD B g w (wr.setCell ⟨g, a, none⟩ (.int .i64 (nth xs j))) xs (j + 1) f' := by
  have e := ddTo_yes (xs := xs) (j := j) (.inr hne)
  have hl := h.less
  refine ⟨_, h.row.put (k := a) (by omega) (nth xs j), fun t ht => ?_, fun t ht htl => ?_, by rw [e]; simp; omega⟩
  · rw [e] at ht ⊢
    simp only [List.length_append, List.length_singleton] at ht
    by_cases q : t = a
    · subst q
      rw [if_pos rfl]
      simp [nth, List.getD, ← ha]
    · rw [if_neg q, h.front t (by omega)]
      simp [nth, List.getD, List.getElem?_append_left (show t < (ddTo xs j).length by omega)]
  · rw [if_neg (by omega)]
    exact h.rest t (by omega) htl

end Go.Proofs.Ytgedpebnipghlaa
