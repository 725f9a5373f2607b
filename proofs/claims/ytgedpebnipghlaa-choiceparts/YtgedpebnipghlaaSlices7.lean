/- slices.DeleteFunc over numbers of an own row, with a function that has captured two variables and answers where C holds. -/
import Derived.Test.YtgedpebnipghlaaSlices5
import Derived.Lib.SliceRun
namespace Go.Proofs.Ytgedpebnipghlaa
open Go.RowKit
set_option linter.unusedVariables false
set_option maxRecDepth 4000

/-- An own row, cell by cell. -/
structure RowF (B g : Nat) (w wr : World) (n : Nat) (f : Nat → Int) : Prop where
  cells : ∀ j, j < n → wr.cell? ⟨g, j, none⟩ = some (.int .i64 (f j))
  frozen : ∀ j, j < n → wr.frozen? ⟨g, j, none⟩ = false
  below : Below B w wr
  base : B ≤ g
  size : g < wr.heap.size

theorem RowF.to {B g : Nat} {w wr w2 : World} {n : Nat} {f : Nat → Int} (h : RowF B g w wr n f) (hb : Below wr.heap.size wr w2) : RowF B g w w2 n f :=
  ⟨fun j hj => by rw [hb.cell (p := ⟨g, j, none⟩) h.size]; exact h.cells j hj, fun j hj => by rw [hb.frozen (p := ⟨g, j, none⟩) h.size]; exact h.frozen j hj, h.below.trans (hb.mono (Nat.le_trans h.base (Nat.le_of_lt h.size))), h.base, Nat.lt_of_lt_of_le h.size hb.size⟩
theorem RowF.put {B g : Nat} {w wr : World} {n k : Nat} {f : Nat → Int} (h : RowF B g w wr n f) (hk : k < n) (x : Int) : RowF B g w (wr.setCell ⟨g, k, none⟩ (.int .i64 x)) n (fun j => if j = k then x else f j) := by
  refine ⟨fun j hj => ?_, fun j hj => by rw [World.frozen?_setCell]; exact h.frozen j hj, h.below.setCell h.base _, h.base, by simpa [World.setCell] using h.size⟩
  by_cases e : j = k
  · subst e
    rw [World.cell?_setCell_same _ _ _ (h.cells j hj), if_pos rfl]
  · rw [World.cell?_setCell_other _ _ _ _ (by intro q; apply e; injection q with _ q2; exact q2.symm), h.cells j hj, if_neg e]

theorem Own.row {B : Nat} {w wr : World} {v : Value} {zs : List Int} (h : Own B w wr v zs) (hz : 0 < zs.length) : ∃ g cap, v = .slice (some ⟨g, 0, none⟩) zs.length cap ∧ zs.length ≤ cap ∧ cap ≤ 9223372036854775807 ∧ RowF B g w wr zs.length (nth zs) := by
  obtain ⟨hown, hb, hB⟩ := h
  have hown0 := hown
  obtain ⟨_, hcase⟩ := hown
  rcases hcase with ⟨rfl, h0⟩ | ⟨g, cap', cur, rfl, hg, hh, hn, hcap, hsz, htake⟩
  · omega
  · have hlt : g < wr.heap.size := by
      rcases Nat.lt_or_ge g wr.heap.size with h | h
      · exact h
      · rw [Array.getElem?_eq_none h] at hh; cases hh
    refine ⟨g, cap', rfl, hn, by unfold maxLen at hcap; omega, fun j hj => ?_, fun j hj => ?_, hb, hg, hlt⟩
    · rw [hown0.cellAt j (by omega)]
      simp [nth, List.getD, List.getElem?_eq_getElem hj]
    · simp [World.frozen?, hh]

theorem Own.block {B : Nat} {w wr : World} {v : Value} {zs : List Int} (h : Own B w wr v zs) : ∀ a n c, v = .slice (some a) n c → B ≤ a.block := by
  rintro a n c rfl
  obtain ⟨⟨_, hcase⟩, _, _⟩ := h
  rcases hcase with ⟨e, _⟩ | ⟨g, cap', cur, e, hg, _⟩
  · cases e
  · injection e with e1 _ _
    injection e1 with e1
    rw [e1]; exact hg
theorem Ints.set {w : World} {a : Option Addr} {n c : Nat} {zs : List Int} {p : Addr} {x : Value} (h : Ints w (.slice a n c) zs) (hp : ∀ q, a = some q → q.block ≠ p.block) : Ints (w.setCell p x) (.slice a n c) zs := by
  obtain ⟨a', n', c', e, h1, h2, h3, h4⟩ := h
  injection e with e1 e2 e3
  subst e1 e2 e3
  refine ⟨_, _, _, rfl, h1, h2, h3, fun j hj => ?_⟩
  obtain ⟨b, off, ha, hb, hc⟩ := h4 j hj
  refine ⟨b, off, ha, by simpa [World.setCell] using hb, ?_⟩
  rw [World.cell?_setCell_other _ _ _ _ (by intro q; exact hp _ ha (by rw [q]))]
  exact hc

def filtTo (p : Int → Bool) (xs : List Int) (k : Nat) : List Int := (xs.take k).filter fun x => !p x
theorem filtTo_yes {p : Int → Bool} {xs : List Int} {k : Nat} (hk : k < xs.length) (h : p (nth xs k) = true) : filtTo p xs (k + 1) = filtTo p xs k := by
  have e : nth xs k = xs[k] := by simp [nth, List.getD, List.getElem?_eq_getElem hk]
  unfold filtTo; rw [List.take_succ_eq_append_getElem hk, List.filter_append, ← e]; simp [h]
theorem filtTo_no {p : Int → Bool} {xs : List Int} {k : Nat} (hk : k < xs.length) (h : p (nth xs k) = false) : filtTo p xs (k + 1) = filtTo p xs k ++ [nth xs k] := by
  have e : nth xs k = xs[k] := by simp [nth, List.getD, List.getElem?_eq_getElem hk]
  unfold filtTo; rw [List.take_succ_eq_append_getElem hk, List.filter_append, ← e]; simp [h]
theorem filtTo_le (p : Int → Bool) (xs : List Int) (k : Nat) : (filtTo p xs k).length ≤ k := by
  unfold filtTo
  refine Nat.le_trans (List.length_filter_le _ _) ?_
  simp; omega
theorem filtTo_first {p : Int → Bool} {xs : List Int} : ∀ {k : Nat}, k ≤ xs.length → (∀ j, j < k → p (nth xs j) = false) → filtTo p xs k = xs.take k
  | 0, _, _ => by simp [filtTo]
  | k + 1, hk, h => by
    rw [filtTo_no (by omega) (h k (by omega)), filtTo_first (by omega) fun j hj => h j (by omega), List.take_succ_eq_append_getElem (by omega)]
    congr 2
    simp [nth, List.getD, List.getElem?_eq_getElem (show k < xs.length by omega)]
theorem filtTo_all {p : Int → Bool} {xs : List Int} {k : Nat} (hk : k = xs.length) : filtTo p xs k = xs.filter fun x => !p x := by unfold filtTo; rw [List.take_of_length_le (by omega)]

/-- The row while what is left moves to its front. -/
structure Moved (B g : Nat) (w wr : World) (xs : List Int) (p : Int → Bool) (k : Nat) (f : Nat → Int) : Prop where
  row : RowF B g w wr xs.length f
  front : ∀ t, t < (filtTo p xs k).length → f t = nth (filtTo p xs k) t
  rest : ∀ t, k ≤ t → t < xs.length → f t = nth xs t
  less : (filtTo p xs k).length < k

theorem Moved.start {B g : Nat} {w wr : World} {xs : List Int} {p : Int → Bool} {k : Nat} (h : RowF B g w wr xs.length (nth xs)) (hk : k < xs.length) (hp : p (nth xs k) = true) (hn : ∀ j, j < k → p (nth xs j) = false) : Moved B g w wr xs p (k + 1) (nth xs) ∧ (filtTo p xs (k + 1)).length = k := by
  have e : filtTo p xs (k + 1) = xs.take k := by rw [filtTo_yes hk hp, filtTo_first (by omega) hn]
  have el : (filtTo p xs (k + 1)).length = k := by rw [e]; simp; omega
  refine ⟨⟨h, fun t ht => ?_, fun t _ _ => rfl, by omega⟩, el⟩
  rw [e]
  rw [el] at ht
  simp [nth, List.getD, ht]
theorem Moved.to {B g : Nat} {w wr w2 : World} {xs : List Int} {p : Int → Bool} {k : Nat} {f : Nat → Int} (h : Moved B g w wr xs p k f) (hb : Below wr.heap.size wr w2) : Moved B g w w2 xs p k f :=
  ⟨h.row.to hb, h.front, h.rest, h.less⟩
theorem Moved.skip {B g : Nat} {w wr : World} {xs : List Int} {p : Int → Bool} {k : Nat} {f : Nat → Int} (h : Moved B g w wr xs p k f) (hk : k < xs.length) (hp : p (nth xs k) = true) : Moved B g w wr xs p (k + 1) f := by
  have e := filtTo_yes hk hp
  refine ⟨h.row, fun t ht => ?_, fun t ht => h.rest t (by omega), by rw [e]; have := h.less; omega⟩
  rw [e] at ht ⊢
  exact h.front t ht
theorem Moved.put {B g : Nat} {w wr : World} {xs : List Int} {p : Int → Bool} {k : Nat} {f : Nat → Int} (h : Moved B g w wr xs p k f) (hk : k < xs.length) (hp : p (nth xs k) = false) {a : Nat} (ha : (filtTo p xs k).length = a) :
    ∃ f', Moved B g w (wr.setCell ⟨g, a, none⟩ (.int .i64 (nth xs k))) xs p (k + 1) f' := by
  have e := filtTo_no hk hp
  have hl := h.less
  refine ⟨_, h.row.put (k := a) (by omega) (nth xs k), fun t ht => ?_, fun t ht htl => ?_, by rw [e]; simp; omega⟩
  · rw [e] at ht ⊢
    simp only [List.length_append, List.length_singleton] at ht
    by_cases q : t = a
    · subst q
      rw [if_pos rfl]
      simp [nth, List.getD, ← ha]
    · rw [if_neg q, h.front t (by omega)]
      simp [nth, List.getD, List.getElem?_append_left (show t < (filtTo p xs k).length by omega)]
  · rw [if_neg (by omega)]
    exact h.rest t (by omega) htl

theorem zero_int : ∀ w, (zeroValue 3).run Try.prog w = .ok (.int .i64 0) w := Try.zeroValue3

/-- What is left of the row, when its end is cleared. -/
theorem Moved.done {B g : Nat} {w wr : World} {xs : List Int} {p : Int → Bool} {k : Nat} {f : Nat → Int} (h : Moved B g w wr xs p k f) (hk : k = xs.length) (hl : xs.length ≤ 17592186044416) {cap a : Nat} (hc : xs.length ≤ cap) (hc2 : cap ≤ 9223372036854775807) (ha : (filtTo p xs k).length = a) :
    (∀ ty c, (Builtin.clear_ #[29] ty #[.slice (some ⟨g, a, none⟩) (xs.length - a) c]).run Try.prog wr = .ok (.tuple #[]) (wr.setCells g a (List.replicate (xs.length - a) (.int .i64 0)))) ∧
    Ints (wr.setCells g a (List.replicate (xs.length - a) (.int .i64 0))) (.slice (some ⟨g, 0, none⟩) a cap) (xs.filter fun x => !p x) ∧ Below B w (wr.setCells g a (List.replicate (xs.length - a) (.int .i64 0))) := by
  have hla := h.less
  have hsz : ∀ (vs : List Value) (o : Nat) (w : World), (w.setCells g o vs).heap.size = w.heap.size := by
    intro vs
    induction vs with
    | nil => intro o w; rfl
    | cons v vs ih => intro o w; simp only [World.setCells]; rw [ih]; simp [World.setCell]
  have hbl : ∀ (vs : List Value) (o : Nat) (w1 : World), Below B w w1 → Below B w (w1.setCells g o vs) := by
    intro vs
    induction vs with
    | nil => intro o w1 hb; exact hb
    | cons v vs ih => intro o w1 hb; simp only [World.setCells]; exact ih _ _ (hb.setCell h.row.base _)
  refine ⟨fun ty c => Lib.run_clear_slice wr _ _ ty _ Try.underlying29 zero_int rfl rfl g a _ _ (by omega) (fun j hj => by rw [h.row.cells (a + j) (by omega)]; rfl) (fun j hj => h.row.frozen (a + j) (by omega)), ?_, hbl _ _ _ h.row.below⟩
  have e := filtTo_all (p := p) hk
  have ha2 : (xs.filter fun x => !p x).length = a := by rw [← e]; exact ha
  refine ⟨_, _, _, rfl, ha2, by omega, ⟨by omega, hc2, fun h => by cases h⟩, fun j hj => ⟨g, 0, rfl, by rw [hsz]; exact h.row.size, ?_⟩⟩
  rw [World.cell?_setCells_out _ _ _ _ _ (by intro _ _; left; simp; omega), Nat.zero_add, h.row.cells j (by omega), h.front j (by rw [e]; exact hj), e]

/-- The function g tells p of every number of which C holds, in every world that comes of w0. -/
def AsksC2 (w0 : World) (g : Nat) (q r : Value) (C : Int → Prop) (p : Int → Bool) : Prop :=
  ∀ (x : Int) w, C x → Below w0.heap.size w0 w → Calls Try.prog g #[.int .i64 x, q, r] w fun e w' => e = .returned (.bool (p x)) ∧ Below w.heap.size w w'

end Go.Proofs.Ytgedpebnipghlaa
