/- slices.IndexFunc and ContainsFunc over numbers, with a function that has captured one variable, or two. -/
import Derived.Test.YtnklepfommakpaaSlices2
namespace Go.Proofs.Ytnklepfommakpaa
open Go.RowKit
set_option linter.unusedVariables false

/-- Where the first one is that p tells of. -/
def FirstAt (xs : List Int) (p : Int → Bool) (i : Int) : Prop := (i = -1 ∧ ∀ j, j < xs.length → p (nth xs j) = false) ∨ ∃ k : Nat, i = k ∧ k < xs.length ∧ p (nth xs k) = true ∧ ∀ j, j < k → p (nth xs j) = false

theorem FirstAt.any {xs : List Int} {p : Int → Bool} {i : Int} (h : FirstAt xs p i) : decide (0 ≤ i) = anyL xs p := by
  rcases h with ⟨rfl, h⟩ | ⟨k, rfl, hk, h, _⟩
  · rw [not_any (p := p) h]; rfl
  · rw [any_of_nth hk h]; simp

/-- The function g tells p of every number, in every world that comes of w0. -/
def AsksQ1 (w0 : World) (g : Nat) (q : Value) (p : Int → Bool) : Prop :=
  ∀ (x : Int) w, Below w0.heap.size w0 w → Calls Try.prog g #[.int .i64 x, q] w fun e w' => e = .returned (.bool (p x)) ∧ Below w.heap.size w w'

set_option maxHeartbeats 1000000 in
theorem indexfuncQ1 (w0 : World) (g : Nat) (q : Value) (p : Int → Bool) (hg : AsksQ1 w0 g q p) (eg : ∀ args w, (callFunc g args).run Try.prog w = .ok (.enter g args) w) (v : Value) (xs : List Int) (w : World) (hw : Below w0.heap.size w0 w) (hv : Ints w v xs) :
    Calls Try.prog 47 #[v, .func (.func g) #[] #[q]] w fun e w' => ∃ i : Int, e = .returned (.int .i64 i) ∧ FirstAt xs p i ∧ Below w.heap.size w w' := by
  obtain ⟨a, len, cap, rfl, hlen, hmx, hsh, hr⟩ := hv
  have Hg : Hid _ := hg
  clear hg
  go_enter Try.func47, Try.ntmps47
  go_wp2_with fail
  go_loopg [8] len (fun g i wr => ∃ k : Nat, k + g = len ∧ i = .int .i64 k ∧ Below w.heap.size w wr ∧ Hid (∀ j, j < k → p (nth xs j) = false))
  case atStart => exact ⟨0, by omega, rfl, Below.refl _ _, fun j hj => absurd hj (Nat.not_lt_zero _)⟩
  case round =>
    obtain ⟨k, hkg, rfl, hb, Hn⟩ := hrel
    by_cases hkn : k < len
    · obtain ⟨b1, o1, rfl, hb1, c0⟩ := (hr.below hb) k (by omega)
      have hw2 := below_then hw hb
      obtain ⟨z, Hz⟩ : ∃ z, Hid (nth xs k = z) := ⟨_, rfl⟩
      rw [Hz.out] at c0
      go_wp2_with fail
      refine (Hg.out z _ (by exact hw2)).mono ?_
      rintro e w2 ⟨rfl, b'⟩
      have R := below_then hb b'
      cases hp : p z
      · have Hn2 : Hid (∀ j, j < k + 1 → p (nth xs j) = false) := fun j hj => by
          by_cases e : j = k
          · subst e; rw [Hz.out]; exact hp
          · exact Hn.out j (by omega)
        clear b' hb c0 hp hw2
        go_wp2
        go_roundg (gk - 1)
        case measure => omega
        case rel => exact ⟨k + 1, by omega, by go_num, R, Hn2⟩
      · have F : Hid (FirstAt xs p k) := .inr ⟨k, rfl, by omega, by rw [Hz.out]; exact hp, Hn.out⟩
        clear b' hb c0 hp hw2
        go_wp2
        go_ret
        exact ⟨_, rfl, F.out, R⟩
    · have F : Hid (FirstAt xs p (-1)) := .inl ⟨rfl, fun j hj => Hn.out j (by omega)⟩
      go_wp2
      go_ret
      exact ⟨_, rfl, F.out, hb⟩

set_option maxHeartbeats 400000 in
theorem containsfuncQ1 (w0 : World) (g : Nat) (q : Value) (p : Int → Bool) (hg : AsksQ1 w0 g q p) (eg : ∀ args w, (callFunc g args).run Try.prog w = .ok (.enter g args) w) (v : Value) (xs : List Int) (w : World) (hw : Below w0.heap.size w0 w) (hv : Ints w v xs) :
    Calls Try.prog 22 #[v, .func (.func g) #[] #[q]] w fun e w' => e = .returned (.bool (anyL xs p)) ∧ Below w.heap.size w w' := by
  go_enter Try.func22, Try.ntmps22
  go_wp2_with fail
  refine (indexfuncQ1 w0 g q p hg eg _ xs _ hw hv).mono ?_
  rintro e w' ⟨i, rfl, hi, hb⟩
  have F : Hid _ := hi.any
  clear hi
  by_cases h0 : 0 ≤ i
  · go_wp2
    go_ret
    exact ⟨ret_bool (by rw [← F.out, decide_eq_true h0]), hb⟩
  · go_wp2
    go_ret
    exact ⟨ret_bool (by rw [← F.out, decide_eq_false (by omega)]), hb⟩

/-- The function g tells p of every number, in every world that comes of w0. -/
def AsksQ2 (w0 : World) (g : Nat) (q r : Value) (p : Int → Bool) : Prop :=
  ∀ (x : Int) w, Below w0.heap.size w0 w → Calls Try.prog g #[.int .i64 x, q, r] w fun e w' => e = .returned (.bool (p x)) ∧ Below w.heap.size w w'

set_option maxHeartbeats 1000000 in
theorem indexfuncQ2 (w0 : World) (g : Nat) (q r : Value) (p : Int → Bool) (hg : AsksQ2 w0 g q r p) (eg : ∀ args w, (callFunc g args).run Try.prog w = .ok (.enter g args) w) (v : Value) (xs : List Int) (w : World) (hw : Below w0.heap.size w0 w) (hv : Ints w v xs) :
    Calls Try.prog 47 #[v, .func (.func g) #[] #[q, r]] w fun e w' => ∃ i : Int, e = .returned (.int .i64 i) ∧ FirstAt xs p i ∧ Below w.heap.size w w' := by
  obtain ⟨a, len, cap, rfl, hlen, hmx, hsh, hr⟩ := hv
  have Hg : Hid _ := hg
  clear hg
  go_enter Try.func47, Try.ntmps47
  go_wp2_with fail
  go_loopg [8] len (fun g i wr => ∃ k : Nat, k + g = len ∧ i = .int .i64 k ∧ Below w.heap.size w wr ∧ Hid (∀ j, j < k → p (nth xs j) = false))
  case atStart => exact ⟨0, by omega, rfl, Below.refl _ _, fun j hj => absurd hj (Nat.not_lt_zero _)⟩
  case round =>
    obtain ⟨k, hkg, rfl, hb, Hn⟩ := hrel
    by_cases hkn : k < len
    · obtain ⟨b1, o1, rfl, hb1, c0⟩ := (hr.below hb) k (by omega)
      have hw2 := below_then hw hb
      obtain ⟨z, Hz⟩ : ∃ z, Hid (nth xs k = z) := ⟨_, rfl⟩
      rw [Hz.out] at c0
      go_wp2_with fail
      refine (Hg.out z _ (by exact hw2)).mono ?_
      rintro e w2 ⟨rfl, b'⟩
      have R := below_then hb b'
      cases hp : p z
      · have Hn2 : Hid (∀ j, j < k + 1 → p (nth xs j) = false) := fun j hj => by
          by_cases e : j = k
          · subst e; rw [Hz.out]; exact hp
          · exact Hn.out j (by omega)
        clear b' hb c0 hp hw2
        go_wp2
        go_roundg (gk - 1)
        case measure => omega
        case rel => exact ⟨k + 1, by omega, by go_num, R, Hn2⟩
      · have F : Hid (FirstAt xs p k) := .inr ⟨k, rfl, by omega, by rw [Hz.out]; exact hp, Hn.out⟩
        clear b' hb c0 hp hw2
        go_wp2
        go_ret
        exact ⟨_, rfl, F.out, R⟩
    · have F : Hid (FirstAt xs p (-1)) := .inl ⟨rfl, fun j hj => Hn.out j (by omega)⟩
      go_wp2
      go_ret
      exact ⟨_, rfl, F.out, hb⟩

set_option maxHeartbeats 400000 in
theorem containsfuncQ2 (w0 : World) (g : Nat) (q r : Value) (p : Int → Bool) (hg : AsksQ2 w0 g q r p) (eg : ∀ args w, (callFunc g args).run Try.prog w = .ok (.enter g args) w) (v : Value) (xs : List Int) (w : World) (hw : Below w0.heap.size w0 w) (hv : Ints w v xs) :
    Calls Try.prog 22 #[v, .func (.func g) #[] #[q, r]] w fun e w' => e = .returned (.bool (anyL xs p)) ∧ Below w.heap.size w w' := by
  go_enter Try.func22, Try.ntmps22
  go_wp2_with fail
  refine (indexfuncQ2 w0 g q r p hg eg _ xs _ hw hv).mono ?_
  rintro e w' ⟨i, rfl, hi, hb⟩
  have F : Hid _ := hi.any
  clear hi
  by_cases h0 : 0 ≤ i
  · go_wp2
    go_ret
    exact ⟨ret_bool (by rw [← F.out, decide_eq_true h0]), hb⟩
  · go_wp2
    go_ret
    exact ⟨ret_bool (by rw [← F.out, decide_eq_false (by omega)]), hb⟩

end Go.Proofs.Ytnklepfommakpaa
