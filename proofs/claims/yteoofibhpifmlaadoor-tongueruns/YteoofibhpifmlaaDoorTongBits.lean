/- Sets of numbers as words of 64 bits, plainly. -/
import Derived.Lib.TrailingZeros
import Derived.Laws.BitsAllLaws
import Derived.Test.YteoofibhpifmlaaDoorBase
namespace Go.Proofs.YteoofibhpifmlaaDoor
open Go.Lib
set_option linter.unusedVariables false
set_option maxRecDepth 4000

theorem low_bit {x : Nat} (h0 : 0 < x) (hx : x < 18446744073709551616) : ∃ b, ctz 64 x = b ∧ b < 64 ∧ x.testBit b = true ∧ (∀ i, i < b → x.testBit i = false) ∧ ∀ i, (x &&& (x - 1)).testBit i = (x.testBit i && decide (i ≠ b)) := by
  obtain ⟨m, hm, hb⟩ := ctzFrom_spec 64 x h0 hx
  have e : ctz 64 x = ctzFrom 64 x := by unfold ctz; rw [if_neg (by omega)]
  obtain ⟨b, hbe⟩ : ∃ b, ctzFrom 64 x = b := ⟨_, rfl⟩
  rw [hbe] at hm hb e
  have hp : 0 < 2 ^ b := Nat.pow_pos (by omega)
  have hx1 : x - 1 = 2 ^ b * (2 * m) + (2 ^ b - 1) := by rw [hm, Nat.mul_add]; omega
  have t1 : ∀ i, x.testBit i = if i < b then false else (2 * m + 1).testBit (i - b) := by
    intro i
    have := Nat.testBit_two_pow_mul_add (2 * m + 1) (b := 0) (i := b) hp i
    rw [Nat.add_zero, ← hm] at this
    rw [this]; split <;> simp
  have t2 : ∀ i, (x - 1).testBit i = if i < b then (2 ^ b - 1).testBit i else (2 * m).testBit (i - b) := by
    intro i
    rw [hx1]
    exact Nat.testBit_two_pow_mul_add (2 * m) (by omega) i
  refine ⟨b, e, hb, by rw [t1, if_neg (by omega), Nat.sub_self]; simp, fun i hi => by rw [t1, if_pos hi], fun i => ?_⟩
  rw [Nat.testBit_and, t1, t2]
  by_cases h1 : i < b
  · simp [h1]
  · rw [if_neg h1, if_neg h1]
    by_cases h2 : i = b
    · subst h2; simp
    · obtain ⟨j, hj⟩ : ∃ j, i - b = j + 1 := ⟨i - b - 1, by omega⟩
      rw [hj, Nat.testBit_succ, Nat.testBit_succ, show (2 * m + 1) / 2 = m by omega, show (2 * m) / 2 = m by omega]
      simp [h2]

/-- A set: five words. -/
structure SetL where
  at_ : Nat → Nat
  fit : ∀ k, at_ k < 18446744073709551616
def SetL.has (s : SetL) (m : Nat) : Bool := (s.at_ (m / 64)).testBit (m % 64)
def noneS : SetL := ⟨fun _ => 0, fun _ => by omega⟩
def onlyS (m : Nat) : SetL := ⟨fun k => if k = m / 64 then 2 ^ (m % 64) else 0, fun k => by
  split
  · exact Nat.lt_of_lt_of_le (Nat.pow_lt_pow_right (by omega) (Nat.mod_lt _ (by omega))) (by decide : 2 ^ 64 ≤ 18446744073709551616)
  · omega⟩
def orS (s t : SetL) : SetL := ⟨fun k => s.at_ k ||| t.at_ k, fun k => by
  have := Nat.or_lt_two_pow (n := 64) (s.fit k) (t.fit k); exact this⟩
def andS (s t : SetL) : SetL := ⟨fun k => s.at_ k &&& t.at_ k, fun k => Nat.lt_of_le_of_lt Nat.and_le_left (s.fit k)⟩
def emptyS (s : SetL) : Bool := decide (s.at_ 0 = 0 ∧ s.at_ 1 = 0 ∧ s.at_ 2 = 0 ∧ s.at_ 3 = 0 ∧ s.at_ 4 = 0)
def eqS (s t : SetL) : Bool := (List.range 5).all fun j => (s.at_ j : Int) == (t.at_ j : Int)
/-- The same as far as five words go. -/
def SameS (s t : SetL) : Prop := ∀ k, k < 5 → s.at_ k = t.at_ k

theorem has_none (m : Nat) : noneS.has m = false := by simp [SetL.has, noneS]
theorem has_only (m j : Nat) : (onlyS m).has j = decide (j = m) := by
  unfold SetL.has onlyS
  simp only
  by_cases h : j / 64 = m / 64
  · rw [if_pos h, Nat.testBit_two_pow]
    by_cases h2 : m % 64 = j % 64
    · simp only [h2, decide_true]; rw [decide_eq_true]; omega
    · rw [decide_eq_false h2, decide_eq_false]; intro e; subst e; exact h2 rfl
  · rw [if_neg h, Nat.zero_testBit, decide_eq_false]; intro e; subst e; exact h rfl
theorem has_or (s t : SetL) (m : Nat) : (orS s t).has m = (s.has m || t.has m) := by unfold SetL.has orS; simp only [Nat.testBit_or]
theorem has_and (s t : SetL) (m : Nat) : (andS s t).has m = (s.has m && t.has m) := by unfold SetL.has andS; simp only [Nat.testBit_and]
theorem SameS.has {s t : SetL} (h : SameS s t) {m : Nat} (hm : m < 320) : s.has m = t.has m := by unfold SetL.has; rw [h _ (by omega)]
theorem SameS.of_has {s t : SetL} (h : ∀ m, m < 320 → s.has m = t.has m) : SameS s t := by
  intro k hk
  apply Nat.eq_of_testBit_eq
  intro i
  by_cases hi : i < 64
  · have := h (k * 64 + i) (by omega)
    unfold SetL.has at this
    rwa [show (k * 64 + i) / 64 = k by omega, show (k * 64 + i) % 64 = i by omega] at this
  · have e : (18446744073709551616 : Nat) ≤ 2 ^ i := Nat.le_trans (by decide : 18446744073709551616 ≤ 2 ^ 64) (Nat.pow_le_pow_right (by omega) (by omega))
    rw [Nat.testBit_lt_two_pow (Nat.lt_of_lt_of_le (s.fit k) e), Nat.testBit_lt_two_pow (Nat.lt_of_lt_of_le (t.fit k) e)]
theorem emptyS_iff (s : SetL) : emptyS s = true ↔ ∀ m, m < 320 → s.has m = false := by
  unfold emptyS
  rw [decide_eq_true_iff]
  constructor
  · rintro ⟨h0, h1, h2, h3, h4⟩ m hm
    have hk : m / 64 < 5 := by omega
    have : s.at_ (m / 64) = 0 := by
      obtain h | h | h | h | h : m / 64 = 0 ∨ m / 64 = 1 ∨ m / 64 = 2 ∨ m / 64 = 3 ∨ m / 64 = 4 := by omega
      all_goals (rw [h]; assumption)
    unfold SetL.has
    rw [this, Nat.zero_testBit]
  · intro h
    have : SameS s noneS := SameS.of_has fun m hm => by rw [h m hm, has_none]
    exact ⟨this 0 (by omega), this 1 (by omega), this 2 (by omega), this 3 (by omega), this 4 (by omega)⟩
theorem eqS_iff (s t : SetL) : eqS s t = true ↔ SameS s t := by
  unfold eqS SameS
  simp only [List.all_eq_true, List.mem_range, beq_iff_eq]
  exact ⟨fun h k hk => by have := h k hk; omega, fun h k hk => by rw [h k hk]⟩
theorem eqS_none (s : SetL) : eqS s noneS = emptyS s := by
  rw [Bool.eq_iff_iff, eqS_iff, emptyS_iff]
  exact ⟨fun h m hm => by rw [h.has hm, has_none], fun h => SameS.of_has fun m hm => by rw [h m hm, has_none]⟩

end Go.Proofs.YteoofibhpifmlaaDoor
