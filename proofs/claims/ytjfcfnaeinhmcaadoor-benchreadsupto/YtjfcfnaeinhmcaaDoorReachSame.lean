/- Two spaces that are the same are told so. -/
import Derived.Test.YtjfcfnaeinhmcaaDoorReachMem
namespace Go.Proofs.YtjfcfnaeinhmcaaDoor
open Go.RowKit
set_option linter.unusedVariables false
set_option maxRecDepth 4000

theorem samelists1_any (v u : Value) (xs ys : List Int) (w : World) (hv : Ints w v xs) (hu : Ints w u ys) :
    Calls Tryd.prog 17 #[v, u] w fun e w' => e = .returned (.bool (xs == ys)) ∧ Below w.heap.size w w' := by
  go_enter Tryd.func17, Tryd.ntmps17
  go_wp2_with fail
  refine (equal_b _ _ xs ys _ (by exact hv) (by exact hu)).mono ?_
  rintro e w1 ⟨rfl, b⟩
  go_wp2
  go_ret
  exact ⟨rfl, b⟩

set_option maxHeartbeats 1000000 in
theorem eqlists_same (v u : Value) (ls : List (List Int)) (w : World) (hv : Lists w v ls) (hu : Lists w u ls) :
    Calls Tryd.prog 16 #[v, u, .func (.func 17) #[] #[]] w fun e w' => e = .returned (.bool true) ∧ Below w.heap.size w w' := by
  obtain ⟨a, ca, rfl, hla, _⟩ := hv.slice
  obtain ⟨b, cb, rfl, hlb, _⟩ := hu.slice
  generalize hlen : ls.length = len at *
  have e1 : (((len : Nat) : Int) != (len : Int)) = false := by simp
  have q26 := Tryd.call17
  go_enter Tryd.func16, Tryd.ntmps16
  go_wp2_with fail
  go_loopg [17] len (fun g i wr => ∃ k : Nat, k + g = len ∧ i = .int .i64 k ∧ Below w.heap.size w wr)
  case atStart => exact ⟨0, by omega, rfl, Below.refl _ _⟩
  case round =>
    obtain ⟨k, hkg, rfl, hb⟩ := hrel
    by_cases hkn : k < len
    · obtain ⟨b1, o1, u1, rfl, _, c1, i1⟩ := (hv.below hb).at hkn
      obtain ⟨b2, o2, u2, rfl, _, c2, i2⟩ := (hu.below hb).at hkn
      go_wp2_with fail
      refine (samelists1_any _ _ _ _ _ (by exact i1) (by exact i2)).mono ?_
      rintro e w2 ⟨rfl, b'⟩
      rw [beq_self_eq_true]
      have R := below_then hb b'
      clear b' hb i1 i2 c1 c2
      go_wp2
      go_roundg (gk - 1)
      case measure => omega
      case rel => exact ⟨k + 1, by omega, by go_num, R⟩
    · go_wp2
      go_ret
      exact ⟨rfl, hb⟩

theorem samelists_same (v u : Value) (ls : List (List Int)) (w : World) (hv : Lists w v ls) (hu : Lists w u ls) :
    Calls Tryd.prog 8 #[v, u] w fun e w' => e = .returned (.bool true) ∧ Below w.heap.size w w' := by
  go_enter Tryd.func8, Tryd.ntmps8
  go_wp2_with fail
  refine (eqlists_same _ _ ls _ (by exact hv) (by exact hu)).mono ?_
  rintro e w1 ⟨rfl, b⟩
  go_wp2
  go_ret
  exact ⟨rfl, b⟩

end Go.Proofs.YtjfcfnaeinhmcaaDoor
