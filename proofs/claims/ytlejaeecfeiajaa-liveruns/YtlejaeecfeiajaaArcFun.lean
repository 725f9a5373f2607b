/- Whether a list of arcs has one that a function with one captured variable tells of. -/
import Derived.Test.YtlejaeecfeiajaaReachMem
namespace Go.Proofs.Ytlejaeecfeiajaa
open Go.RowKit
set_option linter.unusedVariables false

theorem anyA_not {ls : List (Int × Int × Int)} {p : Int × Int × Int → Bool} (h : ∀ j (hj : j < ls.length), p ls[j] = false) : ls.any p = false := by
  rw [List.any_eq_false]
  intro x hx
  obtain ⟨j, hj, rfl⟩ := List.getElem_of_mem hx
  simpa using h j hj

/-- The function g with the captured value q tells p of every arc, in every world that comes of w0. -/
def AsksA (w0 : World) (g : Nat) (q : Value) (p : Int × Int × Int → Bool) : Prop :=
  ∀ (x y z : Int) w, Below w0.heap.size w0 w → Calls Try.prog g #[.agg #[.int .i64 x, .int .i64 y, .int .i64 z], q] w fun e w' => e = .returned (.bool (p (x, y, z))) ∧ Below w.heap.size w w'

set_option maxHeartbeats 1000000 in
theorem indexarcs_any (w0 : World) (g : Nat) (q : Value) (p : Int × Int × Int → Bool) (hg : AsksA w0 g q p) (eg : ∀ args w, (callFunc g args).run Try.prog w = .ok (.enter g args) w) (v : Value) (ls : List (Int × Int × Int)) (w : World) (hw : Below w0.heap.size w0 w) (hv : Arcs w v ls) :
    Calls Try.prog 48 #[v, .func (.func g) #[] #[q]] w fun e w' => ∃ i : Int, e = .returned (.int .i64 i) ∧ decide (0 ≤ i) = ls.any p ∧ Below w.heap.size w w' := by
  obtain ⟨a, ca, rfl, hla⟩ := hv.slice
  obtain ⟨len, Hlen⟩ : ∃ len, Hid (ls.length = len) := ⟨_, rfl⟩
  rw [Hlen.out] at hv hla ⊢
  have Hg : Hid _ := hg
  clear hg
  go_enter Try.func48, Try.ntmps48
  go_wp2_with fail
  go_loopg [8] len (fun g i wr => ∃ k : Nat, k + g = len ∧ i = .int .i64 k ∧ Below w.heap.size w wr ∧ Hid (∀ j (hj : j < ls.length), j < k → p ls[j] = false))
  case atStart => exact ⟨0, by omega, rfl, Below.refl _ _, fun j _ hj => absurd hj (Nat.not_lt_zero _)⟩
  case round =>
    obtain ⟨k, hkg, rfl, hb, Hn⟩ := hrel
    by_cases hkn : k < len
    · have Hkl : Hid (k < ls.length) := by have := Hlen.out; show k < ls.length; omega
      obtain ⟨b1, o1, rfl, _, c0, c1, c2⟩ := (hv.below hb).at Hkl.out
      have hw2 := below_then hw hb
      obtain ⟨A, HA⟩ : ∃ A, Hid (ls[k]'Hkl.out = A) := ⟨_, rfl⟩
      obtain ⟨x, y, z⟩ := A
      rw [HA.out] at c0 c1 c2
      simp only at c0 c1 c2
      go_wp2_with fail
      refine (Hg.out x y z _ (by exact hw2)).mono ?_
      rintro e w2 ⟨rfl, b'⟩
      have R := below_then hb b'
      cases hp : p (x, y, z)
      · have Hn2 : Hid (∀ j (hj : j < ls.length), j < k + 1 → p ls[j] = false) := fun j hj hjk => by
          by_cases e : j = k
          · subst e; rw [HA.out]; exact hp
          · exact Hn.out j hj (by omega)
        clear b' hb c0 c1 c2 hp hw2 HA
        go_wp2
        go_roundg (gk - 1)
        case measure => omega
        case rel => exact ⟨k + 1, by omega, by go_num, R, Hn2⟩
      · have F : Hid (ls.any p = true) := List.any_eq_true.2 ⟨_, List.getElem_mem Hkl.out, by rw [HA.out]; exact hp⟩
        clear b' hb c0 c1 c2 hp hw2 HA
        go_wp2
        go_ret
        exact ⟨_, rfl, by rw [F.out]; simp, R⟩
    · have F : Hid (ls.any p = false) := anyA_not fun j hj => Hn.out j hj (by have := Hlen.out; omega)
      go_wp2
      go_ret
      exact ⟨_, rfl, by rw [F.out]; simp, hb⟩

theorem containsarcs_any (w0 : World) (g : Nat) (q : Value) (p : Int × Int × Int → Bool) (hg : AsksA w0 g q p) (eg : ∀ args w, (callFunc g args).run Try.prog w = .ok (.enter g args) w) (v : Value) (ls : List (Int × Int × Int)) (w : World) (hw : Below w0.heap.size w0 w) (hv : Arcs w v ls) :
    Calls Try.prog 24 #[v, .func (.func g) #[] #[q]] w fun e w' => e = .returned (.bool (ls.any p)) ∧ Below w.heap.size w w' := by
  go_enter Try.func24, Try.ntmps24
  go_wp2_with fail
  refine (indexarcs_any w0 g q p hg eg _ ls _ hw (by exact hv)).mono ?_
  rintro e w1 ⟨i, rfl, hi, b⟩
  go_wp2
  go_ret
  exact ⟨rfl, b⟩

end Go.Proofs.Ytlejaeecfeiajaa
