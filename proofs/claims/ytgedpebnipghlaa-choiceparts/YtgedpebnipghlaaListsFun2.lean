/- Whether a list of lists has one that a function with two captured variables tells of. -/
import Derived.Test.YtgedpebnipghlaaReachMem
namespace Go.Proofs.Ytgedpebnipghlaa
open Go.RowKit
set_option linter.unusedVariables false
set_option maxRecDepth 4000

/-- The function g with the captured values q, q2 tells p of every list, in every world that comes of w0. -/
def AsksLs2 (w0 : World) (g : Nat) (q q2 : Value) (p : List Int → Bool) : Prop :=
  ∀ v x w, Below w0.heap.size w0 w → Ints w v x → Calls Try.prog g #[v, q, q2] w fun e w' => e = .returned (.bool (p x)) ∧ Below w.heap.size w w'

theorem anyTo2_of {ls : List (List Int)} {p : List Int → Bool} {k : Nat} (hk : k < ls.length) (h : p (markAt ls k) = true) : ls.any p = true :=
  List.any_eq_true.2 ⟨_, markAt_mem hk, h⟩
theorem anyTo2_not {ls : List (List Int)} {p : List Int → Bool} (h : ∀ j, j < ls.length → p (markAt ls j) = false) : ls.any p = false := by
  rw [List.any_eq_false]
  intro x hx
  obtain ⟨j, hj, rfl⟩ := List.getElem_of_mem hx
  have := h j hj
  rw [markAt, List.getD_eq_getElem?_getD, List.getElem?_eq_getElem hj] at this
  simpa using this

set_option maxHeartbeats 1000000 in
theorem indexlists2_any (w0 : World) (g : Nat) (q q2 : Value) (p : List Int → Bool) (hg : AsksLs2 w0 g q q2 p) (eg : ∀ args w, (callFunc g args).run Try.prog w = .ok (.enter g args) w) (v : Value) (ls : List (List Int)) (w : World) (hw : Below w0.heap.size w0 w) (hv : Lists w v ls) :
    Calls Try.prog 40 #[v, .func (.func g) #[] #[q, q2]] w fun e w' => ∃ i : Int, e = .returned (.int .i64 i) ∧ decide (0 ≤ i) = ls.any p ∧ Below w.heap.size w w' := by
  obtain ⟨a, ca, rfl, hla, _⟩ := hv.slice
  obtain ⟨len, Hlen⟩ : ∃ len, Hid (ls.length = len) := ⟨_, rfl⟩
  rw [Hlen.out] at hv hla ⊢
  have Hg : Hid _ := hg
  clear hg
  go_enter Try.func40, Try.ntmps40
  go_wp2_with fail
  go_loopg [8] len (fun g i wr => ∃ k : Nat, k + g = len ∧ i = .int .i64 k ∧ Below w.heap.size w wr ∧ Hid (∀ j, j < k → p (markAt ls j) = false))
  case atStart => exact ⟨0, by omega, rfl, Below.refl _ _, fun j hj => absurd hj (Nat.not_lt_zero _)⟩
  case round =>
    obtain ⟨k, hkg, rfl, hb, Hn⟩ := hrel
    by_cases hkn : k < len
    · obtain ⟨b1, o1, u1, rfl, _, c1, i1⟩ := (hv.below hb).at hkn
      have hw2 := below_then hw hb
      go_wp2_with fail
      refine (Hg.out _ _ _ (by exact hw2) (by exact i1)).mono ?_
      rintro e w2 ⟨rfl, b'⟩
      have R := below_then hb b'
      cases hp : p (markAt ls k)
      · have Hn2 : Hid (∀ j, j < k + 1 → p (markAt ls j) = false) := fun j hj => by
          by_cases e : j = k
          · subst e; exact hp
          · exact Hn.out j (by omega)
        clear b' hb i1 c1 hp hw2
        go_wp2
        go_roundg (gk - 1)
        case measure => omega
        case rel => exact ⟨k + 1, by omega, by go_num, R, Hn2⟩
      · have F : Hid (ls.any p = true) := anyTo2_of (by have := Hlen.out; omega) hp
        clear b' hb i1 c1 hp hw2
        go_wp2
        go_ret
        exact ⟨_, rfl, by rw [F.out]; simp, R⟩
    · have F : Hid (ls.any p = false) := anyTo2_not fun j hj => Hn.out j (by have := Hlen.out; omega)
      go_wp2
      go_ret
      exact ⟨_, rfl, by rw [F.out]; simp, hb⟩

theorem containslists2_any (w0 : World) (g : Nat) (q q2 : Value) (p : List Int → Bool) (hg : AsksLs2 w0 g q q2 p) (eg : ∀ args w, (callFunc g args).run Try.prog w = .ok (.enter g args) w) (v : Value) (ls : List (List Int)) (w : World) (hw : Below w0.heap.size w0 w) (hv : Lists w v ls) :
    Calls Try.prog 20 #[v, .func (.func g) #[] #[q, q2]] w fun e w' => e = .returned (.bool (ls.any p)) ∧ Below w.heap.size w w' := by
  go_enter Try.func20, Try.ntmps20
  go_wp2_with fail
  refine (indexlists2_any w0 g q q2 p hg eg _ ls _ hw (by exact hv)).mono ?_
  rintro e w1 ⟨i, rfl, hi, b⟩
  go_wp2
  go_ret
  exact ⟨rfl, b⟩

end Go.Proofs.Ytgedpebnipghlaa
