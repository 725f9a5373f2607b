/- What the answers of the document itself for marks come to, and slices.Equal: they only read. -/
import Derived.Test.YtjfcfnaeinhmcaaDoorMark1
namespace Go.Proofs.YtjfcfnaeinhmcaaDoor
open Go.RowKit
set_option linter.unusedVariables false
set_option maxRecDepth 4000

theorem geTok_false {x y : Int} (h : x < y) : geTok x y = false := by simp [geTok]; omega
theorem geTok_true {x y : Int} (h : y ≤ x) : geTok x y = true := by simp [geTok]; omega

theorem nth_step {xs ys : List Int} {k : Nat} (h : ∀ j, j < k → nth xs j = nth ys j) (e : nth xs k = nth ys k) : ∀ j, j < k + 1 → nth xs j = nth ys j := by
  intro j hj
  by_cases hjk : j < k
  · exact h j hjk
  · obtain rfl : j = k := by omega
    exact e

theorem eq_of_nth (xs ys : List Int) (hl : xs.length = ys.length) (h : ∀ j, j < xs.length → nth xs j = nth ys j) : xs = ys := by
  refine List.ext_getElem hl fun i h1 h2 => ?_
  have := h i h1
  simpa [nth, List.getD, List.getElem?_eq_getElem h1, List.getElem?_eq_getElem h2] using this

set_option maxHeartbeats 400000 in
theorem equal_any (v u : Value) (xs ys : List Int) (w : World) (hv : Ints w v xs) (hu : Ints w u ys) :
    Calls Tryd.prog 18 #[v, u] w fun e w' => e = .returned (.bool (xs == ys)) ∧ ∃ m, w' = w.drewN m := by
  obtain ⟨a, la, ca, rfl, hla, hma, hsa, hra⟩ := hv
  obtain ⟨b, lb, cb, rfl, hlb, hmb, hsb, hrb⟩ := hu
  by_cases hl : la = lb
  · subst hl
    have e1 : (((la : Nat) : Int) != (la : Int)) = false := by simp
    go_enter Tryd.func18, Tryd.ntmps18
    go_wp2
    go_loopw [13] (fun i wr => ∃ k : Nat, k ≤ la ∧ i = .int .i64 k ∧ (∀ j, j < k → nth xs j = nth ys j) ∧ ∃ m, wr = w.drewN m) (fun i _ => la - (intOf i).toNat)
    case atStart => exact ⟨0, Nat.zero_le _, rfl, fun j hj => absurd hj (Nat.not_lt_zero _), 0, rfl⟩
    case round =>
      obtain ⟨k, hk, rfl, hall0, m, hwm⟩ := hrel
      have Hall : Hid (∀ j, j < k → nth xs j = nth ys j) := hall0
      have Hw : Hid (wr = w.drewN m) := hwm
      have hra2 : Row wr a xs := by rw [hwm]; exact hra.drewN m
      have hrb2 : Row wr b ys := by rw [hwm]; exact hrb.drewN m
      clear hwm hra hrb hall0
      by_cases hkn : k < la
      · obtain ⟨bx, off, rfl, hbx, hc⟩ := hra2 k (by omega)
        obtain ⟨bx', off', rfl, hbx', hc'⟩ := hrb2 k (by omega)
        clear hra2 hrb2
        by_cases hg : nth xs k = nth ys k
        · have e2 : (nth xs k != nth ys k) = false := by simp [hg]
          have Hg : Hid (nth xs k = nth ys k) := hg
          clear hg
          go_wp2
          go_quiet (fail)
          go_wp2
          go_roundw
          case rel => exact ⟨k + 1, by omega, by go_num, nth_step Hall.out Hg.out, m + nq, by rw [Hw.out, World.drewN_drewN]⟩
          case measure => simp [intOf]; omega
        · have e2 : (nth xs k != nth ys k) = true := by simp [hg]
          go_wp2
          go_quiet (fail)
          go_wp2
          go_ret
          exact ⟨ret_bool (by symm; rw [beq_eq_false_iff_ne]; intro h; exact hg (by rw [h])), m + nq, by rw [Hw.out, World.drewN_drewN]⟩
      · go_wp2
        go_ret
        refine ⟨ret_bool ?_, m, Hw.out⟩
        symm; rw [beq_iff_eq]
        exact eq_of_nth xs ys (by omega) (fun j hj => Hall.out j (by omega))
  · have e1 : (((la : Nat) : Int) != (lb : Int)) = true := by simp; omega
    go_enter Tryd.func18, Tryd.ntmps18
    go_wp2
    go_ret
    refine ⟨ret_bool ?_, 0, rfl⟩
    symm; rw [beq_eq_false_iff_ne]
    intro h; rw [h] at hla; omega

theorem equal_b (v u : Value) (xs ys : List Int) (w : World) (hv : Ints w v xs) (hu : Ints w u ys) :
    Calls Tryd.prog 18 #[v, u] w fun e w' => e = .returned (.bool (xs == ys)) ∧ Below w.heap.size w w' :=
  (equal_any v u xs ys w hv hu).mono fun _ _ h => ⟨h.1, below_of_drewN h.2⟩

end Go.Proofs.YtjfcfnaeinhmcaaDoor
