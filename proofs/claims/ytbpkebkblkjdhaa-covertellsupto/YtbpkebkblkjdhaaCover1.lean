/- The answers of the document itself for cover: which has more, which is below. -/
import Derived.Test.YtbpkebkblkjdhaaKnotMem
namespace Go.Proofs.Ytbpkebkblkjdhaa
open Go.RowKit
set_option linter.unusedVariables false

set_option maxHeartbeats 400000 in
theorem emore_any (x y : Int) (w : World) :
    Calls Try.prog 32 #[.int .i64 x, .int .i64 y] w fun e w' => e = .returned (.bool (moreL x y)) ∧ w' = w := by
  by_cases h1 : y = -1
  · subst h1
    go_enter Try.func32, Try.ntmps32
    go_wp2
    go_ret
    exact ⟨rfl, rfl⟩
  · have n1 : (y != -1) = true := by simpa using h1
    by_cases h2 : x = -1
    · subst h2
      go_enter Try.func32, Try.ntmps32
      go_wp2
      go_ret
      exact ⟨ret_bool (by simp [moreL, h1]), rfl⟩
    · have n2 : (x == -1) = false := by simpa using h2
      by_cases h3 : y < x
      · go_enter Try.func32, Try.ntmps32
        go_wp2
        go_ret
        exact ⟨ret_bool (by simp [moreL, h1, h3]), rfl⟩
      · go_enter Try.func32, Try.ntmps32
        go_wp2
        go_ret
        exact ⟨ret_bool (by simp [moreL, h1, h2, h3]), rfl⟩

set_option maxHeartbeats 1000000 in
theorem ebelow_any (v u : Value) (xs ys : List Int) (w : World) (hv : Ints w v xs) (hu : Ints w u ys) (hl : ys.length ≤ xs.length) :
    Calls Try.prog 31 #[v, u] w fun e w' => e = .returned (.bool (belowL xs ys)) ∧ ∃ m, w' = w.drewN m := by
  obtain ⟨a, la, ca, rfl, hla, hma, hsa, hra⟩ := hv
  obtain ⟨b, lb, cb, rfl, hlb, hmb, hsb, hrb⟩ := hu
  rw [hla, hlb] at hl
  have Hno : Hid (∀ k, k < lb → moreL (nth xs k) (nth ys k) = true → belowL xs ys = false) := fun k hk h => belowTo_no (by omega) h
  have Hst : Hid _ := belowTo_succ xs ys
  have HA : Hid (belowTo xs ys lb = belowL xs ys) := by show _ = _; rw [belowL, hlb]
  go_enter Try.func31, Try.ntmps31
  go_wp2_with fail
  go_loopw [8] (fun i wr => ∃ k : Nat, k ≤ lb ∧ i = .int .i64 k ∧ Hid (belowTo xs ys k = true) ∧ ∃ m, wr = w.drewN m) (fun i _ => lb - (intOf i).toNat)
  case atStart => exact ⟨0, Nat.zero_le _, rfl, rfl, 0, rfl⟩
  case round =>
    obtain ⟨k, hk, rfl, hB, m, rfl⟩ := hrel
    by_cases hkn : k < lb
    · obtain ⟨b1, o1, rfl, hb1, hc1⟩ := hra k (by omega)
      obtain ⟨b2, o2, rfl, hb2, hc2⟩ := hrb k (by omega)
      have hk1 : k < la := by omega
      have hc1' : (w.drewN m).cell? ⟨b1, o1 + k, none⟩ = some (.int .i64 (nth xs k)) := by simpa using hc1
      have hc2' : (w.drewN m).cell? ⟨b2, o2 + k, none⟩ = some (.int .i64 (nth ys k)) := by simpa using hc2
      have Hs : Hid _ := Hst.out k
      have Hn : Hid _ := Hno.out k hkn
      clear hra hrb Hst Hno hc1 hc2
      obtain ⟨wd, Hwd⟩ : ∃ wd, Hid (w.drewN m = wd) := ⟨_, rfl⟩
      rw [Hwd.out] at hc1' hc2' ⊢
      go_wp2_with fail
      go_quiet ((go_at_call 32; exact Calls.quiet_of_same (emore_any _ _ _)))
      have Hd : Hid (wd.drewN nq = w.drewN (m + nq)) := by show _ = _; rw [← Hwd.out]; exact World.drewN_drewN _ _ _
      rw [Hd.out]
      clear hc1' hc2' Hwd
      cases hm : moreL (nth xs k) (nth ys k)
      · have E : Hid (belowTo xs ys (k + 1) = true) := by show _ = _; rw [Hs.out, hB.out, hm]; rfl
        clear Hs Hn hm
        go_wp2
        go_roundw
        case rel => exact ⟨k + 1, by omega, by go_num, E, _, rfl⟩
        case measure => simp [intOf]; omega
      · have E : Hid _ := Hn.out hm
        clear Hs Hn hm
        go_wp2
        go_ret
        exact ⟨ret_bool E.out.symm, _, rfl⟩
    · obtain rfl : k = lb := by omega
      have E : Hid (belowL xs ys = true) := by show _ = _; rw [← HA.out]; exact hB.out
      go_wp2
      go_ret
      exact ⟨ret_bool E.out.symm, _, rfl⟩

end Go.Proofs.Ytbpkebkblkjdhaa
