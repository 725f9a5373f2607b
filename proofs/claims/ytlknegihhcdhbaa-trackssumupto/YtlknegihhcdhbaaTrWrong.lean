/- tracks.Wrong. -/
import Derived.Test.YtlknegihhcdhbaaGr09
import Derived.Test.YtlknegihhcdhbaaGr04
import Derived.Test.YtlknegihhcdhbaaGr00
namespace Go.Proofs.Ytlknegihhcdhbaa
open Go.RowKit Go.Lib Go.Sort
set_option linter.unusedVariables false
set_option linter.unusedSimpArgs false
set_option maxRecDepth 4000

theorem noLabel_asks : Asks1 40 noLab := by
  intro x w
  have Hx : Hid (noLab x = (decide (x < 1) || decide (26 < x))) := rfl
  by_cases h1 : x < 1
  · have e : noLab x = true := by rw [Hx.out]; simp [h1]
    rw [e]
    go_enter Try.func40, Try.ntmps40
    go_wp2
    go_ret
    exact ⟨rfl, rfl⟩
  · by_cases h2 : 26 < x
    · have e : noLab x = true := by rw [Hx.out]; simp [h2]
      rw [e]
      go_enter Try.func40, Try.ntmps40
      go_wp2
      go_ret
      exact ⟨rfl, rfl⟩
    · have e : noLab x = false := by rw [Hx.out]; simp [h1, h2]
      rw [e]
      go_enter Try.func40, Try.ntmps40
      go_wp2
      go_ret
      exact ⟨rfl, rfl⟩
theorem noLabel_enters : ∀ args w, (callFunc 40 args).run Try.prog w = .ok (.enter 40 args) w := enters_of Try.func40 (by kernel_rfl) rfl

set_option maxHeartbeats 2000000 in
theorem wrong_any (v : Value) (log : List (List Int)) (w : World) (hv : Lists w v log) :
    Calls Try.prog 9 #[v] w fun e w' => e = .returned (.int .i64 (wrongV log)) ∧ w' = w := by
  obtain ⟨a, len, cap, rfl, hlen, hmx, hsh, hr⟩ := id hv
  have Hlen : Hid (log.length = len) := hlen
  clear hlen hr hsh
  by_cases h60 : 60 < len
  · have e : wrongV log = 4 := by unfold wrongV; rw [Hlen.out, if_pos h60]
    rw [e]
    have i0 : (60 : Int) < (len : Int) := by omega
    go_enter Try.func9, Try.ntmps9
    go_wp2
    go_ret
    exact ⟨rfl, rfl⟩
  · have e : wrongV log = if log.any badT then 2 else 0 := by unfold wrongV; rw [Hlen.out, if_neg h60]
    rw [e]
    have HV : Hid (Lists w (.slice a len cap) log) := hv
    obtain ⟨r, Hr⟩ : ∃ r, Hid ((if log.any badT then (2 : Int) else 0) = r) := ⟨_, rfl⟩
    rw [Hr.out]
    go_enter Try.func9, Try.ntmps9
    go_wp2_with fail
    go_loopg [10] len (fun gk i' wr => ∃ k : Nat, k + gk = len ∧ i' = .int .i64 (k : Int) ∧ wr = w ∧ Hid ((log.take k).any badT = false))
    case atStart => exact ⟨0, by omega, rfl, rfl, rfl⟩
    case round =>
      obtain ⟨k, hkg, rfl, rfl, HN⟩ := hrel
      by_cases hk : k < len
      · obtain ⟨tb, tf, u, rfl, hlt, c2, hu⟩ := lists_at HV.out hk
        obtain ⟨t, HT⟩ : ∃ t, Hid (log.getD k [] = t) := ⟨_, rfl⟩
        rw [HT.out] at hu
        obtain ⟨ta, tl, tc, rfl, htl, htm, hts, htr⟩ := id hu
        clear htr hts
        have HS : Hid ((log.take (k + 1)).any badT = badT t) := by
          show _ = _
          rw [any_take_succ (by rw [Hlen.out]; exact hk), HN.out, HT.out, Bool.false_or]
        have HB : Hid (badT t = (decide (60 < tl) || t.any noLab)) := by show _ = _; unfold badT; rw [htl]
        have HE : Hid (badT t = true → log.any badT = true) := fun hb => by
          rw [List.any_eq_true]
          exact ⟨t, by rw [← HT.out]; exact at_lists (by rw [Hlen.out]; exact hk), hb⟩
        by_cases h1 : 60 < tl
        · have hb : badT t = true := by rw [HB.out]; simp [h1]
          have hr2 : Hid (r = 2) := by show _ = _; rw [← Hr.out, HE.out hb]; rfl
          have i1 : (60 : Int) < (tl : Int) := by omega
          clear hb hu htl
          go_wp2
          go_ret
          exact ⟨(by rw [hr2.out]; rfl), rfl⟩
        · have i1 : ¬ (60 : Int) < (tl : Int) := by omega
          have hcf := containsfunc_any 40 noLab noLabel_asks noLabel_enters (.slice ta tl tc) t wr hu
          have HB2 : Hid (badT t = anyL t noLab) := by show _ = _; rw [HB.out]; simp [h1]; rfl
          obtain ⟨q, Hq⟩ : ∃ q, Hid (anyL t noLab = q) := ⟨_, rfl⟩
          rw [Hq.out] at hcf
          clear hu htl HB
          cases q
          · have HN2 : Hid ((log.take (k + 1)).any badT = false) := by show _ = _; rw [HS.out, HB2.out, Hq.out]
            go_wp2_with (go_at_call 39; refine hcf.mono ?_; rintro e w3 ⟨rfl, rfl⟩)
            go_roundg (gk - 1)
            case measure => omega
            case rel => exact ⟨k + 1, by omega, by go_num, rfl, HN2⟩
          · have hr2 : Hid (r = 2) := by show _ = _; rw [← Hr.out, HE.out (by rw [HB2.out, Hq.out])]; rfl
            go_wp2_with (go_at_call 39; refine hcf.mono ?_; rintro e w3 ⟨rfl, rfl⟩)
            go_ret
            exact ⟨(by rw [hr2.out]; rfl), rfl⟩
      · obtain rfl : k = len := by omega
        have hr2 : Hid (r = 0) := by
          show _ = _
          have := HN.out
          rw [List.take_of_length_le (by rw [Hlen.out]; exact Nat.le_refl _)] at this
          rw [← Hr.out, this]
          rfl
        go_wp2
        go_ret
        exact ⟨(by rw [hr2.out]; rfl), rfl⟩

end Go.Proofs.Ytlknegihhcdhbaa
