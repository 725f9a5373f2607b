/- Package siphon as it landed: meets, without, rising. -/
import Derived.Test.YtnklepfommakpaaSiphDev1
namespace Go.Proofs.Ytnklepfommakpaa
open Go.RowKit
set_option linter.unusedVariables false

set_option maxHeartbeats 1000000 in
theorem meets_any (g : Nat → Bool) (u : Value) (xs : List Int) (w : World) (hu : Ints w u xs) (hl : xs.length ≤ 16) :
    Calls Try.prog 52 #[grpV g, u] w fun e w' => e = .returned (.bool (anyAt xs (setL g))) ∧ Below w.heap.size w w' := by
  obtain ⟨w1, Hw1⟩ : ∃ w1, Hid (w.alloc (.cells (grpC g) 47) = w1) := ⟨_, rfl⟩
  have hG : GrpAt w1 w.heap.size g := by rw [← Hw1.out]; exact grpAt_new w g
  have hB : Below w.heap.size w w1 := by rw [← Hw1.out]; exact below_new _ _
  replace hu := hu.below hB
  obtain ⟨a, la, ca, rfl, hla, hma, hsa, hra⟩ := hu
  have HY : Hid (∀ p, p < la → (nth xs p ≠ 0 ∧ g p = true) → anyAt xs (setL g) = true) := fun p hp h => meet_yes hl (by omega) h
  have HS : Hid (∀ k, meetNo g xs k → ¬ (nth xs k ≠ 0 ∧ g k = true) → meetNo g xs (k + 1)) := fun k h hn => meetNo_succ h hn
  have HA : Hid (meetNo g xs la → anyAt xs (setL g) = false) := fun h => meetNo_all (by rw [hla]; exact h)
  have hlb : la ≤ 16 := by omega
  go_enter Try.func52, Try.ntmps52
  go_upto_region 1 with fail
  rw [Hw1.out]
  clear Hw1
  go_wp2_with fail
  go_loop [9] (fun i => ∃ k : Nat, k ≤ la ∧ i = .int .i64 k ∧ Hid (meetNo g xs k)) (fun i => la - (intOf i).toNat)
  case atStart => exact ⟨0, Nat.zero_le _, rfl, fun j hj => absurd hj (Nat.not_lt_zero _)⟩
  case round =>
    obtain ⟨k, hk, rfl, hN⟩ := hrel
    by_cases hkn : k < la
    · obtain ⟨bb, off, rfl, hbb, hc⟩ := hra k (by omega)
      have hc2 := hG.cell (j := k) (by omega)
      have hk16 : k < 16 := by omega
      have Hn : Hid _ := HY.out k hkn
      have Hs : Hid _ := HS.out k hN.out
      clear hra HY HS HA hN
      generalize nth xs k = x at *
      generalize g k = c at *
      by_cases h0 : x = 0
      · have R : Hid _ := Hs.out (by omega)
        clear Hn Hs
        go_wp2
        go_round
        case rel => exact ⟨k + 1, by omega, by go_num, R⟩
        case measure => simp [intOf]; omega
      · cases c
        · have R : Hid _ := Hs.out (by simp)
          clear Hn Hs
          go_wp2
          go_round
          case rel => exact ⟨k + 1, by omega, by go_num, R⟩
          case measure => simp [intOf]; omega
        · have R : Hid _ := Hn.out ⟨h0, rfl⟩
          clear Hn Hs
          go_wp2
          go_ret
          exact ⟨ret_bool R.out.symm, hB⟩
    · have e : k = la := by omega
      have R : Hid (anyAt xs (setL g) = false) := HA.out (by rw [← e]; exact hN.out)
      go_wp2
      go_ret
      exact ⟨ret_bool R.out.symm, hB⟩

theorem grp_two (w : World) (g f : Nat → Bool) : ∃ w1, Hid ((w.alloc (.cells (grpC g) 47)).alloc (.cells (grpC f) 47) = w1) ∧ GrpAt w1 w.heap.size g ∧ GrpAt w1 (w.heap.size + 1) f ∧ Below w.heap.size w w1 := by
  refine ⟨_, rfl, (grpAt_new w g).below (below_new _ _), ?_, below_then (below_new _ _) (below_new _ _)⟩
  have := grpAt_new (w.alloc (.cells (grpC g) 47)) f
  simpa using this

set_option maxHeartbeats 2000000 in
theorem without_any (g : Nat → Bool) (u : Value) (xs : List Int) (w : World) (hu : Ints w u xs) (hl : xs.length ≤ 16) :
    Calls Try.prog 53 #[grpV g, u] w fun e w' => e = .returned (grpV (outG g xs xs.length)) ∧ Below w.heap.size w w' := by
  obtain ⟨w1, Hw1, hG, hR, hB⟩ := grp_two w g (fun _ => false)
  obtain ⟨a, la, ca, rfl, hla, hma, hsa, hra⟩ := hu
  have hlb : la ≤ 16 := by omega
  rw [hla]
  rw [← outG_zero g xs] at hG
  go_enter Try.func53, Try.ntmps53
  go_upto_region 1 with fail
  rw [Hw1.out]
  clear Hw1
  go_wp2_with fail
  go_loopw [9] (fun i wr => ∃ k : Nat, k ≤ la ∧ i = .int .i64 k ∧ GrpAt wr w.heap.size (outG g xs k) ∧ GrpAt wr (w.heap.size + 1) (fun _ => false) ∧ Below w.heap.size w wr) (fun i _ => la - (intOf i).toNat)
  case atStart => exact ⟨0, Nat.zero_le _, rfl, hG, hR, hB⟩
  case round =>
    clear hG hR hB
    obtain ⟨k, hk, rfl, hG, hR, hB⟩ := hrel
    by_cases hkn : k < la
    · obtain ⟨bb, off, rfl, hbb, hc⟩ := hra k (by omega)
      replace hc := (hB.cell (p := ⟨bb, off + k, none⟩) hbb).trans hc
      have hk16 : k < 16 := by omega
      by_cases h0 : nth xs k = 0
      · have R : Hid (GrpAt wr w.heap.size (outG g xs (k + 1))) := by show GrpAt _ _ _; rw [outG_skip h0]; exact hG
        rw [h0] at hc
        clear hra hG h0
        go_wp2
        go_roundw
        case rel => exact ⟨k + 1, by omega, by go_num, R.out, hR, hB⟩
        case measure => simp [intOf]; omega
      · have R : Hid (GrpAt (wr.setCell ⟨w.heap.size, k, none⟩ (.bool false)) w.heap.size (outG g xs (k + 1))) := (hG.put hk16 false).same fun j _ => (outG_put h0 j).symm
        have R2 : Hid (GrpAt (wr.setCell ⟨w.heap.size, k, none⟩ (.bool false)) (w.heap.size + 1) (fun _ => false)) := hR.set (by show w.heap.size ≠ _; omega) _
        have B2 : Hid (Below w.heap.size w (wr.setCell ⟨w.heap.size, k, none⟩ (.bool false))) := hB.setCell (p := ⟨w.heap.size, k, none⟩) (Nat.le_refl _) _
        have hcc := hG.cell hk16
        have hff := hG.frozen k
        generalize nth xs k = x at *
        clear hra hG hR hB
        go_wp2
        go_roundw
        case rel => exact ⟨k + 1, by omega, by go_num, R.out, R2.out, B2.out⟩
        case measure => simp [intOf]; omega
    · obtain rfl : k = la := by omega
      obtain ⟨f, Hf⟩ : ∃ f, Hid (outG g xs k = f) := ⟨_, rfl⟩
      rw [Hf.out] at hG
      have R : Hid (GrpAt (storeG wr (w.heap.size + 1) f) (w.heap.size + 1) f) := hR.store f
      have B2 : Hid (Below w.heap.size w (storeG wr (w.heap.size + 1) f)) := below_storeG hB (by omega) f
      clear hra hB
      go_wp2_with (first | (refine wpList_load_grp rfl _ rfl w.heap.size f rfl hG ?_) | (refine wpList_store_grp rfl _ _ rfl (w.heap.size + 1) (fun _ => false) f rfl rfl hR ?_; intro W HW; rw [HW] at R B2; clear HW hG hR))
      exact bodyPost_ret (v := grpV f) (results_grp rfl rfl R.out) rfl ⟨by rw [Hf.out], B2.out⟩

theorem index_grp (w : World) (g : Nat → Bool) (k : Nat) (hk : k < 16) : (Instr.index 47 (grpV g) (.int .i64 (k : Int))).run Try.prog w = .ok (.bool (g k)) w := by
  have e := grpC_at g k hk
  unfold grpV
  generalize hcs : #[Value.bool (g 0), Value.bool (g 1), Value.bool (g 2), Value.bool (g 3), Value.bool (g 4), Value.bool (g 5), Value.bool (g 6), Value.bool (g 7), Value.bool (g 8), Value.bool (g 9), Value.bool (g 10), Value.bool (g 11), Value.bool (g 12), Value.bool (g 13), Value.bool (g 14), Value.bool (g 15)] = cs
  have e2 : cs[k]? = some (.bool (g k)) := by rw [← hcs]; exact e
  simp [Instr.index, asIntOf, run_underlying Try.underlying47, part, e2, go_sem]
  omega

set_option maxRecDepth 10000 in
set_option maxHeartbeats 1000000 in
theorem rising_any (g : Nat → Bool) (w : World) :
    Calls Try.prog 33 #[grpV g] w fun e w' => ∃ r, e = .returned r ∧ Own w.heap.size w w' r (setL g) := by
  obtain ⟨w1, Hw1⟩ : ∃ w1, Hid (w.alloc (.cells (grpC g) 47) = w1) := ⟨_, rfl⟩
  have hG : GrpAt w1 w.heap.size g := by rw [← Hw1.out]; exact grpAt_new w g
  have hB : Below w.heap.size w w1 := by rw [← Hw1.out]; exact below_new _ _
  have HS : Hid _ := setTo_succ g
  have HL : Hid _ := setTo_length g
  have O0 : Own w.heap.size w w1 (.slice none 0 0) (setTo g 0) := Own.nil_of hB hB.size
  go_enter Try.func33, Try.ntmps33
  go_upto_region 1 with fail
  rw [Hw1.out]
  clear Hw1
  go_wp2_with (refine wpList_load_grp rfl _ rfl w.heap.size g rfl hG ?_)
  go_loopw [3, 7] (fun v i wr => ∃ k : Nat, k ≤ 16 ∧ i = .int .i64 k ∧ Own w.heap.size w wr v (setTo g k)) (fun _ i _ => 16 - (intOf i).toNat)
  case atStart => exact ⟨0, Nat.zero_le _, rfl, O0⟩
  case round =>
    clear O0
    obtain ⟨k, hk, rfl, hO⟩ := hrel
    by_cases hkn : k < 16
    · have hi := index_grp wr g k hkn
      have Hs : Hid _ := HS.out k
      have Hl : Hid _ := HL.out k
      clear HS HL
      cases hgk : g k
      · have R : Hid (setTo g (k + 1) = setTo g k) := by show _ = _; rw [Hs.out, hgk]; simp
        rw [hgk] at hi
        clear Hs Hl hgk
        go_wp2
        go_roundw
        case rel => exact ⟨k + 1, by omega, by go_num, by rw [R.out]; exact hO⟩
        case measure => simp [intOf]; omega
      · have R : Hid (setTo g (k + 1) = setTo g k ++ [(k : Int)]) := by show _ = _; rw [Hs.out, hgk]; simp
        rw [hgk] at hi
        clear Hs hgk
        go_wp2_with (at_builtin; refine wp_append_int rfl _ _ rfl w.heap.size w _ _ _ (k : Int) hO rfl rfl (by have := Hl.out; omega) ?_; intro v' w3 hO3)
        go_roundw
        case rel => exact ⟨k + 1, by omega, by go_num, by rw [R.out]; exact hO3⟩
        case measure => simp [intOf]; omega
    · obtain rfl : k = 16 := by omega
      go_wp2
      go_ret
      exact ⟨_, rfl, hO⟩

end Go.Proofs.Ytnklepfommakpaa
