/- The law FlowTells, walked: it answers true, and writes nothing that was there. -/
import Derived.Test.YtdaigbamgplboaaFlowDev
namespace Go.Proofs.Ytdaigbamgplboaa
open Go.RowKit
set_option linter.unusedVariables false

theorem below_drew1 (w : World) : Below w.heap.size w w.drew := below_drewN (Below.refl _ _) 1

/-- Whether the first k are 0, where nothing was wrong. -/
def zeroTo (p : List Int × Int) (k : Nat) : Bool := (p.2 == 0) && (p.1.take k).all fun x => x == 0
theorem zeroTo_succ (p : List Int × Int) (k : Nat) (h : k < p.1.length) : zeroTo p (k + 1) = (zeroTo p k && (nth p.1 k == 0)) := by
  unfold zeroTo
  rw [List.take_succ_eq_append_getElem h, List.all_append]
  simp [nth, List.getD, List.getElem?_eq_getElem h, Bool.and_assoc]
theorem zeroTo_all (n : NetL) (c : List Int) (k : Nat) (h : (effectL n c).1.length ≤ k) : zeroTo (effectL n c) k = roundL n c := by
  unfold zeroTo roundL; rw [List.take_of_length_le h]

set_option maxHeartbeats 4000000 in
theorem flowTells_walk (v s u yv : Value) (n : NetL) (seq cts y : List Int) (w : World) (hv : Net w v n) (hs : Ints w s seq) (hu : Ints w u cts) (hy : Ints w yv y)
    (hbn : BulkNet n) (hbs : seq.length ≤ 1048576) (hbu : cts.length ≤ 1048576) (hby : y.length ≤ 1048576) :
    Calls Try.prog 3 #[v, s, u, yv] w fun e w' => e = .returned (.bool true) ∧ Below w.heap.size w w' := by
  have hsm := hbn.small
  obtain ⟨tv, rfl, hT⟩ := hv
  have c := below_new w (.cells #[.int .i64 n.places, tv] 24)
  have hbx := box2_new w (.int .i64 n.places) tv 24
  have hv : Net _ (.agg #[.int .i64 n.places, tv]) n := ⟨_, rfl, hT.below c⟩
  replace hs := hs.below c
  replace hu := hu.below c
  replace hy := hy.below c
  clear hT
  go_enter Try.func3, Try.ntmps3
  go_wp2_with fail
  refine (flow_effect _ _ n cts _ (by exact hv) (by exact hu)).mono ?_
  rintro e w1 ⟨r1, rfl, hr1, b⟩
  replace hv := hv.below b
  replace hs := hs.below b
  replace hu := hu.below b
  replace hy := hy.below b
  replace hbx := hbx.below b
  replace c := below_then c b
  clear b
  obtain ⟨x0, x1, x2⟩ := id hbx
  go_wp2_with fail
  refine (ceffect_any _ _ n cts _ (by exact hv) (by exact hu) hsm).mono ?_
  rintro e w2 ⟨r2, rfl, hr2, b⟩
  replace hv := hv.below b
  replace hs := hs.below b
  replace hu := hu.below b
  replace hy := hy.below b
  replace hbx := hbx.below b
  replace hr1 := hr1.below b
  replace c := below_then c b
  clear b x0 x1 x2
  have Hst : Hid _ := zeroTo_succ (effectL n cts)
  have Hall : Hid _ := zeroTo_all n cts
  have H0 : Hid (((effectL n cts).2 == 0) = zeroTo (effectL n cts) 0) := by show _ = _; simp [zeroTo]
  generalize effectL n cts = q at *
  obtain ⟨zs, cd⟩ := q
  simp only at hr1 hr2 H0 ⊢
  obtain ⟨az, lz, cz, rfl, hlz, hmz, _, hrz⟩ := id hr2
  go_wp2_with fail
  rw [H0.out]
  go_loop [13, 32] (fun o i => ∃ j : Nat, j ≤ lz ∧ i = .int .i64 j ∧ o = .bool (zeroTo (zs, cd) j)) (fun _ i => lz - (intOf i).toNat)
  case atStart => exact ⟨0, Nat.zero_le _, rfl, rfl⟩
  case round =>
    obtain ⟨j, hj, rfl, rfl⟩ := hrel
    by_cases hjn : j < lz
    · obtain ⟨b, off, rfl, _, hc⟩ := hrz j (by omega)
      have Hs : Hid _ := Hst.out j (by show j < zs.length; omega)
      clear hrz Hst Hall H0
      cases hA : zeroTo (zs, cd) j
      · have F : Hid (zeroTo (zs, cd) (j + 1) = false) := by show _ = _; rw [Hs.out, hA]; rfl
        clear Hs hA
        go_wp2
        go_round
        case rel => exact ⟨j + 1, by omega, by go_num, by rw [F.out]⟩
        case measure => simp [intOf]; omega
      · have F : Hid (zeroTo (zs, cd) (j + 1) = (nth zs j == 0)) := by show _ = _; rw [Hs.out, hA]; rfl
        clear Hs hA
        go_wp2
        go_round
        case rel => exact ⟨j + 1, by omega, by go_num, by rw [F.out]⟩
        case measure => simp [intOf]; omega
    · have F : Hid (zeroTo (zs, cd) j = roundL n cts) := Hall.out j (by show zs.length ≤ j; omega)
      rw [F.out]
      clear F Hst Hall H0 hrz
      have cc : (cd == cd) = true := by simp
      obtain ⟨x0, x1, x2⟩ := id hbx
      go_wp2_with fail
      go_region_held3 (fun w' => w'.cell? ⟨w.heap.size, 0, none⟩ = some (.int .i64 n.places) ∧ w'.cell? ⟨w.heap.size, 1, none⟩ = some tv)
        (go_keep)
        (first
          | (go_at_call 12; refine (flow_count _ _ n seq _ ?_ ?_).mono ?_; exact hv.below (below_drew1 _); exact hs.below (below_drew1 _); rintro e w3 ⟨r3, rfl, hr3, q3⟩; have q3 := below_then (below_drew1 _) q3; have y31 := (q3.cell (p := ⟨w.heap.size, 0, none⟩) x0).trans x1; have y32 := (q3.cell (p := ⟨w.heap.size, 1, none⟩) x0).trans x2)
          | (go_at_call 13; refine (ccount_any _ _ n seq _ ?_ ?_).mono ?_; exact hv.below q3; exact hs.below q3; rintro e w4 ⟨r4, rfl, hO4⟩; have hr4 := hO4.ints (by rw [countL, countTo_length]; have := hbn.1; omega); have q4 := below_then q3 hO4.2.1; replace hr3 := hr3.below hO4.2.1; have y41 := (q4.cell (p := ⟨w.heap.size, 0, none⟩) x0).trans x1; have y42 := (q4.cell (p := ⟨w.heap.size, 1, none⟩) x0).trans x2)
          | (go_at_call_of 11 r3; refine (equal_b _ _ _ _ _ hr3 hr4).mono ?_; rintro e w5 ⟨rfl, q5⟩; rw [beq_self_eq_true]; have q5 := below_then q4 q5; have y51 := (q5.cell (p := ⟨w.heap.size, 0, none⟩) x0).trans x1; have y52 := (q5.cell (p := ⟨w.heap.size, 1, none⟩) x0).trans x2)
          | (go_at_call_of 11 r1; refine (equal_b _ _ zs zs _ (hr1.below q5) (hr2.below q5)).mono ?_; rintro e w6 ⟨rfl, q6⟩; rw [beq_self_eq_true]; have q6 := below_then q5 q6; have y61 := (q6.cell (p := ⟨w.heap.size, 0, none⟩) x0).trans x1; have y62 := (q6.cell (p := ⟨w.heap.size, 1, none⟩) x0).trans x2)
          | (go_at_call 14; refine (flow_weigh _ _ y seq _ (hy.below q6) (hs.below q6)).mono ?_; rintro e w7 ⟨rfl, q7⟩; have q7 := below_then q6 q7; have y71 := (q7.cell (p := ⟨w.heap.size, 0, none⟩) x0).trans x1; have y72 := (q7.cell (p := ⟨w.heap.size, 1, none⟩) x0).trans x2)
          | (go_at_call 15; refine (cweigh_any y seq _ _ _ (hy.below q7) (hs.below q7)).mono ?_; rintro e w8 ⟨rfl, q8⟩; have q8 := below_then q7 q8; have y81 := (q8.cell (p := ⟨w.heap.size, 0, none⟩) x0).trans x1; have y82 := (q8.cell (p := ⟨w.heap.size, 1, none⟩) x0).trans x2)
          | (go_at_call 16; refine (flow_kept _ _ n y _ (hv.below q8) (hy.below q8)).mono ?_; rintro e w9 ⟨rfl, q9⟩; have q9 := below_then q8 q9; have y91 := (q9.cell (p := ⟨w.heap.size, 0, none⟩) x0).trans x1; have y92 := (q9.cell (p := ⟨w.heap.size, 1, none⟩) x0).trans x2)
          | (go_at_call 17; refine (ckept_any _ _ n y _ (hv.below q9) (hy.below q9) hsm).mono ?_; rintro e wa ⟨rfl, qa⟩; have qa := below_then q9 qa; have ya1 := (qa.cell (p := ⟨w.heap.size, 0, none⟩) x0).trans x1; have ya2 := (qa.cell (p := ⟨w.heap.size, 1, none⟩) x0).trans x2)
          | (go_at_call 18; refine (flow_round _ _ n cts _ (hv.below qa) (hu.below qa)).mono ?_; rintro e wb ⟨rfl, qb⟩; have qb := below_then qa qb; have yb1 := (qb.cell (p := ⟨w.heap.size, 0, none⟩) x0).trans x1; have yb2 := (qb.cell (p := ⟨w.heap.size, 1, none⟩) x0).trans x2))
      have R := below_then c qb
      go_wp2
      go_ret
      exact ⟨by simp, R⟩

end Go.Proofs.Ytdaigbamgplboaa
