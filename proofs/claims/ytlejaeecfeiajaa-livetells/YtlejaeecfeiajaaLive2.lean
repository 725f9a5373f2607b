/- The answers of the document itself for live: who comes where. -/
import Derived.Test.YtlejaeecfeiajaaLive1
import Derived.Test.YtlejaeecfeiajaaMat
namespace Go.Proofs.Ytlejaeecfeiajaa
open Go.RowKit
set_option linter.unusedVariables false

set_option maxHeartbeats 4000000 in
theorem greach_any (v : Value) (s : SpaceZ) (w : World) (hv : SpaceV w v s) (hr : rightS s = true) :
    Calls Try.prog 36 #[v] w fun e w' => ∃ b rb M, e = .returned (.slice (some ⟨b, 0, none⟩) s.marks.length s.marks.length) ∧ MatR w' b s.marks.length rb M ∧ IsReach s M ∧ Below w.heap.size w w' := by
  obtain ⟨hN, mv, av, rfl, hM, hA⟩ := hv
  obtain ⟨am, cm, rfl, hlm, _⟩ := hM.slice
  obtain ⟨aa, ca, rfl, hla⟩ := hA.slice
  obtain ⟨n, Hn⟩ : ∃ n, Hid (s.marks.length = n) := ⟨_, rfl⟩
  obtain ⟨la, Hla⟩ : ∃ la, Hid (s.arcs.length = la) := ⟨_, rfl⟩
  have HR : Hid (rightS s = true) := hr
  rw [Hn.out] at hN ⊢
  rw [Hla.out] at hA hla ⊢
  clear hM hr hlm
  have c := below_new w (.cells #[.slice am n cm, .slice aa la ca] 25)
  have hbx := box2_new w (.slice am n cm) (.slice aa la ca) 25
  replace hA := hA.below c
  obtain ⟨W0, HW0⟩ : ∃ W0, Hid (w.alloc (.cells #[.slice am n cm, .slice aa la ca] 25) = W0) := ⟨_, rfl⟩
  rw [HW0.out] at c hbx hA
  go_enter Try.func36, Try.ntmps36
  go_upto_region 1 with fail
  rw [HW0.out]
  clear HW0
  obtain ⟨x0, x1, x2⟩ := id hbx
  obtain ⟨w1, hmk, hb1, hs1, hc1⟩ := make_rows W0 n hN
  have H0 : Hid (MatAt W0.heap.size W0 w1 n (fun _ => 0) 0 (fun i j => decide (i = j))) := matAt_new hb1 hs1 hc1 _ _
  go_wp2_with fail
  clear hmk hb1 hs1 hc1 x0 x1 x2
  go_loopg [15] n (fun g i wr => ∃ k : Nat, k + g = n ∧ i = .int .i64 k ∧ ∃ rb, MatAt W0.heap.size W0 wr n rb k (fun i j => decide (i = j)))
  case atStart => exact ⟨0, by omega, rfl, _, H0.out⟩
  case round =>
    clear H0
    obtain ⟨k, hkg, rfl, rb, hF⟩ := hrel
    by_cases hkn : k < n
    · obtain ⟨w2, hmk, hb2, hs2, hc2⟩ := make_bools wr n hN
      have hG := hF.grow hkn hb2 hs2 hc2
      have hF2 := hF.to hb2
      obtain ⟨x0, x1, x2⟩ := hbx.below hF.below
      obtain ⟨⟨u, o1⟩, o2⟩ := hF2.outer k hkn
      have hsz := hF.size
      have q1 : (w2.setCell ⟨W0.heap.size, k, none⟩ (.slice (some ⟨wr.heap.size, 0, none⟩) n n)).cell? ⟨W0.heap.size, k, none⟩ = some (.slice (some ⟨wr.heap.size, 0, none⟩) n n) := World.cell?_setCell_same _ _ _ o1
      have q2 : (w2.setCell ⟨W0.heap.size, k, none⟩ (.slice (some ⟨wr.heap.size, 0, none⟩) n n)).cell? ⟨wr.heap.size, k, none⟩ = some (.bool false) := by
        rw [World.cell?_setCell_other _ _ _ _ (by intro q; injection q with q1 _; omega)]; exact (hc2 k hkn).1
      have q3 : (w2.setCell ⟨W0.heap.size, k, none⟩ (.slice (some ⟨wr.heap.size, 0, none⟩) n n)).frozen? ⟨wr.heap.size, k, none⟩ = false := by
        rw [World.frozen?_setCell]; exact (hc2 k hkn).2
      obtain ⟨wx, Hwx⟩ : ∃ wx, Hid (w2.setCell ⟨W0.heap.size, k, none⟩ (.slice (some ⟨wr.heap.size, 0, none⟩) n n) = wx) := ⟨_, rfl⟩
      rw [Hwx.out] at q1 q2 q3 hG
      clear hF hF2 hb2 hs2 hc2 hsz
      go_upto_region 6 with fail
      rw [Hwx.out]
      clear Hwx hmk o1 o2 x0 x1 x2
      go_wp2
      go_roundg (gk - 1)
      case measure => omega
      case rel => exact ⟨k + 1, by omega, by go_num, _, hG⟩
    · obtain rfl : n = k := by omega
      obtain ⟨N0, HN0⟩ : ∃ N0, Hid (falF (fun i j => decide (i = j)) s.marks.length s.marks.length + 1 = N0) := ⟨_, rfl⟩
      have HI : Hid (MatAt W0.heap.size W0 wr n rb n (fun i j => decide (i = j))) := hF
      clear hF
      go_wp2_with fail
      go_loopg [5] N0 (fun g ag wr => ∃ M again, ag = .bool again ∧ MatAt W0.heap.size W0 wr n rb n M ∧ Hid (MatOk s M ∧ (again = true → falF M s.marks.length s.marks.length < g) ∧ (again = false → IsReach s M)))
      case atStart => exact ⟨_, true, rfl, HI.out, MatOk.start s, fun _ => by have := HN0.out; omega, fun h => by cases h⟩
      case round =>
        clear HI
        obtain ⟨M, again, rfl, hF, HM⟩ := hrel
        obtain ⟨G, hGk⟩ : ∃ G, G = gk := ⟨_, rfl⟩
        subst hGk
        cases again
        · have R := below_then c hF.below
          have R2 := hF.read
          have R3 : IsReach s M := HM.out.2.2 rfl
          clear hF HM
          go_wp2
          go_ret
          exact ⟨_, _, _, rfl, R2, R3, R⟩
        · obtain ⟨x0, x1, x2⟩ := hbx.below hF.below
          have HG : Hid (falF M s.marks.length s.marks.length < G) := HM.out.2.1 rfl
          have HP0 : Hid (Pass s M M false 0 0) := Pass.start HM.out.1
          clear HM
          have HF0 : Hid _ := hF
          clear hF
          go_wp2_with fail
          clear x0 x1 x2
          go_loopg [5, 36] la (fun g ag i wr => ∃ p again M', p + g = la ∧ i = .int .i64 (p : Nat) ∧ ag = .bool again ∧ MatAt W0.heap.size W0 wr n rb n M' ∧ Hid (Pass s M M' again p 0))
          case atStart => exact ⟨0, false, M, by omega, rfl, rfl, HF0.out, HP0⟩
          case round =>
            clear HF0 HP0
            obtain ⟨p, again, M1, hpg, rfl, rfl, hF, HP⟩ := hrel
            obtain ⟨G1, hGk⟩ : ∃ G1, G1 = gk := ⟨_, rfl⟩
            subst hGk
            by_cases hpn : p < la
            · have Hpl : Hid (p < s.arcs.length) := by have := Hla.out; show p < s.arcs.length; omega
              obtain ⟨b1, o1, rfl, _, c0, c1, c2⟩ := (hA.below hF.below).at Hpl.out
              obtain ⟨A, HA⟩ : ∃ A, Hid (s.arcs[p]'Hpl.out = A) := ⟨_, rfl⟩
              have Hrt := rightS_iff.1 HR.out _ (List.getElem_mem Hpl.out)
              obtain ⟨x, y, z⟩ := A
              rw [HA.out] at c0 c1 c2 Hrt
              simp only at c0 c1 c2 Hrt
              obtain ⟨r1, r2, r3, r4⟩ := Hrt
              rw [Hn.out] at r2 r4
              obtain ⟨f, rfl⟩ := Int.eq_ofNat_of_zero_le r1
              obtain ⟨b, rfl⟩ := Int.eq_ofNat_of_zero_le r3
              have hfn : f < n := by omega
              have hbn : b < n := by omega
              clear r1 r2 r3 r4
              have bn := below_new wr (.cells #[.int .i64 f, .int .i64 y, .int .i64 b] 44)
              have hb3 := box3_new wr (.int .i64 f) (.int .i64 y) (.int .i64 b) 44
              have HB : Hid (∀ i, i < n → rb i ≠ wr.heap.size) := fun i hi => by have := (hF.newer i hi).2; omega
              have HF1 : Hid _ := hF.to bn
              clear bn hF
              go_wp2_with fail
              obtain ⟨B7, HB7⟩ : ∃ B7, Hid (wr.heap.size = B7) := ⟨_, rfl⟩
              rw [HB7.out] at hb3 HB ⊢
              clear c0 c1 c2
              go_loopg [5, 42] n (fun g ag i wr => ∃ k again M', k + g = n ∧ i = .int .i64 (k : Nat) ∧ ag = .bool again ∧ MatAt W0.heap.size W0 wr n rb n M' ∧ Box3 wr B7 (.int .i64 f) (.int .i64 y) (.int .i64 b) ∧ Hid (Pass s M M' again p k))
              case atStart => exact ⟨0, again, M1, by omega, rfl, rfl, HF1.out, hb3, HP⟩
              case round =>
                clear HF1 HP hb3
                obtain ⟨k, again, M2, hkg, rfl, rfl, hF, hb3, HP⟩ := hrel
                by_cases hkn : k < n
                · obtain ⟨z0, z1, z2, z3⟩ := id hb3
                  have e1 := hF.rows k hkn
                  have e2 := hF.cells k f hkn hfn
                  have e3 := hF.cells k b hkn hbn
                  have e4 := hF.frozen k b hkn hbn
                  have HS : Hid ((M2 k f = true → M2 k b = true) → Pass s M M2 again p (k + 1)) := fun h => HP.out.skip Hpl.out HA.out h
                  have HPu : Hid (M2 k f = true → M2 k b = false → Pass s M (upd2 M2 k b) true p (k + 1)) := fun h1 h2 => HP.out.put Hpl.out HA.out (by rw [Hn.out]; exact hkn) (by rw [Hn.out]; exact hfn) (by rw [Hn.out]; exact hbn) h1 h2
                  clear HP
                  cases h1 : M2 k f
                  · rw [h1] at e2
                    have R : Hid _ := HS.out (fun h => by rw [h1] at h; cases h)
                    clear HS HPu
                    go_wp2_with fail
                    go_quiet (fail)
                    have bq := below_drewN (Below.refl wr.heap.size wr) nq
                    have hF2 := hF.to bq
                    have hb32 := hb3.below bq
                    clear hF hb3 bq e1 e2 e3 e4 z0 z1 z2 z3
                    go_wp2
                    go_roundg (gk - 1)
                    case measure => omega
                    case rel => exact ⟨k + 1, again, M2, by omega, by go_num, rfl, hF2, hb32, R⟩
                  · rw [h1] at e2
                    cases h2 : M2 k b
                    · rw [h2] at e3
                      have R : Hid _ := HPu.out h1 h2
                      clear HS HPu
                      go_wp2_with fail
                      go_quiet (fail)
                      have bq := below_drewN (Below.refl wr.heap.size wr) nq
                      obtain ⟨wq, Hwq⟩ : ∃ wq, Hid (wr.drewN nq = wq) := ⟨_, rfl⟩
                      rw [Hwq.out] at bq ⊢
                      clear Hwq e1 e2 e3 e4 z0 z1 z2 z3
                      replace hF := hF.to bq
                      replace hb3 := hb3.below bq
                      clear bq
                      obtain ⟨z0, z1, z2, z3⟩ := id hb3
                      have e1 := hF.rows k hkn
                      have e3 := hF.cells k b hkn hbn
                      rw [h2] at e3
                      have e4 := hF.frozen k b hkn hbn
                      have bd : Below wq.heap.size (wq.setCell ⟨rb k, b, none⟩ (.bool true)) (wq.setCell ⟨rb k, b, none⟩ (.bool true)).drew := (Below.refl _ _).drew
                      have R2 := (hF.put hkn hbn).to (by simpa [World.setCell] using bd)
                      have R3 := (box3_put (u := .bool true) (p := ⟨rb k, b, none⟩) hb3 (HB.out k hkn)).below (by simpa [World.setCell] using bd)
                      clear hF hb3 bd
                      go_wp2_with fail
                      go_region
                      clear e1 e3 e4 z0 z1 z2 z3
                      go_wp2
                      go_roundg (gk - 1)
                      case measure => omega
                      case rel => exact ⟨k + 1, true, upd2 M2 k b, by omega, by go_num, rfl, R2, R3, R⟩
                    · rw [h2] at e3
                      have R : Hid _ := HS.out (fun _ => h2)
                      clear HS HPu
                      go_wp2_with fail
                      go_quiet (fail)
                      have bq := below_drewN (Below.refl wr.heap.size wr) nq
                      have hF2 := hF.to bq
                      have hb32 := hb3.below bq
                      clear hF hb3 bq e1 e2 e3 e4 z0 z1 z2 z3
                      go_wp2
                      go_roundg (gk - 1)
                      case measure => omega
                      case rel => exact ⟨k + 1, again, M2, by omega, by go_num, rfl, hF2, hb32, R⟩
                · obtain rfl : n = k := by omega
                  have R : Hid _ := HP.out.next (by rw [Hn.out]; exact Nat.le_refl _)
                  clear HP
                  go_wp2
                  go_roundg (G1 - 1)
                  case measure => omega
                  case rel => exact ⟨p + 1, again, M2, by omega, by go_num, rfl, hF, R⟩
            · have R : Hid (MatOk s M1 ∧ (again = true → falF M1 s.marks.length s.marks.length < G - 1) ∧ (again = false → IsReach s M1)) := by
                refine ⟨HP.out.1, fun h => ?_, fun h => ?_⟩
                · subst h
                  have h2 : falF M1 s.marks.length s.marks.length < falF M s.marks.length s.marks.length := HP.out.2
                  have := HG.out
                  omega
                · subst h
                  exact HP.out.reach HR.out (by have := Hla.out; omega)
              have hG0 : 0 < G := by have := HG.out; omega
              clear HP HG
              go_wp2
              go_roundg (G - 1)
              case measure => omega
              case rel => exact ⟨M1, again, rfl, hF, R⟩

end Go.Proofs.Ytlejaeecfeiajaa
