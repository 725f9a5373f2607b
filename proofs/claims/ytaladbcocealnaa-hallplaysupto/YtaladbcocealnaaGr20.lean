import Derived.Test.YtaladbcocealnaaGr17
import Derived.Test.YtaladbcocealnaaGr13
import Derived.Test.YtaladbcocealnaaGr14
import Derived.Test.YtaladbcocealnaaGr01
import Derived.Deep.RegionHeld3
import Derived.Test.YtaladbcocealnaaGr05
import Derived.Test.YtaladbcocealnaaGr00
/- Package cases as it landed: whether a case is right; where one begins. (Made by tools/gen_casedev1.py.) -/
namespace Go.Proofs.Ytaladbcocealnaa
open Go.RowKit
set_option linter.unusedVariables false
set_option linter.unusedSimpArgs false
set_option maxRecDepth 4000

theorem boxesNC (w : World) (x y a b : Value) : ∃ w0, Hid ((w.alloc (.cells #[x, y] 24)).alloc (.cells #[a, b] 29) = w0) ∧ Box2 w0 w.heap.size x y ∧ Box2 w0 (w.heap.size + 1) a b ∧ Below w.heap.size w w0 := by
  have b1 := below_new w (.cells #[x, y] 24)
  have h1 := box2_new w x y 24
  obtain ⟨w1, H1⟩ : ∃ w1, w.alloc (.cells #[x, y] 24) = w1 := ⟨_, rfl⟩
  have s1 : w1.heap.size = w.heap.size + 1 := by rw [← H1]; simp
  rw [H1] at b1 h1 ⊢
  have b2 := below_new w1 (.cells #[a, b] 29)
  have h2 := box2_new w1 a b 29
  rw [s1] at h2
  exact ⟨_, rfl, h1.below b2, h2, below_then b1 b2⟩

set_option maxHeartbeats 1000000 in
theorem cases_right (v u : Value) (n : NetL) (c : CaseL) (w : World) (hv : Net w v n) (hu : CaseV w u c) : Calls Try.prog 75 #[v, u] w fun e w' => e = .returned (.bool (rightC n c)) ∧ Below w.heap.size w w' := by
  obtain ⟨tv, rfl, hT⟩ := hv
  obtain ⟨a, l, p, a', l', p', rfl, h1, h2⟩ := hu
  obtain ⟨w0, Hw0, hbx, hby, c0⟩ := boxesNC w (.int .i64 n.places) tv (.slice a l p) (.slice a' l' p')
  have hv : Net w0 (.agg #[.int .i64 n.places, tv]) n := ⟨_, rfl, hT.below c0⟩
  replace h1 := h1.below c0
  replace h2 := h2.below c0
  obtain ⟨ta, len, tc, rfl, hlen, _⟩ := id hT
  have Hr : Hid (rightC n c = ((netOk n && ((l : Int) == n.places) && rightL c.mark) && (l' == len) && rightL c.busy)) := by
    show _ = _
    rw [← len_of_ints h1, ← len_of_ints h2, ← hlen]
    rfl
  clear hT hlen
  obtain ⟨x0, x1, x2⟩ := id hbx
  obtain ⟨y0, y1, y2⟩ := id hby
  go_enter Try.func75, Try.ntmps75
  go_upto_region 1 with fail
  rw [Hw0.out]
  clear Hw0
  go_wp2_with fail
  refine (net_wrong _ n w0 (by exact hv)).mono ?_
  rintro e w1 ⟨rfl, b⟩
  replace c0 := below_then c0 b
  replace h1 := h1.below b
  replace h2 := h2.below b
  replace hbx := hbx.below b
  replace hby := hby.below b
  clear b x0 x1 x2 y0 y1 y2 hv
  obtain ⟨x0, x1, x2⟩ := id hbx
  obtain ⟨y0, y1, y2⟩ := id hby
  cases hn : netOk n
  · have R : Hid (rightC n c = false) := by show _ = _; rw [Hr.out, hn]; rfl
    rw [wrongL_not hn]
    clear hn Hr
    go_wp2
    go_ret
    exact ⟨ret_bool R.out.symm, c0⟩
  · rw [wrongL_ok hn]
    cases hm : ((l : Int) == n.places)
    · have R : Hid (rightC n c = false) := by show _ = _; rw [Hr.out, hn, hm]; rfl
      clear hn Hr
      go_wp2
      go_ret
      exact ⟨ret_bool R.out.symm, c0⟩
    · have hm2 : ((l : Int) != n.places) = false := by simp [bne, hm]
      by_cases hll : l' = len
      · subst hll
        have R : Hid (rightC n c = (rightL c.mark && rightL c.busy)) := by show _ = _; rw [Hr.out, hn, hm]; simp
        clear hn Hr hm
        go_wp2_with fail
        refine (right_any _ c.mark w1 (by exact h1)).mono ?_
        rintro e w2 ⟨rfl, rfl⟩
        cases hrm : rightL c.mark
        · rw [hrm] at R
          go_wp2
          go_ret
          exact ⟨ret_bool R.out.symm, c0⟩
        · rw [hrm] at R
          go_wp2_with fail
          refine (right_any _ c.busy _ (by exact h2)).mono ?_
          rintro e w3 ⟨rfl, rfl⟩
          go_wp2
          go_ret
          exact ⟨ret_bool R.out.symm, c0⟩
      · have R : Hid (rightC n c = false) := by show _ = _; rw [Hr.out, hn]; simp [hll]
        have hll' : ((l' : Int) == (len : Int)) = false := by
          rw [beq_eq_false_iff_ne]; omega
        clear hn Hr hll hm
        go_wp2
        go_ret
        exact ⟨ret_bool R.out.symm, c0⟩

set_option maxHeartbeats 2000000 in
theorem cases_begin_own (v : Value) (n : NetL) (i : Int) (w : World) (hv : Net w v n) :
    Calls Try.prog 32 #[v, .int .i64 i] w fun e w' => GivesCF w (beginC n i) e w' := by
  obtain ⟨tv, rfl, hT⟩ := hv
  obtain ⟨ta, len, tc, rfl, hlen, hmx, _⟩ := id hT
  have b1 := below_new w (.cells #[.int .i64 n.places, .slice ta len tc] 24)
  have hbx := box2_new w (.int .i64 n.places) (.slice ta len tc) 24
  obtain ⟨wa, Hwa⟩ : ∃ wa, Hid (w.alloc (.cells #[.int .i64 n.places, .slice ta len tc] 24) = wa) := ⟨_, rfl⟩
  have ea : wa.heap.size = w.heap.size + 1 := by rw [← Hwa.out]; simp
  rw [Hwa.out] at b1 hbx
  have b2 := below_new wa (.cells #[.slice none 0 0, .slice none 0 0] 29)
  have hR := resC_new wa
  rw [ea] at hR
  obtain ⟨w0, Hw0⟩ : ∃ w0, Hid ((w.alloc (.cells #[.int .i64 n.places, .slice ta len tc] 24)).alloc (.cells #[.slice none 0 0, .slice none 0 0] 29) = w0) := ⟨_, rfl⟩
  have hw0 : wa.alloc (.cells #[.slice none 0 0, .slice none 0 0] 29) = w0 := by rw [← Hwa.out]; exact Hw0.out
  rw [hw0] at b2 hR
  replace hbx := hbx.below b2
  have c := below_then b1 b2
  have hv : Net w0 (.agg #[.int .i64 n.places, .slice ta len tc]) n := ⟨_, rfl, hT.below c⟩
  clear hT b1 b2 Hwa ea hw0
  obtain ⟨x0, x1, x2⟩ := id hbx
  go_enter Try.func32, Try.ntmps32
  go_upto_region 1 with fail
  rw [Hw0.out]
  clear Hw0
  go_wp2_with fail
  refine (net_wrong _ n w0 (by exact hv)).mono ?_
  rintro e w1 ⟨rfl, b⟩
  replace c := below_then c b
  replace hv := hv.below b
  replace hbx := hbx.below b
  replace hR := hR.below b
  clear b x0 x1 x2
  obtain ⟨x0, x1, x2⟩ := id hbx
  obtain ⟨q1, q2, q3, q4, q5⟩ := hR.facts
  obtain ⟨W2, HW2⟩ : ∃ W2, Hid ((w1.setCell ⟨w.heap.size + 1, 0, none⟩ (.slice none 0 0)).setCell ⟨w.heap.size + 1, 1, none⟩ (.slice none 0 0) = W2) := ⟨_, rfl⟩
  obtain ⟨z1, z2, z3, z4⟩ := hR.fill c (by omega) HW2.out (Ints.nil _) (Ints.nil _)
  cases hn : netOk n
  · have E : Hid (beginC n i = (noCase, 2)) := begin_bad hn
    rw [wrongL_not hn]
    clear hn
    go_wp2
    rw [HW2.out]
    exact bodyPost_ret (v := .tuple #[.agg #[.slice none 0 0, .slice none 0 0], .int .i64 2]) (results_case rfl rfl rfl z1 z2) rfl (givesCF_of E.out z3 (CaseFrom.none _) z4)
  · rw [wrongL_ok hn]
    by_cases hi : 0 ≤ i ∧ i < n.places
    · have E : Hid (beginC n i = (⟨startL n.places i, zerosL len⟩, 0)) := by show _ = _; rw [← hlen]; exact begin_ok hn hi
      have h1 : decide (i < 0) = false := decide_eq_false (by omega)
      have h2 : decide (n.places ≤ i) = false := decide_eq_false (by omega)
      have hl24 : len ≤ 24 ∧ (min n.places 16).toNat ≤ 16 := by
        unfold netOk headOk at hn
        simp only [Bool.and_eq_true, decide_eq_true_eq] at hn
        omega
      have HS : Hid (∀ w', Below w1.heap.size w1 w' → w'.cell? ⟨w.heap.size, 0, none⟩ = some (.int .i64 n.places) ∧ w'.cell? ⟨w.heap.size, 1, none⟩ = some (.slice ta len tc)) := fun w' h => (hbx.below h).2
      clear hn z1 z2 z3 z4 HW2 W2 hi hlen
      go_upto_region 6 with fail
      refine wp_region_held_drew (S := (fun w' => w'.cell? ⟨w.heap.size, 0, none⟩ = some (.int .i64 n.places) ∧ w'.cell? ⟨w.heap.size, 1, none⟩ = some (.slice ta len tc))) (by kernel_rfl) (HS.out _ (Below.refl _ _).drew) (fun hH => ?_)
      refine wpAnyH_take (i := 0) (v := .agg #[.int .i64 n.places, .slice ta len tc]) rfl (by kernel_rfl) (by kernel_rfl) (by kernel_rfl) (fun _ _ _ h => h) (.inl ⟨by rfl, fun w' hS' => by obtain ⟨s1, s2⟩ := hS'; go_simp⟩) hH ?_
      simp only [List.getElem_toArray, List.getElem_cons_succ, List.getElem_cons_zero, Act.put, List.setIfInBounds_toArray, List.set_cons_zero, List.set_cons_succ]
      refine wpAnyH_take (i := 1) (v := .int .i64 i) rfl (by kernel_rfl) (by kernel_rfl) (by kernel_rfl) (fun _ _ _ h => h) (.inl ⟨by rfl, fun _ _ => rfl⟩) hH ?_
      simp only [List.getElem_toArray, List.getElem_cons_succ, List.getElem_cons_zero, Act.put, List.setIfInBounds_toArray, List.set_cons_zero, List.set_cons_succ]
      refine wpAnyH_take (i := 3) (v := .pointer (some ⟨w.heap.size, 1, none⟩)) rfl (by kernel_rfl) (by kernel_rfl) (by kernel_rfl) (fun _ _ _ h => h) (.inl ⟨by rfl, fun w' hS' => by first | (go_simp; done) | (go_simp; rfl) | (go_simp; intro h; omega) | (go_simp; omega)⟩) hH ?_
      simp only [List.getElem_toArray, List.getElem_cons_succ, List.getElem_cons_zero, Act.put, List.setIfInBounds_toArray, List.set_cons_zero, List.set_cons_succ]
      refine wpAnyH_take (i := 4) (v := .slice ta len tc) rfl (by kernel_rfl) (by kernel_rfl) (by kernel_rfl) (fun _ _ _ h => h) (.inl ⟨by rfl, fun w' hS' => by obtain ⟨s1, s2⟩ := hS'; go_simp⟩) hH ?_
      simp only [List.getElem_toArray, List.getElem_cons_succ, List.getElem_cons_zero, Act.put, List.setIfInBounds_toArray, List.set_cons_zero, List.set_cons_succ]
      refine wpAnyH_take (i := 5) (v := .int .i64 (len : Int)) rfl (by kernel_rfl) (by kernel_rfl) (by kernel_rfl) (fun _ _ _ h => h) (.inl ⟨by rfl, fun w' hS' => by first | (go_simp; done) | (go_simp; rfl) | (go_simp; intro h; omega) | (go_simp; omega)⟩) hH ?_
      simp only [List.getElem_toArray, List.getElem_cons_succ, List.getElem_cons_zero, Act.put, List.setIfInBounds_toArray, List.set_cons_zero, List.set_cons_succ]
      refine wpAnyH_ready (rs := [2, 6]) (by kernel_rfl) (by simp) ?_
      refine (AllReadyH.cons rfl (fun K hK => ?_) (AllReadyH.cons rfl (fun K hK => ?_) AllReadyH.nil))
      · simp only [List.getElem_toArray, List.getElem_cons_succ, List.getElem_cons_zero]
        rw [if_pos (by rfl)]
        go_wp2_with fail
        have hd : Below w1.heap.size w1 w1.drew := (Below.refl _ _).drew
        refine (shape_start_own _ n i w1.drew (by exact hv.below hd)).mono ?_
        rintro e w2 ⟨r, rfl, hO, hO2⟩
        have b2 := below_then hd hO2
        have hI := hO.now
        obtain ⟨ra, rl, rc, rfl, _⟩ := id hI
        have hF := (on_from hO).mono (Nat.le_trans c.size hd.size)
        refine hK.out _ _ (HS.out _ b2) (fun hH => ?_)
        obtain ⟨w5, hmk, hZ0⟩ := make_intsZ w2 len (len : Int) rfl (by omega)
        obtain ⟨Bz, HBz⟩ : ∃ B, Hid (w2.heap.size = B) := ⟨_, rfl⟩
        have hBz : w.heap.size ≤ Bz := by rw [← HBz.out]; exact Nat.le_trans c.size b2.size
        rw [HBz.out] at hmk hZ0
        have b5 : Below w1.heap.size w1 w5 := below_then b2 (by rw [HBz.out]; exact hZ0.below)
        replace hI := hI.below (by rw [HBz.out]; exact hZ0.below)
        have hZ := hZ0.ints (zs := zerosL len) (zeros_length _) (fun j _ => zeros_at _ _) (by omega) (Nat.le_refl _) (by omega)
        have HS9 : Hid (∀ W9, (w5.setCell ⟨w.heap.size + 1, 0, none⟩ (.slice ra rl rc)).setCell ⟨w.heap.size + 1, 1, none⟩ (.slice (some ⟨Bz, 0, none⟩) len len) = W9 → W9.cell? ⟨w.heap.size, 0, none⟩ = some (.int .i64 n.places) ∧ W9.cell? ⟨w.heap.size, 1, none⟩ = some (.slice ta len tc)) := fun W9 e => by
          have h := HS.out _ b5
          rw [← e]
          exact ⟨by rw [World.cell?_setCell_other _ _ _ _ (by simp), World.cell?_setCell_other _ _ _ _ (by simp)]; exact h.1, by rw [World.cell?_setCell_other _ _ _ _ (by simp), World.cell?_setCell_other _ _ _ _ (by simp)]; exact h.2⟩
        refine wpAnyH_ready (rs := [6]) (by kernel_rfl) (by simp) ?_
        refine AllReadyH.cons rfl (fun K hK => ?_) AllReadyH.nil
        simp only [List.getElem_toArray, List.getElem_cons_succ, List.getElem_cons_zero]
        rw [if_pos (by rfl)]
        go_wp2_with fail
        refine hK.out _ _ (HS.out _ b5) (fun hH => ?_)
        have B5 : Below w.heap.size w w5 := below_then c b5
        have hR5 := hR.below b5
        obtain ⟨u1, u2, u3, u4, u5⟩ := hR5.facts
        obtain ⟨W9, HW9⟩ : ∃ W9, Hid ((w5.setCell ⟨w.heap.size + 1, 0, none⟩ (.slice ra rl rc)).setCell ⟨w.heap.size + 1, 1, none⟩ (.slice (some ⟨Bz, 0, none⟩) len len) = W9) := ⟨_, rfl⟩
        obtain ⟨z1, z2, z3, z4⟩ := hR5.fill B5 (by omega) HW9.out hI hZ
        refine wpAnyH_take (i := 7) (v := .agg #[.slice ra rl rc, .slice (some ⟨Bz, 0, none⟩) len len]) rfl (by kernel_rfl) (by kernel_rfl) (by kernel_rfl) (fun _ _ _ h => h) (.inl ⟨by rfl, fun w' hS' => by first | (go_simp; done) | (go_simp; rfl) | (go_simp; intro h; omega) | (go_simp; omega)⟩) hH ?_
        simp only [List.getElem_toArray, List.getElem_cons_succ, List.getElem_cons_zero, Act.put, List.setIfInBounds_toArray, List.set_cons_zero, List.set_cons_succ]
        refine wpAnyH_ready (rs := [8]) (by kernel_rfl) (by simp) ?_
        refine AllReadyH.cons rfl (fun K hK => ?_) AllReadyH.nil
        simp only [List.getElem_toArray, List.getElem_cons_succ, List.getElem_cons_zero]
        rw [if_pos (by rfl)]
        go_wp2_with fail
        rw [HW9.out]
        refine hK.out _ _ (HS9.out _ HW9.out) (fun hH => ?_)
        refine wpAnyH_take (i := 9) (v := .int .i64 0) rfl (by kernel_rfl) (by kernel_rfl) (by kernel_rfl) (fun _ _ _ h => h) (.inl ⟨by rfl, fun _ _ => rfl⟩) hH ?_
        simp only [List.getElem_toArray, List.getElem_cons_succ, List.getElem_cons_zero, Act.put, List.setIfInBounds_toArray, List.set_cons_zero, List.set_cons_succ]
        refine wpAnyH_done (by kernel_rfl) ?_ _
        go_wp2
        exact bodyPost_ret (v := .tuple #[.agg #[.slice ra rl rc, .slice (some ⟨Bz, 0, none⟩) len len], .int .i64 0]) (results_case rfl rfl rfl z1 z2) rfl (givesCF_of E.out z3 ⟨_, _, rfl, hF, SlFrom.at hBz⟩ z4)
      · simp only [List.getElem_toArray, List.getElem_cons_succ, List.getElem_cons_zero]
        rw [if_pos (by rfl)]
        have hd : Below w1.heap.size w1 w1.drew := (Below.refl _ _).drew
        obtain ⟨w2, hmk, hZ0⟩ := make_intsZ w1.drew len (len : Int) rfl (by omega)
        obtain ⟨Bz, HBz⟩ : ∃ B, Hid (w1.drew.heap.size = B) := ⟨_, rfl⟩
        have hBz : w.heap.size ≤ Bz := by rw [← HBz.out]; exact Nat.le_trans c.size hd.size
        rw [HBz.out] at hmk hZ0
        have b2 : Below w1.heap.size w1 w2 := below_then hd (by rw [HBz.out]; exact hZ0.below)
        have hZ2 := hZ0.ints (zs := zerosL len) (zeros_length _) (fun j _ => zeros_at _ _) (by omega) (Nat.le_refl _) (by omega)
        go_wp2_with fail
        refine hK.out _ _ (HS.out _ b2) (fun hH => ?_)
        refine wpAnyH_ready (rs := [2]) (by kernel_rfl) (by simp) ?_
        refine AllReadyH.cons rfl (fun K hK => ?_) AllReadyH.nil
        simp only [List.getElem_toArray, List.getElem_cons_succ, List.getElem_cons_zero]
        rw [if_pos (by rfl)]
        go_wp2_with fail
        refine (shape_start_own _ n i w2 (by exact hv.below b2)).mono ?_
        rintro e w5 ⟨r, rfl, hO, hO2⟩
        have b5 := below_then b2 hO2
        have hI := hO.now
        obtain ⟨ra, rl, rc, rfl, _⟩ := id hI
        have hF := (on_from hO).mono (Nat.le_trans c.size b2.size)
        have hZ := hZ2.below hO2
        refine hK.out _ _ (HS.out _ b5) (fun hH => ?_)
        have HS9 : Hid (∀ W9, (w5.setCell ⟨w.heap.size + 1, 0, none⟩ (.slice ra rl rc)).setCell ⟨w.heap.size + 1, 1, none⟩ (.slice (some ⟨Bz, 0, none⟩) len len) = W9 → W9.cell? ⟨w.heap.size, 0, none⟩ = some (.int .i64 n.places) ∧ W9.cell? ⟨w.heap.size, 1, none⟩ = some (.slice ta len tc)) := fun W9 e => by
          have h := HS.out _ b5
          rw [← e]
          exact ⟨by rw [World.cell?_setCell_other _ _ _ _ (by simp), World.cell?_setCell_other _ _ _ _ (by simp)]; exact h.1, by rw [World.cell?_setCell_other _ _ _ _ (by simp), World.cell?_setCell_other _ _ _ _ (by simp)]; exact h.2⟩
        have B5 : Below w.heap.size w w5 := below_then c b5
        have hR5 := hR.below b5
        obtain ⟨u1, u2, u3, u4, u5⟩ := hR5.facts
        obtain ⟨W9, HW9⟩ : ∃ W9, Hid ((w5.setCell ⟨w.heap.size + 1, 0, none⟩ (.slice ra rl rc)).setCell ⟨w.heap.size + 1, 1, none⟩ (.slice (some ⟨Bz, 0, none⟩) len len) = W9) := ⟨_, rfl⟩
        obtain ⟨z1, z2, z3, z4⟩ := hR5.fill B5 (by omega) HW9.out hI hZ
        refine wpAnyH_take (i := 7) (v := .agg #[.slice ra rl rc, .slice (some ⟨Bz, 0, none⟩) len len]) rfl (by kernel_rfl) (by kernel_rfl) (by kernel_rfl) (fun _ _ _ h => h) (.inl ⟨by rfl, fun w' hS' => by first | (go_simp; done) | (go_simp; rfl) | (go_simp; intro h; omega) | (go_simp; omega)⟩) hH ?_
        simp only [List.getElem_toArray, List.getElem_cons_succ, List.getElem_cons_zero, Act.put, List.setIfInBounds_toArray, List.set_cons_zero, List.set_cons_succ]
        refine wpAnyH_ready (rs := [8]) (by kernel_rfl) (by simp) ?_
        refine AllReadyH.cons rfl (fun K hK => ?_) AllReadyH.nil
        simp only [List.getElem_toArray, List.getElem_cons_succ, List.getElem_cons_zero]
        rw [if_pos (by rfl)]
        go_wp2_with fail
        rw [HW9.out]
        refine hK.out _ _ (HS9.out _ HW9.out) (fun hH => ?_)
        refine wpAnyH_take (i := 9) (v := .int .i64 0) rfl (by kernel_rfl) (by kernel_rfl) (by kernel_rfl) (fun _ _ _ h => h) (.inl ⟨by rfl, fun _ _ => rfl⟩) hH ?_
        simp only [List.getElem_toArray, List.getElem_cons_succ, List.getElem_cons_zero, Act.put, List.setIfInBounds_toArray, List.set_cons_zero, List.set_cons_succ]
        refine wpAnyH_done (by kernel_rfl) ?_ _
        go_wp2
        exact bodyPost_ret (v := .tuple #[.agg #[.slice ra rl rc, .slice (some ⟨Bz, 0, none⟩) len len], .int .i64 0]) (results_case rfl rfl rfl z1 z2) rfl (givesCF_of E.out z3 ⟨_, _, rfl, hF, SlFrom.at hBz⟩ z4)
    · have E : Hid (beginC n i = (noCase, 3)) := begin_none hn hi
      clear hn
      by_cases h1 : i < 0
      · clear hi
        go_wp2
        rw [HW2.out]
        exact bodyPost_ret (v := .tuple #[.agg #[.slice none 0 0, .slice none 0 0], .int .i64 3]) (results_case rfl rfl rfl z1 z2) rfl (givesCF_of E.out z3 (CaseFrom.none _) z4)
      · have h2 : n.places ≤ i := by omega
        have h1' : decide (i < 0) = false := decide_eq_false h1
        clear hi h1
        go_wp2
        rw [HW2.out]
        exact bodyPost_ret (v := .tuple #[.agg #[.slice none 0 0, .slice none 0 0], .int .i64 3]) (results_case rfl rfl rfl z1 z2) rfl (givesCF_of E.out z3 (CaseFrom.none _) z4)

theorem cases_begin (v : Value) (n : NetL) (i : Int) (w : World) (hv : Net w v n) :
    Calls Try.prog 32 #[v, .int .i64 i] w fun e w' => GivesC w (beginC n i) e w' := (cases_begin_own v n i w hv).mono fun _ _ h => h.gives

end Go.Proofs.Ytaladbcocealnaa

/- Package cases as it landed: what is done by each kind of work. (Made by tools/gen_casedev2.py.) -/
namespace Go.Proofs.Ytaladbcocealnaa
open Go.RowKit
set_option linter.unusedVariables false
set_option linter.unusedSimpArgs false
set_option maxRecDepth 4000

set_option maxHeartbeats 1000000 in
theorem once_any (v : Value) (n : NetL) (k : Nat) (w : World) (hv : Net w v n) (hk : k < n.trans.length) :
    Calls Try.prog 92 #[v, .int .i64 k] w fun e w' => ∃ r, e = .returned r ∧ Ints w' r (onceL n.trans.length k) ∧ Below w.heap.size w w' := by
  obtain ⟨tv, rfl, hT⟩ := hv
  obtain ⟨ta, len, tc, rfl, hlen, hmx, _⟩ := id hT
  have b1 := below_new w (.cells #[.int .i64 n.places, .slice ta len tc] 24)
  have hbx := box2_new w (.int .i64 n.places) (.slice ta len tc) 24
  obtain ⟨w0, Hw0⟩ : ∃ w0, Hid (w.alloc (.cells #[.int .i64 n.places, .slice ta len tc] 24) = w0) := ⟨_, rfl⟩
  rw [Hw0.out] at b1 hbx
  obtain ⟨x0, x1, x2⟩ := id hbx
  obtain ⟨w1, hmk, hZ⟩ := make_intsZ w0 len (len : Int) rfl (by omega)
  obtain ⟨B, HB⟩ : ∃ B, Hid (w0.heap.size = B) := ⟨_, rfl⟩
  have hB : w.heap.size ≤ B := by rw [← HB.out]; exact b1.size
  rw [HB.out] at hmk hZ
  have hkl : k < len := by omega
  have HL : Hid (n.trans.length = len) := hlen
  have q1 := hZ.cells k hkl
  have q2 := hZ.frozen k hkl
  have hP := hZ.put (g := fun j => if j = k then 1 else 0) hkl (x := 1) (by simp) (fun j _ hj => by simp [hj])
  have R := hP.ints (zs := onceL len k) (once_length _ _) (fun j _ => once_at hkl j) (by omega) (Nat.le_refl _) (by omega)
  have b2 := hP.below
  have c0 : Below w.heap.size w (w1.setCell ⟨B, k, none⟩ (.int .i64 1)) := b1.trans (b2.mono hB)
  clear hT hlen hZ hP b2 b1 hbx hk
  go_enter Try.func92, Try.ntmps92
  go_upto_region 1 with fail
  rw [Hw0.out]
  clear Hw0
  go_wp2
  go_ret
  exact ⟨_, rfl, by rw [HL.out]; exact R, c0⟩

theorem work_post (L : Int) (p q : Value) (w : World) : Calls Try.prog 84 #[.agg #[.int .i64 L, p, q]] w fun e w' => e = .returned q ∧ Below w.heap.size w w' := by
  have b1 := below_new w (.cells #[.int .i64 L, p, q] 80)
  obtain ⟨x0, x1, x2, x3⟩ := box3_new w (.int .i64 L) p q 80
  obtain ⟨w0, Hw0⟩ : ∃ w0, Hid (w.alloc (.cells #[.int .i64 L, p, q] 80) = w0) := ⟨_, rfl⟩
  rw [Hw0.out] at b1 x0 x1 x2 x3
  go_enter Try.func84, Try.ntmps84
  go_upto_region 1 with fail
  rw [Hw0.out]
  go_wp2
  go_ret
  exact ⟨rfl, b1⟩
theorem work_pre (L : Int) (p q : Value) (w : World) : Calls Try.prog 85 #[.agg #[.int .i64 L, p, q]] w fun e w' => e = .returned p ∧ Below w.heap.size w w' := by
  have b1 := below_new w (.cells #[.int .i64 L, p, q] 80)
  obtain ⟨x0, x1, x2, x3⟩ := box3_new w (.int .i64 L) p q 80
  obtain ⟨w0, Hw0⟩ : ∃ w0, Hid (w.alloc (.cells #[.int .i64 L, p, q] 80) = w0) := ⟨_, rfl⟩
  rw [Hw0.out] at b1 x0 x1 x2 x3
  go_enter Try.func85, Try.ntmps85
  go_upto_region 1 with fail
  rw [Hw0.out]
  go_wp2
  go_ret
  exact ⟨rfl, b1⟩

theorem boxesC (w : World) (a b : Value) : ∃ w0, Hid ((w.alloc (.cells #[a, b] 29)).alloc (.cells #[.slice none 0 0, .slice none 0 0] 29) = w0) ∧ Box2 w0 w.heap.size a b ∧ ResC w0 (w.heap.size + 1) none 0 0 none 0 0 ∧ Below w.heap.size w w0 := by
  have b1 := below_new w (.cells #[a, b] 29)
  have h1 := box2_new w a b 29
  obtain ⟨w1, H1⟩ : ∃ w1, w.alloc (.cells #[a, b] 29) = w1 := ⟨_, rfl⟩
  have s1 : w1.heap.size = w.heap.size + 1 := by rw [← H1]; simp
  rw [H1] at b1 h1 ⊢
  have b2 := below_new w1 (.cells #[.slice none 0 0, .slice none 0 0] 29)
  have h2 := resC_new w1
  rw [s1] at h2
  exact ⟨_, rfl, h1.below b2, h2, below_then b1 b2⟩

set_option maxHeartbeats 1000000 in
theorem work_skip (u tv : Value) (bn : Nat) (n : NetL) (c : CaseL) (k : Nat) (w : World) (hN : Box2 w bn (.int .i64 n.places) tv) (hT : Trans w tv n.trans) (hu : CaseV w u c) (hr : rightC n c = true) (hk : k < n.trans.length) (hl : (tranAt n.trans k).label = 0) :
    Calls Try.prog 87 #[u, .int .i64 k, .pointer (some ⟨bn, 0, none⟩)] w fun e w' => GivesCF w (doC n c 1 k) e w' := by
  have HD : Hid _ := do_skip hr hk hl
  obtain ⟨a, l, p, a', l', p', rfl, h1, h2⟩ := hu
  obtain ⟨w0, Hw0, hbc, hR, c0⟩ := boxesC w (.slice a l p) (.slice a' l' p')
  have hv : Net w0 (.agg #[.int .i64 n.places, tv]) n := ⟨_, rfl, hT.below c0⟩
  replace hN := hN.below c0
  replace h1 := h1.below c0
  replace h2 := h2.below c0
  clear hT hr hl hk
  obtain ⟨x0, x1, x2⟩ := id hN
  obtain ⟨y0, y1, y2⟩ := id hbc
  go_enter Try.func87, Try.ntmps87
  go_upto_region 1 with fail
  rw [Hw0.out]
  clear Hw0
  go_wp2_with fail
  refine (net_fire_own _ _ n c.mark k w0 (by exact hv) (by exact h1)).mono ?_
  rintro e wz ⟨r, rfl, hOn, b⟩
  have hI := hOn.now
  have hF := (on_from hOn).mono c0.size
  clear hOn
  replace c0 := below_then c0 b
  replace h2 := h2.below b
  replace hbc := hbc.below b
  replace hR := hR.below b
  clear b x0 x1 x2 y0 y1 y2 hv h1 hN
  obtain ⟨y0, y1, y2⟩ := id hbc
  obtain ⟨ra, rl, rc, rfl, _⟩ := id hI
  obtain ⟨ms, Hms⟩ : ∃ ms, Hid ((fireL n c.mark k).1 = ms) := ⟨_, rfl⟩
  obtain ⟨d, Hd⟩ : ∃ d, Hid ((fireL n c.mark k).2 = d) := ⟨_, rfl⟩
  rw [Hms.out] at hI
  rw [Hd.out]
  by_cases hd : d = 0
  · subst hd
    have E : Hid (doC n c 1 k = (⟨ms, c.busy⟩, 0)) := by show _ = _; rw [HD.out, Hd.out, Hms.out]; rfl
    clear HD Hd Hms
    go_wp2_with fail
    refine (clone_any _ c.busy wz (by exact h2)).mono ?_
    rintro e wy ⟨r2, rfl, hO⟩
    have b := hO.2.1
    have hF2 := (own_from hO).mono c0.size
    have hI2 := hO.ints (by rw [len_of_ints h2]; obtain ⟨_, _, _, e, _, hm, _⟩ := id h2; injection e with _ e2 _; omega)
    obtain ⟨ra2, rl2, rc2, rfl, _⟩ := id hI2
    replace c0 := below_then c0 b
    replace hI := hI.below b
    replace hR := hR.below b
    clear b hO h2 hbc y0 y1 y2
    obtain ⟨q1, q2, q3, q4, q5⟩ := hR.facts
    obtain ⟨W2, HW2⟩ : ∃ W2, Hid ((wy.setCell ⟨w.heap.size + 1, 0, none⟩ (.slice ra rl rc)).setCell ⟨w.heap.size + 1, 1, none⟩ (.slice ra2 rl2 rc2) = W2) := ⟨_, rfl⟩
    obtain ⟨z1, z2, z3, z4⟩ := hR.fill c0 (by omega) HW2.out (hI) (hI2)
    go_wp2
    rw [HW2.out]
    exact bodyPost_ret (v := .tuple #[.agg #[.slice ra rl rc, .slice ra2 rl2 rc2], .int .i64 0]) (results_case rfl rfl rfl z1 z2) rfl (givesCF_of E.out z3 (⟨_, _, rfl, hF, hF2⟩) z4)
  · have E : Hid (doC n c 1 k = (noCase, d)) := by show _ = _; rw [HD.out, Hd.out, if_neg hd]
    have hd' : (d == 0) = false := by simpa using hd
    have hd2 : (d != 0) = true := by simpa using hd
    clear HD Hd Hms hI h2 hbc y0 y1 y2
    obtain ⟨q1, q2, q3, q4, q5⟩ := hR.facts
    obtain ⟨W2, HW2⟩ : ∃ W2, Hid ((wz.setCell ⟨w.heap.size + 1, 0, none⟩ (.slice none 0 0)).setCell ⟨w.heap.size + 1, 1, none⟩ (.slice none 0 0) = W2) := ⟨_, rfl⟩
    obtain ⟨z1, z2, z3, z4⟩ := hR.fill c0 (by omega) HW2.out (Ints.nil _) (Ints.nil _)
    go_wp2
    rw [HW2.out]
    exact bodyPost_ret (v := .tuple #[.agg #[.slice none 0 0, .slice none 0 0], .int .i64 d]) (results_case rfl rfl rfl z1 z2) rfl (givesCF_of E.out z3 (CaseFrom.none _) z4)


set_option maxHeartbeats 4000000 in
theorem work_begin (u tv : Value) (bn : Nat) (n : NetL) (c : CaseL) (k : Nat) (w : World) (hN : Box2 w bn (.int .i64 n.places) tv) (hT : Trans w tv n.trans) (hu : CaseV w u c) (hr : rightC n c = true) (hk : k < n.trans.length) (hl : (tranAt n.trans k).label ≠ 0) :
    Calls Try.prog 89 #[u, .int .i64 k, .pointer (some ⟨bn, 0, none⟩)] w fun e w' => GivesCF w (doC n c 2 k) e w' := by
  have HD : Hid _ := do_begin hr hk hl
  obtain ⟨a, l, p, a', l', p', rfl, h1, h2⟩ := hu
  obtain ⟨w0, Hw0, hbc, hR, c0⟩ := boxesC w (.slice a l p) (.slice a' l' p')
  replace hN := hN.below c0
  replace hT := hT.below c0
  replace h1 := h1.below c0
  replace h2 := h2.below c0
  obtain ⟨ta, len, tc, rfl, hlen, hmx, _⟩ := id hT
  have hkl : k < len := by omega
  have HL : Hid (n.trans.length = len) := hlen
  have Hk : Hid (k < n.trans.length) := hk
  obtain ⟨tb, tf, c1, c2, rfl, hblt, t0, t1, t2, i1, i2⟩ := hT.at hkl
  have hv : Net w0 (.agg #[.int .i64 n.places, .slice (some ⟨tb, tf, none⟩) len tc]) n := ⟨_, rfl, hT⟩
  obtain ⟨T, HT⟩ : ∃ T, Hid (tranAt n.trans k = T) := ⟨_, rfl⟩
  rw [HT.out] at t0 i1 i2 HD
  clear hT hr hl hk hlen
  obtain ⟨x0, x1, x2⟩ := id hN
  obtain ⟨y0, y1, y2⟩ := id hbc
  go_enter Try.func89, Try.ntmps89
  go_upto_region 1 with fail
  rw [Hw0.out]
  clear Hw0 x0 x1 x2 y0 y1 y2
  go_cut [7, 8] (fun x7 x8 wc => ∃ ra rl rc, x7 = .slice ra rl rc ∧ x8 = .int .i64 (minusL c.mark T.pre).2 ∧ Ints wc (.slice ra rl rc) (minusL c.mark T.pre).1 ∧ SlFrom w.heap.size (.slice ra rl rc) ∧ Below w0.heap.size w0 wc)
  case first =>
    have HS : Hid (∀ w', Below w0.heap.size w0 w' → w'.cell? ⟨w.heap.size, 0, none⟩ = some (.slice a l p) ∧ w'.cell? ⟨w.heap.size, 1, none⟩ = some (.slice a' l' p') ∧ w'.cell? ⟨bn, 0, none⟩ = some (.int .i64 n.places) ∧ w'.cell? ⟨bn, 1, none⟩ = some (.slice (some ⟨tb, tf, none⟩) len tc) ∧ w'.cell? ⟨tb, tf + k * 3, none⟩ = some (.int .i64 T.label) ∧ w'.cell? ⟨tb, tf + k * 3 + 1, none⟩ = some (c1) ∧ w'.cell? ⟨tb, tf + k * 3 + 2, none⟩ = some (c2)) := fun w' h => ⟨(hbc.below h).2.1, (hbc.below h).2.2, (hN.below h).2.1, (hN.below h).2.2, by rw [h.cell (p := ⟨tb, _, none⟩) hblt]; exact t0, by rw [h.cell (p := ⟨tb, _, none⟩) hblt]; exact t1, by rw [h.cell (p := ⟨tb, _, none⟩) hblt]; exact t2⟩
    refine wp_region_held_drew (S := (fun w' => w'.cell? ⟨w.heap.size, 0, none⟩ = some (.slice a l p) ∧ w'.cell? ⟨w.heap.size, 1, none⟩ = some (.slice a' l' p') ∧ w'.cell? ⟨bn, 0, none⟩ = some (.int .i64 n.places) ∧ w'.cell? ⟨bn, 1, none⟩ = some (.slice (some ⟨tb, tf, none⟩) len tc) ∧ w'.cell? ⟨tb, tf + k * 3, none⟩ = some (.int .i64 T.label) ∧ w'.cell? ⟨tb, tf + k * 3 + 1, none⟩ = some (c1) ∧ w'.cell? ⟨tb, tf + k * 3 + 2, none⟩ = some (c2))) (by kernel_rfl) (HS.out _ (Below.refl _ _).drew) (fun hH => ?_)
    have b : Below w0.heap.size w0 w0.drew := (Below.refl _ _).drew
    obtain ⟨v0, Hv0⟩ : ∃ v0, Hid (w0.drew = v0) := ⟨_, rfl⟩
    rw [Hv0.out] at hH b ⊢
    clear Hv0
    refine wpAnyH_take (i := 0) (v := .pointer (some ⟨w.heap.size, 0, none⟩)) rfl (by kernel_rfl) (by kernel_rfl) (by kernel_rfl) (fun _ _ _ h => h) (.inl ⟨by rfl, fun w' hS' => by first | (go_simp; done) | (go_simp; rfl) | (go_simp; intro h; omega) | (go_simp; omega)⟩) hH ?_
    simp only [List.getElem_toArray, List.getElem_cons_succ, List.getElem_cons_zero, Act.put, List.setIfInBounds_toArray, List.set_cons_zero, List.set_cons_succ]
    refine wpAnyH_take (i := 1) (v := .slice a l p) rfl (by kernel_rfl) (by kernel_rfl) (by kernel_rfl) (fun _ _ _ h => h) (.inl ⟨by rfl, fun w' hS' => by obtain ⟨s0, s1, s2, s3, s4, s5, s6⟩ := hS'; go_simp⟩) hH ?_
    simp only [List.getElem_toArray, List.getElem_cons_succ, List.getElem_cons_zero, Act.put, List.setIfInBounds_toArray, List.set_cons_zero, List.set_cons_succ]
    refine wpAnyH_take (i := 2) (v := .pointer (some ⟨bn, 1, none⟩)) rfl (by kernel_rfl) (by kernel_rfl) (by kernel_rfl) (fun _ _ _ h => h) (.inl ⟨by rfl, fun w' hS' => by first | (go_simp; done) | (go_simp; rfl) | (go_simp; intro h; omega) | (go_simp; omega)⟩) hH ?_
    simp only [List.getElem_toArray, List.getElem_cons_succ, List.getElem_cons_zero, Act.put, List.setIfInBounds_toArray, List.set_cons_zero, List.set_cons_succ]
    refine wpAnyH_take (i := 3) (v := .slice (some ⟨tb, tf, none⟩) len tc) rfl (by kernel_rfl) (by kernel_rfl) (by kernel_rfl) (fun _ _ _ h => h) (.inl ⟨by rfl, fun w' hS' => by obtain ⟨s0, s1, s2, s3, s4, s5, s6⟩ := hS'; go_simp⟩) hH ?_
    simp only [List.getElem_toArray, List.getElem_cons_succ, List.getElem_cons_zero, Act.put, List.setIfInBounds_toArray, List.set_cons_zero, List.set_cons_succ]
    refine wpAnyH_take (i := 4) (v := .int .i64 k) rfl (by kernel_rfl) (by kernel_rfl) (by kernel_rfl) (fun _ _ _ h => h) (.inl ⟨by rfl, fun _ _ => rfl⟩) hH ?_
    simp only [List.getElem_toArray, List.getElem_cons_succ, List.getElem_cons_zero, Act.put, List.setIfInBounds_toArray, List.set_cons_zero, List.set_cons_succ]
    refine wpAnyH_take (i := 5) (v := .pointer (some ⟨tb, tf + k * 3, none⟩)) rfl (by kernel_rfl) (by kernel_rfl) (by kernel_rfl) (fun _ _ _ h => h) (.inl ⟨by rfl, fun w' hS' => by first | (go_simp; done) | (go_simp; rfl) | (go_simp; intro h; omega) | (go_simp; omega)⟩) hH ?_
    simp only [List.getElem_toArray, List.getElem_cons_succ, List.getElem_cons_zero, Act.put, List.setIfInBounds_toArray, List.set_cons_zero, List.set_cons_succ]
    refine wpAnyH_take (i := 6) (v := .pointer (some ⟨tb, tf + k * 3 + 1, none⟩)) rfl (by kernel_rfl) (by kernel_rfl) (by kernel_rfl) (fun _ _ _ h => h) (.inl ⟨by rfl, fun w' hS' => by first | (go_simp; done) | (go_simp; rfl) | (go_simp; intro h; omega) | (go_simp; omega)⟩) hH ?_
    simp only [List.getElem_toArray, List.getElem_cons_succ, List.getElem_cons_zero, Act.put, List.setIfInBounds_toArray, List.set_cons_zero, List.set_cons_succ]
    refine wpAnyH_take (i := 7) (v := c1) rfl (by kernel_rfl) (by kernel_rfl) (by kernel_rfl) (fun _ _ _ h => h) (.inl ⟨by rfl, fun w' hS' => by obtain ⟨s0, s1, s2, s3, s4, s5, s6⟩ := hS'; go_simp⟩) hH ?_
    simp only [List.getElem_toArray, List.getElem_cons_succ, List.getElem_cons_zero, Act.put, List.setIfInBounds_toArray, List.set_cons_zero, List.set_cons_succ]
    refine wpAnyH_ready (rs := [8]) (by kernel_rfl) (by simp) ?_
    refine AllReadyH.cons rfl (fun K hK => ?_) AllReadyH.nil
    simp only [List.getElem_toArray, List.getElem_cons_succ, List.getElem_cons_zero]
    rw [if_pos (by rfl)]
    go_wp2_with fail
    refine (minus_own _ _ c.mark T.pre v0 (by exact h1.below b) (by exact i1.below b)).mono ?_
    rintro e v1 ⟨r, rfl, O1, bs⟩
    have I1 := O1.now
    have F1 := (on_from O1).mono (Nat.le_trans c0.size b.size)
    clear O1
    obtain ⟨ra, rl, rc, rfl, _⟩ := id I1
    replace b := below_then b bs
    refine hK.out _ _ (HS.out _ b) (fun hH => ?_)
    refine wpAnyH_take (i := 9) (v := .tuple #[.slice ra rl rc, .int .i64 (minusL c.mark T.pre).2]) rfl (by kernel_rfl) (by kernel_rfl) (by kernel_rfl) (fun _ _ _ h => h) (.inl ⟨by rfl, fun _ _ => rfl⟩) hH ?_
    simp only [List.getElem_toArray, List.getElem_cons_succ, List.getElem_cons_zero, Act.put, List.setIfInBounds_toArray, List.set_cons_zero, List.set_cons_succ]
    refine wpAnyH_take (i := 10) (v := .slice ra rl rc) rfl (by kernel_rfl) (by kernel_rfl) (by kernel_rfl) (fun _ _ _ h => h) (.inl ⟨by rfl, fun w' hS' => by first | (go_simp; done) | (go_simp; rfl) | (go_simp; intro h; omega) | (go_simp; omega)⟩) hH ?_
    simp only [List.getElem_toArray, List.getElem_cons_succ, List.getElem_cons_zero, Act.put, List.setIfInBounds_toArray, List.set_cons_zero, List.set_cons_succ]
    refine wpAnyH_take (i := 11) (v := .int .i64 (minusL c.mark T.pre).2) rfl (by kernel_rfl) (by kernel_rfl) (by kernel_rfl) (fun _ _ _ h => h) (.inl ⟨by rfl, fun w' hS' => by first | (go_simp; done) | (go_simp; rfl) | (go_simp; intro h; omega) | (go_simp; omega)⟩) hH ?_
    simp only [List.getElem_toArray, List.getElem_cons_succ, List.getElem_cons_zero, Act.put, List.setIfInBounds_toArray, List.set_cons_zero, List.set_cons_succ]
    refine wpAnyH_take (i := 12) (v := .slice ra rl rc) rfl (by kernel_rfl) (by kernel_rfl) (by kernel_rfl) (fun _ _ _ h => h) (.inl ⟨by rfl, fun _ _ => rfl⟩) hH ?_
    simp only [List.getElem_toArray, List.getElem_cons_succ, List.getElem_cons_zero, Act.put, List.setIfInBounds_toArray, List.set_cons_zero, List.set_cons_succ]
    refine wpAnyH_take (i := 13) (v := .int .i64 (minusL c.mark T.pre).2) rfl (by kernel_rfl) (by kernel_rfl) (by kernel_rfl) (fun _ _ _ h => h) (.inl ⟨by rfl, fun _ _ => rfl⟩) hH ?_
    simp only [List.getElem_toArray, List.getElem_cons_succ, List.getElem_cons_zero, Act.put, List.setIfInBounds_toArray, List.set_cons_zero, List.set_cons_succ]
    refine wpAnyH_done (by kernel_rfl) ?_ _
    go_wp2_with fail
    go_meet
    exact ⟨ra, rl, rc, rfl, rfl, I1, F1, b⟩
  case rest =>
    obtain ⟨ra, rl, rc, rfl, rfl, hI, hF, b⟩ := hcut
    obtain ⟨w1, rfl⟩ : ∃ w1, w1 = wc := ⟨_, rfl⟩
    replace c0 := below_then c0 b
    replace h1 := h1.below b
    replace h2 := h2.below b
    replace hv := hv.below b
    replace hbc := hbc.below b
    replace hR := hR.below b
    replace hN := hN.below b
    replace i1 := i1.below b
    replace i2 := i2.below b
    have t0 := (b.cell (p := ⟨tb, _, none⟩) hblt).trans t0
    have t1 := (b.cell (p := ⟨tb, _, none⟩) hblt).trans t1
    have t2 := (b.cell (p := ⟨tb, _, none⟩) hblt).trans t2
    have hblt := Nat.lt_of_lt_of_le hblt b.size
    clear b
    obtain ⟨ms, Hms⟩ : ∃ ms, Hid ((minusL c.mark T.pre).1 = ms) := ⟨_, rfl⟩
    obtain ⟨d, Hd⟩ : ∃ d, Hid ((minusL c.mark T.pre).2 = d) := ⟨_, rfl⟩
    rw [Hms.out] at hI
    rw [Hd.out]
    obtain ⟨wz, rfl⟩ : ∃ wz, wz = w1 := ⟨_, rfl⟩
    by_cases hd : d = 0
    · subst hd
      rw [Hd.out, if_pos rfl, Hms.out] at HD
      go_upto_region 4 with fail
      go_cut [9, 8] (fun x7 x8 wc => ∃ ra rl rc, x7 = .slice ra rl rc ∧ x8 = .int .i64 (plusL c.busy (onceL n.trans.length k)).2 ∧ Ints wc (.slice ra rl rc) (plusL c.busy (onceL n.trans.length k)).1 ∧ SlFrom w.heap.size (.slice ra rl rc) ∧ Below wz.heap.size wz wc)
      case first =>
        have HS : Hid (∀ w', Below wz.heap.size wz w' → w'.cell? ⟨w.heap.size, 0, none⟩ = some (.slice a l p) ∧ w'.cell? ⟨w.heap.size, 1, none⟩ = some (.slice a' l' p') ∧ w'.cell? ⟨bn, 0, none⟩ = some (.int .i64 n.places) ∧ w'.cell? ⟨bn, 1, none⟩ = some (.slice (some ⟨tb, tf, none⟩) len tc) ∧ w'.cell? ⟨tb, tf + k * 3, none⟩ = some (.int .i64 T.label) ∧ w'.cell? ⟨tb, tf + k * 3 + 1, none⟩ = some (c1) ∧ w'.cell? ⟨tb, tf + k * 3 + 2, none⟩ = some (c2)) := fun w' h => ⟨(hbc.below h).2.1, (hbc.below h).2.2, (hN.below h).2.1, (hN.below h).2.2, by rw [h.cell (p := ⟨tb, _, none⟩) hblt]; exact t0, by rw [h.cell (p := ⟨tb, _, none⟩) hblt]; exact t1, by rw [h.cell (p := ⟨tb, _, none⟩) hblt]; exact t2⟩
        refine wp_region_held_drew (S := (fun w' => w'.cell? ⟨w.heap.size, 0, none⟩ = some (.slice a l p) ∧ w'.cell? ⟨w.heap.size, 1, none⟩ = some (.slice a' l' p') ∧ w'.cell? ⟨bn, 0, none⟩ = some (.int .i64 n.places) ∧ w'.cell? ⟨bn, 1, none⟩ = some (.slice (some ⟨tb, tf, none⟩) len tc) ∧ w'.cell? ⟨tb, tf + k * 3, none⟩ = some (.int .i64 T.label) ∧ w'.cell? ⟨tb, tf + k * 3 + 1, none⟩ = some (c1) ∧ w'.cell? ⟨tb, tf + k * 3 + 2, none⟩ = some (c2))) (by kernel_rfl) (HS.out _ (Below.refl _ _).drew) (fun hH => ?_)
        have b : Below wz.heap.size wz wz.drew := (Below.refl _ _).drew
        obtain ⟨v0, Hv0⟩ : ∃ v0, Hid (wz.drew = v0) := ⟨_, rfl⟩
        rw [Hv0.out] at hH b ⊢
        clear Hv0
        refine wpAnyH_take (i := 0) (v := .pointer (some ⟨w.heap.size, 1, none⟩)) rfl (by kernel_rfl) (by kernel_rfl) (by kernel_rfl) (fun _ _ _ h => h) (.inl ⟨by rfl, fun w' hS' => by first | (go_simp; done) | (go_simp; rfl) | (go_simp; intro h; omega) | (go_simp; omega)⟩) hH ?_
        simp only [List.getElem_toArray, List.getElem_cons_succ, List.getElem_cons_zero, Act.put, List.setIfInBounds_toArray, List.set_cons_zero, List.set_cons_succ]
        refine wpAnyH_take (i := 1) (v := .slice a' l' p') rfl (by kernel_rfl) (by kernel_rfl) (by kernel_rfl) (fun _ _ _ h => h) (.inl ⟨by rfl, fun w' hS' => by obtain ⟨s0, s1, s2, s3, s4, s5, s6⟩ := hS'; go_simp⟩) hH ?_
        simp only [List.getElem_toArray, List.getElem_cons_succ, List.getElem_cons_zero, Act.put, List.setIfInBounds_toArray, List.set_cons_zero, List.set_cons_succ]
        refine wpAnyH_take (i := 2) (v := .agg #[.int .i64 n.places, .slice (some ⟨tb, tf, none⟩) len tc]) rfl (by kernel_rfl) (by kernel_rfl) (by kernel_rfl) (fun _ _ _ h => h) (.inl ⟨by rfl, fun w' hS' => by obtain ⟨s0, s1, s2, s3, s4, s5, s6⟩ := hS'; go_simp⟩) hH ?_
        simp only [List.getElem_toArray, List.getElem_cons_succ, List.getElem_cons_zero, Act.put, List.setIfInBounds_toArray, List.set_cons_zero, List.set_cons_succ]
        refine wpAnyH_take (i := 3) (v := .int .i64 k) rfl (by kernel_rfl) (by kernel_rfl) (by kernel_rfl) (fun _ _ _ h => h) (.inl ⟨by rfl, fun _ _ => rfl⟩) hH ?_
        simp only [List.getElem_toArray, List.getElem_cons_succ, List.getElem_cons_zero, Act.put, List.setIfInBounds_toArray, List.set_cons_zero, List.set_cons_succ]
        refine wpAnyH_ready (rs := [4]) (by kernel_rfl) (by simp) ?_
        refine AllReadyH.cons rfl (fun K hK => ?_) AllReadyH.nil
        simp only [List.getElem_toArray, List.getElem_cons_succ, List.getElem_cons_zero]
        rw [if_pos (by rfl)]
        go_wp2_with fail
        refine (once_any _ n k v0 (by exact hv.below b) Hk.out).mono ?_
        rintro e v1 ⟨r0, rfl, I0, bs⟩
        obtain ⟨ra0, rl0, rc0, rfl, _⟩ := id I0
        replace b := below_then b bs
        clear bs
        refine hK.out _ _ (HS.out _ b) (fun hH => ?_)
        refine wpAnyH_ready (rs := [5]) (by kernel_rfl) (by simp) ?_
        refine AllReadyH.cons rfl (fun K hK => ?_) AllReadyH.nil
        simp only [List.getElem_toArray, List.getElem_cons_succ, List.getElem_cons_zero]
        rw [if_pos (by rfl)]
        go_wp2_with fail
        refine (plus_own _ _ c.busy (onceL n.trans.length k) v1 (by exact h2.below b) (by exact I0)).mono ?_
        rintro e v2 ⟨r, rfl, O1, bs⟩
        have I1 := O1.now
        have F1 := (on_from O1).mono (Nat.le_trans c0.size b.size)
        clear O1
        obtain ⟨ra, rl, rc, rfl, _⟩ := id I1
        replace b := below_then b bs
        refine hK.out _ _ (HS.out _ b) (fun hH => ?_)
        refine wpAnyH_take (i := 6) (v := .tuple #[.slice ra rl rc, .int .i64 (plusL c.busy (onceL n.trans.length k)).2]) rfl (by kernel_rfl) (by kernel_rfl) (by kernel_rfl) (fun _ _ _ h => h) (.inl ⟨by rfl, fun _ _ => rfl⟩) hH ?_
        simp only [List.getElem_toArray, List.getElem_cons_succ, List.getElem_cons_zero, Act.put, List.setIfInBounds_toArray, List.set_cons_zero, List.set_cons_succ]
        refine wpAnyH_take (i := 7) (v := .slice ra rl rc) rfl (by kernel_rfl) (by kernel_rfl) (by kernel_rfl) (fun _ _ _ h => h) (.inl ⟨by rfl, fun w' hS' => by first | (go_simp; done) | (go_simp; rfl) | (go_simp; intro h; omega) | (go_simp; omega)⟩) hH ?_
        simp only [List.getElem_toArray, List.getElem_cons_succ, List.getElem_cons_zero, Act.put, List.setIfInBounds_toArray, List.set_cons_zero, List.set_cons_succ]
        refine wpAnyH_take (i := 8) (v := .int .i64 (plusL c.busy (onceL n.trans.length k)).2) rfl (by kernel_rfl) (by kernel_rfl) (by kernel_rfl) (fun _ _ _ h => h) (.inl ⟨by rfl, fun w' hS' => by first | (go_simp; done) | (go_simp; rfl) | (go_simp; intro h; omega) | (go_simp; omega)⟩) hH ?_
        simp only [List.getElem_toArray, List.getElem_cons_succ, List.getElem_cons_zero, Act.put, List.setIfInBounds_toArray, List.set_cons_zero, List.set_cons_succ]
        refine wpAnyH_take (i := 9) (v := .slice ra rl rc) rfl (by kernel_rfl) (by kernel_rfl) (by kernel_rfl) (fun _ _ _ h => h) (.inl ⟨by rfl, fun _ _ => rfl⟩) hH ?_
        simp only [List.getElem_toArray, List.getElem_cons_succ, List.getElem_cons_zero, Act.put, List.setIfInBounds_toArray, List.set_cons_zero, List.set_cons_succ]
        refine wpAnyH_take (i := 10) (v := .int .i64 (plusL c.busy (onceL n.trans.length k)).2) rfl (by kernel_rfl) (by kernel_rfl) (by kernel_rfl) (fun _ _ _ h => h) (.inl ⟨by rfl, fun _ _ => rfl⟩) hH ?_
        simp only [List.getElem_toArray, List.getElem_cons_succ, List.getElem_cons_zero, Act.put, List.setIfInBounds_toArray, List.set_cons_zero, List.set_cons_succ]
        refine wpAnyH_done (by kernel_rfl) ?_ _
        go_wp2_with fail
        go_meet
        exact ⟨ra, rl, rc, rfl, rfl, I1, F1, b⟩
      case rest =>
        obtain ⟨ra2, rl2, rc2, rfl, rfl, hI2, hF2, b⟩ := hcut
        obtain ⟨wy, rfl⟩ : ∃ w1, w1 = wc := ⟨_, rfl⟩
        replace c0 := below_then c0 b
        replace hR := hR.below b
        replace hI := hI.below b
        clear b h1 h2 hv hbc hN i1 i2 t0 t1 t2 hblt
        obtain ⟨bs, Hbs⟩ : ∃ ms, Hid ((plusL c.busy (onceL n.trans.length k)).1 = ms) := ⟨_, rfl⟩
        obtain ⟨d, Hd2⟩ : ∃ d, Hid ((plusL c.busy (onceL n.trans.length k)).2 = d) := ⟨_, rfl⟩
        rw [Hbs.out] at hI2
        rw [Hd2.out]
        rw [Hd2.out, Hbs.out] at HD
        by_cases hd : d = 0
        · subst hd
          have E : Hid (doC n c 2 k = (⟨ms, bs⟩, 0)) := by show _ = _; rw [HD.out]; rfl
          clear HD
          obtain ⟨q1, q2, q3, q4, q5⟩ := hR.facts
          obtain ⟨W2, HW2⟩ : ∃ W2, Hid ((wy.setCell ⟨w.heap.size + 1, 0, none⟩ (.slice ra rl rc)).setCell ⟨w.heap.size + 1, 1, none⟩ (.slice ra2 rl2 rc2) = W2) := ⟨_, rfl⟩
          obtain ⟨z1, z2, z3, z4⟩ := hR.fill c0 (by omega) HW2.out (hI) (hI2)
          go_wp2
          rw [HW2.out]
          exact bodyPost_ret (v := .tuple #[.agg #[.slice ra rl rc, .slice ra2 rl2 rc2], .int .i64 0]) (results_case rfl rfl rfl z1 z2) rfl (givesCF_of E.out z3 (⟨_, _, rfl, hF, hF2⟩) z4)
        · have E : Hid (doC n c 2 k = (noCase, d)) := by show _ = _; rw [HD.out, if_neg hd]
          have hd' : (d == 0) = false := by simpa using hd
          have hd2 : (d != 0) = true := by simpa using hd
          clear HD hI hI2
          obtain ⟨q1, q2, q3, q4, q5⟩ := hR.facts
          obtain ⟨W2, HW2⟩ : ∃ W2, Hid ((wy.setCell ⟨w.heap.size + 1, 0, none⟩ (.slice none 0 0)).setCell ⟨w.heap.size + 1, 1, none⟩ (.slice none 0 0) = W2) := ⟨_, rfl⟩
          obtain ⟨z1, z2, z3, z4⟩ := hR.fill c0 (by omega) HW2.out (Ints.nil _) (Ints.nil _)
          go_wp2
          rw [HW2.out]
          exact bodyPost_ret (v := .tuple #[.agg #[.slice none 0 0, .slice none 0 0], .int .i64 d]) (results_case rfl rfl rfl z1 z2) rfl (givesCF_of E.out z3 (CaseFrom.none _) z4)
    · have E : Hid (doC n c 2 k = (noCase, d)) := by show _ = _; rw [HD.out, Hd.out, if_neg hd]
      have hd' : (d == 0) = false := by simpa using hd
      have hd2 : (d != 0) = true := by simpa using hd
      clear HD Hd Hms hI h1 h2 hv hbc hN i1 i2 t0 t1 t2 hblt
      obtain ⟨q1, q2, q3, q4, q5⟩ := hR.facts
      obtain ⟨W2, HW2⟩ : ∃ W2, Hid ((wz.setCell ⟨w.heap.size + 1, 0, none⟩ (.slice none 0 0)).setCell ⟨w.heap.size + 1, 1, none⟩ (.slice none 0 0) = W2) := ⟨_, rfl⟩
      obtain ⟨z1, z2, z3, z4⟩ := hR.fill c0 (by omega) HW2.out (Ints.nil _) (Ints.nil _)
      go_wp2
      rw [HW2.out]
      exact bodyPost_ret (v := .tuple #[.agg #[.slice none 0 0, .slice none 0 0], .int .i64 d]) (results_case rfl rfl rfl z1 z2) rfl (givesCF_of E.out z3 (CaseFrom.none _) z4)

set_option maxHeartbeats 4000000 in
theorem work_leave3 (u tv : Value) (bn bp : Nat) (n : NetL) (c : CaseL) (k : Nat) (w : World) (hN : Box2 w bn (.int .i64 n.places) tv) (hpl : bp < w.heap.size) (hp0 : w.cell? ⟨bp, 0, none⟩ = some (.func (.func 84) #[] #[])) (hT : Trans w tv n.trans) (hu : CaseV w u c) (hr : rightC n c = true) (hk : k < n.trans.length) (hl : (tranAt n.trans k).label ≠ 0) :
    Calls Try.prog 93 #[u, .int .i64 k, .pointer (some ⟨bn, 0, none⟩), .pointer (some ⟨bp, 0, none⟩)] w fun e w' => GivesCF w (doC n c 3 k) e w' := by
  have HD : Hid _ := do_leave (kd := 3) hr hk hl (by omega) (P := (tranAt n.trans k).post) (by simp)
  obtain ⟨a, l, p, a', l', p', rfl, h1, h2⟩ := hu
  obtain ⟨w0, Hw0, hbc, hR, c0⟩ := boxesC w (.slice a l p) (.slice a' l' p')
  replace hN := hN.below c0
  replace hT := hT.below c0
  replace h1 := h1.below c0
  replace h2 := h2.below c0
  obtain ⟨ta, len, tc, rfl, hlen, hmx, _⟩ := id hT
  have hkl : k < len := by omega
  have HL : Hid (n.trans.length = len) := hlen
  have Hk : Hid (k < n.trans.length) := hk
  obtain ⟨tb, tf, c1, c2, rfl, hblt, t0, t1, t2, i1, i2⟩ := hT.at hkl
  have hv : Net w0 (.agg #[.int .i64 n.places, .slice (some ⟨tb, tf, none⟩) len tc]) n := ⟨_, rfl, hT⟩
  obtain ⟨T, HT⟩ : ∃ T, Hid (tranAt n.trans k = T) := ⟨_, rfl⟩
  rw [HT.out] at t0 i1 i2 HD
  clear hT hr hl hk hlen
  obtain ⟨x0, x1, x2⟩ := id hN
  obtain ⟨y0, y1, y2⟩ := id hbc
  replace hp0 := (c0.cell (p := ⟨bp, _, none⟩) hpl).trans hp0
  replace hpl := Nat.lt_of_lt_of_le hpl c0.size
  go_enter Try.func93, Try.ntmps93
  go_upto_region 1 with fail
  rw [Hw0.out]
  clear Hw0 x0 x1 x2 y0 y1 y2
  go_cut [8, 9] (fun x7 x8 wc => ∃ ra rl rc, x7 = .slice ra rl rc ∧ x8 = .int .i64 (minusL c.busy (onceL n.trans.length k)).2 ∧ Ints wc (.slice ra rl rc) (minusL c.busy (onceL n.trans.length k)).1 ∧ SlFrom w.heap.size (.slice ra rl rc) ∧ Below w0.heap.size w0 wc)
  case first =>
    have HS : Hid (∀ w', Below w0.heap.size w0 w' → w'.cell? ⟨w.heap.size, 0, none⟩ = some (.slice a l p) ∧ w'.cell? ⟨w.heap.size, 1, none⟩ = some (.slice a' l' p') ∧ w'.cell? ⟨bn, 0, none⟩ = some (.int .i64 n.places) ∧ w'.cell? ⟨bn, 1, none⟩ = some (.slice (some ⟨tb, tf, none⟩) len tc) ∧ w'.cell? ⟨tb, tf + k * 3, none⟩ = some (.int .i64 T.label) ∧ w'.cell? ⟨tb, tf + k * 3 + 1, none⟩ = some (c1) ∧ w'.cell? ⟨tb, tf + k * 3 + 2, none⟩ = some (c2)) := fun w' h => ⟨(hbc.below h).2.1, (hbc.below h).2.2, (hN.below h).2.1, (hN.below h).2.2, by rw [h.cell (p := ⟨tb, _, none⟩) hblt]; exact t0, by rw [h.cell (p := ⟨tb, _, none⟩) hblt]; exact t1, by rw [h.cell (p := ⟨tb, _, none⟩) hblt]; exact t2⟩
    refine wp_region_held_drew (S := (fun w' => w'.cell? ⟨w.heap.size, 0, none⟩ = some (.slice a l p) ∧ w'.cell? ⟨w.heap.size, 1, none⟩ = some (.slice a' l' p') ∧ w'.cell? ⟨bn, 0, none⟩ = some (.int .i64 n.places) ∧ w'.cell? ⟨bn, 1, none⟩ = some (.slice (some ⟨tb, tf, none⟩) len tc) ∧ w'.cell? ⟨tb, tf + k * 3, none⟩ = some (.int .i64 T.label) ∧ w'.cell? ⟨tb, tf + k * 3 + 1, none⟩ = some (c1) ∧ w'.cell? ⟨tb, tf + k * 3 + 2, none⟩ = some (c2))) (by kernel_rfl) (HS.out _ (Below.refl _ _).drew) (fun hH => ?_)
    have b : Below w0.heap.size w0 w0.drew := (Below.refl _ _).drew
    obtain ⟨v0, Hv0⟩ : ∃ v0, Hid (w0.drew = v0) := ⟨_, rfl⟩
    rw [Hv0.out] at hH b ⊢
    clear Hv0
    refine wpAnyH_take (i := 0) (v := .pointer (some ⟨w.heap.size, 1, none⟩)) rfl (by kernel_rfl) (by kernel_rfl) (by kernel_rfl) (fun _ _ _ h => h) (.inl ⟨by rfl, fun w' hS' => by first | (go_simp; done) | (go_simp; rfl) | (go_simp; intro h; omega) | (go_simp; omega)⟩) hH ?_
    simp only [List.getElem_toArray, List.getElem_cons_succ, List.getElem_cons_zero, Act.put, List.setIfInBounds_toArray, List.set_cons_zero, List.set_cons_succ]
    refine wpAnyH_take (i := 1) (v := .slice a' l' p') rfl (by kernel_rfl) (by kernel_rfl) (by kernel_rfl) (fun _ _ _ h => h) (.inl ⟨by rfl, fun w' hS' => by obtain ⟨s0, s1, s2, s3, s4, s5, s6⟩ := hS'; go_simp⟩) hH ?_
    simp only [List.getElem_toArray, List.getElem_cons_succ, List.getElem_cons_zero, Act.put, List.setIfInBounds_toArray, List.set_cons_zero, List.set_cons_succ]
    refine wpAnyH_take (i := 2) (v := .agg #[.int .i64 n.places, .slice (some ⟨tb, tf, none⟩) len tc]) rfl (by kernel_rfl) (by kernel_rfl) (by kernel_rfl) (fun _ _ _ h => h) (.inl ⟨by rfl, fun w' hS' => by obtain ⟨s0, s1, s2, s3, s4, s5, s6⟩ := hS'; go_simp⟩) hH ?_
    simp only [List.getElem_toArray, List.getElem_cons_succ, List.getElem_cons_zero, Act.put, List.setIfInBounds_toArray, List.set_cons_zero, List.set_cons_succ]
    refine wpAnyH_take (i := 3) (v := .int .i64 k) rfl (by kernel_rfl) (by kernel_rfl) (by kernel_rfl) (fun _ _ _ h => h) (.inl ⟨by rfl, fun _ _ => rfl⟩) hH ?_
    simp only [List.getElem_toArray, List.getElem_cons_succ, List.getElem_cons_zero, Act.put, List.setIfInBounds_toArray, List.set_cons_zero, List.set_cons_succ]
    refine wpAnyH_ready (rs := [4]) (by kernel_rfl) (by simp) ?_
    refine AllReadyH.cons rfl (fun K hK => ?_) AllReadyH.nil
    simp only [List.getElem_toArray, List.getElem_cons_succ, List.getElem_cons_zero]
    rw [if_pos (by rfl)]
    go_wp2_with fail
    refine (once_any _ n k v0 (by exact hv.below b) Hk.out).mono ?_
    rintro e v1 ⟨r0, rfl, I0, bs⟩
    obtain ⟨ra0, rl0, rc0, rfl, _⟩ := id I0
    replace b := below_then b bs
    clear bs
    refine hK.out _ _ (HS.out _ b) (fun hH => ?_)
    refine wpAnyH_ready (rs := [5]) (by kernel_rfl) (by simp) ?_
    refine AllReadyH.cons rfl (fun K hK => ?_) AllReadyH.nil
    simp only [List.getElem_toArray, List.getElem_cons_succ, List.getElem_cons_zero]
    rw [if_pos (by rfl)]
    go_wp2_with fail
    refine (minus_own _ _ c.busy (onceL n.trans.length k) v1 (by exact h2.below b) (by exact I0)).mono ?_
    rintro e v2 ⟨r, rfl, O1, bs⟩
    have I1 := O1.now
    have F1 := (on_from O1).mono (Nat.le_trans c0.size b.size)
    clear O1
    obtain ⟨ra, rl, rc, rfl, _⟩ := id I1
    replace b := below_then b bs
    refine hK.out _ _ (HS.out _ b) (fun hH => ?_)
    refine wpAnyH_take (i := 6) (v := .tuple #[.slice ra rl rc, .int .i64 (minusL c.busy (onceL n.trans.length k)).2]) rfl (by kernel_rfl) (by kernel_rfl) (by kernel_rfl) (fun _ _ _ h => h) (.inl ⟨by rfl, fun _ _ => rfl⟩) hH ?_
    simp only [List.getElem_toArray, List.getElem_cons_succ, List.getElem_cons_zero, Act.put, List.setIfInBounds_toArray, List.set_cons_zero, List.set_cons_succ]
    refine wpAnyH_take (i := 7) (v := .slice ra rl rc) rfl (by kernel_rfl) (by kernel_rfl) (by kernel_rfl) (fun _ _ _ h => h) (.inl ⟨by rfl, fun w' hS' => by first | (go_simp; done) | (go_simp; rfl) | (go_simp; intro h; omega) | (go_simp; omega)⟩) hH ?_
    simp only [List.getElem_toArray, List.getElem_cons_succ, List.getElem_cons_zero, Act.put, List.setIfInBounds_toArray, List.set_cons_zero, List.set_cons_succ]
    refine wpAnyH_take (i := 8) (v := .int .i64 (minusL c.busy (onceL n.trans.length k)).2) rfl (by kernel_rfl) (by kernel_rfl) (by kernel_rfl) (fun _ _ _ h => h) (.inl ⟨by rfl, fun w' hS' => by first | (go_simp; done) | (go_simp; rfl) | (go_simp; intro h; omega) | (go_simp; omega)⟩) hH ?_
    simp only [List.getElem_toArray, List.getElem_cons_succ, List.getElem_cons_zero, Act.put, List.setIfInBounds_toArray, List.set_cons_zero, List.set_cons_succ]
    refine wpAnyH_take (i := 9) (v := .slice ra rl rc) rfl (by kernel_rfl) (by kernel_rfl) (by kernel_rfl) (fun _ _ _ h => h) (.inl ⟨by rfl, fun _ _ => rfl⟩) hH ?_
    simp only [List.getElem_toArray, List.getElem_cons_succ, List.getElem_cons_zero, Act.put, List.setIfInBounds_toArray, List.set_cons_zero, List.set_cons_succ]
    refine wpAnyH_take (i := 10) (v := .int .i64 (minusL c.busy (onceL n.trans.length k)).2) rfl (by kernel_rfl) (by kernel_rfl) (by kernel_rfl) (fun _ _ _ h => h) (.inl ⟨by rfl, fun _ _ => rfl⟩) hH ?_
    simp only [List.getElem_toArray, List.getElem_cons_succ, List.getElem_cons_zero, Act.put, List.setIfInBounds_toArray, List.set_cons_zero, List.set_cons_succ]
    refine wpAnyH_done (by kernel_rfl) ?_ _
    go_wp2_with fail
    go_meet
    exact ⟨ra, rl, rc, rfl, rfl, I1, F1, b⟩
  case rest =>
    obtain ⟨ra, rl, rc, rfl, rfl, hI, hF, b⟩ := hcut
    obtain ⟨w1, rfl⟩ : ∃ w1, w1 = wc := ⟨_, rfl⟩
    replace c0 := below_then c0 b
    replace h1 := h1.below b
    replace h2 := h2.below b
    replace hv := hv.below b
    replace hbc := hbc.below b
    replace hR := hR.below b
    replace hN := hN.below b
    replace i1 := i1.below b
    replace i2 := i2.below b
    have t0 := (b.cell (p := ⟨tb, _, none⟩) hblt).trans t0
    have t1 := (b.cell (p := ⟨tb, _, none⟩) hblt).trans t1
    have t2 := (b.cell (p := ⟨tb, _, none⟩) hblt).trans t2
    have hblt := Nat.lt_of_lt_of_le hblt b.size
    replace hp0 := (b.cell (p := ⟨bp, _, none⟩) hpl).trans hp0
    replace hpl := Nat.lt_of_lt_of_le hpl b.size
    clear b
    obtain ⟨bs, Hbs⟩ : ∃ ms, Hid ((minusL c.busy (onceL n.trans.length k)).1 = ms) := ⟨_, rfl⟩
    obtain ⟨d, Hd⟩ : ∃ d, Hid ((minusL c.busy (onceL n.trans.length k)).2 = d) := ⟨_, rfl⟩
    rw [Hbs.out] at hI
    rw [Hd.out]
    obtain ⟨wz, rfl⟩ : ∃ wz, wz = w1 := ⟨_, rfl⟩
    by_cases hd : d = 0
    · subst hd
      rw [Hd.out, if_pos rfl, Hbs.out] at HD
      go_upto_region 4 with fail
      go_cut [10, 9] (fun x7 x8 wc => ∃ ra rl rc, x7 = .slice ra rl rc ∧ x8 = .int .i64 (plusL c.mark T.post).2 ∧ Ints wc (.slice ra rl rc) (plusL c.mark T.post).1 ∧ SlFrom w.heap.size (.slice ra rl rc) ∧ Below wz.heap.size wz wc)
      case first =>
        have HS : Hid (∀ w', Below wz.heap.size wz w' → w'.cell? ⟨w.heap.size, 0, none⟩ = some (.slice a l p) ∧ w'.cell? ⟨w.heap.size, 1, none⟩ = some (.slice a' l' p') ∧ w'.cell? ⟨bn, 0, none⟩ = some (.int .i64 n.places) ∧ w'.cell? ⟨bn, 1, none⟩ = some (.slice (some ⟨tb, tf, none⟩) len tc) ∧ w'.cell? ⟨tb, tf + k * 3, none⟩ = some (.int .i64 T.label) ∧ w'.cell? ⟨tb, tf + k * 3 + 1, none⟩ = some (c1) ∧ w'.cell? ⟨tb, tf + k * 3 + 2, none⟩ = some (c2) ∧ w'.cell? ⟨bp, 0, none⟩ = some (.func (.func 84) #[] #[])) := fun w' h => ⟨(hbc.below h).2.1, (hbc.below h).2.2, (hN.below h).2.1, (hN.below h).2.2, by rw [h.cell (p := ⟨tb, _, none⟩) hblt]; exact t0, by rw [h.cell (p := ⟨tb, _, none⟩) hblt]; exact t1, by rw [h.cell (p := ⟨tb, _, none⟩) hblt]; exact t2, by rw [h.cell (p := ⟨bp, _, none⟩) hpl]; exact hp0⟩
        refine wp_region_held_drew (S := (fun w' => w'.cell? ⟨w.heap.size, 0, none⟩ = some (.slice a l p) ∧ w'.cell? ⟨w.heap.size, 1, none⟩ = some (.slice a' l' p') ∧ w'.cell? ⟨bn, 0, none⟩ = some (.int .i64 n.places) ∧ w'.cell? ⟨bn, 1, none⟩ = some (.slice (some ⟨tb, tf, none⟩) len tc) ∧ w'.cell? ⟨tb, tf + k * 3, none⟩ = some (.int .i64 T.label) ∧ w'.cell? ⟨tb, tf + k * 3 + 1, none⟩ = some (c1) ∧ w'.cell? ⟨tb, tf + k * 3 + 2, none⟩ = some (c2) ∧ w'.cell? ⟨bp, 0, none⟩ = some (.func (.func 84) #[] #[]))) (by kernel_rfl) (HS.out _ (Below.refl _ _).drew) (fun hH => ?_)
        have b : Below wz.heap.size wz wz.drew := (Below.refl _ _).drew
        obtain ⟨v0, Hv0⟩ : ∃ v0, Hid (wz.drew = v0) := ⟨_, rfl⟩
        rw [Hv0.out] at hH b ⊢
        clear Hv0
        refine wpAnyH_take (i := 0) (v := .pointer (some ⟨w.heap.size, 0, none⟩)) rfl (by kernel_rfl) (by kernel_rfl) (by kernel_rfl) (fun _ _ _ h => h) (.inl ⟨by rfl, fun w' hS' => by first | (go_simp; done) | (go_simp; rfl) | (go_simp; intro h; omega) | (go_simp; omega)⟩) hH ?_
        simp only [List.getElem_toArray, List.getElem_cons_succ, List.getElem_cons_zero, Act.put, List.setIfInBounds_toArray, List.set_cons_zero, List.set_cons_succ]
        refine wpAnyH_take (i := 1) (v := .slice a l p) rfl (by kernel_rfl) (by kernel_rfl) (by kernel_rfl) (fun _ _ _ h => h) (.inl ⟨by rfl, fun w' hS' => by obtain ⟨s0, s1, s2, s3, s4, s5, s6, s7⟩ := hS'; go_simp⟩) hH ?_
        simp only [List.getElem_toArray, List.getElem_cons_succ, List.getElem_cons_zero, Act.put, List.setIfInBounds_toArray, List.set_cons_zero, List.set_cons_succ]
        refine wpAnyH_take (i := 2) (v := .func (.func 84) #[] #[]) rfl (by kernel_rfl) (by kernel_rfl) (by kernel_rfl) (fun _ _ _ h => h) (.inl ⟨by rfl, fun w' hS' => by obtain ⟨s0, s1, s2, s3, s4, s5, s6, s7⟩ := hS'; go_simp⟩) hH ?_
        simp only [List.getElem_toArray, List.getElem_cons_succ, List.getElem_cons_zero, Act.put, List.setIfInBounds_toArray, List.set_cons_zero, List.set_cons_succ]
        refine wpAnyH_take (i := 3) (v := .pointer (some ⟨bn, 1, none⟩)) rfl (by kernel_rfl) (by kernel_rfl) (by kernel_rfl) (fun _ _ _ h => h) (.inl ⟨by rfl, fun w' hS' => by first | (go_simp; done) | (go_simp; rfl) | (go_simp; intro h; omega) | (go_simp; omega)⟩) hH ?_
        simp only [List.getElem_toArray, List.getElem_cons_succ, List.getElem_cons_zero, Act.put, List.setIfInBounds_toArray, List.set_cons_zero, List.set_cons_succ]
        refine wpAnyH_take (i := 4) (v := .slice (some ⟨tb, tf, none⟩) len tc) rfl (by kernel_rfl) (by kernel_rfl) (by kernel_rfl) (fun _ _ _ h => h) (.inl ⟨by rfl, fun w' hS' => by obtain ⟨s0, s1, s2, s3, s4, s5, s6, s7⟩ := hS'; go_simp⟩) hH ?_
        simp only [List.getElem_toArray, List.getElem_cons_succ, List.getElem_cons_zero, Act.put, List.setIfInBounds_toArray, List.set_cons_zero, List.set_cons_succ]
        refine wpAnyH_take (i := 5) (v := .int .i64 k) rfl (by kernel_rfl) (by kernel_rfl) (by kernel_rfl) (fun _ _ _ h => h) (.inl ⟨by rfl, fun _ _ => rfl⟩) hH ?_
        simp only [List.getElem_toArray, List.getElem_cons_succ, List.getElem_cons_zero, Act.put, List.setIfInBounds_toArray, List.set_cons_zero, List.set_cons_succ]
        refine wpAnyH_take (i := 6) (v := .pointer (some ⟨tb, tf + k * 3, none⟩)) rfl (by kernel_rfl) (by kernel_rfl) (by kernel_rfl) (fun _ _ _ h => h) (.inl ⟨by rfl, fun w' hS' => by first | (go_simp; done) | (go_simp; rfl) | (go_simp; intro h; omega) | (go_simp; omega)⟩) hH ?_
        simp only [List.getElem_toArray, List.getElem_cons_succ, List.getElem_cons_zero, Act.put, List.setIfInBounds_toArray, List.set_cons_zero, List.set_cons_succ]
        refine wpAnyH_take (i := 7) (v := .agg #[.int .i64 T.label, c1, c2]) rfl (by kernel_rfl) (by kernel_rfl) (by kernel_rfl) (fun _ _ _ h => h) (.inl ⟨by rfl, fun w' hS' => by obtain ⟨s0, s1, s2, s3, s4, s5, s6, s7⟩ := hS'; go_simp⟩) hH ?_
        simp only [List.getElem_toArray, List.getElem_cons_succ, List.getElem_cons_zero, Act.put, List.setIfInBounds_toArray, List.set_cons_zero, List.set_cons_succ]
        refine wpAnyH_ready (rs := [8]) (by kernel_rfl) (by simp) ?_
        refine AllReadyH.cons rfl (fun K hK => ?_) AllReadyH.nil
        simp only [List.getElem_toArray, List.getElem_cons_succ, List.getElem_cons_zero]
        rw [if_pos (by rfl)]
        go_wp2_with fail
        refine (work_post T.label c1 c2 v0).mono ?_
        rintro e v1 ⟨rfl, bs⟩
        replace b := below_then b bs
        clear bs
        refine hK.out _ _ (HS.out _ b) (fun hH => ?_)
        refine wpAnyH_ready (rs := [9]) (by kernel_rfl) (by simp) ?_
        refine AllReadyH.cons rfl (fun K hK => ?_) AllReadyH.nil
        simp only [List.getElem_toArray, List.getElem_cons_succ, List.getElem_cons_zero]
        rw [if_pos (by rfl)]
        go_wp2_with fail
        refine (plus_own _ _ c.mark T.post v1 (by exact h1.below b) (by exact i2.below b)).mono ?_
        rintro e v2 ⟨r, rfl, O1, bs⟩
        have I1 := O1.now
        have F1 := (on_from O1).mono (Nat.le_trans c0.size b.size)
        clear O1
        obtain ⟨ra, rl, rc, rfl, _⟩ := id I1
        replace b := below_then b bs
        refine hK.out _ _ (HS.out _ b) (fun hH => ?_)
        refine wpAnyH_take (i := 10) (v := .tuple #[.slice ra rl rc, .int .i64 (plusL c.mark T.post).2]) rfl (by kernel_rfl) (by kernel_rfl) (by kernel_rfl) (fun _ _ _ h => h) (.inl ⟨by rfl, fun _ _ => rfl⟩) hH ?_
        simp only [List.getElem_toArray, List.getElem_cons_succ, List.getElem_cons_zero, Act.put, List.setIfInBounds_toArray, List.set_cons_zero, List.set_cons_succ]
        refine wpAnyH_take (i := 11) (v := .slice ra rl rc) rfl (by kernel_rfl) (by kernel_rfl) (by kernel_rfl) (fun _ _ _ h => h) (.inl ⟨by rfl, fun w' hS' => by first | (go_simp; done) | (go_simp; rfl) | (go_simp; intro h; omega) | (go_simp; omega)⟩) hH ?_
        simp only [List.getElem_toArray, List.getElem_cons_succ, List.getElem_cons_zero, Act.put, List.setIfInBounds_toArray, List.set_cons_zero, List.set_cons_succ]
        refine wpAnyH_take (i := 12) (v := .int .i64 (plusL c.mark T.post).2) rfl (by kernel_rfl) (by kernel_rfl) (by kernel_rfl) (fun _ _ _ h => h) (.inl ⟨by rfl, fun w' hS' => by first | (go_simp; done) | (go_simp; rfl) | (go_simp; intro h; omega) | (go_simp; omega)⟩) hH ?_
        simp only [List.getElem_toArray, List.getElem_cons_succ, List.getElem_cons_zero, Act.put, List.setIfInBounds_toArray, List.set_cons_zero, List.set_cons_succ]
        refine wpAnyH_take (i := 13) (v := .slice ra rl rc) rfl (by kernel_rfl) (by kernel_rfl) (by kernel_rfl) (fun _ _ _ h => h) (.inl ⟨by rfl, fun _ _ => rfl⟩) hH ?_
        simp only [List.getElem_toArray, List.getElem_cons_succ, List.getElem_cons_zero, Act.put, List.setIfInBounds_toArray, List.set_cons_zero, List.set_cons_succ]
        refine wpAnyH_take (i := 14) (v := .int .i64 (plusL c.mark T.post).2) rfl (by kernel_rfl) (by kernel_rfl) (by kernel_rfl) (fun _ _ _ h => h) (.inl ⟨by rfl, fun _ _ => rfl⟩) hH ?_
        simp only [List.getElem_toArray, List.getElem_cons_succ, List.getElem_cons_zero, Act.put, List.setIfInBounds_toArray, List.set_cons_zero, List.set_cons_succ]
        refine wpAnyH_done (by kernel_rfl) ?_ _
        go_wp2_with fail
        go_meet
        exact ⟨ra, rl, rc, rfl, rfl, I1, F1, b⟩
      case rest =>
        obtain ⟨ra2, rl2, rc2, rfl, rfl, hI2, hF2, b⟩ := hcut
        obtain ⟨wy, rfl⟩ : ∃ w1, w1 = wc := ⟨_, rfl⟩
        replace c0 := below_then c0 b
        replace hR := hR.below b
        replace hI := hI.below b
        clear b h1 h2 hv hbc hN i1 i2 t0 t1 t2 hblt hp0 hpl
        obtain ⟨ms, Hms⟩ : ∃ ms, Hid ((plusL c.mark T.post).1 = ms) := ⟨_, rfl⟩
        obtain ⟨d, Hd2⟩ : ∃ d, Hid ((plusL c.mark T.post).2 = d) := ⟨_, rfl⟩
        rw [Hms.out] at hI2
        rw [Hd2.out]
        rw [Hd2.out, Hms.out] at HD
        by_cases hd : d = 0
        · subst hd
          have E : Hid (doC n c 3 k = (⟨ms, bs⟩, 0)) := by show _ = _; rw [HD.out]; rfl
          clear HD
          obtain ⟨q1, q2, q3, q4, q5⟩ := hR.facts
          obtain ⟨W2, HW2⟩ : ∃ W2, Hid ((wy.setCell ⟨w.heap.size + 1, 0, none⟩ (.slice ra2 rl2 rc2)).setCell ⟨w.heap.size + 1, 1, none⟩ (.slice ra rl rc) = W2) := ⟨_, rfl⟩
          obtain ⟨z1, z2, z3, z4⟩ := hR.fill c0 (by omega) HW2.out (hI2) (hI)
          go_wp2
          rw [HW2.out]
          exact bodyPost_ret (v := .tuple #[.agg #[.slice ra2 rl2 rc2, .slice ra rl rc], .int .i64 0]) (results_case rfl rfl rfl z1 z2) rfl (givesCF_of E.out z3 (⟨_, _, rfl, hF2, hF⟩) z4)
        · have E : Hid (doC n c 3 k = (noCase, d)) := by show _ = _; rw [HD.out, if_neg hd]
          have hd' : (d == 0) = false := by simpa using hd
          have hd2 : (d != 0) = true := by simpa using hd
          clear HD hI hI2
          obtain ⟨q1, q2, q3, q4, q5⟩ := hR.facts
          obtain ⟨W2, HW2⟩ : ∃ W2, Hid ((wy.setCell ⟨w.heap.size + 1, 0, none⟩ (.slice none 0 0)).setCell ⟨w.heap.size + 1, 1, none⟩ (.slice none 0 0) = W2) := ⟨_, rfl⟩
          obtain ⟨z1, z2, z3, z4⟩ := hR.fill c0 (by omega) HW2.out (Ints.nil _) (Ints.nil _)
          go_wp2
          rw [HW2.out]
          exact bodyPost_ret (v := .tuple #[.agg #[.slice none 0 0, .slice none 0 0], .int .i64 d]) (results_case rfl rfl rfl z1 z2) rfl (givesCF_of E.out z3 (CaseFrom.none _) z4)
    · have E : Hid (doC n c 3 k = (noCase, d)) := by show _ = _; rw [HD.out, Hd.out, if_neg hd]
      have hd' : (d == 0) = false := by simpa using hd
      have hd2 : (d != 0) = true := by simpa using hd
      clear HD Hd Hbs hI h1 h2 hv hbc hN i1 i2 t0 t1 t2 hblt hp0 hpl
      obtain ⟨q1, q2, q3, q4, q5⟩ := hR.facts
      obtain ⟨W2, HW2⟩ : ∃ W2, Hid ((wz.setCell ⟨w.heap.size + 1, 0, none⟩ (.slice none 0 0)).setCell ⟨w.heap.size + 1, 1, none⟩ (.slice none 0 0) = W2) := ⟨_, rfl⟩
      obtain ⟨z1, z2, z3, z4⟩ := hR.fill c0 (by omega) HW2.out (Ints.nil _) (Ints.nil _)
      go_wp2
      rw [HW2.out]
      exact bodyPost_ret (v := .tuple #[.agg #[.slice none 0 0, .slice none 0 0], .int .i64 d]) (results_case rfl rfl rfl z1 z2) rfl (givesCF_of E.out z3 (CaseFrom.none _) z4)

set_option maxHeartbeats 4000000 in
theorem work_leave4 (u tv : Value) (bn bp : Nat) (n : NetL) (c : CaseL) (k : Nat) (w : World) (hN : Box2 w bn (.int .i64 n.places) tv) (hpl : bp < w.heap.size) (hp0 : w.cell? ⟨bp, 0, none⟩ = some (.func (.func 85) #[] #[])) (hT : Trans w tv n.trans) (hu : CaseV w u c) (hr : rightC n c = true) (hk : k < n.trans.length) (hl : (tranAt n.trans k).label ≠ 0) :
    Calls Try.prog 93 #[u, .int .i64 k, .pointer (some ⟨bn, 0, none⟩), .pointer (some ⟨bp, 0, none⟩)] w fun e w' => GivesCF w (doC n c 4 k) e w' := by
  have HD : Hid _ := do_leave (kd := 4) hr hk hl (by omega) (P := (tranAt n.trans k).pre) (by simp)
  obtain ⟨a, l, p, a', l', p', rfl, h1, h2⟩ := hu
  obtain ⟨w0, Hw0, hbc, hR, c0⟩ := boxesC w (.slice a l p) (.slice a' l' p')
  replace hN := hN.below c0
  replace hT := hT.below c0
  replace h1 := h1.below c0
  replace h2 := h2.below c0
  obtain ⟨ta, len, tc, rfl, hlen, hmx, _⟩ := id hT
  have hkl : k < len := by omega
  have HL : Hid (n.trans.length = len) := hlen
  have Hk : Hid (k < n.trans.length) := hk
  obtain ⟨tb, tf, c1, c2, rfl, hblt, t0, t1, t2, i1, i2⟩ := hT.at hkl
  have hv : Net w0 (.agg #[.int .i64 n.places, .slice (some ⟨tb, tf, none⟩) len tc]) n := ⟨_, rfl, hT⟩
  obtain ⟨T, HT⟩ : ∃ T, Hid (tranAt n.trans k = T) := ⟨_, rfl⟩
  rw [HT.out] at t0 i1 i2 HD
  clear hT hr hl hk hlen
  obtain ⟨x0, x1, x2⟩ := id hN
  obtain ⟨y0, y1, y2⟩ := id hbc
  replace hp0 := (c0.cell (p := ⟨bp, _, none⟩) hpl).trans hp0
  replace hpl := Nat.lt_of_lt_of_le hpl c0.size
  go_enter Try.func93, Try.ntmps93
  go_upto_region 1 with fail
  rw [Hw0.out]
  clear Hw0 x0 x1 x2 y0 y1 y2
  go_cut [8, 9] (fun x7 x8 wc => ∃ ra rl rc, x7 = .slice ra rl rc ∧ x8 = .int .i64 (minusL c.busy (onceL n.trans.length k)).2 ∧ Ints wc (.slice ra rl rc) (minusL c.busy (onceL n.trans.length k)).1 ∧ SlFrom w.heap.size (.slice ra rl rc) ∧ Below w0.heap.size w0 wc)
  case first =>
    have HS : Hid (∀ w', Below w0.heap.size w0 w' → w'.cell? ⟨w.heap.size, 0, none⟩ = some (.slice a l p) ∧ w'.cell? ⟨w.heap.size, 1, none⟩ = some (.slice a' l' p') ∧ w'.cell? ⟨bn, 0, none⟩ = some (.int .i64 n.places) ∧ w'.cell? ⟨bn, 1, none⟩ = some (.slice (some ⟨tb, tf, none⟩) len tc) ∧ w'.cell? ⟨tb, tf + k * 3, none⟩ = some (.int .i64 T.label) ∧ w'.cell? ⟨tb, tf + k * 3 + 1, none⟩ = some (c1) ∧ w'.cell? ⟨tb, tf + k * 3 + 2, none⟩ = some (c2)) := fun w' h => ⟨(hbc.below h).2.1, (hbc.below h).2.2, (hN.below h).2.1, (hN.below h).2.2, by rw [h.cell (p := ⟨tb, _, none⟩) hblt]; exact t0, by rw [h.cell (p := ⟨tb, _, none⟩) hblt]; exact t1, by rw [h.cell (p := ⟨tb, _, none⟩) hblt]; exact t2⟩
    refine wp_region_held_drew (S := (fun w' => w'.cell? ⟨w.heap.size, 0, none⟩ = some (.slice a l p) ∧ w'.cell? ⟨w.heap.size, 1, none⟩ = some (.slice a' l' p') ∧ w'.cell? ⟨bn, 0, none⟩ = some (.int .i64 n.places) ∧ w'.cell? ⟨bn, 1, none⟩ = some (.slice (some ⟨tb, tf, none⟩) len tc) ∧ w'.cell? ⟨tb, tf + k * 3, none⟩ = some (.int .i64 T.label) ∧ w'.cell? ⟨tb, tf + k * 3 + 1, none⟩ = some (c1) ∧ w'.cell? ⟨tb, tf + k * 3 + 2, none⟩ = some (c2))) (by kernel_rfl) (HS.out _ (Below.refl _ _).drew) (fun hH => ?_)
    have b : Below w0.heap.size w0 w0.drew := (Below.refl _ _).drew
    obtain ⟨v0, Hv0⟩ : ∃ v0, Hid (w0.drew = v0) := ⟨_, rfl⟩
    rw [Hv0.out] at hH b ⊢
    clear Hv0
    refine wpAnyH_take (i := 0) (v := .pointer (some ⟨w.heap.size, 1, none⟩)) rfl (by kernel_rfl) (by kernel_rfl) (by kernel_rfl) (fun _ _ _ h => h) (.inl ⟨by rfl, fun w' hS' => by first | (go_simp; done) | (go_simp; rfl) | (go_simp; intro h; omega) | (go_simp; omega)⟩) hH ?_
    simp only [List.getElem_toArray, List.getElem_cons_succ, List.getElem_cons_zero, Act.put, List.setIfInBounds_toArray, List.set_cons_zero, List.set_cons_succ]
    refine wpAnyH_take (i := 1) (v := .slice a' l' p') rfl (by kernel_rfl) (by kernel_rfl) (by kernel_rfl) (fun _ _ _ h => h) (.inl ⟨by rfl, fun w' hS' => by obtain ⟨s0, s1, s2, s3, s4, s5, s6⟩ := hS'; go_simp⟩) hH ?_
    simp only [List.getElem_toArray, List.getElem_cons_succ, List.getElem_cons_zero, Act.put, List.setIfInBounds_toArray, List.set_cons_zero, List.set_cons_succ]
    refine wpAnyH_take (i := 2) (v := .agg #[.int .i64 n.places, .slice (some ⟨tb, tf, none⟩) len tc]) rfl (by kernel_rfl) (by kernel_rfl) (by kernel_rfl) (fun _ _ _ h => h) (.inl ⟨by rfl, fun w' hS' => by obtain ⟨s0, s1, s2, s3, s4, s5, s6⟩ := hS'; go_simp⟩) hH ?_
    simp only [List.getElem_toArray, List.getElem_cons_succ, List.getElem_cons_zero, Act.put, List.setIfInBounds_toArray, List.set_cons_zero, List.set_cons_succ]
    refine wpAnyH_take (i := 3) (v := .int .i64 k) rfl (by kernel_rfl) (by kernel_rfl) (by kernel_rfl) (fun _ _ _ h => h) (.inl ⟨by rfl, fun _ _ => rfl⟩) hH ?_
    simp only [List.getElem_toArray, List.getElem_cons_succ, List.getElem_cons_zero, Act.put, List.setIfInBounds_toArray, List.set_cons_zero, List.set_cons_succ]
    refine wpAnyH_ready (rs := [4]) (by kernel_rfl) (by simp) ?_
    refine AllReadyH.cons rfl (fun K hK => ?_) AllReadyH.nil
    simp only [List.getElem_toArray, List.getElem_cons_succ, List.getElem_cons_zero]
    rw [if_pos (by rfl)]
    go_wp2_with fail
    refine (once_any _ n k v0 (by exact hv.below b) Hk.out).mono ?_
    rintro e v1 ⟨r0, rfl, I0, bs⟩
    obtain ⟨ra0, rl0, rc0, rfl, _⟩ := id I0
    replace b := below_then b bs
    clear bs
    refine hK.out _ _ (HS.out _ b) (fun hH => ?_)
    refine wpAnyH_ready (rs := [5]) (by kernel_rfl) (by simp) ?_
    refine AllReadyH.cons rfl (fun K hK => ?_) AllReadyH.nil
    simp only [List.getElem_toArray, List.getElem_cons_succ, List.getElem_cons_zero]
    rw [if_pos (by rfl)]
    go_wp2_with fail
    refine (minus_own _ _ c.busy (onceL n.trans.length k) v1 (by exact h2.below b) (by exact I0)).mono ?_
    rintro e v2 ⟨r, rfl, O1, bs⟩
    have I1 := O1.now
    have F1 := (on_from O1).mono (Nat.le_trans c0.size b.size)
    clear O1
    obtain ⟨ra, rl, rc, rfl, _⟩ := id I1
    replace b := below_then b bs
    refine hK.out _ _ (HS.out _ b) (fun hH => ?_)
    refine wpAnyH_take (i := 6) (v := .tuple #[.slice ra rl rc, .int .i64 (minusL c.busy (onceL n.trans.length k)).2]) rfl (by kernel_rfl) (by kernel_rfl) (by kernel_rfl) (fun _ _ _ h => h) (.inl ⟨by rfl, fun _ _ => rfl⟩) hH ?_
    simp only [List.getElem_toArray, List.getElem_cons_succ, List.getElem_cons_zero, Act.put, List.setIfInBounds_toArray, List.set_cons_zero, List.set_cons_succ]
    refine wpAnyH_take (i := 7) (v := .slice ra rl rc) rfl (by kernel_rfl) (by kernel_rfl) (by kernel_rfl) (fun _ _ _ h => h) (.inl ⟨by rfl, fun w' hS' => by first | (go_simp; done) | (go_simp; rfl) | (go_simp; intro h; omega) | (go_simp; omega)⟩) hH ?_
    simp only [List.getElem_toArray, List.getElem_cons_succ, List.getElem_cons_zero, Act.put, List.setIfInBounds_toArray, List.set_cons_zero, List.set_cons_succ]
    refine wpAnyH_take (i := 8) (v := .int .i64 (minusL c.busy (onceL n.trans.length k)).2) rfl (by kernel_rfl) (by kernel_rfl) (by kernel_rfl) (fun _ _ _ h => h) (.inl ⟨by rfl, fun w' hS' => by first | (go_simp; done) | (go_simp; rfl) | (go_simp; intro h; omega) | (go_simp; omega)⟩) hH ?_
    simp only [List.getElem_toArray, List.getElem_cons_succ, List.getElem_cons_zero, Act.put, List.setIfInBounds_toArray, List.set_cons_zero, List.set_cons_succ]
    refine wpAnyH_take (i := 9) (v := .slice ra rl rc) rfl (by kernel_rfl) (by kernel_rfl) (by kernel_rfl) (fun _ _ _ h => h) (.inl ⟨by rfl, fun _ _ => rfl⟩) hH ?_
    simp only [List.getElem_toArray, List.getElem_cons_succ, List.getElem_cons_zero, Act.put, List.setIfInBounds_toArray, List.set_cons_zero, List.set_cons_succ]
    refine wpAnyH_take (i := 10) (v := .int .i64 (minusL c.busy (onceL n.trans.length k)).2) rfl (by kernel_rfl) (by kernel_rfl) (by kernel_rfl) (fun _ _ _ h => h) (.inl ⟨by rfl, fun _ _ => rfl⟩) hH ?_
    simp only [List.getElem_toArray, List.getElem_cons_succ, List.getElem_cons_zero, Act.put, List.setIfInBounds_toArray, List.set_cons_zero, List.set_cons_succ]
    refine wpAnyH_done (by kernel_rfl) ?_ _
    go_wp2_with fail
    go_meet
    exact ⟨ra, rl, rc, rfl, rfl, I1, F1, b⟩
  case rest =>
    obtain ⟨ra, rl, rc, rfl, rfl, hI, hF, b⟩ := hcut
    obtain ⟨w1, rfl⟩ : ∃ w1, w1 = wc := ⟨_, rfl⟩
    replace c0 := below_then c0 b
    replace h1 := h1.below b
    replace h2 := h2.below b
    replace hv := hv.below b
    replace hbc := hbc.below b
    replace hR := hR.below b
    replace hN := hN.below b
    replace i1 := i1.below b
    replace i2 := i2.below b
    have t0 := (b.cell (p := ⟨tb, _, none⟩) hblt).trans t0
    have t1 := (b.cell (p := ⟨tb, _, none⟩) hblt).trans t1
    have t2 := (b.cell (p := ⟨tb, _, none⟩) hblt).trans t2
    have hblt := Nat.lt_of_lt_of_le hblt b.size
    replace hp0 := (b.cell (p := ⟨bp, _, none⟩) hpl).trans hp0
    replace hpl := Nat.lt_of_lt_of_le hpl b.size
    clear b
    obtain ⟨bs, Hbs⟩ : ∃ ms, Hid ((minusL c.busy (onceL n.trans.length k)).1 = ms) := ⟨_, rfl⟩
    obtain ⟨d, Hd⟩ : ∃ d, Hid ((minusL c.busy (onceL n.trans.length k)).2 = d) := ⟨_, rfl⟩
    rw [Hbs.out] at hI
    rw [Hd.out]
    obtain ⟨wz, rfl⟩ : ∃ wz, wz = w1 := ⟨_, rfl⟩
    by_cases hd : d = 0
    · subst hd
      rw [Hd.out, if_pos rfl, Hbs.out] at HD
      go_upto_region 4 with fail
      go_cut [10, 9] (fun x7 x8 wc => ∃ ra rl rc, x7 = .slice ra rl rc ∧ x8 = .int .i64 (plusL c.mark T.pre).2 ∧ Ints wc (.slice ra rl rc) (plusL c.mark T.pre).1 ∧ SlFrom w.heap.size (.slice ra rl rc) ∧ Below wz.heap.size wz wc)
      case first =>
        have HS : Hid (∀ w', Below wz.heap.size wz w' → w'.cell? ⟨w.heap.size, 0, none⟩ = some (.slice a l p) ∧ w'.cell? ⟨w.heap.size, 1, none⟩ = some (.slice a' l' p') ∧ w'.cell? ⟨bn, 0, none⟩ = some (.int .i64 n.places) ∧ w'.cell? ⟨bn, 1, none⟩ = some (.slice (some ⟨tb, tf, none⟩) len tc) ∧ w'.cell? ⟨tb, tf + k * 3, none⟩ = some (.int .i64 T.label) ∧ w'.cell? ⟨tb, tf + k * 3 + 1, none⟩ = some (c1) ∧ w'.cell? ⟨tb, tf + k * 3 + 2, none⟩ = some (c2) ∧ w'.cell? ⟨bp, 0, none⟩ = some (.func (.func 85) #[] #[])) := fun w' h => ⟨(hbc.below h).2.1, (hbc.below h).2.2, (hN.below h).2.1, (hN.below h).2.2, by rw [h.cell (p := ⟨tb, _, none⟩) hblt]; exact t0, by rw [h.cell (p := ⟨tb, _, none⟩) hblt]; exact t1, by rw [h.cell (p := ⟨tb, _, none⟩) hblt]; exact t2, by rw [h.cell (p := ⟨bp, _, none⟩) hpl]; exact hp0⟩
        refine wp_region_held_drew (S := (fun w' => w'.cell? ⟨w.heap.size, 0, none⟩ = some (.slice a l p) ∧ w'.cell? ⟨w.heap.size, 1, none⟩ = some (.slice a' l' p') ∧ w'.cell? ⟨bn, 0, none⟩ = some (.int .i64 n.places) ∧ w'.cell? ⟨bn, 1, none⟩ = some (.slice (some ⟨tb, tf, none⟩) len tc) ∧ w'.cell? ⟨tb, tf + k * 3, none⟩ = some (.int .i64 T.label) ∧ w'.cell? ⟨tb, tf + k * 3 + 1, none⟩ = some (c1) ∧ w'.cell? ⟨tb, tf + k * 3 + 2, none⟩ = some (c2) ∧ w'.cell? ⟨bp, 0, none⟩ = some (.func (.func 85) #[] #[]))) (by kernel_rfl) (HS.out _ (Below.refl _ _).drew) (fun hH => ?_)
        have b : Below wz.heap.size wz wz.drew := (Below.refl _ _).drew
        obtain ⟨v0, Hv0⟩ : ∃ v0, Hid (wz.drew = v0) := ⟨_, rfl⟩
        rw [Hv0.out] at hH b ⊢
        clear Hv0
        refine wpAnyH_take (i := 0) (v := .pointer (some ⟨w.heap.size, 0, none⟩)) rfl (by kernel_rfl) (by kernel_rfl) (by kernel_rfl) (fun _ _ _ h => h) (.inl ⟨by rfl, fun w' hS' => by first | (go_simp; done) | (go_simp; rfl) | (go_simp; intro h; omega) | (go_simp; omega)⟩) hH ?_
        simp only [List.getElem_toArray, List.getElem_cons_succ, List.getElem_cons_zero, Act.put, List.setIfInBounds_toArray, List.set_cons_zero, List.set_cons_succ]
        refine wpAnyH_take (i := 1) (v := .slice a l p) rfl (by kernel_rfl) (by kernel_rfl) (by kernel_rfl) (fun _ _ _ h => h) (.inl ⟨by rfl, fun w' hS' => by obtain ⟨s0, s1, s2, s3, s4, s5, s6, s7⟩ := hS'; go_simp⟩) hH ?_
        simp only [List.getElem_toArray, List.getElem_cons_succ, List.getElem_cons_zero, Act.put, List.setIfInBounds_toArray, List.set_cons_zero, List.set_cons_succ]
        refine wpAnyH_take (i := 2) (v := .func (.func 85) #[] #[]) rfl (by kernel_rfl) (by kernel_rfl) (by kernel_rfl) (fun _ _ _ h => h) (.inl ⟨by rfl, fun w' hS' => by obtain ⟨s0, s1, s2, s3, s4, s5, s6, s7⟩ := hS'; go_simp⟩) hH ?_
        simp only [List.getElem_toArray, List.getElem_cons_succ, List.getElem_cons_zero, Act.put, List.setIfInBounds_toArray, List.set_cons_zero, List.set_cons_succ]
        refine wpAnyH_take (i := 3) (v := .pointer (some ⟨bn, 1, none⟩)) rfl (by kernel_rfl) (by kernel_rfl) (by kernel_rfl) (fun _ _ _ h => h) (.inl ⟨by rfl, fun w' hS' => by first | (go_simp; done) | (go_simp; rfl) | (go_simp; intro h; omega) | (go_simp; omega)⟩) hH ?_
        simp only [List.getElem_toArray, List.getElem_cons_succ, List.getElem_cons_zero, Act.put, List.setIfInBounds_toArray, List.set_cons_zero, List.set_cons_succ]
        refine wpAnyH_take (i := 4) (v := .slice (some ⟨tb, tf, none⟩) len tc) rfl (by kernel_rfl) (by kernel_rfl) (by kernel_rfl) (fun _ _ _ h => h) (.inl ⟨by rfl, fun w' hS' => by obtain ⟨s0, s1, s2, s3, s4, s5, s6, s7⟩ := hS'; go_simp⟩) hH ?_
        simp only [List.getElem_toArray, List.getElem_cons_succ, List.getElem_cons_zero, Act.put, List.setIfInBounds_toArray, List.set_cons_zero, List.set_cons_succ]
        refine wpAnyH_take (i := 5) (v := .int .i64 k) rfl (by kernel_rfl) (by kernel_rfl) (by kernel_rfl) (fun _ _ _ h => h) (.inl ⟨by rfl, fun _ _ => rfl⟩) hH ?_
        simp only [List.getElem_toArray, List.getElem_cons_succ, List.getElem_cons_zero, Act.put, List.setIfInBounds_toArray, List.set_cons_zero, List.set_cons_succ]
        refine wpAnyH_take (i := 6) (v := .pointer (some ⟨tb, tf + k * 3, none⟩)) rfl (by kernel_rfl) (by kernel_rfl) (by kernel_rfl) (fun _ _ _ h => h) (.inl ⟨by rfl, fun w' hS' => by first | (go_simp; done) | (go_simp; rfl) | (go_simp; intro h; omega) | (go_simp; omega)⟩) hH ?_
        simp only [List.getElem_toArray, List.getElem_cons_succ, List.getElem_cons_zero, Act.put, List.setIfInBounds_toArray, List.set_cons_zero, List.set_cons_succ]
        refine wpAnyH_take (i := 7) (v := .agg #[.int .i64 T.label, c1, c2]) rfl (by kernel_rfl) (by kernel_rfl) (by kernel_rfl) (fun _ _ _ h => h) (.inl ⟨by rfl, fun w' hS' => by obtain ⟨s0, s1, s2, s3, s4, s5, s6, s7⟩ := hS'; go_simp⟩) hH ?_
        simp only [List.getElem_toArray, List.getElem_cons_succ, List.getElem_cons_zero, Act.put, List.setIfInBounds_toArray, List.set_cons_zero, List.set_cons_succ]
        refine wpAnyH_ready (rs := [8]) (by kernel_rfl) (by simp) ?_
        refine AllReadyH.cons rfl (fun K hK => ?_) AllReadyH.nil
        simp only [List.getElem_toArray, List.getElem_cons_succ, List.getElem_cons_zero]
        rw [if_pos (by rfl)]
        go_wp2_with fail
        refine (work_pre T.label c1 c2 v0).mono ?_
        rintro e v1 ⟨rfl, bs⟩
        replace b := below_then b bs
        clear bs
        refine hK.out _ _ (HS.out _ b) (fun hH => ?_)
        refine wpAnyH_ready (rs := [9]) (by kernel_rfl) (by simp) ?_
        refine AllReadyH.cons rfl (fun K hK => ?_) AllReadyH.nil
        simp only [List.getElem_toArray, List.getElem_cons_succ, List.getElem_cons_zero]
        rw [if_pos (by rfl)]
        go_wp2_with fail
        refine (plus_own _ _ c.mark T.pre v1 (by exact h1.below b) (by exact i1.below b)).mono ?_
        rintro e v2 ⟨r, rfl, O1, bs⟩
        have I1 := O1.now
        have F1 := (on_from O1).mono (Nat.le_trans c0.size b.size)
        clear O1
        obtain ⟨ra, rl, rc, rfl, _⟩ := id I1
        replace b := below_then b bs
        refine hK.out _ _ (HS.out _ b) (fun hH => ?_)
        refine wpAnyH_take (i := 10) (v := .tuple #[.slice ra rl rc, .int .i64 (plusL c.mark T.pre).2]) rfl (by kernel_rfl) (by kernel_rfl) (by kernel_rfl) (fun _ _ _ h => h) (.inl ⟨by rfl, fun _ _ => rfl⟩) hH ?_
        simp only [List.getElem_toArray, List.getElem_cons_succ, List.getElem_cons_zero, Act.put, List.setIfInBounds_toArray, List.set_cons_zero, List.set_cons_succ]
        refine wpAnyH_take (i := 11) (v := .slice ra rl rc) rfl (by kernel_rfl) (by kernel_rfl) (by kernel_rfl) (fun _ _ _ h => h) (.inl ⟨by rfl, fun w' hS' => by first | (go_simp; done) | (go_simp; rfl) | (go_simp; intro h; omega) | (go_simp; omega)⟩) hH ?_
        simp only [List.getElem_toArray, List.getElem_cons_succ, List.getElem_cons_zero, Act.put, List.setIfInBounds_toArray, List.set_cons_zero, List.set_cons_succ]
        refine wpAnyH_take (i := 12) (v := .int .i64 (plusL c.mark T.pre).2) rfl (by kernel_rfl) (by kernel_rfl) (by kernel_rfl) (fun _ _ _ h => h) (.inl ⟨by rfl, fun w' hS' => by first | (go_simp; done) | (go_simp; rfl) | (go_simp; intro h; omega) | (go_simp; omega)⟩) hH ?_
        simp only [List.getElem_toArray, List.getElem_cons_succ, List.getElem_cons_zero, Act.put, List.setIfInBounds_toArray, List.set_cons_zero, List.set_cons_succ]
        refine wpAnyH_take (i := 13) (v := .slice ra rl rc) rfl (by kernel_rfl) (by kernel_rfl) (by kernel_rfl) (fun _ _ _ h => h) (.inl ⟨by rfl, fun _ _ => rfl⟩) hH ?_
        simp only [List.getElem_toArray, List.getElem_cons_succ, List.getElem_cons_zero, Act.put, List.setIfInBounds_toArray, List.set_cons_zero, List.set_cons_succ]
        refine wpAnyH_take (i := 14) (v := .int .i64 (plusL c.mark T.pre).2) rfl (by kernel_rfl) (by kernel_rfl) (by kernel_rfl) (fun _ _ _ h => h) (.inl ⟨by rfl, fun _ _ => rfl⟩) hH ?_
        simp only [List.getElem_toArray, List.getElem_cons_succ, List.getElem_cons_zero, Act.put, List.setIfInBounds_toArray, List.set_cons_zero, List.set_cons_succ]
        refine wpAnyH_done (by kernel_rfl) ?_ _
        go_wp2_with fail
        go_meet
        exact ⟨ra, rl, rc, rfl, rfl, I1, F1, b⟩
      case rest =>
        obtain ⟨ra2, rl2, rc2, rfl, rfl, hI2, hF2, b⟩ := hcut
        obtain ⟨wy, rfl⟩ : ∃ w1, w1 = wc := ⟨_, rfl⟩
        replace c0 := below_then c0 b
        replace hR := hR.below b
        replace hI := hI.below b
        clear b h1 h2 hv hbc hN i1 i2 t0 t1 t2 hblt hp0 hpl
        obtain ⟨ms, Hms⟩ : ∃ ms, Hid ((plusL c.mark T.pre).1 = ms) := ⟨_, rfl⟩
        obtain ⟨d, Hd2⟩ : ∃ d, Hid ((plusL c.mark T.pre).2 = d) := ⟨_, rfl⟩
        rw [Hms.out] at hI2
        rw [Hd2.out]
        rw [Hd2.out, Hms.out] at HD
        by_cases hd : d = 0
        · subst hd
          have E : Hid (doC n c 4 k = (⟨ms, bs⟩, 0)) := by show _ = _; rw [HD.out]; rfl
          clear HD
          obtain ⟨q1, q2, q3, q4, q5⟩ := hR.facts
          obtain ⟨W2, HW2⟩ : ∃ W2, Hid ((wy.setCell ⟨w.heap.size + 1, 0, none⟩ (.slice ra2 rl2 rc2)).setCell ⟨w.heap.size + 1, 1, none⟩ (.slice ra rl rc) = W2) := ⟨_, rfl⟩
          obtain ⟨z1, z2, z3, z4⟩ := hR.fill c0 (by omega) HW2.out (hI2) (hI)
          go_wp2
          rw [HW2.out]
          exact bodyPost_ret (v := .tuple #[.agg #[.slice ra2 rl2 rc2, .slice ra rl rc], .int .i64 0]) (results_case rfl rfl rfl z1 z2) rfl (givesCF_of E.out z3 (⟨_, _, rfl, hF2, hF⟩) z4)
        · have E : Hid (doC n c 4 k = (noCase, d)) := by show _ = _; rw [HD.out, if_neg hd]
          have hd' : (d == 0) = false := by simpa using hd
          have hd2 : (d != 0) = true := by simpa using hd
          clear HD hI hI2
          obtain ⟨q1, q2, q3, q4, q5⟩ := hR.facts
          obtain ⟨W2, HW2⟩ : ∃ W2, Hid ((wy.setCell ⟨w.heap.size + 1, 0, none⟩ (.slice none 0 0)).setCell ⟨w.heap.size + 1, 1, none⟩ (.slice none 0 0) = W2) := ⟨_, rfl⟩
          obtain ⟨z1, z2, z3, z4⟩ := hR.fill c0 (by omega) HW2.out (Ints.nil _) (Ints.nil _)
          go_wp2
          rw [HW2.out]
          exact bodyPost_ret (v := .tuple #[.agg #[.slice none 0 0, .slice none 0 0], .int .i64 d]) (results_case rfl rfl rfl z1 z2) rfl (givesCF_of E.out z3 (CaseFrom.none _) z4)
    · have E : Hid (doC n c 4 k = (noCase, d)) := by show _ = _; rw [HD.out, Hd.out, if_neg hd]
      have hd' : (d == 0) = false := by simpa using hd
      have hd2 : (d != 0) = true := by simpa using hd
      clear HD Hd Hbs hI h1 h2 hv hbc hN i1 i2 t0 t1 t2 hblt hp0 hpl
      obtain ⟨q1, q2, q3, q4, q5⟩ := hR.facts
      obtain ⟨W2, HW2⟩ : ∃ W2, Hid ((wz.setCell ⟨w.heap.size + 1, 0, none⟩ (.slice none 0 0)).setCell ⟨w.heap.size + 1, 1, none⟩ (.slice none 0 0) = W2) := ⟨_, rfl⟩
      obtain ⟨z1, z2, z3, z4⟩ := hR.fill c0 (by omega) HW2.out (Ints.nil _) (Ints.nil _)
      go_wp2
      rw [HW2.out]
      exact bodyPost_ret (v := .tuple #[.agg #[.slice none 0 0, .slice none 0 0], .int .i64 d]) (results_case rfl rfl rfl z1 z2) rfl (givesCF_of E.out z3 (CaseFrom.none _) z4)

end Go.Proofs.Ytaladbcocealnaa

/- Package cases as it landed: Do. (Made by tools/gen_casedev3.py.) -/
namespace Go.Proofs.Ytaladbcocealnaa
open Go.RowKit
set_option linter.unusedVariables false
set_option linter.unusedSimpArgs false
set_option maxRecDepth 4000

theorem skipping_any (tv : Value) (n : NetL) (w : World) : Calls Try.prog 81 #[.agg #[.int .i64 n.places, tv]] w fun e w' => ∃ bn, e = .returned (.func (.func 87) #[] #[.pointer (some ⟨bn, 0, none⟩)]) ∧ Box2 w' bn (.int .i64 n.places) tv ∧ Below w.heap.size w w' := by
  have b1 := below_new w (.cells #[.int .i64 n.places, tv] 24)
  have hbx := box2_new w (.int .i64 n.places) tv 24
  obtain ⟨w0, Hw0⟩ : ∃ w0, Hid (w.alloc (.cells #[.int .i64 n.places, tv] 24) = w0) := ⟨_, rfl⟩
  rw [Hw0.out] at b1 hbx
  have hmf : ∀ (fn : Fn) (first cap : Array Value) (w : World), (Instr.makeFunc fn first cap).run Try.prog w = .ok (.func fn first cap) w := fun _ _ _ _ => rfl
  go_enter Try.func81, Try.ntmps81
  go_upto_region 1 with fail
  rw [Hw0.out]
  go_wp2
  go_ret
  exact ⟨_, rfl, hbx, b1⟩

theorem beginning_any (tv : Value) (n : NetL) (w : World) : Calls Try.prog 82 #[.agg #[.int .i64 n.places, tv]] w fun e w' => ∃ bn, e = .returned (.func (.func 89) #[] #[.pointer (some ⟨bn, 0, none⟩)]) ∧ Box2 w' bn (.int .i64 n.places) tv ∧ Below w.heap.size w w' := by
  have b1 := below_new w (.cells #[.int .i64 n.places, tv] 24)
  have hbx := box2_new w (.int .i64 n.places) tv 24
  obtain ⟨w0, Hw0⟩ : ∃ w0, Hid (w.alloc (.cells #[.int .i64 n.places, tv] 24) = w0) := ⟨_, rfl⟩
  rw [Hw0.out] at b1 hbx
  have hmf : ∀ (fn : Fn) (first cap : Array Value) (w : World), (Instr.makeFunc fn first cap).run Try.prog w = .ok (.func fn first cap) w := fun _ _ _ _ => rfl
  go_enter Try.func82, Try.ntmps82
  go_upto_region 1 with fail
  rw [Hw0.out]
  go_wp2
  go_ret
  exact ⟨_, rfl, hbx, b1⟩

theorem leaving_any (tv : Value) (G : Nat) (n : NetL) (w : World) : Calls Try.prog 83 #[.agg #[.int .i64 n.places, tv], .func (.func G) #[] #[]] w fun e w' => ∃ bn bp, e = .returned (.func (.func 93) #[] #[.pointer (some ⟨bn, 0, none⟩), .pointer (some ⟨bp, 0, none⟩)]) ∧ Box2 w' bn (.int .i64 n.places) tv ∧ bp < w'.heap.size ∧ w'.cell? ⟨bp, 0, none⟩ = some (.func (.func G) #[] #[]) ∧ Below w.heap.size w w' := by
  have b1 := below_new w (.cells #[.int .i64 n.places, tv] 24)
  have hbx := box2_new w (.int .i64 n.places) tv 24
  have b2 := below_new (w.alloc (.cells #[.int .i64 n.places, tv] 24)) (.cells #[.func (.func G) #[] #[]] 132)
  have hb2 := box1_new (w.alloc (.cells #[.int .i64 n.places, tv] 24)) (.func (.func G) #[] #[]) 132
  obtain ⟨w0, Hw0⟩ : ∃ w0, Hid ((w.alloc (.cells #[.int .i64 n.places, tv] 24)).alloc (.cells #[.func (.func G) #[] #[]] 132) = w0) := ⟨_, rfl⟩
  rw [Hw0.out] at b2 hb2
  replace hbx := hbx.below b2
  have c := below_then b1 b2
  have hsz : (w.alloc (.cells #[.int .i64 n.places, tv] 24)).heap.size = w.heap.size + 1 := by simp
  rw [hsz] at hb2
  clear hsz b1 b2
  have hmf : ∀ (fn : Fn) (first cap : Array Value) (w : World), (Instr.makeFunc fn first cap).run Try.prog w = .ok (.func fn first cap) w := fun _ _ _ _ => rfl
  go_enter Try.func83, Try.ntmps83
  go_upto_region 1 with fail
  rw [Hw0.out]
  go_wp2
  go_ret
  exact ⟨_, _, rfl, hbx, hb2.1, hb2.2, c⟩

theorem workof_1 (tv : Value) (n : NetL) (w : World) : Calls Try.prog 78 #[.agg #[.int .i64 n.places, tv], .int .i64 1] w fun e w' => ∃ bn, e = .returned (.func (.func 87) #[] #[.pointer (some ⟨bn, 0, none⟩)]) ∧ Box2 w' bn (.int .i64 n.places) tv ∧ Below w.heap.size w w' := by
  have b1 := below_new w (.cells #[.int .i64 n.places, tv] 24)
  have hbx := box2_new w (.int .i64 n.places) tv 24
  obtain ⟨w0, Hw0⟩ : ∃ w0, Hid (w.alloc (.cells #[.int .i64 n.places, tv] 24) = w0) := ⟨_, rfl⟩
  rw [Hw0.out] at b1 hbx
  obtain ⟨x0, x1, x2⟩ := id hbx
  go_enter Try.func78, Try.ntmps78
  go_upto_region 1 with fail
  rw [Hw0.out]
  clear Hw0
  go_wp2_with fail
  refine (skipping_any tv n w0).mono ?_
  rintro e w1 ⟨bn, rfl, hbN, b⟩
  replace b1 := below_then b1 b
  go_wp2
  go_ret
  exact ⟨bn, rfl, hbN, b1⟩

theorem workof_2 (tv : Value) (n : NetL) (w : World) : Calls Try.prog 78 #[.agg #[.int .i64 n.places, tv], .int .i64 2] w fun e w' => ∃ bn, e = .returned (.func (.func 89) #[] #[.pointer (some ⟨bn, 0, none⟩)]) ∧ Box2 w' bn (.int .i64 n.places) tv ∧ Below w.heap.size w w' := by
  have b1 := below_new w (.cells #[.int .i64 n.places, tv] 24)
  have hbx := box2_new w (.int .i64 n.places) tv 24
  obtain ⟨w0, Hw0⟩ : ∃ w0, Hid (w.alloc (.cells #[.int .i64 n.places, tv] 24) = w0) := ⟨_, rfl⟩
  rw [Hw0.out] at b1 hbx
  obtain ⟨x0, x1, x2⟩ := id hbx
  go_enter Try.func78, Try.ntmps78
  go_upto_region 1 with fail
  rw [Hw0.out]
  clear Hw0
  go_wp2_with fail
  refine (beginning_any tv n w0).mono ?_
  rintro e w1 ⟨bn, rfl, hbN, b⟩
  replace b1 := below_then b1 b
  go_wp2
  go_ret
  exact ⟨bn, rfl, hbN, b1⟩

theorem workof_3 (tv : Value) (n : NetL) (w : World) : Calls Try.prog 78 #[.agg #[.int .i64 n.places, tv], .int .i64 3] w fun e w' => ∃ bn bp, e = .returned (.func (.func 93) #[] #[.pointer (some ⟨bn, 0, none⟩), .pointer (some ⟨bp, 0, none⟩)]) ∧ Box2 w' bn (.int .i64 n.places) tv ∧ bp < w'.heap.size ∧ w'.cell? ⟨bp, 0, none⟩ = some (.func (.func 84) #[] #[]) ∧ Below w.heap.size w w' := by
  have b1 := below_new w (.cells #[.int .i64 n.places, tv] 24)
  have hbx := box2_new w (.int .i64 n.places) tv 24
  obtain ⟨w0, Hw0⟩ : ∃ w0, Hid (w.alloc (.cells #[.int .i64 n.places, tv] 24) = w0) := ⟨_, rfl⟩
  rw [Hw0.out] at b1 hbx
  obtain ⟨x0, x1, x2⟩ := id hbx
  go_enter Try.func78, Try.ntmps78
  go_upto_region 1 with fail
  rw [Hw0.out]
  clear Hw0
  go_wp2_with fail
  refine (leaving_any tv 84 n w0).mono ?_
  rintro e w1 ⟨bn, bp, rfl, hbN, hpl, hp0, b⟩
  replace b1 := below_then b1 b
  go_wp2
  go_ret
  exact ⟨bn, bp, rfl, hbN, hpl, hp0, b1⟩

theorem workof_4 (tv : Value) (n : NetL) (w : World) : Calls Try.prog 78 #[.agg #[.int .i64 n.places, tv], .int .i64 4] w fun e w' => ∃ bn bp, e = .returned (.func (.func 93) #[] #[.pointer (some ⟨bn, 0, none⟩), .pointer (some ⟨bp, 0, none⟩)]) ∧ Box2 w' bn (.int .i64 n.places) tv ∧ bp < w'.heap.size ∧ w'.cell? ⟨bp, 0, none⟩ = some (.func (.func 85) #[] #[]) ∧ Below w.heap.size w w' := by
  have b1 := below_new w (.cells #[.int .i64 n.places, tv] 24)
  have hbx := box2_new w (.int .i64 n.places) tv 24
  obtain ⟨w0, Hw0⟩ : ∃ w0, Hid (w.alloc (.cells #[.int .i64 n.places, tv] 24) = w0) := ⟨_, rfl⟩
  rw [Hw0.out] at b1 hbx
  obtain ⟨x0, x1, x2⟩ := id hbx
  go_enter Try.func78, Try.ntmps78
  go_upto_region 1 with fail
  rw [Hw0.out]
  clear Hw0
  go_wp2_with fail
  refine (leaving_any tv 85 n w0).mono ?_
  rintro e w1 ⟨bn, bp, rfl, hbN, hpl, hp0, b⟩
  replace b1 := below_then b1 b
  go_wp2
  go_ret
  exact ⟨bn, bp, rfl, hbN, hpl, hp0, b1⟩

theorem workof_none (tv : Value) (n : NetL) (kd : Int) (w : World) (hk : kd < 1 ∨ 4 < kd) : Calls Try.prog 78 #[.agg #[.int .i64 n.places, tv], .int .i64 kd] w fun e w' => e = .returned .nilFunc ∧ Below w.heap.size w w' := by
  have h1 : (kd == 1) = false := by rw [beq_eq_false_iff_ne]; omega
  have h2 : (kd == 2) = false := by rw [beq_eq_false_iff_ne]; omega
  have h3 : (kd == 3) = false := by rw [beq_eq_false_iff_ne]; omega
  have h4 : (kd == 4) = false := by rw [beq_eq_false_iff_ne]; omega
  clear hk
  have b1 := below_new w (.cells #[.int .i64 n.places, tv] 24)
  have hbx := box2_new w (.int .i64 n.places) tv 24
  obtain ⟨w0, Hw0⟩ : ∃ w0, Hid (w.alloc (.cells #[.int .i64 n.places, tv] 24) = w0) := ⟨_, rfl⟩
  rw [Hw0.out] at b1 hbx
  obtain ⟨x0, x1, x2⟩ := id hbx
  go_enter Try.func78, Try.ntmps78
  go_upto_region 1 with fail
  rw [Hw0.out]
  clear Hw0
  go_wp2
  go_ret
  exact ⟨rfl, b1⟩

set_option maxHeartbeats 4000000 in
theorem done_1 (v u : Value) (n : NetL) (c : CaseL) (t : Int) (w : World) (hv : Net w v n) (hu : CaseV w u c) (hr : rightC n c = true) :
    Calls Try.prog 76 #[v, u, .agg #[.int .i64 1, .int .i64 t]] w fun e w' => GivesCF w (doC n c 1 t) e w' := by
  obtain ⟨tv, rfl, hT⟩ := hv
  obtain ⟨a, l, p, a', l', p', rfl, h1, h2⟩ := hu
  obtain ⟨ta, len, tc, rfl, hlen, hmx, _⟩ := id hT
  obtain ⟨w0, Hw0, hbn, hbc, hbo, hR, c0⟩ := do_boxes w (.int .i64 n.places) (.slice ta len tc) (.slice a l p) (.slice a' l' p') (.int .i64 1) (.int .i64 t)
  have HL : Hid (n.trans.length = len) := hlen
  have Hr : Hid (rightC n c = true) := hr
  replace hT := hT.below c0
  replace h1 := h1.below c0
  replace h2 := h2.below c0
  clear hlen hr
  obtain ⟨x0, x1, x2⟩ := id hbn
  obtain ⟨y0, y1, y2⟩ := id hbc
  obtain ⟨o0, o1, o2⟩ := id hbo
  have hq : ∀ (w : World) (fn : Fn) (x y : Array Value), (binOp .eql 127 (.func fn x y) .nilFunc).run Try.prog w = .ok (.bool false) w := fun w fn x y => by kernel_rfl
  have hq0 : ∀ (w : World), (binOp .eql 127 .nilFunc .nilFunc).run Try.prog w = .ok (.bool true) w := fun w => by kernel_rfl
  go_enter Try.func76, Try.ntmps76
  go_upto_region 1 with fail
  rw [Hw0.out]
  clear Hw0
  go_wp2_with fail
  refine (workof_1 (.slice ta len tc) n w0).mono ?_
  rintro e w1 ⟨bn, rfl, hbN, b⟩
  replace c0 := below_then c0 b
  replace h1 := h1.below b
  replace h2 := h2.below b
  replace hT := hT.below b
  replace hbn := hbn.below b
  replace hbc := hbc.below b
  replace hbo := hbo.below b
  replace hR := hR.below b
  clear b x0 x1 x2 y0 y1 y2 o0 o1 o2
  obtain ⟨x0, x1, x2⟩ := id hbn
  obtain ⟨y0, y1, y2⟩ := id hbc
  obtain ⟨o0, o1, o2⟩ := id hbo
  have Hk : Hid (¬ (((1 : Int)) < 1 ∨ 4 < ((1 : Int)))) := by show ¬ _; omega
  by_cases ht0 : t < 0
  · have E : Hid (doC n c 1 t = (noCase, 3)) := do_none Hr.out Hk.out (.inl ht0)
    obtain ⟨q1, q2, q3, q4, q5⟩ := hR.facts
    obtain ⟨W2, HW2⟩ : ∃ W2, Hid ((w1.setCell ⟨w.heap.size + 1 + 1 + 1, 0, none⟩ (.slice none 0 0)).setCell ⟨w.heap.size + 1 + 1 + 1, 1, none⟩ (.slice none 0 0) = W2) := ⟨_, rfl⟩
    obtain ⟨z1, z2, z3, z4⟩ := hR.fill c0 (by omega) HW2.out (Ints.nil _) (Ints.nil _)
    go_wp2
    rw [HW2.out]
    exact bodyPost_ret (v := .tuple #[.agg #[.slice none 0 0, .slice none 0 0], .int .i64 3]) (results_case rfl rfl rfl z1 z2) rfl (givesCF_of E.out z3 (CaseFrom.none _) z4)
  · obtain ⟨k, rfl⟩ := Int.eq_ofNat_of_zero_le (show 0 ≤ t by omega)
    have ht0' : decide ((k : Int) < 0) = false := decide_eq_false (by omega)
    clear ht0
    by_cases hk : k < len
    · obtain ⟨tb, tf, d1, d2, rfl, hblt, t0, t1, t2, i1, i2⟩ := hT.at hk
      have HK : Hid (k < n.trans.length) := by show _ < _; rw [HL.out]; exact hk
      obtain ⟨L, HLb⟩ : ∃ L, Hid ((tranAt n.trans k).label = L) := ⟨_, rfl⟩
      rw [HLb.out] at t0
      go_upto_region 6 with fail
      go_quiet (fail)
      have b := below_drewN (Below.refl w1.heap.size w1) nq
      obtain ⟨w2, H2⟩ : ∃ w2, Hid (w1.drewN nq = w2) := ⟨_, rfl⟩
      rw [H2.out] at b ⊢
      clear H2 t0 t1 t2 i1 i2 hblt
      replace c0 := below_then c0 b
      replace h1 := h1.below b
      replace h2 := h2.below b
      replace hT := hT.below b
      replace hbn := hbn.below b
      replace hbc := hbc.below b
      replace hbo := hbo.below b
      replace hR := hR.below b
      replace hbN := hbN.below b
      clear b x0 x1 x2 y0 y1 y2 o0 o1 o2
      obtain ⟨x0, x1, x2⟩ := id hbn
      obtain ⟨y0, y1, y2⟩ := id hbc
      obtain ⟨o0, o1, o2⟩ := id hbo
      by_cases hL : L = 0
      · subst hL
        have hL : (0 : Int) = 0 := rfl
        go_wp2_with fail
        refine (work_skip _ _ bn n c k w2 hbN hT (by exact ⟨_, _, _, _, _, _, rfl, h1, h2⟩) Hr.out HK.out (by rw [HLb.out])).mono ?_
        rintro e w3 ⟨r, rfl, hC, hCF, b⟩
        replace hCF := hCF.mono c0.size
        obtain ⟨ra, rl, rc, ra2, rl2, rc2, rfl, hI, hI2⟩ := hC
        replace c0 := below_then c0 b
        replace hR := hR.below b
        clear b x0 x1 x2 y0 y1 y2 o0 o1 o2 h1 h2 hT hbn hbc hbo
        obtain ⟨q1, q2, q3, q4, q5⟩ := hR.facts
        obtain ⟨W2, HW2⟩ : ∃ W2, Hid ((w3.setCell ⟨w.heap.size + 1 + 1 + 1, 0, none⟩ (.slice ra rl rc)).setCell ⟨w.heap.size + 1 + 1 + 1, 1, none⟩ (.slice ra2 rl2 rc2) = W2) := ⟨_, rfl⟩
        obtain ⟨z1, z2, z3, z4⟩ := hR.fill c0 (by omega) HW2.out hI hI2
        go_wp2
        rw [HW2.out]
        exact bodyPost_ret (v := .tuple #[.agg #[.slice ra rl rc, .slice ra2 rl2 rc2], .int .i64 (doC n c 1 k).2]) (results_case rfl rfl rfl z1 z2) rfl ⟨_, rfl, z3, hCF, z4⟩
      · have hL1 : (L == 0) = false := by simpa using hL
        rw [hL1]
        have E : Hid (doC n c 1 k = (noCase, 1)) := do_form Hr.out Hk.out HK.out (by rw [HLb.out]; simp [hL])
        obtain ⟨q1, q2, q3, q4, q5⟩ := hR.facts
        obtain ⟨W2, HW2⟩ : ∃ W2, Hid ((w2.setCell ⟨w.heap.size + 1 + 1 + 1, 0, none⟩ (.slice none 0 0)).setCell ⟨w.heap.size + 1 + 1 + 1, 1, none⟩ (.slice none 0 0) = W2) := ⟨_, rfl⟩
        obtain ⟨z1, z2, z3, z4⟩ := hR.fill c0 (by omega) HW2.out (Ints.nil _) (Ints.nil _)
        go_wp2
        rw [HW2.out]
        exact bodyPost_ret (v := .tuple #[.agg #[.slice none 0 0, .slice none 0 0], .int .i64 1]) (results_case rfl rfl rfl z1 z2) rfl (givesCF_of E.out z3 (CaseFrom.none _) z4)
    · have htl : (len : Int) ≤ (k : Int) := by omega
      have E : Hid (doC n c 1 k = (noCase, 3)) := do_none Hr.out Hk.out (.inr (by rw [HL.out]; exact htl))
      obtain ⟨q1, q2, q3, q4, q5⟩ := hR.facts
      obtain ⟨W2, HW2⟩ : ∃ W2, Hid ((w1.setCell ⟨w.heap.size + 1 + 1 + 1, 0, none⟩ (.slice none 0 0)).setCell ⟨w.heap.size + 1 + 1 + 1, 1, none⟩ (.slice none 0 0) = W2) := ⟨_, rfl⟩
      obtain ⟨z1, z2, z3, z4⟩ := hR.fill c0 (by omega) HW2.out (Ints.nil _) (Ints.nil _)
      go_wp2
      rw [HW2.out]
      exact bodyPost_ret (v := .tuple #[.agg #[.slice none 0 0, .slice none 0 0], .int .i64 3]) (results_case rfl rfl rfl z1 z2) rfl (givesCF_of E.out z3 (CaseFrom.none _) z4)

set_option maxHeartbeats 4000000 in
theorem done_2 (v u : Value) (n : NetL) (c : CaseL) (t : Int) (w : World) (hv : Net w v n) (hu : CaseV w u c) (hr : rightC n c = true) :
    Calls Try.prog 76 #[v, u, .agg #[.int .i64 2, .int .i64 t]] w fun e w' => GivesCF w (doC n c 2 t) e w' := by
  obtain ⟨tv, rfl, hT⟩ := hv
  obtain ⟨a, l, p, a', l', p', rfl, h1, h2⟩ := hu
  obtain ⟨ta, len, tc, rfl, hlen, hmx, _⟩ := id hT
  obtain ⟨w0, Hw0, hbn, hbc, hbo, hR, c0⟩ := do_boxes w (.int .i64 n.places) (.slice ta len tc) (.slice a l p) (.slice a' l' p') (.int .i64 2) (.int .i64 t)
  have HL : Hid (n.trans.length = len) := hlen
  have Hr : Hid (rightC n c = true) := hr
  replace hT := hT.below c0
  replace h1 := h1.below c0
  replace h2 := h2.below c0
  clear hlen hr
  obtain ⟨x0, x1, x2⟩ := id hbn
  obtain ⟨y0, y1, y2⟩ := id hbc
  obtain ⟨o0, o1, o2⟩ := id hbo
  have hq : ∀ (w : World) (fn : Fn) (x y : Array Value), (binOp .eql 127 (.func fn x y) .nilFunc).run Try.prog w = .ok (.bool false) w := fun w fn x y => by kernel_rfl
  have hq0 : ∀ (w : World), (binOp .eql 127 .nilFunc .nilFunc).run Try.prog w = .ok (.bool true) w := fun w => by kernel_rfl
  go_enter Try.func76, Try.ntmps76
  go_upto_region 1 with fail
  rw [Hw0.out]
  clear Hw0
  go_wp2_with fail
  refine (workof_2 (.slice ta len tc) n w0).mono ?_
  rintro e w1 ⟨bn, rfl, hbN, b⟩
  replace c0 := below_then c0 b
  replace h1 := h1.below b
  replace h2 := h2.below b
  replace hT := hT.below b
  replace hbn := hbn.below b
  replace hbc := hbc.below b
  replace hbo := hbo.below b
  replace hR := hR.below b
  clear b x0 x1 x2 y0 y1 y2 o0 o1 o2
  obtain ⟨x0, x1, x2⟩ := id hbn
  obtain ⟨y0, y1, y2⟩ := id hbc
  obtain ⟨o0, o1, o2⟩ := id hbo
  have Hk : Hid (¬ (((2 : Int)) < 1 ∨ 4 < ((2 : Int)))) := by show ¬ _; omega
  by_cases ht0 : t < 0
  · have E : Hid (doC n c 2 t = (noCase, 3)) := do_none Hr.out Hk.out (.inl ht0)
    obtain ⟨q1, q2, q3, q4, q5⟩ := hR.facts
    obtain ⟨W2, HW2⟩ : ∃ W2, Hid ((w1.setCell ⟨w.heap.size + 1 + 1 + 1, 0, none⟩ (.slice none 0 0)).setCell ⟨w.heap.size + 1 + 1 + 1, 1, none⟩ (.slice none 0 0) = W2) := ⟨_, rfl⟩
    obtain ⟨z1, z2, z3, z4⟩ := hR.fill c0 (by omega) HW2.out (Ints.nil _) (Ints.nil _)
    go_wp2
    rw [HW2.out]
    exact bodyPost_ret (v := .tuple #[.agg #[.slice none 0 0, .slice none 0 0], .int .i64 3]) (results_case rfl rfl rfl z1 z2) rfl (givesCF_of E.out z3 (CaseFrom.none _) z4)
  · obtain ⟨k, rfl⟩ := Int.eq_ofNat_of_zero_le (show 0 ≤ t by omega)
    have ht0' : decide ((k : Int) < 0) = false := decide_eq_false (by omega)
    clear ht0
    by_cases hk : k < len
    · obtain ⟨tb, tf, d1, d2, rfl, hblt, t0, t1, t2, i1, i2⟩ := hT.at hk
      have HK : Hid (k < n.trans.length) := by show _ < _; rw [HL.out]; exact hk
      obtain ⟨L, HLb⟩ : ∃ L, Hid ((tranAt n.trans k).label = L) := ⟨_, rfl⟩
      rw [HLb.out] at t0
      go_upto_region 6 with fail
      go_quiet (fail)
      have b := below_drewN (Below.refl w1.heap.size w1) nq
      obtain ⟨w2, H2⟩ : ∃ w2, Hid (w1.drewN nq = w2) := ⟨_, rfl⟩
      rw [H2.out] at b ⊢
      clear H2 t0 t1 t2 i1 i2 hblt
      replace c0 := below_then c0 b
      replace h1 := h1.below b
      replace h2 := h2.below b
      replace hT := hT.below b
      replace hbn := hbn.below b
      replace hbc := hbc.below b
      replace hbo := hbo.below b
      replace hR := hR.below b
      replace hbN := hbN.below b
      clear b x0 x1 x2 y0 y1 y2 o0 o1 o2
      obtain ⟨x0, x1, x2⟩ := id hbn
      obtain ⟨y0, y1, y2⟩ := id hbc
      obtain ⟨o0, o1, o2⟩ := id hbo
      by_cases hL : L = 0
      · subst hL
        have E : Hid (doC n c 2 k = (noCase, 1)) := do_form Hr.out Hk.out HK.out (by rw [HLb.out]; simp)
        obtain ⟨q1, q2, q3, q4, q5⟩ := hR.facts
        obtain ⟨W2, HW2⟩ : ∃ W2, Hid ((w2.setCell ⟨w.heap.size + 1 + 1 + 1, 0, none⟩ (.slice none 0 0)).setCell ⟨w.heap.size + 1 + 1 + 1, 1, none⟩ (.slice none 0 0) = W2) := ⟨_, rfl⟩
        obtain ⟨z1, z2, z3, z4⟩ := hR.fill c0 (by omega) HW2.out (Ints.nil _) (Ints.nil _)
        go_wp2
        rw [HW2.out]
        exact bodyPost_ret (v := .tuple #[.agg #[.slice none 0 0, .slice none 0 0], .int .i64 1]) (results_case rfl rfl rfl z1 z2) rfl (givesCF_of E.out z3 (CaseFrom.none _) z4)
      · have hL1 : (L == 0) = false := by simpa using hL
        rw [hL1]
        go_wp2_with fail
        refine (work_begin _ _ bn n c k w2 hbN hT (by exact ⟨_, _, _, _, _, _, rfl, h1, h2⟩) Hr.out HK.out (by rw [HLb.out]; exact hL)).mono ?_
        rintro e w3 ⟨r, rfl, hC, hCF, b⟩
        replace hCF := hCF.mono c0.size
        obtain ⟨ra, rl, rc, ra2, rl2, rc2, rfl, hI, hI2⟩ := hC
        replace c0 := below_then c0 b
        replace hR := hR.below b
        clear b x0 x1 x2 y0 y1 y2 o0 o1 o2 h1 h2 hT hbn hbc hbo
        obtain ⟨q1, q2, q3, q4, q5⟩ := hR.facts
        obtain ⟨W2, HW2⟩ : ∃ W2, Hid ((w3.setCell ⟨w.heap.size + 1 + 1 + 1, 0, none⟩ (.slice ra rl rc)).setCell ⟨w.heap.size + 1 + 1 + 1, 1, none⟩ (.slice ra2 rl2 rc2) = W2) := ⟨_, rfl⟩
        obtain ⟨z1, z2, z3, z4⟩ := hR.fill c0 (by omega) HW2.out hI hI2
        go_wp2
        rw [HW2.out]
        exact bodyPost_ret (v := .tuple #[.agg #[.slice ra rl rc, .slice ra2 rl2 rc2], .int .i64 (doC n c 2 k).2]) (results_case rfl rfl rfl z1 z2) rfl ⟨_, rfl, z3, hCF, z4⟩
    · have htl : (len : Int) ≤ (k : Int) := by omega
      have E : Hid (doC n c 2 k = (noCase, 3)) := do_none Hr.out Hk.out (.inr (by rw [HL.out]; exact htl))
      obtain ⟨q1, q2, q3, q4, q5⟩ := hR.facts
      obtain ⟨W2, HW2⟩ : ∃ W2, Hid ((w1.setCell ⟨w.heap.size + 1 + 1 + 1, 0, none⟩ (.slice none 0 0)).setCell ⟨w.heap.size + 1 + 1 + 1, 1, none⟩ (.slice none 0 0) = W2) := ⟨_, rfl⟩
      obtain ⟨z1, z2, z3, z4⟩ := hR.fill c0 (by omega) HW2.out (Ints.nil _) (Ints.nil _)
      go_wp2
      rw [HW2.out]
      exact bodyPost_ret (v := .tuple #[.agg #[.slice none 0 0, .slice none 0 0], .int .i64 3]) (results_case rfl rfl rfl z1 z2) rfl (givesCF_of E.out z3 (CaseFrom.none _) z4)

set_option maxHeartbeats 4000000 in
theorem done_3 (v u : Value) (n : NetL) (c : CaseL) (t : Int) (w : World) (hv : Net w v n) (hu : CaseV w u c) (hr : rightC n c = true) :
    Calls Try.prog 76 #[v, u, .agg #[.int .i64 3, .int .i64 t]] w fun e w' => GivesCF w (doC n c 3 t) e w' := by
  obtain ⟨tv, rfl, hT⟩ := hv
  obtain ⟨a, l, p, a', l', p', rfl, h1, h2⟩ := hu
  obtain ⟨ta, len, tc, rfl, hlen, hmx, _⟩ := id hT
  obtain ⟨w0, Hw0, hbn, hbc, hbo, hR, c0⟩ := do_boxes w (.int .i64 n.places) (.slice ta len tc) (.slice a l p) (.slice a' l' p') (.int .i64 3) (.int .i64 t)
  have HL : Hid (n.trans.length = len) := hlen
  have Hr : Hid (rightC n c = true) := hr
  replace hT := hT.below c0
  replace h1 := h1.below c0
  replace h2 := h2.below c0
  clear hlen hr
  obtain ⟨x0, x1, x2⟩ := id hbn
  obtain ⟨y0, y1, y2⟩ := id hbc
  obtain ⟨o0, o1, o2⟩ := id hbo
  have hq : ∀ (w : World) (fn : Fn) (x y : Array Value), (binOp .eql 127 (.func fn x y) .nilFunc).run Try.prog w = .ok (.bool false) w := fun w fn x y => by kernel_rfl
  have hq0 : ∀ (w : World), (binOp .eql 127 .nilFunc .nilFunc).run Try.prog w = .ok (.bool true) w := fun w => by kernel_rfl
  go_enter Try.func76, Try.ntmps76
  go_upto_region 1 with fail
  rw [Hw0.out]
  clear Hw0
  go_wp2_with fail
  refine (workof_3 (.slice ta len tc) n w0).mono ?_
  rintro e w1 ⟨bn, bp, rfl, hbN, hpl, hp0, b⟩
  replace c0 := below_then c0 b
  replace h1 := h1.below b
  replace h2 := h2.below b
  replace hT := hT.below b
  replace hbn := hbn.below b
  replace hbc := hbc.below b
  replace hbo := hbo.below b
  replace hR := hR.below b
  clear b x0 x1 x2 y0 y1 y2 o0 o1 o2
  obtain ⟨x0, x1, x2⟩ := id hbn
  obtain ⟨y0, y1, y2⟩ := id hbc
  obtain ⟨o0, o1, o2⟩ := id hbo
  have Hk : Hid (¬ (((3 : Int)) < 1 ∨ 4 < ((3 : Int)))) := by show ¬ _; omega
  by_cases ht0 : t < 0
  · have E : Hid (doC n c 3 t = (noCase, 3)) := do_none Hr.out Hk.out (.inl ht0)
    obtain ⟨q1, q2, q3, q4, q5⟩ := hR.facts
    obtain ⟨W2, HW2⟩ : ∃ W2, Hid ((w1.setCell ⟨w.heap.size + 1 + 1 + 1, 0, none⟩ (.slice none 0 0)).setCell ⟨w.heap.size + 1 + 1 + 1, 1, none⟩ (.slice none 0 0) = W2) := ⟨_, rfl⟩
    obtain ⟨z1, z2, z3, z4⟩ := hR.fill c0 (by omega) HW2.out (Ints.nil _) (Ints.nil _)
    go_wp2
    rw [HW2.out]
    exact bodyPost_ret (v := .tuple #[.agg #[.slice none 0 0, .slice none 0 0], .int .i64 3]) (results_case rfl rfl rfl z1 z2) rfl (givesCF_of E.out z3 (CaseFrom.none _) z4)
  · obtain ⟨k, rfl⟩ := Int.eq_ofNat_of_zero_le (show 0 ≤ t by omega)
    have ht0' : decide ((k : Int) < 0) = false := decide_eq_false (by omega)
    clear ht0
    by_cases hk : k < len
    · obtain ⟨tb, tf, d1, d2, rfl, hblt, t0, t1, t2, i1, i2⟩ := hT.at hk
      have HK : Hid (k < n.trans.length) := by show _ < _; rw [HL.out]; exact hk
      obtain ⟨L, HLb⟩ : ∃ L, Hid ((tranAt n.trans k).label = L) := ⟨_, rfl⟩
      rw [HLb.out] at t0
      go_upto_region 6 with fail
      go_quiet (fail)
      have b := below_drewN (Below.refl w1.heap.size w1) nq
      obtain ⟨w2, H2⟩ : ∃ w2, Hid (w1.drewN nq = w2) := ⟨_, rfl⟩
      rw [H2.out] at b ⊢
      clear H2 t0 t1 t2 i1 i2 hblt
      replace c0 := below_then c0 b
      replace h1 := h1.below b
      replace h2 := h2.below b
      replace hT := hT.below b
      replace hbn := hbn.below b
      replace hbc := hbc.below b
      replace hbo := hbo.below b
      replace hR := hR.below b
      replace hbN := hbN.below b
      replace hp0 := (b.cell (p := ⟨bp, _, none⟩) hpl).trans hp0
      replace hpl := Nat.lt_of_lt_of_le hpl b.size
      clear b x0 x1 x2 y0 y1 y2 o0 o1 o2
      obtain ⟨x0, x1, x2⟩ := id hbn
      obtain ⟨y0, y1, y2⟩ := id hbc
      obtain ⟨o0, o1, o2⟩ := id hbo
      by_cases hL : L = 0
      · subst hL
        have E : Hid (doC n c 3 k = (noCase, 1)) := do_form Hr.out Hk.out HK.out (by rw [HLb.out]; simp)
        obtain ⟨q1, q2, q3, q4, q5⟩ := hR.facts
        obtain ⟨W2, HW2⟩ : ∃ W2, Hid ((w2.setCell ⟨w.heap.size + 1 + 1 + 1, 0, none⟩ (.slice none 0 0)).setCell ⟨w.heap.size + 1 + 1 + 1, 1, none⟩ (.slice none 0 0) = W2) := ⟨_, rfl⟩
        obtain ⟨z1, z2, z3, z4⟩ := hR.fill c0 (by omega) HW2.out (Ints.nil _) (Ints.nil _)
        go_wp2
        rw [HW2.out]
        exact bodyPost_ret (v := .tuple #[.agg #[.slice none 0 0, .slice none 0 0], .int .i64 1]) (results_case rfl rfl rfl z1 z2) rfl (givesCF_of E.out z3 (CaseFrom.none _) z4)
      · have hL1 : (L == 0) = false := by simpa using hL
        rw [hL1]
        go_wp2_with fail
        refine (work_leave3 _ _ bn bp n c k w2 hbN hpl hp0 hT (by exact ⟨_, _, _, _, _, _, rfl, h1, h2⟩) Hr.out HK.out (by rw [HLb.out]; exact hL)).mono ?_
        rintro e w3 ⟨r, rfl, hC, hCF, b⟩
        replace hCF := hCF.mono c0.size
        obtain ⟨ra, rl, rc, ra2, rl2, rc2, rfl, hI, hI2⟩ := hC
        replace c0 := below_then c0 b
        replace hR := hR.below b
        clear b x0 x1 x2 y0 y1 y2 o0 o1 o2 h1 h2 hT hbn hbc hbo
        obtain ⟨q1, q2, q3, q4, q5⟩ := hR.facts
        obtain ⟨W2, HW2⟩ : ∃ W2, Hid ((w3.setCell ⟨w.heap.size + 1 + 1 + 1, 0, none⟩ (.slice ra rl rc)).setCell ⟨w.heap.size + 1 + 1 + 1, 1, none⟩ (.slice ra2 rl2 rc2) = W2) := ⟨_, rfl⟩
        obtain ⟨z1, z2, z3, z4⟩ := hR.fill c0 (by omega) HW2.out hI hI2
        go_wp2
        rw [HW2.out]
        exact bodyPost_ret (v := .tuple #[.agg #[.slice ra rl rc, .slice ra2 rl2 rc2], .int .i64 (doC n c 3 k).2]) (results_case rfl rfl rfl z1 z2) rfl ⟨_, rfl, z3, hCF, z4⟩
    · have htl : (len : Int) ≤ (k : Int) := by omega
      have E : Hid (doC n c 3 k = (noCase, 3)) := do_none Hr.out Hk.out (.inr (by rw [HL.out]; exact htl))
      obtain ⟨q1, q2, q3, q4, q5⟩ := hR.facts
      obtain ⟨W2, HW2⟩ : ∃ W2, Hid ((w1.setCell ⟨w.heap.size + 1 + 1 + 1, 0, none⟩ (.slice none 0 0)).setCell ⟨w.heap.size + 1 + 1 + 1, 1, none⟩ (.slice none 0 0) = W2) := ⟨_, rfl⟩
      obtain ⟨z1, z2, z3, z4⟩ := hR.fill c0 (by omega) HW2.out (Ints.nil _) (Ints.nil _)
      go_wp2
      rw [HW2.out]
      exact bodyPost_ret (v := .tuple #[.agg #[.slice none 0 0, .slice none 0 0], .int .i64 3]) (results_case rfl rfl rfl z1 z2) rfl (givesCF_of E.out z3 (CaseFrom.none _) z4)

set_option maxHeartbeats 4000000 in
theorem done_4 (v u : Value) (n : NetL) (c : CaseL) (t : Int) (w : World) (hv : Net w v n) (hu : CaseV w u c) (hr : rightC n c = true) :
    Calls Try.prog 76 #[v, u, .agg #[.int .i64 4, .int .i64 t]] w fun e w' => GivesCF w (doC n c 4 t) e w' := by
  obtain ⟨tv, rfl, hT⟩ := hv
  obtain ⟨a, l, p, a', l', p', rfl, h1, h2⟩ := hu
  obtain ⟨ta, len, tc, rfl, hlen, hmx, _⟩ := id hT
  obtain ⟨w0, Hw0, hbn, hbc, hbo, hR, c0⟩ := do_boxes w (.int .i64 n.places) (.slice ta len tc) (.slice a l p) (.slice a' l' p') (.int .i64 4) (.int .i64 t)
  have HL : Hid (n.trans.length = len) := hlen
  have Hr : Hid (rightC n c = true) := hr
  replace hT := hT.below c0
  replace h1 := h1.below c0
  replace h2 := h2.below c0
  clear hlen hr
  obtain ⟨x0, x1, x2⟩ := id hbn
  obtain ⟨y0, y1, y2⟩ := id hbc
  obtain ⟨o0, o1, o2⟩ := id hbo
  have hq : ∀ (w : World) (fn : Fn) (x y : Array Value), (binOp .eql 127 (.func fn x y) .nilFunc).run Try.prog w = .ok (.bool false) w := fun w fn x y => by kernel_rfl
  have hq0 : ∀ (w : World), (binOp .eql 127 .nilFunc .nilFunc).run Try.prog w = .ok (.bool true) w := fun w => by kernel_rfl
  go_enter Try.func76, Try.ntmps76
  go_upto_region 1 with fail
  rw [Hw0.out]
  clear Hw0
  go_wp2_with fail
  refine (workof_4 (.slice ta len tc) n w0).mono ?_
  rintro e w1 ⟨bn, bp, rfl, hbN, hpl, hp0, b⟩
  replace c0 := below_then c0 b
  replace h1 := h1.below b
  replace h2 := h2.below b
  replace hT := hT.below b
  replace hbn := hbn.below b
  replace hbc := hbc.below b
  replace hbo := hbo.below b
  replace hR := hR.below b
  clear b x0 x1 x2 y0 y1 y2 o0 o1 o2
  obtain ⟨x0, x1, x2⟩ := id hbn
  obtain ⟨y0, y1, y2⟩ := id hbc
  obtain ⟨o0, o1, o2⟩ := id hbo
  have Hk : Hid (¬ (((4 : Int)) < 1 ∨ 4 < ((4 : Int)))) := by show ¬ _; omega
  by_cases ht0 : t < 0
  · have E : Hid (doC n c 4 t = (noCase, 3)) := do_none Hr.out Hk.out (.inl ht0)
    obtain ⟨q1, q2, q3, q4, q5⟩ := hR.facts
    obtain ⟨W2, HW2⟩ : ∃ W2, Hid ((w1.setCell ⟨w.heap.size + 1 + 1 + 1, 0, none⟩ (.slice none 0 0)).setCell ⟨w.heap.size + 1 + 1 + 1, 1, none⟩ (.slice none 0 0) = W2) := ⟨_, rfl⟩
    obtain ⟨z1, z2, z3, z4⟩ := hR.fill c0 (by omega) HW2.out (Ints.nil _) (Ints.nil _)
    go_wp2
    rw [HW2.out]
    exact bodyPost_ret (v := .tuple #[.agg #[.slice none 0 0, .slice none 0 0], .int .i64 3]) (results_case rfl rfl rfl z1 z2) rfl (givesCF_of E.out z3 (CaseFrom.none _) z4)
  · obtain ⟨k, rfl⟩ := Int.eq_ofNat_of_zero_le (show 0 ≤ t by omega)
    have ht0' : decide ((k : Int) < 0) = false := decide_eq_false (by omega)
    clear ht0
    by_cases hk : k < len
    · obtain ⟨tb, tf, d1, d2, rfl, hblt, t0, t1, t2, i1, i2⟩ := hT.at hk
      have HK : Hid (k < n.trans.length) := by show _ < _; rw [HL.out]; exact hk
      obtain ⟨L, HLb⟩ : ∃ L, Hid ((tranAt n.trans k).label = L) := ⟨_, rfl⟩
      rw [HLb.out] at t0
      go_upto_region 6 with fail
      go_quiet (fail)
      have b := below_drewN (Below.refl w1.heap.size w1) nq
      obtain ⟨w2, H2⟩ : ∃ w2, Hid (w1.drewN nq = w2) := ⟨_, rfl⟩
      rw [H2.out] at b ⊢
      clear H2 t0 t1 t2 i1 i2 hblt
      replace c0 := below_then c0 b
      replace h1 := h1.below b
      replace h2 := h2.below b
      replace hT := hT.below b
      replace hbn := hbn.below b
      replace hbc := hbc.below b
      replace hbo := hbo.below b
      replace hR := hR.below b
      replace hbN := hbN.below b
      replace hp0 := (b.cell (p := ⟨bp, _, none⟩) hpl).trans hp0
      replace hpl := Nat.lt_of_lt_of_le hpl b.size
      clear b x0 x1 x2 y0 y1 y2 o0 o1 o2
      obtain ⟨x0, x1, x2⟩ := id hbn
      obtain ⟨y0, y1, y2⟩ := id hbc
      obtain ⟨o0, o1, o2⟩ := id hbo
      by_cases hL : L = 0
      · subst hL
        have E : Hid (doC n c 4 k = (noCase, 1)) := do_form Hr.out Hk.out HK.out (by rw [HLb.out]; simp)
        obtain ⟨q1, q2, q3, q4, q5⟩ := hR.facts
        obtain ⟨W2, HW2⟩ : ∃ W2, Hid ((w2.setCell ⟨w.heap.size + 1 + 1 + 1, 0, none⟩ (.slice none 0 0)).setCell ⟨w.heap.size + 1 + 1 + 1, 1, none⟩ (.slice none 0 0) = W2) := ⟨_, rfl⟩
        obtain ⟨z1, z2, z3, z4⟩ := hR.fill c0 (by omega) HW2.out (Ints.nil _) (Ints.nil _)
        go_wp2
        rw [HW2.out]
        exact bodyPost_ret (v := .tuple #[.agg #[.slice none 0 0, .slice none 0 0], .int .i64 1]) (results_case rfl rfl rfl z1 z2) rfl (givesCF_of E.out z3 (CaseFrom.none _) z4)
      · have hL1 : (L == 0) = false := by simpa using hL
        rw [hL1]
        go_wp2_with fail
        refine (work_leave4 _ _ bn bp n c k w2 hbN hpl hp0 hT (by exact ⟨_, _, _, _, _, _, rfl, h1, h2⟩) Hr.out HK.out (by rw [HLb.out]; exact hL)).mono ?_
        rintro e w3 ⟨r, rfl, hC, hCF, b⟩
        replace hCF := hCF.mono c0.size
        obtain ⟨ra, rl, rc, ra2, rl2, rc2, rfl, hI, hI2⟩ := hC
        replace c0 := below_then c0 b
        replace hR := hR.below b
        clear b x0 x1 x2 y0 y1 y2 o0 o1 o2 h1 h2 hT hbn hbc hbo
        obtain ⟨q1, q2, q3, q4, q5⟩ := hR.facts
        obtain ⟨W2, HW2⟩ : ∃ W2, Hid ((w3.setCell ⟨w.heap.size + 1 + 1 + 1, 0, none⟩ (.slice ra rl rc)).setCell ⟨w.heap.size + 1 + 1 + 1, 1, none⟩ (.slice ra2 rl2 rc2) = W2) := ⟨_, rfl⟩
        obtain ⟨z1, z2, z3, z4⟩ := hR.fill c0 (by omega) HW2.out hI hI2
        go_wp2
        rw [HW2.out]
        exact bodyPost_ret (v := .tuple #[.agg #[.slice ra rl rc, .slice ra2 rl2 rc2], .int .i64 (doC n c 4 k).2]) (results_case rfl rfl rfl z1 z2) rfl ⟨_, rfl, z3, hCF, z4⟩
    · have htl : (len : Int) ≤ (k : Int) := by omega
      have E : Hid (doC n c 4 k = (noCase, 3)) := do_none Hr.out Hk.out (.inr (by rw [HL.out]; exact htl))
      obtain ⟨q1, q2, q3, q4, q5⟩ := hR.facts
      obtain ⟨W2, HW2⟩ : ∃ W2, Hid ((w1.setCell ⟨w.heap.size + 1 + 1 + 1, 0, none⟩ (.slice none 0 0)).setCell ⟨w.heap.size + 1 + 1 + 1, 1, none⟩ (.slice none 0 0) = W2) := ⟨_, rfl⟩
      obtain ⟨z1, z2, z3, z4⟩ := hR.fill c0 (by omega) HW2.out (Ints.nil _) (Ints.nil _)
      go_wp2
      rw [HW2.out]
      exact bodyPost_ret (v := .tuple #[.agg #[.slice none 0 0, .slice none 0 0], .int .i64 3]) (results_case rfl rfl rfl z1 z2) rfl (givesCF_of E.out z3 (CaseFrom.none _) z4)

set_option maxHeartbeats 1000000 in
theorem done_none (v u : Value) (n : NetL) (c : CaseL) (kd t : Int) (w : World) (hv : Net w v n) (hu : CaseV w u c) (hr : rightC n c = true) (hk : kd < 1 ∨ 4 < kd) :
    Calls Try.prog 76 #[v, u, .agg #[.int .i64 kd, .int .i64 t]] w fun e w' => GivesCF w (doC n c kd t) e w' := by
  obtain ⟨tv, rfl, hT⟩ := hv
  obtain ⟨a, l, p, a', l', p', rfl, h1, h2⟩ := hu
  obtain ⟨ta, len, tc, rfl, hlen, hmx, _⟩ := id hT
  obtain ⟨w0, Hw0, hbn, hbc, hbo, hR, c0⟩ := do_boxes w (.int .i64 n.places) (.slice ta len tc) (.slice a l p) (.slice a' l' p') (.int .i64 kd) (.int .i64 t)
  have HL : Hid (n.trans.length = len) := hlen
  have Hr : Hid (rightC n c = true) := hr
  replace hT := hT.below c0
  replace h1 := h1.below c0
  replace h2 := h2.below c0
  clear hlen hr
  obtain ⟨x0, x1, x2⟩ := id hbn
  obtain ⟨y0, y1, y2⟩ := id hbc
  obtain ⟨o0, o1, o2⟩ := id hbo
  have hq : ∀ (w : World) (fn : Fn) (x y : Array Value), (binOp .eql 127 (.func fn x y) .nilFunc).run Try.prog w = .ok (.bool false) w := fun w fn x y => by kernel_rfl
  have hq0 : ∀ (w : World), (binOp .eql 127 .nilFunc .nilFunc).run Try.prog w = .ok (.bool true) w := fun w => by kernel_rfl
  go_enter Try.func76, Try.ntmps76
  go_upto_region 1 with fail
  rw [Hw0.out]
  clear Hw0
  go_wp2_with fail
  refine (workof_none (.slice ta len tc) n kd w0 hk).mono ?_
  rintro e w1 ⟨rfl, b⟩
  replace c0 := below_then c0 b
  replace h1 := h1.below b
  replace h2 := h2.below b
  replace hT := hT.below b
  replace hbn := hbn.below b
  replace hbc := hbc.below b
  replace hbo := hbo.below b
  replace hR := hR.below b
  clear b x0 x1 x2 y0 y1 y2 o0 o1 o2
  obtain ⟨x0, x1, x2⟩ := id hbn
  obtain ⟨y0, y1, y2⟩ := id hbc
  obtain ⟨o0, o1, o2⟩ := id hbo
  have E : Hid (doC n c kd t = (noCase, 5)) := do_kind Hr.out hk
  obtain ⟨q1, q2, q3, q4, q5⟩ := hR.facts
  obtain ⟨W2, HW2⟩ : ∃ W2, Hid ((w1.setCell ⟨w.heap.size + 1 + 1 + 1, 0, none⟩ (.slice none 0 0)).setCell ⟨w.heap.size + 1 + 1 + 1, 1, none⟩ (.slice none 0 0) = W2) := ⟨_, rfl⟩
  obtain ⟨z1, z2, z3, z4⟩ := hR.fill c0 (by omega) HW2.out (Ints.nil _) (Ints.nil _)
  go_wp2
  rw [HW2.out]
  exact bodyPost_ret (v := .tuple #[.agg #[.slice none 0 0, .slice none 0 0], .int .i64 5]) (results_case rfl rfl rfl z1 z2) rfl (givesCF_of E.out z3 (CaseFrom.none _) z4)

theorem done_any (v u : Value) (n : NetL) (c : CaseL) (kd t : Int) (w : World) (hv : Net w v n) (hu : CaseV w u c) (hr : rightC n c = true) :
    Calls Try.prog 76 #[v, u, .agg #[.int .i64 kd, .int .i64 t]] w fun e w' => GivesCF w (doC n c kd t) e w' := by
  by_cases hk : kd < 1 ∨ 4 < kd
  · exact done_none v u n c kd t w hv hu hr hk
  · obtain rfl | rfl | rfl | rfl : kd = 1 ∨ kd = 2 ∨ kd = 3 ∨ kd = 4 := by omega
    · exact done_1 v u n c t w hv hu hr
    · exact done_2 v u n c t w hv hu hr
    · exact done_3 v u n c t w hv hu hr
    · exact done_4 v u n c t w hv hu hr

set_option maxHeartbeats 2000000 in
theorem cases_do_own (v u : Value) (n : NetL) (c : CaseL) (kind t : Int) (w : World) (hv : Net w v n) (hu : CaseV w u c) : Calls Try.prog 71 #[v, u, .agg #[.int .i64 kind, .int .i64 t]] w fun e w' => GivesCF w (doC n c kind t) e w' := by
  obtain ⟨tv, rfl, hT⟩ := hv
  obtain ⟨a, l, p, a', l', p', rfl, h1, h2⟩ := hu
  obtain ⟨w0, Hw0, hbn, hbc, hbo, hR, c0⟩ := do_boxes w (.int .i64 n.places) tv (.slice a l p) (.slice a' l' p') (.int .i64 kind) (.int .i64 t)
  have hv : Net w0 (.agg #[.int .i64 n.places, tv]) n := ⟨_, rfl, hT.below c0⟩
  replace h1 := h1.below c0
  replace h2 := h2.below c0
  clear hT
  obtain ⟨x0, x1, x2⟩ := id hbn
  obtain ⟨y0, y1, y2⟩ := id hbc
  obtain ⟨o0, o1, o2⟩ := id hbo
  go_enter Try.func71, Try.ntmps71
  go_upto_region 1 with fail
  rw [Hw0.out]
  clear Hw0
  go_wp2_with fail
  refine (cases_right _ _ n c w0 (by exact hv) (by exact ⟨_, _, _, _, _, _, rfl, h1, h2⟩)).mono ?_
  rintro e w1 ⟨rfl, b⟩
  replace hv := hv.below b
  replace c0 := below_then c0 b
  replace h1 := h1.below b
  replace h2 := h2.below b
  replace hbn := hbn.below b
  replace hbc := hbc.below b
  replace hbo := hbo.below b
  replace hR := hR.below b
  clear b x0 x1 x2 y0 y1 y2 o0 o1 o2
  obtain ⟨x0, x1, x2⟩ := id hbn
  obtain ⟨y0, y1, y2⟩ := id hbc
  obtain ⟨o0, o1, o2⟩ := id hbo
  cases hr : rightC n c
  · have E : Hid (doC n c kind t = (noCase, 2)) := do_range hr
    obtain ⟨q1, q2, q3, q4, q5⟩ := hR.facts
    obtain ⟨W2, HW2⟩ : ∃ W2, Hid ((w1.setCell ⟨w.heap.size + 1 + 1 + 1, 0, none⟩ (.slice none 0 0)).setCell ⟨w.heap.size + 1 + 1 + 1, 1, none⟩ (.slice none 0 0) = W2) := ⟨_, rfl⟩
    obtain ⟨z1, z2, z3, z4⟩ := hR.fill c0 (by omega) HW2.out (Ints.nil _) (Ints.nil _)
    go_wp2
    rw [HW2.out]
    exact bodyPost_ret (v := .tuple #[.agg #[.slice none 0 0, .slice none 0 0], .int .i64 2]) (results_case rfl rfl rfl z1 z2) rfl (givesCF_of E.out z3 (CaseFrom.none _) z4)
  · go_wp2_with fail
    refine (done_any _ _ n c kind t w1 (by exact hv) (by exact ⟨_, _, _, _, _, _, rfl, h1, h2⟩) hr).mono ?_
    rintro e w3 ⟨r, rfl, hC, hCF, b⟩
    replace hCF := hCF.mono c0.size
    obtain ⟨ra, rl, rc, ra2, rl2, rc2, rfl, hI, hI2⟩ := hC
    replace c0 := below_then c0 b
    replace hR := hR.below b
    clear b x0 x1 x2 y0 y1 y2 o0 o1 o2 h1 h2 hv hbn hbc hbo
    obtain ⟨q1, q2, q3, q4, q5⟩ := hR.facts
    obtain ⟨W2, HW2⟩ : ∃ W2, Hid ((w3.setCell ⟨w.heap.size + 1 + 1 + 1, 0, none⟩ (.slice ra rl rc)).setCell ⟨w.heap.size + 1 + 1 + 1, 1, none⟩ (.slice ra2 rl2 rc2) = W2) := ⟨_, rfl⟩
    obtain ⟨z1, z2, z3, z4⟩ := hR.fill c0 (by omega) HW2.out hI hI2
    go_wp2
    rw [HW2.out]
    exact bodyPost_ret (v := .tuple #[.agg #[.slice ra rl rc, .slice ra2 rl2 rc2], .int .i64 (doC n c kind t).2]) (results_case rfl rfl rfl z1 z2) rfl ⟨_, rfl, z3, hCF, z4⟩

theorem cases_do (v u : Value) (n : NetL) (c : CaseL) (kind t : Int) (w : World) (hv : Net w v n) (hu : CaseV w u c) : Calls Try.prog 71 #[v, u, .agg #[.int .i64 kind, .int .i64 t]] w fun e w' => GivesC w (doC n c kind t) e w' := (cases_do_own v u n c kind t w hv hu).mono fun _ _ h => h.gives

end Go.Proofs.Ytaladbcocealnaa

/- Package cases as it landed: Play. -/
namespace Go.Proofs.Ytaladbcocealnaa
open Go.RowKit
set_option linter.unusedVariables false
set_option linter.unusedSimpArgs false
set_option maxRecDepth 4000

theorem boxesNR (w : World) (x y : Value) : ∃ w0, Hid ((w.alloc (.cells #[x, y] 24)).alloc (.cells #[.slice none 0 0, .slice none 0 0] 29) = w0) ∧ Box2 w0 w.heap.size x y ∧ ResC w0 (w.heap.size + 1) none 0 0 none 0 0 ∧ Below w.heap.size w w0 := by
  have b1 := below_new w (.cells #[x, y] 24)
  have h1 := box2_new w x y 24
  obtain ⟨w1, H1⟩ : ∃ w1, w.alloc (.cells #[x, y] 24) = w1 := ⟨_, rfl⟩
  have s1 : w1.heap.size = w.heap.size + 1 := by rw [← H1]; simp
  rw [H1] at b1 h1 ⊢
  have b2 := below_new w1 (.cells #[.slice none 0 0, .slice none 0 0] 29)
  have h2 := resC_new w1
  rw [s1] at h2
  exact ⟨_, rfl, h1.below b2, h2, below_then b1 b2⟩

/-- A slice whose numbers lie beside block g. -/
def SlOff (g : Nat) (v : Value) : Prop := ∀ b off l c, v = .slice (some ⟨b, off, none⟩) l c → 0 < l → b ≠ g

theorem SlFrom.off {B g : Nat} {v : Value} (h : SlFrom B v) (hg : g < B) : SlOff g v := fun b off l c e hl q => by have := h b off l c e hl; omega

theorem Ints.offHigh {w : World} {v : Value} {xs : List Int} (h : Ints w v xs) {g : Nat} (hg : w.heap.size ≤ g) : SlOff g v := fun b off l c e hl q => by
  subst e
  obtain ⟨a, len, cap, e, hl', hm, hs, hr⟩ := h
  injection e with e1 e2 _
  subst e2
  obtain ⟨b', off', ha, hlt, _⟩ := hr 0 (by omega)
  rw [← e1] at ha
  injection ha with ha
  injection ha with ha1 _
  omega

theorem Ints.setOff {w : World} {v : Value} {xs : List Int} (h : Ints w v xs) {g : Nat} (hf : SlOff g v) {p : Addr} (hp : p.block = g) (u : Value) : Ints (w.setCell p u) v xs := by
  obtain ⟨a, len, cap, rfl, hl, hm, hs, hr⟩ := h
  refine ⟨a, len, cap, rfl, hl, hm, hs, fun j hj => ?_⟩
  obtain ⟨b, off, ha, hlt, hc⟩ := hr j hj
  have := hf b off len cap (by rw [ha]) (by omega)
  exact ⟨b, off, ha, by simpa [World.setCell] using hlt, by rw [World.cell?_setCell_other _ _ _ _ (by intro q; rw [q] at hp; exact this hp)]; exact hc⟩

theorem ResC.set {w : World} {R : Nat} {a a' : Option Addr} {l c l' c' : Nat} (h : ResC w R a l c a' l' c') {p : Addr} (hp : p.block ≠ R) (u : Value) : ResC (w.setCell p u) R a l c a' l' c' :=
  ⟨(Below.heap_setCell w p u R (fun e => hp e.symm)).trans h.cells⟩

theorem caseBox_new (w : World) (a a' : Option Addr) (l c l' c' : Nat) : ResC (w.alloc (.cells #[.slice a l c, .slice a' l' c'] 29)) w.heap.size a l c a' l' c' := ⟨by
  show (w.heap.push _)[w.heap.size]? = _
  simp⟩

theorem ResC.put2 {w W : World} {R : Nat} {a a' : Option Addr} {l c l' c' : Nat} (h : ResC w R a l c a' l' c') {b b' : Option Addr} {m d m' d' : Nat}
    (hW : (w.setCell ⟨R, 0, none⟩ (.slice b m d)).setCell ⟨R, 1, none⟩ (.slice b' m' d') = W) : ResC W R b m d b' m' d' := ⟨h.filled hW⟩
theorem Box2.set {w : World} {b : Nat} {x y : Value} (h : Box2 w b x y) {p : Addr} (hp : p.block ≠ b) (u : Value) : Box2 (w.setCell p u) b x y := by
  obtain ⟨h0, h1, h2⟩ := h
  refine ⟨by simpa [World.setCell] using h0, ?_, ?_⟩
  · rw [World.cell?_setCell_other _ _ _ _ (by intro q; apply hp; rw [q])]; exact h1
  · rw [World.cell?_setCell_other _ _ _ _ (by intro q; apply hp; rw [q])]; exact h2
theorem info_errno : (Try.prog.info? 34).map (fun i => (i.zero, i.size, i.bytes)) = some (some (.int .i64 0), 1, 8) := by kernel_rfl

theorem results_case3 {fn : Func} {p u t : Tmp} {tmps : Array Value} {w : World} {b : Nat} {x y v z : Value} (h : fn.results = #[.cell p 29, .tmp u, .tmp t]) (hp : tmps.getD p undef = .pointer (some ⟨b, 0, none⟩)) (hu : tmps.getD u undef = v) (ht : tmps.getD t undef = z) (h1 : w.cell? ⟨b, 0, none⟩ = some x) (h2 : w.cell? ⟨b, 1, none⟩ = some y) :
    (results fn tmps).run Try.prog w = .ok (.tuple #[.agg #[x, y], v, z]) w := by
  have e : (results fn tmps).run Try.prog w = ((asAddr (tmps.getD p undef)).run Try.prog w).andThen fun a w₁ => ((loadVar 29 a).run Try.prog w₁).andThen fun v w₂ => .ok (.tuple #[v, tmps.getD u undef, tmps.getD t undef]) w₂ := by
    simp only [results, h]
    simp [Sem.run_bind, Result.andThen]
  rw [e, hp, hu, ht]
  simp [asAddr, go_sem, h1, h2]

end Go.Proofs.Ytaladbcocealnaa
