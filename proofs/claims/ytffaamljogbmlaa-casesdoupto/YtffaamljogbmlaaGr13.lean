import Derived.Test.YtffaamljogbmlaaGr12
import Derived.Test.YtffaamljogbmlaaGr08
import Derived.Test.YtffaamljogbmlaaGr09
import Derived.Test.YtffaamljogbmlaaGr01
import Derived.Deep.RegionHeld3
import Derived.Test.YtffaamljogbmlaaGr04
import Derived.Test.YtffaamljogbmlaaGr00
/- Package cases as it landed: whether a case is right; where one begins. (Made by tools/gen_casedev1.py.) -/
namespace Go.Proofs.Ytffaamljogbmlaa
open Go.RowKit
set_option linter.unusedVariables false
set_option linter.unusedSimpArgs false
set_option maxRecDepth 4000

theorem boxesNC (w : World) (x y a b : Value) : ∃ w0, Hid ((w.alloc (.cells #[x, y] 24)).alloc (.cells #[a, b] 27) = w0) ∧ Box2 w0 w.heap.size x y ∧ Box2 w0 (w.heap.size + 1) a b ∧ Below w.heap.size w w0 := by
  have b1 := below_new w (.cells #[x, y] 24)
  have h1 := box2_new w x y 24
  obtain ⟨w1, H1⟩ : ∃ w1, w.alloc (.cells #[x, y] 24) = w1 := ⟨_, rfl⟩
  have s1 : w1.heap.size = w.heap.size + 1 := by rw [← H1]; simp
  rw [H1] at b1 h1 ⊢
  have b2 := below_new w1 (.cells #[a, b] 27)
  have h2 := box2_new w1 a b 27
  rw [s1] at h2
  exact ⟨_, rfl, h1.below b2, h2, below_then b1 b2⟩

set_option maxHeartbeats 1000000 in
theorem cases_right (v u : Value) (n : NetL) (c : CaseL) (w : World) (hv : Net w v n) (hu : CaseV w u c) : Calls Try.prog 15 #[v, u] w fun e w' => e = .returned (.bool (rightC n c)) ∧ Below w.heap.size w w' := by
  obtain ⟨tv, rfl, hT⟩ := hv
  obtain ⟨a, l, p, a', l', p', rfl, h1, h2⟩ := hu
  obtain ⟨w0, Hw0, hbx, hby, c0⟩ := boxesNC w (.int .i64 n.places) tv (.slice a l p) (.slice a' l' p')
  have hv : Net w0 (.agg #[.int .i64 n.places, tv]) n := ⟨_, rfl, hT.below c0⟩
  replace h1 := h1.below c0
  replace h2 := h2.below c0
  obtain ⟨ta, len, tc, rfl, hlen, _⟩ := id hT
  have Hr : Hid (rightC n c = ((netOk n && ((l : Int) == n.places) && rightL c.mark) && (l' == len) && rightL c.busy)) := by
    show _ = _
    rw [← len_of_ints h1, ← len_of_ints h2, ← hlen]
    rfl
  clear hT hlen
  obtain ⟨x0, x1, x2⟩ := id hbx
  obtain ⟨y0, y1, y2⟩ := id hby
  go_enter Try.func15, Try.ntmps15
  go_upto_region 1 with fail
  rw [Hw0.out]
  clear Hw0
  go_wp2_with fail
  refine (net_wrong _ n w0 (by exact hv)).mono ?_
  rintro e w1 ⟨rfl, b⟩
  replace c0 := below_then c0 b
  replace h1 := h1.below b
  replace h2 := h2.below b
  replace hbx := hbx.below b
  replace hby := hby.below b
  clear b x0 x1 x2 y0 y1 y2 hv
  obtain ⟨x0, x1, x2⟩ := id hbx
  obtain ⟨y0, y1, y2⟩ := id hby
  cases hn : netOk n
  · have R : Hid (rightC n c = false) := by show _ = _; rw [Hr.out, hn]; rfl
    rw [wrongL_not hn]
    clear hn Hr
    go_wp2
    go_ret
    exact ⟨ret_bool R.out.symm, c0⟩
  · rw [wrongL_ok hn]
    cases hm : ((l : Int) == n.places)
    · have R : Hid (rightC n c = false) := by show _ = _; rw [Hr.out, hn, hm]; rfl
      clear hn Hr
      go_wp2
      go_ret
      exact ⟨ret_bool R.out.symm, c0⟩
    · have hm2 : ((l : Int) != n.places) = false := by simp [bne, hm]
      by_cases hll : l' = len
      · subst hll
        have R : Hid (rightC n c = (rightL c.mark && rightL c.busy)) := by show _ = _; rw [Hr.out, hn, hm]; simp
        clear hn Hr hm
        go_wp2_with fail
        refine (right_any _ c.mark w1 (by exact h1)).mono ?_
        rintro e w2 ⟨rfl, rfl⟩
        cases hrm : rightL c.mark
        · rw [hrm] at R
          go_wp2
          go_ret
          exact ⟨ret_bool R.out.symm, c0⟩
        · rw [hrm] at R
          go_wp2_with fail
          refine (right_any _ c.busy _ (by exact h2)).mono ?_
          rintro e w3 ⟨rfl, rfl⟩
          go_wp2
          go_ret
          exact ⟨ret_bool R.out.symm, c0⟩
      · have R : Hid (rightC n c = false) := by show _ = _; rw [Hr.out, hn]; simp [hll]
        have hll' : ((l' : Int) == (len : Int)) = false := by
          rw [beq_eq_false_iff_ne]; omega
        clear hn Hr hll hm
        go_wp2
        go_ret
        exact ⟨ret_bool R.out.symm, c0⟩

set_option maxHeartbeats 2000000 in
theorem cases_begin_own (v : Value) (n : NetL) (i : Int) (w : World) (hv : Net w v n) :
    Calls Try.prog 8 #[v, .int .i64 i] w fun e w' => GivesCF w (beginC n i) e w' := by
  obtain ⟨tv, rfl, hT⟩ := hv
  obtain ⟨ta, len, tc, rfl, hlen, hmx, _⟩ := id hT
  have b1 := below_new w (.cells #[.int .i64 n.places, .slice ta len tc] 24)
  have hbx := box2_new w (.int .i64 n.places) (.slice ta len tc) 24
  obtain ⟨wa, Hwa⟩ : ∃ wa, Hid (w.alloc (.cells #[.int .i64 n.places, .slice ta len tc] 24) = wa) := ⟨_, rfl⟩
  have ea : wa.heap.size = w.heap.size + 1 := by rw [← Hwa.out]; simp
  rw [Hwa.out] at b1 hbx
  have b2 := below_new wa (.cells #[.slice none 0 0, .slice none 0 0] 27)
  have hR := resC_new wa
  rw [ea] at hR
  obtain ⟨w0, Hw0⟩ : ∃ w0, Hid ((w.alloc (.cells #[.int .i64 n.places, .slice ta len tc] 24)).alloc (.cells #[.slice none 0 0, .slice none 0 0] 27) = w0) := ⟨_, rfl⟩
  have hw0 : wa.alloc (.cells #[.slice none 0 0, .slice none 0 0] 27) = w0 := by rw [← Hwa.out]; exact Hw0.out
  rw [hw0] at b2 hR
  replace hbx := hbx.below b2
  have c := below_then b1 b2
  have hv : Net w0 (.agg #[.int .i64 n.places, .slice ta len tc]) n := ⟨_, rfl, hT.below c⟩
  clear hT b1 b2 Hwa ea hw0
  obtain ⟨x0, x1, x2⟩ := id hbx
  go_enter Try.func8, Try.ntmps8
  go_upto_region 1 with fail
  rw [Hw0.out]
  clear Hw0
  go_wp2_with fail
  refine (net_wrong _ n w0 (by exact hv)).mono ?_
  rintro e w1 ⟨rfl, b⟩
  replace c := below_then c b
  replace hv := hv.below b
  replace hbx := hbx.below b
  replace hR := hR.below b
  clear b x0 x1 x2
  obtain ⟨x0, x1, x2⟩ := id hbx
  obtain ⟨q1, q2, q3, q4, q5⟩ := hR.facts
  obtain ⟨W2, HW2⟩ : ∃ W2, Hid ((w1.setCell ⟨w.heap.size + 1, 0, none⟩ (.slice none 0 0)).setCell ⟨w.heap.size + 1, 1, none⟩ (.slice none 0 0) = W2) := ⟨_, rfl⟩
  obtain ⟨z1, z2, z3, z4⟩ := hR.fill c (by omega) HW2.out (Ints.nil _) (Ints.nil _)
  cases hn : netOk n
  · have E : Hid (beginC n i = (noCase, 2)) := begin_bad hn
    rw [wrongL_not hn]
    clear hn
    go_wp2
    rw [HW2.out]
    exact bodyPost_ret (v := .tuple #[.agg #[.slice none 0 0, .slice none 0 0], .int .i64 2]) (results_case rfl rfl rfl z1 z2) rfl (givesCF_of E.out z3 (CaseFrom.none _) z4)
  · rw [wrongL_ok hn]
    by_cases hi : 0 ≤ i ∧ i < n.places
    · have E : Hid (beginC n i = (⟨startL n.places i, zerosL len⟩, 0)) := by show _ = _; rw [← hlen]; exact begin_ok hn hi
      have h1 : decide (i < 0) = false := decide_eq_false (by omega)
      have h2 : decide (n.places ≤ i) = false := decide_eq_false (by omega)
      have hl24 : len ≤ 24 ∧ (min n.places 16).toNat ≤ 16 := by
        unfold netOk headOk at hn
        simp only [Bool.and_eq_true, decide_eq_true_eq] at hn
        omega
      have HS : Hid (∀ w', Below w1.heap.size w1 w' → w'.cell? ⟨w.heap.size, 0, none⟩ = some (.int .i64 n.places) ∧ w'.cell? ⟨w.heap.size, 1, none⟩ = some (.slice ta len tc)) := fun w' h => (hbx.below h).2
      clear hn z1 z2 z3 z4 HW2 W2 hi hlen
      go_upto_region 6 with fail
      refine wp_region_held_drew (S := (fun w' => w'.cell? ⟨w.heap.size, 0, none⟩ = some (.int .i64 n.places) ∧ w'.cell? ⟨w.heap.size, 1, none⟩ = some (.slice ta len tc))) (by kernel_rfl) (HS.out _ (Below.refl _ _).drew) (fun hH => ?_)
      refine wpAnyH_take (i := 0) (v := .agg #[.int .i64 n.places, .slice ta len tc]) rfl (by kernel_rfl) (by kernel_rfl) (by kernel_rfl) (fun _ _ _ h => h) (.inl ⟨by rfl, fun w' hS' => by obtain ⟨s1, s2⟩ := hS'; go_simp⟩) hH ?_
      simp only [List.getElem_toArray, List.getElem_cons_succ, List.getElem_cons_zero, Act.put, List.setIfInBounds_toArray, List.set_cons_zero, List.set_cons_succ]
      refine wpAnyH_take (i := 1) (v := .int .i64 i) rfl (by kernel_rfl) (by kernel_rfl) (by kernel_rfl) (fun _ _ _ h => h) (.inl ⟨by rfl, fun _ _ => rfl⟩) hH ?_
      simp only [List.getElem_toArray, List.getElem_cons_succ, List.getElem_cons_zero, Act.put, List.setIfInBounds_toArray, List.set_cons_zero, List.set_cons_succ]
      refine wpAnyH_take (i := 3) (v := .pointer (some ⟨w.heap.size, 1, none⟩)) rfl (by kernel_rfl) (by kernel_rfl) (by kernel_rfl) (fun _ _ _ h => h) (.inl ⟨by rfl, fun w' hS' => by first | (go_simp; done) | (go_simp; rfl) | (go_simp; intro h; omega) | (go_simp; omega)⟩) hH ?_
      simp only [List.getElem_toArray, List.getElem_cons_succ, List.getElem_cons_zero, Act.put, List.setIfInBounds_toArray, List.set_cons_zero, List.set_cons_succ]
      refine wpAnyH_take (i := 4) (v := .slice ta len tc) rfl (by kernel_rfl) (by kernel_rfl) (by kernel_rfl) (fun _ _ _ h => h) (.inl ⟨by rfl, fun w' hS' => by obtain ⟨s1, s2⟩ := hS'; go_simp⟩) hH ?_
      simp only [List.getElem_toArray, List.getElem_cons_succ, List.getElem_cons_zero, Act.put, List.setIfInBounds_toArray, List.set_cons_zero, List.set_cons_succ]
      refine wpAnyH_take (i := 5) (v := .int .i64 (len : Int)) rfl (by kernel_rfl) (by kernel_rfl) (by kernel_rfl) (fun _ _ _ h => h) (.inl ⟨by rfl, fun w' hS' => by first | (go_simp; done) | (go_simp; rfl) | (go_simp; intro h; omega) | (go_simp; omega)⟩) hH ?_
      simp only [List.getElem_toArray, List.getElem_cons_succ, List.getElem_cons_zero, Act.put, List.setIfInBounds_toArray, List.set_cons_zero, List.set_cons_succ]
      refine wpAnyH_ready (rs := [2, 6]) (by kernel_rfl) (by simp) ?_
      refine (AllReadyH.cons rfl (fun K hK => ?_) (AllReadyH.cons rfl (fun K hK => ?_) AllReadyH.nil))
      · simp only [List.getElem_toArray, List.getElem_cons_succ, List.getElem_cons_zero]
        rw [if_pos (by rfl)]
        go_wp2_with fail
        have hd : Below w1.heap.size w1 w1.drew := (Below.refl _ _).drew
        refine (shape_start_own _ n i w1.drew (by exact hv.below hd)).mono ?_
        rintro e w2 ⟨r, rfl, hO, hO2⟩
        have b2 := below_then hd hO2
        have hI := hO.now
        obtain ⟨ra, rl, rc, rfl, _⟩ := id hI
        have hF := (on_from hO).mono (Nat.le_trans c.size hd.size)
        refine hK.out _ _ (HS.out _ b2) (fun hH => ?_)
        obtain ⟨w5, hmk, hZ0⟩ := make_intsZ w2 len (len : Int) rfl (by omega)
        obtain ⟨Bz, HBz⟩ : ∃ B, Hid (w2.heap.size = B) := ⟨_, rfl⟩
        have hBz : w.heap.size ≤ Bz := by rw [← HBz.out]; exact Nat.le_trans c.size b2.size
        rw [HBz.out] at hmk hZ0
        have b5 : Below w1.heap.size w1 w5 := below_then b2 (by rw [HBz.out]; exact hZ0.below)
        replace hI := hI.below (by rw [HBz.out]; exact hZ0.below)
        have hZ := hZ0.ints (zs := zerosL len) (zeros_length _) (fun j _ => zeros_at _ _) (by omega) (Nat.le_refl _) (by omega)
        have HS9 : Hid (∀ W9, (w5.setCell ⟨w.heap.size + 1, 0, none⟩ (.slice ra rl rc)).setCell ⟨w.heap.size + 1, 1, none⟩ (.slice (some ⟨Bz, 0, none⟩) len len) = W9 → W9.cell? ⟨w.heap.size, 0, none⟩ = some (.int .i64 n.places) ∧ W9.cell? ⟨w.heap.size, 1, none⟩ = some (.slice ta len tc)) := fun W9 e => by
          have h := HS.out _ b5
          rw [← e]
          exact ⟨by rw [World.cell?_setCell_other _ _ _ _ (by simp), World.cell?_setCell_other _ _ _ _ (by simp)]; exact h.1, by rw [World.cell?_setCell_other _ _ _ _ (by simp), World.cell?_setCell_other _ _ _ _ (by simp)]; exact h.2⟩
        refine wpAnyH_ready (rs := [6]) (by kernel_rfl) (by simp) ?_
        refine AllReadyH.cons rfl (fun K hK => ?_) AllReadyH.nil
        simp only [List.getElem_toArray, List.getElem_cons_succ, List.getElem_cons_zero]
        rw [if_pos (by rfl)]
        go_wp2_with fail
        refine hK.out _ _ (HS.out _ b5) (fun hH => ?_)
        have B5 : Below w.heap.size w w5 := below_then c b5
        have hR5 := hR.below b5
        obtain ⟨u1, u2, u3, u4, u5⟩ := hR5.facts
        obtain ⟨W9, HW9⟩ : ∃ W9, Hid ((w5.setCell ⟨w.heap.size + 1, 0, none⟩ (.slice ra rl rc)).setCell ⟨w.heap.size + 1, 1, none⟩ (.slice (some ⟨Bz, 0, none⟩) len len) = W9) := ⟨_, rfl⟩
        obtain ⟨z1, z2, z3, z4⟩ := hR5.fill B5 (by omega) HW9.out hI hZ
        refine wpAnyH_take (i := 7) (v := .agg #[.slice ra rl rc, .slice (some ⟨Bz, 0, none⟩) len len]) rfl (by kernel_rfl) (by kernel_rfl) (by kernel_rfl) (fun _ _ _ h => h) (.inl ⟨by rfl, fun w' hS' => by first | (go_simp; done) | (go_simp; rfl) | (go_simp; intro h; omega) | (go_simp; omega)⟩) hH ?_
        simp only [List.getElem_toArray, List.getElem_cons_succ, List.getElem_cons_zero, Act.put, List.setIfInBounds_toArray, List.set_cons_zero, List.set_cons_succ]
        refine wpAnyH_ready (rs := [8]) (by kernel_rfl) (by simp) ?_
        refine AllReadyH.cons rfl (fun K hK => ?_) AllReadyH.nil
        simp only [List.getElem_toArray, List.getElem_cons_succ, List.getElem_cons_zero]
        rw [if_pos (by rfl)]
        go_wp2_with fail
        rw [HW9.out]
        refine hK.out _ _ (HS9.out _ HW9.out) (fun hH => ?_)
        refine wpAnyH_take (i := 9) (v := .int .i64 0) rfl (by kernel_rfl) (by kernel_rfl) (by kernel_rfl) (fun _ _ _ h => h) (.inl ⟨by rfl, fun _ _ => rfl⟩) hH ?_
        simp only [List.getElem_toArray, List.getElem_cons_succ, List.getElem_cons_zero, Act.put, List.setIfInBounds_toArray, List.set_cons_zero, List.set_cons_succ]
        refine wpAnyH_done (by kernel_rfl) ?_ _
        go_wp2
        exact bodyPost_ret (v := .tuple #[.agg #[.slice ra rl rc, .slice (some ⟨Bz, 0, none⟩) len len], .int .i64 0]) (results_case rfl rfl rfl z1 z2) rfl (givesCF_of E.out z3 ⟨_, _, rfl, hF, SlFrom.at hBz⟩ z4)
      · simp only [List.getElem_toArray, List.getElem_cons_succ, List.getElem_cons_zero]
        rw [if_pos (by rfl)]
        have hd : Below w1.heap.size w1 w1.drew := (Below.refl _ _).drew
        obtain ⟨w2, hmk, hZ0⟩ := make_intsZ w1.drew len (len : Int) rfl (by omega)
        obtain ⟨Bz, HBz⟩ : ∃ B, Hid (w1.drew.heap.size = B) := ⟨_, rfl⟩
        have hBz : w.heap.size ≤ Bz := by rw [← HBz.out]; exact Nat.le_trans c.size hd.size
        rw [HBz.out] at hmk hZ0
        have b2 : Below w1.heap.size w1 w2 := below_then hd (by rw [HBz.out]; exact hZ0.below)
        have hZ2 := hZ0.ints (zs := zerosL len) (zeros_length _) (fun j _ => zeros_at _ _) (by omega) (Nat.le_refl _) (by omega)
        go_wp2_with fail
        refine hK.out _ _ (HS.out _ b2) (fun hH => ?_)
        refine wpAnyH_ready (rs := [2]) (by kernel_rfl) (by simp) ?_
        refine AllReadyH.cons rfl (fun K hK => ?_) AllReadyH.nil
        simp only [List.getElem_toArray, List.getElem_cons_succ, List.getElem_cons_zero]
        rw [if_pos (by rfl)]
        go_wp2_with fail
        refine (shape_start_own _ n i w2 (by exact hv.below b2)).mono ?_
        rintro e w5 ⟨r, rfl, hO, hO2⟩
        have b5 := below_then b2 hO2
        have hI := hO.now
        obtain ⟨ra, rl, rc, rfl, _⟩ := id hI
        have hF := (on_from hO).mono (Nat.le_trans c.size b2.size)
        have hZ := hZ2.below hO2
        refine hK.out _ _ (HS.out _ b5) (fun hH => ?_)
        have HS9 : Hid (∀ W9, (w5.setCell ⟨w.heap.size + 1, 0, none⟩ (.slice ra rl rc)).setCell ⟨w.heap.size + 1, 1, none⟩ (.slice (some ⟨Bz, 0, none⟩) len len) = W9 → W9.cell? ⟨w.heap.size, 0, none⟩ = some (.int .i64 n.places) ∧ W9.cell? ⟨w.heap.size, 1, none⟩ = some (.slice ta len tc)) := fun W9 e => by
          have h := HS.out _ b5
          rw [← e]
          exact ⟨by rw [World.cell?_setCell_other _ _ _ _ (by simp), World.cell?_setCell_other _ _ _ _ (by simp)]; exact h.1, by rw [World.cell?_setCell_other _ _ _ _ (by simp), World.cell?_setCell_other _ _ _ _ (by simp)]; exact h.2⟩
        have B5 : Below w.heap.size w w5 := below_then c b5
        have hR5 := hR.below b5
        obtain ⟨u1, u2, u3, u4, u5⟩ := hR5.facts
        obtain ⟨W9, HW9⟩ : ∃ W9, Hid ((w5.setCell ⟨w.heap.size + 1, 0, none⟩ (.slice ra rl rc)).setCell ⟨w.heap.size + 1, 1, none⟩ (.slice (some ⟨Bz, 0, none⟩) len len) = W9) := ⟨_, rfl⟩
        obtain ⟨z1, z2, z3, z4⟩ := hR5.fill B5 (by omega) HW9.out hI hZ
        refine wpAnyH_take (i := 7) (v := .agg #[.slice ra rl rc, .slice (some ⟨Bz, 0, none⟩) len len]) rfl (by kernel_rfl) (by kernel_rfl) (by kernel_rfl) (fun _ _ _ h => h) (.inl ⟨by rfl, fun w' hS' => by first | (go_simp; done) | (go_simp; rfl) | (go_simp; intro h; omega) | (go_simp; omega)⟩) hH ?_
        simp only [List.getElem_toArray, List.getElem_cons_succ, List.getElem_cons_zero, Act.put, List.setIfInBounds_toArray, List.set_cons_zero, List.set_cons_succ]
        refine wpAnyH_ready (rs := [8]) (by kernel_rfl) (by simp) ?_
        refine AllReadyH.cons rfl (fun K hK => ?_) AllReadyH.nil
        simp only [List.getElem_toArray, List.getElem_cons_succ, List.getElem_cons_zero]
        rw [if_pos (by rfl)]
        go_wp2_with fail
        rw [HW9.out]
        refine hK.out _ _ (HS9.out _ HW9.out) (fun hH => ?_)
        refine wpAnyH_take (i := 9) (v := .int .i64 0) rfl (by kernel_rfl) (by kernel_rfl) (by kernel_rfl) (fun _ _ _ h => h) (.inl ⟨by rfl, fun _ _ => rfl⟩) hH ?_
        simp only [List.getElem_toArray, List.getElem_cons_succ, List.getElem_cons_zero, Act.put, List.setIfInBounds_toArray, List.set_cons_zero, List.set_cons_succ]
        refine wpAnyH_done (by kernel_rfl) ?_ _
        go_wp2
        exact bodyPost_ret (v := .tuple #[.agg #[.slice ra rl rc, .slice (some ⟨Bz, 0, none⟩) len len], .int .i64 0]) (results_case rfl rfl rfl z1 z2) rfl (givesCF_of E.out z3 ⟨_, _, rfl, hF, SlFrom.at hBz⟩ z4)
    · have E : Hid (beginC n i = (noCase, 3)) := begin_none hn hi
      clear hn
      by_cases h1 : i < 0
      · clear hi
        go_wp2
        rw [HW2.out]
        exact bodyPost_ret (v := .tuple #[.agg #[.slice none 0 0, .slice none 0 0], .int .i64 3]) (results_case rfl rfl rfl z1 z2) rfl (givesCF_of E.out z3 (CaseFrom.none _) z4)
      · have h2 : n.places ≤ i := by omega
        have h1' : decide (i < 0) = false := decide_eq_false h1
        clear hi h1
        go_wp2
        rw [HW2.out]
        exact bodyPost_ret (v := .tuple #[.agg #[.slice none 0 0, .slice none 0 0], .int .i64 3]) (results_case rfl rfl rfl z1 z2) rfl (givesCF_of E.out z3 (CaseFrom.none _) z4)

theorem cases_begin (v : Value) (n : NetL) (i : Int) (w : World) (hv : Net w v n) :
    Calls Try.prog 8 #[v, .int .i64 i] w fun e w' => GivesC w (beginC n i) e w' := (cases_begin_own v n i w hv).mono fun _ _ h => h.gives

end Go.Proofs.Ytffaamljogbmlaa

/- Package cases as it landed: what is done by each kind of work. (Made by tools/gen_casedev2.py.) -/
namespace Go.Proofs.Ytffaamljogbmlaa
open Go.RowKit
set_option linter.unusedVariables false
set_option linter.unusedSimpArgs false
set_option maxRecDepth 4000

set_option maxHeartbeats 1000000 in
theorem once_any (v : Value) (n : NetL) (k : Nat) (w : World) (hv : Net w v n) (hk : k < n.trans.length) :
    Calls Try.prog 69 #[v, .int .i64 k] w fun e w' => ∃ r, e = .returned r ∧ Ints w' r (onceL n.trans.length k) ∧ Below w.heap.size w w' := by
  obtain ⟨tv, rfl, hT⟩ := hv
  obtain ⟨ta, len, tc, rfl, hlen, hmx, _⟩ := id hT
  have b1 := below_new w (.cells #[.int .i64 n.places, .slice ta len tc] 24)
  have hbx := box2_new w (.int .i64 n.places) (.slice ta len tc) 24
  obtain ⟨w0, Hw0⟩ : ∃ w0, Hid (w.alloc (.cells #[.int .i64 n.places, .slice ta len tc] 24) = w0) := ⟨_, rfl⟩
  rw [Hw0.out] at b1 hbx
  obtain ⟨x0, x1, x2⟩ := id hbx
  obtain ⟨w1, hmk, hZ⟩ := make_intsZ w0 len (len : Int) rfl (by omega)
  obtain ⟨B, HB⟩ : ∃ B, Hid (w0.heap.size = B) := ⟨_, rfl⟩
  have hB : w.heap.size ≤ B := by rw [← HB.out]; exact b1.size
  rw [HB.out] at hmk hZ
  have hkl : k < len := by omega
  have HL : Hid (n.trans.length = len) := hlen
  have q1 := hZ.cells k hkl
  have q2 := hZ.frozen k hkl
  have hP := hZ.put (g := fun j => if j = k then 1 else 0) hkl (x := 1) (by simp) (fun j _ hj => by simp [hj])
  have R := hP.ints (zs := onceL len k) (once_length _ _) (fun j _ => once_at hkl j) (by omega) (Nat.le_refl _) (by omega)
  have b2 := hP.below
  have c0 : Below w.heap.size w (w1.setCell ⟨B, k, none⟩ (.int .i64 1)) := b1.trans (b2.mono hB)
  clear hT hlen hZ hP b2 b1 hbx hk
  go_enter Try.func69, Try.ntmps69
  go_upto_region 1 with fail
  rw [Hw0.out]
  clear Hw0
  go_wp2
  go_ret
  exact ⟨_, rfl, by rw [HL.out]; exact R, c0⟩

theorem work_post (L : Int) (p q : Value) (w : World) : Calls Try.prog 60 #[.agg #[.int .i64 L, p, q]] w fun e w' => e = .returned q ∧ Below w.heap.size w w' := by
  have b1 := below_new w (.cells #[.int .i64 L, p, q] 54)
  obtain ⟨x0, x1, x2, x3⟩ := box3_new w (.int .i64 L) p q 54
  obtain ⟨w0, Hw0⟩ : ∃ w0, Hid (w.alloc (.cells #[.int .i64 L, p, q] 54) = w0) := ⟨_, rfl⟩
  rw [Hw0.out] at b1 x0 x1 x2 x3
  go_enter Try.func60, Try.ntmps60
  go_upto_region 1 with fail
  rw [Hw0.out]
  go_wp2
  go_ret
  exact ⟨rfl, b1⟩
theorem work_pre (L : Int) (p q : Value) (w : World) : Calls Try.prog 61 #[.agg #[.int .i64 L, p, q]] w fun e w' => e = .returned p ∧ Below w.heap.size w w' := by
  have b1 := below_new w (.cells #[.int .i64 L, p, q] 54)
  obtain ⟨x0, x1, x2, x3⟩ := box3_new w (.int .i64 L) p q 54
  obtain ⟨w0, Hw0⟩ : ∃ w0, Hid (w.alloc (.cells #[.int .i64 L, p, q] 54) = w0) := ⟨_, rfl⟩
  rw [Hw0.out] at b1 x0 x1 x2 x3
  go_enter Try.func61, Try.ntmps61
  go_upto_region 1 with fail
  rw [Hw0.out]
  go_wp2
  go_ret
  exact ⟨rfl, b1⟩

theorem boxesC (w : World) (a b : Value) : ∃ w0, Hid ((w.alloc (.cells #[a, b] 27)).alloc (.cells #[.slice none 0 0, .slice none 0 0] 27) = w0) ∧ Box2 w0 w.heap.size a b ∧ ResC w0 (w.heap.size + 1) none 0 0 none 0 0 ∧ Below w.heap.size w w0 := by
  have b1 := below_new w (.cells #[a, b] 27)
  have h1 := box2_new w a b 27
  obtain ⟨w1, H1⟩ : ∃ w1, w.alloc (.cells #[a, b] 27) = w1 := ⟨_, rfl⟩
  have s1 : w1.heap.size = w.heap.size + 1 := by rw [← H1]; simp
  rw [H1] at b1 h1 ⊢
  have b2 := below_new w1 (.cells #[.slice none 0 0, .slice none 0 0] 27)
  have h2 := resC_new w1
  rw [s1] at h2
  exact ⟨_, rfl, h1.below b2, h2, below_then b1 b2⟩

set_option maxHeartbeats 1000000 in
theorem work_skip (u tv : Value) (bn : Nat) (n : NetL) (c : CaseL) (k : Nat) (w : World) (hN : Box2 w bn (.int .i64 n.places) tv) (hT : Trans w tv n.trans) (hu : CaseV w u c) (hr : rightC n c = true) (hk : k < n.trans.length) (hl : (tranAt n.trans k).label = 0) :
    Calls Try.prog 67 #[u, .int .i64 k, .pointer (some ⟨bn, 0, none⟩)] w fun e w' => GivesCF w (doC n c 1 k) e w' := by
  have HD : Hid _ := do_skip hr hk hl
  obtain ⟨a, l, p, a', l', p', rfl, h1, h2⟩ := hu
  obtain ⟨w0, Hw0, hbc, hR, c0⟩ := boxesC w (.slice a l p) (.slice a' l' p')
  have hv : Net w0 (.agg #[.int .i64 n.places, tv]) n := ⟨_, rfl, hT.below c0⟩
  replace hN := hN.below c0
  replace h1 := h1.below c0
  replace h2 := h2.below c0
  clear hT hr hl hk
  obtain ⟨x0, x1, x2⟩ := id hN
  obtain ⟨y0, y1, y2⟩ := id hbc
  go_enter Try.func67, Try.ntmps67
  go_upto_region 1 with fail
  rw [Hw0.out]
  clear Hw0
  go_wp2_with fail
  refine (net_fire_own _ _ n c.mark k w0 (by exact hv) (by exact h1)).mono ?_
  rintro e wz ⟨r, rfl, hOn, b⟩
  have hI := hOn.now
  have hF := (on_from hOn).mono c0.size
  clear hOn
  replace c0 := below_then c0 b
  replace h2 := h2.below b
  replace hbc := hbc.below b
  replace hR := hR.below b
  clear b x0 x1 x2 y0 y1 y2 hv h1 hN
  obtain ⟨y0, y1, y2⟩ := id hbc
  obtain ⟨ra, rl, rc, rfl, _⟩ := id hI
  obtain ⟨ms, Hms⟩ : ∃ ms, Hid ((fireL n c.mark k).1 = ms) := ⟨_, rfl⟩
  obtain ⟨d, Hd⟩ : ∃ d, Hid ((fireL n c.mark k).2 = d) := ⟨_, rfl⟩
  rw [Hms.out] at hI
  rw [Hd.out]
  by_cases hd : d = 0
  · subst hd
    have E : Hid (doC n c 1 k = (⟨ms, c.busy⟩, 0)) := by show _ = _; rw [HD.out, Hd.out, Hms.out]; rfl
    clear HD Hd Hms
    go_wp2_with fail
    refine (clone_any _ c.busy wz (by exact h2)).mono ?_
    rintro e wy ⟨r2, rfl, hO⟩
    have b := hO.2.1
    have hF2 := (own_from hO).mono c0.size
    have hI2 := hO.ints (by rw [len_of_ints h2]; obtain ⟨_, _, _, e, _, hm, _⟩ := id h2; injection e with _ e2 _; omega)
    obtain ⟨ra2, rl2, rc2, rfl, _⟩ := id hI2
    replace c0 := below_then c0 b
    replace hI := hI.below b
    replace hR := hR.below b
    clear b hO h2 hbc y0 y1 y2
    obtain ⟨q1, q2, q3, q4, q5⟩ := hR.facts
    obtain ⟨W2, HW2⟩ : ∃ W2, Hid ((wy.setCell ⟨w.heap.size + 1, 0, none⟩ (.slice ra rl rc)).setCell ⟨w.heap.size + 1, 1, none⟩ (.slice ra2 rl2 rc2) = W2) := ⟨_, rfl⟩
    obtain ⟨z1, z2, z3, z4⟩ := hR.fill c0 (by omega) HW2.out (hI) (hI2)
    go_wp2
    rw [HW2.out]
    exact bodyPost_ret (v := .tuple #[.agg #[.slice ra rl rc, .slice ra2 rl2 rc2], .int .i64 0]) (results_case rfl rfl rfl z1 z2) rfl (givesCF_of E.out z3 (⟨_, _, rfl, hF, hF2⟩) z4)
  · have E : Hid (doC n c 1 k = (noCase, d)) := by show _ = _; rw [HD.out, Hd.out, if_neg hd]
    have hd' : (d == 0) = false := by simpa using hd
    have hd2 : (d != 0) = true := by simpa using hd
    clear HD Hd Hms hI h2 hbc y0 y1 y2
    obtain ⟨q1, q2, q3, q4, q5⟩ := hR.facts
    obtain ⟨W2, HW2⟩ : ∃ W2, Hid ((wz.setCell ⟨w.heap.size + 1, 0, none⟩ (.slice none 0 0)).setCell ⟨w.heap.size + 1, 1, none⟩ (.slice none 0 0) = W2) := ⟨_, rfl⟩
    obtain ⟨z1, z2, z3, z4⟩ := hR.fill c0 (by omega) HW2.out (Ints.nil _) (Ints.nil _)
    go_wp2
    rw [HW2.out]
    exact bodyPost_ret (v := .tuple #[.agg #[.slice none 0 0, .slice none 0 0], .int .i64 d]) (results_case rfl rfl rfl z1 z2) rfl (givesCF_of E.out z3 (CaseFrom.none _) z4)


set_option maxHeartbeats 4000000 in
theorem work_begin (u tv : Value) (bn : Nat) (n : NetL) (c : CaseL) (k : Nat) (w : World) (hN : Box2 w bn (.int .i64 n.places) tv) (hT : Trans w tv n.trans) (hu : CaseV w u c) (hr : rightC n c = true) (hk : k < n.trans.length) (hl : (tranAt n.trans k).label ≠ 0) :
    Calls Try.prog 68 #[u, .int .i64 k, .pointer (some ⟨bn, 0, none⟩)] w fun e w' => GivesCF w (doC n c 2 k) e w' := by
  have HD : Hid _ := do_begin hr hk hl
  obtain ⟨a, l, p, a', l', p', rfl, h1, h2⟩ := hu
  obtain ⟨w0, Hw0, hbc, hR, c0⟩ := boxesC w (.slice a l p) (.slice a' l' p')
  replace hN := hN.below c0
  replace hT := hT.below c0
  replace h1 := h1.below c0
  replace h2 := h2.below c0
  obtain ⟨ta, len, tc, rfl, hlen, hmx, _⟩ := id hT
  have hkl : k < len := by omega
  have HL : Hid (n.trans.length = len) := hlen
  have Hk : Hid (k < n.trans.length) := hk
  obtain ⟨tb, tf, c1, c2, rfl, hblt, t0, t1, t2, i1, i2⟩ := hT.at hkl
  have hv : Net w0 (.agg #[.int .i64 n.places, .slice (some ⟨tb, tf, none⟩) len tc]) n := ⟨_, rfl, hT⟩
  obtain ⟨T, HT⟩ : ∃ T, Hid (tranAt n.trans k = T) := ⟨_, rfl⟩
  rw [HT.out] at t0 i1 i2 HD
  clear hT hr hl hk hlen
  obtain ⟨x0, x1, x2⟩ := id hN
  obtain ⟨y0, y1, y2⟩ := id hbc
  go_enter Try.func68, Try.ntmps68
  go_upto_region 1 with fail
  rw [Hw0.out]
  clear Hw0 x0 x1 x2 y0 y1 y2
  go_cut [7, 8] (fun x7 x8 wc => ∃ ra rl rc, x7 = .slice ra rl rc ∧ x8 = .int .i64 (minusL c.mark T.pre).2 ∧ Ints wc (.slice ra rl rc) (minusL c.mark T.pre).1 ∧ SlFrom w.heap.size (.slice ra rl rc) ∧ Below w0.heap.size w0 wc)
  case first =>
    have HS : Hid (∀ w', Below w0.heap.size w0 w' → w'.cell? ⟨w.heap.size, 0, none⟩ = some (.slice a l p) ∧ w'.cell? ⟨w.heap.size, 1, none⟩ = some (.slice a' l' p') ∧ w'.cell? ⟨bn, 0, none⟩ = some (.int .i64 n.places) ∧ w'.cell? ⟨bn, 1, none⟩ = some (.slice (some ⟨tb, tf, none⟩) len tc) ∧ w'.cell? ⟨tb, tf + k * 3, none⟩ = some (.int .i64 T.label) ∧ w'.cell? ⟨tb, tf + k * 3 + 1, none⟩ = some (c1) ∧ w'.cell? ⟨tb, tf + k * 3 + 2, none⟩ = some (c2)) := fun w' h => ⟨(hbc.below h).2.1, (hbc.below h).2.2, (hN.below h).2.1, (hN.below h).2.2, by rw [h.cell (p := ⟨tb, _, none⟩) hblt]; exact t0, by rw [h.cell (p := ⟨tb, _, none⟩) hblt]; exact t1, by rw [h.cell (p := ⟨tb, _, none⟩) hblt]; exact t2⟩
    refine wp_region_held_drew (S := (fun w' => w'.cell? ⟨w.heap.size, 0, none⟩ = some (.slice a l p) ∧ w'.cell? ⟨w.heap.size, 1, none⟩ = some (.slice a' l' p') ∧ w'.cell? ⟨bn, 0, none⟩ = some (.int .i64 n.places) ∧ w'.cell? ⟨bn, 1, none⟩ = some (.slice (some ⟨tb, tf, none⟩) len tc) ∧ w'.cell? ⟨tb, tf + k * 3, none⟩ = some (.int .i64 T.label) ∧ w'.cell? ⟨tb, tf + k * 3 + 1, none⟩ = some (c1) ∧ w'.cell? ⟨tb, tf + k * 3 + 2, none⟩ = some (c2))) (by kernel_rfl) (HS.out _ (Below.refl _ _).drew) (fun hH => ?_)
    have b : Below w0.heap.size w0 w0.drew := (Below.refl _ _).drew
    obtain ⟨v0, Hv0⟩ : ∃ v0, Hid (w0.drew = v0) := ⟨_, rfl⟩
    rw [Hv0.out] at hH b ⊢
    clear Hv0
    refine wpAnyH_take (i := 0) (v := .pointer (some ⟨w.heap.size, 0, none⟩)) rfl (by kernel_rfl) (by kernel_rfl) (by kernel_rfl) (fun _ _ _ h => h) (.inl ⟨by rfl, fun w' hS' => by first | (go_simp; done) | (go_simp; rfl) | (go_simp; intro h; omega) | (go_simp; omega)⟩) hH ?_
    simp only [List.getElem_toArray, List.getElem_cons_succ, List.getElem_cons_zero, Act.put, List.setIfInBounds_toArray, List.set_cons_zero, List.set_cons_succ]
    refine wpAnyH_take (i := 1) (v := .slice a l p) rfl (by kernel_rfl) (by kernel_rfl) (by kernel_rfl) (fun _ _ _ h => h) (.inl ⟨by rfl, fun w' hS' => by obtain ⟨s0, s1, s2, s3, s4, s5, s6⟩ := hS'; go_simp⟩) hH ?_
    simp only [List.getElem_toArray, List.getElem_cons_succ, List.getElem_cons_zero, Act.put, List.setIfInBounds_toArray, List.set_cons_zero, List.set_cons_succ]
    refine wpAnyH_take (i := 2) (v := .pointer (some ⟨bn, 1, none⟩)) rfl (by kernel_rfl) (by kernel_rfl) (by kernel_rfl) (fun _ _ _ h => h) (.inl ⟨by rfl, fun w' hS' => by first | (go_simp; done) | (go_simp; rfl) | (go_simp; intro h; omega) | (go_simp; omega)⟩) hH ?_
    simp only [List.getElem_toArray, List.getElem_cons_succ, List.getElem_cons_zero, Act.put, List.setIfInBounds_toArray, List.set_cons_zero, List.set_cons_succ]
    refine wpAnyH_take (i := 3) (v := .slice (some ⟨tb, tf, none⟩) len tc) rfl (by kernel_rfl) (by kernel_rfl) (by kernel_rfl) (fun _ _ _ h => h) (.inl ⟨by rfl, fun w' hS' => by obtain ⟨s0, s1, s2, s3, s4, s5, s6⟩ := hS'; go_simp⟩) hH ?_
    simp only [List.getElem_toArray, List.getElem_cons_succ, List.getElem_cons_zero, Act.put, List.setIfInBounds_toArray, List.set_cons_zero, List.set_cons_succ]
    refine wpAnyH_take (i := 4) (v := .int .i64 k) rfl (by kernel_rfl) (by kernel_rfl) (by kernel_rfl) (fun _ _ _ h => h) (.inl ⟨by rfl, fun _ _ => rfl⟩) hH ?_
    simp only [List.getElem_toArray, List.getElem_cons_succ, List.getElem_cons_zero, Act.put, List.setIfInBounds_toArray, List.set_cons_zero, List.set_cons_succ]
    refine wpAnyH_take (i := 5) (v := .pointer (some ⟨tb, tf + k * 3, none⟩)) rfl (by kernel_rfl) (by kernel_rfl) (by kernel_rfl) (fun _ _ _ h => h) (.inl ⟨by rfl, fun w' hS' => by first | (go_simp; done) | (go_simp; rfl) | (go_simp; intro h; omega) | (go_simp; omega)⟩) hH ?_
    simp only [List.getElem_toArray, List.getElem_cons_succ, List.getElem_cons_zero, Act.put, List.setIfInBounds_toArray, List.set_cons_zero, List.set_cons_succ]
    refine wpAnyH_take (i := 6) (v := .pointer (some ⟨tb, tf + k * 3 + 1, none⟩)) rfl (by kernel_rfl) (by kernel_rfl) (by kernel_rfl) (fun _ _ _ h => h) (.inl ⟨by rfl, fun w' hS' => by first | (go_simp; done) | (go_simp; rfl) | (go_simp; intro h; omega) | (go_simp; omega)⟩) hH ?_
    simp only [List.getElem_toArray, List.getElem_cons_succ, List.getElem_cons_zero, Act.put, List.setIfInBounds_toArray, List.set_cons_zero, List.set_cons_succ]
    refine wpAnyH_take (i := 7) (v := c1) rfl (by kernel_rfl) (by kernel_rfl) (by kernel_rfl) (fun _ _ _ h => h) (.inl ⟨by rfl, fun w' hS' => by obtain ⟨s0, s1, s2, s3, s4, s5, s6⟩ := hS'; go_simp⟩) hH ?_
    simp only [List.getElem_toArray, List.getElem_cons_succ, List.getElem_cons_zero, Act.put, List.setIfInBounds_toArray, List.set_cons_zero, List.set_cons_succ]
    refine wpAnyH_ready (rs := [8]) (by kernel_rfl) (by simp) ?_
    refine AllReadyH.cons rfl (fun K hK => ?_) AllReadyH.nil
    simp only [List.getElem_toArray, List.getElem_cons_succ, List.getElem_cons_zero]
    rw [if_pos (by rfl)]
    go_wp2_with fail
    refine (minus_own _ _ c.mark T.pre v0 (by exact h1.below b) (by exact i1.below b)).mono ?_
    rintro e v1 ⟨r, rfl, O1, bs⟩
    have I1 := O1.now
    have F1 := (on_from O1).mono (Nat.le_trans c0.size b.size)
    clear O1
    obtain ⟨ra, rl, rc, rfl, _⟩ := id I1
    replace b := below_then b bs
    refine hK.out _ _ (HS.out _ b) (fun hH => ?_)
    refine wpAnyH_take (i := 9) (v := .tuple #[.slice ra rl rc, .int .i64 (minusL c.mark T.pre).2]) rfl (by kernel_rfl) (by kernel_rfl) (by kernel_rfl) (fun _ _ _ h => h) (.inl ⟨by rfl, fun _ _ => rfl⟩) hH ?_
    simp only [List.getElem_toArray, List.getElem_cons_succ, List.getElem_cons_zero, Act.put, List.setIfInBounds_toArray, List.set_cons_zero, List.set_cons_succ]
    refine wpAnyH_take (i := 10) (v := .slice ra rl rc) rfl (by kernel_rfl) (by kernel_rfl) (by kernel_rfl) (fun _ _ _ h => h) (.inl ⟨by rfl, fun w' hS' => by first | (go_simp; done) | (go_simp; rfl) | (go_simp; intro h; omega) | (go_simp; omega)⟩) hH ?_
    simp only [List.getElem_toArray, List.getElem_cons_succ, List.getElem_cons_zero, Act.put, List.setIfInBounds_toArray, List.set_cons_zero, List.set_cons_succ]
    refine wpAnyH_take (i := 11) (v := .int .i64 (minusL c.mark T.pre).2) rfl (by kernel_rfl) (by kernel_rfl) (by kernel_rfl) (fun _ _ _ h => h) (.inl ⟨by rfl, fun w' hS' => by first | (go_simp; done) | (go_simp; rfl) | (go_simp; intro h; omega) | (go_simp; omega)⟩) hH ?_
    simp only [List.getElem_toArray, List.getElem_cons_succ, List.getElem_cons_zero, Act.put, List.setIfInBounds_toArray, List.set_cons_zero, List.set_cons_succ]
    refine wpAnyH_take (i := 12) (v := .slice ra rl rc) rfl (by kernel_rfl) (by kernel_rfl) (by kernel_rfl) (fun _ _ _ h => h) (.inl ⟨by rfl, fun _ _ => rfl⟩) hH ?_
    simp only [List.getElem_toArray, List.getElem_cons_succ, List.getElem_cons_zero, Act.put, List.setIfInBounds_toArray, List.set_cons_zero, List.set_cons_succ]
    refine wpAnyH_take (i := 13) (v := .int .i64 (minusL c.mark T.pre).2) rfl (by kernel_rfl) (by kernel_rfl) (by kernel_rfl) (fun _ _ _ h => h) (.inl ⟨by rfl, fun _ _ => rfl⟩) hH ?_
    simp only [List.getElem_toArray, List.getElem_cons_succ, List.getElem_cons_zero, Act.put, List.setIfInBounds_toArray, List.set_cons_zero, List.set_cons_succ]
    refine wpAnyH_done (by kernel_rfl) ?_ _
    go_wp2_with fail
    go_meet
    exact ⟨ra, rl, rc, rfl, rfl, I1, F1, b⟩
  case rest =>
    obtain ⟨ra, rl, rc, rfl, rfl, hI, hF, b⟩ := hcut
    obtain ⟨w1, rfl⟩ : ∃ w1, w1 = wc := ⟨_, rfl⟩
    replace c0 := below_then c0 b
    replace h1 := h1.below b
    replace h2 := h2.below b
    replace hv := hv.below b
    replace hbc := hbc.below b
    replace hR := hR.below b
    replace hN := hN.below b
    replace i1 := i1.below b
    replace i2 := i2.below b
    have t0 := (b.cell (p := ⟨tb, _, none⟩) hblt).trans t0
    have t1 := (b.cell (p := ⟨tb, _, none⟩) hblt).trans t1
    have t2 := (b.cell (p := ⟨tb, _, none⟩) hblt).trans t2
    have hblt := Nat.lt_of_lt_of_le hblt b.size
    clear b
    obtain ⟨ms, Hms⟩ : ∃ ms, Hid ((minusL c.mark T.pre).1 = ms) := ⟨_, rfl⟩
    obtain ⟨d, Hd⟩ : ∃ d, Hid ((minusL c.mark T.pre).2 = d) := ⟨_, rfl⟩
    rw [Hms.out] at hI
    rw [Hd.out]
    obtain ⟨wz, rfl⟩ : ∃ wz, wz = w1 := ⟨_, rfl⟩
    by_cases hd : d = 0
    · subst hd
      rw [Hd.out, if_pos rfl, Hms.out] at HD
      go_upto_region 4 with fail
      go_cut [9, 8] (fun x7 x8 wc => ∃ ra rl rc, x7 = .slice ra rl rc ∧ x8 = .int .i64 (plusL c.busy (onceL n.trans.length k)).2 ∧ Ints wc (.slice ra rl rc) (plusL c.busy (onceL n.trans.length k)).1 ∧ SlFrom w.heap.size (.slice ra rl rc) ∧ Below wz.heap.size wz wc)
      case first =>
        have HS : Hid (∀ w', Below wz.heap.size wz w' → w'.cell? ⟨w.heap.size, 0, none⟩ = some (.slice a l p) ∧ w'.cell? ⟨w.heap.size, 1, none⟩ = some (.slice a' l' p') ∧ w'.cell? ⟨bn, 0, none⟩ = some (.int .i64 n.places) ∧ w'.cell? ⟨bn, 1, none⟩ = some (.slice (some ⟨tb, tf, none⟩) len tc) ∧ w'.cell? ⟨tb, tf + k * 3, none⟩ = some (.int .i64 T.label) ∧ w'.cell? ⟨tb, tf + k * 3 + 1, none⟩ = some (c1) ∧ w'.cell? ⟨tb, tf + k * 3 + 2, none⟩ = some (c2)) := fun w' h => ⟨(hbc.below h).2.1, (hbc.below h).2.2, (hN.below h).2.1, (hN.below h).2.2, by rw [h.cell (p := ⟨tb, _, none⟩) hblt]; exact t0, by rw [h.cell (p := ⟨tb, _, none⟩) hblt]; exact t1, by rw [h.cell (p := ⟨tb, _, none⟩) hblt]; exact t2⟩
        refine wp_region_held_drew (S := (fun w' => w'.cell? ⟨w.heap.size, 0, none⟩ = some (.slice a l p) ∧ w'.cell? ⟨w.heap.size, 1, none⟩ = some (.slice a' l' p') ∧ w'.cell? ⟨bn, 0, none⟩ = some (.int .i64 n.places) ∧ w'.cell? ⟨bn, 1, none⟩ = some (.slice (some ⟨tb, tf, none⟩) len tc) ∧ w'.cell? ⟨tb, tf + k * 3, none⟩ = some (.int .i64 T.label) ∧ w'.cell? ⟨tb, tf + k * 3 + 1, none⟩ = some (c1) ∧ w'.cell? ⟨tb, tf + k * 3 + 2, none⟩ = some (c2))) (by kernel_rfl) (HS.out _ (Below.refl _ _).drew) (fun hH => ?_)
        have b : Below wz.heap.size wz wz.drew := (Below.refl _ _).drew
        obtain ⟨v0, Hv0⟩ : ∃ v0, Hid (wz.drew = v0) := ⟨_, rfl⟩
        rw [Hv0.out] at hH b ⊢
        clear Hv0
        refine wpAnyH_take (i := 0) (v := .pointer (some ⟨w.heap.size, 1, none⟩)) rfl (by kernel_rfl) (by kernel_rfl) (by kernel_rfl) (fun _ _ _ h => h) (.inl ⟨by rfl, fun w' hS' => by first | (go_simp; done) | (go_simp; rfl) | (go_simp; intro h; omega) | (go_simp; omega)⟩) hH ?_
        simp only [List.getElem_toArray, List.getElem_cons_succ, List.getElem_cons_zero, Act.put, List.setIfInBounds_toArray, List.set_cons_zero, List.set_cons_succ]
        refine wpAnyH_take (i := 1) (v := .slice a' l' p') rfl (by kernel_rfl) (by kernel_rfl) (by kernel_rfl) (fun _ _ _ h => h) (.inl ⟨by rfl, fun w' hS' => by obtain ⟨s0, s1, s2, s3, s4, s5, s6⟩ := hS'; go_simp⟩) hH ?_
        simp only [List.getElem_toArray, List.getElem_cons_succ, List.getElem_cons_zero, Act.put, List.setIfInBounds_toArray, List.set_cons_zero, List.set_cons_succ]
        refine wpAnyH_take (i := 2) (v := .agg #[.int .i64 n.places, .slice (some ⟨tb, tf, none⟩) len tc]) rfl (by kernel_rfl) (by kernel_rfl) (by kernel_rfl) (fun _ _ _ h => h) (.inl ⟨by rfl, fun w' hS' => by obtain ⟨s0, s1, s2, s3, s4, s5, s6⟩ := hS'; go_simp⟩) hH ?_
        simp only [List.getElem_toArray, List.getElem_cons_succ, List.getElem_cons_zero, Act.put, List.setIfInBounds_toArray, List.set_cons_zero, List.set_cons_succ]
        refine wpAnyH_take (i := 3) (v := .int .i64 k) rfl (by kernel_rfl) (by kernel_rfl) (by kernel_rfl) (fun _ _ _ h => h) (.inl ⟨by rfl, fun _ _ => rfl⟩) hH ?_
        simp only [List.getElem_toArray, List.getElem_cons_succ, List.getElem_cons_zero, Act.put, List.setIfInBounds_toArray, List.set_cons_zero, List.set_cons_succ]
        refine wpAnyH_ready (rs := [4]) (by kernel_rfl) (by simp) ?_
        refine AllReadyH.cons rfl (fun K hK => ?_) AllReadyH.nil
        simp only [List.getElem_toArray, List.getElem_cons_succ, List.getElem_cons_zero]
        rw [if_pos (by rfl)]
        go_wp2_with fail
        refine (once_any _ n k v0 (by exact hv.below b) Hk.out).mono ?_
        rintro e v1 ⟨r0, rfl, I0, bs⟩
        obtain ⟨ra0, rl0, rc0, rfl, _⟩ := id I0
        replace b := below_then b bs
        clear bs
        refine hK.out _ _ (HS.out _ b) (fun hH => ?_)
        refine wpAnyH_ready (rs := [5]) (by kernel_rfl) (by simp) ?_
        refine AllReadyH.cons rfl (fun K hK => ?_) AllReadyH.nil
        simp only [List.getElem_toArray, List.getElem_cons_succ, List.getElem_cons_zero]
        rw [if_pos (by rfl)]
        go_wp2_with fail
        refine (plus_own _ _ c.busy (onceL n.trans.length k) v1 (by exact h2.below b) (by exact I0)).mono ?_
        rintro e v2 ⟨r, rfl, O1, bs⟩
        have I1 := O1.now
        have F1 := (on_from O1).mono (Nat.le_trans c0.size b.size)
        clear O1
        obtain ⟨ra, rl, rc, rfl, _⟩ := id I1
        replace b := below_then b bs
        refine hK.out _ _ (HS.out _ b) (fun hH => ?_)
        refine wpAnyH_take (i := 6) (v := .tuple #[.slice ra rl rc, .int .i64 (plusL c.busy (onceL n.trans.length k)).2]) rfl (by kernel_rfl) (by kernel_rfl) (by kernel_rfl) (fun _ _ _ h => h) (.inl ⟨by rfl, fun _ _ => rfl⟩) hH ?_
        simp only [List.getElem_toArray, List.getElem_cons_succ, List.getElem_cons_zero, Act.put, List.setIfInBounds_toArray, List.set_cons_zero, List.set_cons_succ]
        refine wpAnyH_take (i := 7) (v := .slice ra rl rc) rfl (by kernel_rfl) (by kernel_rfl) (by kernel_rfl) (fun _ _ _ h => h) (.inl ⟨by rfl, fun w' hS' => by first | (go_simp; done) | (go_simp; rfl) | (go_simp; intro h; omega) | (go_simp; omega)⟩) hH ?_
        simp only [List.getElem_toArray, List.getElem_cons_succ, List.getElem_cons_zero, Act.put, List.setIfInBounds_toArray, List.set_cons_zero, List.set_cons_succ]
        refine wpAnyH_take (i := 8) (v := .int .i64 (plusL c.busy (onceL n.trans.length k)).2) rfl (by kernel_rfl) (by kernel_rfl) (by kernel_rfl) (fun _ _ _ h => h) (.inl ⟨by rfl, fun w' hS' => by first | (go_simp; done) | (go_simp; rfl) | (go_simp; intro h; omega) | (go_simp; omega)⟩) hH ?_
        simp only [List.getElem_toArray, List.getElem_cons_succ, List.getElem_cons_zero, Act.put, List.setIfInBounds_toArray, List.set_cons_zero, List.set_cons_succ]
        refine wpAnyH_take (i := 9) (v := .slice ra rl rc) rfl (by kernel_rfl) (by kernel_rfl) (by kernel_rfl) (fun _ _ _ h => h) (.inl ⟨by rfl, fun _ _ => rfl⟩) hH ?_
        simp only [List.getElem_toArray, List.getElem_cons_succ, List.getElem_cons_zero, Act.put, List.setIfInBounds_toArray, List.set_cons_zero, List.set_cons_succ]
        refine wpAnyH_take (i := 10) (v := .int .i64 (plusL c.busy (onceL n.trans.length k)).2) rfl (by kernel_rfl) (by kernel_rfl) (by kernel_rfl) (fun _ _ _ h => h) (.inl ⟨by rfl, fun _ _ => rfl⟩) hH ?_
        simp only [List.getElem_toArray, List.getElem_cons_succ, List.getElem_cons_zero, Act.put, List.setIfInBounds_toArray, List.set_cons_zero, List.set_cons_succ]
        refine wpAnyH_done (by kernel_rfl) ?_ _
        go_wp2_with fail
        go_meet
        exact ⟨ra, rl, rc, rfl, rfl, I1, F1, b⟩
      case rest =>
        obtain ⟨ra2, rl2, rc2, rfl, rfl, hI2, hF2, b⟩ := hcut
        obtain ⟨wy, rfl⟩ : ∃ w1, w1 = wc := ⟨_, rfl⟩
        replace c0 := below_then c0 b
        replace hR := hR.below b
        replace hI := hI.below b
        clear b h1 h2 hv hbc hN i1 i2 t0 t1 t2 hblt
        obtain ⟨bs, Hbs⟩ : ∃ ms, Hid ((plusL c.busy (onceL n.trans.length k)).1 = ms) := ⟨_, rfl⟩
        obtain ⟨d, Hd2⟩ : ∃ d, Hid ((plusL c.busy (onceL n.trans.length k)).2 = d) := ⟨_, rfl⟩
        rw [Hbs.out] at hI2
        rw [Hd2.out]
        rw [Hd2.out, Hbs.out] at HD
        by_cases hd : d = 0
        · subst hd
          have E : Hid (doC n c 2 k = (⟨ms, bs⟩, 0)) := by show _ = _; rw [HD.out]; rfl
          clear HD
          obtain ⟨q1, q2, q3, q4, q5⟩ := hR.facts
          obtain ⟨W2, HW2⟩ : ∃ W2, Hid ((wy.setCell ⟨w.heap.size + 1, 0, none⟩ (.slice ra rl rc)).setCell ⟨w.heap.size + 1, 1, none⟩ (.slice ra2 rl2 rc2) = W2) := ⟨_, rfl⟩
          obtain ⟨z1, z2, z3, z4⟩ := hR.fill c0 (by omega) HW2.out (hI) (hI2)
          go_wp2
          rw [HW2.out]
          exact bodyPost_ret (v := .tuple #[.agg #[.slice ra rl rc, .slice ra2 rl2 rc2], .int .i64 0]) (results_case rfl rfl rfl z1 z2) rfl (givesCF_of E.out z3 (⟨_, _, rfl, hF, hF2⟩) z4)
        · have E : Hid (doC n c 2 k = (noCase, d)) := by show _ = _; rw [HD.out, if_neg hd]
          have hd' : (d == 0) = false := by simpa using hd
          have hd2 : (d != 0) = true := by simpa using hd
          clear HD hI hI2
          obtain ⟨q1, q2, q3, q4, q5⟩ := hR.facts
          obtain ⟨W2, HW2⟩ : ∃ W2, Hid ((wy.setCell ⟨w.heap.size + 1, 0, none⟩ (.slice none 0 0)).setCell ⟨w.heap.size + 1, 1, none⟩ (.slice none 0 0) = W2) := ⟨_, rfl⟩
          obtain ⟨z1, z2, z3, z4⟩ := hR.fill c0 (by omega) HW2.out (Ints.nil _) (Ints.nil _)
          go_wp2
          rw [HW2.out]
          exact bodyPost_ret (v := .tuple #[.agg #[.slice none 0 0, .slice none 0 0], .int .i64 d]) (results_case rfl rfl rfl z1 z2) rfl (givesCF_of E.out z3 (CaseFrom.none _) z4)
    · have E : Hid (doC n c 2 k = (noCase, d)) := by show _ = _; rw [HD.out, Hd.out, if_neg hd]
      have hd' : (d == 0) = false := by simpa using hd
      have hd2 : (d != 0) = true := by simpa using hd
      clear HD Hd Hms hI h1 h2 hv hbc hN i1 i2 t0 t1 t2 hblt
      obtain ⟨q1, q2, q3, q4, q5⟩ := hR.facts
      obtain ⟨W2, HW2⟩ : ∃ W2, Hid ((wz.setCell ⟨w.heap.size + 1, 0, none⟩ (.slice none 0 0)).setCell ⟨w.heap.size + 1, 1, none⟩ (.slice none 0 0) = W2) := ⟨_, rfl⟩
      obtain ⟨z1, z2, z3, z4⟩ := hR.fill c0 (by omega) HW2.out (Ints.nil _) (Ints.nil _)
      go_wp2
      rw [HW2.out]
      exact bodyPost_ret (v := .tuple #[.agg #[.slice none 0 0, .slice none 0 0], .int .i64 d]) (results_case rfl rfl rfl z1 z2) rfl (givesCF_of E.out z3 (CaseFrom.none _) z4)

set_option maxHeartbeats 4000000 in
theorem work_leave3 (u tv : Value) (bn bp : Nat) (n : NetL) (c : CaseL) (k : Nat) (w : World) (hN : Box2 w bn (.int .i64 n.places) tv) (hpl : bp < w.heap.size) (hp0 : w.cell? ⟨bp, 0, none⟩ = some (.func (.func 60) #[] #[])) (hT : Trans w tv n.trans) (hu : CaseV w u c) (hr : rightC n c = true) (hk : k < n.trans.length) (hl : (tranAt n.trans k).label ≠ 0) :
    Calls Try.prog 70 #[u, .int .i64 k, .pointer (some ⟨bn, 0, none⟩), .pointer (some ⟨bp, 0, none⟩)] w fun e w' => GivesCF w (doC n c 3 k) e w' := by
  have HD : Hid _ := do_leave (kd := 3) hr hk hl (by omega) (P := (tranAt n.trans k).post) (by simp)
  obtain ⟨a, l, p, a', l', p', rfl, h1, h2⟩ := hu
  obtain ⟨w0, Hw0, hbc, hR, c0⟩ := boxesC w (.slice a l p) (.slice a' l' p')
  replace hN := hN.below c0
  replace hT := hT.below c0
  replace h1 := h1.below c0
  replace h2 := h2.below c0
  obtain ⟨ta, len, tc, rfl, hlen, hmx, _⟩ := id hT
  have hkl : k < len := by omega
  have HL : Hid (n.trans.length = len) := hlen
  have Hk : Hid (k < n.trans.length) := hk
  obtain ⟨tb, tf, c1, c2, rfl, hblt, t0, t1, t2, i1, i2⟩ := hT.at hkl
  have hv : Net w0 (.agg #[.int .i64 n.places, .slice (some ⟨tb, tf, none⟩) len tc]) n := ⟨_, rfl, hT⟩
  obtain ⟨T, HT⟩ : ∃ T, Hid (tranAt n.trans k = T) := ⟨_, rfl⟩
  rw [HT.out] at t0 i1 i2 HD
  clear hT hr hl hk hlen
  obtain ⟨x0, x1, x2⟩ := id hN
  obtain ⟨y0, y1, y2⟩ := id hbc
  replace hp0 := (c0.cell (p := ⟨bp, _, none⟩) hpl).trans hp0
  replace hpl := Nat.lt_of_lt_of_le hpl c0.size
  go_enter Try.func70, Try.ntmps70
  go_upto_region 1 with fail
  rw [Hw0.out]
  clear Hw0 x0 x1 x2 y0 y1 y2
  go_cut [8, 9] (fun x7 x8 wc => ∃ ra rl rc, x7 = .slice ra rl rc ∧ x8 = .int .i64 (minusL c.busy (onceL n.trans.length k)).2 ∧ Ints wc (.slice ra rl rc) (minusL c.busy (onceL n.trans.length k)).1 ∧ SlFrom w.heap.size (.slice ra rl rc) ∧ Below w0.heap.size w0 wc)
  case first =>
    have HS : Hid (∀ w', Below w0.heap.size w0 w' → w'.cell? ⟨w.heap.size, 0, none⟩ = some (.slice a l p) ∧ w'.cell? ⟨w.heap.size, 1, none⟩ = some (.slice a' l' p') ∧ w'.cell? ⟨bn, 0, none⟩ = some (.int .i64 n.places) ∧ w'.cell? ⟨bn, 1, none⟩ = some (.slice (some ⟨tb, tf, none⟩) len tc) ∧ w'.cell? ⟨tb, tf + k * 3, none⟩ = some (.int .i64 T.label) ∧ w'.cell? ⟨tb, tf + k * 3 + 1, none⟩ = some (c1) ∧ w'.cell? ⟨tb, tf + k * 3 + 2, none⟩ = some (c2)) := fun w' h => ⟨(hbc.below h).2.1, (hbc.below h).2.2, (hN.below h).2.1, (hN.below h).2.2, by rw [h.cell (p := ⟨tb, _, none⟩) hblt]; exact t0, by rw [h.cell (p := ⟨tb, _, none⟩) hblt]; exact t1, by rw [h.cell (p := ⟨tb, _, none⟩) hblt]; exact t2⟩
    refine wp_region_held_drew (S := (fun w' => w'.cell? ⟨w.heap.size, 0, none⟩ = some (.slice a l p) ∧ w'.cell? ⟨w.heap.size, 1, none⟩ = some (.slice a' l' p') ∧ w'.cell? ⟨bn, 0, none⟩ = some (.int .i64 n.places) ∧ w'.cell? ⟨bn, 1, none⟩ = some (.slice (some ⟨tb, tf, none⟩) len tc) ∧ w'.cell? ⟨tb, tf + k * 3, none⟩ = some (.int .i64 T.label) ∧ w'.cell? ⟨tb, tf + k * 3 + 1, none⟩ = some (c1) ∧ w'.cell? ⟨tb, tf + k * 3 + 2, none⟩ = some (c2))) (by kernel_rfl) (HS.out _ (Below.refl _ _).drew) (fun hH => ?_)
    have b : Below w0.heap.size w0 w0.drew := (Below.refl _ _).drew
    obtain ⟨v0, Hv0⟩ : ∃ v0, Hid (w0.drew = v0) := ⟨_, rfl⟩
    rw [Hv0.out] at hH b ⊢
    clear Hv0
    refine wpAnyH_take (i := 0) (v := .pointer (some ⟨w.heap.size, 1, none⟩)) rfl (by kernel_rfl) (by kernel_rfl) (by kernel_rfl) (fun _ _ _ h => h) (.inl ⟨by rfl, fun w' hS' => by first | (go_simp; done) | (go_simp; rfl) | (go_simp; intro h; omega) | (go_simp; omega)⟩) hH ?_
    simp only [List.getElem_toArray, List.getElem_cons_succ, List.getElem_cons_zero, Act.put, List.setIfInBounds_toArray, List.set_cons_zero, List.set_cons_succ]
    refine wpAnyH_take (i := 1) (v := .slice a' l' p') rfl (by kernel_rfl) (by kernel_rfl) (by kernel_rfl) (fun _ _ _ h => h) (.inl ⟨by rfl, fun w' hS' => by obtain ⟨s0, s1, s2, s3, s4, s5, s6⟩ := hS'; go_simp⟩) hH ?_
    simp only [List.getElem_toArray, List.getElem_cons_succ, List.getElem_cons_zero, Act.put, List.setIfInBounds_toArray, List.set_cons_zero, List.set_cons_succ]
    refine wpAnyH_take (i := 2) (v := .agg #[.int .i64 n.places, .slice (some ⟨tb, tf, none⟩) len tc]) rfl (by kernel_rfl) (by kernel_rfl) (by kernel_rfl) (fun _ _ _ h => h) (.inl ⟨by rfl, fun w' hS' => by obtain ⟨s0, s1, s2, s3, s4, s5, s6⟩ := hS'; go_simp⟩) hH ?_
    simp only [List.getElem_toArray, List.getElem_cons_succ, List.getElem_cons_zero, Act.put, List.setIfInBounds_toArray, List.set_cons_zero, List.set_cons_succ]
    refine wpAnyH_take (i := 3) (v := .int .i64 k) rfl (by kernel_rfl) (by kernel_rfl) (by kernel_rfl) (fun _ _ _ h => h) (.inl ⟨by rfl, fun _ _ => rfl⟩) hH ?_
    simp only [List.getElem_toArray, List.getElem_cons_succ, List.getElem_cons_zero, Act.put, List.setIfInBounds_toArray, List.set_cons_zero, List.set_cons_succ]
    refine wpAnyH_ready (rs := [4]) (by kernel_rfl) (by simp) ?_
    refine AllReadyH.cons rfl (fun K hK => ?_) AllReadyH.nil
    simp only [List.getElem_toArray, List.getElem_cons_succ, List.getElem_cons_zero]
    rw [if_pos (by rfl)]
    go_wp2_with fail
    refine (once_any _ n k v0 (by exact hv.below b) Hk.out).mono ?_
    rintro e v1 ⟨r0, rfl, I0, bs⟩
    obtain ⟨ra0, rl0, rc0, rfl, _⟩ := id I0
    replace b := below_then b bs
    clear bs
    refine hK.out _ _ (HS.out _ b) (fun hH => ?_)
    refine wpAnyH_ready (rs := [5]) (by kernel_rfl) (by simp) ?_
    refine AllReadyH.cons rfl (fun K hK => ?_) AllReadyH.nil
    simp only [List.getElem_toArray, List.getElem_cons_succ, List.getElem_cons_zero]
    rw [if_pos (by rfl)]
    go_wp2_with fail
    refine (minus_own _ _ c.busy (onceL n.trans.length k) v1 (by exact h2.below b) (by exact I0)).mono ?_
    rintro e v2 ⟨r, rfl, O1, bs⟩
    have I1 := O1.now
    have F1 := (on_from O1).mono (Nat.le_trans c0.size b.size)
    clear O1
    obtain ⟨ra, rl, rc, rfl, _⟩ := id I1
    replace b := below_then b bs
    refine hK.out _ _ (HS.out _ b) (fun hH => ?_)
    refine wpAnyH_take (i := 6) (v := .tuple #[.slice ra rl rc, .int .i64 (minusL c.busy (onceL n.trans.length k)).2]) rfl (by kernel_rfl) (by kernel_rfl) (by kernel_rfl) (fun _ _ _ h => h) (.inl ⟨by rfl, fun _ _ => rfl⟩) hH ?_
    simp only [List.getElem_toArray, List.getElem_cons_succ, List.getElem_cons_zero, Act.put, List.setIfInBounds_toArray, List.set_cons_zero, List.set_cons_succ]
    refine wpAnyH_take (i := 7) (v := .slice ra rl rc) rfl (by kernel_rfl) (by kernel_rfl) (by kernel_rfl) (fun _ _ _ h => h) (.inl ⟨by rfl, fun w' hS' => by first | (go_simp; done) | (go_simp; rfl) | (go_simp; intro h; omega) | (go_simp; omega)⟩) hH ?_
    simp only [List.getElem_toArray, List.getElem_cons_succ, List.getElem_cons_zero, Act.put, List.setIfInBounds_toArray, List.set_cons_zero, List.set_cons_succ]
    refine wpAnyH_take (i := 8) (v := .int .i64 (minusL c.busy (onceL n.trans.length k)).2) rfl (by kernel_rfl) (by kernel_rfl) (by kernel_rfl) (fun _ _ _ h => h) (.inl ⟨by rfl, fun w' hS' => by first | (go_simp; done) | (go_simp; rfl) | (go_simp; intro h; omega) | (go_simp; omega)⟩) hH ?_
    simp only [List.getElem_toArray, List.getElem_cons_succ, List.getElem_cons_zero, Act.put, List.setIfInBounds_toArray, List.set_cons_zero, List.set_cons_succ]
    refine wpAnyH_take (i := 9) (v := .slice ra rl rc) rfl (by kernel_rfl) (by kernel_rfl) (by kernel_rfl) (fun _ _ _ h => h) (.inl ⟨by rfl, fun _ _ => rfl⟩) hH ?_
    simp only [List.getElem_toArray, List.getElem_cons_succ, List.getElem_cons_zero, Act.put, List.setIfInBounds_toArray, List.set_cons_zero, List.set_cons_succ]
    refine wpAnyH_take (i := 10) (v := .int .i64 (minusL c.busy (onceL n.trans.length k)).2) rfl (by kernel_rfl) (by kernel_rfl) (by kernel_rfl) (fun _ _ _ h => h) (.inl ⟨by rfl, fun _ _ => rfl⟩) hH ?_
    simp only [List.getElem_toArray, List.getElem_cons_succ, List.getElem_cons_zero, Act.put, List.setIfInBounds_toArray, List.set_cons_zero, List.set_cons_succ]
    refine wpAnyH_done (by kernel_rfl) ?_ _
    go_wp2_with fail
    go_meet
    exact ⟨ra, rl, rc, rfl, rfl, I1, F1, b⟩
  case rest =>
    obtain ⟨ra, rl, rc, rfl, rfl, hI, hF, b⟩ := hcut
    obtain ⟨w1, rfl⟩ : ∃ w1, w1 = wc := ⟨_, rfl⟩
    replace c0 := below_then c0 b
    replace h1 := h1.below b
    replace h2 := h2.below b
    replace hv := hv.below b
    replace hbc := hbc.below b
    replace hR := hR.below b
    replace hN := hN.below b
    replace i1 := i1.below b
    replace i2 := i2.below b
    have t0 := (b.cell (p := ⟨tb, _, none⟩) hblt).trans t0
    have t1 := (b.cell (p := ⟨tb, _, none⟩) hblt).trans t1
    have t2 := (b.cell (p := ⟨tb, _, none⟩) hblt).trans t2
    have hblt := Nat.lt_of_lt_of_le hblt b.size
    replace hp0 := (b.cell (p := ⟨bp, _, none⟩) hpl).trans hp0
    replace hpl := Nat.lt_of_lt_of_le hpl b.size
    clear b
    obtain ⟨bs, Hbs⟩ : ∃ ms, Hid ((minusL c.busy (onceL n.trans.length k)).1 = ms) := ⟨_, rfl⟩
    obtain ⟨d, Hd⟩ : ∃ d, Hid ((minusL c.busy (onceL n.trans.length k)).2 = d) := ⟨_, rfl⟩
    rw [Hbs.out] at hI
    rw [Hd.out]
    obtain ⟨wz, rfl⟩ : ∃ wz, wz = w1 := ⟨_, rfl⟩
    by_cases hd : d = 0
    · subst hd
      rw [Hd.out, if_pos rfl, Hbs.out] at HD
      go_upto_region 4 with fail
      go_cut [10, 9] (fun x7 x8 wc => ∃ ra rl rc, x7 = .slice ra rl rc ∧ x8 = .int .i64 (plusL c.mark T.post).2 ∧ Ints wc (.slice ra rl rc) (plusL c.mark T.post).1 ∧ SlFrom w.heap.size (.slice ra rl rc) ∧ Below wz.heap.size wz wc)
      case first =>
        have HS : Hid (∀ w', Below wz.heap.size wz w' → w'.cell? ⟨w.heap.size, 0, none⟩ = some (.slice a l p) ∧ w'.cell? ⟨w.heap.size, 1, none⟩ = some (.slice a' l' p') ∧ w'.cell? ⟨bn, 0, none⟩ = some (.int .i64 n.places) ∧ w'.cell? ⟨bn, 1, none⟩ = some (.slice (some ⟨tb, tf, none⟩) len tc) ∧ w'.cell? ⟨tb, tf + k * 3, none⟩ = some (.int .i64 T.label) ∧ w'.cell? ⟨tb, tf + k * 3 + 1, none⟩ = some (c1) ∧ w'.cell? ⟨tb, tf + k * 3 + 2, none⟩ = some (c2) ∧ w'.cell? ⟨bp, 0, none⟩ = some (.func (.func 60) #[] #[])) := fun w' h => ⟨(hbc.below h).2.1, (hbc.below h).2.2, (hN.below h).2.1, (hN.below h).2.2, by rw [h.cell (p := ⟨tb, _, none⟩) hblt]; exact t0, by rw [h.cell (p := ⟨tb, _, none⟩) hblt]; exact t1, by rw [h.cell (p := ⟨tb, _, none⟩) hblt]; exact t2, by rw [h.cell (p := ⟨bp, _, none⟩) hpl]; exact hp0⟩
        refine wp_region_held_drew (S := (fun w' => w'.cell? ⟨w.heap.size, 0, none⟩ = some (.slice a l p) ∧ w'.cell? ⟨w.heap.size, 1, none⟩ = some (.slice a' l' p') ∧ w'.cell? ⟨bn, 0, none⟩ = some (.int .i64 n.places) ∧ w'.cell? ⟨bn, 1, none⟩ = some (.slice (some ⟨tb, tf, none⟩) len tc) ∧ w'.cell? ⟨tb, tf + k * 3, none⟩ = some (.int .i64 T.label) ∧ w'.cell? ⟨tb, tf + k * 3 + 1, none⟩ = some (c1) ∧ w'.cell? ⟨tb, tf + k * 3 + 2, none⟩ = some (c2) ∧ w'.cell? ⟨bp, 0, none⟩ = some (.func (.func 60) #[] #[]))) (by kernel_rfl) (HS.out _ (Below.refl _ _).drew) (fun hH => ?_)
        have b : Below wz.heap.size wz wz.drew := (Below.refl _ _).drew
        obtain ⟨v0, Hv0⟩ : ∃ v0, Hid (wz.drew = v0) := ⟨_, rfl⟩
        rw [Hv0.out] at hH b ⊢
        clear Hv0
        refine wpAnyH_take (i := 0) (v := .pointer (some ⟨w.heap.size, 0, none⟩)) rfl (by kernel_rfl) (by kernel_rfl) (by kernel_rfl) (fun _ _ _ h => h) (.inl ⟨by rfl, fun w' hS' => by first | (go_simp; done) | (go_simp; rfl) | (go_simp; intro h; omega) | (go_simp; omega)⟩) hH ?_
        simp only [List.getElem_toArray, List.getElem_cons_succ, List.getElem_cons_zero, Act.put, List.setIfInBounds_toArray, List.set_cons_zero, List.set_cons_succ]
        refine wpAnyH_take (i := 1) (v := .slice a l p) rfl (by kernel_rfl) (by kernel_rfl) (by kernel_rfl) (fun _ _ _ h => h) (.inl ⟨by rfl, fun w' hS' => by obtain ⟨s0, s1, s2, s3, s4, s5, s6, s7⟩ := hS'; go_simp⟩) hH ?_
        simp only [List.getElem_toArray, List.getElem_cons_succ, List.getElem_cons_zero, Act.put, List.setIfInBounds_toArray, List.set_cons_zero, List.set_cons_succ]
        refine wpAnyH_take (i := 2) (v := .func (.func 60) #[] #[]) rfl (by kernel_rfl) (by kernel_rfl) (by kernel_rfl) (fun _ _ _ h => h) (.inl ⟨by rfl, fun w' hS' => by obtain ⟨s0, s1, s2, s3, s4, s5, s6, s7⟩ := hS'; go_simp⟩) hH ?_
        simp only [List.getElem_toArray, List.getElem_cons_succ, List.getElem_cons_zero, Act.put, List.setIfInBounds_toArray, List.set_cons_zero, List.set_cons_succ]
        refine wpAnyH_take (i := 3) (v := .pointer (some ⟨bn, 1, none⟩)) rfl (by kernel_rfl) (by kernel_rfl) (by kernel_rfl) (fun _ _ _ h => h) (.inl ⟨by rfl, fun w' hS' => by first | (go_simp; done) | (go_simp; rfl) | (go_simp; intro h; omega) | (go_simp; omega)⟩) hH ?_
        simp only [List.getElem_toArray, List.getElem_cons_succ, List.getElem_cons_zero, Act.put, List.setIfInBounds_toArray, List.set_cons_zero, List.set_cons_succ]
        refine wpAnyH_take (i := 4) (v := .slice (some ⟨tb, tf, none⟩) len tc) rfl (by kernel_rfl) (by kernel_rfl) (by kernel_rfl) (fun _ _ _ h => h) (.inl ⟨by rfl, fun w' hS' => by obtain ⟨s0, s1, s2, s3, s4, s5, s6, s7⟩ := hS'; go_simp⟩) hH ?_
        simp only [List.getElem_toArray, List.getElem_cons_succ, List.getElem_cons_zero, Act.put, List.setIfInBounds_toArray, List.set_cons_zero, List.set_cons_succ]
        refine wpAnyH_take (i := 5) (v := .int .i64 k) rfl (by kernel_rfl) (by kernel_rfl) (by kernel_rfl) (fun _ _ _ h => h) (.inl ⟨by rfl, fun _ _ => rfl⟩) hH ?_
        simp only [List.getElem_toArray, List.getElem_cons_succ, List.getElem_cons_zero, Act.put, List.setIfInBounds_toArray, List.set_cons_zero, List.set_cons_succ]
        refine wpAnyH_take (i := 6) (v := .pointer (some ⟨tb, tf + k * 3, none⟩)) rfl (by kernel_rfl) (by kernel_rfl) (by kernel_rfl) (fun _ _ _ h => h) (.inl ⟨by rfl, fun w' hS' => by first | (go_simp; done) | (go_simp; rfl) | (go_simp; intro h; omega) | (go_simp; omega)⟩) hH ?_
        simp only [List.getElem_toArray, List.getElem_cons_succ, List.getElem_cons_zero, Act.put, List.setIfInBounds_toArray, List.set_cons_zero, List.set_cons_succ]
        refine wpAnyH_take (i := 7) (v := .agg #[.int .i64 T.label, c1, c2]) rfl (by kernel_rfl) (by kernel_rfl) (by kernel_rfl) (fun _ _ _ h => h) (.inl ⟨by rfl, fun w' hS' => by obtain ⟨s0, s1, s2, s3, s4, s5, s6, s7⟩ := hS'; go_simp⟩) hH ?_
        simp only [List.getElem_toArray, List.getElem_cons_succ, List.getElem_cons_zero, Act.put, List.setIfInBounds_toArray, List.set_cons_zero, List.set_cons_succ]
        refine wpAnyH_ready (rs := [8]) (by kernel_rfl) (by simp) ?_
        refine AllReadyH.cons rfl (fun K hK => ?_) AllReadyH.nil
        simp only [List.getElem_toArray, List.getElem_cons_succ, List.getElem_cons_zero]
        rw [if_pos (by rfl)]
        go_wp2_with fail
        refine (work_post T.label c1 c2 v0).mono ?_
        rintro e v1 ⟨rfl, bs⟩
        replace b := below_then b bs
        clear bs
        refine hK.out _ _ (HS.out _ b) (fun hH => ?_)
        refine wpAnyH_ready (rs := [9]) (by kernel_rfl) (by simp) ?_
        refine AllReadyH.cons rfl (fun K hK => ?_) AllReadyH.nil
        simp only [List.getElem_toArray, List.getElem_cons_succ, List.getElem_cons_zero]
        rw [if_pos (by rfl)]
        go_wp2_with fail
        refine (plus_own _ _ c.mark T.post v1 (by exact h1.below b) (by exact i2.below b)).mono ?_
        rintro e v2 ⟨r, rfl, O1, bs⟩
        have I1 := O1.now
        have F1 := (on_from O1).mono (Nat.le_trans c0.size b.size)
        clear O1
        obtain ⟨ra, rl, rc, rfl, _⟩ := id I1
        replace b := below_then b bs
        refine hK.out _ _ (HS.out _ b) (fun hH => ?_)
        refine wpAnyH_take (i := 10) (v := .tuple #[.slice ra rl rc, .int .i64 (plusL c.mark T.post).2]) rfl (by kernel_rfl) (by kernel_rfl) (by kernel_rfl) (fun _ _ _ h => h) (.inl ⟨by rfl, fun _ _ => rfl⟩) hH ?_
        simp only [List.getElem_toArray, List.getElem_cons_succ, List.getElem_cons_zero, Act.put, List.setIfInBounds_toArray, List.set_cons_zero, List.set_cons_succ]
        refine wpAnyH_take (i := 11) (v := .slice ra rl rc) rfl (by kernel_rfl) (by kernel_rfl) (by kernel_rfl) (fun _ _ _ h => h) (.inl ⟨by rfl, fun w' hS' => by first | (go_simp; done) | (go_simp; rfl) | (go_simp; intro h; omega) | (go_simp; omega)⟩) hH ?_
        simp only [List.getElem_toArray, List.getElem_cons_succ, List.getElem_cons_zero, Act.put, List.setIfInBounds_toArray, List.set_cons_zero, List.set_cons_succ]
        refine wpAnyH_take (i := 12) (v := .int .i64 (plusL c.mark T.post).2) rfl (by kernel_rfl) (by kernel_rfl) (by kernel_rfl) (fun _ _ _ h => h) (.inl ⟨by rfl, fun w' hS' => by first | (go_simp; done) | (go_simp; rfl) | (go_simp; intro h; omega) | (go_simp; omega)⟩) hH ?_
        simp only [List.getElem_toArray, List.getElem_cons_succ, List.getElem_cons_zero, Act.put, List.setIfInBounds_toArray, List.set_cons_zero, List.set_cons_succ]
        refine wpAnyH_take (i := 13) (v := .slice ra rl rc) rfl (by kernel_rfl) (by kernel_rfl) (by kernel_rfl) (fun _ _ _ h => h) (.inl ⟨by rfl, fun _ _ => rfl⟩) hH ?_
        simp only [List.getElem_toArray, List.getElem_cons_succ, List.getElem_cons_zero, Act.put, List.setIfInBounds_toArray, List.set_cons_zero, List.set_cons_succ]
        refine wpAnyH_take (i := 14) (v := .int .i64 (plusL c.mark T.post).2) rfl (by kernel_rfl) (by kernel_rfl) (by kernel_rfl) (fun _ _ _ h => h) (.inl ⟨by rfl, fun _ _ => rfl⟩) hH ?_
        simp only [List.getElem_toArray, List.getElem_cons_succ, List.getElem_cons_zero, Act.put, List.setIfInBounds_toArray, List.set_cons_zero, List.set_cons_succ]
        refine wpAnyH_done (by kernel_rfl) ?_ _
        go_wp2_with fail
        go_meet
        exact ⟨ra, rl, rc, rfl, rfl, I1, F1, b⟩
      case rest =>
        obtain ⟨ra2, rl2, rc2, rfl, rfl, hI2, hF2, b⟩ := hcut
        obtain ⟨wy, rfl⟩ : ∃ w1, w1 = wc := ⟨_, rfl⟩
        replace c0 := below_then c0 b
        replace hR := hR.below b
        replace hI := hI.below b
        clear b h1 h2 hv hbc hN i1 i2 t0 t1 t2 hblt hp0 hpl
        obtain ⟨ms, Hms⟩ : ∃ ms, Hid ((plusL c.mark T.post).1 = ms) := ⟨_, rfl⟩
        obtain ⟨d, Hd2⟩ : ∃ d, Hid ((plusL c.mark T.post).2 = d) := ⟨_, rfl⟩
        rw [Hms.out] at hI2
        rw [Hd2.out]
        rw [Hd2.out, Hms.out] at HD
        by_cases hd : d = 0
        · subst hd
          have E : Hid (doC n c 3 k = (⟨ms, bs⟩, 0)) := by show _ = _; rw [HD.out]; rfl
          clear HD
          obtain ⟨q1, q2, q3, q4, q5⟩ := hR.facts
          obtain ⟨W2, HW2⟩ : ∃ W2, Hid ((wy.setCell ⟨w.heap.size + 1, 0, none⟩ (.slice ra2 rl2 rc2)).setCell ⟨w.heap.size + 1, 1, none⟩ (.slice ra rl rc) = W2) := ⟨_, rfl⟩
          obtain ⟨z1, z2, z3, z4⟩ := hR.fill c0 (by omega) HW2.out (hI2) (hI)
          go_wp2
          rw [HW2.out]
          exact bodyPost_ret (v := .tuple #[.agg #[.slice ra2 rl2 rc2, .slice ra rl rc], .int .i64 0]) (results_case rfl rfl rfl z1 z2) rfl (givesCF_of E.out z3 (⟨_, _, rfl, hF2, hF⟩) z4)
        · have E : Hid (doC n c 3 k = (noCase, d)) := by show _ = _; rw [HD.out, if_neg hd]
          have hd' : (d == 0) = false := by simpa using hd
          have hd2 : (d != 0) = true := by simpa using hd
          clear HD hI hI2
          obtain ⟨q1, q2, q3, q4, q5⟩ := hR.facts
          obtain ⟨W2, HW2⟩ : ∃ W2, Hid ((wy.setCell ⟨w.heap.size + 1, 0, none⟩ (.slice none 0 0)).setCell ⟨w.heap.size + 1, 1, none⟩ (.slice none 0 0) = W2) := ⟨_, rfl⟩
          obtain ⟨z1, z2, z3, z4⟩ := hR.fill c0 (by omega) HW2.out (Ints.nil _) (Ints.nil _)
          go_wp2
          rw [HW2.out]
          exact bodyPost_ret (v := .tuple #[.agg #[.slice none 0 0, .slice none 0 0], .int .i64 d]) (results_case rfl rfl rfl z1 z2) rfl (givesCF_of E.out z3 (CaseFrom.none _) z4)
    · have E : Hid (doC n c 3 k = (noCase, d)) := by show _ = _; rw [HD.out, Hd.out, if_neg hd]
      have hd' : (d == 0) = false := by simpa using hd
      have hd2 : (d != 0) = true := by simpa using hd
      clear HD Hd Hbs hI h1 h2 hv hbc hN i1 i2 t0 t1 t2 hblt hp0 hpl
      obtain ⟨q1, q2, q3, q4, q5⟩ := hR.facts
      obtain ⟨W2, HW2⟩ : ∃ W2, Hid ((wz.setCell ⟨w.heap.size + 1, 0, none⟩ (.slice none 0 0)).setCell ⟨w.heap.size + 1, 1, none⟩ (.slice none 0 0) = W2) := ⟨_, rfl⟩
      obtain ⟨z1, z2, z3, z4⟩ := hR.fill c0 (by omega) HW2.out (Ints.nil _) (Ints.nil _)
      go_wp2
      rw [HW2.out]
      exact bodyPost_ret (v := .tuple #[.agg #[.slice none 0 0, .slice none 0 0], .int .i64 d]) (results_case rfl rfl rfl z1 z2) rfl (givesCF_of E.out z3 (CaseFrom.none _) z4)

set_option maxHeartbeats 4000000 in
theorem work_leave4 (u tv : Value) (bn bp : Nat) (n : NetL) (c : CaseL) (k : Nat) (w : World) (hN : Box2 w bn (.int .i64 n.places) tv) (hpl : bp < w.heap.size) (hp0 : w.cell? ⟨bp, 0, none⟩ = some (.func (.func 61) #[] #[])) (hT : Trans w tv n.trans) (hu : CaseV w u c) (hr : rightC n c = true) (hk : k < n.trans.length) (hl : (tranAt n.trans k).label ≠ 0) :
    Calls Try.prog 70 #[u, .int .i64 k, .pointer (some ⟨bn, 0, none⟩), .pointer (some ⟨bp, 0, none⟩)] w fun e w' => GivesCF w (doC n c 4 k) e w' := by
  have HD : Hid _ := do_leave (kd := 4) hr hk hl (by omega) (P := (tranAt n.trans k).pre) (by simp)
  obtain ⟨a, l, p, a', l', p', rfl, h1, h2⟩ := hu
  obtain ⟨w0, Hw0, hbc, hR, c0⟩ := boxesC w (.slice a l p) (.slice a' l' p')
  replace hN := hN.below c0
  replace hT := hT.below c0
  replace h1 := h1.below c0
  replace h2 := h2.below c0
  obtain ⟨ta, len, tc, rfl, hlen, hmx, _⟩ := id hT
  have hkl : k < len := by omega
  have HL : Hid (n.trans.length = len) := hlen
  have Hk : Hid (k < n.trans.length) := hk
  obtain ⟨tb, tf, c1, c2, rfl, hblt, t0, t1, t2, i1, i2⟩ := hT.at hkl
  have hv : Net w0 (.agg #[.int .i64 n.places, .slice (some ⟨tb, tf, none⟩) len tc]) n := ⟨_, rfl, hT⟩
  obtain ⟨T, HT⟩ : ∃ T, Hid (tranAt n.trans k = T) := ⟨_, rfl⟩
  rw [HT.out] at t0 i1 i2 HD
  clear hT hr hl hk hlen
  obtain ⟨x0, x1, x2⟩ := id hN
  obtain ⟨y0, y1, y2⟩ := id hbc
  replace hp0 := (c0.cell (p := ⟨bp, _, none⟩) hpl).trans hp0
  replace hpl := Nat.lt_of_lt_of_le hpl c0.size
  go_enter Try.func70, Try.ntmps70
  go_upto_region 1 with fail
  rw [Hw0.out]
  clear Hw0 x0 x1 x2 y0 y1 y2
  go_cut [8, 9] (fun x7 x8 wc => ∃ ra rl rc, x7 = .slice ra rl rc ∧ x8 = .int .i64 (minusL c.busy (onceL n.trans.length k)).2 ∧ Ints wc (.slice ra rl rc) (minusL c.busy (onceL n.trans.length k)).1 ∧ SlFrom w.heap.size (.slice ra rl rc) ∧ Below w0.heap.size w0 wc)
  case first =>
    have HS : Hid (∀ w', Below w0.heap.size w0 w' → w'.cell? ⟨w.heap.size, 0, none⟩ = some (.slice a l p) ∧ w'.cell? ⟨w.heap.size, 1, none⟩ = some (.slice a' l' p') ∧ w'.cell? ⟨bn, 0, none⟩ = some (.int .i64 n.places) ∧ w'.cell? ⟨bn, 1, none⟩ = some (.slice (some ⟨tb, tf, none⟩) len tc) ∧ w'.cell? ⟨tb, tf + k * 3, none⟩ = some (.int .i64 T.label) ∧ w'.cell? ⟨tb, tf + k * 3 + 1, none⟩ = some (c1) ∧ w'.cell? ⟨tb, tf + k * 3 + 2, none⟩ = some (c2)) := fun w' h => ⟨(hbc.below h).2.1, (hbc.below h).2.2, (hN.below h).2.1, (hN.below h).2.2, by rw [h.cell (p := ⟨tb, _, none⟩) hblt]; exact t0, by rw [h.cell (p := ⟨tb, _, none⟩) hblt]; exact t1, by rw [h.cell (p := ⟨tb, _, none⟩) hblt]; exact t2⟩
    refine wp_region_held_drew (S := (fun w' => w'.cell? ⟨w.heap.size, 0, none⟩ = some (.slice a l p) ∧ w'.cell? ⟨w.heap.size, 1, none⟩ = some (.slice a' l' p') ∧ w'.cell? ⟨bn, 0, none⟩ = some (.int .i64 n.places) ∧ w'.cell? ⟨bn, 1, none⟩ = some (.slice (some ⟨tb, tf, none⟩) len tc) ∧ w'.cell? ⟨tb, tf + k * 3, none⟩ = some (.int .i64 T.label) ∧ w'.cell? ⟨tb, tf + k * 3 + 1, none⟩ = some (c1) ∧ w'.cell? ⟨tb, tf + k * 3 + 2, none⟩ = some (c2))) (by kernel_rfl) (HS.out _ (Below.refl _ _).drew) (fun hH => ?_)
    have b : Below w0.heap.size w0 w0.drew := (Below.refl _ _).drew
    obtain ⟨v0, Hv0⟩ : ∃ v0, Hid (w0.drew = v0) := ⟨_, rfl⟩
    rw [Hv0.out] at hH b ⊢
    clear Hv0
    refine wpAnyH_take (i := 0) (v := .pointer (some ⟨w.heap.size, 1, none⟩)) rfl (by kernel_rfl) (by kernel_rfl) (by kernel_rfl) (fun _ _ _ h => h) (.inl ⟨by rfl, fun w' hS' => by first | (go_simp; done) | (go_simp; rfl) | (go_simp; intro h; omega) | (go_simp; omega)⟩) hH ?_
    simp only [List.getElem_toArray, List.getElem_cons_succ, List.getElem_cons_zero, Act.put, List.setIfInBounds_toArray, List.set_cons_zero, List.set_cons_succ]
    refine wpAnyH_take (i := 1) (v := .slice a' l' p') rfl (by kernel_rfl) (by kernel_rfl) (by kernel_rfl) (fun _ _ _ h => h) (.inl ⟨by rfl, fun w' hS' => by obtain ⟨s0, s1, s2, s3, s4, s5, s6⟩ := hS'; go_simp⟩) hH ?_
    simp only [List.getElem_toArray, List.getElem_cons_succ, List.getElem_cons_zero, Act.put, List.setIfInBounds_toArray, List.set_cons_zero, List.set_cons_succ]
    refine wpAnyH_take (i := 2) (v := .agg #[.int .i64 n.places, .slice (some ⟨tb, tf, none⟩) len tc]) rfl (by kernel_rfl) (by kernel_rfl) (by kernel_rfl) (fun _ _ _ h => h) (.inl ⟨by rfl, fun w' hS' => by obtain ⟨s0, s1, s2, s3, s4, s5, s6⟩ := hS'; go_simp⟩) hH ?_
    simp only [List.getElem_toArray, List.getElem_cons_succ, List.getElem_cons_zero, Act.put, List.setIfInBounds_toArray, List.set_cons_zero, List.set_cons_succ]
    refine wpAnyH_take (i := 3) (v := .int .i64 k) rfl (by kernel_rfl) (by kernel_rfl) (by kernel_rfl) (fun _ _ _ h => h) (.inl ⟨by rfl, fun _ _ => rfl⟩) hH ?_
    simp only [List.getElem_toArray, List.getElem_cons_succ, List.getElem_cons_zero, Act.put, List.setIfInBounds_toArray, List.set_cons_zero, List.set_cons_succ]
    refine wpAnyH_ready (rs := [4]) (by kernel_rfl) (by simp) ?_
    refine AllReadyH.cons rfl (fun K hK => ?_) AllReadyH.nil
    simp only [List.getElem_toArray, List.getElem_cons_succ, List.getElem_cons_zero]
    rw [if_pos (by rfl)]
    go_wp2_with fail
    refine (once_any _ n k v0 (by exact hv.below b) Hk.out).mono ?_
    rintro e v1 ⟨r0, rfl, I0, bs⟩
    obtain ⟨ra0, rl0, rc0, rfl, _⟩ := id I0
    replace b := below_then b bs
    clear bs
    refine hK.out _ _ (HS.out _ b) (fun hH => ?_)
    refine wpAnyH_ready (rs := [5]) (by kernel_rfl) (by simp) ?_
    refine AllReadyH.cons rfl (fun K hK => ?_) AllReadyH.nil
    simp only [List.getElem_toArray, List.getElem_cons_succ, List.getElem_cons_zero]
    rw [if_pos (by rfl)]
    go_wp2_with fail
    refine (minus_own _ _ c.busy (onceL n.trans.length k) v1 (by exact h2.below b) (by exact I0)).mono ?_
    rintro e v2 ⟨r, rfl, O1, bs⟩
    have I1 := O1.now
    have F1 := (on_from O1).mono (Nat.le_trans c0.size b.size)
    clear O1
    obtain ⟨ra, rl, rc, rfl, _⟩ := id I1
    replace b := below_then b bs
    refine hK.out _ _ (HS.out _ b) (fun hH => ?_)
    refine wpAnyH_take (i := 6) (v := .tuple #[.slice ra rl rc, .int .i64 (minusL c.busy (onceL n.trans.length k)).2]) rfl (by kernel_rfl) (by kernel_rfl) (by kernel_rfl) (fun _ _ _ h => h) (.inl ⟨by rfl, fun _ _ => rfl⟩) hH ?_
    simp only [List.getElem_toArray, List.getElem_cons_succ, List.getElem_cons_zero, Act.put, List.setIfInBounds_toArray, List.set_cons_zero, List.set_cons_succ]
    refine wpAnyH_take (i := 7) (v := .slice ra rl rc) rfl (by kernel_rfl) (by kernel_rfl) (by kernel_rfl) (fun _ _ _ h => h) (.inl ⟨by rfl, fun w' hS' => by first | (go_simp; done) | (go_simp; rfl) | (go_simp; intro h; omega) | (go_simp; omega)⟩) hH ?_
    simp only [List.getElem_toArray, List.getElem_cons_succ, List.getElem_cons_zero, Act.put, List.setIfInBounds_toArray, List.set_cons_zero, List.set_cons_succ]
    refine wpAnyH_take (i := 8) (v := .int .i64 (minusL c.busy (onceL n.trans.length k)).2) rfl (by kernel_rfl) (by kernel_rfl) (by kernel_rfl) (fun _ _ _ h => h) (.inl ⟨by rfl, fun w' hS' => by first | (go_simp; done) | (go_simp; rfl) | (go_simp; intro h; omega) | (go_simp; omega)⟩) hH ?_
    simp only [List.getElem_toArray, List.getElem_cons_succ, List.getElem_cons_zero, Act.put, List.setIfInBounds_toArray, List.set_cons_zero, List.set_cons_succ]
    refine wpAnyH_take (i := 9) (v := .slice ra rl rc) rfl (by kernel_rfl) (by kernel_rfl) (by kernel_rfl) (fun _ _ _ h => h) (.inl ⟨by rfl, fun _ _ => rfl⟩) hH ?_
    simp only [List.getElem_toArray, List.getElem_cons_succ, List.getElem_cons_zero, Act.put, List.setIfInBounds_toArray, List.set_cons_zero, List.set_cons_succ]
    refine wpAnyH_take (i := 10) (v := .int .i64 (minusL c.busy (onceL n.trans.length k)).2) rfl (by kernel_rfl) (by kernel_rfl) (by kernel_rfl) (fun _ _ _ h => h) (.inl ⟨by rfl, fun _ _ => rfl⟩) hH ?_
    simp only [List.getElem_toArray, List.getElem_cons_succ, List.getElem_cons_zero, Act.put, List.setIfInBounds_toArray, List.set_cons_zero, List.set_cons_succ]
    refine wpAnyH_done (by kernel_rfl) ?_ _
    go_wp2_with fail
    go_meet
    exact ⟨ra, rl, rc, rfl, rfl, I1, F1, b⟩
  case rest =>
    obtain ⟨ra, rl, rc, rfl, rfl, hI, hF, b⟩ := hcut
    obtain ⟨w1, rfl⟩ : ∃ w1, w1 = wc := ⟨_, rfl⟩
    replace c0 := below_then c0 b
    replace h1 := h1.below b
    replace h2 := h2.below b
    replace hv := hv.below b
    replace hbc := hbc.below b
    replace hR := hR.below b
    replace hN := hN.below b
    replace i1 := i1.below b
    replace i2 := i2.below b
    have t0 := (b.cell (p := ⟨tb, _, none⟩) hblt).trans t0
    have t1 := (b.cell (p := ⟨tb, _, none⟩) hblt).trans t1
    have t2 := (b.cell (p := ⟨tb, _, none⟩) hblt).trans t2
    have hblt := Nat.lt_of_lt_of_le hblt b.size
    replace hp0 := (b.cell (p := ⟨bp, _, none⟩) hpl).trans hp0
    replace hpl := Nat.lt_of_lt_of_le hpl b.size
    clear b
    obtain ⟨bs, Hbs⟩ : ∃ ms, Hid ((minusL c.busy (onceL n.trans.length k)).1 = ms) := ⟨_, rfl⟩
    obtain ⟨d, Hd⟩ : ∃ d, Hid ((minusL c.busy (onceL n.trans.length k)).2 = d) := ⟨_, rfl⟩
    rw [Hbs.out] at hI
    rw [Hd.out]
    obtain ⟨wz, rfl⟩ : ∃ wz, wz = w1 := ⟨_, rfl⟩
    by_cases hd : d = 0
    · subst hd
      rw [Hd.out, if_pos rfl, Hbs.out] at HD
      go_upto_region 4 with fail
      go_cut [10, 9] (fun x7 x8 wc => ∃ ra rl rc, x7 = .slice ra rl rc ∧ x8 = .int .i64 (plusL c.mark T.pre).2 ∧ Ints wc (.slice ra rl rc) (plusL c.mark T.pre).1 ∧ SlFrom w.heap.size (.slice ra rl rc) ∧ Below wz.heap.size wz wc)
      case first =>
        have HS : Hid (∀ w', Below wz.heap.size wz w' → w'.cell? ⟨w.heap.size, 0, none⟩ = some (.slice a l p) ∧ w'.cell? ⟨w.heap.size, 1, none⟩ = some (.slice a' l' p') ∧ w'.cell? ⟨bn, 0, none⟩ = some (.int .i64 n.places) ∧ w'.cell? ⟨bn, 1, none⟩ = some (.slice (some ⟨tb, tf, none⟩) len tc) ∧ w'.cell? ⟨tb, tf + k * 3, none⟩ = some (.int .i64 T.label) ∧ w'.cell? ⟨tb, tf + k * 3 + 1, none⟩ = some (c1) ∧ w'.cell? ⟨tb, tf + k * 3 + 2, none⟩ = some (c2) ∧ w'.cell? ⟨bp, 0, none⟩ = some (.func (.func 61) #[] #[])) := fun w' h => ⟨(hbc.below h).2.1, (hbc.below h).2.2, (hN.below h).2.1, (hN.below h).2.2, by rw [h.cell (p := ⟨tb, _, none⟩) hblt]; exact t0, by rw [h.cell (p := ⟨tb, _, none⟩) hblt]; exact t1, by rw [h.cell (p := ⟨tb, _, none⟩) hblt]; exact t2, by rw [h.cell (p := ⟨bp, _, none⟩) hpl]; exact hp0⟩
        refine wp_region_held_drew (S := (fun w' => w'.cell? ⟨w.heap.size, 0, none⟩ = some (.slice a l p) ∧ w'.cell? ⟨w.heap.size, 1, none⟩ = some (.slice a' l' p') ∧ w'.cell? ⟨bn, 0, none⟩ = some (.int .i64 n.places) ∧ w'.cell? ⟨bn, 1, none⟩ = some (.slice (some ⟨tb, tf, none⟩) len tc) ∧ w'.cell? ⟨tb, tf + k * 3, none⟩ = some (.int .i64 T.label) ∧ w'.cell? ⟨tb, tf + k * 3 + 1, none⟩ = some (c1) ∧ w'.cell? ⟨tb, tf + k * 3 + 2, none⟩ = some (c2) ∧ w'.cell? ⟨bp, 0, none⟩ = some (.func (.func 61) #[] #[]))) (by kernel_rfl) (HS.out _ (Below.refl _ _).drew) (fun hH => ?_)
        have b : Below wz.heap.size wz wz.drew := (Below.refl _ _).drew
        obtain ⟨v0, Hv0⟩ : ∃ v0, Hid (wz.drew = v0) := ⟨_, rfl⟩
        rw [Hv0.out] at hH b ⊢
        clear Hv0
        refine wpAnyH_take (i := 0) (v := .pointer (some ⟨w.heap.size, 0, none⟩)) rfl (by kernel_rfl) (by kernel_rfl) (by kernel_rfl) (fun _ _ _ h => h) (.inl ⟨by rfl, fun w' hS' => by first | (go_simp; done) | (go_simp; rfl) | (go_simp; intro h; omega) | (go_simp; omega)⟩) hH ?_
        simp only [List.getElem_toArray, List.getElem_cons_succ, List.getElem_cons_zero, Act.put, List.setIfInBounds_toArray, List.set_cons_zero, List.set_cons_succ]
        refine wpAnyH_take (i := 1) (v := .slice a l p) rfl (by kernel_rfl) (by kernel_rfl) (by kernel_rfl) (fun _ _ _ h => h) (.inl ⟨by rfl, fun w' hS' => by obtain ⟨s0, s1, s2, s3, s4, s5, s6, s7⟩ := hS'; go_simp⟩) hH ?_
        simp only [List.getElem_toArray, List.getElem_cons_succ, List.getElem_cons_zero, Act.put, List.setIfInBounds_toArray, List.set_cons_zero, List.set_cons_succ]
        refine wpAnyH_take (i := 2) (v := .func (.func 61) #[] #[]) rfl (by kernel_rfl) (by kernel_rfl) (by kernel_rfl) (fun _ _ _ h => h) (.inl ⟨by rfl, fun w' hS' => by obtain ⟨s0, s1, s2, s3, s4, s5, s6, s7⟩ := hS'; go_simp⟩) hH ?_
        simp only [List.getElem_toArray, List.getElem_cons_succ, List.getElem_cons_zero, Act.put, List.setIfInBounds_toArray, List.set_cons_zero, List.set_cons_succ]
        refine wpAnyH_take (i := 3) (v := .pointer (some ⟨bn, 1, none⟩)) rfl (by kernel_rfl) (by kernel_rfl) (by kernel_rfl) (fun _ _ _ h => h) (.inl ⟨by rfl, fun w' hS' => by first | (go_simp; done) | (go_simp; rfl) | (go_simp; intro h; omega) | (go_simp; omega)⟩) hH ?_
        simp only [List.getElem_toArray, List.getElem_cons_succ, List.getElem_cons_zero, Act.put, List.setIfInBounds_toArray, List.set_cons_zero, List.set_cons_succ]
        refine wpAnyH_take (i := 4) (v := .slice (some ⟨tb, tf, none⟩) len tc) rfl (by kernel_rfl) (by kernel_rfl) (by kernel_rfl) (fun _ _ _ h => h) (.inl ⟨by rfl, fun w' hS' => by obtain ⟨s0, s1, s2, s3, s4, s5, s6, s7⟩ := hS'; go_simp⟩) hH ?_
        simp only [List.getElem_toArray, List.getElem_cons_succ, List.getElem_cons_zero, Act.put, List.setIfInBounds_toArray, List.set_cons_zero, List.set_cons_succ]
        refine wpAnyH_take (i := 5) (v := .int .i64 k) rfl (by kernel_rfl) (by kernel_rfl) (by kernel_rfl) (fun _ _ _ h => h) (.inl ⟨by rfl, fun _ _ => rfl⟩) hH ?_
        simp only [List.getElem_toArray, List.getElem_cons_succ, List.getElem_cons_zero, Act.put, List.setIfInBounds_toArray, List.set_cons_zero, List.set_cons_succ]
        refine wpAnyH_take (i := 6) (v := .pointer (some ⟨tb, tf + k * 3, none⟩)) rfl (by kernel_rfl) (by kernel_rfl) (by kernel_rfl) (fun _ _ _ h => h) (.inl ⟨by rfl, fun w' hS' => by first | (go_simp; done) | (go_simp; rfl) | (go_simp; intro h; omega) | (go_simp; omega)⟩) hH ?_
        simp only [List.getElem_toArray, List.getElem_cons_succ, List.getElem_cons_zero, Act.put, List.setIfInBounds_toArray, List.set_cons_zero, List.set_cons_succ]
        refine wpAnyH_take (i := 7) (v := .agg #[.int .i64 T.label, c1, c2]) rfl (by kernel_rfl) (by kernel_rfl) (by kernel_rfl) (fun _ _ _ h => h) (.inl ⟨by rfl, fun w' hS' => by obtain ⟨s0, s1, s2, s3, s4, s5, s6, s7⟩ := hS'; go_simp⟩) hH ?_
        simp only [List.getElem_toArray, List.getElem_cons_succ, List.getElem_cons_zero, Act.put, List.setIfInBounds_toArray, List.set_cons_zero, List.set_cons_succ]
        refine wpAnyH_ready (rs := [8]) (by kernel_rfl) (by simp) ?_
        refine AllReadyH.cons rfl (fun K hK => ?_) AllReadyH.nil
        simp only [List.getElem_toArray, List.getElem_cons_succ, List.getElem_cons_zero]
        rw [if_pos (by rfl)]
        go_wp2_with fail
        refine (work_pre T.label c1 c2 v0).mono ?_
        rintro e v1 ⟨rfl, bs⟩
        replace b := below_then b bs
        clear bs
        refine hK.out _ _ (HS.out _ b) (fun hH => ?_)
        refine wpAnyH_ready (rs := [9]) (by kernel_rfl) (by simp) ?_
        refine AllReadyH.cons rfl (fun K hK => ?_) AllReadyH.nil
        simp only [List.getElem_toArray, List.getElem_cons_succ, List.getElem_cons_zero]
        rw [if_pos (by rfl)]
        go_wp2_with fail
        refine (plus_own _ _ c.mark T.pre v1 (by exact h1.below b) (by exact i1.below b)).mono ?_
        rintro e v2 ⟨r, rfl, O1, bs⟩
        have I1 := O1.now
        have F1 := (on_from O1).mono (Nat.le_trans c0.size b.size)
        clear O1
        obtain ⟨ra, rl, rc, rfl, _⟩ := id I1
        replace b := below_then b bs
        refine hK.out _ _ (HS.out _ b) (fun hH => ?_)
        refine wpAnyH_take (i := 10) (v := .tuple #[.slice ra rl rc, .int .i64 (plusL c.mark T.pre).2]) rfl (by kernel_rfl) (by kernel_rfl) (by kernel_rfl) (fun _ _ _ h => h) (.inl ⟨by rfl, fun _ _ => rfl⟩) hH ?_
        simp only [List.getElem_toArray, List.getElem_cons_succ, List.getElem_cons_zero, Act.put, List.setIfInBounds_toArray, List.set_cons_zero, List.set_cons_succ]
        refine wpAnyH_take (i := 11) (v := .slice ra rl rc) rfl (by kernel_rfl) (by kernel_rfl) (by kernel_rfl) (fun _ _ _ h => h) (.inl ⟨by rfl, fun w' hS' => by first | (go_simp; done) | (go_simp; rfl) | (go_simp; intro h; omega) | (go_simp; omega)⟩) hH ?_
        simp only [List.getElem_toArray, List.getElem_cons_succ, List.getElem_cons_zero, Act.put, List.setIfInBounds_toArray, List.set_cons_zero, List.set_cons_succ]
        refine wpAnyH_take (i := 12) (v := .int .i64 (plusL c.mark T.pre).2) rfl (by kernel_rfl) (by kernel_rfl) (by kernel_rfl) (fun _ _ _ h => h) (.inl ⟨by rfl, fun w' hS' => by first | (go_simp; done) | (go_simp; rfl) | (go_simp; intro h; omega) | (go_simp; omega)⟩) hH ?_
        simp only [List.getElem_toArray, List.getElem_cons_succ, List.getElem_cons_zero, Act.put, List.setIfInBounds_toArray, List.set_cons_zero, List.set_cons_succ]
        refine wpAnyH_take (i := 13) (v := .slice ra rl rc) rfl (by kernel_rfl) (by kernel_rfl) (by kernel_rfl) (fun _ _ _ h => h) (.inl ⟨by rfl, fun _ _ => rfl⟩) hH ?_
        simp only [List.getElem_toArray, List.getElem_cons_succ, List.getElem_cons_zero, Act.put, List.setIfInBounds_toArray, List.set_cons_zero, List.set_cons_succ]
        refine wpAnyH_take (i := 14) (v := .int .i64 (plusL c.mark T.pre).2) rfl (by kernel_rfl) (by kernel_rfl) (by kernel_rfl) (fun _ _ _ h => h) (.inl ⟨by rfl, fun _ _ => rfl⟩) hH ?_
        simp only [List.getElem_toArray, List.getElem_cons_succ, List.getElem_cons_zero, Act.put, List.setIfInBounds_toArray, List.set_cons_zero, List.set_cons_succ]
        refine wpAnyH_done (by kernel_rfl) ?_ _
        go_wp2_with fail
        go_meet
        exact ⟨ra, rl, rc, rfl, rfl, I1, F1, b⟩
      case rest =>
        obtain ⟨ra2, rl2, rc2, rfl, rfl, hI2, hF2, b⟩ := hcut
        obtain ⟨wy, rfl⟩ : ∃ w1, w1 = wc := ⟨_, rfl⟩
        replace c0 := below_then c0 b
        replace hR := hR.below b
        replace hI := hI.below b
        clear b h1 h2 hv hbc hN i1 i2 t0 t1 t2 hblt hp0 hpl
        obtain ⟨ms, Hms⟩ : ∃ ms, Hid ((plusL c.mark T.pre).1 = ms) := ⟨_, rfl⟩
        obtain ⟨d, Hd2⟩ : ∃ d, Hid ((plusL c.mark T.pre).2 = d) := ⟨_, rfl⟩
        rw [Hms.out] at hI2
        rw [Hd2.out]
        rw [Hd2.out, Hms.out] at HD
        by_cases hd : d = 0
        · subst hd
          have E : Hid (doC n c 4 k = (⟨ms, bs⟩, 0)) := by show _ = _; rw [HD.out]; rfl
          clear HD
          obtain ⟨q1, q2, q3, q4, q5⟩ := hR.facts
          obtain ⟨W2, HW2⟩ : ∃ W2, Hid ((wy.setCell ⟨w.heap.size + 1, 0, none⟩ (.slice ra2 rl2 rc2)).setCell ⟨w.heap.size + 1, 1, none⟩ (.slice ra rl rc) = W2) := ⟨_, rfl⟩
          obtain ⟨z1, z2, z3, z4⟩ := hR.fill c0 (by omega) HW2.out (hI2) (hI)
          go_wp2
          rw [HW2.out]
          exact bodyPost_ret (v := .tuple #[.agg #[.slice ra2 rl2 rc2, .slice ra rl rc], .int .i64 0]) (results_case rfl rfl rfl z1 z2) rfl (givesCF_of E.out z3 (⟨_, _, rfl, hF2, hF⟩) z4)
        · have E : Hid (doC n c 4 k = (noCase, d)) := by show _ = _; rw [HD.out, if_neg hd]
          have hd' : (d == 0) = false := by simpa using hd
          have hd2 : (d != 0) = true := by simpa using hd
          clear HD hI hI2
          obtain ⟨q1, q2, q3, q4, q5⟩ := hR.facts
          obtain ⟨W2, HW2⟩ : ∃ W2, Hid ((wy.setCell ⟨w.heap.size + 1, 0, none⟩ (.slice none 0 0)).setCell ⟨w.heap.size + 1, 1, none⟩ (.slice none 0 0) = W2) := ⟨_, rfl⟩
          obtain ⟨z1, z2, z3, z4⟩ := hR.fill c0 (by omega) HW2.out (Ints.nil _) (Ints.nil _)
          go_wp2
          rw [HW2.out]
          exact bodyPost_ret (v := .tuple #[.agg #[.slice none 0 0, .slice none 0 0], .int .i64 d]) (results_case rfl rfl rfl z1 z2) rfl (givesCF_of E.out z3 (CaseFrom.none _) z4)
    · have E : Hid (doC n c 4 k = (noCase, d)) := by show _ = _; rw [HD.out, Hd.out, if_neg hd]
      have hd' : (d == 0) = false := by simpa using hd
      have hd2 : (d != 0) = true := by simpa using hd
      clear HD Hd Hbs hI h1 h2 hv hbc hN i1 i2 t0 t1 t2 hblt hp0 hpl
      obtain ⟨q1, q2, q3, q4, q5⟩ := hR.facts
      obtain ⟨W2, HW2⟩ : ∃ W2, Hid ((wz.setCell ⟨w.heap.size + 1, 0, none⟩ (.slice none 0 0)).setCell ⟨w.heap.size + 1, 1, none⟩ (.slice none 0 0) = W2) := ⟨_, rfl⟩
      obtain ⟨z1, z2, z3, z4⟩ := hR.fill c0 (by omega) HW2.out (Ints.nil _) (Ints.nil _)
      go_wp2
      rw [HW2.out]
      exact bodyPost_ret (v := .tuple #[.agg #[.slice none 0 0, .slice none 0 0], .int .i64 d]) (results_case rfl rfl rfl z1 z2) rfl (givesCF_of E.out z3 (CaseFrom.none _) z4)

end Go.Proofs.Ytffaamljogbmlaa
