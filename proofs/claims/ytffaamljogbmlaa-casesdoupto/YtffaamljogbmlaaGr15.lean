import Derived.Test.YtffaamljogbmlaaCaseRef1
import Derived.Test.YtffaamljogbmlaaGr12
import Derived.Test.YtffaamljogbmlaaGr01
import Derived.Test.YtffaamljogbmlaaGr00
import Derived.BigQuiet
/- The document's own answers for cases: where one begins. (Made by tools/gen_pbegin.py.) -/
namespace Go.Proofs.Ytffaamljogbmlaa
open Go.RowKit
set_option linter.unusedVariables false
set_option linter.unusedSimpArgs false
set_option maxRecDepth 4000

set_option maxHeartbeats 2000000 in
theorem pbegin_own (v : Value) (n : NetL) (i : Int) (w : World) (hv : Net w v n) (hsm : SmallNet n) :
    Calls Try.prog 9 #[v, .int .i64 i] w fun e w' => GivesCF w (beginC n i) e w' := by
  obtain ⟨tv, rfl, hT⟩ := hv
  obtain ⟨ta, len, tc, rfl, hlen, hmx, _⟩ := id hT
  have b1 := below_new w (.cells #[.int .i64 n.places, .slice ta len tc] 24)
  have hbx := box2_new w (.int .i64 n.places) (.slice ta len tc) 24
  obtain ⟨wa, Hwa⟩ : ∃ wa, Hid (w.alloc (.cells #[.int .i64 n.places, .slice ta len tc] 24) = wa) := ⟨_, rfl⟩
  have ea : wa.heap.size = w.heap.size + 1 := by rw [← Hwa.out]; simp
  rw [Hwa.out] at b1 hbx
  have b2 := below_new wa (.cells #[.slice none 0 0, .slice none 0 0] 27)
  have hR := resC_new wa
  rw [ea] at hR
  obtain ⟨w0, Hw0⟩ : ∃ w0, Hid ((w.alloc (.cells #[.int .i64 n.places, .slice ta len tc] 24)).alloc (.cells #[.slice none 0 0, .slice none 0 0] 27) = w0) := ⟨_, rfl⟩
  have hw0 : wa.alloc (.cells #[.slice none 0 0, .slice none 0 0] 27) = w0 := by rw [← Hwa.out]; exact Hw0.out
  rw [hw0] at b2 hR
  replace hbx := hbx.below b2
  have c := below_then b1 b2
  have hv : Net w0 (.agg #[.int .i64 n.places, .slice ta len tc]) n := ⟨_, rfl, hT.below c⟩
  clear hT b1 b2 Hwa ea hw0
  obtain ⟨x0, x1, x2⟩ := id hbx
  go_enter Try.func9, Try.ntmps9
  go_upto_region 1 with fail
  rw [Hw0.out]
  clear Hw0
  go_wp2_with fail
  refine (bwrong_any _ n w0 (by exact hv) hsm).mono ?_
  rintro e w1 ⟨rfl, b⟩
  replace c := below_then c b
  replace hv := hv.below b
  replace hbx := hbx.below b
  replace hR := hR.below b
  clear b x0 x1 x2
  obtain ⟨x0, x1, x2⟩ := id hbx
  obtain ⟨q1, q2, q3, q4, q5⟩ := hR.facts
  obtain ⟨W2, HW2⟩ : ∃ W2, Hid ((w1.setCell ⟨w.heap.size + 1, 0, none⟩ (.slice none 0 0)).setCell ⟨w.heap.size + 1, 1, none⟩ (.slice none 0 0) = W2) := ⟨_, rfl⟩
  obtain ⟨z1, z2, z3, z4⟩ := hR.fill c (by omega) HW2.out (Ints.nil _) (Ints.nil _)
  cases hn : netOk n
  · have E : Hid (beginC n i = (noCase, 2)) := begin_bad hn
    rw [wrongL_not hn]
    clear hn
    go_wp2
    rw [HW2.out]
    exact bodyPost_ret (v := .tuple #[.agg #[.slice none 0 0, .slice none 0 0], .int .i64 2]) (results_case rfl rfl rfl z1 z2) rfl (givesCF_of E.out z3 (CaseFrom.none _) z4)
  · rw [wrongL_ok hn]
    by_cases hi : 0 ≤ i ∧ i < n.places
    · have E : Hid (beginC n i = (⟨startL n.places i, zerosL len⟩, 0)) := by show _ = _; rw [← hlen]; exact begin_ok hn hi
      have h1 : decide (i < 0) = false := decide_eq_false (by omega)
      have h2 : decide (n.places ≤ i) = false := decide_eq_false (by omega)
      have hl24 : len ≤ 24 ∧ (min n.places 16).toNat ≤ 16 := by
        unfold netOk headOk at hn
        simp only [Bool.and_eq_true, decide_eq_true_eq] at hn
        omega
      have HS : Hid (∀ w', Below w1.heap.size w1 w' → w'.cell? ⟨w.heap.size, 0, none⟩ = some (.int .i64 n.places) ∧ w'.cell? ⟨w.heap.size, 1, none⟩ = some (.slice ta len tc)) := fun w' h => (hbx.below h).2
      clear hn z1 z2 z3 z4 HW2 W2 hi hlen
      go_upto_region 6 with fail
      refine wp_region_held_drew (S := (fun w' => w'.cell? ⟨w.heap.size, 0, none⟩ = some (.int .i64 n.places) ∧ w'.cell? ⟨w.heap.size, 1, none⟩ = some (.slice ta len tc))) (by kernel_rfl) (HS.out _ (Below.refl _ _).drew) (fun hH => ?_)
      refine wpAnyH_take (i := 0) (v := .agg #[.int .i64 n.places, .slice ta len tc]) rfl (by kernel_rfl) (by kernel_rfl) (by kernel_rfl) (fun _ _ _ h => h) (.inl ⟨by rfl, fun w' hS' => by obtain ⟨s1, s2⟩ := hS'; go_simp⟩) hH ?_
      simp only [List.getElem_toArray, List.getElem_cons_succ, List.getElem_cons_zero, Act.put, List.setIfInBounds_toArray, List.set_cons_zero, List.set_cons_succ]
      refine wpAnyH_take (i := 1) (v := .int .i64 i) rfl (by kernel_rfl) (by kernel_rfl) (by kernel_rfl) (fun _ _ _ h => h) (.inl ⟨by rfl, fun _ _ => rfl⟩) hH ?_
      simp only [List.getElem_toArray, List.getElem_cons_succ, List.getElem_cons_zero, Act.put, List.setIfInBounds_toArray, List.set_cons_zero, List.set_cons_succ]
      refine wpAnyH_take (i := 3) (v := .pointer (some ⟨w.heap.size, 1, none⟩)) rfl (by kernel_rfl) (by kernel_rfl) (by kernel_rfl) (fun _ _ _ h => h) (.inl ⟨by rfl, fun w' hS' => by first | (go_simp; done) | (go_simp; rfl) | (go_simp; intro h; omega) | (go_simp; omega)⟩) hH ?_
      simp only [List.getElem_toArray, List.getElem_cons_succ, List.getElem_cons_zero, Act.put, List.setIfInBounds_toArray, List.set_cons_zero, List.set_cons_succ]
      refine wpAnyH_take (i := 4) (v := .slice ta len tc) rfl (by kernel_rfl) (by kernel_rfl) (by kernel_rfl) (fun _ _ _ h => h) (.inl ⟨by rfl, fun w' hS' => by obtain ⟨s1, s2⟩ := hS'; go_simp⟩) hH ?_
      simp only [List.getElem_toArray, List.getElem_cons_succ, List.getElem_cons_zero, Act.put, List.setIfInBounds_toArray, List.set_cons_zero, List.set_cons_succ]
      refine wpAnyH_take (i := 5) (v := .int .i64 (len : Int)) rfl (by kernel_rfl) (by kernel_rfl) (by kernel_rfl) (fun _ _ _ h => h) (.inl ⟨by rfl, fun w' hS' => by first | (go_simp; done) | (go_simp; rfl) | (go_simp; intro h; omega) | (go_simp; omega)⟩) hH ?_
      simp only [List.getElem_toArray, List.getElem_cons_succ, List.getElem_cons_zero, Act.put, List.setIfInBounds_toArray, List.set_cons_zero, List.set_cons_succ]
      refine wpAnyH_ready (rs := [2, 6]) (by kernel_rfl) (by simp) ?_
      refine (AllReadyH.cons rfl (fun K hK => ?_) (AllReadyH.cons rfl (fun K hK => ?_) AllReadyH.nil))
      · simp only [List.getElem_toArray, List.getElem_cons_succ, List.getElem_cons_zero]
        rw [if_pos (by rfl)]
        go_wp2_with fail
        have hd : Below w1.heap.size w1 w1.drew := (Below.refl _ _).drew
        refine (hstart_own _ n i w1.drew (by exact hv.below hd)).mono ?_
        rintro e w2 ⟨r, rfl, hO⟩
        have b2 := below_then hd hO.2.1
        have hI := hO.ints (by rw [start_length]; omega)
        obtain ⟨ra, rl, rc, rfl, _⟩ := id hI
        have hF := (own_from hO).mono (Nat.le_trans c.size hd.size)
        refine hK.out _ _ (HS.out _ b2) (fun hH => ?_)
        obtain ⟨w5, hmk, hZ0⟩ := make_intsZ w2 len (len : Int) rfl (by omega)
        obtain ⟨Bz, HBz⟩ : ∃ B, Hid (w2.heap.size = B) := ⟨_, rfl⟩
        have hBz : w.heap.size ≤ Bz := by rw [← HBz.out]; exact Nat.le_trans c.size b2.size
        rw [HBz.out] at hmk hZ0
        have b5 : Below w1.heap.size w1 w5 := below_then b2 (by rw [HBz.out]; exact hZ0.below)
        replace hI := hI.below (by rw [HBz.out]; exact hZ0.below)
        have hZ := hZ0.ints (zs := zerosL len) (zeros_length _) (fun j _ => zeros_at _ _) (by omega) (Nat.le_refl _) (by omega)
        have HS9 : Hid (∀ W9, (w5.setCell ⟨w.heap.size + 1, 0, none⟩ (.slice ra rl rc)).setCell ⟨w.heap.size + 1, 1, none⟩ (.slice (some ⟨Bz, 0, none⟩) len len) = W9 → W9.cell? ⟨w.heap.size, 0, none⟩ = some (.int .i64 n.places) ∧ W9.cell? ⟨w.heap.size, 1, none⟩ = some (.slice ta len tc)) := fun W9 e => by
          have h := HS.out _ b5
          rw [← e]
          exact ⟨by rw [World.cell?_setCell_other _ _ _ _ (by simp), World.cell?_setCell_other _ _ _ _ (by simp)]; exact h.1, by rw [World.cell?_setCell_other _ _ _ _ (by simp), World.cell?_setCell_other _ _ _ _ (by simp)]; exact h.2⟩
        refine wpAnyH_ready (rs := [6]) (by kernel_rfl) (by simp) ?_
        refine AllReadyH.cons rfl (fun K hK => ?_) AllReadyH.nil
        simp only [List.getElem_toArray, List.getElem_cons_succ, List.getElem_cons_zero]
        rw [if_pos (by rfl)]
        go_wp2_with fail
        refine hK.out _ _ (HS.out _ b5) (fun hH => ?_)
        have B5 : Below w.heap.size w w5 := below_then c b5
        have hR5 := hR.below b5
        obtain ⟨u1, u2, u3, u4, u5⟩ := hR5.facts
        obtain ⟨W9, HW9⟩ : ∃ W9, Hid ((w5.setCell ⟨w.heap.size + 1, 0, none⟩ (.slice ra rl rc)).setCell ⟨w.heap.size + 1, 1, none⟩ (.slice (some ⟨Bz, 0, none⟩) len len) = W9) := ⟨_, rfl⟩
        obtain ⟨z1, z2, z3, z4⟩ := hR5.fill B5 (by omega) HW9.out hI hZ
        refine wpAnyH_take (i := 7) (v := .agg #[.slice ra rl rc, .slice (some ⟨Bz, 0, none⟩) len len]) rfl (by kernel_rfl) (by kernel_rfl) (by kernel_rfl) (fun _ _ _ h => h) (.inl ⟨by rfl, fun w' hS' => by first | (go_simp; done) | (go_simp; rfl) | (go_simp; intro h; omega) | (go_simp; omega)⟩) hH ?_
        simp only [List.getElem_toArray, List.getElem_cons_succ, List.getElem_cons_zero, Act.put, List.setIfInBounds_toArray, List.set_cons_zero, List.set_cons_succ]
        refine wpAnyH_ready (rs := [8]) (by kernel_rfl) (by simp) ?_
        refine AllReadyH.cons rfl (fun K hK => ?_) AllReadyH.nil
        simp only [List.getElem_toArray, List.getElem_cons_succ, List.getElem_cons_zero]
        rw [if_pos (by rfl)]
        go_wp2_with fail
        rw [HW9.out]
        refine hK.out _ _ (HS9.out _ HW9.out) (fun hH => ?_)
        refine wpAnyH_take (i := 9) (v := .int .i64 0) rfl (by kernel_rfl) (by kernel_rfl) (by kernel_rfl) (fun _ _ _ h => h) (.inl ⟨by rfl, fun _ _ => rfl⟩) hH ?_
        simp only [List.getElem_toArray, List.getElem_cons_succ, List.getElem_cons_zero, Act.put, List.setIfInBounds_toArray, List.set_cons_zero, List.set_cons_succ]
        refine wpAnyH_done (by kernel_rfl) ?_ _
        go_wp2
        exact bodyPost_ret (v := .tuple #[.agg #[.slice ra rl rc, .slice (some ⟨Bz, 0, none⟩) len len], .int .i64 0]) (results_case rfl rfl rfl z1 z2) rfl (givesCF_of E.out z3 ⟨_, _, rfl, hF, SlFrom.at hBz⟩ z4)
      · simp only [List.getElem_toArray, List.getElem_cons_succ, List.getElem_cons_zero]
        rw [if_pos (by rfl)]
        have hd : Below w1.heap.size w1 w1.drew := (Below.refl _ _).drew
        obtain ⟨w2, hmk, hZ0⟩ := make_intsZ w1.drew len (len : Int) rfl (by omega)
        obtain ⟨Bz, HBz⟩ : ∃ B, Hid (w1.drew.heap.size = B) := ⟨_, rfl⟩
        have hBz : w.heap.size ≤ Bz := by rw [← HBz.out]; exact Nat.le_trans c.size hd.size
        rw [HBz.out] at hmk hZ0
        have b2 : Below w1.heap.size w1 w2 := below_then hd (by rw [HBz.out]; exact hZ0.below)
        have hZ2 := hZ0.ints (zs := zerosL len) (zeros_length _) (fun j _ => zeros_at _ _) (by omega) (Nat.le_refl _) (by omega)
        go_wp2_with fail
        refine hK.out _ _ (HS.out _ b2) (fun hH => ?_)
        refine wpAnyH_ready (rs := [2]) (by kernel_rfl) (by simp) ?_
        refine AllReadyH.cons rfl (fun K hK => ?_) AllReadyH.nil
        simp only [List.getElem_toArray, List.getElem_cons_succ, List.getElem_cons_zero]
        rw [if_pos (by rfl)]
        go_wp2_with fail
        refine (hstart_own _ n i w2 (by exact hv.below b2)).mono ?_
        rintro e w5 ⟨r, rfl, hO⟩
        have b5 := below_then b2 hO.2.1
        have hI := hO.ints (by rw [start_length]; omega)
        obtain ⟨ra, rl, rc, rfl, _⟩ := id hI
        have hF := (own_from hO).mono (Nat.le_trans c.size b2.size)
        have hZ := hZ2.below hO.2.1
        refine hK.out _ _ (HS.out _ b5) (fun hH => ?_)
        have HS9 : Hid (∀ W9, (w5.setCell ⟨w.heap.size + 1, 0, none⟩ (.slice ra rl rc)).setCell ⟨w.heap.size + 1, 1, none⟩ (.slice (some ⟨Bz, 0, none⟩) len len) = W9 → W9.cell? ⟨w.heap.size, 0, none⟩ = some (.int .i64 n.places) ∧ W9.cell? ⟨w.heap.size, 1, none⟩ = some (.slice ta len tc)) := fun W9 e => by
          have h := HS.out _ b5
          rw [← e]
          exact ⟨by rw [World.cell?_setCell_other _ _ _ _ (by simp), World.cell?_setCell_other _ _ _ _ (by simp)]; exact h.1, by rw [World.cell?_setCell_other _ _ _ _ (by simp), World.cell?_setCell_other _ _ _ _ (by simp)]; exact h.2⟩
        have B5 : Below w.heap.size w w5 := below_then c b5
        have hR5 := hR.below b5
        obtain ⟨u1, u2, u3, u4, u5⟩ := hR5.facts
        obtain ⟨W9, HW9⟩ : ∃ W9, Hid ((w5.setCell ⟨w.heap.size + 1, 0, none⟩ (.slice ra rl rc)).setCell ⟨w.heap.size + 1, 1, none⟩ (.slice (some ⟨Bz, 0, none⟩) len len) = W9) := ⟨_, rfl⟩
        obtain ⟨z1, z2, z3, z4⟩ := hR5.fill B5 (by omega) HW9.out hI hZ
        refine wpAnyH_take (i := 7) (v := .agg #[.slice ra rl rc, .slice (some ⟨Bz, 0, none⟩) len len]) rfl (by kernel_rfl) (by kernel_rfl) (by kernel_rfl) (fun _ _ _ h => h) (.inl ⟨by rfl, fun w' hS' => by first | (go_simp; done) | (go_simp; rfl) | (go_simp; intro h; omega) | (go_simp; omega)⟩) hH ?_
        simp only [List.getElem_toArray, List.getElem_cons_succ, List.getElem_cons_zero, Act.put, List.setIfInBounds_toArray, List.set_cons_zero, List.set_cons_succ]
        refine wpAnyH_ready (rs := [8]) (by kernel_rfl) (by simp) ?_
        refine AllReadyH.cons rfl (fun K hK => ?_) AllReadyH.nil
        simp only [List.getElem_toArray, List.getElem_cons_succ, List.getElem_cons_zero]
        rw [if_pos (by rfl)]
        go_wp2_with fail
        rw [HW9.out]
        refine hK.out _ _ (HS9.out _ HW9.out) (fun hH => ?_)
        refine wpAnyH_take (i := 9) (v := .int .i64 0) rfl (by kernel_rfl) (by kernel_rfl) (by kernel_rfl) (fun _ _ _ h => h) (.inl ⟨by rfl, fun _ _ => rfl⟩) hH ?_
        simp only [List.getElem_toArray, List.getElem_cons_succ, List.getElem_cons_zero, Act.put, List.setIfInBounds_toArray, List.set_cons_zero, List.set_cons_succ]
        refine wpAnyH_done (by kernel_rfl) ?_ _
        go_wp2
        exact bodyPost_ret (v := .tuple #[.agg #[.slice ra rl rc, .slice (some ⟨Bz, 0, none⟩) len len], .int .i64 0]) (results_case rfl rfl rfl z1 z2) rfl (givesCF_of E.out z3 ⟨_, _, rfl, hF, SlFrom.at hBz⟩ z4)
    · have E : Hid (beginC n i = (noCase, 3)) := begin_none hn hi
      clear hn
      by_cases h1 : i < 0
      · clear hi
        go_wp2
        rw [HW2.out]
        exact bodyPost_ret (v := .tuple #[.agg #[.slice none 0 0, .slice none 0 0], .int .i64 3]) (results_case rfl rfl rfl z1 z2) rfl (givesCF_of E.out z3 (CaseFrom.none _) z4)
      · have h2 : n.places ≤ i := by omega
        have h1' : decide (i < 0) = false := decide_eq_false h1
        clear hi h1
        go_wp2
        rw [HW2.out]
        exact bodyPost_ret (v := .tuple #[.agg #[.slice none 0 0, .slice none 0 0], .int .i64 3]) (results_case rfl rfl rfl z1 z2) rfl (givesCF_of E.out z3 (CaseFrom.none _) z4)

theorem pbegin_any (v : Value) (n : NetL) (i : Int) (w : World) (hv : Net w v n) (hsm : SmallNet n) :
    Calls Try.prog 9 #[v, .int .i64 i] w fun e w' => GivesC w (beginC n i) e w' := (pbegin_own v n i w hv hsm).mono fun _ _ h => h.gives

end Go.Proofs.Ytffaamljogbmlaa

/- What the document's own Do of a case holds in memory while it goes on. -/
namespace Go.Proofs.Ytffaamljogbmlaa
open Go.RowKit
set_option linter.unusedVariables false
set_option maxRecDepth 4000

/-- Numbers that lie beside block g. -/
def IntsOff (w : World) (v : Value) (xs : List Int) (g : Nat) : Prop :=
  ∃ a len cap, v = .slice a len cap ∧ xs.length = len ∧ len ≤ 17592186044416 ∧ Shape a len cap ∧ ∀ j, j < xs.length → ∃ b off, a = some ⟨b, off, none⟩ ∧ b < w.heap.size ∧ w.cell? ⟨b, off + j, none⟩ = some (.int .i64 (nth xs j)) ∧ b ≠ g
theorem IntsOff.ints {w : World} {v : Value} {xs : List Int} {g : Nat} (h : IntsOff w v xs g) : Ints w v xs := by
  obtain ⟨a, len, cap, e, hl, hm, hs, hr⟩ := h
  exact ⟨a, len, cap, e, hl, hm, hs, fun j hj => by obtain ⟨b, off, h1, h2, h3, _⟩ := hr j hj; exact ⟨b, off, h1, h2, h3⟩⟩
theorem IntsOff.below {w w' : World} {v : Value} {xs : List Int} {g : Nat} (h : IntsOff w v xs g) (hb : Below w.heap.size w w') : IntsOff w' v xs g := by
  obtain ⟨a, len, cap, e, hl, hm, hs, hr⟩ := h
  exact ⟨a, len, cap, e, hl, hm, hs, fun j hj => by obtain ⟨b, off, h1, h2, h3, h4⟩ := hr j hj; exact ⟨b, off, h1, Nat.lt_of_lt_of_le h2 hb.size, by rw [hb.cell (p := ⟨b, _, none⟩) h2]; exact h3, h4⟩⟩
theorem IntsOff.set {w : World} {v : Value} {xs : List Int} {g : Nat} (h : IntsOff w v xs g) {p : Addr} (hp : p.block = g) (u : Value) : IntsOff (w.setCell p u) v xs g := by
  obtain ⟨a, len, cap, e, hl, hm, hs, hr⟩ := h
  exact ⟨a, len, cap, e, hl, hm, hs, fun j hj => by
    obtain ⟨b, off, h1, h2, h3, h4⟩ := hr j hj
    exact ⟨b, off, h1, by simpa [World.setCell] using h2, by rw [World.cell?_setCell_other _ _ _ _ (by intro q; apply h4; rw [← hp, q])]; exact h3, h4⟩⟩
theorem IntsOff.putS {w : World} {v : Value} {xs : List Int} {g : Nat} (h : IntsOff w v xs g) {p : Addr} {a' : Option Addr} {l' c' : Nat} (hp : w.cell? p = some (.slice a' l' c')) (u : Value) : IntsOff (w.setCell p u) v xs g := by
  obtain ⟨a, len, cap, e, hl, hm, hs, hr⟩ := h
  exact ⟨a, len, cap, e, hl, hm, hs, fun j hj => by
    obtain ⟨b, off, h1, h2, h3, h4⟩ := hr j hj
    exact ⟨b, off, h1, by simpa [World.setCell] using h2, by rw [World.cell?_setCell_other _ _ _ _ (by intro q; rw [← q, hp] at h3; cases h3)]; exact h3, h4⟩⟩
theorem Ints.off {w w' : World} {v : Value} {xs : List Int} {b g : Nat} (h : Ints w v xs) (hE : LitAt w b) (hk : ButOne b w w') (hg : g = b ∨ w.heap.size ≤ g) : IntsOff w' v xs g := by
  obtain ⟨a, len, cap, e, hl, hm, hs, hr⟩ := h
  refine ⟨a, len, cap, e, hl, hm, hs, fun j hj => ?_⟩
  obtain ⟨c, off, ha, hlt, hc⟩ := hr j hj
  have hne : c ≠ b := fun q => by
    subst q
    unfold LitAt at hE
    simp [World.cell?, hE] at hc
  exact ⟨c, off, ha, Nat.lt_of_lt_of_le hlt hk.size, by rw [cell_kept (p := ⟨c, off + j, none⟩) (hk.block c hlt hne)]; exact hc, by rcases hg with q | q <;> omega⟩
theorem ResC.butOne {w w' : World} {R b : Nat} {a a' : Option Addr} {l c l' c' : Nat} (h : ResC w R a l c a' l' c') (hE : LitAt w b) (hk : ButOne b w w') : ResC w' R a l c a' l' c' := by
  refine ⟨(hk.block R (Array.getElem?_eq_some_iff.1 h.cells).1 ?_).trans h.cells⟩
  intro q
  have h1 := h.cells
  rw [q] at h1
  unfold LitAt at hE
  rw [hE] at h1
  injection h1 with h1
  injection h1 with h1
  simp at h1
theorem ResC.ne {w : World} {R b : Nat} {a a' : Option Addr} {l c l' c' : Nat} (h : ResC w R a l c a' l' c') (hE : LitAt w b) : R ≠ b := by
  intro q
  have h1 := h.cells
  rw [q] at h1
  unfold LitAt at hE
  rw [hE] at h1
  injection h1 with h1
  injection h1 with h1
  simp at h1
theorem ResC.filled {w W : World} {R : Nat} {a a' : Option Addr} {l c l' c' : Nat} {mv bv : Value} (h : ResC w R a l c a' l' c') (hW : (w.setCell ⟨R, 0, none⟩ mv).setCell ⟨R, 1, none⟩ bv = W) :
    W.heap[R]? = some (.cells #[mv, bv] 27 (0, 0)) := by
  subst hW
  have e := h.cells
  have hlt := (Array.getElem?_eq_some_iff.1 e).1
  have e1 : (w.setCell ⟨R, 0, none⟩ mv).heap[R]? = some (.cells #[mv, .slice a' l' c'] 27 (0, 0)) := by
    show (w.heap.modify R _)[R]? = _
    rw [Array.getElem?_eq_getElem (by rw [Array.size_modify]; exact hlt), Array.getElem_modify_self, (Array.getElem?_eq_some_iff.1 e).2]
    rfl
  have hlt1 := (Array.getElem?_eq_some_iff.1 e1).1
  show ((w.setCell ⟨R, 0, none⟩ mv).heap.modify R _)[R]? = _
  rw [Array.getElem?_eq_getElem (by rw [Array.size_modify]; exact hlt1), Array.getElem_modify_self, (Array.getElem?_eq_some_iff.1 e1).2]
  rfl

theorem do_boxes (w : World) (x y a b d e : Value) : ∃ w0, Hid ((((w.alloc (.cells #[x, y] 24)).alloc (.cells #[a, b] 27)).alloc (.cells #[d, e] 29)).alloc (.cells #[.slice none 0 0, .slice none 0 0] 27) = w0) ∧
    Box2 w0 w.heap.size x y ∧ Box2 w0 (w.heap.size + 1) a b ∧ Box2 w0 (w.heap.size + 1 + 1) d e ∧ ResC w0 (w.heap.size + 1 + 1 + 1) none 0 0 none 0 0 ∧ Below w.heap.size w w0 := by
  have b1 := below_new w (.cells #[x, y] 24)
  have h1 := box2_new w x y 24
  obtain ⟨w1, H1⟩ : ∃ w1, w.alloc (.cells #[x, y] 24) = w1 := ⟨_, rfl⟩
  have s1 : w1.heap.size = w.heap.size + 1 := by rw [← H1]; simp
  rw [H1] at b1 h1 ⊢
  have b2 := below_new w1 (.cells #[a, b] 27)
  have h2 := box2_new w1 a b 27
  rw [s1] at h2
  obtain ⟨w2, H2⟩ : ∃ w2, w1.alloc (.cells #[a, b] 27) = w2 := ⟨_, rfl⟩
  have s2 : w2.heap.size = w.heap.size + 1 + 1 := by rw [← H2]; simp [s1]
  rw [H2] at b2 h2 ⊢
  have b3 := below_new w2 (.cells #[d, e] 29)
  have h3 := box2_new w2 d e 29
  rw [s2] at h3
  obtain ⟨w3, H3⟩ : ∃ w3, w2.alloc (.cells #[d, e] 29) = w3 := ⟨_, rfl⟩
  have s3 : w3.heap.size = w.heap.size + 1 + 1 + 1 := by rw [← H3]; simp [s2]
  rw [H3] at b3 h3 ⊢
  have b4 := below_new w3 (.cells #[.slice none 0 0, .slice none 0 0] 27)
  have h4 := resC_new w3
  rw [s3] at h4
  exact ⟨_, rfl, h1.below (below_then b2 (below_then b3 b4)), h2.below (below_then b3 b4), h3.below b4, h4, below_then b1 (below_then b2 (below_then b3 b4))⟩

end Go.Proofs.Ytffaamljogbmlaa
