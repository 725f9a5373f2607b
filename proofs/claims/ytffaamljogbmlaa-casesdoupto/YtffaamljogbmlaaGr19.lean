import Derived.Test.YtffaamljogbmlaaGr15
import Derived.Test.YtffaamljogbmlaaGr12
import Derived.BigRegion
import Derived.Test.YtffaamljogbmlaaCaseRef31
import Derived.Test.YtffaamljogbmlaaCaseRef32
import Derived.Test.YtffaamljogbmlaaCaseRef33
/- The document's own answers for cases: one thing done, of kind 4. (Made by tools/gen_pdo.py.) -/
namespace Go.Proofs.Ytffaamljogbmlaa
open Go.RowKit
set_option linter.unusedVariables false
set_option linter.unusedSimpArgs false
set_option maxRecDepth 4000

set_option maxHeartbeats 16000000 in
theorem pdo_kind4 (v u : Value) (n : NetL) (c : CaseL) (kd t : Int) (w : World) (hv : Net w v n) (hu : CaseV w u c) (hsm : SmallNet n) (hK : Hid (∀ j, j ∈ ([1, 2, 3] : List Int) → kd ≠ j)) :
    Calls Try.prog 11 #[v, u, .agg #[.int .i64 kd, .int .i64 t]] w fun e w' => GivesCF w (doC n c kd t) e w' := by
  obtain ⟨tv, rfl, hT⟩ := hv
  obtain ⟨a, l, p, a', bl, bp, rfl, h1, h2⟩ := hu
  obtain ⟨w0, Hw0, hbn, hbc, hbo, hR, c0⟩ := do_boxes w (.int .i64 n.places) tv (.slice a l p) (.slice a' bl bp) (.int .i64 kd) (.int .i64 t)
  have hv : Net w0 (.agg #[.int .i64 n.places, tv]) n := ⟨_, rfl, hT.below c0⟩
  have hu : CaseV w0 (.agg #[.slice a l p, .slice a' bl bp]) c := ⟨a, l, p, a', bl, bp, rfl, h1.below c0, h2.below c0⟩
  replace h1 := h1.below c0
  replace h2 := h2.below c0
  clear hT
  obtain ⟨x0, x1, x2⟩ := id hbn
  obtain ⟨y0, y1, y2⟩ := id hbc
  go_enter Try.func11, Try.ntmps11
  go_upto_region 1 with fail
  rw [Hw0.out]
  clear Hw0
  go_wp2_with fail
  refine (pright_any _ _ n c w0 (by exact hv) (by exact hu) hsm).mono ?_
  rintro e w1 ⟨rfl, b⟩
  clear x0 x1 x2 y0 y1 y2 hu
  replace c0 := below_then c0 b
  replace hv := hv.below b
  replace h1 := h1.below b
  replace h2 := h2.below b
  replace hbn := hbn.below b
  replace hbc := hbc.below b
  replace hbo := hbo.below b
  replace hR := hR.below b
  clear b
  obtain ⟨x0, x1, x2⟩ := id hbn
  obtain ⟨y0, y1, y2⟩ := id hbc
  obtain ⟨o0, o1, o2⟩ := id hbo
  cases hr : rightC n c
  · have E : Hid (doC n c kd t = (noCase, 2)) := do_range hr
    obtain ⟨q1, q2, q3, q4, q5⟩ := hR.facts
    obtain ⟨W2, HW2⟩ : ∃ W2, Hid ((w1.setCell ⟨w.heap.size + 1 + 1 + 1, 0, none⟩ (.slice none 0 0)).setCell ⟨w.heap.size + 1 + 1 + 1, 1, none⟩ (.slice none 0 0) = W2) := ⟨_, rfl⟩
    obtain ⟨z1, z2, z3, z4⟩ := hR.fill c0 (by omega) HW2.out (Ints.nil _) (Ints.nil _)
    go_wp2
    rw [HW2.out]
    exact bodyPost_ret (v := .tuple #[.agg #[.slice none 0 0, .slice none 0 0], .int .i64 2]) (results_case rfl rfl rfl z1 z2) rfl (givesCF_of E.out z3 (CaseFrom.none _) z4)
  · have Hr : Hid (rightC n c = true) := hr
    clear hr
    by_cases hk1 : kd < 1
    · have E : Hid (doC n c kd t = (noCase, 5)) := do_kind Hr.out (.inl hk1)
      obtain ⟨q1, q2, q3, q4, q5⟩ := hR.facts
      obtain ⟨W2, HW2⟩ : ∃ W2, Hid ((w1.setCell ⟨w.heap.size + 1 + 1 + 1, 0, none⟩ (.slice none 0 0)).setCell ⟨w.heap.size + 1 + 1 + 1, 1, none⟩ (.slice none 0 0) = W2) := ⟨_, rfl⟩
      obtain ⟨z1, z2, z3, z4⟩ := hR.fill c0 (by omega) HW2.out (Ints.nil _) (Ints.nil _)
      go_wp2
      rw [HW2.out]
      exact bodyPost_ret (v := .tuple #[.agg #[.slice none 0 0, .slice none 0 0], .int .i64 5]) (results_case rfl rfl rfl z1 z2) rfl (givesCF_of E.out z3 (CaseFrom.none _) z4)
    · by_cases hk4 : 4 < kd
      · have hk1' : decide (kd < 1) = false := decide_eq_false hk1
        have E : Hid (doC n c kd t = (noCase, 5)) := do_kind Hr.out (.inr hk4)
        obtain ⟨q1, q2, q3, q4, q5⟩ := hR.facts
        obtain ⟨W2, HW2⟩ : ∃ W2, Hid ((w1.setCell ⟨w.heap.size + 1 + 1 + 1, 0, none⟩ (.slice none 0 0)).setCell ⟨w.heap.size + 1 + 1 + 1, 1, none⟩ (.slice none 0 0) = W2) := ⟨_, rfl⟩
        obtain ⟨z1, z2, z3, z4⟩ := hR.fill c0 (by omega) HW2.out (Ints.nil _) (Ints.nil _)
        go_wp2
        rw [HW2.out]
        exact bodyPost_ret (v := .tuple #[.agg #[.slice none 0 0, .slice none 0 0], .int .i64 5]) (results_case rfl rfl rfl z1 z2) rfl (givesCF_of E.out z3 (CaseFrom.none _) z4)
      · have hk1' : decide (kd < 1) = false := decide_eq_false hk1
        have hk4' : decide (4 < kd) = false := decide_eq_false hk4
        by_cases ht0 : t < 0
        · have E : Hid (doC n c kd t = (noCase, 3)) := do_none Hr.out (by omega) (.inl ht0)
          obtain ⟨q1, q2, q3, q4, q5⟩ := hR.facts
          obtain ⟨W2, HW2⟩ : ∃ W2, Hid ((w1.setCell ⟨w.heap.size + 1 + 1 + 1, 0, none⟩ (.slice none 0 0)).setCell ⟨w.heap.size + 1 + 1 + 1, 1, none⟩ (.slice none 0 0) = W2) := ⟨_, rfl⟩
          obtain ⟨z1, z2, z3, z4⟩ := hR.fill c0 (by omega) HW2.out (Ints.nil _) (Ints.nil _)
          go_wp2
          rw [HW2.out]
          exact bodyPost_ret (v := .tuple #[.agg #[.slice none 0 0, .slice none 0 0], .int .i64 3]) (results_case rfl rfl rfl z1 z2) rfl (givesCF_of E.out z3 (CaseFrom.none _) z4)
        · obtain ⟨k, rfl⟩ := Int.eq_ofNat_of_zero_le (show 0 ≤ t by omega)
          have ht0' : decide ((k : Int) < 0) = false := decide_eq_false ht0
          obtain ⟨tv', e, hT⟩ := id hv
          obtain rfl : tv = tv' := by injection e with e; simp at e; exact e
          obtain ⟨ta, len, tc, rfl, hlen, hmx, hsh, _⟩ := id hT
          have Hlen : Hid (n.trans.length = len) := hlen
          clear e hsh hlen
          by_cases hk : k < len
          · have htl' : decide ((len : Int) ≤ (k : Int)) = false := decide_eq_false (by omega)
            obtain ⟨bt, ot, p1, q1, rfl, hlt, c0', c1', c2', i1, i2⟩ := hT.at hk
            obtain ⟨a1, l1, c1, rfl⟩ : ∃ a l c, p1 = .slice a l c := by obtain ⟨a, l, c, e, _⟩ := i1; exact ⟨a, l, c, e⟩
            obtain ⟨a2, l2, c2, rfl⟩ : ∃ a l c, q1 = .slice a l c := by obtain ⟨a, l, c, e, _⟩ := i2; exact ⟨a, l, c, e⟩
            obtain ⟨hf, hbl0, hb0⟩ := rightC_iff.1 Hr.out
            obtain ⟨hn, hml, hmr⟩ := fits_net hf
            have Hrm : Hid (rightL c.mark = true) := hmr
            have Hb : Hid _ := (rightL_iff _).1 hb0
            have Hbl : Hid (bl = len) := by show _ = _; rw [← len_of_ints h2, hbl0, Hlen.out]
            have HwT : Hid _ := tran_right (net_tran hn (show k < n.trans.length by rw [Hlen.out]; exact hk))
            obtain ⟨T, HT⟩ : ∃ T, Hid (tranAt n.trans k = T) := ⟨_, rfl⟩
            rw [HT.out] at c0' i1 i2 HwT
            obtain ⟨L, HLab⟩ : ∃ L, Hid (T.label = L) := ⟨_, rfl⟩
            rw [HLab.out] at c0'
            have bs := below_new w1 (.cells #[.int .i64 L, .slice a1 l1 c1, .slice a2 l2 c2] 54)
            have hbt := box3_new w1 (.int .i64 L) (.slice a1 l1 c1) (.slice a2 l2 c2) 54
            obtain ⟨Bt, HBt⟩ : ∃ B, Hid (w1.heap.size = B) := ⟨_, rfl⟩
            rw [HBt.out] at hbt
            obtain ⟨w2, H2⟩ : ∃ w2, Hid (w1.alloc (.cells #[.int .i64 L, .slice a1 l1 c1, .slice a2 l2 c2] 54) = w2) := ⟨_, rfl⟩
            rw [H2.out] at bs hbt
            clear hf hbl0 hb0 hn hml hmr
            go_upto_region 8 with fail
            rw [H2.out, HBt.out]
            clear H2 c0' c1' c2' hT x0 x1 x2 y0 y1 y2 o0 o1 o2
            replace c0 := below_then c0 bs
            replace hv := hv.below bs
            replace h1 := h1.below bs
            replace h2 := h2.below bs
            replace hbn := hbn.below bs
            replace hbc := hbc.below bs
            replace hbo := hbo.below bs
            replace hR := hR.below bs
            replace i1 := i1.below bs
            replace i2 := i2.below bs
            clear bs
            obtain ⟨t0, t1, t2, t3⟩ := id hbt
            obtain ⟨x0, x1, x2⟩ := id hbn
            obtain ⟨y0, y1, y2⟩ := id hbc
            obtain ⟨o0, o1, o2⟩ := id hbo
            have HR4 : Hid True := trivial
            by_cases hL : L = 0
            · by_cases h1k : kd = 1
              · subst h1k hL
                have hL : (0 : Int) = 0 := rfl
                exact absurd rfl (hK.out 1 (by simp))
              · subst hL
                have h1k' : (kd == 1) = false := by simpa using h1k
                have E : Hid (doC n c kd k = (noCase, 1)) := do_form Hr.out (by omega) (by rw [Hlen.out]; exact hk) (by rw [HT.out, HLab.out]; simp [h1k])
                obtain ⟨q1, q2, q3, q4, q5⟩ := hR.facts
                obtain ⟨W2, HW2⟩ : ∃ W2, Hid ((w2.setCell ⟨w.heap.size + 1 + 1 + 1, 0, none⟩ (.slice none 0 0)).setCell ⟨w.heap.size + 1 + 1 + 1, 1, none⟩ (.slice none 0 0) = W2) := ⟨_, rfl⟩
                obtain ⟨z1, z2, z3, z4⟩ := hR.fill c0 (by omega) HW2.out (Ints.nil _) (Ints.nil _)
                go_wp2
                rw [HW2.out]
                exact bodyPost_ret (v := .tuple #[.agg #[.slice none 0 0, .slice none 0 0], .int .i64 1]) (results_case rfl rfl rfl z1 z2) rfl (givesCF_of E.out z3 (CaseFrom.none _) z4)
            · have hL' : (L == 0) = false := by simpa using hL
              by_cases h1k : kd = 1
              · subst h1k
                have E : Hid (doC n c 1 k = (noCase, 1)) := do_form Hr.out (by omega) (by rw [Hlen.out]; exact hk) (by rw [HT.out, HLab.out]; simp [hL])
                obtain ⟨q1, q2, q3, q4, q5⟩ := hR.facts
                obtain ⟨W2, HW2⟩ : ∃ W2, Hid ((w2.setCell ⟨w.heap.size + 1 + 1 + 1, 0, none⟩ (.slice none 0 0)).setCell ⟨w.heap.size + 1 + 1 + 1, 1, none⟩ (.slice none 0 0) = W2) := ⟨_, rfl⟩
                obtain ⟨z1, z2, z3, z4⟩ := hR.fill c0 (by omega) HW2.out (Ints.nil _) (Ints.nil _)
                go_wp2
                rw [HW2.out]
                exact bodyPost_ret (v := .tuple #[.agg #[.slice none 0 0, .slice none 0 0], .int .i64 1]) (results_case rfl rfl rfl z1 z2) rfl (givesCF_of E.out z3 (CaseFrom.none _) z4)
              · obtain rfl | rfl | rfl : kd = 2 ∨ kd = 3 ∨ kd = 4 := by omega
                · exact absurd rfl (hK.out 2 (by simp))
                · exact absurd rfl (hK.out 3 (by simp))
                · have HTk : Hid (takeC T 4 = []) := by show _ = _; simp [takeC]
                  have HGv : Hid (giveC T 4 = T.pre) := by show _ = _; simp [giveC]
                  have HMr : Hid (moreC 4 = -1) := by show _ = _; simp [moreC]
                  have Hk : Hid (¬ (((4 : Int)) < 1 ∨ 4 < ((4 : Int)))) := by show ¬ _; omega
                  have HF : Hid ((tranAt n.trans k).label = 0 ↔ ((4 : Int)) = 1) := by show _ ↔ _; rw [HT.out, HLab.out]; constructor; intro q; exact absurd q hL; intro q; omega
                  obtain ⟨w3, H3⟩ : ∃ w3, Hid (w2 = w3) := ⟨_, rfl⟩
                  go_wp2_with fail
                  rw [H3.out] at c0 hv h1 h2 hbn hbc hbo hR i1 i2 x0 x1 x2 y0 y1 y2 o0 o1 o2
                  rw [H3.out]
                  clear H3 t0 t1 t2 t3
                  obtain ⟨TK, HTK⟩ : ∃ t, Hid (([] : List Int) = t) := ⟨_, rfl⟩
                  obtain ⟨GV, HGV⟩ : ∃ t, Hid ((T.pre : List Int) = t) := ⟨_, rfl⟩
                  have hTk : Ints w3 (.slice none 0 0) TK := by rw [← HTK.out]; exact Ints.nil w3
                  have hGv : Ints w3 (.slice a1 l1 c1) GV := by rw [← HGV.out]; exact i1
                  have HrT : Hid (rightL TK = true) := by show _ = _; rw [← HTK.out]; rfl
                  have HrG : Hid (rightL GV = true) := by show _ = _; rw [← HGV.out]; exact HwT.out.1
                  rw [HTK.out] at HTk
                  rw [HGV.out] at HGv
                  refine (acovers_b _ _ c.mark TK w3 (by exact h1) (by exact hTk)).mono ?_
                  rintro e w4 ⟨rfl, b⟩
                  clear i1 i2 x0 x1 x2 y0 y1 y2 o0 o1 o2
                  replace c0 := below_then c0 b
                  replace hv := hv.below b
                  replace h1 := h1.below b
                  replace h2 := h2.below b
                  replace hbn := hbn.below b
                  replace hbc := hbc.below b
                  replace hbo := hbo.below b
                  replace hR := hR.below b
                  replace hTk := hTk.below b
                  replace hGv := hGv.below b
                  clear b
                  obtain ⟨x0, x1, x2⟩ := id hbn
                  obtain ⟨y0, y1, y2⟩ := id hbc
                  obtain ⟨o0, o1, o2⟩ := id hbo
                  cases hcv : coversL c.mark TK
                  · have E : Hid (doC n c 4 k = (noCase, 3)) := do_not Hr.out Hk.out (by rw [Hlen.out]; exact hk) HF.out (.inl (by rw [HT.out, HTk.out]; exact hcv))
                    obtain ⟨q1, q2, q3, q4, q5⟩ := hR.facts
                    obtain ⟨W2, HW2⟩ : ∃ W2, Hid ((w4.setCell ⟨w.heap.size + 1 + 1 + 1, 0, none⟩ (.slice none 0 0)).setCell ⟨w.heap.size + 1 + 1 + 1, 1, none⟩ (.slice none 0 0) = W2) := ⟨_, rfl⟩
                    obtain ⟨z1, z2, z3, z4⟩ := hR.fill c0 (by omega) HW2.out (Ints.nil _) (Ints.nil _)
                    go_wp2
                    rw [HW2.out]
                    exact bodyPost_ret (v := .tuple #[.agg #[.slice none 0 0, .slice none 0 0], .int .i64 3]) (results_case rfl rfl rfl z1 z2) rfl (givesCF_of E.out z3 (CaseFrom.none _) z4)
                  · have hbu := Hb.out k
                    have hkb : k < bl := by rw [Hbl.out]; exact hk
                    obtain ⟨bb, ob, rfl, hlb, cb⟩ := ints_atL h2 (k := k) (by rw [Hbl.out]; exact hk)
                    obtain ⟨x, Hx⟩ : ∃ x, Hid (nth c.busy k = x) := ⟨_, rfl⟩
                    rw [Hx.out] at cb hbu
                    by_cases hx0 : x = 0
                    · subst hx0
                      have E : Hid (doC n c 4 k = (noCase, 3)) := do_not Hr.out Hk.out (by rw [Hlen.out]; exact hk) HF.out (.inr (by rw [Hx.out, HMr.out]; omega))
                      obtain ⟨q1, q2, q3, q4, q5⟩ := hR.facts
                      obtain ⟨W2, HW2⟩ : ∃ W2, Hid ((w4.setCell ⟨w.heap.size + 1 + 1 + 1, 0, none⟩ (.slice none 0 0)).setCell ⟨w.heap.size + 1 + 1 + 1, 1, none⟩ (.slice none 0 0) = W2) := ⟨_, rfl⟩
                      obtain ⟨z1, z2, z3, z4⟩ := hR.fill c0 (by omega) HW2.out (Ints.nil _) (Ints.nil _)
                      go_wp2
                      rw [HW2.out]
                      exact bodyPost_ret (v := .tuple #[.agg #[.slice none 0 0, .slice none 0 0], .int .i64 3]) (results_case rfl rfl rfl z1 z2) rfl (givesCF_of E.out z3 (CaseFrom.none _) z4)
                    · have hxm : 0 ≤ x + (-1) ∧ x + (-1) ≤ 1000001 := by omega
                      have hnl : decide (x + (-1) < 0) = false := decide_eq_false (by omega)
                      have HrS : Hid (rightL (subL c.mark TK) = true) := by show _ = _; unfold subL; rw [right_minus Hrm.out HrT.out]; exact hcv
                      have Hpos : Hid (0 < c.busy.length) := by rw [len_of_ints h2, Hbl.out]; show 0 < _; omega
                      have HD : Hid (doC n c 4 k = if rightC n ⟨addL (subL c.mark TK) GV, c.busy.set k (x + (-1))⟩ then (⟨addL (subL c.mark TK) GV, c.busy.set k (x + (-1))⟩, 0) else (noCase, 4)) := by
                        have := do_out Hr.out Hk.out (show k < n.trans.length by rw [Hlen.out]; exact hk) HF.out (by rw [HT.out, HTk.out, hcv, Hx.out, HMr.out]; simp; omega)
                        unfold outC at this
                        rw [HT.out, HTk.out, HGv.out, Hx.out, HMr.out] at this
                        exact this
                      have HS : Hid (∀ w', Below w4.heap.size w4 w' → w'.cell? ⟨w.heap.size + 1, 0, none⟩ = some (.slice a l p) ∧ w'.cell? ⟨w.heap.size + 1, 1, none⟩ = some (.slice (some ⟨bb, ob, none⟩) bl bp)) := fun w' h => (hbc.below h).2
                      clear hcv HTK HGV
                      go_upto_region 23 with fail
                      clear cb x0 x1 x2 y0 y1 y2 o0 o1 o2
                      go_cut [12] (fun P wc => ∃ Bx ra rl rc g cap', P = .pointer (some ⟨Bx, 0, none⟩) ∧ wc.heap[Bx]? = some (.cells #[.slice ra rl rc, .slice (some ⟨g, 0, none⟩) bl cap'] 27 (0, 0)) ∧ IntsOff wc (.slice ra rl rc) (addL (subL c.mark TK) GV) g ∧ RowG wc g bl cap' c.busy ∧ g ≠ Bx ∧ w4.heap.size ≤ g ∧ w4.heap.size ≤ Bx ∧ SlFrom w.heap.size (.slice ra rl rc) ∧ Below w4.heap.size w4 wc)
                      case first =>
                        refine wp_region_held_drew (S := (fun w' => w'.cell? ⟨w.heap.size + 1, 0, none⟩ = some (.slice a l p) ∧ w'.cell? ⟨w.heap.size + 1, 1, none⟩ = some (.slice (some ⟨bb, ob, none⟩) bl bp))) (by kernel_rfl) (HS.out _ (Below.refl _ _).drew) (fun hH => ?_)
                        have b : Below w4.heap.size w4 w4.drew := (Below.refl _ _).drew
                        obtain ⟨v0, Hv0⟩ : ∃ v0, Hid (w4.drew = v0) := ⟨_, rfl⟩
                        rw [Hv0.out] at hH b ⊢
                        clear Hv0
                        refine wpAnyH_take (i := 0) (v := .pointer (some ⟨w.heap.size + 1, 0, none⟩)) rfl (by kernel_rfl) (by kernel_rfl) (by kernel_rfl) (fun _ _ _ h => h) (.inl ⟨by rfl, fun w' hS' => by first | (go_simp; done) | (go_simp; rfl) | (go_simp; intro h; omega) | (go_simp; omega)⟩) hH ?_
                        simp only [List.getElem_toArray, List.getElem_cons_succ, List.getElem_cons_zero, Act.put, List.setIfInBounds_toArray, List.set_cons_zero, List.set_cons_succ]
                        refine wpAnyH_take (i := 1) (v := .slice a l p) rfl (by kernel_rfl) (by kernel_rfl) (by kernel_rfl) (fun _ _ _ h => h) (.inl ⟨by rfl, fun w' hS' => by obtain ⟨s1, s2⟩ := hS'; go_simp⟩) hH ?_
                        simp only [List.getElem_toArray, List.getElem_cons_succ, List.getElem_cons_zero, Act.put, List.setIfInBounds_toArray, List.set_cons_zero, List.set_cons_succ]
                        refine wpAnyH_take (i := 2) (v := .slice none 0 0) rfl (by kernel_rfl) (by kernel_rfl) (by kernel_rfl) (fun _ _ _ h => h) (.inl ⟨by rfl, fun _ _ => rfl⟩) hH ?_
                        simp only [List.getElem_toArray, List.getElem_cons_succ, List.getElem_cons_zero, Act.put, List.setIfInBounds_toArray, List.set_cons_zero, List.set_cons_succ]
                        refine wpAnyH_take (i := 4) (v := .slice a1 l1 c1) rfl (by kernel_rfl) (by kernel_rfl) (by kernel_rfl) (fun _ _ _ h => h) (.inl ⟨by rfl, fun _ _ => rfl⟩) hH ?_
                        simp only [List.getElem_toArray, List.getElem_cons_succ, List.getElem_cons_zero, Act.put, List.setIfInBounds_toArray, List.set_cons_zero, List.set_cons_succ]
                        refine wpAnyH_take (i := 7) (v := .pointer (some ⟨w.heap.size + 1, 1, none⟩)) rfl (by kernel_rfl) (by kernel_rfl) (by kernel_rfl) (fun _ _ _ h => h) (.inl ⟨by rfl, fun w' hS' => by first | (go_simp; done) | (go_simp; rfl) | (go_simp; intro h; omega) | (go_simp; omega)⟩) hH ?_
                        simp only [List.getElem_toArray, List.getElem_cons_succ, List.getElem_cons_zero, Act.put, List.setIfInBounds_toArray, List.set_cons_zero, List.set_cons_succ]
                        refine wpAnyH_take (i := 8) (v := .slice (some ⟨bb, ob, none⟩) bl bp) rfl (by kernel_rfl) (by kernel_rfl) (by kernel_rfl) (fun _ _ _ h => h) (.inl ⟨by rfl, fun w' hS' => by obtain ⟨s1, s2⟩ := hS'; go_simp⟩) hH ?_
                        simp only [List.getElem_toArray, List.getElem_cons_succ, List.getElem_cons_zero, Act.put, List.setIfInBounds_toArray, List.set_cons_zero, List.set_cons_succ]
                        refine wpAnyH_ready (rs := [3, 6, 11]) (by kernel_rfl) (by simp) ?_
                        refine (AllReadyH.cons rfl (fun K hK => ?_) (AllReadyH.cons rfl (fun K hK => ?_) (AllReadyH.cons rfl (fun K hK => ?_) AllReadyH.nil)))
                        · simp only [List.getElem_toArray, List.getElem_cons_succ, List.getElem_cons_zero]
                          rw [if_pos (by rfl)]
                          go_wp2_with fail
                          refine (amix_any (-1) (.inr rfl) _ _ c.mark TK v0 (by exact h1.below b) (by exact hTk.below b) Hrm.out HrT.out).mono ?_
                          rintro e v1 ⟨r1, rfl, I1, bs⟩
                          rw [mix_less] at I1
                          replace I1 : Ints v1 r1 (subL c.mark TK) := I1
                          obtain ⟨ra1, rl1, rc1, rfl, _⟩ := id I1
                          replace b := below_then b bs
                          clear bs
                          refine hK.out _ _ (HS.out _ b) (fun hH => ?_)
                          clear hK
                          refine wpAnyH_ready (rs := [5, 6, 11]) (by kernel_rfl) (by simp) ?_
                          refine (AllReadyH.cons rfl (fun K hK => ?_) (AllReadyH.cons rfl (fun K hK => ?_) (AllReadyH.cons rfl (fun K hK => ?_) AllReadyH.nil)))
                          · simp only [List.getElem_toArray, List.getElem_cons_succ, List.getElem_cons_zero]
                            rw [if_pos (by rfl)]
                            go_wp2_with fail
                            refine (amix_from 1 (.inl rfl) _ _ (subL c.mark TK) GV v1 (by exact I1) (by exact hGv.below b) HrS.out HrG.out).mono ?_
                            rintro e v2 ⟨r2, rfl, I2, F2, bs⟩
                            replace F2 := F2.mono (Nat.le_trans c0.size b.size)
                            rw [mix_one] at I2
                            replace I2 : Ints v2 r2 (addL (subL c.mark TK) GV) := I2
                            obtain ⟨ra2, rl2, rc2, rfl, _⟩ := id I2
                            clear I1
                            replace b := below_then b bs
                            clear bs
                            refine hK.out _ _ (HS.out _ b) (fun hH => ?_)
                            clear hK
                            refine wpAnyH_ready (rs := [6, 11]) (by kernel_rfl) (by simp) ?_
                            refine (AllReadyH.cons rfl (fun K hK => ?_) (AllReadyH.cons rfl (fun K hK => ?_) AllReadyH.nil))
                            · simp only [List.getElem_toArray, List.getElem_cons_succ, List.getElem_cons_zero]
                              have bs := below_new v2 (.cells #[] 3)
                              have E6 := lit_new v2
                              obtain ⟨B6, HB6⟩ : ∃ B, Hid (v2.heap.size = B) := ⟨_, rfl⟩
                              have hB6 : w4.heap.size ≤ B6 := by rw [← HB6.out]; exact b.size
                              skip
                              obtain ⟨v3, Hv3⟩ : ∃ v, Hid (v2.alloc (.cells #[] 3) = v) := ⟨_, rfl⟩
                              rw [Hv3.out] at bs E6
                              rw [HB6.out] at E6
                              rw [if_pos (by rfl)]
                              go_wp2_with fail
                              rw [Hv3.out, HB6.out]
                              replace I2 := I2.below bs
                              replace b := below_then b bs
                              clear bs Hv3
                              refine hK.out _ _ (HS.out _ b) (fun hH => ?_)
                              clear hK
                              refine wpAnyH_ready (rs := [9, 11]) (by kernel_rfl) (by simp) ?_
                              refine (AllReadyH.cons rfl (fun K hK => ?_) (AllReadyH.cons rfl (fun K hK => ?_) AllReadyH.nil))
                              · simp only [List.getElem_toArray, List.getElem_cons_succ, List.getElem_cons_zero]
                                refine wpr_append_lit (by rfl) _ _ rfl B6 v3 ⟨bb, ob, none⟩ bl bp c.busy E6 rfl rfl (h2.below b) Hpos.out ?_
                                intro g cap' v4 hG hbg hbo' hgo hbel
                                have I3 := I2.off E6 hbo' hgo
                                skip
                                replace b := hbel _ _ hB6 b
                                have hg4 : w4.heap.size ≤ g := Nat.le_trans hB6 hbg
                                clear I2 E6 hbo' hgo hbel hbg
                                refine hK.out _ _ (HS.out _ b) (fun hH => ?_)
                                clear hK
                                refine wpAnyH_take (i := 10) (v := .agg #[.slice ra2 rl2 rc2, .slice (some ⟨g, 0, none⟩) bl cap']) rfl (by kernel_rfl) (by kernel_rfl) (by kernel_rfl) (fun _ _ _ h => h) (.inl ⟨by rfl, fun w' hS' => by first | (go_simp; done) | (go_simp; rfl) | (go_simp; intro h; omega) | (go_simp; omega)⟩) hH ?_
                                simp only [List.getElem_toArray, List.getElem_cons_succ, List.getElem_cons_zero, Act.put, List.setIfInBounds_toArray, List.set_cons_zero, List.set_cons_succ]
                                refine wpAnyH_ready (rs := [11]) (by kernel_rfl) (by simp) ?_
                                refine AllReadyH.cons rfl (fun K hK => ?_) AllReadyH.nil
                                simp only [List.getElem_toArray, List.getElem_cons_succ, List.getElem_cons_zero]
                                have bs := below_new v4 (.cells #[.slice none 0 0, .slice none 0 0] 27)
                                have R11 := resC_new v4
                                obtain ⟨Bx, HBx⟩ : ∃ B, Hid (v4.heap.size = B) := ⟨_, rfl⟩
                                have hBx : w4.heap.size ≤ Bx := by rw [← HBx.out]; exact b.size
                                have hgx : g ≠ Bx := by have := hG.lt; have := HBx.out; omega
                                obtain ⟨v5, Hv5⟩ : ∃ v, Hid (v4.alloc (.cells #[.slice none 0 0, .slice none 0 0] 27) = v) := ⟨_, rfl⟩
                                rw [Hv5.out] at bs R11
                                rw [HBx.out] at R11
                                rw [if_pos (by rfl)]
                                go_wp2_with fail
                                rw [Hv5.out, HBx.out]
                                replace I3 := I3.below bs
                                replace hG := hG.below bs
                                replace b := below_then b bs
                                clear bs Hv5
                                refine hK.out _ _ (HS.out _ b) (fun hH => ?_)
                                clear hK
                                refine wpAnyH_ready (rs := [12]) (by kernel_rfl) (by simp) ?_
                                refine AllReadyH.cons rfl (fun K hK => ?_) AllReadyH.nil
                                simp only [List.getElem_toArray, List.getElem_cons_succ, List.getElem_cons_zero]
                                obtain ⟨q1, q2, q3, q4, q5⟩ := R11.facts
                                obtain ⟨W9, HW9⟩ : ∃ W9, Hid ((v5.setCell ⟨Bx, 0, none⟩ (.slice ra2 rl2 rc2)).setCell ⟨Bx, 1, none⟩ (.slice (some ⟨g, 0, none⟩) bl cap') = W9) := ⟨_, rfl⟩
                                have hcell := R11.filled HW9.out
                                have e2 : (v5.setCell ⟨Bx, 0, none⟩ (.slice ra2 rl2 rc2)).cell? ⟨Bx, 1, none⟩ = some (.slice none 0 0) := by rw [World.cell?_setCell_other _ _ _ _ (by simp)]; exact q2
                                have I9 := (I3.putS q1 (.slice ra2 rl2 rc2)).putS e2 (.slice (some ⟨g, 0, none⟩) bl cap')
                                have G9 := (hG.set (p := ⟨Bx, 0, none⟩) (fun q => hgx q.symm) (.slice ra2 rl2 rc2)).set (p := ⟨Bx, 1, none⟩) (fun q => hgx q.symm) (.slice (some ⟨g, 0, none⟩) bl cap')
                                have b9 := (b.setCell (p := ⟨Bx, 0, none⟩) hBx (.slice ra2 rl2 rc2)).setCell (p := ⟨Bx, 1, none⟩) hBx (.slice (some ⟨g, 0, none⟩) bl cap')
                                rw [HW9.out] at I9 G9 b9
                                rw [if_pos (by rfl)]
                                go_wp2_with fail
                                rw [HW9.out]
                                refine hK.out _ _ (HS.out _ b9) (fun hH => ?_)
                                refine wpAnyH_done (by kernel_rfl) ?_ _
                                go_wp2_with fail
                                go_meet
                                exact ⟨Bx, ra2, rl2, rc2, g, cap', rfl, hcell, I9, G9, hgx, hg4, hBx, F2, b9⟩
                              · simp only [List.getElem_toArray, List.getElem_cons_succ, List.getElem_cons_zero]
                                have bs := below_new v3 (.cells #[.slice none 0 0, .slice none 0 0] 27)
                                have R11 := resC_new v3
                                obtain ⟨Bx, HBx⟩ : ∃ B, Hid (v3.heap.size = B) := ⟨_, rfl⟩
                                have hBx : w4.heap.size ≤ Bx := by rw [← HBx.out]; exact b.size
                                skip
                                obtain ⟨v4, Hv4⟩ : ∃ v, Hid (v3.alloc (.cells #[.slice none 0 0, .slice none 0 0] 27) = v) := ⟨_, rfl⟩
                                rw [Hv4.out] at bs R11
                                rw [HBx.out] at R11
                                rw [if_pos (by rfl)]
                                go_wp2_with fail
                                rw [Hv4.out, HBx.out]
                                replace I2 := I2.below bs
                                replace E6 := E6.below bs
                                replace b := below_then b bs
                                clear bs Hv4
                                refine hK.out _ _ (HS.out _ b) (fun hH => ?_)
                                clear hK
                                refine wpAnyH_ready (rs := [9]) (by kernel_rfl) (by simp) ?_
                                refine AllReadyH.cons rfl (fun K hK => ?_) AllReadyH.nil
                                simp only [List.getElem_toArray, List.getElem_cons_succ, List.getElem_cons_zero]
                                refine wpr_append_lit (by rfl) _ _ rfl B6 v4 ⟨bb, ob, none⟩ bl bp c.busy E6 rfl rfl (h2.below b) Hpos.out ?_
                                intro g cap' v5 hG hbg hbo' hgo hbel
                                have I3 := I2.off E6 hbo' hgo
                                have hgx : g ≠ Bx := by have h5 := R11.ne E6; have h6 := (R11.facts).2.2.2.2; rcases hgo with q | q <;> omega
                                replace R11 := R11.butOne E6 hbo'
                                replace b := hbel _ _ hB6 b
                                have hg4 : w4.heap.size ≤ g := Nat.le_trans hB6 hbg
                                clear I2 E6 hbo' hgo hbel hbg
                                refine hK.out _ _ (HS.out _ b) (fun hH => ?_)
                                clear hK
                                refine wpAnyH_take (i := 10) (v := .agg #[.slice ra2 rl2 rc2, .slice (some ⟨g, 0, none⟩) bl cap']) rfl (by kernel_rfl) (by kernel_rfl) (by kernel_rfl) (fun _ _ _ h => h) (.inl ⟨by rfl, fun w' hS' => by first | (go_simp; done) | (go_simp; rfl) | (go_simp; intro h; omega) | (go_simp; omega)⟩) hH ?_
                                simp only [List.getElem_toArray, List.getElem_cons_succ, List.getElem_cons_zero, Act.put, List.setIfInBounds_toArray, List.set_cons_zero, List.set_cons_succ]
                                refine wpAnyH_ready (rs := [12]) (by kernel_rfl) (by simp) ?_
                                refine AllReadyH.cons rfl (fun K hK => ?_) AllReadyH.nil
                                simp only [List.getElem_toArray, List.getElem_cons_succ, List.getElem_cons_zero]
                                obtain ⟨q1, q2, q3, q4, q5⟩ := R11.facts
                                obtain ⟨W9, HW9⟩ : ∃ W9, Hid ((v5.setCell ⟨Bx, 0, none⟩ (.slice ra2 rl2 rc2)).setCell ⟨Bx, 1, none⟩ (.slice (some ⟨g, 0, none⟩) bl cap') = W9) := ⟨_, rfl⟩
                                have hcell := R11.filled HW9.out
                                have e2 : (v5.setCell ⟨Bx, 0, none⟩ (.slice ra2 rl2 rc2)).cell? ⟨Bx, 1, none⟩ = some (.slice none 0 0) := by rw [World.cell?_setCell_other _ _ _ _ (by simp)]; exact q2
                                have I9 := (I3.putS q1 (.slice ra2 rl2 rc2)).putS e2 (.slice (some ⟨g, 0, none⟩) bl cap')
                                have G9 := (hG.set (p := ⟨Bx, 0, none⟩) (fun q => hgx q.symm) (.slice ra2 rl2 rc2)).set (p := ⟨Bx, 1, none⟩) (fun q => hgx q.symm) (.slice (some ⟨g, 0, none⟩) bl cap')
                                have b9 := (b.setCell (p := ⟨Bx, 0, none⟩) hBx (.slice ra2 rl2 rc2)).setCell (p := ⟨Bx, 1, none⟩) hBx (.slice (some ⟨g, 0, none⟩) bl cap')
                                rw [HW9.out] at I9 G9 b9
                                rw [if_pos (by rfl)]
                                go_wp2_with fail
                                rw [HW9.out]
                                refine hK.out _ _ (HS.out _ b9) (fun hH => ?_)
                                refine wpAnyH_done (by kernel_rfl) ?_ _
                                go_wp2_with fail
                                go_meet
                                exact ⟨Bx, ra2, rl2, rc2, g, cap', rfl, hcell, I9, G9, hgx, hg4, hBx, F2, b9⟩
                            · simp only [List.getElem_toArray, List.getElem_cons_succ, List.getElem_cons_zero]
                              have bs := below_new v2 (.cells #[.slice none 0 0, .slice none 0 0] 27)
                              have R11 := resC_new v2
                              obtain ⟨Bx, HBx⟩ : ∃ B, Hid (v2.heap.size = B) := ⟨_, rfl⟩
                              have hBx : w4.heap.size ≤ Bx := by rw [← HBx.out]; exact b.size
                              skip
                              obtain ⟨v3, Hv3⟩ : ∃ v, Hid (v2.alloc (.cells #[.slice none 0 0, .slice none 0 0] 27) = v) := ⟨_, rfl⟩
                              rw [Hv3.out] at bs R11
                              rw [HBx.out] at R11
                              rw [if_pos (by rfl)]
                              go_wp2_with fail
                              rw [Hv3.out, HBx.out]
                              replace I2 := I2.below bs
                              replace b := below_then b bs
                              clear bs Hv3
                              refine hK.out _ _ (HS.out _ b) (fun hH => ?_)
                              clear hK
                              refine wpAnyH_ready (rs := [6]) (by kernel_rfl) (by simp) ?_
                              refine AllReadyH.cons rfl (fun K hK => ?_) AllReadyH.nil
                              simp only [List.getElem_toArray, List.getElem_cons_succ, List.getElem_cons_zero]
                              have bs := below_new v3 (.cells #[] 3)
                              have E6 := lit_new v3
                              obtain ⟨B6, HB6⟩ : ∃ B, Hid (v3.heap.size = B) := ⟨_, rfl⟩
                              have hB6 : w4.heap.size ≤ B6 := by rw [← HB6.out]; exact b.size
                              skip
                              obtain ⟨v4, Hv4⟩ : ∃ v, Hid (v3.alloc (.cells #[] 3) = v) := ⟨_, rfl⟩
                              rw [Hv4.out] at bs E6
                              rw [HB6.out] at E6
                              rw [if_pos (by rfl)]
                              go_wp2_with fail
                              rw [Hv4.out, HB6.out]
                              replace I2 := I2.below bs
                              replace R11 := R11.below bs
                              replace b := below_then b bs
                              clear bs Hv4
                              refine hK.out _ _ (HS.out _ b) (fun hH => ?_)
                              clear hK
                              refine wpAnyH_ready (rs := [9]) (by kernel_rfl) (by simp) ?_
                              refine AllReadyH.cons rfl (fun K hK => ?_) AllReadyH.nil
                              simp only [List.getElem_toArray, List.getElem_cons_succ, List.getElem_cons_zero]
                              refine wpr_append_lit (by rfl) _ _ rfl B6 v4 ⟨bb, ob, none⟩ bl bp c.busy E6 rfl rfl (h2.below b) Hpos.out ?_
                              intro g cap' v5 hG hbg hbo' hgo hbel
                              have I3 := I2.off E6 hbo' hgo
                              have hgx : g ≠ Bx := by have h5 := R11.ne E6; have h6 := (R11.facts).2.2.2.2; rcases hgo with q | q <;> omega
                              replace R11 := R11.butOne E6 hbo'
                              replace b := hbel _ _ hB6 b
                              have hg4 : w4.heap.size ≤ g := Nat.le_trans hB6 hbg
                              clear I2 E6 hbo' hgo hbel hbg
                              refine hK.out _ _ (HS.out _ b) (fun hH => ?_)
                              clear hK
                              refine wpAnyH_take (i := 10) (v := .agg #[.slice ra2 rl2 rc2, .slice (some ⟨g, 0, none⟩) bl cap']) rfl (by kernel_rfl) (by kernel_rfl) (by kernel_rfl) (fun _ _ _ h => h) (.inl ⟨by rfl, fun w' hS' => by first | (go_simp; done) | (go_simp; rfl) | (go_simp; intro h; omega) | (go_simp; omega)⟩) hH ?_
                              simp only [List.getElem_toArray, List.getElem_cons_succ, List.getElem_cons_zero, Act.put, List.setIfInBounds_toArray, List.set_cons_zero, List.set_cons_succ]
                              refine wpAnyH_ready (rs := [12]) (by kernel_rfl) (by simp) ?_
                              refine AllReadyH.cons rfl (fun K hK => ?_) AllReadyH.nil
                              simp only [List.getElem_toArray, List.getElem_cons_succ, List.getElem_cons_zero]
                              obtain ⟨q1, q2, q3, q4, q5⟩ := R11.facts
                              obtain ⟨W9, HW9⟩ : ∃ W9, Hid ((v5.setCell ⟨Bx, 0, none⟩ (.slice ra2 rl2 rc2)).setCell ⟨Bx, 1, none⟩ (.slice (some ⟨g, 0, none⟩) bl cap') = W9) := ⟨_, rfl⟩
                              have hcell := R11.filled HW9.out
                              have e2 : (v5.setCell ⟨Bx, 0, none⟩ (.slice ra2 rl2 rc2)).cell? ⟨Bx, 1, none⟩ = some (.slice none 0 0) := by rw [World.cell?_setCell_other _ _ _ _ (by simp)]; exact q2
                              have I9 := (I3.putS q1 (.slice ra2 rl2 rc2)).putS e2 (.slice (some ⟨g, 0, none⟩) bl cap')
                              have G9 := (hG.set (p := ⟨Bx, 0, none⟩) (fun q => hgx q.symm) (.slice ra2 rl2 rc2)).set (p := ⟨Bx, 1, none⟩) (fun q => hgx q.symm) (.slice (some ⟨g, 0, none⟩) bl cap')
                              have b9 := (b.setCell (p := ⟨Bx, 0, none⟩) hBx (.slice ra2 rl2 rc2)).setCell (p := ⟨Bx, 1, none⟩) hBx (.slice (some ⟨g, 0, none⟩) bl cap')
                              rw [HW9.out] at I9 G9 b9
                              rw [if_pos (by rfl)]
                              go_wp2_with fail
                              rw [HW9.out]
                              refine hK.out _ _ (HS.out _ b9) (fun hH => ?_)
                              refine wpAnyH_done (by kernel_rfl) ?_ _
                              go_wp2_with fail
                              go_meet
                              exact ⟨Bx, ra2, rl2, rc2, g, cap', rfl, hcell, I9, G9, hgx, hg4, hBx, F2, b9⟩
                          · simp only [List.getElem_toArray, List.getElem_cons_succ, List.getElem_cons_zero]
                            have bs := below_new v1 (.cells #[] 3)
                            have E6 := lit_new v1
                            obtain ⟨B6, HB6⟩ : ∃ B, Hid (v1.heap.size = B) := ⟨_, rfl⟩
                            have hB6 : w4.heap.size ≤ B6 := by rw [← HB6.out]; exact b.size
                            skip
                            obtain ⟨v2, Hv2⟩ : ∃ v, Hid (v1.alloc (.cells #[] 3) = v) := ⟨_, rfl⟩
                            rw [Hv2.out] at bs E6
                            rw [HB6.out] at E6
                            rw [if_pos (by rfl)]
                            go_wp2_with fail
                            rw [Hv2.out, HB6.out]
                            replace I1 := I1.below bs
                            replace b := below_then b bs
                            clear bs Hv2
                            refine hK.out _ _ (HS.out _ b) (fun hH => ?_)
                            clear hK
                            refine wpAnyH_ready (rs := [5, 11]) (by kernel_rfl) (by simp) ?_
                            refine (AllReadyH.cons rfl (fun K hK => ?_) (AllReadyH.cons rfl (fun K hK => ?_) AllReadyH.nil))
                            · simp only [List.getElem_toArray, List.getElem_cons_succ, List.getElem_cons_zero]
                              rw [if_pos (by rfl)]
                              go_wp2_with fail
                              refine (amix_from 1 (.inl rfl) _ _ (subL c.mark TK) GV v2 (by exact I1) (by exact hGv.below b) HrS.out HrG.out).mono ?_
                              rintro e v3 ⟨r2, rfl, I2, F2, bs⟩
                              replace F2 := F2.mono (Nat.le_trans c0.size b.size)
                              rw [mix_one] at I2
                              replace I2 : Ints v3 r2 (addL (subL c.mark TK) GV) := I2
                              obtain ⟨ra2, rl2, rc2, rfl, _⟩ := id I2
                              clear I1
                              replace E6 := E6.below bs
                              replace b := below_then b bs
                              clear bs
                              refine hK.out _ _ (HS.out _ b) (fun hH => ?_)
                              clear hK
                              refine wpAnyH_ready (rs := [9, 11]) (by kernel_rfl) (by simp) ?_
                              refine (AllReadyH.cons rfl (fun K hK => ?_) (AllReadyH.cons rfl (fun K hK => ?_) AllReadyH.nil))
                              · simp only [List.getElem_toArray, List.getElem_cons_succ, List.getElem_cons_zero]
                                refine wpr_append_lit (by rfl) _ _ rfl B6 v3 ⟨bb, ob, none⟩ bl bp c.busy E6 rfl rfl (h2.below b) Hpos.out ?_
                                intro g cap' v4 hG hbg hbo' hgo hbel
                                have I3 := I2.off E6 hbo' hgo
                                skip
                                replace b := hbel _ _ hB6 b
                                have hg4 : w4.heap.size ≤ g := Nat.le_trans hB6 hbg
                                clear I2 E6 hbo' hgo hbel hbg
                                refine hK.out _ _ (HS.out _ b) (fun hH => ?_)
                                clear hK
                                refine wpAnyH_take (i := 10) (v := .agg #[.slice ra2 rl2 rc2, .slice (some ⟨g, 0, none⟩) bl cap']) rfl (by kernel_rfl) (by kernel_rfl) (by kernel_rfl) (fun _ _ _ h => h) (.inl ⟨by rfl, fun w' hS' => by first | (go_simp; done) | (go_simp; rfl) | (go_simp; intro h; omega) | (go_simp; omega)⟩) hH ?_
                                simp only [List.getElem_toArray, List.getElem_cons_succ, List.getElem_cons_zero, Act.put, List.setIfInBounds_toArray, List.set_cons_zero, List.set_cons_succ]
                                refine wpAnyH_ready (rs := [11]) (by kernel_rfl) (by simp) ?_
                                refine AllReadyH.cons rfl (fun K hK => ?_) AllReadyH.nil
                                simp only [List.getElem_toArray, List.getElem_cons_succ, List.getElem_cons_zero]
                                have bs := below_new v4 (.cells #[.slice none 0 0, .slice none 0 0] 27)
                                have R11 := resC_new v4
                                obtain ⟨Bx, HBx⟩ : ∃ B, Hid (v4.heap.size = B) := ⟨_, rfl⟩
                                have hBx : w4.heap.size ≤ Bx := by rw [← HBx.out]; exact b.size
                                have hgx : g ≠ Bx := by have := hG.lt; have := HBx.out; omega
                                obtain ⟨v5, Hv5⟩ : ∃ v, Hid (v4.alloc (.cells #[.slice none 0 0, .slice none 0 0] 27) = v) := ⟨_, rfl⟩
                                rw [Hv5.out] at bs R11
                                rw [HBx.out] at R11
                                rw [if_pos (by rfl)]
                                go_wp2_with fail
                                rw [Hv5.out, HBx.out]
                                replace I3 := I3.below bs
                                replace hG := hG.below bs
                                replace b := below_then b bs
                                clear bs Hv5
                                refine hK.out _ _ (HS.out _ b) (fun hH => ?_)
                                clear hK
                                refine wpAnyH_ready (rs := [12]) (by kernel_rfl) (by simp) ?_
                                refine AllReadyH.cons rfl (fun K hK => ?_) AllReadyH.nil
                                simp only [List.getElem_toArray, List.getElem_cons_succ, List.getElem_cons_zero]
                                obtain ⟨q1, q2, q3, q4, q5⟩ := R11.facts
                                obtain ⟨W9, HW9⟩ : ∃ W9, Hid ((v5.setCell ⟨Bx, 0, none⟩ (.slice ra2 rl2 rc2)).setCell ⟨Bx, 1, none⟩ (.slice (some ⟨g, 0, none⟩) bl cap') = W9) := ⟨_, rfl⟩
                                have hcell := R11.filled HW9.out
                                have e2 : (v5.setCell ⟨Bx, 0, none⟩ (.slice ra2 rl2 rc2)).cell? ⟨Bx, 1, none⟩ = some (.slice none 0 0) := by rw [World.cell?_setCell_other _ _ _ _ (by simp)]; exact q2
                                have I9 := (I3.putS q1 (.slice ra2 rl2 rc2)).putS e2 (.slice (some ⟨g, 0, none⟩) bl cap')
                                have G9 := (hG.set (p := ⟨Bx, 0, none⟩) (fun q => hgx q.symm) (.slice ra2 rl2 rc2)).set (p := ⟨Bx, 1, none⟩) (fun q => hgx q.symm) (.slice (some ⟨g, 0, none⟩) bl cap')
                                have b9 := (b.setCell (p := ⟨Bx, 0, none⟩) hBx (.slice ra2 rl2 rc2)).setCell (p := ⟨Bx, 1, none⟩) hBx (.slice (some ⟨g, 0, none⟩) bl cap')
                                rw [HW9.out] at I9 G9 b9
                                rw [if_pos (by rfl)]
                                go_wp2_with fail
                                rw [HW9.out]
                                refine hK.out _ _ (HS.out _ b9) (fun hH => ?_)
                                refine wpAnyH_done (by kernel_rfl) ?_ _
                                go_wp2_with fail
                                go_meet
                                exact ⟨Bx, ra2, rl2, rc2, g, cap', rfl, hcell, I9, G9, hgx, hg4, hBx, F2, b9⟩
                              · simp only [List.getElem_toArray, List.getElem_cons_succ, List.getElem_cons_zero]
                                have bs := below_new v3 (.cells #[.slice none 0 0, .slice none 0 0] 27)
                                have R11 := resC_new v3
                                obtain ⟨Bx, HBx⟩ : ∃ B, Hid (v3.heap.size = B) := ⟨_, rfl⟩
                                have hBx : w4.heap.size ≤ Bx := by rw [← HBx.out]; exact b.size
                                skip
                                obtain ⟨v4, Hv4⟩ : ∃ v, Hid (v3.alloc (.cells #[.slice none 0 0, .slice none 0 0] 27) = v) := ⟨_, rfl⟩
                                rw [Hv4.out] at bs R11
                                rw [HBx.out] at R11
                                rw [if_pos (by rfl)]
                                go_wp2_with fail
                                rw [Hv4.out, HBx.out]
                                replace I2 := I2.below bs
                                replace E6 := E6.below bs
                                replace b := below_then b bs
                                clear bs Hv4
                                refine hK.out _ _ (HS.out _ b) (fun hH => ?_)
                                clear hK
                                refine wpAnyH_ready (rs := [9]) (by kernel_rfl) (by simp) ?_
                                refine AllReadyH.cons rfl (fun K hK => ?_) AllReadyH.nil
                                simp only [List.getElem_toArray, List.getElem_cons_succ, List.getElem_cons_zero]
                                refine wpr_append_lit (by rfl) _ _ rfl B6 v4 ⟨bb, ob, none⟩ bl bp c.busy E6 rfl rfl (h2.below b) Hpos.out ?_
                                intro g cap' v5 hG hbg hbo' hgo hbel
                                have I3 := I2.off E6 hbo' hgo
                                have hgx : g ≠ Bx := by have h5 := R11.ne E6; have h6 := (R11.facts).2.2.2.2; rcases hgo with q | q <;> omega
                                replace R11 := R11.butOne E6 hbo'
                                replace b := hbel _ _ hB6 b
                                have hg4 : w4.heap.size ≤ g := Nat.le_trans hB6 hbg
                                clear I2 E6 hbo' hgo hbel hbg
                                refine hK.out _ _ (HS.out _ b) (fun hH => ?_)
                                clear hK
                                refine wpAnyH_take (i := 10) (v := .agg #[.slice ra2 rl2 rc2, .slice (some ⟨g, 0, none⟩) bl cap']) rfl (by kernel_rfl) (by kernel_rfl) (by kernel_rfl) (fun _ _ _ h => h) (.inl ⟨by rfl, fun w' hS' => by first | (go_simp; done) | (go_simp; rfl) | (go_simp; intro h; omega) | (go_simp; omega)⟩) hH ?_
                                simp only [List.getElem_toArray, List.getElem_cons_succ, List.getElem_cons_zero, Act.put, List.setIfInBounds_toArray, List.set_cons_zero, List.set_cons_succ]
                                refine wpAnyH_ready (rs := [12]) (by kernel_rfl) (by simp) ?_
                                refine AllReadyH.cons rfl (fun K hK => ?_) AllReadyH.nil
                                simp only [List.getElem_toArray, List.getElem_cons_succ, List.getElem_cons_zero]
                                obtain ⟨q1, q2, q3, q4, q5⟩ := R11.facts
                                obtain ⟨W9, HW9⟩ : ∃ W9, Hid ((v5.setCell ⟨Bx, 0, none⟩ (.slice ra2 rl2 rc2)).setCell ⟨Bx, 1, none⟩ (.slice (some ⟨g, 0, none⟩) bl cap') = W9) := ⟨_, rfl⟩
                                have hcell := R11.filled HW9.out
                                have e2 : (v5.setCell ⟨Bx, 0, none⟩ (.slice ra2 rl2 rc2)).cell? ⟨Bx, 1, none⟩ = some (.slice none 0 0) := by rw [World.cell?_setCell_other _ _ _ _ (by simp)]; exact q2
                                have I9 := (I3.putS q1 (.slice ra2 rl2 rc2)).putS e2 (.slice (some ⟨g, 0, none⟩) bl cap')
                                have G9 := (hG.set (p := ⟨Bx, 0, none⟩) (fun q => hgx q.symm) (.slice ra2 rl2 rc2)).set (p := ⟨Bx, 1, none⟩) (fun q => hgx q.symm) (.slice (some ⟨g, 0, none⟩) bl cap')
                                have b9 := (b.setCell (p := ⟨Bx, 0, none⟩) hBx (.slice ra2 rl2 rc2)).setCell (p := ⟨Bx, 1, none⟩) hBx (.slice (some ⟨g, 0, none⟩) bl cap')
                                rw [HW9.out] at I9 G9 b9
                                rw [if_pos (by rfl)]
                                go_wp2_with fail
                                rw [HW9.out]
                                refine hK.out _ _ (HS.out _ b9) (fun hH => ?_)
                                refine wpAnyH_done (by kernel_rfl) ?_ _
                                go_wp2_with fail
                                go_meet
                                exact ⟨Bx, ra2, rl2, rc2, g, cap', rfl, hcell, I9, G9, hgx, hg4, hBx, F2, b9⟩
                            · simp only [List.getElem_toArray, List.getElem_cons_succ, List.getElem_cons_zero]
                              have bs := below_new v2 (.cells #[.slice none 0 0, .slice none 0 0] 27)
                              have R11 := resC_new v2
                              obtain ⟨Bx, HBx⟩ : ∃ B, Hid (v2.heap.size = B) := ⟨_, rfl⟩
                              have hBx : w4.heap.size ≤ Bx := by rw [← HBx.out]; exact b.size
                              skip
                              obtain ⟨v3, Hv3⟩ : ∃ v, Hid (v2.alloc (.cells #[.slice none 0 0, .slice none 0 0] 27) = v) := ⟨_, rfl⟩
                              rw [Hv3.out] at bs R11
                              rw [HBx.out] at R11
                              rw [if_pos (by rfl)]
                              go_wp2_with fail
                              rw [Hv3.out, HBx.out]
                              replace I1 := I1.below bs
                              replace E6 := E6.below bs
                              replace b := below_then b bs
                              clear bs Hv3
                              refine hK.out _ _ (HS.out _ b) (fun hH => ?_)
                              clear hK
                              refine wpAnyH_ready (rs := [5]) (by kernel_rfl) (by simp) ?_
                              refine AllReadyH.cons rfl (fun K hK => ?_) AllReadyH.nil
                              simp only [List.getElem_toArray, List.getElem_cons_succ, List.getElem_cons_zero]
                              rw [if_pos (by rfl)]
                              go_wp2_with fail
                              refine (amix_from 1 (.inl rfl) _ _ (subL c.mark TK) GV v3 (by exact I1) (by exact hGv.below b) HrS.out HrG.out).mono ?_
                              rintro e v4 ⟨r2, rfl, I2, F2, bs⟩
                              replace F2 := F2.mono (Nat.le_trans c0.size b.size)
                              rw [mix_one] at I2
                              replace I2 : Ints v4 r2 (addL (subL c.mark TK) GV) := I2
                              obtain ⟨ra2, rl2, rc2, rfl, _⟩ := id I2
                              clear I1
                              replace E6 := E6.below bs
                              replace R11 := R11.below bs
                              replace b := below_then b bs
                              clear bs
                              refine hK.out _ _ (HS.out _ b) (fun hH => ?_)
                              clear hK
                              refine wpAnyH_ready (rs := [9]) (by kernel_rfl) (by simp) ?_
                              refine AllReadyH.cons rfl (fun K hK => ?_) AllReadyH.nil
                              simp only [List.getElem_toArray, List.getElem_cons_succ, List.getElem_cons_zero]
                              refine wpr_append_lit (by rfl) _ _ rfl B6 v4 ⟨bb, ob, none⟩ bl bp c.busy E6 rfl rfl (h2.below b) Hpos.out ?_
                              intro g cap' v5 hG hbg hbo' hgo hbel
                              have I3 := I2.off E6 hbo' hgo
                              have hgx : g ≠ Bx := by have h5 := R11.ne E6; have h6 := (R11.facts).2.2.2.2; rcases hgo with q | q <;> omega
                              replace R11 := R11.butOne E6 hbo'
                              replace b := hbel _ _ hB6 b
                              have hg4 : w4.heap.size ≤ g := Nat.le_trans hB6 hbg
                              clear I2 E6 hbo' hgo hbel hbg
                              refine hK.out _ _ (HS.out _ b) (fun hH => ?_)
                              clear hK
                              refine wpAnyH_take (i := 10) (v := .agg #[.slice ra2 rl2 rc2, .slice (some ⟨g, 0, none⟩) bl cap']) rfl (by kernel_rfl) (by kernel_rfl) (by kernel_rfl) (fun _ _ _ h => h) (.inl ⟨by rfl, fun w' hS' => by first | (go_simp; done) | (go_simp; rfl) | (go_simp; intro h; omega) | (go_simp; omega)⟩) hH ?_
                              simp only [List.getElem_toArray, List.getElem_cons_succ, List.getElem_cons_zero, Act.put, List.setIfInBounds_toArray, List.set_cons_zero, List.set_cons_succ]
                              refine wpAnyH_ready (rs := [12]) (by kernel_rfl) (by simp) ?_
                              refine AllReadyH.cons rfl (fun K hK => ?_) AllReadyH.nil
                              simp only [List.getElem_toArray, List.getElem_cons_succ, List.getElem_cons_zero]
                              obtain ⟨q1, q2, q3, q4, q5⟩ := R11.facts
                              obtain ⟨W9, HW9⟩ : ∃ W9, Hid ((v5.setCell ⟨Bx, 0, none⟩ (.slice ra2 rl2 rc2)).setCell ⟨Bx, 1, none⟩ (.slice (some ⟨g, 0, none⟩) bl cap') = W9) := ⟨_, rfl⟩
                              have hcell := R11.filled HW9.out
                              have e2 : (v5.setCell ⟨Bx, 0, none⟩ (.slice ra2 rl2 rc2)).cell? ⟨Bx, 1, none⟩ = some (.slice none 0 0) := by rw [World.cell?_setCell_other _ _ _ _ (by simp)]; exact q2
                              have I9 := (I3.putS q1 (.slice ra2 rl2 rc2)).putS e2 (.slice (some ⟨g, 0, none⟩) bl cap')
                              have G9 := (hG.set (p := ⟨Bx, 0, none⟩) (fun q => hgx q.symm) (.slice ra2 rl2 rc2)).set (p := ⟨Bx, 1, none⟩) (fun q => hgx q.symm) (.slice (some ⟨g, 0, none⟩) bl cap')
                              have b9 := (b.setCell (p := ⟨Bx, 0, none⟩) hBx (.slice ra2 rl2 rc2)).setCell (p := ⟨Bx, 1, none⟩) hBx (.slice (some ⟨g, 0, none⟩) bl cap')
                              rw [HW9.out] at I9 G9 b9
                              rw [if_pos (by rfl)]
                              go_wp2_with fail
                              rw [HW9.out]
                              refine hK.out _ _ (HS.out _ b9) (fun hH => ?_)
                              refine wpAnyH_done (by kernel_rfl) ?_ _
                              go_wp2_with fail
                              go_meet
                              exact ⟨Bx, ra2, rl2, rc2, g, cap', rfl, hcell, I9, G9, hgx, hg4, hBx, F2, b9⟩
                          · simp only [List.getElem_toArray, List.getElem_cons_succ, List.getElem_cons_zero]
                            have bs := below_new v1 (.cells #[.slice none 0 0, .slice none 0 0] 27)
                            have R11 := resC_new v1
                            obtain ⟨Bx, HBx⟩ : ∃ B, Hid (v1.heap.size = B) := ⟨_, rfl⟩
                            have hBx : w4.heap.size ≤ Bx := by rw [← HBx.out]; exact b.size
                            skip
                            obtain ⟨v2, Hv2⟩ : ∃ v, Hid (v1.alloc (.cells #[.slice none 0 0, .slice none 0 0] 27) = v) := ⟨_, rfl⟩
                            rw [Hv2.out] at bs R11
                            rw [HBx.out] at R11
                            rw [if_pos (by rfl)]
                            go_wp2_with fail
                            rw [Hv2.out, HBx.out]
                            replace I1 := I1.below bs
                            replace b := below_then b bs
                            clear bs Hv2
                            refine hK.out _ _ (HS.out _ b) (fun hH => ?_)
                            clear hK
                            refine wpAnyH_ready (rs := [5, 6]) (by kernel_rfl) (by simp) ?_
                            refine (AllReadyH.cons rfl (fun K hK => ?_) (AllReadyH.cons rfl (fun K hK => ?_) AllReadyH.nil))
                            · simp only [List.getElem_toArray, List.getElem_cons_succ, List.getElem_cons_zero]
                              rw [if_pos (by rfl)]
                              go_wp2_with fail
                              refine (amix_from 1 (.inl rfl) _ _ (subL c.mark TK) GV v2 (by exact I1) (by exact hGv.below b) HrS.out HrG.out).mono ?_
                              rintro e v3 ⟨r2, rfl, I2, F2, bs⟩
                              replace F2 := F2.mono (Nat.le_trans c0.size b.size)
                              rw [mix_one] at I2
                              replace I2 : Ints v3 r2 (addL (subL c.mark TK) GV) := I2
                              obtain ⟨ra2, rl2, rc2, rfl, _⟩ := id I2
                              clear I1
                              replace R11 := R11.below bs
                              replace b := below_then b bs
                              clear bs
                              refine hK.out _ _ (HS.out _ b) (fun hH => ?_)
                              clear hK
                              refine wpAnyH_ready (rs := [6]) (by kernel_rfl) (by simp) ?_
                              refine AllReadyH.cons rfl (fun K hK => ?_) AllReadyH.nil
                              simp only [List.getElem_toArray, List.getElem_cons_succ, List.getElem_cons_zero]
                              have bs := below_new v3 (.cells #[] 3)
                              have E6 := lit_new v3
                              obtain ⟨B6, HB6⟩ : ∃ B, Hid (v3.heap.size = B) := ⟨_, rfl⟩
                              have hB6 : w4.heap.size ≤ B6 := by rw [← HB6.out]; exact b.size
                              skip
                              obtain ⟨v4, Hv4⟩ : ∃ v, Hid (v3.alloc (.cells #[] 3) = v) := ⟨_, rfl⟩
                              rw [Hv4.out] at bs E6
                              rw [HB6.out] at E6
                              rw [if_pos (by rfl)]
                              go_wp2_with fail
                              rw [Hv4.out, HB6.out]
                              replace I2 := I2.below bs
                              replace R11 := R11.below bs
                              replace b := below_then b bs
                              clear bs Hv4
                              refine hK.out _ _ (HS.out _ b) (fun hH => ?_)
                              clear hK
                              refine wpAnyH_ready (rs := [9]) (by kernel_rfl) (by simp) ?_
                              refine AllReadyH.cons rfl (fun K hK => ?_) AllReadyH.nil
                              simp only [List.getElem_toArray, List.getElem_cons_succ, List.getElem_cons_zero]
                              refine wpr_append_lit (by rfl) _ _ rfl B6 v4 ⟨bb, ob, none⟩ bl bp c.busy E6 rfl rfl (h2.below b) Hpos.out ?_
                              intro g cap' v5 hG hbg hbo' hgo hbel
                              have I3 := I2.off E6 hbo' hgo
                              have hgx : g ≠ Bx := by have h5 := R11.ne E6; have h6 := (R11.facts).2.2.2.2; rcases hgo with q | q <;> omega
                              replace R11 := R11.butOne E6 hbo'
                              replace b := hbel _ _ hB6 b
                              have hg4 : w4.heap.size ≤ g := Nat.le_trans hB6 hbg
                              clear I2 E6 hbo' hgo hbel hbg
                              refine hK.out _ _ (HS.out _ b) (fun hH => ?_)
                              clear hK
                              refine wpAnyH_take (i := 10) (v := .agg #[.slice ra2 rl2 rc2, .slice (some ⟨g, 0, none⟩) bl cap']) rfl (by kernel_rfl) (by kernel_rfl) (by kernel_rfl) (fun _ _ _ h => h) (.inl ⟨by rfl, fun w' hS' => by first | (go_simp; done) | (go_simp; rfl) | (go_simp; intro h; omega) | (go_simp; omega)⟩) hH ?_
                              simp only [List.getElem_toArray, List.getElem_cons_succ, List.getElem_cons_zero, Act.put, List.setIfInBounds_toArray, List.set_cons_zero, List.set_cons_succ]
                              refine wpAnyH_ready (rs := [12]) (by kernel_rfl) (by simp) ?_
                              refine AllReadyH.cons rfl (fun K hK => ?_) AllReadyH.nil
                              simp only [List.getElem_toArray, List.getElem_cons_succ, List.getElem_cons_zero]
                              obtain ⟨q1, q2, q3, q4, q5⟩ := R11.facts
                              obtain ⟨W9, HW9⟩ : ∃ W9, Hid ((v5.setCell ⟨Bx, 0, none⟩ (.slice ra2 rl2 rc2)).setCell ⟨Bx, 1, none⟩ (.slice (some ⟨g, 0, none⟩) bl cap') = W9) := ⟨_, rfl⟩
                              have hcell := R11.filled HW9.out
                              have e2 : (v5.setCell ⟨Bx, 0, none⟩ (.slice ra2 rl2 rc2)).cell? ⟨Bx, 1, none⟩ = some (.slice none 0 0) := by rw [World.cell?_setCell_other _ _ _ _ (by simp)]; exact q2
                              have I9 := (I3.putS q1 (.slice ra2 rl2 rc2)).putS e2 (.slice (some ⟨g, 0, none⟩) bl cap')
                              have G9 := (hG.set (p := ⟨Bx, 0, none⟩) (fun q => hgx q.symm) (.slice ra2 rl2 rc2)).set (p := ⟨Bx, 1, none⟩) (fun q => hgx q.symm) (.slice (some ⟨g, 0, none⟩) bl cap')
                              have b9 := (b.setCell (p := ⟨Bx, 0, none⟩) hBx (.slice ra2 rl2 rc2)).setCell (p := ⟨Bx, 1, none⟩) hBx (.slice (some ⟨g, 0, none⟩) bl cap')
                              rw [HW9.out] at I9 G9 b9
                              rw [if_pos (by rfl)]
                              go_wp2_with fail
                              rw [HW9.out]
                              refine hK.out _ _ (HS.out _ b9) (fun hH => ?_)
                              refine wpAnyH_done (by kernel_rfl) ?_ _
                              go_wp2_with fail
                              go_meet
                              exact ⟨Bx, ra2, rl2, rc2, g, cap', rfl, hcell, I9, G9, hgx, hg4, hBx, F2, b9⟩
                            · simp only [List.getElem_toArray, List.getElem_cons_succ, List.getElem_cons_zero]
                              have bs := below_new v2 (.cells #[] 3)
                              have E6 := lit_new v2
                              obtain ⟨B6, HB6⟩ : ∃ B, Hid (v2.heap.size = B) := ⟨_, rfl⟩
                              have hB6 : w4.heap.size ≤ B6 := by rw [← HB6.out]; exact b.size
                              skip
                              obtain ⟨v3, Hv3⟩ : ∃ v, Hid (v2.alloc (.cells #[] 3) = v) := ⟨_, rfl⟩
                              rw [Hv3.out] at bs E6
                              rw [HB6.out] at E6
                              rw [if_pos (by rfl)]
                              go_wp2_with fail
                              rw [Hv3.out, HB6.out]
                              replace I1 := I1.below bs
                              replace R11 := R11.below bs
                              replace b := below_then b bs
                              clear bs Hv3
                              refine hK.out _ _ (HS.out _ b) (fun hH => ?_)
                              clear hK
                              refine wpAnyH_ready (rs := [5]) (by kernel_rfl) (by simp) ?_
                              refine AllReadyH.cons rfl (fun K hK => ?_) AllReadyH.nil
                              simp only [List.getElem_toArray, List.getElem_cons_succ, List.getElem_cons_zero]
                              rw [if_pos (by rfl)]
                              go_wp2_with fail
                              refine (amix_from 1 (.inl rfl) _ _ (subL c.mark TK) GV v3 (by exact I1) (by exact hGv.below b) HrS.out HrG.out).mono ?_
                              rintro e v4 ⟨r2, rfl, I2, F2, bs⟩
                              replace F2 := F2.mono (Nat.le_trans c0.size b.size)
                              rw [mix_one] at I2
                              replace I2 : Ints v4 r2 (addL (subL c.mark TK) GV) := I2
                              obtain ⟨ra2, rl2, rc2, rfl, _⟩ := id I2
                              clear I1
                              replace E6 := E6.below bs
                              replace R11 := R11.below bs
                              replace b := below_then b bs
                              clear bs
                              refine hK.out _ _ (HS.out _ b) (fun hH => ?_)
                              clear hK
                              refine wpAnyH_ready (rs := [9]) (by kernel_rfl) (by simp) ?_
                              refine AllReadyH.cons rfl (fun K hK => ?_) AllReadyH.nil
                              simp only [List.getElem_toArray, List.getElem_cons_succ, List.getElem_cons_zero]
                              refine wpr_append_lit (by rfl) _ _ rfl B6 v4 ⟨bb, ob, none⟩ bl bp c.busy E6 rfl rfl (h2.below b) Hpos.out ?_
                              intro g cap' v5 hG hbg hbo' hgo hbel
                              have I3 := I2.off E6 hbo' hgo
                              have hgx : g ≠ Bx := by have h5 := R11.ne E6; have h6 := (R11.facts).2.2.2.2; rcases hgo with q | q <;> omega
                              replace R11 := R11.butOne E6 hbo'
                              replace b := hbel _ _ hB6 b
                              have hg4 : w4.heap.size ≤ g := Nat.le_trans hB6 hbg
                              clear I2 E6 hbo' hgo hbel hbg
                              refine hK.out _ _ (HS.out _ b) (fun hH => ?_)
                              clear hK
                              refine wpAnyH_take (i := 10) (v := .agg #[.slice ra2 rl2 rc2, .slice (some ⟨g, 0, none⟩) bl cap']) rfl (by kernel_rfl) (by kernel_rfl) (by kernel_rfl) (fun _ _ _ h => h) (.inl ⟨by rfl, fun w' hS' => by first | (go_simp; done) | (go_simp; rfl) | (go_simp; intro h; omega) | (go_simp; omega)⟩) hH ?_
                              simp only [List.getElem_toArray, List.getElem_cons_succ, List.getElem_cons_zero, Act.put, List.setIfInBounds_toArray, List.set_cons_zero, List.set_cons_succ]
                              refine wpAnyH_ready (rs := [12]) (by kernel_rfl) (by simp) ?_
                              refine AllReadyH.cons rfl (fun K hK => ?_) AllReadyH.nil
                              simp only [List.getElem_toArray, List.getElem_cons_succ, List.getElem_cons_zero]
                              obtain ⟨q1, q2, q3, q4, q5⟩ := R11.facts
                              obtain ⟨W9, HW9⟩ : ∃ W9, Hid ((v5.setCell ⟨Bx, 0, none⟩ (.slice ra2 rl2 rc2)).setCell ⟨Bx, 1, none⟩ (.slice (some ⟨g, 0, none⟩) bl cap') = W9) := ⟨_, rfl⟩
                              have hcell := R11.filled HW9.out
                              have e2 : (v5.setCell ⟨Bx, 0, none⟩ (.slice ra2 rl2 rc2)).cell? ⟨Bx, 1, none⟩ = some (.slice none 0 0) := by rw [World.cell?_setCell_other _ _ _ _ (by simp)]; exact q2
                              have I9 := (I3.putS q1 (.slice ra2 rl2 rc2)).putS e2 (.slice (some ⟨g, 0, none⟩) bl cap')
                              have G9 := (hG.set (p := ⟨Bx, 0, none⟩) (fun q => hgx q.symm) (.slice ra2 rl2 rc2)).set (p := ⟨Bx, 1, none⟩) (fun q => hgx q.symm) (.slice (some ⟨g, 0, none⟩) bl cap')
                              have b9 := (b.setCell (p := ⟨Bx, 0, none⟩) hBx (.slice ra2 rl2 rc2)).setCell (p := ⟨Bx, 1, none⟩) hBx (.slice (some ⟨g, 0, none⟩) bl cap')
                              rw [HW9.out] at I9 G9 b9
                              rw [if_pos (by rfl)]
                              go_wp2_with fail
                              rw [HW9.out]
                              refine hK.out _ _ (HS.out _ b9) (fun hH => ?_)
                              refine wpAnyH_done (by kernel_rfl) ?_ _
                              go_wp2_with fail
                              go_meet
                              exact ⟨Bx, ra2, rl2, rc2, g, cap', rfl, hcell, I9, G9, hgx, hg4, hBx, F2, b9⟩
                        · simp only [List.getElem_toArray, List.getElem_cons_succ, List.getElem_cons_zero]
                          have bs := below_new v0 (.cells #[] 3)
                          have E6 := lit_new v0
                          obtain ⟨B6, HB6⟩ : ∃ B, Hid (v0.heap.size = B) := ⟨_, rfl⟩
                          have hB6 : w4.heap.size ≤ B6 := by rw [← HB6.out]; exact b.size
                          skip
                          obtain ⟨v1, Hv1⟩ : ∃ v, Hid (v0.alloc (.cells #[] 3) = v) := ⟨_, rfl⟩
                          rw [Hv1.out] at bs E6
                          rw [HB6.out] at E6
                          rw [if_pos (by rfl)]
                          go_wp2_with fail
                          rw [Hv1.out, HB6.out]
                          replace b := below_then b bs
                          clear bs Hv1
                          refine hK.out _ _ (HS.out _ b) (fun hH => ?_)
                          clear hK
                          refine wpAnyH_ready (rs := [3, 11]) (by kernel_rfl) (by simp) ?_
                          refine (AllReadyH.cons rfl (fun K hK => ?_) (AllReadyH.cons rfl (fun K hK => ?_) AllReadyH.nil))
                          · simp only [List.getElem_toArray, List.getElem_cons_succ, List.getElem_cons_zero]
                            rw [if_pos (by rfl)]
                            go_wp2_with fail
                            refine (amix_any (-1) (.inr rfl) _ _ c.mark TK v1 (by exact h1.below b) (by exact hTk.below b) Hrm.out HrT.out).mono ?_
                            rintro e v2 ⟨r1, rfl, I1, bs⟩
                            rw [mix_less] at I1
                            replace I1 : Ints v2 r1 (subL c.mark TK) := I1
                            obtain ⟨ra1, rl1, rc1, rfl, _⟩ := id I1
                            replace E6 := E6.below bs
                            replace b := below_then b bs
                            clear bs
                            refine hK.out _ _ (HS.out _ b) (fun hH => ?_)
                            clear hK
                            refine wpAnyH_ready (rs := [5, 11]) (by kernel_rfl) (by simp) ?_
                            refine (AllReadyH.cons rfl (fun K hK => ?_) (AllReadyH.cons rfl (fun K hK => ?_) AllReadyH.nil))
                            · simp only [List.getElem_toArray, List.getElem_cons_succ, List.getElem_cons_zero]
                              rw [if_pos (by rfl)]
                              go_wp2_with fail
                              refine (amix_from 1 (.inl rfl) _ _ (subL c.mark TK) GV v2 (by exact I1) (by exact hGv.below b) HrS.out HrG.out).mono ?_
                              rintro e v3 ⟨r2, rfl, I2, F2, bs⟩
                              replace F2 := F2.mono (Nat.le_trans c0.size b.size)
                              rw [mix_one] at I2
                              replace I2 : Ints v3 r2 (addL (subL c.mark TK) GV) := I2
                              obtain ⟨ra2, rl2, rc2, rfl, _⟩ := id I2
                              clear I1
                              replace E6 := E6.below bs
                              replace b := below_then b bs
                              clear bs
                              refine hK.out _ _ (HS.out _ b) (fun hH => ?_)
                              clear hK
                              refine wpAnyH_ready (rs := [9, 11]) (by kernel_rfl) (by simp) ?_
                              refine (AllReadyH.cons rfl (fun K hK => ?_) (AllReadyH.cons rfl (fun K hK => ?_) AllReadyH.nil))
                              · simp only [List.getElem_toArray, List.getElem_cons_succ, List.getElem_cons_zero]
                                refine wpr_append_lit (by rfl) _ _ rfl B6 v3 ⟨bb, ob, none⟩ bl bp c.busy E6 rfl rfl (h2.below b) Hpos.out ?_
                                intro g cap' v4 hG hbg hbo' hgo hbel
                                have I3 := I2.off E6 hbo' hgo
                                skip
                                replace b := hbel _ _ hB6 b
                                have hg4 : w4.heap.size ≤ g := Nat.le_trans hB6 hbg
                                clear I2 E6 hbo' hgo hbel hbg
                                refine hK.out _ _ (HS.out _ b) (fun hH => ?_)
                                clear hK
                                refine wpAnyH_take (i := 10) (v := .agg #[.slice ra2 rl2 rc2, .slice (some ⟨g, 0, none⟩) bl cap']) rfl (by kernel_rfl) (by kernel_rfl) (by kernel_rfl) (fun _ _ _ h => h) (.inl ⟨by rfl, fun w' hS' => by first | (go_simp; done) | (go_simp; rfl) | (go_simp; intro h; omega) | (go_simp; omega)⟩) hH ?_
                                simp only [List.getElem_toArray, List.getElem_cons_succ, List.getElem_cons_zero, Act.put, List.setIfInBounds_toArray, List.set_cons_zero, List.set_cons_succ]
                                refine wpAnyH_ready (rs := [11]) (by kernel_rfl) (by simp) ?_
                                refine AllReadyH.cons rfl (fun K hK => ?_) AllReadyH.nil
                                simp only [List.getElem_toArray, List.getElem_cons_succ, List.getElem_cons_zero]
                                have bs := below_new v4 (.cells #[.slice none 0 0, .slice none 0 0] 27)
                                have R11 := resC_new v4
                                obtain ⟨Bx, HBx⟩ : ∃ B, Hid (v4.heap.size = B) := ⟨_, rfl⟩
                                have hBx : w4.heap.size ≤ Bx := by rw [← HBx.out]; exact b.size
                                have hgx : g ≠ Bx := by have := hG.lt; have := HBx.out; omega
                                obtain ⟨v5, Hv5⟩ : ∃ v, Hid (v4.alloc (.cells #[.slice none 0 0, .slice none 0 0] 27) = v) := ⟨_, rfl⟩
                                rw [Hv5.out] at bs R11
                                rw [HBx.out] at R11
                                rw [if_pos (by rfl)]
                                go_wp2_with fail
                                rw [Hv5.out, HBx.out]
                                replace I3 := I3.below bs
                                replace hG := hG.below bs
                                replace b := below_then b bs
                                clear bs Hv5
                                refine hK.out _ _ (HS.out _ b) (fun hH => ?_)
                                clear hK
                                refine wpAnyH_ready (rs := [12]) (by kernel_rfl) (by simp) ?_
                                refine AllReadyH.cons rfl (fun K hK => ?_) AllReadyH.nil
                                simp only [List.getElem_toArray, List.getElem_cons_succ, List.getElem_cons_zero]
                                obtain ⟨q1, q2, q3, q4, q5⟩ := R11.facts
                                obtain ⟨W9, HW9⟩ : ∃ W9, Hid ((v5.setCell ⟨Bx, 0, none⟩ (.slice ra2 rl2 rc2)).setCell ⟨Bx, 1, none⟩ (.slice (some ⟨g, 0, none⟩) bl cap') = W9) := ⟨_, rfl⟩
                                have hcell := R11.filled HW9.out
                                have e2 : (v5.setCell ⟨Bx, 0, none⟩ (.slice ra2 rl2 rc2)).cell? ⟨Bx, 1, none⟩ = some (.slice none 0 0) := by rw [World.cell?_setCell_other _ _ _ _ (by simp)]; exact q2
                                have I9 := (I3.putS q1 (.slice ra2 rl2 rc2)).putS e2 (.slice (some ⟨g, 0, none⟩) bl cap')
                                have G9 := (hG.set (p := ⟨Bx, 0, none⟩) (fun q => hgx q.symm) (.slice ra2 rl2 rc2)).set (p := ⟨Bx, 1, none⟩) (fun q => hgx q.symm) (.slice (some ⟨g, 0, none⟩) bl cap')
                                have b9 := (b.setCell (p := ⟨Bx, 0, none⟩) hBx (.slice ra2 rl2 rc2)).setCell (p := ⟨Bx, 1, none⟩) hBx (.slice (some ⟨g, 0, none⟩) bl cap')
                                rw [HW9.out] at I9 G9 b9
                                rw [if_pos (by rfl)]
                                go_wp2_with fail
                                rw [HW9.out]
                                refine hK.out _ _ (HS.out _ b9) (fun hH => ?_)
                                refine wpAnyH_done (by kernel_rfl) ?_ _
                                go_wp2_with fail
                                go_meet
                                exact ⟨Bx, ra2, rl2, rc2, g, cap', rfl, hcell, I9, G9, hgx, hg4, hBx, F2, b9⟩
                              · simp only [List.getElem_toArray, List.getElem_cons_succ, List.getElem_cons_zero]
                                have bs := below_new v3 (.cells #[.slice none 0 0, .slice none 0 0] 27)
                                have R11 := resC_new v3
                                obtain ⟨Bx, HBx⟩ : ∃ B, Hid (v3.heap.size = B) := ⟨_, rfl⟩
                                have hBx : w4.heap.size ≤ Bx := by rw [← HBx.out]; exact b.size
                                skip
                                obtain ⟨v4, Hv4⟩ : ∃ v, Hid (v3.alloc (.cells #[.slice none 0 0, .slice none 0 0] 27) = v) := ⟨_, rfl⟩
                                rw [Hv4.out] at bs R11
                                rw [HBx.out] at R11
                                rw [if_pos (by rfl)]
                                go_wp2_with fail
                                rw [Hv4.out, HBx.out]
                                replace I2 := I2.below bs
                                replace E6 := E6.below bs
                                replace b := below_then b bs
                                clear bs Hv4
                                refine hK.out _ _ (HS.out _ b) (fun hH => ?_)
                                clear hK
                                refine wpAnyH_ready (rs := [9]) (by kernel_rfl) (by simp) ?_
                                refine AllReadyH.cons rfl (fun K hK => ?_) AllReadyH.nil
                                simp only [List.getElem_toArray, List.getElem_cons_succ, List.getElem_cons_zero]
                                refine wpr_append_lit (by rfl) _ _ rfl B6 v4 ⟨bb, ob, none⟩ bl bp c.busy E6 rfl rfl (h2.below b) Hpos.out ?_
                                intro g cap' v5 hG hbg hbo' hgo hbel
                                have I3 := I2.off E6 hbo' hgo
                                have hgx : g ≠ Bx := by have h5 := R11.ne E6; have h6 := (R11.facts).2.2.2.2; rcases hgo with q | q <;> omega
                                replace R11 := R11.butOne E6 hbo'
                                replace b := hbel _ _ hB6 b
                                have hg4 : w4.heap.size ≤ g := Nat.le_trans hB6 hbg
                                clear I2 E6 hbo' hgo hbel hbg
                                refine hK.out _ _ (HS.out _ b) (fun hH => ?_)
                                clear hK
                                refine wpAnyH_take (i := 10) (v := .agg #[.slice ra2 rl2 rc2, .slice (some ⟨g, 0, none⟩) bl cap']) rfl (by kernel_rfl) (by kernel_rfl) (by kernel_rfl) (fun _ _ _ h => h) (.inl ⟨by rfl, fun w' hS' => by first | (go_simp; done) | (go_simp; rfl) | (go_simp; intro h; omega) | (go_simp; omega)⟩) hH ?_
                                simp only [List.getElem_toArray, List.getElem_cons_succ, List.getElem_cons_zero, Act.put, List.setIfInBounds_toArray, List.set_cons_zero, List.set_cons_succ]
                                refine wpAnyH_ready (rs := [12]) (by kernel_rfl) (by simp) ?_
                                refine AllReadyH.cons rfl (fun K hK => ?_) AllReadyH.nil
                                simp only [List.getElem_toArray, List.getElem_cons_succ, List.getElem_cons_zero]
                                obtain ⟨q1, q2, q3, q4, q5⟩ := R11.facts
                                obtain ⟨W9, HW9⟩ : ∃ W9, Hid ((v5.setCell ⟨Bx, 0, none⟩ (.slice ra2 rl2 rc2)).setCell ⟨Bx, 1, none⟩ (.slice (some ⟨g, 0, none⟩) bl cap') = W9) := ⟨_, rfl⟩
                                have hcell := R11.filled HW9.out
                                have e2 : (v5.setCell ⟨Bx, 0, none⟩ (.slice ra2 rl2 rc2)).cell? ⟨Bx, 1, none⟩ = some (.slice none 0 0) := by rw [World.cell?_setCell_other _ _ _ _ (by simp)]; exact q2
                                have I9 := (I3.putS q1 (.slice ra2 rl2 rc2)).putS e2 (.slice (some ⟨g, 0, none⟩) bl cap')
                                have G9 := (hG.set (p := ⟨Bx, 0, none⟩) (fun q => hgx q.symm) (.slice ra2 rl2 rc2)).set (p := ⟨Bx, 1, none⟩) (fun q => hgx q.symm) (.slice (some ⟨g, 0, none⟩) bl cap')
                                have b9 := (b.setCell (p := ⟨Bx, 0, none⟩) hBx (.slice ra2 rl2 rc2)).setCell (p := ⟨Bx, 1, none⟩) hBx (.slice (some ⟨g, 0, none⟩) bl cap')
                                rw [HW9.out] at I9 G9 b9
                                rw [if_pos (by rfl)]
                                go_wp2_with fail
                                rw [HW9.out]
                                refine hK.out _ _ (HS.out _ b9) (fun hH => ?_)
                                refine wpAnyH_done (by kernel_rfl) ?_ _
                                go_wp2_with fail
                                go_meet
                                exact ⟨Bx, ra2, rl2, rc2, g, cap', rfl, hcell, I9, G9, hgx, hg4, hBx, F2, b9⟩
                            · simp only [List.getElem_toArray, List.getElem_cons_succ, List.getElem_cons_zero]
                              have bs := below_new v2 (.cells #[.slice none 0 0, .slice none 0 0] 27)
                              have R11 := resC_new v2
                              obtain ⟨Bx, HBx⟩ : ∃ B, Hid (v2.heap.size = B) := ⟨_, rfl⟩
                              have hBx : w4.heap.size ≤ Bx := by rw [← HBx.out]; exact b.size
                              skip
                              obtain ⟨v3, Hv3⟩ : ∃ v, Hid (v2.alloc (.cells #[.slice none 0 0, .slice none 0 0] 27) = v) := ⟨_, rfl⟩
                              rw [Hv3.out] at bs R11
                              rw [HBx.out] at R11
                              rw [if_pos (by rfl)]
                              go_wp2_with fail
                              rw [Hv3.out, HBx.out]
                              replace I1 := I1.below bs
                              replace E6 := E6.below bs
                              replace b := below_then b bs
                              clear bs Hv3
                              refine hK.out _ _ (HS.out _ b) (fun hH => ?_)
                              clear hK
                              refine wpAnyH_ready (rs := [5]) (by kernel_rfl) (by simp) ?_
                              refine AllReadyH.cons rfl (fun K hK => ?_) AllReadyH.nil
                              simp only [List.getElem_toArray, List.getElem_cons_succ, List.getElem_cons_zero]
                              rw [if_pos (by rfl)]
                              go_wp2_with fail
                              refine (amix_from 1 (.inl rfl) _ _ (subL c.mark TK) GV v3 (by exact I1) (by exact hGv.below b) HrS.out HrG.out).mono ?_
                              rintro e v4 ⟨r2, rfl, I2, F2, bs⟩
                              replace F2 := F2.mono (Nat.le_trans c0.size b.size)
                              rw [mix_one] at I2
                              replace I2 : Ints v4 r2 (addL (subL c.mark TK) GV) := I2
                              obtain ⟨ra2, rl2, rc2, rfl, _⟩ := id I2
                              clear I1
                              replace E6 := E6.below bs
                              replace R11 := R11.below bs
                              replace b := below_then b bs
                              clear bs
                              refine hK.out _ _ (HS.out _ b) (fun hH => ?_)
                              clear hK
                              refine wpAnyH_ready (rs := [9]) (by kernel_rfl) (by simp) ?_
                              refine AllReadyH.cons rfl (fun K hK => ?_) AllReadyH.nil
                              simp only [List.getElem_toArray, List.getElem_cons_succ, List.getElem_cons_zero]
                              refine wpr_append_lit (by rfl) _ _ rfl B6 v4 ⟨bb, ob, none⟩ bl bp c.busy E6 rfl rfl (h2.below b) Hpos.out ?_
                              intro g cap' v5 hG hbg hbo' hgo hbel
                              have I3 := I2.off E6 hbo' hgo
                              have hgx : g ≠ Bx := by have h5 := R11.ne E6; have h6 := (R11.facts).2.2.2.2; rcases hgo with q | q <;> omega
                              replace R11 := R11.butOne E6 hbo'
                              replace b := hbel _ _ hB6 b
                              have hg4 : w4.heap.size ≤ g := Nat.le_trans hB6 hbg
                              clear I2 E6 hbo' hgo hbel hbg
                              refine hK.out _ _ (HS.out _ b) (fun hH => ?_)
                              clear hK
                              refine wpAnyH_take (i := 10) (v := .agg #[.slice ra2 rl2 rc2, .slice (some ⟨g, 0, none⟩) bl cap']) rfl (by kernel_rfl) (by kernel_rfl) (by kernel_rfl) (fun _ _ _ h => h) (.inl ⟨by rfl, fun w' hS' => by first | (go_simp; done) | (go_simp; rfl) | (go_simp; intro h; omega) | (go_simp; omega)⟩) hH ?_
                              simp only [List.getElem_toArray, List.getElem_cons_succ, List.getElem_cons_zero, Act.put, List.setIfInBounds_toArray, List.set_cons_zero, List.set_cons_succ]
                              refine wpAnyH_ready (rs := [12]) (by kernel_rfl) (by simp) ?_
                              refine AllReadyH.cons rfl (fun K hK => ?_) AllReadyH.nil
                              simp only [List.getElem_toArray, List.getElem_cons_succ, List.getElem_cons_zero]
                              obtain ⟨q1, q2, q3, q4, q5⟩ := R11.facts
                              obtain ⟨W9, HW9⟩ : ∃ W9, Hid ((v5.setCell ⟨Bx, 0, none⟩ (.slice ra2 rl2 rc2)).setCell ⟨Bx, 1, none⟩ (.slice (some ⟨g, 0, none⟩) bl cap') = W9) := ⟨_, rfl⟩
                              have hcell := R11.filled HW9.out
                              have e2 : (v5.setCell ⟨Bx, 0, none⟩ (.slice ra2 rl2 rc2)).cell? ⟨Bx, 1, none⟩ = some (.slice none 0 0) := by rw [World.cell?_setCell_other _ _ _ _ (by simp)]; exact q2
                              have I9 := (I3.putS q1 (.slice ra2 rl2 rc2)).putS e2 (.slice (some ⟨g, 0, none⟩) bl cap')
                              have G9 := (hG.set (p := ⟨Bx, 0, none⟩) (fun q => hgx q.symm) (.slice ra2 rl2 rc2)).set (p := ⟨Bx, 1, none⟩) (fun q => hgx q.symm) (.slice (some ⟨g, 0, none⟩) bl cap')
                              have b9 := (b.setCell (p := ⟨Bx, 0, none⟩) hBx (.slice ra2 rl2 rc2)).setCell (p := ⟨Bx, 1, none⟩) hBx (.slice (some ⟨g, 0, none⟩) bl cap')
                              rw [HW9.out] at I9 G9 b9
                              rw [if_pos (by rfl)]
                              go_wp2_with fail
                              rw [HW9.out]
                              refine hK.out _ _ (HS.out _ b9) (fun hH => ?_)
                              refine wpAnyH_done (by kernel_rfl) ?_ _
                              go_wp2_with fail
                              go_meet
                              exact ⟨Bx, ra2, rl2, rc2, g, cap', rfl, hcell, I9, G9, hgx, hg4, hBx, F2, b9⟩
                          · simp only [List.getElem_toArray, List.getElem_cons_succ, List.getElem_cons_zero]
                            have bs := below_new v1 (.cells #[.slice none 0 0, .slice none 0 0] 27)
                            have R11 := resC_new v1
                            obtain ⟨Bx, HBx⟩ : ∃ B, Hid (v1.heap.size = B) := ⟨_, rfl⟩
                            have hBx : w4.heap.size ≤ Bx := by rw [← HBx.out]; exact b.size
                            skip
                            obtain ⟨v2, Hv2⟩ : ∃ v, Hid (v1.alloc (.cells #[.slice none 0 0, .slice none 0 0] 27) = v) := ⟨_, rfl⟩
                            rw [Hv2.out] at bs R11
                            rw [HBx.out] at R11
                            rw [if_pos (by rfl)]
                            go_wp2_with fail
                            rw [Hv2.out, HBx.out]
                            replace E6 := E6.below bs
                            replace b := below_then b bs
                            clear bs Hv2
                            refine hK.out _ _ (HS.out _ b) (fun hH => ?_)
                            clear hK
                            refine wpAnyH_ready (rs := [3]) (by kernel_rfl) (by simp) ?_
                            refine AllReadyH.cons rfl (fun K hK => ?_) AllReadyH.nil
                            simp only [List.getElem_toArray, List.getElem_cons_succ, List.getElem_cons_zero]
                            rw [if_pos (by rfl)]
                            go_wp2_with fail
                            refine (amix_any (-1) (.inr rfl) _ _ c.mark TK v2 (by exact h1.below b) (by exact hTk.below b) Hrm.out HrT.out).mono ?_
                            rintro e v3 ⟨r1, rfl, I1, bs⟩
                            rw [mix_less] at I1
                            replace I1 : Ints v3 r1 (subL c.mark TK) := I1
                            obtain ⟨ra1, rl1, rc1, rfl, _⟩ := id I1
                            replace E6 := E6.below bs
                            replace R11 := R11.below bs
                            replace b := below_then b bs
                            clear bs
                            refine hK.out _ _ (HS.out _ b) (fun hH => ?_)
                            clear hK
                            refine wpAnyH_ready (rs := [5]) (by kernel_rfl) (by simp) ?_
                            refine AllReadyH.cons rfl (fun K hK => ?_) AllReadyH.nil
                            simp only [List.getElem_toArray, List.getElem_cons_succ, List.getElem_cons_zero]
                            rw [if_pos (by rfl)]
                            go_wp2_with fail
                            refine (amix_from 1 (.inl rfl) _ _ (subL c.mark TK) GV v3 (by exact I1) (by exact hGv.below b) HrS.out HrG.out).mono ?_
                            rintro e v4 ⟨r2, rfl, I2, F2, bs⟩
                            replace F2 := F2.mono (Nat.le_trans c0.size b.size)
                            rw [mix_one] at I2
                            replace I2 : Ints v4 r2 (addL (subL c.mark TK) GV) := I2
                            obtain ⟨ra2, rl2, rc2, rfl, _⟩ := id I2
                            clear I1
                            replace E6 := E6.below bs
                            replace R11 := R11.below bs
                            replace b := below_then b bs
                            clear bs
                            refine hK.out _ _ (HS.out _ b) (fun hH => ?_)
                            clear hK
                            refine wpAnyH_ready (rs := [9]) (by kernel_rfl) (by simp) ?_
                            refine AllReadyH.cons rfl (fun K hK => ?_) AllReadyH.nil
                            simp only [List.getElem_toArray, List.getElem_cons_succ, List.getElem_cons_zero]
                            refine wpr_append_lit (by rfl) _ _ rfl B6 v4 ⟨bb, ob, none⟩ bl bp c.busy E6 rfl rfl (h2.below b) Hpos.out ?_
                            intro g cap' v5 hG hbg hbo' hgo hbel
                            have I3 := I2.off E6 hbo' hgo
                            have hgx : g ≠ Bx := by have h5 := R11.ne E6; have h6 := (R11.facts).2.2.2.2; rcases hgo with q | q <;> omega
                            replace R11 := R11.butOne E6 hbo'
                            replace b := hbel _ _ hB6 b
                            have hg4 : w4.heap.size ≤ g := Nat.le_trans hB6 hbg
                            clear I2 E6 hbo' hgo hbel hbg
                            refine hK.out _ _ (HS.out _ b) (fun hH => ?_)
                            clear hK
                            refine wpAnyH_take (i := 10) (v := .agg #[.slice ra2 rl2 rc2, .slice (some ⟨g, 0, none⟩) bl cap']) rfl (by kernel_rfl) (by kernel_rfl) (by kernel_rfl) (fun _ _ _ h => h) (.inl ⟨by rfl, fun w' hS' => by first | (go_simp; done) | (go_simp; rfl) | (go_simp; intro h; omega) | (go_simp; omega)⟩) hH ?_
                            simp only [List.getElem_toArray, List.getElem_cons_succ, List.getElem_cons_zero, Act.put, List.setIfInBounds_toArray, List.set_cons_zero, List.set_cons_succ]
                            refine wpAnyH_ready (rs := [12]) (by kernel_rfl) (by simp) ?_
                            refine AllReadyH.cons rfl (fun K hK => ?_) AllReadyH.nil
                            simp only [List.getElem_toArray, List.getElem_cons_succ, List.getElem_cons_zero]
                            obtain ⟨q1, q2, q3, q4, q5⟩ := R11.facts
                            obtain ⟨W9, HW9⟩ : ∃ W9, Hid ((v5.setCell ⟨Bx, 0, none⟩ (.slice ra2 rl2 rc2)).setCell ⟨Bx, 1, none⟩ (.slice (some ⟨g, 0, none⟩) bl cap') = W9) := ⟨_, rfl⟩
                            have hcell := R11.filled HW9.out
                            have e2 : (v5.setCell ⟨Bx, 0, none⟩ (.slice ra2 rl2 rc2)).cell? ⟨Bx, 1, none⟩ = some (.slice none 0 0) := by rw [World.cell?_setCell_other _ _ _ _ (by simp)]; exact q2
                            have I9 := (I3.putS q1 (.slice ra2 rl2 rc2)).putS e2 (.slice (some ⟨g, 0, none⟩) bl cap')
                            have G9 := (hG.set (p := ⟨Bx, 0, none⟩) (fun q => hgx q.symm) (.slice ra2 rl2 rc2)).set (p := ⟨Bx, 1, none⟩) (fun q => hgx q.symm) (.slice (some ⟨g, 0, none⟩) bl cap')
                            have b9 := (b.setCell (p := ⟨Bx, 0, none⟩) hBx (.slice ra2 rl2 rc2)).setCell (p := ⟨Bx, 1, none⟩) hBx (.slice (some ⟨g, 0, none⟩) bl cap')
                            rw [HW9.out] at I9 G9 b9
                            rw [if_pos (by rfl)]
                            go_wp2_with fail
                            rw [HW9.out]
                            refine hK.out _ _ (HS.out _ b9) (fun hH => ?_)
                            refine wpAnyH_done (by kernel_rfl) ?_ _
                            go_wp2_with fail
                            go_meet
                            exact ⟨Bx, ra2, rl2, rc2, g, cap', rfl, hcell, I9, G9, hgx, hg4, hBx, F2, b9⟩
                        · simp only [List.getElem_toArray, List.getElem_cons_succ, List.getElem_cons_zero]
                          have bs := below_new v0 (.cells #[.slice none 0 0, .slice none 0 0] 27)
                          have R11 := resC_new v0
                          obtain ⟨Bx, HBx⟩ : ∃ B, Hid (v0.heap.size = B) := ⟨_, rfl⟩
                          have hBx : w4.heap.size ≤ Bx := by rw [← HBx.out]; exact b.size
                          skip
                          obtain ⟨v1, Hv1⟩ : ∃ v, Hid (v0.alloc (.cells #[.slice none 0 0, .slice none 0 0] 27) = v) := ⟨_, rfl⟩
                          rw [Hv1.out] at bs R11
                          rw [HBx.out] at R11
                          rw [if_pos (by rfl)]
                          go_wp2_with fail
                          rw [Hv1.out, HBx.out]
                          replace b := below_then b bs
                          clear bs Hv1
                          refine hK.out _ _ (HS.out _ b) (fun hH => ?_)
                          clear hK
                          refine wpAnyH_ready (rs := [3, 6]) (by kernel_rfl) (by simp) ?_
                          refine (AllReadyH.cons rfl (fun K hK => ?_) (AllReadyH.cons rfl (fun K hK => ?_) AllReadyH.nil))
                          · simp only [List.getElem_toArray, List.getElem_cons_succ, List.getElem_cons_zero]
                            rw [if_pos (by rfl)]
                            go_wp2_with fail
                            refine (amix_any (-1) (.inr rfl) _ _ c.mark TK v1 (by exact h1.below b) (by exact hTk.below b) Hrm.out HrT.out).mono ?_
                            rintro e v2 ⟨r1, rfl, I1, bs⟩
                            rw [mix_less] at I1
                            replace I1 : Ints v2 r1 (subL c.mark TK) := I1
                            obtain ⟨ra1, rl1, rc1, rfl, _⟩ := id I1
                            replace R11 := R11.below bs
                            replace b := below_then b bs
                            clear bs
                            refine hK.out _ _ (HS.out _ b) (fun hH => ?_)
                            clear hK
                            refine wpAnyH_ready (rs := [5, 6]) (by kernel_rfl) (by simp) ?_
                            refine (AllReadyH.cons rfl (fun K hK => ?_) (AllReadyH.cons rfl (fun K hK => ?_) AllReadyH.nil))
                            · simp only [List.getElem_toArray, List.getElem_cons_succ, List.getElem_cons_zero]
                              rw [if_pos (by rfl)]
                              go_wp2_with fail
                              refine (amix_from 1 (.inl rfl) _ _ (subL c.mark TK) GV v2 (by exact I1) (by exact hGv.below b) HrS.out HrG.out).mono ?_
                              rintro e v3 ⟨r2, rfl, I2, F2, bs⟩
                              replace F2 := F2.mono (Nat.le_trans c0.size b.size)
                              rw [mix_one] at I2
                              replace I2 : Ints v3 r2 (addL (subL c.mark TK) GV) := I2
                              obtain ⟨ra2, rl2, rc2, rfl, _⟩ := id I2
                              clear I1
                              replace R11 := R11.below bs
                              replace b := below_then b bs
                              clear bs
                              refine hK.out _ _ (HS.out _ b) (fun hH => ?_)
                              clear hK
                              refine wpAnyH_ready (rs := [6]) (by kernel_rfl) (by simp) ?_
                              refine AllReadyH.cons rfl (fun K hK => ?_) AllReadyH.nil
                              simp only [List.getElem_toArray, List.getElem_cons_succ, List.getElem_cons_zero]
                              have bs := below_new v3 (.cells #[] 3)
                              have E6 := lit_new v3
                              obtain ⟨B6, HB6⟩ : ∃ B, Hid (v3.heap.size = B) := ⟨_, rfl⟩
                              have hB6 : w4.heap.size ≤ B6 := by rw [← HB6.out]; exact b.size
                              skip
                              obtain ⟨v4, Hv4⟩ : ∃ v, Hid (v3.alloc (.cells #[] 3) = v) := ⟨_, rfl⟩
                              rw [Hv4.out] at bs E6
                              rw [HB6.out] at E6
                              rw [if_pos (by rfl)]
                              go_wp2_with fail
                              rw [Hv4.out, HB6.out]
                              replace I2 := I2.below bs
                              replace R11 := R11.below bs
                              replace b := below_then b bs
                              clear bs Hv4
                              refine hK.out _ _ (HS.out _ b) (fun hH => ?_)
                              clear hK
                              refine wpAnyH_ready (rs := [9]) (by kernel_rfl) (by simp) ?_
                              refine AllReadyH.cons rfl (fun K hK => ?_) AllReadyH.nil
                              simp only [List.getElem_toArray, List.getElem_cons_succ, List.getElem_cons_zero]
                              refine wpr_append_lit (by rfl) _ _ rfl B6 v4 ⟨bb, ob, none⟩ bl bp c.busy E6 rfl rfl (h2.below b) Hpos.out ?_
                              intro g cap' v5 hG hbg hbo' hgo hbel
                              have I3 := I2.off E6 hbo' hgo
                              have hgx : g ≠ Bx := by have h5 := R11.ne E6; have h6 := (R11.facts).2.2.2.2; rcases hgo with q | q <;> omega
                              replace R11 := R11.butOne E6 hbo'
                              replace b := hbel _ _ hB6 b
                              have hg4 : w4.heap.size ≤ g := Nat.le_trans hB6 hbg
                              clear I2 E6 hbo' hgo hbel hbg
                              refine hK.out _ _ (HS.out _ b) (fun hH => ?_)
                              clear hK
                              refine wpAnyH_take (i := 10) (v := .agg #[.slice ra2 rl2 rc2, .slice (some ⟨g, 0, none⟩) bl cap']) rfl (by kernel_rfl) (by kernel_rfl) (by kernel_rfl) (fun _ _ _ h => h) (.inl ⟨by rfl, fun w' hS' => by first | (go_simp; done) | (go_simp; rfl) | (go_simp; intro h; omega) | (go_simp; omega)⟩) hH ?_
                              simp only [List.getElem_toArray, List.getElem_cons_succ, List.getElem_cons_zero, Act.put, List.setIfInBounds_toArray, List.set_cons_zero, List.set_cons_succ]
                              refine wpAnyH_ready (rs := [12]) (by kernel_rfl) (by simp) ?_
                              refine AllReadyH.cons rfl (fun K hK => ?_) AllReadyH.nil
                              simp only [List.getElem_toArray, List.getElem_cons_succ, List.getElem_cons_zero]
                              obtain ⟨q1, q2, q3, q4, q5⟩ := R11.facts
                              obtain ⟨W9, HW9⟩ : ∃ W9, Hid ((v5.setCell ⟨Bx, 0, none⟩ (.slice ra2 rl2 rc2)).setCell ⟨Bx, 1, none⟩ (.slice (some ⟨g, 0, none⟩) bl cap') = W9) := ⟨_, rfl⟩
                              have hcell := R11.filled HW9.out
                              have e2 : (v5.setCell ⟨Bx, 0, none⟩ (.slice ra2 rl2 rc2)).cell? ⟨Bx, 1, none⟩ = some (.slice none 0 0) := by rw [World.cell?_setCell_other _ _ _ _ (by simp)]; exact q2
                              have I9 := (I3.putS q1 (.slice ra2 rl2 rc2)).putS e2 (.slice (some ⟨g, 0, none⟩) bl cap')
                              have G9 := (hG.set (p := ⟨Bx, 0, none⟩) (fun q => hgx q.symm) (.slice ra2 rl2 rc2)).set (p := ⟨Bx, 1, none⟩) (fun q => hgx q.symm) (.slice (some ⟨g, 0, none⟩) bl cap')
                              have b9 := (b.setCell (p := ⟨Bx, 0, none⟩) hBx (.slice ra2 rl2 rc2)).setCell (p := ⟨Bx, 1, none⟩) hBx (.slice (some ⟨g, 0, none⟩) bl cap')
                              rw [HW9.out] at I9 G9 b9
                              rw [if_pos (by rfl)]
                              go_wp2_with fail
                              rw [HW9.out]
                              refine hK.out _ _ (HS.out _ b9) (fun hH => ?_)
                              refine wpAnyH_done (by kernel_rfl) ?_ _
                              go_wp2_with fail
                              go_meet
                              exact ⟨Bx, ra2, rl2, rc2, g, cap', rfl, hcell, I9, G9, hgx, hg4, hBx, F2, b9⟩
                            · simp only [List.getElem_toArray, List.getElem_cons_succ, List.getElem_cons_zero]
                              have bs := below_new v2 (.cells #[] 3)
                              have E6 := lit_new v2
                              obtain ⟨B6, HB6⟩ : ∃ B, Hid (v2.heap.size = B) := ⟨_, rfl⟩
                              have hB6 : w4.heap.size ≤ B6 := by rw [← HB6.out]; exact b.size
                              skip
                              obtain ⟨v3, Hv3⟩ : ∃ v, Hid (v2.alloc (.cells #[] 3) = v) := ⟨_, rfl⟩
                              rw [Hv3.out] at bs E6
                              rw [HB6.out] at E6
                              rw [if_pos (by rfl)]
                              go_wp2_with fail
                              rw [Hv3.out, HB6.out]
                              replace I1 := I1.below bs
                              replace R11 := R11.below bs
                              replace b := below_then b bs
                              clear bs Hv3
                              refine hK.out _ _ (HS.out _ b) (fun hH => ?_)
                              clear hK
                              refine wpAnyH_ready (rs := [5]) (by kernel_rfl) (by simp) ?_
                              refine AllReadyH.cons rfl (fun K hK => ?_) AllReadyH.nil
                              simp only [List.getElem_toArray, List.getElem_cons_succ, List.getElem_cons_zero]
                              rw [if_pos (by rfl)]
                              go_wp2_with fail
                              refine (amix_from 1 (.inl rfl) _ _ (subL c.mark TK) GV v3 (by exact I1) (by exact hGv.below b) HrS.out HrG.out).mono ?_
                              rintro e v4 ⟨r2, rfl, I2, F2, bs⟩
                              replace F2 := F2.mono (Nat.le_trans c0.size b.size)
                              rw [mix_one] at I2
                              replace I2 : Ints v4 r2 (addL (subL c.mark TK) GV) := I2
                              obtain ⟨ra2, rl2, rc2, rfl, _⟩ := id I2
                              clear I1
                              replace E6 := E6.below bs
                              replace R11 := R11.below bs
                              replace b := below_then b bs
                              clear bs
                              refine hK.out _ _ (HS.out _ b) (fun hH => ?_)
                              clear hK
                              refine wpAnyH_ready (rs := [9]) (by kernel_rfl) (by simp) ?_
                              refine AllReadyH.cons rfl (fun K hK => ?_) AllReadyH.nil
                              simp only [List.getElem_toArray, List.getElem_cons_succ, List.getElem_cons_zero]
                              refine wpr_append_lit (by rfl) _ _ rfl B6 v4 ⟨bb, ob, none⟩ bl bp c.busy E6 rfl rfl (h2.below b) Hpos.out ?_
                              intro g cap' v5 hG hbg hbo' hgo hbel
                              have I3 := I2.off E6 hbo' hgo
                              have hgx : g ≠ Bx := by have h5 := R11.ne E6; have h6 := (R11.facts).2.2.2.2; rcases hgo with q | q <;> omega
                              replace R11 := R11.butOne E6 hbo'
                              replace b := hbel _ _ hB6 b
                              have hg4 : w4.heap.size ≤ g := Nat.le_trans hB6 hbg
                              clear I2 E6 hbo' hgo hbel hbg
                              refine hK.out _ _ (HS.out _ b) (fun hH => ?_)
                              clear hK
                              refine wpAnyH_take (i := 10) (v := .agg #[.slice ra2 rl2 rc2, .slice (some ⟨g, 0, none⟩) bl cap']) rfl (by kernel_rfl) (by kernel_rfl) (by kernel_rfl) (fun _ _ _ h => h) (.inl ⟨by rfl, fun w' hS' => by first | (go_simp; done) | (go_simp; rfl) | (go_simp; intro h; omega) | (go_simp; omega)⟩) hH ?_
                              simp only [List.getElem_toArray, List.getElem_cons_succ, List.getElem_cons_zero, Act.put, List.setIfInBounds_toArray, List.set_cons_zero, List.set_cons_succ]
                              refine wpAnyH_ready (rs := [12]) (by kernel_rfl) (by simp) ?_
                              refine AllReadyH.cons rfl (fun K hK => ?_) AllReadyH.nil
                              simp only [List.getElem_toArray, List.getElem_cons_succ, List.getElem_cons_zero]
                              obtain ⟨q1, q2, q3, q4, q5⟩ := R11.facts
                              obtain ⟨W9, HW9⟩ : ∃ W9, Hid ((v5.setCell ⟨Bx, 0, none⟩ (.slice ra2 rl2 rc2)).setCell ⟨Bx, 1, none⟩ (.slice (some ⟨g, 0, none⟩) bl cap') = W9) := ⟨_, rfl⟩
                              have hcell := R11.filled HW9.out
                              have e2 : (v5.setCell ⟨Bx, 0, none⟩ (.slice ra2 rl2 rc2)).cell? ⟨Bx, 1, none⟩ = some (.slice none 0 0) := by rw [World.cell?_setCell_other _ _ _ _ (by simp)]; exact q2
                              have I9 := (I3.putS q1 (.slice ra2 rl2 rc2)).putS e2 (.slice (some ⟨g, 0, none⟩) bl cap')
                              have G9 := (hG.set (p := ⟨Bx, 0, none⟩) (fun q => hgx q.symm) (.slice ra2 rl2 rc2)).set (p := ⟨Bx, 1, none⟩) (fun q => hgx q.symm) (.slice (some ⟨g, 0, none⟩) bl cap')
                              have b9 := (b.setCell (p := ⟨Bx, 0, none⟩) hBx (.slice ra2 rl2 rc2)).setCell (p := ⟨Bx, 1, none⟩) hBx (.slice (some ⟨g, 0, none⟩) bl cap')
                              rw [HW9.out] at I9 G9 b9
                              rw [if_pos (by rfl)]
                              go_wp2_with fail
                              rw [HW9.out]
                              refine hK.out _ _ (HS.out _ b9) (fun hH => ?_)
                              refine wpAnyH_done (by kernel_rfl) ?_ _
                              go_wp2_with fail
                              go_meet
                              exact ⟨Bx, ra2, rl2, rc2, g, cap', rfl, hcell, I9, G9, hgx, hg4, hBx, F2, b9⟩
                          · simp only [List.getElem_toArray, List.getElem_cons_succ, List.getElem_cons_zero]
                            have bs := below_new v1 (.cells #[] 3)
                            have E6 := lit_new v1
                            obtain ⟨B6, HB6⟩ : ∃ B, Hid (v1.heap.size = B) := ⟨_, rfl⟩
                            have hB6 : w4.heap.size ≤ B6 := by rw [← HB6.out]; exact b.size
                            skip
                            obtain ⟨v2, Hv2⟩ : ∃ v, Hid (v1.alloc (.cells #[] 3) = v) := ⟨_, rfl⟩
                            rw [Hv2.out] at bs E6
                            rw [HB6.out] at E6
                            rw [if_pos (by rfl)]
                            go_wp2_with fail
                            rw [Hv2.out, HB6.out]
                            replace R11 := R11.below bs
                            replace b := below_then b bs
                            clear bs Hv2
                            refine hK.out _ _ (HS.out _ b) (fun hH => ?_)
                            clear hK
                            refine wpAnyH_ready (rs := [3]) (by kernel_rfl) (by simp) ?_
                            refine AllReadyH.cons rfl (fun K hK => ?_) AllReadyH.nil
                            simp only [List.getElem_toArray, List.getElem_cons_succ, List.getElem_cons_zero]
                            rw [if_pos (by rfl)]
                            go_wp2_with fail
                            refine (amix_any (-1) (.inr rfl) _ _ c.mark TK v2 (by exact h1.below b) (by exact hTk.below b) Hrm.out HrT.out).mono ?_
                            rintro e v3 ⟨r1, rfl, I1, bs⟩
                            rw [mix_less] at I1
                            replace I1 : Ints v3 r1 (subL c.mark TK) := I1
                            obtain ⟨ra1, rl1, rc1, rfl, _⟩ := id I1
                            replace E6 := E6.below bs
                            replace R11 := R11.below bs
                            replace b := below_then b bs
                            clear bs
                            refine hK.out _ _ (HS.out _ b) (fun hH => ?_)
                            clear hK
                            refine wpAnyH_ready (rs := [5]) (by kernel_rfl) (by simp) ?_
                            refine AllReadyH.cons rfl (fun K hK => ?_) AllReadyH.nil
                            simp only [List.getElem_toArray, List.getElem_cons_succ, List.getElem_cons_zero]
                            rw [if_pos (by rfl)]
                            go_wp2_with fail
                            refine (amix_from 1 (.inl rfl) _ _ (subL c.mark TK) GV v3 (by exact I1) (by exact hGv.below b) HrS.out HrG.out).mono ?_
                            rintro e v4 ⟨r2, rfl, I2, F2, bs⟩
                            replace F2 := F2.mono (Nat.le_trans c0.size b.size)
                            rw [mix_one] at I2
                            replace I2 : Ints v4 r2 (addL (subL c.mark TK) GV) := I2
                            obtain ⟨ra2, rl2, rc2, rfl, _⟩ := id I2
                            clear I1
                            replace E6 := E6.below bs
                            replace R11 := R11.below bs
                            replace b := below_then b bs
                            clear bs
                            refine hK.out _ _ (HS.out _ b) (fun hH => ?_)
                            clear hK
                            refine wpAnyH_ready (rs := [9]) (by kernel_rfl) (by simp) ?_
                            refine AllReadyH.cons rfl (fun K hK => ?_) AllReadyH.nil
                            simp only [List.getElem_toArray, List.getElem_cons_succ, List.getElem_cons_zero]
                            refine wpr_append_lit (by rfl) _ _ rfl B6 v4 ⟨bb, ob, none⟩ bl bp c.busy E6 rfl rfl (h2.below b) Hpos.out ?_
                            intro g cap' v5 hG hbg hbo' hgo hbel
                            have I3 := I2.off E6 hbo' hgo
                            have hgx : g ≠ Bx := by have h5 := R11.ne E6; have h6 := (R11.facts).2.2.2.2; rcases hgo with q | q <;> omega
                            replace R11 := R11.butOne E6 hbo'
                            replace b := hbel _ _ hB6 b
                            have hg4 : w4.heap.size ≤ g := Nat.le_trans hB6 hbg
                            clear I2 E6 hbo' hgo hbel hbg
                            refine hK.out _ _ (HS.out _ b) (fun hH => ?_)
                            clear hK
                            refine wpAnyH_take (i := 10) (v := .agg #[.slice ra2 rl2 rc2, .slice (some ⟨g, 0, none⟩) bl cap']) rfl (by kernel_rfl) (by kernel_rfl) (by kernel_rfl) (fun _ _ _ h => h) (.inl ⟨by rfl, fun w' hS' => by first | (go_simp; done) | (go_simp; rfl) | (go_simp; intro h; omega) | (go_simp; omega)⟩) hH ?_
                            simp only [List.getElem_toArray, List.getElem_cons_succ, List.getElem_cons_zero, Act.put, List.setIfInBounds_toArray, List.set_cons_zero, List.set_cons_succ]
                            refine wpAnyH_ready (rs := [12]) (by kernel_rfl) (by simp) ?_
                            refine AllReadyH.cons rfl (fun K hK => ?_) AllReadyH.nil
                            simp only [List.getElem_toArray, List.getElem_cons_succ, List.getElem_cons_zero]
                            obtain ⟨q1, q2, q3, q4, q5⟩ := R11.facts
                            obtain ⟨W9, HW9⟩ : ∃ W9, Hid ((v5.setCell ⟨Bx, 0, none⟩ (.slice ra2 rl2 rc2)).setCell ⟨Bx, 1, none⟩ (.slice (some ⟨g, 0, none⟩) bl cap') = W9) := ⟨_, rfl⟩
                            have hcell := R11.filled HW9.out
                            have e2 : (v5.setCell ⟨Bx, 0, none⟩ (.slice ra2 rl2 rc2)).cell? ⟨Bx, 1, none⟩ = some (.slice none 0 0) := by rw [World.cell?_setCell_other _ _ _ _ (by simp)]; exact q2
                            have I9 := (I3.putS q1 (.slice ra2 rl2 rc2)).putS e2 (.slice (some ⟨g, 0, none⟩) bl cap')
                            have G9 := (hG.set (p := ⟨Bx, 0, none⟩) (fun q => hgx q.symm) (.slice ra2 rl2 rc2)).set (p := ⟨Bx, 1, none⟩) (fun q => hgx q.symm) (.slice (some ⟨g, 0, none⟩) bl cap')
                            have b9 := (b.setCell (p := ⟨Bx, 0, none⟩) hBx (.slice ra2 rl2 rc2)).setCell (p := ⟨Bx, 1, none⟩) hBx (.slice (some ⟨g, 0, none⟩) bl cap')
                            rw [HW9.out] at I9 G9 b9
                            rw [if_pos (by rfl)]
                            go_wp2_with fail
                            rw [HW9.out]
                            refine hK.out _ _ (HS.out _ b9) (fun hH => ?_)
                            refine wpAnyH_done (by kernel_rfl) ?_ _
                            go_wp2_with fail
                            go_meet
                            exact ⟨Bx, ra2, rl2, rc2, g, cap', rfl, hcell, I9, G9, hgx, hg4, hBx, F2, b9⟩
                      case rest =>
                        obtain ⟨Bx, ra, rl, rc, g, cap', rfl, hcell, hI, hG, hgx, hg4, hBx, hF2, b⟩ := hcut
                        have hgw : w.heap.size ≤ g := Nat.le_trans c0.size hg4
                        obtain ⟨w5, rfl⟩ : ∃ w5, w5 = wc := ⟨_, rfl⟩
                        clear h1 h2 hbc hTk hGv HS
                        have hRw : w.heap.size + 1 + 1 + 1 < w4.heap.size := (hR.facts).2.2.2.2
                        have b6 := b.setCell (p := ⟨g, k, none⟩) hg4 (.int .i64 (x + (-1)))
                        have hG6 := hG.put (k := k) hkb (x + (-1))
                        have hI6 := hI.set (p := ⟨g, k, none⟩) rfl (.int .i64 (x + (-1)))
                        obtain ⟨o0, o1, o2⟩ := id (hbo.below b)
                        have c1 : w5.cell? ⟨Bx, 1, none⟩ = some (.slice (some ⟨g, 0, none⟩) bl cap') := by simp [World.cell?, hcell]
                        have cg := hG.cells k hkb
                        have fg := hG.frozen k
                        rw [Hx.out] at cg
                        obtain ⟨w6, H6⟩ : ∃ w6, Hid (w5.setCell ⟨g, k, none⟩ (.int .i64 (x + (-1))) = w6) := ⟨_, rfl⟩
                        rw [H6.out] at hG6 hI6 b6
                        have hBx6 : w6.heap[Bx]? = some (.cells #[.slice ra rl rc, .slice (some ⟨g, 0, none⟩) bl cap'] 27 (0, 0)) := by
                          rw [← H6.out, ← hcell]
                          show (w5.heap.modify g _)[Bx]? = _
                          rw [Array.getElem?_modify, if_neg hgx]
                        go_upto_region 25 with fail
                        skip
                        rw [H6.out]
                        clear H6 hcell c1 cg fg o0 o1 o2 hG hI b
                        replace c0 := below_then c0 b6
                        replace hv := hv.below b6
                        replace hbn := hbn.below b6
                        replace hR := hR.below b6
                        clear b6
                        have d0 : w6.cell? ⟨Bx, 0, none⟩ = some (.slice ra rl rc) := by simp [World.cell?, hBx6]
                        have d1 : w6.cell? ⟨Bx, 1, none⟩ = some (.slice (some ⟨g, 0, none⟩) bl cap') := by simp [World.cell?, hBx6]
                        obtain ⟨x0, x1, x2⟩ := id hbn
                        have hM := hI6.ints
                        have hB := hG6.ints
                        obtain ⟨nx, Hnx⟩ : ∃ nx : CaseL, Hid ((⟨addL (subL c.mark TK) GV, c.busy.set k (x + (-1))⟩ : CaseL) = nx) := ⟨_, rfl⟩
                        have Hm : Hid (addL (subL c.mark TK) GV = nx.mark) := by show _ = _; rw [← Hnx.out]
                        have Hbz : Hid (c.busy.set k (x + (-1)) = nx.busy) := by show _ = _; rw [← Hnx.out]
                        rw [Hm.out] at hM
                        rw [Hbz.out] at hB
                        rw [Hnx.out] at HD
                        have hBlt := (Array.getElem?_eq_some_iff.1 hBx6).1
                        go_wp2_with fail
                        refine (pright_any _ _ n nx w6 (by exact hv) (by exact ⟨_, _, _, _, _, _, rfl, hM, hB⟩) hsm).mono ?_
                        rintro e w7 ⟨rfl, b⟩
                        have e0 : w7.cell? ⟨Bx, 0, none⟩ = some (.slice ra rl rc) := by rw [b.cell (p := ⟨Bx, 0, none⟩) hBlt]; exact d0
                        have e1 : w7.cell? ⟨Bx, 1, none⟩ = some (.slice (some ⟨g, 0, none⟩) bl cap') := by rw [b.cell (p := ⟨Bx, 1, none⟩) hBlt]; exact d1
                        clear d0 d1 x0 x1 x2 hBx6 hBlt hI6 hG6 hv hbn
                        replace c0 := below_then c0 b
                        replace hM := hM.below b
                        replace hB := hB.below b
                        replace hR := hR.below b
                        clear b
                        obtain ⟨q1, q2, q3, q4, q5⟩ := hR.facts
                        cases hr2 : rightC n nx
                        · have E : Hid (doC n c 4 k = (noCase, 4)) := by show _ = _; rw [HD.out, hr2]; rfl
                          obtain ⟨W2, HW2⟩ : ∃ W2, Hid ((w7.setCell ⟨w.heap.size + 1 + 1 + 1, 0, none⟩ (.slice none 0 0)).setCell ⟨w.heap.size + 1 + 1 + 1, 1, none⟩ (.slice none 0 0) = W2) := ⟨_, rfl⟩
                          obtain ⟨z1, z2, z3, z4⟩ := hR.fill c0 (by omega) HW2.out (Ints.nil _) (Ints.nil _)
                          go_wp2
                          rw [HW2.out]
                          exact bodyPost_ret (v := .tuple #[.agg #[.slice none 0 0, .slice none 0 0], .int .i64 4]) (results_case rfl rfl rfl z1 z2) rfl (givesCF_of E.out z3 (CaseFrom.none _) z4)
                        · have E : Hid (doC n c 4 k = (nx, 0)) := by show _ = _; rw [HD.out, hr2]; rfl
                          obtain ⟨W2, HW2⟩ : ∃ W2, Hid ((w7.setCell ⟨w.heap.size + 1 + 1 + 1, 0, none⟩ (.slice ra rl rc)).setCell ⟨w.heap.size + 1 + 1 + 1, 1, none⟩ (.slice (some ⟨g, 0, none⟩) bl cap') = W2) := ⟨_, rfl⟩
                          obtain ⟨z1, z2, z3, z4⟩ := hR.fill c0 (by omega) HW2.out hM hB
                          go_wp2
                          rw [HW2.out]
                          exact bodyPost_ret (v := .tuple #[.agg #[.slice ra rl rc, .slice (some ⟨g, 0, none⟩) bl cap'], .int .i64 0]) (results_case rfl rfl rfl z1 z2) rfl (givesCF_of E.out z3 ⟨_, _, rfl, hF2, SlFrom.at hgw⟩ z4)
          · have htl : (len : Int) ≤ (k : Int) := by omega
            have E : Hid (doC n c kd k = (noCase, 3)) := do_none Hr.out (by omega) (.inr (by rw [Hlen.out]; exact htl))
            obtain ⟨q1, q2, q3, q4, q5⟩ := hR.facts
            obtain ⟨W2, HW2⟩ : ∃ W2, Hid ((w1.setCell ⟨w.heap.size + 1 + 1 + 1, 0, none⟩ (.slice none 0 0)).setCell ⟨w.heap.size + 1 + 1 + 1, 1, none⟩ (.slice none 0 0) = W2) := ⟨_, rfl⟩
            obtain ⟨z1, z2, z3, z4⟩ := hR.fill c0 (by omega) HW2.out (Ints.nil _) (Ints.nil _)
            go_wp2
            rw [HW2.out]
            exact bodyPost_ret (v := .tuple #[.agg #[.slice none 0 0, .slice none 0 0], .int .i64 3]) (results_case rfl rfl rfl z1 z2) rfl (givesCF_of E.out z3 (CaseFrom.none _) z4)

end Go.Proofs.Ytffaamljogbmlaa

/- The document's own answers for cases: one thing done. -/
namespace Go.Proofs.Ytffaamljogbmlaa

theorem pdo_own (v u : Value) (n : NetL) (c : CaseL) (kd t : Int) (w : World) (hv : Net w v n) (hu : CaseV w u c) (hsm : SmallNet n) :
    Calls Try.prog 11 #[v, u, .agg #[.int .i64 kd, .int .i64 t]] w fun e w' => GivesCF w (doC n c kd t) e w' := by
  by_cases h1 : kd = 1
  · exact pdo_kind1 v u n c kd t w hv hu hsm (fun j hj => by simp at hj; omega)
  by_cases h2 : kd = 2
  · exact pdo_kind2 v u n c kd t w hv hu hsm (fun j hj => by simp at hj; omega)
  by_cases h3 : kd = 3
  · exact pdo_kind3 v u n c kd t w hv hu hsm (fun j hj => by simp at hj; omega)
  · exact pdo_kind4 v u n c kd t w hv hu hsm (fun j hj => by simp at hj; omega)

theorem pdo_any (v u : Value) (n : NetL) (c : CaseL) (kd t : Int) (w : World) (hv : Net w v n) (hu : CaseV w u c) (hsm : SmallNet n) :
    Calls Try.prog 11 #[v, u, .agg #[.int .i64 kd, .int .i64 t]] w fun e w' => GivesC w (doC n c kd t) e w' := (pdo_own v u n c kd t w hv hu hsm).mono fun _ _ h => h.gives

end Go.Proofs.Ytffaamljogbmlaa
