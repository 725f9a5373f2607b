/- The law CasesDo, walked. (Made by tools/gen_casesdo.py.) -/
import Derived.Test.YtffaamljogbmlaaGr21
import Derived.Test.YtffaamljogbmlaaGr19
import Derived.Test.YtffaamljogbmlaaPBusy
import Derived.Deep.RegionHeld3
namespace Go.Proofs.Ytffaamljogbmlaa
open Go.RowKit
set_option linter.unusedVariables false
set_option linter.unusedSimpArgs false
set_option maxRecDepth 4000

theorem sameN_selfC (n : NetL) : sameN n n = true := by
  simp only [sameN, sameTs, sameTo, sameT, beq_self_eq_true, Bool.and_self, Bool.true_and]
  rw [List.all_eq_true]; intro _ _; rfl
theorem do3_boxes (w : World) (x y a b d e : Value) : ∃ w0, Hid (((w.alloc (.cells #[x, y] 24)).alloc (.cells #[a, b] 27)).alloc (.cells #[d, e] 29) = w0) ∧
    Box2 w0 w.heap.size x y ∧ Box2 w0 (w.heap.size + 1) a b ∧ Box2 w0 (w.heap.size + 1 + 1) d e ∧ Below w.heap.size w w0 := by
  have b1 := below_new w (.cells #[x, y] 24)
  have h1 := box2_new w x y 24
  obtain ⟨w1, H1⟩ : ∃ w1, w.alloc (.cells #[x, y] 24) = w1 := ⟨_, rfl⟩
  have s1 : w1.heap.size = w.heap.size + 1 := by rw [← H1]; simp
  rw [H1] at b1 h1 ⊢
  have b2 := below_new w1 (.cells #[a, b] 27)
  have h2 := box2_new w1 a b 27
  rw [s1] at h2
  obtain ⟨w2, H2⟩ : ∃ w2, w1.alloc (.cells #[a, b] 27) = w2 := ⟨_, rfl⟩
  have s2 : w2.heap.size = w.heap.size + 1 + 1 := by rw [← H2]; simp [s1]
  rw [H2] at b2 h2 ⊢
  have b3 := below_new w2 (.cells #[d, e] 29)
  have h3 := box2_new w2 d e 29
  rw [s2] at h3
  exact ⟨_, rfl, h1.below (below_then b2 b3), h2.below b3, h3, below_then b1 (below_then b2 b3)⟩

set_option maxHeartbeats 8000000 in
theorem casesDo_walk (v u : Value) (n : NetL) (i : Int) (c : CaseL) (kd t : Int) (w : World) (hv : Net w v n) (hu : CaseV w u c) (hbk : BulkNet n) :
    Calls Try.prog 3 #[v, .int .i64 i, u, .agg #[.int .i64 kd, .int .i64 t]] w fun e w' => e = .returned (.bool true) ∧ Below w.heap.size w w' := by
  have hsm := hbk.small
  obtain ⟨tv, rfl, hT⟩ := hv
  obtain ⟨a, l, p, a', l', p', rfl, h1, h2⟩ := hu
  obtain ⟨w0, Hw0, hbn, hbc, hbo, c0⟩ := do3_boxes w (.int .i64 n.places) tv (.slice a l p) (.slice a' l' p') (.int .i64 kd) (.int .i64 t)
  obtain ⟨x0, x1, x2⟩ := id hbn
  obtain ⟨y0, y1, y2⟩ := id hbc
  obtain ⟨o0, o1, o2⟩ := id hbo
  go_enter Try.func3, Try.ntmps3
  go_upto_region 1 with fail
  rw [Hw0.out]
  clear Hw0
  have HT : Hid (Trans w tv n.trans) := hT
  have H12 : Hid (Ints w (.slice a l p) c.mark ∧ Ints w (.slice a' l' p') c.busy) := ⟨h1, h2⟩
  clear hT h1 h2
  obtain ⟨B, HB⟩ : ∃ z, Hid (beginC n i = z) := ⟨_, rfl⟩
  obtain ⟨D, HD⟩ : ∃ z, Hid (doC n c kd t = z) := ⟨_, rfl⟩
  obtain ⟨U, HU⟩ : ∃ z, Hid (busyN n = z) := ⟨_, rfl⟩
  obtain ⟨BC, BE⟩ := B
  obtain ⟨DC, DE⟩ := D
  obtain ⟨UN, UE⟩ := U
  go_wp2_with fail
  refine (cases_begin_own _ n i w0 (by exact ⟨_, rfl, HT.out.below c0⟩)).mono ?_
  rintro e v1 ⟨r, rfl, hr1, _, b⟩
  rw [HB.out] at hr1 ⊢
  obtain ⟨a1, l1, p1, d1, m1, q1, rfl, hi1, hj1⟩ := id hr1
  clear hi1 hj1
  clear x0 x1 x2 y0 y1 y2 o0 o1 o2
  replace c0 := below_then c0 b
  replace hbn := hbn.below b
  replace hbc := hbc.below b
  replace hbo := hbo.below b
  clear b
  have bn := below_new v1 (.cells #[.slice a1 l1 p1, .slice d1 m1 q1] 27)
  have hb1 := box2_new v1 (.slice a1 l1 p1) (.slice d1 m1 q1) 27
  obtain ⟨B1, HB1⟩ : ∃ B, Hid (v1.heap.size = B) := ⟨_, rfl⟩
  rw [HB1.out] at hb1
  obtain ⟨w1, Hw1⟩ : ∃ v, Hid (v1.alloc (.cells #[.slice a1 l1 p1, .slice d1 m1 q1] 27) = v) := ⟨_, rfl⟩
  rw [Hw1.out] at bn hb1
  go_upto_region 2 with fail
  rw [Hw1.out, HB1.out]
  clear Hw1 HB1
  replace hr1 := hr1.below bn
  replace c0 := below_then c0 bn
  replace hbn := hbn.below bn
  replace hbc := hbc.below bn
  replace hbo := hbo.below bn
  clear bn
  obtain ⟨x0, x1, x2⟩ := id hbn
  obtain ⟨y0, y1, y2⟩ := id hbc
  obtain ⟨o0, o1, o2⟩ := id hbo
  go_wp2_with fail
  refine (pbegin_own _ n i w1 (by exact ⟨_, rfl, HT.out.below c0⟩) hsm).mono ?_
  rintro e v2 ⟨r, rfl, hr2, _, b⟩
  rw [HB.out] at hr2 ⊢
  obtain ⟨a2, l2, p2, d2, m2, q2, rfl, hi2, hj2⟩ := id hr2
  clear hi2 hj2
  clear x0 x1 x2 y0 y1 y2 o0 o1 o2
  replace c0 := below_then c0 b
  replace hbn := hbn.below b
  replace hbc := hbc.below b
  replace hbo := hbo.below b
  replace hb1 := hb1.below b
  replace hr1 := hr1.below b
  clear b
  have bn := below_new v2 (.cells #[.slice a2 l2 p2, .slice d2 m2 q2] 27)
  have hb2 := box2_new v2 (.slice a2 l2 p2) (.slice d2 m2 q2) 27
  obtain ⟨B2, HB2⟩ : ∃ B, Hid (v2.heap.size = B) := ⟨_, rfl⟩
  rw [HB2.out] at hb2
  obtain ⟨w2, Hw2⟩ : ∃ v, Hid (v2.alloc (.cells #[.slice a2 l2 p2, .slice d2 m2 q2] 27) = v) := ⟨_, rfl⟩
  rw [Hw2.out] at bn hb2
  go_upto_region 3 with fail
  rw [Hw2.out, HB2.out]
  clear Hw2 HB2
  replace hr2 := hr2.below bn
  replace c0 := below_then c0 bn
  replace hbn := hbn.below bn
  replace hbc := hbc.below bn
  replace hbo := hbo.below bn
  replace hb1 := hb1.below bn
  replace hr1 := hr1.below bn
  clear bn
  obtain ⟨x0, x1, x2⟩ := id hbn
  obtain ⟨y0, y1, y2⟩ := id hbc
  obtain ⟨o0, o1, o2⟩ := id hbo
  go_wp2_with fail
  refine (cases_do_own _ _ n c kd t w2 (by exact ⟨_, rfl, HT.out.below c0⟩) (by exact ⟨_, _, _, _, _, _, rfl, H12.out.1.below c0, H12.out.2.below c0⟩)).mono ?_
  rintro e v3 ⟨r, rfl, hr3, _, b⟩
  rw [HD.out] at hr3 ⊢
  obtain ⟨a3, l3, p3, d3, m3, q3, rfl, hi3, hj3⟩ := id hr3
  clear hi3 hj3
  clear x0 x1 x2 y0 y1 y2 o0 o1 o2
  replace c0 := below_then c0 b
  replace hbn := hbn.below b
  replace hbc := hbc.below b
  replace hbo := hbo.below b
  replace hb1 := hb1.below b
  replace hr1 := hr1.below b
  replace hb2 := hb2.below b
  replace hr2 := hr2.below b
  clear b
  have bn := below_new v3 (.cells #[.slice a3 l3 p3, .slice d3 m3 q3] 27)
  have hb3 := box2_new v3 (.slice a3 l3 p3) (.slice d3 m3 q3) 27
  obtain ⟨B3, HB3⟩ : ∃ B, Hid (v3.heap.size = B) := ⟨_, rfl⟩
  rw [HB3.out] at hb3
  obtain ⟨w3, Hw3⟩ : ∃ v, Hid (v3.alloc (.cells #[.slice a3 l3 p3, .slice d3 m3 q3] 27) = v) := ⟨_, rfl⟩
  rw [Hw3.out] at bn hb3
  go_upto_region 4 with fail
  rw [Hw3.out, HB3.out]
  clear Hw3 HB3
  replace hr3 := hr3.below bn
  replace c0 := below_then c0 bn
  replace hbn := hbn.below bn
  replace hbc := hbc.below bn
  replace hbo := hbo.below bn
  replace hb1 := hb1.below bn
  replace hr1 := hr1.below bn
  replace hb2 := hb2.below bn
  replace hr2 := hr2.below bn
  clear bn
  obtain ⟨x0, x1, x2⟩ := id hbn
  obtain ⟨y0, y1, y2⟩ := id hbc
  obtain ⟨o0, o1, o2⟩ := id hbo
  go_wp2_with fail
  refine (pdo_own _ _ n c kd t w3 (by exact ⟨_, rfl, HT.out.below c0⟩) (by exact ⟨_, _, _, _, _, _, rfl, H12.out.1.below c0, H12.out.2.below c0⟩) hsm).mono ?_
  rintro e v4 ⟨r, rfl, hr4, _, b⟩
  rw [HD.out] at hr4 ⊢
  obtain ⟨a4, l4, p4, d4, m4, q4, rfl, hi4, hj4⟩ := id hr4
  clear hi4 hj4
  clear x0 x1 x2 y0 y1 y2 o0 o1 o2
  replace c0 := below_then c0 b
  replace hbn := hbn.below b
  replace hbc := hbc.below b
  replace hbo := hbo.below b
  replace hb1 := hb1.below b
  replace hr1 := hr1.below b
  replace hb2 := hb2.below b
  replace hr2 := hr2.below b
  replace hb3 := hb3.below b
  replace hr3 := hr3.below b
  clear b
  have bn := below_new v4 (.cells #[.slice a4 l4 p4, .slice d4 m4 q4] 27)
  have hb4 := box2_new v4 (.slice a4 l4 p4) (.slice d4 m4 q4) 27
  obtain ⟨B4, HB4⟩ : ∃ B, Hid (v4.heap.size = B) := ⟨_, rfl⟩
  rw [HB4.out] at hb4
  obtain ⟨w4, Hw4⟩ : ∃ v, Hid (v4.alloc (.cells #[.slice a4 l4 p4, .slice d4 m4 q4] 27) = v) := ⟨_, rfl⟩
  rw [Hw4.out] at bn hb4
  go_upto_region 5 with fail
  rw [Hw4.out, HB4.out]
  clear Hw4 HB4
  replace hr4 := hr4.below bn
  replace c0 := below_then c0 bn
  replace hbn := hbn.below bn
  replace hbc := hbc.below bn
  replace hbo := hbo.below bn
  replace hb1 := hb1.below bn
  replace hr1 := hr1.below bn
  replace hb2 := hb2.below bn
  replace hr2 := hr2.below bn
  replace hb3 := hb3.below bn
  replace hr3 := hr3.below bn
  clear bn
  obtain ⟨x0, x1, x2⟩ := id hbn
  obtain ⟨y0, y1, y2⟩ := id hbc
  obtain ⟨o0, o1, o2⟩ := id hbo
  go_wp2_with fail
  refine (cases_busy _ n w4 (by exact ⟨_, rfl, HT.out.below c0⟩)).mono ?_
  rintro e v5 ⟨r, rfl, hr5, b⟩
  rw [HU.out] at hr5 ⊢
  obtain ⟨t5, rfl, ht5⟩ := id hr5
  obtain ⟨a5, l5, p5, rfl, _⟩ := id ht5
  clear ht5
  clear x0 x1 x2 y0 y1 y2 o0 o1 o2
  replace c0 := below_then c0 b
  replace hbn := hbn.below b
  replace hbc := hbc.below b
  replace hbo := hbo.below b
  replace hb1 := hb1.below b
  replace hr1 := hr1.below b
  replace hb2 := hb2.below b
  replace hr2 := hr2.below b
  replace hb3 := hb3.below b
  replace hr3 := hr3.below b
  replace hb4 := hb4.below b
  replace hr4 := hr4.below b
  clear b
  have bn := below_new v5 (.cells #[.int .i64 UN.places, .slice a5 l5 p5] 24)
  have hb5 := box2_new v5 (.int .i64 UN.places) (.slice a5 l5 p5) 24
  obtain ⟨B5, HB5⟩ : ∃ B, Hid (v5.heap.size = B) := ⟨_, rfl⟩
  rw [HB5.out] at hb5
  obtain ⟨w5, Hw5⟩ : ∃ v, Hid (v5.alloc (.cells #[.int .i64 UN.places, .slice a5 l5 p5] 24) = v) := ⟨_, rfl⟩
  rw [Hw5.out] at bn hb5
  go_upto_region 6 with fail
  rw [Hw5.out, HB5.out]
  clear Hw5 HB5
  replace hr5 := hr5.below bn
  replace c0 := below_then c0 bn
  replace hbn := hbn.below bn
  replace hbc := hbc.below bn
  replace hbo := hbo.below bn
  replace hb1 := hb1.below bn
  replace hr1 := hr1.below bn
  replace hb2 := hb2.below bn
  replace hr2 := hr2.below bn
  replace hb3 := hb3.below bn
  replace hr3 := hr3.below bn
  replace hb4 := hb4.below bn
  replace hr4 := hr4.below bn
  clear bn
  obtain ⟨x0, x1, x2⟩ := id hbn
  obtain ⟨y0, y1, y2⟩ := id hbc
  obtain ⟨o0, o1, o2⟩ := id hbo
  go_wp2_with fail
  refine (pbusy_any _ n w5 (by exact ⟨_, rfl, HT.out.below c0⟩) hsm).mono ?_
  rintro e v6 ⟨r, rfl, hr6, b⟩
  rw [HU.out] at hr6 ⊢
  obtain ⟨t6, rfl, ht6⟩ := id hr6
  obtain ⟨a6, l6, p6, rfl, _⟩ := id ht6
  clear ht6
  clear x0 x1 x2 y0 y1 y2 o0 o1 o2
  replace c0 := below_then c0 b
  replace hbn := hbn.below b
  replace hbc := hbc.below b
  replace hbo := hbo.below b
  replace hb1 := hb1.below b
  replace hr1 := hr1.below b
  replace hb2 := hb2.below b
  replace hr2 := hr2.below b
  replace hb3 := hb3.below b
  replace hr3 := hr3.below b
  replace hb4 := hb4.below b
  replace hr4 := hr4.below b
  replace hb5 := hb5.below b
  replace hr5 := hr5.below b
  clear b
  have bn := below_new v6 (.cells #[.int .i64 UN.places, .slice a6 l6 p6] 24)
  have hb6 := box2_new v6 (.int .i64 UN.places) (.slice a6 l6 p6) 24
  obtain ⟨B6, HB6⟩ : ∃ B, Hid (v6.heap.size = B) := ⟨_, rfl⟩
  rw [HB6.out] at hb6
  obtain ⟨w6, Hw6⟩ : ∃ v, Hid (v6.alloc (.cells #[.int .i64 UN.places, .slice a6 l6 p6] 24) = v) := ⟨_, rfl⟩
  rw [Hw6.out] at bn hb6
  go_upto_region 7 with fail
  rw [Hw6.out, HB6.out]
  clear Hw6 HB6
  replace hr6 := hr6.below bn
  replace c0 := below_then c0 bn
  replace hbn := hbn.below bn
  replace hbc := hbc.below bn
  replace hbo := hbo.below bn
  replace hb1 := hb1.below bn
  replace hr1 := hr1.below bn
  replace hb2 := hb2.below bn
  replace hr2 := hr2.below bn
  replace hb3 := hb3.below bn
  replace hr3 := hr3.below bn
  replace hb4 := hb4.below bn
  replace hr4 := hr4.below bn
  replace hb5 := hb5.below bn
  replace hr5 := hr5.below bn
  clear bn
  have HS : Hid (∀ w', Below w6.heap.size w6 w' → w'.cell? ⟨w.heap.size, 0, none⟩ = some (.int .i64 n.places) ∧ w'.cell? ⟨w.heap.size, 1, none⟩ = some (tv) ∧ w'.cell? ⟨w.heap.size + 1, 0, none⟩ = some (.slice a l p) ∧ w'.cell? ⟨w.heap.size + 1, 1, none⟩ = some (.slice a' l' p') ∧ w'.cell? ⟨B1, 0, none⟩ = some (.slice a1 l1 p1) ∧ w'.cell? ⟨B1, 1, none⟩ = some (.slice d1 m1 q1) ∧ w'.cell? ⟨B2, 0, none⟩ = some (.slice a2 l2 p2) ∧ w'.cell? ⟨B2, 1, none⟩ = some (.slice d2 m2 q2) ∧ w'.cell? ⟨B3, 0, none⟩ = some (.slice a3 l3 p3) ∧ w'.cell? ⟨B3, 1, none⟩ = some (.slice d3 m3 q3) ∧ w'.cell? ⟨B4, 0, none⟩ = some (.slice a4 l4 p4) ∧ w'.cell? ⟨B4, 1, none⟩ = some (.slice d4 m4 q4) ∧ w'.cell? ⟨B5, 0, none⟩ = some (.int .i64 UN.places) ∧ w'.cell? ⟨B5, 1, none⟩ = some (.slice a5 l5 p5) ∧ w'.cell? ⟨B6, 0, none⟩ = some (.int .i64 UN.places) ∧ w'.cell? ⟨B6, 1, none⟩ = some (.slice a6 l6 p6)) := fun w' h => ⟨(hbn.below h).2.1, (hbn.below h).2.2, (hbc.below h).2.1, (hbc.below h).2.2, (hb1.below h).2.1, (hb1.below h).2.2, (hb2.below h).2.1, (hb2.below h).2.2, (hb3.below h).2.1, (hb3.below h).2.2, (hb4.below h).2.1, (hb4.below h).2.2, (hb5.below h).2.1, (hb5.below h).2.2, (hb6.below h).2.1, (hb6.below h).2.2⟩
  have hbB : ∀ q : Bool, (q == q) = true := fun q => by simp
  refine wp_region_held_drew (S := (fun w' => w'.cell? ⟨w.heap.size, 0, none⟩ = some (.int .i64 n.places) ∧ w'.cell? ⟨w.heap.size, 1, none⟩ = some (tv) ∧ w'.cell? ⟨w.heap.size + 1, 0, none⟩ = some (.slice a l p) ∧ w'.cell? ⟨w.heap.size + 1, 1, none⟩ = some (.slice a' l' p') ∧ w'.cell? ⟨B1, 0, none⟩ = some (.slice a1 l1 p1) ∧ w'.cell? ⟨B1, 1, none⟩ = some (.slice d1 m1 q1) ∧ w'.cell? ⟨B2, 0, none⟩ = some (.slice a2 l2 p2) ∧ w'.cell? ⟨B2, 1, none⟩ = some (.slice d2 m2 q2) ∧ w'.cell? ⟨B3, 0, none⟩ = some (.slice a3 l3 p3) ∧ w'.cell? ⟨B3, 1, none⟩ = some (.slice d3 m3 q3) ∧ w'.cell? ⟨B4, 0, none⟩ = some (.slice a4 l4 p4) ∧ w'.cell? ⟨B4, 1, none⟩ = some (.slice d4 m4 q4) ∧ w'.cell? ⟨B5, 0, none⟩ = some (.int .i64 UN.places) ∧ w'.cell? ⟨B5, 1, none⟩ = some (.slice a5 l5 p5) ∧ w'.cell? ⟨B6, 0, none⟩ = some (.int .i64 UN.places) ∧ w'.cell? ⟨B6, 1, none⟩ = some (.slice a6 l6 p6))) (by kernel_rfl) (HS.out _ (Below.refl _ _).drew) (fun hH => ?_)
  have b : Below w6.heap.size w6 w6.drew := (Below.refl _ _).drew
  obtain ⟨z0, Hz0⟩ : ∃ z, Hid (w6.drew = z) := ⟨_, rfl⟩
  rw [Hz0.out] at hH b ⊢
  clear Hz0 hbn hbc hbo hb1 hb2 hb3 hb4 hb5 hb6
  refine wpAnyH_take (i := 0) (v := .int .i64 BE) rfl (by kernel_rfl) (by kernel_rfl) (by kernel_rfl) (fun _ _ _ h => h) (.inl ⟨by rfl, fun _ _ => rfl⟩) hH ?_
  simp only [List.getElem_toArray, List.getElem_cons_succ, List.getElem_cons_zero, Act.put, List.setIfInBounds_toArray, List.set_cons_zero, List.set_cons_succ]
  refine wpAnyH_take (i := 1) (v := .int .i64 BE) rfl (by kernel_rfl) (by kernel_rfl) (by kernel_rfl) (fun _ _ _ h => h) (.inl ⟨by rfl, fun _ _ => rfl⟩) hH ?_
  simp only [List.getElem_toArray, List.getElem_cons_succ, List.getElem_cons_zero, Act.put, List.setIfInBounds_toArray, List.set_cons_zero, List.set_cons_succ]
  refine wpAnyH_take (i := 2) (v := .bool true) rfl (by kernel_rfl) (by kernel_rfl) (by kernel_rfl) (fun _ _ _ h => h) (.inl ⟨by rfl, fun w' hS' => by first | (go_simp; done) | (go_simp; rfl) | (go_simp; intro h; omega) | (go_simp; omega)⟩) hH ?_
  simp only [List.getElem_toArray, List.getElem_cons_succ, List.getElem_cons_zero, Act.put, List.setIfInBounds_toArray, List.set_cons_zero, List.set_cons_succ]
  refine wpAnyH_take (i := 3) (v := .bool true) rfl (by kernel_rfl) (by kernel_rfl) (by kernel_rfl) (fun _ _ _ h => h) (.inl ⟨by rfl, fun _ _ => rfl⟩) hH ?_
  simp only [List.getElem_toArray, List.getElem_cons_succ, List.getElem_cons_zero, Act.put, List.setIfInBounds_toArray, List.set_cons_zero, List.set_cons_succ]
  refine wpAnyH_take (i := 4) (v := .agg #[.slice a1 l1 p1, .slice d1 m1 q1]) rfl (by kernel_rfl) (by kernel_rfl) (by kernel_rfl) (fun _ _ _ h => h) (.inl ⟨by rfl, fun w' hS' => by obtain ⟨s0, s1, s2, s3, s4, s5, s6, s7, s8, s9, s10, s11, s12, s13, s14, s15⟩ := hS'; go_simp⟩) hH ?_
  simp only [List.getElem_toArray, List.getElem_cons_succ, List.getElem_cons_zero, Act.put, List.setIfInBounds_toArray, List.set_cons_zero, List.set_cons_succ]
  refine wpAnyH_take (i := 5) (v := .agg #[.slice a2 l2 p2, .slice d2 m2 q2]) rfl (by kernel_rfl) (by kernel_rfl) (by kernel_rfl) (fun _ _ _ h => h) (.inl ⟨by rfl, fun w' hS' => by obtain ⟨s0, s1, s2, s3, s4, s5, s6, s7, s8, s9, s10, s11, s12, s13, s14, s15⟩ := hS'; go_simp⟩) hH ?_
  simp only [List.getElem_toArray, List.getElem_cons_succ, List.getElem_cons_zero, Act.put, List.setIfInBounds_toArray, List.set_cons_zero, List.set_cons_succ]
  refine wpAnyH_ready (rs := [6]) (by kernel_rfl) (by simp) ?_
  refine AllReadyH.cons rfl (fun K hK => ?_) AllReadyH.nil
  simp only [List.getElem_toArray, List.getElem_cons_succ, List.getElem_cons_zero]
  rw [if_pos (by rfl)]
  go_wp2_with fail
  refine (samecase_any _ _ BC BC z0 (by exact hr1.below b) (by exact hr2.below b)).mono ?_
  rintro e z1 ⟨rfl, bs⟩
  replace b := below_then b bs
  rw [sameC_self]
  refine hK.out _ _ (HS.out _ b) (fun hH => ?_)
  clear hK bs
  refine wpAnyH_take (i := 7) (v := .bool true) rfl (by kernel_rfl) (by kernel_rfl) (by kernel_rfl) (fun _ _ _ h => h) (.inl ⟨by rfl, fun _ _ => rfl⟩) hH ?_
  simp only [List.getElem_toArray, List.getElem_cons_succ, List.getElem_cons_zero, Act.put, List.setIfInBounds_toArray, List.set_cons_zero, List.set_cons_succ]
  refine wpAnyH_take (i := 8) (v := .bool true) rfl (by kernel_rfl) (by kernel_rfl) (by kernel_rfl) (fun _ _ _ h => h) (.inl ⟨by rfl, fun _ _ => rfl⟩) hH ?_
  simp only [List.getElem_toArray, List.getElem_cons_succ, List.getElem_cons_zero, Act.put, List.setIfInBounds_toArray, List.set_cons_zero, List.set_cons_succ]
  refine wpAnyH_take (i := 9) (v := .agg #[.int .i64 n.places, tv]) rfl (by kernel_rfl) (by kernel_rfl) (by kernel_rfl) (fun _ _ _ h => h) (.inl ⟨by rfl, fun w' hS' => by obtain ⟨s0, s1, s2, s3, s4, s5, s6, s7, s8, s9, s10, s11, s12, s13, s14, s15⟩ := hS'; go_simp⟩) hH ?_
  simp only [List.getElem_toArray, List.getElem_cons_succ, List.getElem_cons_zero, Act.put, List.setIfInBounds_toArray, List.set_cons_zero, List.set_cons_succ]
  refine wpAnyH_take (i := 10) (v := .agg #[.slice a l p, .slice a' l' p']) rfl (by kernel_rfl) (by kernel_rfl) (by kernel_rfl) (fun _ _ _ h => h) (.inl ⟨by rfl, fun w' hS' => by obtain ⟨s0, s1, s2, s3, s4, s5, s6, s7, s8, s9, s10, s11, s12, s13, s14, s15⟩ := hS'; go_simp⟩) hH ?_
  simp only [List.getElem_toArray, List.getElem_cons_succ, List.getElem_cons_zero, Act.put, List.setIfInBounds_toArray, List.set_cons_zero, List.set_cons_succ]
  refine wpAnyH_take (i := 12) (v := .agg #[.int .i64 n.places, tv]) rfl (by kernel_rfl) (by kernel_rfl) (by kernel_rfl) (fun _ _ _ h => h) (.inl ⟨by rfl, fun w' hS' => by obtain ⟨s0, s1, s2, s3, s4, s5, s6, s7, s8, s9, s10, s11, s12, s13, s14, s15⟩ := hS'; go_simp⟩) hH ?_
  simp only [List.getElem_toArray, List.getElem_cons_succ, List.getElem_cons_zero, Act.put, List.setIfInBounds_toArray, List.set_cons_zero, List.set_cons_succ]
  refine wpAnyH_take (i := 13) (v := .agg #[.slice a l p, .slice a' l' p']) rfl (by kernel_rfl) (by kernel_rfl) (by kernel_rfl) (fun _ _ _ h => h) (.inl ⟨by rfl, fun w' hS' => by obtain ⟨s0, s1, s2, s3, s4, s5, s6, s7, s8, s9, s10, s11, s12, s13, s14, s15⟩ := hS'; go_simp⟩) hH ?_
  simp only [List.getElem_toArray, List.getElem_cons_succ, List.getElem_cons_zero, Act.put, List.setIfInBounds_toArray, List.set_cons_zero, List.set_cons_succ]
  refine wpAnyH_ready (rs := [11]) (by kernel_rfl) (by simp) ?_
  refine AllReadyH.cons rfl (fun K hK => ?_) AllReadyH.nil
  simp only [List.getElem_toArray, List.getElem_cons_succ, List.getElem_cons_zero]
  rw [if_pos (by rfl)]
  go_wp2_with fail
  refine (cases_right _ _ n c z1 (by exact ⟨_, rfl, HT.out.below (below_then c0 b)⟩) (by exact ⟨_, _, _, _, _, _, rfl, H12.out.1.below (below_then c0 b), H12.out.2.below (below_then c0 b)⟩)).mono ?_
  rintro e z2 ⟨rfl, bs⟩
  replace b := below_then b bs
  skip
  refine hK.out _ _ (HS.out _ b) (fun hH => ?_)
  clear hK bs
  refine wpAnyH_ready (rs := [14]) (by kernel_rfl) (by simp) ?_
  refine AllReadyH.cons rfl (fun K hK => ?_) AllReadyH.nil
  simp only [List.getElem_toArray, List.getElem_cons_succ, List.getElem_cons_zero]
  rw [if_pos (by rfl)]
  go_wp2_with fail
  refine (pright_any _ _ n c z2 (by exact ⟨_, rfl, HT.out.below (below_then c0 b)⟩) (by exact ⟨_, _, _, _, _, _, rfl, H12.out.1.below (below_then c0 b), H12.out.2.below (below_then c0 b)⟩) hsm).mono ?_
  rintro e z3 ⟨rfl, bs⟩
  replace b := below_then b bs
  skip
  refine hK.out _ _ (HS.out _ b) (fun hH => ?_)
  clear hK bs
  refine wpAnyH_take (i := 15) (v := .bool true) rfl (by kernel_rfl) (by kernel_rfl) (by kernel_rfl) (fun _ _ _ h => h) (.inl ⟨by rfl, fun w' hS' => by first | (go_simp; done) | (go_simp; rfl) | (go_simp; intro h; omega) | (go_simp; omega)⟩) hH ?_
  simp only [List.getElem_toArray, List.getElem_cons_succ, List.getElem_cons_zero, Act.put, List.setIfInBounds_toArray, List.set_cons_zero, List.set_cons_succ]
  refine wpAnyH_take (i := 16) (v := .bool true) rfl (by kernel_rfl) (by kernel_rfl) (by kernel_rfl) (fun _ _ _ h => h) (.inl ⟨by rfl, fun _ _ => rfl⟩) hH ?_
  simp only [List.getElem_toArray, List.getElem_cons_succ, List.getElem_cons_zero, Act.put, List.setIfInBounds_toArray, List.set_cons_zero, List.set_cons_succ]
  refine wpAnyH_take (i := 17) (v := .bool true) rfl (by kernel_rfl) (by kernel_rfl) (by kernel_rfl) (fun _ _ _ h => h) (.inl ⟨by rfl, fun _ _ => rfl⟩) hH ?_
  simp only [List.getElem_toArray, List.getElem_cons_succ, List.getElem_cons_zero, Act.put, List.setIfInBounds_toArray, List.set_cons_zero, List.set_cons_succ]
  refine wpAnyH_take (i := 18) (v := .int .i64 DE) rfl (by kernel_rfl) (by kernel_rfl) (by kernel_rfl) (fun _ _ _ h => h) (.inl ⟨by rfl, fun _ _ => rfl⟩) hH ?_
  simp only [List.getElem_toArray, List.getElem_cons_succ, List.getElem_cons_zero, Act.put, List.setIfInBounds_toArray, List.set_cons_zero, List.set_cons_succ]
  refine wpAnyH_take (i := 19) (v := .int .i64 DE) rfl (by kernel_rfl) (by kernel_rfl) (by kernel_rfl) (fun _ _ _ h => h) (.inl ⟨by rfl, fun _ _ => rfl⟩) hH ?_
  simp only [List.getElem_toArray, List.getElem_cons_succ, List.getElem_cons_zero, Act.put, List.setIfInBounds_toArray, List.set_cons_zero, List.set_cons_succ]
  refine wpAnyH_take (i := 20) (v := .bool true) rfl (by kernel_rfl) (by kernel_rfl) (by kernel_rfl) (fun _ _ _ h => h) (.inl ⟨by rfl, fun w' hS' => by first | (go_simp; done) | (go_simp; rfl) | (go_simp; intro h; omega) | (go_simp; omega)⟩) hH ?_
  simp only [List.getElem_toArray, List.getElem_cons_succ, List.getElem_cons_zero, Act.put, List.setIfInBounds_toArray, List.set_cons_zero, List.set_cons_succ]
  refine wpAnyH_take (i := 21) (v := .bool true) rfl (by kernel_rfl) (by kernel_rfl) (by kernel_rfl) (fun _ _ _ h => h) (.inl ⟨by rfl, fun _ _ => rfl⟩) hH ?_
  simp only [List.getElem_toArray, List.getElem_cons_succ, List.getElem_cons_zero, Act.put, List.setIfInBounds_toArray, List.set_cons_zero, List.set_cons_succ]
  refine wpAnyH_take (i := 22) (v := .bool true) rfl (by kernel_rfl) (by kernel_rfl) (by kernel_rfl) (fun _ _ _ h => h) (.inl ⟨by rfl, fun _ _ => rfl⟩) hH ?_
  simp only [List.getElem_toArray, List.getElem_cons_succ, List.getElem_cons_zero, Act.put, List.setIfInBounds_toArray, List.set_cons_zero, List.set_cons_succ]
  refine wpAnyH_take (i := 23) (v := .agg #[.slice a3 l3 p3, .slice d3 m3 q3]) rfl (by kernel_rfl) (by kernel_rfl) (by kernel_rfl) (fun _ _ _ h => h) (.inl ⟨by rfl, fun w' hS' => by obtain ⟨s0, s1, s2, s3, s4, s5, s6, s7, s8, s9, s10, s11, s12, s13, s14, s15⟩ := hS'; go_simp⟩) hH ?_
  simp only [List.getElem_toArray, List.getElem_cons_succ, List.getElem_cons_zero, Act.put, List.setIfInBounds_toArray, List.set_cons_zero, List.set_cons_succ]
  refine wpAnyH_take (i := 24) (v := .agg #[.slice a4 l4 p4, .slice d4 m4 q4]) rfl (by kernel_rfl) (by kernel_rfl) (by kernel_rfl) (fun _ _ _ h => h) (.inl ⟨by rfl, fun w' hS' => by obtain ⟨s0, s1, s2, s3, s4, s5, s6, s7, s8, s9, s10, s11, s12, s13, s14, s15⟩ := hS'; go_simp⟩) hH ?_
  simp only [List.getElem_toArray, List.getElem_cons_succ, List.getElem_cons_zero, Act.put, List.setIfInBounds_toArray, List.set_cons_zero, List.set_cons_succ]
  refine wpAnyH_ready (rs := [25]) (by kernel_rfl) (by simp) ?_
  refine AllReadyH.cons rfl (fun K hK => ?_) AllReadyH.nil
  simp only [List.getElem_toArray, List.getElem_cons_succ, List.getElem_cons_zero]
  rw [if_pos (by rfl)]
  go_wp2_with fail
  refine (samecase_any _ _ DC DC z3 (by exact hr3.below b) (by exact hr4.below b)).mono ?_
  rintro e z4 ⟨rfl, bs⟩
  replace b := below_then b bs
  rw [sameC_self]
  refine hK.out _ _ (HS.out _ b) (fun hH => ?_)
  clear hK bs
  refine wpAnyH_take (i := 26) (v := .bool true) rfl (by kernel_rfl) (by kernel_rfl) (by kernel_rfl) (fun _ _ _ h => h) (.inl ⟨by rfl, fun _ _ => rfl⟩) hH ?_
  simp only [List.getElem_toArray, List.getElem_cons_succ, List.getElem_cons_zero, Act.put, List.setIfInBounds_toArray, List.set_cons_zero, List.set_cons_succ]
  refine wpAnyH_take (i := 27) (v := .bool true) rfl (by kernel_rfl) (by kernel_rfl) (by kernel_rfl) (fun _ _ _ h => h) (.inl ⟨by rfl, fun _ _ => rfl⟩) hH ?_
  simp only [List.getElem_toArray, List.getElem_cons_succ, List.getElem_cons_zero, Act.put, List.setIfInBounds_toArray, List.set_cons_zero, List.set_cons_succ]
  refine wpAnyH_take (i := 28) (v := .int .i64 UE) rfl (by kernel_rfl) (by kernel_rfl) (by kernel_rfl) (fun _ _ _ h => h) (.inl ⟨by rfl, fun _ _ => rfl⟩) hH ?_
  simp only [List.getElem_toArray, List.getElem_cons_succ, List.getElem_cons_zero, Act.put, List.setIfInBounds_toArray, List.set_cons_zero, List.set_cons_succ]
  refine wpAnyH_take (i := 29) (v := .int .i64 UE) rfl (by kernel_rfl) (by kernel_rfl) (by kernel_rfl) (fun _ _ _ h => h) (.inl ⟨by rfl, fun _ _ => rfl⟩) hH ?_
  simp only [List.getElem_toArray, List.getElem_cons_succ, List.getElem_cons_zero, Act.put, List.setIfInBounds_toArray, List.set_cons_zero, List.set_cons_succ]
  refine wpAnyH_take (i := 30) (v := .bool true) rfl (by kernel_rfl) (by kernel_rfl) (by kernel_rfl) (fun _ _ _ h => h) (.inl ⟨by rfl, fun w' hS' => by first | (go_simp; done) | (go_simp; rfl) | (go_simp; intro h; omega) | (go_simp; omega)⟩) hH ?_
  simp only [List.getElem_toArray, List.getElem_cons_succ, List.getElem_cons_zero, Act.put, List.setIfInBounds_toArray, List.set_cons_zero, List.set_cons_succ]
  refine wpAnyH_take (i := 31) (v := .bool true) rfl (by kernel_rfl) (by kernel_rfl) (by kernel_rfl) (fun _ _ _ h => h) (.inl ⟨by rfl, fun _ _ => rfl⟩) hH ?_
  simp only [List.getElem_toArray, List.getElem_cons_succ, List.getElem_cons_zero, Act.put, List.setIfInBounds_toArray, List.set_cons_zero, List.set_cons_succ]
  refine wpAnyH_take (i := 32) (v := .bool true) rfl (by kernel_rfl) (by kernel_rfl) (by kernel_rfl) (fun _ _ _ h => h) (.inl ⟨by rfl, fun _ _ => rfl⟩) hH ?_
  simp only [List.getElem_toArray, List.getElem_cons_succ, List.getElem_cons_zero, Act.put, List.setIfInBounds_toArray, List.set_cons_zero, List.set_cons_succ]
  refine wpAnyH_take (i := 33) (v := .agg #[.int .i64 UN.places, .slice a5 l5 p5]) rfl (by kernel_rfl) (by kernel_rfl) (by kernel_rfl) (fun _ _ _ h => h) (.inl ⟨by rfl, fun w' hS' => by obtain ⟨s0, s1, s2, s3, s4, s5, s6, s7, s8, s9, s10, s11, s12, s13, s14, s15⟩ := hS'; go_simp⟩) hH ?_
  simp only [List.getElem_toArray, List.getElem_cons_succ, List.getElem_cons_zero, Act.put, List.setIfInBounds_toArray, List.set_cons_zero, List.set_cons_succ]
  refine wpAnyH_take (i := 34) (v := .agg #[.int .i64 UN.places, .slice a6 l6 p6]) rfl (by kernel_rfl) (by kernel_rfl) (by kernel_rfl) (fun _ _ _ h => h) (.inl ⟨by rfl, fun w' hS' => by obtain ⟨s0, s1, s2, s3, s4, s5, s6, s7, s8, s9, s10, s11, s12, s13, s14, s15⟩ := hS'; go_simp⟩) hH ?_
  simp only [List.getElem_toArray, List.getElem_cons_succ, List.getElem_cons_zero, Act.put, List.setIfInBounds_toArray, List.set_cons_zero, List.set_cons_succ]
  refine wpAnyH_ready (rs := [35]) (by kernel_rfl) (by simp) ?_
  refine AllReadyH.cons rfl (fun K hK => ?_) AllReadyH.nil
  simp only [List.getElem_toArray, List.getElem_cons_succ, List.getElem_cons_zero]
  rw [if_pos (by rfl)]
  go_wp2_with fail
  refine (samenet_any _ _ UN UN z4 (by exact hr5.below b) (by exact hr6.below b)).mono ?_
  rintro e z5 ⟨rfl, bs⟩
  replace b := below_then b bs
  rw [sameN_selfC]
  refine hK.out _ _ (HS.out _ b) (fun hH => ?_)
  clear hK bs
  refine wpAnyH_take (i := 36) (v := .bool true) rfl (by kernel_rfl) (by kernel_rfl) (by kernel_rfl) (fun _ _ _ h => h) (.inl ⟨by rfl, fun _ _ => rfl⟩) hH ?_
  simp only [List.getElem_toArray, List.getElem_cons_succ, List.getElem_cons_zero, Act.put, List.setIfInBounds_toArray, List.set_cons_zero, List.set_cons_succ]
  refine wpAnyH_take (i := 37) (v := .bool true) rfl (by kernel_rfl) (by kernel_rfl) (by kernel_rfl) (fun _ _ _ h => h) (.inl ⟨by rfl, fun _ _ => rfl⟩) hH ?_
  simp only [List.getElem_toArray, List.getElem_cons_succ, List.getElem_cons_zero, Act.put, List.setIfInBounds_toArray, List.set_cons_zero, List.set_cons_succ]
  refine wpAnyH_done (by kernel_rfl) ?_ _
  go_wp2
  go_ret
  exact ⟨rfl, below_then c0 b⟩
  
  end Go.Proofs.Ytffaamljogbmlaa
