/- Two logs together show what both show. -/
import Derived.Test.YtlknegihhcdhbaaGr16
import Derived.Test.YtlknegihhcdhbaaTrSum2
import Derived.Test.YtlknegihhcdhbaaGr12
namespace Go.Proofs.Ytlknegihhcdhbaa
open Go.RowKit
set_option linter.unusedVariables false
set_option linter.unusedSimpArgs false
set_option maxRecDepth 4000

theorem ofL_snd (log : List (List Int)) : (ofL log).2 = wrongV log := by
  unfold ofL
  split
  · rename_i h; exact h.symm
  · rfl
theorem ofL_fst {log : List (List Int)} (h : wrongV log = 0) : (ofL log).1 = printsOf log := by unfold ofL; rw [if_pos h]

set_option maxHeartbeats 8000000 in
theorem tracksSum_law (v u : Value) (a b : List (List Int)) (w : World) (hv : Lists w v a) (hu : Lists w u b) (ha : a.length ≤ 1048576) (hb : b.length ≤ 1048576) :
    Calls Try.prog 4 #[v, u] w fun e w' => e = .returned (.bool true) ∧ Below w.heap.size w w' := by
  obtain ⟨la, lc, rfl, _, _⟩ := hv.slice
  obtain ⟨ua, uc, rfl, _, _⟩ := hu.slice
  have HA : Hid (a.length + b.length ≤ 5864062014805) := by show _ ≤ _; omega
  have HW : Hid (wrongV a = 0 → wrongV b = 0 → wrongV (b ++ a) = 0 ∨ wrongV (b ++ a) = 4) := fun h k => wrong_both h k
  go_enter Try.func4, Try.ntmps4
  go_wp2_with fail
  refine (alive22_any _).mono ?_
  rintro e w0 ⟨rfl, b0⟩
  replace hv := hv.below b0
  replace hu := hu.below b0
  have c := b0
  clear b0
  obtain ⟨⟨A0, A1, A2, A3⟩, erA, HOA⟩ : ∃ Pr er, Hid (ofL a = (Pr, er)) := ⟨_, _, rfl⟩
  go_wp2_with fail
  refine (of_any _ a _ (by exact hv)).mono ?_
  rw [HOA.out]
  rintro e w1' ⟨r, rfl, ⟨v0, v1, v2, v3, rfl, qA0, qA1, qA2, qA3⟩, bb⟩
  obtain ⟨x0, xc0, rfl⟩ := ints_slice qA0
  obtain ⟨x1, xc1, rfl⟩ := ints_slice qA1
  obtain ⟨x2, xc2, rfl⟩ := ints_slice qA2
  obtain ⟨x3, xc3, rfl⟩ := pairs_slice qA3
  simp only at qA0 qA1 qA2 qA3 ⊢
  have hA := box4_new w1' (.slice x0 A0.length xc0) (.slice x1 A1.length xc1) (.slice x2 A2.length xc2) (.slice x3 A3.length xc3) 26
  have bn := below_new w1' (.cells #[.slice x0 A0.length xc0, .slice x1 A1.length xc1, .slice x2 A2.length xc2, .slice x3 A3.length xc3] 26)
  obtain ⟨X, HXA⟩ : ∃ x, Hid (w1'.heap.size = x) := ⟨_, rfl⟩
  obtain ⟨w1, HWA⟩ : ∃ u, Hid (w1'.alloc (.cells #[.slice x0 A0.length xc0, .slice x1 A1.length xc1, .slice x2 A2.length xc2, .slice x3 A3.length xc3] 26) = u) := ⟨_, rfl⟩
  replace qA0 := qA0.below bn
  replace qA1 := qA1.below bn
  replace qA2 := qA2.below bn
  replace qA3 := qA3.below bn
  have bs := below_then bb bn
  rw [HWA.out] at hA qA0 qA1 qA2 qA3 bs
  rw [HXA.out] at hA
  replace c := below_then c bs
  replace hv := hv.below bs
  replace hu := hu.below bs
  go_upto_region 4 with fail
  rw [HXA.out, HWA.out]
  clear HXA HWA bn bb bs
  obtain ⟨⟨B0, B1, B2, B3⟩, erB, HOB⟩ : ∃ Pr er, Hid (ofL b = (Pr, er)) := ⟨_, _, rfl⟩
  go_wp2_with fail
  refine (of_any _ b _ (by exact hu)).mono ?_
  rw [HOB.out]
  rintro e w2' ⟨r, rfl, ⟨v0, v1, v2, v3, rfl, qB0, qB1, qB2, qB3⟩, bb⟩
  obtain ⟨y0, yc0, rfl⟩ := ints_slice qB0
  obtain ⟨y1, yc1, rfl⟩ := ints_slice qB1
  obtain ⟨y2, yc2, rfl⟩ := ints_slice qB2
  obtain ⟨y3, yc3, rfl⟩ := pairs_slice qB3
  simp only at qB0 qB1 qB2 qB3 ⊢
  have hB := box4_new w2' (.slice y0 B0.length yc0) (.slice y1 B1.length yc1) (.slice y2 B2.length yc2) (.slice y3 B3.length yc3) 26
  have bn := below_new w2' (.cells #[.slice y0 B0.length yc0, .slice y1 B1.length yc1, .slice y2 B2.length yc2, .slice y3 B3.length yc3] 26)
  obtain ⟨Y, HXB⟩ : ∃ x, Hid (w2'.heap.size = x) := ⟨_, rfl⟩
  obtain ⟨w2, HWB⟩ : ∃ u, Hid (w2'.alloc (.cells #[.slice y0 B0.length yc0, .slice y1 B1.length yc1, .slice y2 B2.length yc2, .slice y3 B3.length yc3] 26) = u) := ⟨_, rfl⟩
  replace qB0 := qB0.below bn
  replace qB1 := qB1.below bn
  replace qB2 := qB2.below bn
  replace qB3 := qB3.below bn
  have bs := below_then bb bn
  rw [HWB.out] at hB qB0 qB1 qB2 qB3 bs
  rw [HXB.out] at hB
  replace c := below_then c bs
  replace hv := hv.below bs
  replace hu := hu.below bs
  replace hA := hA.below bs
  replace qA0 := qA0.below bs
  replace qA1 := qA1.below bs
  replace qA2 := qA2.below bs
  replace qA3 := qA3.below bs
  go_upto_region 5 with fail
  rw [HXB.out, HWB.out]
  clear HXB HWB bn bb bs
  go_wp2_with fail
  refine (concat_logs _ _ b a _ _ (by exact hu) (by exact hv) (by have := HA.out; omega)).mono ?_
  rintro e w3 ⟨r3, rfl, hr3, bs⟩
  obtain ⟨ra, rc, rfl, _, _⟩ := hr3.slice
  obtain ⟨N3, HN3⟩ : ∃ n, Hid ((b ++ a).length = n) := ⟨_, rfl⟩
  rw [HN3.out] at hr3 ⊢
  replace c := below_then c bs
  replace hA := hA.below bs
  replace qA0 := qA0.below bs
  replace qA1 := qA1.below bs
  replace qA2 := qA2.below bs
  replace qA3 := qA3.below bs
  replace hB := hB.below bs
  replace qB0 := qB0.below bs
  replace qB1 := qB1.below bs
  replace qB2 := qB2.below bs
  replace qB3 := qB3.below bs
  clear bs hv hu
  obtain ⟨⟨C0, C1, C2, C3⟩, erC, HOC⟩ : ∃ Pr er, Hid (ofL (b ++ a) = (Pr, er)) := ⟨_, _, rfl⟩
  go_wp2_with fail
  refine (of_any _ (b ++ a) _ (by exact hr3)).mono ?_
  rw [HOC.out]
  rintro e w4' ⟨r, rfl, ⟨v0, v1, v2, v3, rfl, qC0, qC1, qC2, qC3⟩, bb⟩
  obtain ⟨z0, zc0, rfl⟩ := ints_slice qC0
  obtain ⟨z1, zc1, rfl⟩ := ints_slice qC1
  obtain ⟨z2, zc2, rfl⟩ := ints_slice qC2
  obtain ⟨z3, zc3, rfl⟩ := pairs_slice qC3
  simp only at qC0 qC1 qC2 qC3 ⊢
  have hC := box4_new w4' (.slice z0 C0.length zc0) (.slice z1 C1.length zc1) (.slice z2 C2.length zc2) (.slice z3 C3.length zc3) 26
  have bn := below_new w4' (.cells #[.slice z0 C0.length zc0, .slice z1 C1.length zc1, .slice z2 C2.length zc2, .slice z3 C3.length zc3] 26)
  obtain ⟨Z, HXC⟩ : ∃ x, Hid (w4'.heap.size = x) := ⟨_, rfl⟩
  obtain ⟨w4, HWC⟩ : ∃ u, Hid (w4'.alloc (.cells #[.slice z0 C0.length zc0, .slice z1 C1.length zc1, .slice z2 C2.length zc2, .slice z3 C3.length zc3] 26) = u) := ⟨_, rfl⟩
  replace qC0 := qC0.below bn
  replace qC1 := qC1.below bn
  replace qC2 := qC2.below bn
  replace qC3 := qC3.below bn
  have bs := below_then bb bn
  rw [HWC.out] at hC qC0 qC1 qC2 qC3 bs
  rw [HXC.out] at hC
  replace c := below_then c bs
  replace hA := hA.below bs
  replace qA0 := qA0.below bs
  replace qA1 := qA1.below bs
  replace qA2 := qA2.below bs
  replace qA3 := qA3.below bs
  replace hB := hB.below bs
  replace qB0 := qB0.below bs
  replace qB1 := qB1.below bs
  replace qB2 := qB2.below bs
  replace qB3 := qB3.below bs
  go_upto_region 6 with fail
  rw [HXC.out, HWC.out]
  clear HXC HWC bn bb bs hr3
  have eA : Hid (erA = wrongV a) := by show _ = _; rw [← ofL_snd, HOA.out]
  have eB : Hid (erB = wrongV b) := by show _ = _; rw [← ofL_snd, HOB.out]
  have eC : Hid (erC = wrongV (b ++ a)) := by show _ = _; rw [← ofL_snd, HOC.out]
  by_cases gA : erA = 0
  · subst gA
    by_cases gB : erB = 0
    · subst gB
      by_cases gC : erC = 0
      · subst gC
        have PA : Hid ((⟨A0, A1, A2, A3⟩ : PrintsL) = printsOf a) := by show _ = _; rw [← ofL_fst eA.out.symm, HOA.out]
        have PB : Hid ((⟨B0, B1, B2, B3⟩ : PrintsL) = printsOf b) := by show _ = _; rw [← ofL_fst eB.out.symm, HOB.out]
        have PC : Hid ((⟨C0, C1, C2, C3⟩ : PrintsL) = printsOf (b ++ a)) := by show _ = _; rw [← ofL_fst eC.out.symm, HOC.out]
        clear HOA HOB HOC eA eB eC HW
        have l0 : Hid (∀ ys : List Int, ys.Pairwise (· < ·) → (∀ t, t ∈ ys ↔ t ∈ A0 ∨ t ∈ B0) → ys = C0) := fun ys h1 h2 => by
          have e1 : A0 = _ := congrArg PrintsL.labels PA.out
          have e2 : B0 = _ := congrArg PrintsL.labels PB.out
          have e3 : C0 = _ := congrArg PrintsL.labels PC.out
          rw [e3]; rw [e1, e2] at h2; exact sum_labels (f := inT) h1 h2
        have l1 : Hid (∀ ys : List Int, ys.Pairwise (· < ·) → (∀ t, t ∈ ys ↔ t ∈ A1 ∨ t ∈ B1) → ys = C1) := fun ys h1 h2 => by
          have e1 : A1 = _ := congrArg PrintsL.first PA.out
          have e2 : B1 = _ := congrArg PrintsL.first PB.out
          have e3 : C1 = _ := congrArg PrintsL.first PC.out
          rw [e3]; rw [e1, e2] at h2; exact sum_labels (f := firstT) h1 h2
        have l2 : Hid (∀ ys : List Int, ys.Pairwise (· < ·) → (∀ t, t ∈ ys ↔ t ∈ A2 ∨ t ∈ B2) → ys = C2) := fun ys h1 h2 => by
          have e1 : A2 = _ := congrArg PrintsL.last PA.out
          have e2 : B2 = _ := congrArg PrintsL.last PB.out
          have e3 : C2 = _ := congrArg PrintsL.last PC.out
          rw [e3]; rw [e1, e2] at h2; exact sum_labels (f := lastT) h1 h2
        have l3 : Hid (∀ ys : List (Int × Int), ys.Pairwise ltP → (∀ t, t ∈ ys ↔ t ∈ A3 ∨ t ∈ B3) → ys = C3) := fun ys h1 h2 => by
          have e1 : A3 = _ := congrArg PrintsL.behind PA.out
          have e2 : B3 = _ := congrArg PrintsL.behind PB.out
          have e3 : C3 = _ := congrArg PrintsL.behind PC.out
          rw [e3]; rw [e1, e2] at h2; exact sum_pairs h1 h2
        have hl26 : ∀ p : Int → Bool, (labels26.filter p).length ≤ 26 := fun p => Nat.le_trans (List.length_filter_le _ _) (by decide)
        have hl676 : ∀ p : Int × Int → Bool, (pairs26.filter p).length ≤ 676 := fun p => Nat.le_trans (List.length_filter_le _ _) (by decide +kernel)
        have hpr : ∀ log, (printsOf log).labels.length ≤ 26 ∧ (printsOf log).first.length ≤ 26 ∧ (printsOf log).last.length ≤ 26 ∧ (printsOf log).behind.length ≤ 676 := fun log => by
          unfold printsOf
          dsimp only
          exact ⟨hl26 _, hl26 _, hl26 _, hl676 _⟩
        have sA : Hid (A0.length ≤ 26 ∧ A1.length ≤ 26 ∧ A2.length ≤ 26 ∧ A3.length ≤ 676) := by
          rw [show A0 = _ from congrArg PrintsL.labels PA.out, show A1 = _ from congrArg PrintsL.first PA.out, show A2 = _ from congrArg PrintsL.last PA.out, show A3 = _ from congrArg PrintsL.behind PA.out]
          exact hpr a
        have sB : Hid (B0.length ≤ 26 ∧ B1.length ≤ 26 ∧ B2.length ≤ 26 ∧ B3.length ≤ 676) := by
          rw [show B0 = _ from congrArg PrintsL.labels PB.out, show B1 = _ from congrArg PrintsL.first PB.out, show B2 = _ from congrArg PrintsL.last PB.out, show B3 = _ from congrArg PrintsL.behind PB.out]
          exact hpr b
        clear hl26 hl676 hpr PA PB PC HA ha hb
        obtain ⟨kA, kA0, kA1, kA2, kA3⟩ := id hA
        obtain ⟨kB, kB0, kB1, kB2, kB3⟩ := id hB
        obtain ⟨kC, kC0, kC1, kC2, kC3⟩ := id hC
        go_wp2_with fail
        refine (concat_prs _ _ A3 B3 _ _ (by exact qA3) (by exact qB3) (by have := sA.out; have := sB.out; omega)).mono ?_
        rintro e w5 ⟨r5, rfl, hO5⟩
        have hn5 := below_new w4 (.cells #[.slice x3 A3.length xc3, .slice y3 B3.length yc3] 24)
        have b5 := below_then hn5 hO5.2.1
        clear hn5
        have hl5 : (A3 ++ B3).length ≤ 8796093022208 := by rw [List.length_append]; have := sA.out; have := sB.out; omega
        go_wp2_with fail
        refine (sortFS_any _ _ _ _ _ hO5 hl5).mono ?_
        rintro e w6 ⟨rfl, ts, hperm, hsrt, hO6⟩
        have b6 : Below w4.heap.size w4 w6 := below_then (below_new w4 (.cells #[.slice x3 A3.length xc3, .slice y3 B3.length yc3] 24)) hO6.2.1
        have hts : ts.length ≤ 8796093022208 := by rw [hperm.length_eq]; exact hl5
        have hmts : Hid (∀ t, t ∈ ts ↔ t ∈ A3 ∨ t ∈ B3) := fun t => by rw [hperm.mem_iff, List.mem_append]
        clear hperm hO5 hl5 b5
        obtain ⟨pa, pc, hpv⟩ : ∃ a c, r5 = .slice a ts.length c := by
          rcases hO6.1.2 with ⟨e, hz⟩ | ⟨gb, cap, cur, e, _⟩
          · exact ⟨none, 0, by rw [e, hz]⟩
          · exact ⟨_, _, e⟩
        subst hpv
        have hc : Hid (Below w.heap.size w w4) := c
        clear c kA0 kA1 kA2 kA3 kB0 kB1 kB2 kB3 kC0 kC1 kC2 kC3 kA kB kC
        obtain ⟨wr, rfl⟩ : ∃ z, z = w6 := ⟨_, rfl⟩
        go_upto_region 10 with fail
        have HS : Hid (∀ w', Below w4.heap.size w4 w' → (fun w' => w'.cell? ⟨X, 0, none⟩ = some (.slice x0 A0.length xc0) ∧ w'.cell? ⟨X, 1, none⟩ = some (.slice x1 A1.length xc1) ∧ w'.cell? ⟨X, 2, none⟩ = some (.slice x2 A2.length xc2) ∧ w'.cell? ⟨Y, 0, none⟩ = some (.slice y0 B0.length yc0) ∧ w'.cell? ⟨Y, 1, none⟩ = some (.slice y1 B1.length yc1) ∧ w'.cell? ⟨Y, 2, none⟩ = some (.slice y2 B2.length yc2) ∧ w'.cell? ⟨Z, 0, none⟩ = some (.slice z0 C0.length zc0) ∧ w'.cell? ⟨Z, 1, none⟩ = some (.slice z1 C1.length zc1) ∧ w'.cell? ⟨Z, 2, none⟩ = some (.slice z2 C2.length zc2) ∧ w'.cell? ⟨Z, 3, none⟩ = some (.slice z3 C3.length zc3)) w') := fun w' b => ⟨(hA.below b).2.1, (hA.below b).2.2.1, (hA.below b).2.2.2.1, (hB.below b).2.1, (hB.below b).2.2.1, (hB.below b).2.2.2.1, (hC.below b).2.1, (hC.below b).2.2.1, (hC.below b).2.2.2.1, (hC.below b).2.2.2.2⟩
        refine wp_region_held_drew (S := (fun w' => w'.cell? ⟨X, 0, none⟩ = some (.slice x0 A0.length xc0) ∧ w'.cell? ⟨X, 1, none⟩ = some (.slice x1 A1.length xc1) ∧ w'.cell? ⟨X, 2, none⟩ = some (.slice x2 A2.length xc2) ∧ w'.cell? ⟨Y, 0, none⟩ = some (.slice y0 B0.length yc0) ∧ w'.cell? ⟨Y, 1, none⟩ = some (.slice y1 B1.length yc1) ∧ w'.cell? ⟨Y, 2, none⟩ = some (.slice y2 B2.length yc2) ∧ w'.cell? ⟨Z, 0, none⟩ = some (.slice z0 C0.length zc0) ∧ w'.cell? ⟨Z, 1, none⟩ = some (.slice z1 C1.length zc1) ∧ w'.cell? ⟨Z, 2, none⟩ = some (.slice z2 C2.length zc2) ∧ w'.cell? ⟨Z, 3, none⟩ = some (.slice z3 C3.length zc3))) (by kernel_rfl) (HS.out _ (b6.drew)) (fun hH => ?_)
        have b7 : Below w4.heap.size w4 wr.drew := b6.drew
        refine wpAnyH_take (i := 0) (v := .pointer (some ⟨Z, 0, none⟩)) rfl (by kernel_rfl) (by kernel_rfl) (by kernel_rfl) (fun _ _ _ h => h) (.inl ⟨by rfl, fun w' hS' => by first | (go_simp; done) | (go_simp; rfl) | (go_simp; intro h; omega) | (go_simp; omega)⟩) hH ?_
        simp only [List.getElem_toArray, List.getElem_cons_succ, List.getElem_cons_zero, Act.put, List.setIfInBounds_toArray, List.set_cons_zero, List.set_cons_succ]
        refine wpAnyH_take (i := 1) (v := .slice z0 C0.length zc0) rfl (by kernel_rfl) (by kernel_rfl) (by kernel_rfl) (fun _ _ _ h => h) (.inl ⟨by rfl, fun w' hS' => by obtain ⟨s0, s1, s2, s3, s4, s5, s6, s7, s8, s9⟩ := hS'; go_simp⟩) hH ?_
        simp only [List.getElem_toArray, List.getElem_cons_succ, List.getElem_cons_zero, Act.put, List.setIfInBounds_toArray, List.set_cons_zero, List.set_cons_succ]
        refine wpAnyH_take (i := 2) (v := .pointer (some ⟨X, 0, none⟩)) rfl (by kernel_rfl) (by kernel_rfl) (by kernel_rfl) (fun _ _ _ h => h) (.inl ⟨by rfl, fun w' hS' => by first | (go_simp; done) | (go_simp; rfl) | (go_simp; intro h; omega) | (go_simp; omega)⟩) hH ?_
        simp only [List.getElem_toArray, List.getElem_cons_succ, List.getElem_cons_zero, Act.put, List.setIfInBounds_toArray, List.set_cons_zero, List.set_cons_succ]
        refine wpAnyH_take (i := 3) (v := .slice x0 A0.length xc0) rfl (by kernel_rfl) (by kernel_rfl) (by kernel_rfl) (fun _ _ _ h => h) (.inl ⟨by rfl, fun w' hS' => by obtain ⟨s0, s1, s2, s3, s4, s5, s6, s7, s8, s9⟩ := hS'; go_simp⟩) hH ?_
        simp only [List.getElem_toArray, List.getElem_cons_succ, List.getElem_cons_zero, Act.put, List.setIfInBounds_toArray, List.set_cons_zero, List.set_cons_succ]
        refine wpAnyH_take (i := 4) (v := .pointer (some ⟨Y, 0, none⟩)) rfl (by kernel_rfl) (by kernel_rfl) (by kernel_rfl) (fun _ _ _ h => h) (.inl ⟨by rfl, fun w' hS' => by first | (go_simp; done) | (go_simp; rfl) | (go_simp; intro h; omega) | (go_simp; omega)⟩) hH ?_
        simp only [List.getElem_toArray, List.getElem_cons_succ, List.getElem_cons_zero, Act.put, List.setIfInBounds_toArray, List.set_cons_zero, List.set_cons_succ]
        refine wpAnyH_take (i := 5) (v := .slice y0 B0.length yc0) rfl (by kernel_rfl) (by kernel_rfl) (by kernel_rfl) (fun _ _ _ h => h) (.inl ⟨by rfl, fun w' hS' => by obtain ⟨s0, s1, s2, s3, s4, s5, s6, s7, s8, s9⟩ := hS'; go_simp⟩) hH ?_
        simp only [List.getElem_toArray, List.getElem_cons_succ, List.getElem_cons_zero, Act.put, List.setIfInBounds_toArray, List.set_cons_zero, List.set_cons_succ]
        refine wpAnyH_ready (rs := [6]) (by kernel_rfl) (by simp) ?_
        refine AllReadyH.cons rfl (fun K hK => ?_) AllReadyH.nil
        simp only [List.getElem_toArray, List.getElem_cons_succ, List.getElem_cons_zero]
        rw [if_pos (by rfl)]
        go_wp2_with fail
        refine (union_any _ _ A0 B0 _ (by exact qA0.below b7) (by exact qB0.below b7) (by have := sA.out; have := sB.out; omega)).mono ?_
        rintro e w8 ⟨ru0, ys0, rfl, hy0, hp0, hm0, bu0⟩
        obtain rfl := l0.out ys0 hp0 hm0
        obtain ⟨ra0, rcc0, rfl⟩ := ints_slice hy0
        have b8 := below_then b7 bu0
        clear hp0 hm0
        refine hK.out _ _ (HS.out _ b8) (fun hH => ?_)
        clear hK
        refine wpAnyH_ready (rs := [7]) (by kernel_rfl) (by simp) ?_
        refine AllReadyH.cons rfl (fun K hK => ?_) AllReadyH.nil
        simp only [List.getElem_toArray, List.getElem_cons_succ, List.getElem_cons_zero]
        rw [if_pos (by rfl)]
        go_wp2_with fail
        refine (equal_b _ _ ys0 ys0 _ (by exact qC0.below b8) (by exact hy0)).mono ?_
        rintro e w9 ⟨rfl, be0⟩
        rw [beq_self_eq_true]
        have b9 := below_then b8 be0
        refine hK.out _ _ (HS.out _ b9) (fun hH => ?_)
        clear hK
        refine wpAnyH_take (i := 8) (v := .bool true) rfl (by kernel_rfl) (by kernel_rfl) (by kernel_rfl) (fun _ _ _ h => h) (.inl ⟨by rfl, fun _ _ => rfl⟩) hH ?_
        simp only [List.getElem_toArray, List.getElem_cons_succ, List.getElem_cons_zero, Act.put, List.setIfInBounds_toArray, List.set_cons_zero, List.set_cons_succ]
        refine wpAnyH_take (i := 9) (v := .pointer (some ⟨Z, 1, none⟩)) rfl (by kernel_rfl) (by kernel_rfl) (by kernel_rfl) (fun _ _ _ h => h) (.inl ⟨by rfl, fun w' hS' => by first | (go_simp; done) | (go_simp; rfl) | (go_simp; intro h; omega) | (go_simp; omega)⟩) hH ?_
        simp only [List.getElem_toArray, List.getElem_cons_succ, List.getElem_cons_zero, Act.put, List.setIfInBounds_toArray, List.set_cons_zero, List.set_cons_succ]
        refine wpAnyH_take (i := 10) (v := .slice z1 C1.length zc1) rfl (by kernel_rfl) (by kernel_rfl) (by kernel_rfl) (fun _ _ _ h => h) (.inl ⟨by rfl, fun w' hS' => by obtain ⟨s0, s1, s2, s3, s4, s5, s6, s7, s8, s9⟩ := hS'; go_simp⟩) hH ?_
        simp only [List.getElem_toArray, List.getElem_cons_succ, List.getElem_cons_zero, Act.put, List.setIfInBounds_toArray, List.set_cons_zero, List.set_cons_succ]
        refine wpAnyH_take (i := 11) (v := .pointer (some ⟨X, 1, none⟩)) rfl (by kernel_rfl) (by kernel_rfl) (by kernel_rfl) (fun _ _ _ h => h) (.inl ⟨by rfl, fun w' hS' => by first | (go_simp; done) | (go_simp; rfl) | (go_simp; intro h; omega) | (go_simp; omega)⟩) hH ?_
        simp only [List.getElem_toArray, List.getElem_cons_succ, List.getElem_cons_zero, Act.put, List.setIfInBounds_toArray, List.set_cons_zero, List.set_cons_succ]
        refine wpAnyH_take (i := 12) (v := .slice x1 A1.length xc1) rfl (by kernel_rfl) (by kernel_rfl) (by kernel_rfl) (fun _ _ _ h => h) (.inl ⟨by rfl, fun w' hS' => by obtain ⟨s0, s1, s2, s3, s4, s5, s6, s7, s8, s9⟩ := hS'; go_simp⟩) hH ?_
        simp only [List.getElem_toArray, List.getElem_cons_succ, List.getElem_cons_zero, Act.put, List.setIfInBounds_toArray, List.set_cons_zero, List.set_cons_succ]
        refine wpAnyH_take (i := 13) (v := .pointer (some ⟨Y, 1, none⟩)) rfl (by kernel_rfl) (by kernel_rfl) (by kernel_rfl) (fun _ _ _ h => h) (.inl ⟨by rfl, fun w' hS' => by first | (go_simp; done) | (go_simp; rfl) | (go_simp; intro h; omega) | (go_simp; omega)⟩) hH ?_
        simp only [List.getElem_toArray, List.getElem_cons_succ, List.getElem_cons_zero, Act.put, List.setIfInBounds_toArray, List.set_cons_zero, List.set_cons_succ]
        refine wpAnyH_take (i := 14) (v := .slice y1 B1.length yc1) rfl (by kernel_rfl) (by kernel_rfl) (by kernel_rfl) (fun _ _ _ h => h) (.inl ⟨by rfl, fun w' hS' => by obtain ⟨s0, s1, s2, s3, s4, s5, s6, s7, s8, s9⟩ := hS'; go_simp⟩) hH ?_
        simp only [List.getElem_toArray, List.getElem_cons_succ, List.getElem_cons_zero, Act.put, List.setIfInBounds_toArray, List.set_cons_zero, List.set_cons_succ]
        refine wpAnyH_ready (rs := [15]) (by kernel_rfl) (by simp) ?_
        refine AllReadyH.cons rfl (fun K hK => ?_) AllReadyH.nil
        simp only [List.getElem_toArray, List.getElem_cons_succ, List.getElem_cons_zero]
        rw [if_pos (by rfl)]
        go_wp2_with fail
        refine (union_any _ _ A1 B1 _ (by exact qA1.below b9) (by exact qB1.below b9) (by have := sA.out; have := sB.out; omega)).mono ?_
        rintro e w10 ⟨ru1, ys1, rfl, hy1, hp1, hm1, bu1⟩
        obtain rfl := l1.out ys1 hp1 hm1
        obtain ⟨ra1, rcc1, rfl⟩ := ints_slice hy1
        have b10 := below_then b9 bu1
        clear hp1 hm1
        refine hK.out _ _ (HS.out _ b10) (fun hH => ?_)
        clear hK
        refine wpAnyH_ready (rs := [16]) (by kernel_rfl) (by simp) ?_
        refine AllReadyH.cons rfl (fun K hK => ?_) AllReadyH.nil
        simp only [List.getElem_toArray, List.getElem_cons_succ, List.getElem_cons_zero]
        rw [if_pos (by rfl)]
        go_wp2_with fail
        refine (equal_b _ _ ys1 ys1 _ (by exact qC1.below b10) (by exact hy1)).mono ?_
        rintro e w11 ⟨rfl, be1⟩
        rw [beq_self_eq_true]
        have b11 := below_then b10 be1
        refine hK.out _ _ (HS.out _ b11) (fun hH => ?_)
        clear hK
        refine wpAnyH_take (i := 17) (v := .bool true) rfl (by kernel_rfl) (by kernel_rfl) (by kernel_rfl) (fun _ _ _ h => h) (.inl ⟨by rfl, fun _ _ => rfl⟩) hH ?_
        simp only [List.getElem_toArray, List.getElem_cons_succ, List.getElem_cons_zero, Act.put, List.setIfInBounds_toArray, List.set_cons_zero, List.set_cons_succ]
        refine wpAnyH_take (i := 18) (v := .bool true) rfl (by kernel_rfl) (by kernel_rfl) (by kernel_rfl) (fun _ _ _ h => h) (.inl ⟨by rfl, fun _ _ => rfl⟩) hH ?_
        simp only [List.getElem_toArray, List.getElem_cons_succ, List.getElem_cons_zero, Act.put, List.setIfInBounds_toArray, List.set_cons_zero, List.set_cons_succ]
        refine wpAnyH_take (i := 19) (v := .pointer (some ⟨Z, 2, none⟩)) rfl (by kernel_rfl) (by kernel_rfl) (by kernel_rfl) (fun _ _ _ h => h) (.inl ⟨by rfl, fun w' hS' => by first | (go_simp; done) | (go_simp; rfl) | (go_simp; intro h; omega) | (go_simp; omega)⟩) hH ?_
        simp only [List.getElem_toArray, List.getElem_cons_succ, List.getElem_cons_zero, Act.put, List.setIfInBounds_toArray, List.set_cons_zero, List.set_cons_succ]
        refine wpAnyH_take (i := 20) (v := .slice z2 C2.length zc2) rfl (by kernel_rfl) (by kernel_rfl) (by kernel_rfl) (fun _ _ _ h => h) (.inl ⟨by rfl, fun w' hS' => by obtain ⟨s0, s1, s2, s3, s4, s5, s6, s7, s8, s9⟩ := hS'; go_simp⟩) hH ?_
        simp only [List.getElem_toArray, List.getElem_cons_succ, List.getElem_cons_zero, Act.put, List.setIfInBounds_toArray, List.set_cons_zero, List.set_cons_succ]
        refine wpAnyH_take (i := 21) (v := .pointer (some ⟨X, 2, none⟩)) rfl (by kernel_rfl) (by kernel_rfl) (by kernel_rfl) (fun _ _ _ h => h) (.inl ⟨by rfl, fun w' hS' => by first | (go_simp; done) | (go_simp; rfl) | (go_simp; intro h; omega) | (go_simp; omega)⟩) hH ?_
        simp only [List.getElem_toArray, List.getElem_cons_succ, List.getElem_cons_zero, Act.put, List.setIfInBounds_toArray, List.set_cons_zero, List.set_cons_succ]
        refine wpAnyH_take (i := 22) (v := .slice x2 A2.length xc2) rfl (by kernel_rfl) (by kernel_rfl) (by kernel_rfl) (fun _ _ _ h => h) (.inl ⟨by rfl, fun w' hS' => by obtain ⟨s0, s1, s2, s3, s4, s5, s6, s7, s8, s9⟩ := hS'; go_simp⟩) hH ?_
        simp only [List.getElem_toArray, List.getElem_cons_succ, List.getElem_cons_zero, Act.put, List.setIfInBounds_toArray, List.set_cons_zero, List.set_cons_succ]
        refine wpAnyH_take (i := 23) (v := .pointer (some ⟨Y, 2, none⟩)) rfl (by kernel_rfl) (by kernel_rfl) (by kernel_rfl) (fun _ _ _ h => h) (.inl ⟨by rfl, fun w' hS' => by first | (go_simp; done) | (go_simp; rfl) | (go_simp; intro h; omega) | (go_simp; omega)⟩) hH ?_
        simp only [List.getElem_toArray, List.getElem_cons_succ, List.getElem_cons_zero, Act.put, List.setIfInBounds_toArray, List.set_cons_zero, List.set_cons_succ]
        refine wpAnyH_take (i := 24) (v := .slice y2 B2.length yc2) rfl (by kernel_rfl) (by kernel_rfl) (by kernel_rfl) (fun _ _ _ h => h) (.inl ⟨by rfl, fun w' hS' => by obtain ⟨s0, s1, s2, s3, s4, s5, s6, s7, s8, s9⟩ := hS'; go_simp⟩) hH ?_
        simp only [List.getElem_toArray, List.getElem_cons_succ, List.getElem_cons_zero, Act.put, List.setIfInBounds_toArray, List.set_cons_zero, List.set_cons_succ]
        refine wpAnyH_ready (rs := [25]) (by kernel_rfl) (by simp) ?_
        refine AllReadyH.cons rfl (fun K hK => ?_) AllReadyH.nil
        simp only [List.getElem_toArray, List.getElem_cons_succ, List.getElem_cons_zero]
        rw [if_pos (by rfl)]
        go_wp2_with fail
        refine (union_any _ _ A2 B2 _ (by exact qA2.below b11) (by exact qB2.below b11) (by have := sA.out; have := sB.out; omega)).mono ?_
        rintro e w12 ⟨ru2, ys2, rfl, hy2, hp2, hm2, bu2⟩
        obtain rfl := l2.out ys2 hp2 hm2
        obtain ⟨ra2, rcc2, rfl⟩ := ints_slice hy2
        have b12 := below_then b11 bu2
        clear hp2 hm2
        refine hK.out _ _ (HS.out _ b12) (fun hH => ?_)
        clear hK
        refine wpAnyH_ready (rs := [26]) (by kernel_rfl) (by simp) ?_
        refine AllReadyH.cons rfl (fun K hK => ?_) AllReadyH.nil
        simp only [List.getElem_toArray, List.getElem_cons_succ, List.getElem_cons_zero]
        rw [if_pos (by rfl)]
        go_wp2_with fail
        refine (equal_b _ _ ys2 ys2 _ (by exact qC2.below b12) (by exact hy2)).mono ?_
        rintro e w13 ⟨rfl, be2⟩
        rw [beq_self_eq_true]
        have b13 := below_then b12 be2
        refine hK.out _ _ (HS.out _ b13) (fun hH => ?_)
        clear hK
        refine wpAnyH_take (i := 27) (v := .bool true) rfl (by kernel_rfl) (by kernel_rfl) (by kernel_rfl) (fun _ _ _ h => h) (.inl ⟨by rfl, fun _ _ => rfl⟩) hH ?_
        simp only [List.getElem_toArray, List.getElem_cons_succ, List.getElem_cons_zero, Act.put, List.setIfInBounds_toArray, List.set_cons_zero, List.set_cons_succ]
        refine wpAnyH_take (i := 28) (v := .bool true) rfl (by kernel_rfl) (by kernel_rfl) (by kernel_rfl) (fun _ _ _ h => h) (.inl ⟨by rfl, fun _ _ => rfl⟩) hH ?_
        simp only [List.getElem_toArray, List.getElem_cons_succ, List.getElem_cons_zero, Act.put, List.setIfInBounds_toArray, List.set_cons_zero, List.set_cons_succ]
        refine wpAnyH_take (i := 29) (v := .pointer (some ⟨Z, 3, none⟩)) rfl (by kernel_rfl) (by kernel_rfl) (by kernel_rfl) (fun _ _ _ h => h) (.inl ⟨by rfl, fun w' hS' => by first | (go_simp; done) | (go_simp; rfl) | (go_simp; intro h; omega) | (go_simp; omega)⟩) hH ?_
        simp only [List.getElem_toArray, List.getElem_cons_succ, List.getElem_cons_zero, Act.put, List.setIfInBounds_toArray, List.set_cons_zero, List.set_cons_succ]
        refine wpAnyH_take (i := 30) (v := .slice z3 C3.length zc3) rfl (by kernel_rfl) (by kernel_rfl) (by kernel_rfl) (fun _ _ _ h => h) (.inl ⟨by rfl, fun w' hS' => by obtain ⟨s0, s1, s2, s3, s4, s5, s6, s7, s8, s9⟩ := hS'; go_simp⟩) hH ?_
        simp only [List.getElem_toArray, List.getElem_cons_succ, List.getElem_cons_zero, Act.put, List.setIfInBounds_toArray, List.set_cons_zero, List.set_cons_succ]
        refine wpAnyH_take (i := 31) (v := .slice pa ts.length pc) rfl (by kernel_rfl) (by kernel_rfl) (by kernel_rfl) (fun _ _ _ h => h) (.inl ⟨by rfl, fun _ _ => rfl⟩) hH ?_
        simp only [List.getElem_toArray, List.getElem_cons_succ, List.getElem_cons_zero, Act.put, List.setIfInBounds_toArray, List.set_cons_zero, List.set_cons_succ]
        refine wpAnyH_ready (rs := [32]) (by kernel_rfl) (by simp) ?_
        refine AllReadyH.cons rfl (fun K hK => ?_) AllReadyH.nil
        simp only [List.getElem_toArray, List.getElem_cons_succ, List.getElem_cons_zero]
        rw [if_pos (by rfl)]
        go_wp2_with fail
        have bq : Below wr.heap.size wr w13 := below_then (below_then (below_then (below_then (below_then (below_then (Below.refl wr.heap.size wr).drew bu0) be0) bu1) be1) bu2) be2
        refine (compactP_own _ _ _ _ ts (OwnC.trans hO6 bq) hsrt hts).mono ?_
        rintro e w14 ⟨ru3, ys3, rfl, hy3, hp3, hm3, bu3⟩
        obtain rfl := l3.out ys3 hp3 (fun t => by rw [hm3, hmts.out])
        obtain ⟨ra3, rcc3, rfl⟩ := pairs_slice hy3
        have b14 : Below w4.heap.size w4 w14 := below_then (below_new w4 (.cells #[.slice x3 A3.length xc3, .slice y3 B3.length yc3] 24)) bu3
        refine hK.out _ _ (HS.out _ b14) (fun hH => ?_)
        clear hK
        refine wpAnyH_ready (rs := [33]) (by kernel_rfl) (by simp) ?_
        refine AllReadyH.cons rfl (fun K hK => ?_) AllReadyH.nil
        simp only [List.getElem_toArray, List.getElem_cons_succ, List.getElem_cons_zero]
        rw [if_pos (by rfl)]
        go_wp2_with fail
        refine (eqpairs_same _ _ ys3 _ (by exact qC3.below b14) (by exact hy3)).mono ?_
        rintro e w15 ⟨rfl, be3⟩
        have b15 := below_then b14 be3
        refine hK.out _ _ (HS.out _ b15) (fun hH => ?_)
        clear hK
        refine wpAnyH_take (i := 34) (v := .bool true) rfl (by kernel_rfl) (by kernel_rfl) (by kernel_rfl) (fun _ _ _ h => h) (.inl ⟨by rfl, fun _ _ => rfl⟩) hH ?_
        simp only [List.getElem_toArray, List.getElem_cons_succ, List.getElem_cons_zero, Act.put, List.setIfInBounds_toArray, List.set_cons_zero, List.set_cons_succ]
        refine wpAnyH_take (i := 35) (v := .bool true) rfl (by kernel_rfl) (by kernel_rfl) (by kernel_rfl) (fun _ _ _ h => h) (.inl ⟨by rfl, fun _ _ => rfl⟩) hH ?_
        simp only [List.getElem_toArray, List.getElem_cons_succ, List.getElem_cons_zero, Act.put, List.setIfInBounds_toArray, List.set_cons_zero, List.set_cons_succ]
        refine wpAnyH_done (by kernel_rfl) ?_ _
        have hend := below_then hc.out b15
        clear hH HS
        go_wp2
        go_ret
        exact ⟨rfl, hend⟩
      · have q := HW.out eA.out.symm eB.out.symm
        rw [← eC.out] at q
        rcases q with q | q
        · exact absurd q gC
        · subst q
          go_wp2
          go_ret
          exact ⟨rfl, c⟩
    · have n1 : (erB == 0) = false := by rw [beq_eq_false_iff_ne]; exact gB
      have n2 : (erB != 0) = true := by rw [bne_iff_ne]; exact gB
      go_wp2
      go_ret
      exact ⟨rfl, c⟩
  · have n1 : (erA == 0) = false := by rw [beq_eq_false_iff_ne]; exact gA
    have n2 : (erA != 0) = true := by rw [bne_iff_ne]; exact gA
    go_wp2
    go_ret
    exact ⟨rfl, c⟩

theorem tracksSum_walk (v0 v1 : Value) (x0 x1 : List (List Int)) (W : World) (i0 : Lists W v0 x0) (i1 : Lists W v1 x1) (h0 : x0.length ≤ 1048576) (h1 : x1.length ≤ 1048576) :
    Calls Try.prog 4 #[v0, v1] W fun e W' => e = .returned (.bool true) ∧ Below W.heap.size W W' := tracksSum_law v0 v1 x0 x1 W i0 i1 h0 h1

end Go.Proofs.Ytlknegihhcdhbaa