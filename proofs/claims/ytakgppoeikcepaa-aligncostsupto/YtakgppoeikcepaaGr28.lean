import Derived.Test.YtakgppoeikcepaaGr22
import Derived.Test.YtakgppoeikcepaaGr05
import Derived.Test.YtakgppoeikcepaaShapeDev
import Derived.Test.YtakgppoeikcepaaReachDev
import Derived.Test.YtakgppoeikcepaaGr17
import Derived.Test.YtakgppoeikcepaaGr00
import Derived.Test.YtakgppoeikcepaaGr06
/- Package tongue as it landed: heard. -/
namespace Go.Proofs.Ytakgppoeikcepaa
open Go.RowKit Go.Shelf
set_option linter.unusedVariables false
set_option linter.unusedSimpArgs false
set_option maxRecDepth 4000

/-- What heard answers. -/
def Heard (w' : World) (n : NetL) (i o : Int) (p : Option Addr) (d : Int) : Prop :=
  (¬ d = 0 ∧ p = none ∧ (Judged n i o d ∨ (ShapeOk n i o ∧ (graphL n (startL n.places i) 300).2 = d))) ∨
  (d = 0 ∧ ShapeOk n i o ∧ ∃ s, graphL n (startL n.places i) 300 = (s, 0) ∧ ∃ T bn lv t, p = some ⟨T, 0, none⟩ ∧ TalkAt w' T bn lv t ∧ TalkOk n s (startL n.places o) t)

set_option maxRecDepth 100000 in
set_option maxHeartbeats 8000000 in
theorem heard_any (v : Value) (n : NetL) (i o : Int) (w : World) (hv : Net w v n) :
    Calls Try.prog 25 #[v, .int .i64 i, .int .i64 o] w fun e w' => ∃ p d, e = .returned (.tuple #[.pointer p, .int .i64 d]) ∧ Heard w' n i o p d ∧ Below w.heap.size w w' := by
  obtain ⟨tv, rfl, hT⟩ := hv
  have c : Below w.heap.size w (w.alloc (.cells #[.int .i64 n.places, tv] 24)) := below_new _ _
  have hbx := box2_new w (.int .i64 n.places) tv 24
  obtain ⟨w0, Hw0⟩ : ∃ w0, Hid (w.alloc (.cells #[.int .i64 n.places, tv] 24) = w0) := ⟨_, rfl⟩
  rw [Hw0.out] at c hbx
  have hv : Net w0 (.agg #[.int .i64 n.places, tv]) n := ⟨_, rfl, hT.below c⟩
  obtain ⟨x0, x1, x2⟩ := id hbx
  go_enter Try.func25, Try.ntmps25
  go_upto_region 1 with fail
  rw [Hw0.out]
  clear Hw0
  go_wp2_with fail
  clear x0 x1 x2
  refine (shape_wrong _ n i o _ (by exact hv)).mono ?_
  rintro e w1 ⟨d, rfl, hd, b⟩
  replace hbx := hbx.below b
  replace hv := hv.below b
  replace c := below_then c b
  clear b
  by_cases hd0 : d = 0
  · subst hd0
    have HS : Hid (ShapeOk n i o) := hd.zero
    clear hd
    obtain ⟨x0, x1, x2⟩ := id hbx
    go_upto_region 4 with fail
    have hdr : Below w1.heap.size w1 w1.drew := (Below.refl _ _).drew
    have hvd := hv.below hdr
    have hvn := hvd.below (below_new w1.drew (.cells #[.slice none 0 0, .slice none 0 0] 49))
    have Hne : Hid (startL n.places i ≠ []) := by intro e; have h1 := start_len HS.out.ok i; have h2 := two_places HS.out; rw [e] at h1; simp at h1; omega
    obtain ⟨G, HG⟩ : ∃ G, Hid (graphL n (startL n.places i) 300 = G) := ⟨_, rfl⟩
    have Hfl : Hid (∀ j, j < G.1.marks.length → markAt G.1.marks j ≠ []) := by have := graph_full (n := n) (most := 300) Hne.out; rw [HG.out] at this; exact this
    go_cut [9, 10] (fun p q wc => ∃ bx mv av, p = .pointer (some ⟨bx, 0, none⟩) ∧ q = .int .i64 G.2 ∧ Box2 wc bx mv av ∧ Space wc (.agg #[mv, av]) G.1 ∧ Below w1.heap.size w1 wc)
    case first =>
      go_region_held3 (fun w' => w'.cell? ⟨w.heap.size, 0, none⟩ = some (.int .i64 n.places) ∧ w'.cell? ⟨w.heap.size, 1, none⟩ = some tv)
        (first | exact ⟨f1, f2⟩ | go_keep)
        (first
          | (go_at_call 10; refine (shape_start_own _ n i _ ?_).mono ?_; (first | exact hvd | exact hvn); rintro e w2 ⟨r1, rfl, hOn, hOb⟩; have hI := hOn.now; (first | (have hnb : NilBox w2 w1.heap.size := (nilBox_new w1.drew).below hOb; have q2 := below_then (below_then hdr (below_new w1.drew (.cells #[.slice none 0 0, .slice none 0 0] 49))) hOb) | (have q2 := below_then hdr hOb)); have hv2 := hv.below q2; obtain ⟨y0, y1, y2⟩ := hbx.below q2)
          | (go_at_call 15; refine (reach_graph _ _ n (startL n.places i) 300 _ ?_ ?_).mono ?_; (first | exact hv2 | exact hv2.below (below_new w2 (.cells #[.slice none 0 0, .slice none 0 0] 49))); (first | exact hI | exact hI.below (below_new w2 (.cells #[.slice none 0 0, .slice none 0 0] 49))); rw [HG.out]; rintro e w3 ⟨r2, rfl, hSp, b3⟩; (first | (have hnb3 := (nilBox_new w2).below b3; have q3 := below_then q2 (below_then (below_new w2 (.cells #[.slice none 0 0, .slice none 0 0] 49)) b3); have hlt3 : w.heap.size < w2.heap.size := y0) | (have hnb3 := hnb.below b3; have q3 := below_then q2 b3; have hlt3 : w.heap.size < w1.heap.size := x0) | (have q3 := below_then q2 b3)); obtain ⟨mv, av, rfl, hMv, hAv⟩ := id hSp; obtain ⟨am, cm, rfl, _, _⟩ := hMv.slice; obtain ⟨aa, ca, hav, _⟩ := hAv.slice; rw [List.length_map] at hav; subst hav; obtain ⟨z0, z1, z2⟩ := hbx.below q3; (first | (obtain ⟨n0, n1, n2, n3, n4⟩ := hnb3.at; have hf := hnb3.fill hSp Hfl.out; have f1 := (hf.2.2.cell (p := ⟨w.heap.size, 0, none⟩) hlt3).trans z1; have f2 := (hf.2.2.cell (p := ⟨w.heap.size, 1, none⟩) hlt3).trans z2) | skip)))
      all_goals
        go_wp2_with fail
        go_meet
        first
          | exact ⟨_, _, _, rfl, rfl, hf.2.1, hf.1, q3.trans (hf.2.2.mono (Nat.le_refl _))⟩
          | exact ⟨_, _, _, rfl, rfl, hf.2.1, hf.1, q3.trans (hf.2.2.mono q2.size)⟩
          | exact ⟨_, _, _, rfl, rfl, box2_new w3 _ _ _, hSp.below (below_new w3 _), below_then q3 (below_new w3 _)⟩
    obtain ⟨bx, mv, av, rfl, rfl, hbs, hSp, b4⟩ := hcut
    obtain ⟨w4, rfl⟩ : ∃ w0, w0 = wc := ⟨_, rfl⟩
    replace hbx := hbx.below b4
    replace hv := hv.below b4
    replace c := below_then c b4
    clear hvd hvn hdr b4 x0 x1 x2 Hne
    obtain ⟨s, dg⟩ := G
    simp only at hSp Hfl ⊢
    by_cases hg0 : dg = 0
    · subst hg0
      clear Hfl
      have HW : Hid (Whole n (startL n.places i) s) := graphL_whole HG.out
      have Hsm : Hid (s.marks.length ≤ 300) := by have := graphL_small n (startL n.places i) 300; rw [HG.out] at this; exact this
      have Harcs : Hid (∀ a ∈ s.arcs, a.frm < s.marks.length ∧ a.dst < s.marks.length ∧ a.tran < n.trans.length ∧ 0 ≤ labT n a.tran) := fun a ha => by
        obtain ⟨h1, h2, h3, _⟩ := HW.out.sound a ha
        exact ⟨h1, h2, h3, (lab_ok HS.out.ok _ h3).1⟩
      have Hml : Hid (∀ m, m < s.marks.length → (markAt s.marks m).length = (startL n.places o).length) := fun m hm => by
        have h1 : ((markAt s.marks m).length : Int) = n.places := by obtain ⟨most, k, hF, hk⟩ := HW.out; exact (fits_net (hF.fits _ (markAt_mem hm))).2.1
        have h2 := start_len HS.out.ok o
        show _ = _
        omega
      have Hpos : Hid (0 < s.marks.length) := HW.out.here.1
      obtain ⟨y0, y1, y2⟩ := id hbs
      obtain ⟨hMk, hAk⟩ : Lists w4 mv s.marks ∧ Arcs w4 av (s.arcs.map arcZ) := by obtain ⟨mv', av', e, h1, h2⟩ := hSp; injection e with e; injection e with e; simp at e; obtain ⟨rfl, rfl⟩ := e; exact ⟨h1, h2⟩
      have hLab : LabAt w4 w.heap.size n tv := ⟨hbx, hT.below c⟩
      clear hSp
      go_wp2_with fail
      refine (unseen_any n tv mv av s w.heap.size w4 hLab hMk hAk Hsm.out (fun a ha => ⟨(Harcs.out a ha).1, (Harcs.out a ha).2.1, (Harcs.out a ha).2.2.1⟩)).mono ?_
      rintro e w5 ⟨Bf, f, rfl, hR, hFar, hBf, b5⟩
      have hv5 := hv.below b5
      have hbx5 := hbx.below b5
      have hbs5 := hbs.below b5
      have hLab5 := hLab.below b5
      have hMk5 := hMk.below b5
      have hAk5 := hAk.below b5
      have c5 := below_then c b5
      clear hv hbx hbs hLab hMk hAk c b5 y0 y1 y2
      obtain ⟨am, cm, rfl, _, _⟩ := hMk5.slice
      obtain ⟨aa, ca, rfl, hlab⟩ := hAk5.slice
      obtain ⟨N, HN⟩ : ∃ N, Hid (s.marks.length = N) := ⟨_, rfl⟩
      obtain ⟨la, Hla⟩ : ∃ la, Hid ((s.arcs.map arcZ).length = la) := ⟨_, rfl⟩
      have hN : N ≤ 300 := by rw [← HN.out]; exact Hsm.out
      have hN0 : 0 < N := by rw [← HN.out]; exact Hpos.out
      rw [HN.out] at hR hFar hMk5 hbs5 ⊢
      rw [Hla.out] at hAk5 hbs5 hlab
      have Hall : Hid (∀ w' : World, Below w5.heap.size w5 w' → (fun w' => w'.cell? ⟨Bf, 0, none⟩ = some (.int .u64 ((f 0).at_ 0 : Nat)) ∧ w'.cell? ⟨Bf, 1, none⟩ = some (.int .u64 ((f 0).at_ 1 : Nat)) ∧ w'.cell? ⟨Bf, 2, none⟩ = some (.int .u64 ((f 0).at_ 2 : Nat)) ∧ w'.cell? ⟨Bf, 3, none⟩ = some (.int .u64 ((f 0).at_ 3 : Nat)) ∧ w'.cell? ⟨Bf, 4, none⟩ = some (.int .u64 ((f 0).at_ 4 : Nat)) ∧ w'.cell? ⟨bx, 0, none⟩ = some (.slice am N cm) ∧ w'.cell? ⟨bx, 1, none⟩ = some (.slice aa la ca) ∧ w'.cell? ⟨w.heap.size, 0, none⟩ = some (.int .i64 n.places) ∧ w'.cell? ⟨w.heap.size, 1, none⟩ = some tv) w') := fun w' hb => by
        obtain ⟨_, g0, g1, g2, g3, g4⟩ := (hR.below hb).c hN0
        simp only [Nat.zero_mul, Nat.zero_add] at g0 g1 g2 g3 g4
        obtain ⟨_, p0, p1⟩ := hbs5.below hb
        obtain ⟨_, r0, r1⟩ := hbx5.below hb
        exact ⟨g0, g1, g2, g3, g4, p0, p1, r0, r1⟩
      go_upto_region 9 with fail
      go_cut [13] (fun p wc => ∃ T bn Bl lf, p = .pointer (some ⟨T, 0, none⟩) ∧ wc.heap[T]? = some (.cells #[.int .u64 ((f 0).at_ 0 : Nat), .int .u64 ((f 0).at_ 1 : Nat), .int .u64 ((f 0).at_ 2 : Nat), .int .u64 ((f 0).at_ 3 : Nat), .int .u64 ((f 0).at_ 4 : Nat), .slice (some ⟨bn, 0, none⟩) N N, .slice (some ⟨Bl, 0, none⟩) N N] 80 (0, 0)) ∧
        SetRow wc bn (N * 27) (fun _ => noneS) ∧ (w5.heap.size ≤ T ∧ w5.heap.size ≤ bn ∧ w5.heap.size ≤ Bl ∧ T ≠ bn ∧ T ≠ Bl ∧ bn ≠ Bl) ∧ IntRow wc Bl N lf ∧ LeastAll n s (startL n.places o) lf ∧ Below w5.heap.size w5 wc)
      case first =>
        have hdr : Below w5.heap.size w5 w5.drew := (Below.refl _ _).drew
        refine wp_region_held_drew (S := (fun w' => w'.cell? ⟨Bf, 0, none⟩ = some (.int .u64 ((f 0).at_ 0 : Nat)) ∧ w'.cell? ⟨Bf, 1, none⟩ = some (.int .u64 ((f 0).at_ 1 : Nat)) ∧ w'.cell? ⟨Bf, 2, none⟩ = some (.int .u64 ((f 0).at_ 2 : Nat)) ∧ w'.cell? ⟨Bf, 3, none⟩ = some (.int .u64 ((f 0).at_ 3 : Nat)) ∧ w'.cell? ⟨Bf, 4, none⟩ = some (.int .u64 ((f 0).at_ 4 : Nat)) ∧ w'.cell? ⟨bx, 0, none⟩ = some (.slice am N cm) ∧ w'.cell? ⟨bx, 1, none⟩ = some (.slice aa la ca) ∧ w'.cell? ⟨w.heap.size, 0, none⟩ = some (.int .i64 n.places) ∧ w'.cell? ⟨w.heap.size, 1, none⟩ = some tv)) (by kernel_rfl) (Hall.out _ hdr) (fun hH => ?_)
        refine wpAnyH_take (i := 0) rfl (by kernel_rfl) (by kernel_rfl) (by kernel_rfl) (fun _ _ _ h => h) (.inl ⟨by rfl, fun _ _ => rfl⟩) hH ?_
        simp only [List.getElem_toArray, List.getElem_cons_succ, List.getElem_cons_zero, Act.put, List.setIfInBounds_toArray, List.set_cons_zero, List.set_cons_succ]
        refine wpAnyH_take (i := 1) (v := .pointer (some ⟨Bf, 0, none⟩)) rfl (by kernel_rfl) (by kernel_rfl) (by kernel_rfl) (fun _ _ _ h => h) (.inl ⟨by rfl, fun w' hS' => by first | (go_simp; done) | (go_simp; rfl) | (go_simp; intro h; omega)⟩) hH ?_
        simp only [List.getElem_toArray, List.getElem_cons_succ, List.getElem_cons_zero, Act.put, List.setIfInBounds_toArray, List.set_cons_zero, List.set_cons_succ]
        refine wpAnyH_take (i := 2) (v := setV (f 0)) rfl (by kernel_rfl) (by kernel_rfl) (by kernel_rfl) (fun _ _ _ h => h) (.inl ⟨by rfl, fun w' hS' => by obtain ⟨s0, s1, s2, s3, s4, m0, m1, n0, n1⟩ := hS'; go_simp⟩) hH ?_
        simp only [List.getElem_toArray, List.getElem_cons_succ, List.getElem_cons_zero, Act.put, List.setIfInBounds_toArray, List.set_cons_zero, List.set_cons_succ]
        refine wpAnyH_take (i := 3) (v := .pointer (some ⟨bx, 0, none⟩)) rfl (by kernel_rfl) (by kernel_rfl) (by kernel_rfl) (fun _ _ _ h => h) (.inl ⟨by rfl, fun w' hS' => by first | (go_simp; done) | (go_simp; rfl) | (go_simp; intro h; omega)⟩) hH ?_
        simp only [List.getElem_toArray, List.getElem_cons_succ, List.getElem_cons_zero, Act.put, List.setIfInBounds_toArray, List.set_cons_zero, List.set_cons_succ]
        refine wpAnyH_take (i := 4) (v := .slice am N cm) rfl (by kernel_rfl) (by kernel_rfl) (by kernel_rfl) (fun _ _ _ h => h) (.inl ⟨by rfl, fun w' hS' => by obtain ⟨s0, s1, s2, s3, s4, m0, m1, n0, n1⟩ := hS'; go_simp⟩) hH ?_
        simp only [List.getElem_toArray, List.getElem_cons_succ, List.getElem_cons_zero, Act.put, List.setIfInBounds_toArray, List.set_cons_zero, List.set_cons_succ]
        refine wpAnyH_take (i := 5) (v := .int .i64 (N : Int)) rfl (by kernel_rfl) (by kernel_rfl) (by kernel_rfl) (fun _ _ _ h => h) (.inl ⟨by rfl, fun w' hS' => by first | (go_simp; done) | (go_simp; rfl) | (go_simp; intro h; omega)⟩) hH ?_
        simp only [List.getElem_toArray, List.getElem_cons_succ, List.getElem_cons_zero, Act.put, List.setIfInBounds_toArray, List.set_cons_zero, List.set_cons_succ]
        refine wpAnyH_take (i := 7) (v := .agg #[.slice am N cm, .slice aa la ca]) rfl (by kernel_rfl) (by kernel_rfl) (by kernel_rfl) (fun _ _ _ h => h) (.inl ⟨by rfl, fun w' hS' => by obtain ⟨s0, s1, s2, s3, s4, m0, m1, n0, n1⟩ := hS'; go_simp⟩) hH ?_
        simp only [List.getElem_toArray, List.getElem_cons_succ, List.getElem_cons_zero, Act.put, List.setIfInBounds_toArray, List.set_cons_zero, List.set_cons_succ]
        refine wpAnyH_take (i := 8) (v := .agg #[.int .i64 n.places, tv]) rfl (by kernel_rfl) (by kernel_rfl) (by kernel_rfl) (fun _ _ _ h => h) (.inl ⟨by rfl, fun w' hS' => by obtain ⟨s0, s1, s2, s3, s4, m0, m1, n0, n1⟩ := hS'; go_simp⟩) hH ?_
        simp only [List.getElem_toArray, List.getElem_cons_succ, List.getElem_cons_zero, Act.put, List.setIfInBounds_toArray, List.set_cons_zero, List.set_cons_succ]
        refine wpAnyH_take (i := 9) rfl (by kernel_rfl) (by kernel_rfl) (by kernel_rfl) (fun _ _ _ h => h) (.inl ⟨by rfl, fun _ _ => rfl⟩) hH ?_
        simp only [List.getElem_toArray, List.getElem_cons_succ, List.getElem_cons_zero, Act.put, List.setIfInBounds_toArray, List.set_cons_zero, List.set_cons_succ]
        refine wpAnyH_take (i := 11) rfl (by kernel_rfl) (by kernel_rfl) (by kernel_rfl) (fun _ _ _ h => h) (.inl ⟨by rfl, fun _ _ => rfl⟩) hH ?_
        simp only [List.getElem_toArray, List.getElem_cons_succ, List.getElem_cons_zero, Act.put, List.setIfInBounds_toArray, List.set_cons_zero, List.set_cons_succ]
        refine wpAnyH_ready (rs := [6, 10]) (by kernel_rfl) (by simp) ?_
        refine AllReadyH.cons rfl (fun K hK => ?_) (AllReadyH.cons rfl (fun K hK => ?_) AllReadyH.nil)
        · obtain ⟨w6, hmkw6, bmw6, hzw6, hRw6⟩ := make_letters w5.drew N hN
          have Hzw6 : Hid _ := hzw6
          clear hzw6
          simp only [List.getElem_toArray, List.getElem_cons_succ, List.getElem_cons_zero]
          rw [if_pos (by rfl)]
          go_wp2_with fail
          have qw6 := below_then hdr bmw6
          refine hK.out _ _ (Hall.out _ qw6) (fun hH => ?_)
          refine wpAnyH_ready (rs := [10]) (by kernel_rfl) (by simp) ?_
          refine AllReadyH.cons rfl (fun K hK => ?_) AllReadyH.nil
          simp only [List.getElem_toArray, List.getElem_cons_succ, List.getElem_cons_zero]
          rw [if_pos (by rfl)]
          go_wp2_with fail
          refine (shape_start_own _ n o _ (by exact hv5.below (qw6))).mono ?_
          rintro e w7 ⟨rw7, rfl, hOnw7, hObw7⟩
          have qw7 := below_then qw6 hObw7
          have hIw7 := hOnw7.now
          refine hK.out _ _ (Hall.out _ qw7) (fun hH => ?_)
          refine wpAnyH_ready (rs := [12]) (by kernel_rfl) (by simp) ?_
          refine AllReadyH.cons rfl (fun K hK => ?_) AllReadyH.nil
          simp only [List.getElem_toArray, List.getElem_cons_succ, List.getElem_cons_zero]
          rw [if_pos (by rfl)]
          go_wp2_with fail
          refine (leastTo_any n tv _ _ _ s (startL n.places o) w.heap.size w7 (by exact hLab5.below qw7) (by exact hMk5.below qw7) (by exact hAk5.below qw7) (by exact hIw7) (by rw [HN.out]; exact hN) Hml.out Harcs.out).mono ?_
          rintro e w8 ⟨Bl, lf, rfl, hIR, hLA, hBl, bw8⟩
          rw [HN.out] at hIR ⊢
          have qw8 := below_then qw7 bw8
          refine hK.out _ _ (Hall.out _ qw8) (fun hH => ?_)
          refine wpAnyH_take (i := 13) (v := .agg #[.int .u64 ((f 0).at_ 0 : Nat), .int .u64 ((f 0).at_ 1 : Nat), .int .u64 ((f 0).at_ 2 : Nat), .int .u64 ((f 0).at_ 3 : Nat), .int .u64 ((f 0).at_ 4 : Nat), .slice (some ⟨w5.drew.heap.size, 0, none⟩) N N, .slice (some ⟨Bl, 0, none⟩) N N]) rfl (by kernel_rfl) (by kernel_rfl) (by kernel_rfl) (fun _ _ _ h => h) (.inl ⟨by rfl, fun w' hS' => by first | (go_simp; done) | (go_simp; rfl) | (go_simp; intro h; omega)⟩) hH ?_
          simp only [List.getElem_toArray, List.getElem_cons_succ, List.getElem_cons_zero, Act.put, List.setIfInBounds_toArray, List.set_cons_zero, List.set_cons_succ]
          refine wpAnyH_ready (rs := [14]) (by kernel_rfl) (by simp) ?_
          refine AllReadyH.cons rfl (fun K hK => ?_) AllReadyH.nil
          simp only [List.getElem_toArray, List.getElem_cons_succ, List.getElem_cons_zero]
          rw [if_pos (by rfl)]
          go_wp2_with fail
          have bt := below_new w8 (.cells #[.int .u64 ((f 0).at_ 0 : Nat), .int .u64 ((f 0).at_ 1 : Nat), .int .u64 ((f 0).at_ 2 : Nat), .int .u64 ((f 0).at_ 3 : Nat), .int .u64 ((f 0).at_ 4 : Nat), .slice (some ⟨w5.drew.heap.size, 0, none⟩) N N, .slice (some ⟨Bl, 0, none⟩) N N] 80)
          refine hK.out _ _ (Hall.out _ (below_then qw8 bt)) (fun hH => ?_)
          refine wpAnyH_take (i := 15) rfl (by kernel_rfl) (by kernel_rfl) (by kernel_rfl) (fun _ _ _ h => h) (.inl ⟨by rfl, fun _ _ => rfl⟩) hH ?_
          simp only [List.getElem_toArray, List.getElem_cons_succ, List.getElem_cons_zero, Act.put, List.setIfInBounds_toArray, List.set_cons_zero, List.set_cons_succ]
          refine wpAnyH_done (by kernel_rfl) ?_ _
          have hapart : w5.heap.size ≤ w8.heap.size ∧ w5.heap.size ≤ w5.drew.heap.size ∧ w5.heap.size ≤ Bl ∧ w8.heap.size ≠ w5.drew.heap.size ∧ w8.heap.size ≠ Bl ∧ w5.drew.heap.size ≠ Bl := by have hz := Hzw6.out; have h1 := hIR.lt; have h2 := qw8.size; have h3 := qw7.size; have h4 := hObw7.size; have h5 := bw8.size; have h6 : w5.drew.heap.size = w5.heap.size := rfl; omega
          go_wp2_with fail
          go_meet
          exact ⟨_, w5.drew.heap.size, Bl, lf, rfl, heap_alloc_at _ _, ((hRw6.below hObw7).below bw8).below bt, hapart, hIR.keep bt.size (bt.block _ hIR.lt), hLA, below_then qw8 bt⟩
        · simp only [List.getElem_toArray, List.getElem_cons_succ, List.getElem_cons_zero]
          rw [if_pos (by rfl)]
          go_wp2_with fail
          refine (shape_start_own _ n o _ (by exact hv5.below (hdr))).mono ?_
          rintro e w6 ⟨rw6, rfl, hOnw6, hObw6⟩
          have qw6 := below_then hdr hObw6
          have hIw6 := hOnw6.now
          refine hK.out _ _ (Hall.out _ qw6) (fun hH => ?_)
          refine wpAnyH_ready (rs := [6, 12]) (by kernel_rfl) (by simp) ?_
          refine AllReadyH.cons rfl (fun K hK => ?_) (AllReadyH.cons rfl (fun K hK => ?_) AllReadyH.nil)
          · obtain ⟨w7, hmkw7, bmw7, hzw7, hRw7⟩ := make_letters w6 N hN
            have Hzw7 : Hid _ := hzw7
            clear hzw7
            simp only [List.getElem_toArray, List.getElem_cons_succ, List.getElem_cons_zero]
            rw [if_pos (by rfl)]
            go_wp2_with fail
            have qw7 := below_then qw6 bmw7
            refine hK.out _ _ (Hall.out _ qw7) (fun hH => ?_)
            refine wpAnyH_ready (rs := [12]) (by kernel_rfl) (by simp) ?_
            refine AllReadyH.cons rfl (fun K hK => ?_) AllReadyH.nil
            simp only [List.getElem_toArray, List.getElem_cons_succ, List.getElem_cons_zero]
            rw [if_pos (by rfl)]
            go_wp2_with fail
            refine (leastTo_any n tv _ _ _ s (startL n.places o) w.heap.size w7 (by exact hLab5.below qw7) (by exact hMk5.below qw7) (by exact hAk5.below qw7) (by exact (hIw6.below bmw7)) (by rw [HN.out]; exact hN) Hml.out Harcs.out).mono ?_
            rintro e w8 ⟨Bl, lf, rfl, hIR, hLA, hBl, bw8⟩
            rw [HN.out] at hIR ⊢
            have qw8 := below_then qw7 bw8
            refine hK.out _ _ (Hall.out _ qw8) (fun hH => ?_)
            refine wpAnyH_take (i := 13) (v := .agg #[.int .u64 ((f 0).at_ 0 : Nat), .int .u64 ((f 0).at_ 1 : Nat), .int .u64 ((f 0).at_ 2 : Nat), .int .u64 ((f 0).at_ 3 : Nat), .int .u64 ((f 0).at_ 4 : Nat), .slice (some ⟨w6.heap.size, 0, none⟩) N N, .slice (some ⟨Bl, 0, none⟩) N N]) rfl (by kernel_rfl) (by kernel_rfl) (by kernel_rfl) (fun _ _ _ h => h) (.inl ⟨by rfl, fun w' hS' => by first | (go_simp; done) | (go_simp; rfl) | (go_simp; intro h; omega)⟩) hH ?_
            simp only [List.getElem_toArray, List.getElem_cons_succ, List.getElem_cons_zero, Act.put, List.setIfInBounds_toArray, List.set_cons_zero, List.set_cons_succ]
            refine wpAnyH_ready (rs := [14]) (by kernel_rfl) (by simp) ?_
            refine AllReadyH.cons rfl (fun K hK => ?_) AllReadyH.nil
            simp only [List.getElem_toArray, List.getElem_cons_succ, List.getElem_cons_zero]
            rw [if_pos (by rfl)]
            go_wp2_with fail
            have bt := below_new w8 (.cells #[.int .u64 ((f 0).at_ 0 : Nat), .int .u64 ((f 0).at_ 1 : Nat), .int .u64 ((f 0).at_ 2 : Nat), .int .u64 ((f 0).at_ 3 : Nat), .int .u64 ((f 0).at_ 4 : Nat), .slice (some ⟨w6.heap.size, 0, none⟩) N N, .slice (some ⟨Bl, 0, none⟩) N N] 80)
            refine hK.out _ _ (Hall.out _ (below_then qw8 bt)) (fun hH => ?_)
            refine wpAnyH_take (i := 15) rfl (by kernel_rfl) (by kernel_rfl) (by kernel_rfl) (fun _ _ _ h => h) (.inl ⟨by rfl, fun _ _ => rfl⟩) hH ?_
            simp only [List.getElem_toArray, List.getElem_cons_succ, List.getElem_cons_zero, Act.put, List.setIfInBounds_toArray, List.set_cons_zero, List.set_cons_succ]
            refine wpAnyH_done (by kernel_rfl) ?_ _
            have hapart : w5.heap.size ≤ w8.heap.size ∧ w5.heap.size ≤ w6.heap.size ∧ w5.heap.size ≤ Bl ∧ w8.heap.size ≠ w6.heap.size ∧ w8.heap.size ≠ Bl ∧ w6.heap.size ≠ Bl := by have hz := Hzw7.out; have h1 := hIR.lt; have h2 := qw6.size; have h3 := qw7.size; have h5 := bw8.size; omega
            go_wp2_with fail
            go_meet
            exact ⟨_, w6.heap.size, Bl, lf, rfl, heap_alloc_at _ _, (hRw7.below bw8).below bt, hapart, hIR.keep bt.size (bt.block _ hIR.lt), hLA, below_then qw8 bt⟩
          · simp only [List.getElem_toArray, List.getElem_cons_succ, List.getElem_cons_zero]
            rw [if_pos (by rfl)]
            go_wp2_with fail
            refine (leastTo_any n tv _ _ _ s (startL n.places o) w.heap.size w6 (by exact hLab5.below qw6) (by exact hMk5.below qw6) (by exact hAk5.below qw6) (by exact hIw6) (by rw [HN.out]; exact hN) Hml.out Harcs.out).mono ?_
            rintro e w7 ⟨Bl, lf, rfl, hIR, hLA, hBl, bw7⟩
            rw [HN.out] at hIR ⊢
            have qw7 := below_then qw6 bw7
            refine hK.out _ _ (Hall.out _ qw7) (fun hH => ?_)
            obtain ⟨w8, hmkw8, bmw8, hzw8, hRw8⟩ := make_letters w7 N hN
            have Hzw8 : Hid _ := hzw8
            clear hzw8
            refine wpAnyH_ready (rs := [6]) (by kernel_rfl) (by simp) ?_
            refine AllReadyH.cons rfl (fun K hK => ?_) AllReadyH.nil
            simp only [List.getElem_toArray, List.getElem_cons_succ, List.getElem_cons_zero]
            rw [if_pos (by rfl)]
            go_wp2_with fail
            have qw8 := below_then qw7 bmw8
            refine hK.out _ _ (Hall.out _ qw8) (fun hH => ?_)
            refine wpAnyH_take (i := 13) (v := .agg #[.int .u64 ((f 0).at_ 0 : Nat), .int .u64 ((f 0).at_ 1 : Nat), .int .u64 ((f 0).at_ 2 : Nat), .int .u64 ((f 0).at_ 3 : Nat), .int .u64 ((f 0).at_ 4 : Nat), .slice (some ⟨w7.heap.size, 0, none⟩) N N, .slice (some ⟨Bl, 0, none⟩) N N]) rfl (by kernel_rfl) (by kernel_rfl) (by kernel_rfl) (fun _ _ _ h => h) (.inl ⟨by rfl, fun w' hS' => by first | (go_simp; done) | (go_simp; rfl) | (go_simp; intro h; omega)⟩) hH ?_
            simp only [List.getElem_toArray, List.getElem_cons_succ, List.getElem_cons_zero, Act.put, List.setIfInBounds_toArray, List.set_cons_zero, List.set_cons_succ]
            refine wpAnyH_ready (rs := [14]) (by kernel_rfl) (by simp) ?_
            refine AllReadyH.cons rfl (fun K hK => ?_) AllReadyH.nil
            simp only [List.getElem_toArray, List.getElem_cons_succ, List.getElem_cons_zero]
            rw [if_pos (by rfl)]
            go_wp2_with fail
            have bt := below_new w8 (.cells #[.int .u64 ((f 0).at_ 0 : Nat), .int .u64 ((f 0).at_ 1 : Nat), .int .u64 ((f 0).at_ 2 : Nat), .int .u64 ((f 0).at_ 3 : Nat), .int .u64 ((f 0).at_ 4 : Nat), .slice (some ⟨w7.heap.size, 0, none⟩) N N, .slice (some ⟨Bl, 0, none⟩) N N] 80)
            refine hK.out _ _ (Hall.out _ (below_then qw8 bt)) (fun hH => ?_)
            refine wpAnyH_take (i := 15) rfl (by kernel_rfl) (by kernel_rfl) (by kernel_rfl) (fun _ _ _ h => h) (.inl ⟨by rfl, fun _ _ => rfl⟩) hH ?_
            simp only [List.getElem_toArray, List.getElem_cons_succ, List.getElem_cons_zero, Act.put, List.setIfInBounds_toArray, List.set_cons_zero, List.set_cons_succ]
            refine wpAnyH_done (by kernel_rfl) ?_ _
            have hapart : w5.heap.size ≤ w8.heap.size ∧ w5.heap.size ≤ w7.heap.size ∧ w5.heap.size ≤ Bl ∧ w8.heap.size ≠ w7.heap.size ∧ w8.heap.size ≠ Bl ∧ w7.heap.size ≠ Bl := by have hz := Hzw8.out; have h1 := hIR.lt; have h2 := qw6.size; have h3 := qw7.size; omega
            go_wp2_with fail
            go_meet
            exact ⟨_, w7.heap.size, Bl, lf, rfl, heap_alloc_at _ _, (hRw8).below bt, hapart, (hIR.keep bmw8.size (bmw8.block _ hIR.lt)).keep bt.size (bt.block _ (Nat.lt_of_lt_of_le hIR.lt bmw8.size)), hLA, below_then qw8 bt⟩
      obtain ⟨T, bn, Bl, lf, rfl, hTc, hRn, ⟨t1, t2, t3, t4, t5, t6⟩, hIR, hLA, b9⟩ := hcut
      obtain ⟨w9, rfl⟩ : ∃ w0, w0 = wc := ⟨_, rfl⟩
      obtain ⟨_, p0, p1⟩ := hbs5.below b9
      have HTc : Hid _ := hTc
      have HRn : Hid _ := hRn
      have HIR : Hid _ := hIR
      have Hap : Hid _ := And.intro t1 (And.intro t2 (And.intro t3 (And.intro t4 (And.intro t5 t6))))
      clear hTc hRn hIR t1 t2 t3 t4 t5 t6 Hall
      have Hlaa : Hid (la = s.arcs.length) := by show _ = _; rw [← Hla.out, List.length_map]
      go_wp2_with fail
      clear p0 p1
      obtain ⟨AA, HAA⟩ : ∃ AA, Hid (s.arcs = AA) := ⟨_, rfl⟩
      rw [HAA.out] at hAk5 hFar Harcs Hlaa
      rw [HN.out] at Harcs
      go_loopg [58] la (fun g i wr => ∃ (k : Nat) (gs : Nat → SetL), k + g = la ∧ i = .int .i64 (k : Int) ∧ SetRow wr bn (N * 27) gs ∧ NextTo n AA N f k gs ∧ (∀ b, b < w9.heap.size → b ≠ bn → wr.heap[b]? = w9.heap[b]?) ∧ w9.heap.size ≤ wr.heap.size ∧ Below w5.heap.size w5 wr)
      case atStart => exact ⟨0, fun _ => noneS, by omega, rfl, HRn.out, NextTo.zero, fun _ _ _ => rfl, Nat.le_refl _, b9⟩
      case round =>
        obtain ⟨k, gs, hkg, rfl, hG, hNx, hO, hsz, hB⟩ := hrel
        by_cases hk : k < la
        · have hk' : decide ((k : Int) < (la : Int)) = true := by rw [decide_eq_true_eq]; omega
          have hkA : k < AA.length := by have := Hlaa.out; omega
          obtain ⟨b1, o1, rfl, hb1, e0, e1, e2⟩ := (hAk5.below hB).at (k := k) (by simpa using hkA)
          have eA : (AA.map arcZ)[k]'(by simpa using hkA) = arcZ AA[k] := by simp
          rw [eA] at e0 e1 e2
          obtain ⟨A, HA⟩ : ∃ A, Hid (AA[k] = A) := ⟨AA[k], (rfl : AA[k] = AA[k])⟩
          rw [HA.out] at e0 e1 e2
          simp only [arcZ] at e0 e1 e2
          have hAin : A ∈ AA := by rw [← HA.out]; exact List.getElem_mem hkA
          obtain ⟨ax, ay, at_, alb⟩ := Harcs.out A hAin
          have al26 := (lab_ok HS.out.ok _ at_).2
          have hbn1 := below_new wr (.cells #[.int .i64 (A.frm : Int), .int .i64 (A.tran : Int), .int .i64 (A.dst : Int)] 69)
          have hA1 := heap_alloc_at wr (.cells #[.int .i64 (A.frm : Int), .int .i64 (A.tran : Int), .int .i64 (A.dst : Int)] 69)
          obtain ⟨wr1, Hwr1⟩ : ∃ wr1, Hid (wr.alloc (.cells #[.int .i64 (A.frm : Int), .int .i64 (A.tran : Int), .int .i64 (A.dst : Int)] 69) = wr1) := ⟨_, rfl⟩
          rw [Hwr1.out] at hbn1 hA1
          obtain ⟨z0, z1, z2⟩ := arc_cells hA1
          go_upto_region 13 with fail
          rw [Hwr1.out]
          have eg := enters_of Try.func38 (by kernel_rfl) rfl
          go_wp2_with fail
          refine (label_any w.heap.size n tv (A.frm : Int) (A.dst : Int) A.tran wr1 (by exact (hLab5.below hB).below hbn1) at_).mono ?_
          rintro e wr2 ⟨rfl, hwr2⟩
          have hbn2 : Below wr1.heap.size wr1 wr2 := by rw [hwr2]; exact below_new _ _
          have hb2 : Below wr.heap.size wr wr2 := below_then hbn1 hbn2
          have hA2 := (hbn2.block _ (Array.getElem?_eq_some_iff.1 hA1).1).trans hA1
          clear z0 z1 z2 e0 e1 e2 eg Hwr1 hwr2 hA1 hbn1 hbn2
          by_cases hl0 : 0 < labT n A.tran
          · obtain ⟨l, hl⟩ := Int.eq_ofNat_of_zero_le alb
            have HL : Hid (labT n A.tran = (l : Int)) := hl
            rw [hl] at hl0 al26 ⊢
            have hl1 : 0 < l := by omega
            have hl27 : l < 27 := by omega
            have hgt : decide ((l : Int) > 0) = true := by rw [decide_eq_true_eq]; omega
            have hT2 : wr2.heap[T]? = w9.heap[T]? := (hb2.block T (by have := (Array.getElem?_eq_some_iff.1 HTc.out).1; omega)).trans (hO T (Array.getElem?_eq_some_iff.1 HTc.out).1 (by have := Hap.out; omega))
            have hT5 : wr2.cell? ⟨T, 5, none⟩ = some (.slice (some ⟨bn, 0, none⟩) N N) := by simp [World.cell?, hT2, HTc.out]
            obtain ⟨z0, z1, z2⟩ := arc_cells hA2
            have hG2 := hG.below hb2
            have hR2 := (hR.below hB).below hb2
            have Hnx := hNx.step (k := k) (l := l) hkA (by rw [HA.out]; exact HL.out) hl1 hl27
            rw [HA.out] at Hnx
            have Hx : Hid (∀ W : World, SetRow W bn (N * 27) (updS gs (A.frm * 27 + l) (orS (gs (A.frm * 27 + l)) (f A.dst))) → (∀ b, b < wr2.heap.size → b ≠ bn → W.heap[b]? = wr2.heap[b]?) → wr2.heap.size ≤ W.heap.size → Below bn wr2 W → ∃ (k' : Nat) (gs : Nat → SetL), k' = k + 1 ∧ SetRow W bn (N * 27) gs ∧ NextTo n AA N f (k + 1) gs ∧ (∀ b, b < w9.heap.size → b ≠ bn → W.heap[b]? = w9.heap[b]?) ∧ w9.heap.size ≤ W.heap.size ∧ Below w5.heap.size w5 W) := fun W h1 h2 h3 h4 => ⟨_, _, rfl, h1, Hnx, fun b q1 q2 => (h2 b (by have := hb2.size; omega) q2).trans ((hb2.block b (by omega)).trans (hO b q1 q2)), by have := hb2.size; omega, (hB.trans (hb2.mono hB.size)).trans (h4.mono (by have := Hap.out; omega))⟩
            have hlx : A.frm * 27 + l < N * 27 := by omega
            obtain ⟨_, g0, g1, g2, g3, g4⟩ := hG2.c hlx
            have eoff : (A.frm * 27 + l) * 5 = A.frm * 135 + l * 5 := by omega
            rw [eoff] at g0 g1 g2 g3 g4
            have hltn := hG.lt
            clear hNx Hnx hG hO
            go_upto_region 15 with fail
            go_quiet (fail)
            have hdq : Below wr2.heap.size wr2 (wr2.drewN nq) := below_drewN (Below.refl _ _) nq
            obtain ⟨wr3, Hwr3⟩ : ∃ wr3, Hid (wr2.drewN nq = wr3) := ⟨_, rfl⟩
            rw [Hwr3.out] at hdq
            go_upto_region 16 with fail
            rw [Hwr3.out]
            have hA3 := (hdq.block _ (Array.getElem?_eq_some_iff.1 hA2).1).trans hA2
            have hG3 := hG2.below hdq
            have hR3 := hR2.below hdq
            clear z0 z1 z2 g0 g1 g2 g3 g4 hT5 hT2 Hwr3
            have Hall : Hid (∀ w' : World, Below wr3.heap.size wr3 w' → (fun w' => w'.cell? ⟨wr.heap.size, 2, none⟩ = some (.int .i64 (A.dst : Int)) ∧ w'.cell? ⟨Bf, A.dst * 5, none⟩ = some (.int .u64 ((f A.dst).at_ 0 : Nat)) ∧ w'.cell? ⟨Bf, A.dst * 5 + 1, none⟩ = some (.int .u64 ((f A.dst).at_ 1 : Nat)) ∧ w'.cell? ⟨Bf, A.dst * 5 + 2, none⟩ = some (.int .u64 ((f A.dst).at_ 2 : Nat)) ∧ w'.cell? ⟨Bf, A.dst * 5 + 3, none⟩ = some (.int .u64 ((f A.dst).at_ 3 : Nat)) ∧ w'.cell? ⟨Bf, A.dst * 5 + 4, none⟩ = some (.int .u64 ((f A.dst).at_ 4 : Nat))) w') := fun w' hb => by
              obtain ⟨_, _, y2⟩ := arc_cells ((hb.block _ (Array.getElem?_eq_some_iff.1 hA3).1).trans hA3)
              obtain ⟨_, r0, r1, r2, r3, r4⟩ := (hR3.below hb).c ay
              exact ⟨y2, r0, r1, r2, r3, r4⟩
            refine wp_region_held_drew (S := (fun w' => w'.cell? ⟨wr.heap.size, 2, none⟩ = some (.int .i64 (A.dst : Int)) ∧ w'.cell? ⟨Bf, A.dst * 5, none⟩ = some (.int .u64 ((f A.dst).at_ 0 : Nat)) ∧ w'.cell? ⟨Bf, A.dst * 5 + 1, none⟩ = some (.int .u64 ((f A.dst).at_ 1 : Nat)) ∧ w'.cell? ⟨Bf, A.dst * 5 + 2, none⟩ = some (.int .u64 ((f A.dst).at_ 2 : Nat)) ∧ w'.cell? ⟨Bf, A.dst * 5 + 3, none⟩ = some (.int .u64 ((f A.dst).at_ 3 : Nat)) ∧ w'.cell? ⟨Bf, A.dst * 5 + 4, none⟩ = some (.int .u64 ((f A.dst).at_ 4 : Nat)))) (by kernel_rfl) (Hall.out _ (Below.refl _ _).drew) (fun hH => ?_)
            refine wpAnyH_take (i := 0) rfl (by kernel_rfl) (by kernel_rfl) (by kernel_rfl) (fun _ _ _ h => h) (.inl ⟨by rfl, fun _ _ => rfl⟩) hH ?_
            simp only [List.getElem_toArray, List.getElem_cons_succ, List.getElem_cons_zero, Act.put, List.setIfInBounds_toArray, List.set_cons_zero, List.set_cons_succ]
            refine wpAnyH_take (i := 1) rfl (by kernel_rfl) (by kernel_rfl) (by kernel_rfl) (fun _ _ _ h => h) (.inl ⟨by rfl, fun _ _ => rfl⟩) hH ?_
            simp only [List.getElem_toArray, List.getElem_cons_succ, List.getElem_cons_zero, Act.put, List.setIfInBounds_toArray, List.set_cons_zero, List.set_cons_succ]
            refine wpAnyH_take (i := 2) (v := .pointer (some ⟨bn, A.frm * 135 + l * 5, none⟩)) rfl (by kernel_rfl) (by kernel_rfl) (by kernel_rfl) (fun _ _ _ h => h) (.inl ⟨by rfl, fun w' hS' => by first | (go_simp; done) | (go_simp; rfl) | (go_simp; intro h; omega)⟩) hH ?_
            simp only [List.getElem_toArray, List.getElem_cons_succ, List.getElem_cons_zero, Act.put, List.setIfInBounds_toArray, List.set_cons_zero, List.set_cons_succ]
            refine wpAnyH_take (i := 4) rfl (by kernel_rfl) (by kernel_rfl) (by kernel_rfl) (fun _ _ _ h => h) (.inl ⟨by rfl, fun _ _ => rfl⟩) hH ?_
            simp only [List.getElem_toArray, List.getElem_cons_succ, List.getElem_cons_zero, Act.put, List.setIfInBounds_toArray, List.set_cons_zero, List.set_cons_succ]
            refine wpAnyH_take (i := 5) (v := .pointer (some ⟨wr.heap.size, 2, none⟩)) rfl (by kernel_rfl) (by kernel_rfl) (by kernel_rfl) (fun _ _ _ h => h) (.inl ⟨by rfl, fun w' hS' => by first | (go_simp; done) | (go_simp; rfl) | (go_simp; intro h; omega)⟩) hH ?_
            simp only [List.getElem_toArray, List.getElem_cons_succ, List.getElem_cons_zero, Act.put, List.setIfInBounds_toArray, List.set_cons_zero, List.set_cons_succ]
            refine wpAnyH_take (i := 6) (v := .int .i64 (A.dst : Int)) rfl (by kernel_rfl) (by kernel_rfl) (by kernel_rfl) (fun _ _ _ h => h) (.inl ⟨by rfl, fun w' hS' => by obtain ⟨sa2, q0, q1, q2, q3, q4⟩ := hS'; go_simp⟩) hH ?_
            simp only [List.getElem_toArray, List.getElem_cons_succ, List.getElem_cons_zero, Act.put, List.setIfInBounds_toArray, List.set_cons_zero, List.set_cons_succ]
            refine wpAnyH_take (i := 7) (v := .pointer (some ⟨Bf, A.dst * 5, none⟩)) rfl (by kernel_rfl) (by kernel_rfl) (by kernel_rfl) (fun _ _ _ h => h) (.inl ⟨by rfl, fun w' hS' => by first | (go_simp; done) | (go_simp; rfl) | (go_simp; intro h; omega)⟩) hH ?_
            simp only [List.getElem_toArray, List.getElem_cons_succ, List.getElem_cons_zero, Act.put, List.setIfInBounds_toArray, List.set_cons_zero, List.set_cons_succ]
            refine wpAnyH_take (i := 8) (v := setV (f A.dst)) rfl (by kernel_rfl) (by kernel_rfl) (by kernel_rfl) (fun _ _ _ h => h) (.inl ⟨by rfl, fun w' hS' => by obtain ⟨sa2, q0, q1, q2, q3, q4⟩ := hS'; go_simp⟩) hH ?_
            simp only [List.getElem_toArray, List.getElem_cons_succ, List.getElem_cons_zero, Act.put, List.setIfInBounds_toArray, List.set_cons_zero, List.set_cons_succ]
            obtain ⟨_, g0, g1, g2, g3, g4⟩ := hG3.c hlx
            rw [eoff] at g0 g1 g2 g3 g4
            refine wpAnyH_ready (rs := [3]) (by kernel_rfl) (by simp) ?_
            refine AllReadyH.cons rfl (fun K hK => ?_) AllReadyH.nil
            simp only [List.getElem_toArray, List.getElem_cons_succ, List.getElem_cons_zero]
            rw [if_pos (by rfl)]
            go_wp2_with fail
            refine hK.out _ _ hH (fun hH => ?_)
            refine wpAnyH_ready (rs := [9]) (by kernel_rfl) (by simp) ?_
            refine AllReadyH.cons rfl (fun K hK => ?_) AllReadyH.nil
            simp only [List.getElem_toArray, List.getElem_cons_succ, List.getElem_cons_zero]
            rw [if_pos (by rfl)]
            go_wp2_with fail
            refine (or_any (gs (A.frm * 27 + l)) (f A.dst) _).mono ?_
            rintro e wr4 ⟨rfl, bo⟩
            have bo' : Below wr3.heap.size wr3 wr4 := (Below.refl wr3.heap.size wr3).drew.trans bo
            refine hK.out _ _ (Hall.out wr4 bo') (fun hH => ?_)
            refine wpAnyH_take (i := 10) (v := .pointer (some ⟨bn, A.frm * 135 + l * 5, none⟩)) rfl (by kernel_rfl) (by kernel_rfl) (by kernel_rfl) (fun _ _ _ h => h) (.inl ⟨by rfl, fun w' hS' => by first | (go_simp; done) | (go_simp; rfl) | (go_simp; intro h; omega)⟩) hH ?_
            simp only [List.getElem_toArray, List.getElem_cons_succ, List.getElem_cons_zero, Act.put, List.setIfInBounds_toArray, List.set_cons_zero, List.set_cons_succ]
            have hG4 := hG3.below bo'
            obtain ⟨_, o0, o1, o2, o3, o4⟩ := hG4.c hlx
            have f0 := hG4.frozen ((A.frm * 27 + l) * 5) (by omega)
            have f1 := hG4.frozen ((A.frm * 27 + l) * 5 + 1) (by omega)
            have f2 := hG4.frozen ((A.frm * 27 + l) * 5 + 2) (by omega)
            have f3 := hG4.frozen ((A.frm * 27 + l) * 5 + 3) (by omega)
            have f4 := hG4.frozen ((A.frm * 27 + l) * 5 + 4) (by omega)
            obtain ⟨W5, HW5, hR5, hB5, ho5, hz5⟩ := hG4.store hlx (orS (gs (A.frm * 27 + l)) (f A.dst))
            rw [eoff] at o0 o1 o2 o3 o4 f0 f1 f2 f3 f4 HW5
            refine wpAnyH_ready (rs := [11]) (by kernel_rfl) (by simp) ?_
            refine AllReadyH.cons rfl (fun K hK => ?_) AllReadyH.nil
            simp only [List.getElem_toArray, List.getElem_cons_succ, List.getElem_cons_zero]
            rw [if_pos (by rfl)]
            go_wp2_with fail
            rw [HW5.out]
            have hS5 : (fun w' => w'.cell? ⟨wr.heap.size, 2, none⟩ = some (.int .i64 (A.dst : Int)) ∧ w'.cell? ⟨Bf, A.dst * 5, none⟩ = some (.int .u64 ((f A.dst).at_ 0 : Nat)) ∧ w'.cell? ⟨Bf, A.dst * 5 + 1, none⟩ = some (.int .u64 ((f A.dst).at_ 1 : Nat)) ∧ w'.cell? ⟨Bf, A.dst * 5 + 2, none⟩ = some (.int .u64 ((f A.dst).at_ 2 : Nat)) ∧ w'.cell? ⟨Bf, A.dst * 5 + 3, none⟩ = some (.int .u64 ((f A.dst).at_ 3 : Nat)) ∧ w'.cell? ⟨Bf, A.dst * 5 + 4, none⟩ = some (.int .u64 ((f A.dst).at_ 4 : Nat))) W5 := by
              have hA5 := (ho5 wr.heap.size (by omega)).trans ((bo'.block _ (Array.getElem?_eq_some_iff.1 hA3).1).trans hA3)
              obtain ⟨_, _, y2⟩ := arc_cells hA5
              have hR5' := ((hR3.below bo').keep (w' := W5) (by omega) (ho5 Bf (by have := Hap.out; have := hR.lt; omega)))
              obtain ⟨_, r0, r1, r2, r3, r4⟩ := hR5'.c ay
              exact ⟨y2, r0, r1, r2, r3, r4⟩
            refine hK.out _ _ hS5 (fun hH => ?_)
            refine wpAnyH_done (by kernel_rfl) ?_ _
            obtain ⟨k', gs', rfl, m1, m2, m3, m4, m5⟩ := Hx.out W5 hR5 (fun b q1 q2 => (ho5 b q2).trans ((bo'.block b (by have := hdq.size; omega)).trans (hdq.block b q1))) (by have := hdq.size; have := bo'.size; omega) ((hdq.mono (Nat.le_of_lt hG2.lt)).trans ((bo'.mono (Nat.le_of_lt hG3.lt)).trans hB5))
            clear hG2 hG3 hR2 hR3 hG4 o0 o1 o2 o3 o4 f0 f1 f2 f3 f4 g0 g1 g2 g3 g4 Hall hS5 hH HW5 hR5 hB5 ho5 hz5 Hx
            go_wp2
            go_roundg (gk - 1)
            case measure => omega
            case rel => exact ⟨k + 1, gs', by omega, by go_num, m1, m2, m3, m4, m5⟩
          · have hgt : decide (labT n A.tran > 0) = false := by rw [decide_eq_false_iff_not]; omega
            have Hnx := hNx.skip hkA (by rw [HA.out]; omega)
            have m1 := hG.below hb2
            have m3 : ∀ b, b < w9.heap.size → b ≠ bn → wr2.heap[b]? = w9.heap[b]? := fun b q1 q2 => (hb2.block b (by omega)).trans (hO b q1 q2)
            have m4 : w9.heap.size ≤ wr2.heap.size := Nat.le_trans hsz hb2.size
            have m5 := hB.trans (hb2.mono hB.size)
            have HO : Hid _ := m3
            clear hNx hG hO m3
            go_wp2
            go_roundg (gk - 1)
            case measure => omega
            case rel => exact ⟨k + 1, gs, by omega, by go_num, m1, Hnx, HO.out, m4, m5⟩
        · obtain rfl : k = la := by omega
          clear hk
          have R : Hid (Heard wr n i o (some ⟨T, 0, none⟩) 0) := by
            have hap := Hap.out
            have hTl := (Array.getElem?_eq_some_iff.1 HTc.out).1
            refine .inr ⟨rfl, HS.out, s, HG.out, T, bn, _, ⟨N, f 0, fun m c => gs (m * 27 + c), (List.range N).map lf⟩, rfl, ⟨(hO T hTl (by omega)).trans HTc.out, fun m c' hm hc => ?_, ?_, by simp, hN⟩, ?_⟩
            · have := hG.c (m := m * 27 + c') (by show m * 27 + c' < N * 27; simp only at hm; omega)
              rw [show (m * 27 + c') * 5 = m * 135 + c' * 5 by omega] at this
              exact this
            · refine ⟨_, _, _, rfl, by simp, by omega, ⟨Nat.le_refl _, by omega, fun h => by cases h⟩, fun j hj => ⟨Bl, 0, rfl, by have := HIR.out.lt; omega, ?_⟩⟩
              have hj' : j < N := by simpa using hj
              rw [Nat.zero_add, World.cell?_of_block (a := ⟨Bl, j, none⟩) (hO Bl HIR.out.lt (by omega)), HIR.out.cells j hj']
              simp [nth, List.getD, hj']
            · have hlf : ∀ m, m < N → nth ((List.range N).map lf) m = lf m := fun m hm => by simp [nth, List.getD, hm]
              have hNl : s.marks.length = N := HN.out
              refine ⟨hNl.symm, fun j hj => by rw [HAA.out]; exact hFar 0 hN0 j hj, ?_, ?_⟩
              · rw [HAA.out]
                have := NextTo.done (N := N) (by rw [← Hlaa.out]; exact hNx) hFar (fun a ha => (Harcs.out a ha).2.1)
                exact this
              · refine ⟨fun m hm => by rw [hlf m (by omega)]; exact hLA.pos m hm, fun m hm h => ?_, fun m hm w' h => ?_⟩
                · rw [hlf m (by omega)] at h ⊢; exact hLA.sound m hm h
                · rw [hlf m (by omega)]; exact hLA.least m hm w' h
          have Rb : Below w.heap.size w wr := c5.trans (hB.mono c5.size)
          clear hG hNx hO
          have hkk : decide ((k : Int) < (k : Int)) = false := by simp
          go_wp2
          go_ret2
          exact ⟨_, _, rfl, R.out, Rb⟩
    · have hdd : (dg != 0) = true := by simpa using hg0
      have HV : Hid (Heard w4 n i o none dg) := .inl ⟨hg0, rfl, .inr ⟨HS.out, by rw [HG.out]⟩⟩
      clear hv hg0 hbx HG Hfl hSp hbs
      go_wp2
      go_ret2
      exact ⟨none, dg, rfl, HV.out, c⟩
  · have hdd : (d != 0) = true := by simpa using hd0
    have HV : Hid (Heard w1 n i o none d) := .inl ⟨hd0, rfl, .inl hd⟩
    clear hv hd hd0 hbx
    go_wp2
    go_ret2
    exact ⟨none, d, rfl, HV.out, c⟩

end Go.Proofs.Ytakgppoeikcepaa

/- Where one is behind the beginning of a word, plainly. -/
namespace Go.Proofs.Ytakgppoeikcepaa
set_option linter.unusedVariables false
set_option maxRecDepth 4000

/-- These are the marks where one can be behind ws. -/
def AtW (n : NetL) (s : SpaceL) (ws : List Int) (u : SetL) : Prop := ∀ j, j < 320 → (u.has j = true ↔ Way s.arcs (labT n) 0 ws j)
theorem AtW.lt {n : NetL} {S : List Int} {s : SpaceL} {ws : List Int} {u : SetL} (h : AtW n s ws u) (hW : Whole n S s) : ∀ m, m < 320 → u.has m = true → m < s.marks.length := fun m hm hh =>
  ((h m hm).1 hh).end_lt (fun a ha => (hW.sound a ha).2.1) hW.here.1
theorem AtW.behind {n : NetL} {S E : List Int} {s : SpaceL} {t : TalkL} {ws : List Int} {l : Int} {u u' : SetL} (h : AtW n s ws u) (hW : Whole n S s) (hN : s.marks.length ≤ 300) (hok : netOk n = true) (hT : TalkOk n s E t) (hb : BehindT t u l u') : AtW n s (ws ++ [l]) u' := by
  intro j hj
  rw [hb j hj, Way.last]
  constructor
  · rintro ⟨h1, h2, m, hm, hu, hn⟩
    obtain ⟨a, ha, q1, q2, q3⟩ := (hT.next m l.toNat hm (by omega) (by omega) j hj).1 hn
    refine ⟨a, ha, ?_, by rw [q2]; omega, by omega, q3⟩
    rw [q1]
    exact (h m (by have := hT.size; omega)).1 hu
  · rintro ⟨a, ha, h1, h2, h3, h4⟩
    obtain ⟨b1, b2, b3, _⟩ := hW.sound a ha
    have hl := lab_ok hok _ b3
    rw [h2] at hl
    have hsz := hT.size
    refine ⟨by omega, hl.2, a.frm, by omega, (h a.frm (by omega)).2 h1, ?_⟩
    exact (hT.next a.frm l.toNat (by omega) (by omega) (by omega) j hj).2 ⟨a, ha, rfl, by rw [h2]; omega, h4⟩
theorem AtW.none {n : NetL} {S E : List Int} {s : SpaceL} {ws r : List Int} {u : SetL} (h : AtW n s ws u) (hW : Whole n S s) (hN : s.marks.length ≤ 300) (he : emptyS u = true) : ¬ ToEnd n s E 0 (ws ++ r) := by
  rintro ⟨e, _, _, hw⟩
  obtain ⟨m, h1, h2⟩ := hw.split
  have hm : m < s.marks.length := h1.end_lt (fun a ha => (hW.sound a ha).2.1) hW.here.1
  have := (h m (by omega)).2 h1
  rw [(emptyS_iff u).1 he m (by omega)] at this
  cases this
theorem AtW.ends {n : NetL} {S E : List Int} {s : SpaceL} {t : TalkL} {ws : List Int} {u : SetL} {b : Bool} (h : AtW n s ws u) (hW : Whole n S s) (hN : s.marks.length ≤ 300) (hT : TalkOk n s E t) (he : endsT t u b) : b = true ↔ ToEnd n s E 0 ws := by
  have hsz := hT.size
  unfold endsT at he
  rw [he]
  constructor
  · rintro ⟨m, h1, h2, h3⟩
    obtain ⟨e, q1, q2, q3⟩ := (hT.least.zero (m := m) (by omega)).1 h3
    have := ((h m (by omega)).1 h2).append q3
    rw [List.append_nil] at this
    exact ⟨e, q1, q2, this⟩
  · rintro ⟨e, q1, q2, q3⟩
    exact ⟨e, by omega, (h e (by omega)).2 q3, (hT.least.zero q1).2 ⟨e, q1, q2, Way.here _⟩⟩
theorem TalkOk.start {n : NetL} {E : List Int} {s : SpaceL} {t : TalkL} (hT : TalkOk n s E t) : AtW n s [] t.bg := hT.bg

/-- Which error is told first. -/
def TongErr (n : NetL) (i o d : Int) : Prop := (¬ d = 0 ∧ Judged n i o d) ∨ (ShapeOk n i o ∧ (graphL n (startL n.places i) 300).2 = d)
theorem TongErr.unique {n : NetL} {i o d e : Int} (h : TongErr n i o d) (k : TongErr n i o e) : d = e := by
  rcases h with ⟨h1, h2⟩ | ⟨h1, h2⟩ <;> rcases k with ⟨k1, k2⟩ | ⟨k1, k2⟩
  · exact h2.unique k2
  · exact absurd k1 (h2.not_zero h1)
  · exact absurd h1 (k2.not_zero k1)
  · rw [← h2, ← k2]
/-- Is it a word of the net? -/
def WordI (n : NetL) (i o : Int) (ws : List Int) : Prop := WordN n (startL n.places i) (startL n.places o) ws
structure HasAns (n : NetL) (i o : Int) (ws : List Int) (b : Bool) (d : Int) : Prop where
  err : TongErr n i o d
  bad : ¬ d = 0 → b = false
  ok : d = 0 → (b = true ↔ WordI n i o ws)
theorem HasAns.unique {n : NetL} {i o : Int} {ws : List Int} {b c : Bool} {d e : Int} (h : HasAns n i o ws b d) (k : HasAns n i o ws c e) : b = c ∧ d = e := by
  obtain rfl := h.err.unique k.err
  refine ⟨?_, rfl⟩
  by_cases hd : d = 0
  · rw [Bool.eq_iff_iff, h.ok hd, k.ok hd]
  · rw [h.bad hd, k.bad hd]
structure LeastAns (n : NetL) (i o : Int) (k d : Int) : Prop where
  ex : ∃ d0, TongErr n i o d0 ∧ (¬ d0 = 0 → k = 0 ∧ d = d0) ∧ (d0 = 0 → (d = 3 ∧ k = 0 ∧ ∀ ws, ¬ WordI n i o ws) ∨ (d = 0 ∧ ∃ ws, WordI n i o ws ∧ (ws.length : Int) = k ∧ ∀ ws', WordI n i o ws' → k ≤ ws'.length))
theorem LeastAns.unique {n : NetL} {i o k d k' d' : Int} (h : LeastAns n i o k d) (h' : LeastAns n i o k' d') : k = k' ∧ d = d' := by
  obtain ⟨d0, h1, h2, h3⟩ := h.ex
  obtain ⟨d0', h1', h2', h3'⟩ := h'.ex
  obtain rfl := h1.unique h1'
  by_cases hd : d0 = 0
  · rcases h3 hd with ⟨q1, q2, q3⟩ | ⟨q1, ws, q2, q3, q4⟩ <;> rcases h3' hd with ⟨r1, r2, r3⟩ | ⟨r1, ws', r2, r3, r4⟩
    · exact ⟨by omega, by omega⟩
    · exact absurd r2 (q3 _)
    · exact absurd q2 (r3 _)
    · have := q4 _ r2; have := r4 _ q2; exact ⟨by omega, by omega⟩
  · obtain ⟨q1, q2⟩ := h2 hd
    obtain ⟨r1, r2⟩ := h2' hd
    exact ⟨by omega, by omega⟩

theorem heard_err {w' : World} {n : NetL} {i o : Int} {p : Option Addr} {d : Int} (h : Heard w' n i o p d) : TongErr n i o d := by
  rcases h with ⟨h1, _, h2 | ⟨h2, h3⟩⟩ | ⟨h1, h2, s, h3, _⟩
  · exact .inl ⟨h1, h2⟩
  · exact .inr ⟨h2, h3⟩
  · exact .inr ⟨h2, by rw [h3, h1]⟩

end Go.Proofs.Ytakgppoeikcepaa

/- Package tongue as it landed: Has and Least. -/
namespace Go.Proofs.Ytakgppoeikcepaa
open Go.RowKit
set_option linter.unusedVariables false
set_option maxRecDepth 4000

theorem ints_at {w : World} {a : Option Addr} {len cap : Nat} {xs : List Int} (h : Ints w (.slice a len cap) xs) {k : Nat} (hk : k < len) : ∃ b off, a = some ⟨b, off, none⟩ ∧ b < w.heap.size ∧ w.cell? ⟨b, off + k, none⟩ = some (.int .i64 (nth xs k)) := by
  obtain ⟨a', len', cap', e, hl, hm, hs, hr⟩ := h
  injection e with e1 e2 e3
  subst e1 e2 e3
  exact hr k (by omega)

set_option maxRecDepth 100000 in
set_option maxHeartbeats 4000000 in
theorem tongue_least (v : Value) (n : NetL) (i o : Int) (w : World) (hv : Net w v n) :
    Calls Try.prog 12 #[v, .int .i64 i, .int .i64 o] w fun e w' => ∃ k d, e = .returned (.tuple #[.int .i64 k, .int .i64 d]) ∧ LeastAns n i o k d ∧ Below w.heap.size w w' := by
  obtain ⟨tv, rfl, hT⟩ := hv
  have c : Below w.heap.size w (w.alloc (.cells #[.int .i64 n.places, tv] 24)) := below_new _ _
  have hbx := box2_new w (.int .i64 n.places) tv 24
  obtain ⟨w0, Hw0⟩ : ∃ w0, Hid (w.alloc (.cells #[.int .i64 n.places, tv] 24) = w0) := ⟨_, rfl⟩
  rw [Hw0.out] at c hbx
  have hv : Net w0 (.agg #[.int .i64 n.places, tv]) n := ⟨_, rfl, hT.below c⟩
  obtain ⟨x0, x1, x2⟩ := id hbx
  go_enter Try.func12, Try.ntmps12
  go_upto_region 1 with fail
  rw [Hw0.out]
  clear Hw0
  go_wp2_with fail
  clear x0 x1 x2
  refine (heard_any _ n i o _ (by exact hv)).mono ?_
  rintro e w1 ⟨p, d, rfl, hH, b⟩
  have HE := heard_err hH
  replace c := below_then c b
  clear b hv hbx
  rcases hH with ⟨hd0, rfl, _⟩ | ⟨rfl, hS, s, hG, T, bn, lv, t, rfl, hTa, hTk⟩
  · have hdd : (d != 0) = true := by simpa using hd0
    go_wp2
    go_ret2
    exact ⟨0, d, rfl, ⟨d, HE, fun _ => ⟨rfl, rfl⟩, fun h => absurd h hd0⟩, c⟩
  · have hW := graphL_whole hG
    have hwd : ∀ ws, WordI n i o ws ↔ ToEnd n s (startL n.places o) 0 ws := fun ws => hW.word
    have h0n := hW.here.1
    have t6 := hTa.c6
    obtain ⟨b, off, cap, rfl, hlt, hcl⟩ := hTa.least_at (m := 0) (by rw [hTk.size]; exact h0n)
    have hn0 : 0 < t.n := by rw [hTk.size]; exact h0n
    have hn3 := hTa.small
    obtain ⟨k, Hk⟩ : ∃ k, Hid (nth t.least 0 = k) := ⟨_, rfl⟩
    rw [Hk.out] at hcl
    rw [Nat.add_zero] at hcl
    have hLA := hTk.least
    by_cases h300 : k = 300
    · subst h300
      have R : LeastAns n i o 0 3 := ⟨0, HE, fun h => absurd rfl h, fun _ => .inl ⟨rfl, rfl, fun ws hws => by
        have := (hLA.least 0 h0n ws ((hwd ws).1 hws)).2
        have := Hk.out
        omega⟩⟩
      clear hLA hTa
      go_wp2
      go_ret2
      exact ⟨0, 3, rfl, R, c⟩
    · have hne : (k == 300) = false := by simpa using h300
      have R : LeastAns n i o k 0 := by
        have hp := hLA.pos 0 h0n
        have hk := Hk.out
        obtain ⟨ws, h1, h2⟩ := hLA.sound 0 h0n (by omega)
        exact ⟨0, HE, fun h => absurd rfl h, fun _ => .inr ⟨rfl, ws, (hwd ws).2 h1, by omega, fun ws' h' => by have := (hLA.least 0 h0n ws' ((hwd ws').1 h')).1; omega⟩⟩
      clear hLA hTa h300
      go_wp2
      go_ret2
      exact ⟨k, 0, rfl, R, c⟩

end Go.Proofs.Ytakgppoeikcepaa

/- Package tongue as it landed: near. -/
namespace Go.Proofs.Ytakgppoeikcepaa
open Go.RowKit Go.Shelf
set_option linter.unusedVariables false
set_option linter.unusedSimpArgs false
set_option maxRecDepth 4000

/-- The marks among the first k from which the end is not far. -/
def NearTo (t : TalkL) (room : Int) (k : Nat) (q : SetL) : Prop := ∀ j, j < 320 → (q.has j = true ↔ j < k ∧ nth t.least j ≤ room)
theorem NearTo.zero (t : TalkL) (room : Int) : NearTo t room 0 noneS := fun j _ => by rw [has_none]; simp
theorem NearTo.more {t : TalkL} {room : Int} {k : Nat} {q : SetL} (h : NearTo t room k q) (hk : nth t.least k ≤ room) : NearTo t room (k + 1) (orS q (onlyS k)) := by
  intro j hj
  rw [has_or, Bool.or_eq_true, h j hj, has_only, decide_eq_true_eq]
  constructor
  · rintro (⟨h1, h2⟩ | rfl)
    · exact ⟨by omega, h2⟩
    · exact ⟨by omega, hk⟩
  · rintro ⟨h1, h2⟩
    by_cases e : j = k
    · exact .inr e
    · exact .inl ⟨by omega, h2⟩
theorem NearTo.skip {t : TalkL} {room : Int} {k : Nat} {q : SetL} (h : NearTo t room k q) (hk : ¬ nth t.least k ≤ room) : NearTo t room (k + 1) q := by
  intro j hj
  rw [h j hj]
  constructor
  · rintro ⟨h1, h2⟩; exact ⟨by omega, h2⟩
  · rintro ⟨h1, h2⟩
    by_cases e : j = k
    · subst e; exact absurd h2 hk
    · exact ⟨by omega, h2⟩

end Go.Proofs.Ytakgppoeikcepaa

/- All words of a net up to some length, plainly: level by level. -/
namespace Go.Proofs.Ytakgppoeikcepaa
set_option linter.unusedVariables false
set_option maxRecDepth 4000

/-- A beginning that some word of up to most letters has. -/
def BeginI (n : NetL) (s : SpaceL) (E : List Int) (most : Int) (ws : List Int) : Prop := ∃ r, ToEnd n s E 0 (ws ++ r) ∧ ((ws ++ r).length : Int) ≤ most
/-- Where one is behind ws, if it may still become a word. -/
def AtN (n : NetL) (s : SpaceL) (t : TalkL) (most : Int) (ws : List Int) (q : SetL) : Prop := ∀ j, j < 320 → (q.has j = true ↔ Way s.arcs (labT n) 0 ws j ∧ nth t.least j ≤ most - ws.length)

theorem AtN.lt {n : NetL} {S : List Int} {s : SpaceL} {t : TalkL} {most : Int} {ws : List Int} {q : SetL} (h : AtN n s t most ws q) (hW : Whole n S s) : ∀ m, m < 320 → q.has m = true → m < s.marks.length := fun m hm hh =>
  ((h m hm).1 hh).1.end_lt (fun a ha => (hW.sound a ha).2.1) hW.here.1
theorem AtN.first {n : NetL} {S E : List Int} {s : SpaceL} {t : TalkL} {most : Int} {q : SetL} (hW : Whole n S s) (hN : s.marks.length ≤ 300) (hT : TalkOk n s E t) (hq : NearTo t most t.n q) : AtN n s t most [] (andS t.bg q) := by
  intro j hj
  rw [has_and, Bool.and_eq_true, hT.bg j hj, hq j hj, hT.size]
  simp only [List.length_nil, Int.natCast_zero, Int.sub_zero]
  constructor
  · rintro ⟨h1, h2, h3⟩; exact ⟨h1, h3⟩
  · rintro ⟨h1, h2⟩; exact ⟨h1, h1.end_lt (fun a ha => (hW.sound a ha).2.1) hW.here.1, h2⟩
/-- One letter more. -/
theorem AtN.next {n : NetL} {S E : List Int} {s : SpaceL} {t : TalkL} {most : Int} {ws : List Int} {l : Int} {q u nr : SetL} (h : AtN n s t most ws q) (hW : Whole n S s) (hN : s.marks.length ≤ 300) (hok : netOk n = true) (hT : TalkOk n s E t)
    (hb : BehindT t q l u) (hn : NearTo t (most - ws.length - 1) t.n nr) : AtN n s t most (ws ++ [l]) (andS u nr) := by
  intro j hj
  have hsz := hT.size
  rw [has_and, Bool.and_eq_true, hb j hj, hn j hj, Way.last]
  simp only [List.length_append, List.length_cons, List.length_nil]
  constructor
  · rintro ⟨⟨h1, h2, m, hm, hu, hx⟩, h3, h4⟩
    obtain ⟨a, ha, q1, q2, q3⟩ := (hT.next m l.toNat hm (by omega) (by omega) j hj).1 hx
    refine ⟨⟨a, ha, ?_, by rw [q2]; omega, by omega, q3⟩, by omega⟩
    rw [q1]
    exact ((h m (by omega)).1 hu).1
  · rintro ⟨⟨a, ha, h1, h2, h3, h4⟩, h5⟩
    obtain ⟨b1, b2, b3, _⟩ := hW.sound a ha
    have hl := lab_ok hok _ b3
    rw [h2] at hl
    have hjN : j < s.marks.length := h4.end_lt (fun a ha => (hW.sound a ha).2.1) b2
    refine ⟨⟨by omega, hl.2, a.frm, by omega, (h a.frm (by omega)).2 ⟨h1, ?_⟩, (hT.next a.frm l.toNat (by omega) (by omega) (by omega) j hj).2 ⟨a, ha, rfl, by rw [h2]; omega, h4⟩⟩, by omega, by omega⟩
    -- the way from there to the end is one letter longer, at most
    by_cases h300 : nth t.least j < 300
    · obtain ⟨w', ⟨e, e1, e2, e3⟩, hw'⟩ := hT.least.sound j hjN h300
      have hway : Way s.arcs (labT n) a.frm (l :: w') e := by
        have := (Way.arc (lb := labT n) ha (by rw [h2]; exact h3)).append (h4.append e3)
        rw [h2] at this
        exact this
      have := (hT.least.least a.frm b1 (l :: w') ⟨e, e1, e2, hway⟩).1
      simp only [List.length_cons] at this
      omega
    · have := (hT.least.pos a.frm b1).2
      have := (hT.least.pos j hjN).2
      omega
theorem AtN.some {n : NetL} {S E : List Int} {s : SpaceL} {t : TalkL} {most : Int} {ws : List Int} {q : SetL} (h : AtN n s t most ws q) (hW : Whole n S s) (hN : s.marks.length ≤ 300) (hm : most < 300) (hT : TalkOk n s E t) : emptyS q = false ↔ BeginI n s E most ws := by
  rw [← Bool.not_eq_true, emptyS_iff]
  constructor
  · intro hne
    obtain ⟨j, hj, hq⟩ : ∃ j, j < 320 ∧ q.has j = true := Classical.byContradiction fun hno => hne fun m hm => by
      cases hh : q.has m
      · rfl
      · exact absurd ⟨m, hm, hh⟩ hno
    obtain ⟨h1, h2⟩ := (h j hj).1 hq
    have hjN : j < s.marks.length := h1.end_lt (fun a ha => (hW.sound a ha).2.1) hW.here.1
    obtain ⟨r, ⟨e, e1, e2, e3⟩, hr⟩ := hT.least.sound j hjN (by omega)
    exact ⟨r, ⟨e, e1, e2, h1.append e3⟩, by simp only [List.length_append]; omega⟩
  · rintro ⟨r, ⟨e, e1, e2, e3⟩, hr⟩ hno
    obtain ⟨m, h1, h2⟩ := e3.split
    have hmN : m < s.marks.length := h1.end_lt (fun a ha => (hW.sound a ha).2.1) hW.here.1
    have hl := (hT.least.least m hmN r ⟨e, e1, e2, h2⟩).1
    simp only [List.length_append] at hr
    have := (h m (by omega)).2 ⟨h1, by omega⟩
    rw [hno m (by omega)] at this
    cases this
theorem AtN.ends {n : NetL} {S E : List Int} {s : SpaceL} {t : TalkL} {most : Int} {ws : List Int} {q : SetL} {b : Bool} (h : AtN n s t most ws q) (hW : Whole n S s) (hN : s.marks.length ≤ 300) (hl : (ws.length : Int) ≤ most) (hT : TalkOk n s E t) (he : endsT t q b) : b = true ↔ ToEnd n s E 0 ws := by
  have hsz := hT.size
  unfold endsT at he
  rw [he]
  constructor
  · rintro ⟨m, h1, h2, h3⟩
    obtain ⟨e, q1, q2, q3⟩ := (hT.least.zero (m := m) (by omega)).1 h3
    have := ((h m (by omega)).1 h2).1.append q3
    rw [List.append_nil] at this
    exact ⟨e, q1, q2, this⟩
  · rintro ⟨e, q1, q2, q3⟩
    have hz := (hT.least.zero q1).2 ⟨e, q1, q2, Way.here _⟩
    exact ⟨e, by omega, (h e (by omega)).2 ⟨q3, by omega⟩, hz⟩

/-- A level: all beginnings of k letters, in their order. -/
structure Level (n : NetL) (s : SpaceL) (E : List Int) (t : TalkL) (most : Int) (k : Nat) (L : List (List Int × SetL)) : Prop where
  up : (L.map (·.1)).Pairwise SLex
  mem : ∀ ws, ws ∈ L.map (·.1) ↔ ws.length = k ∧ BeginI n s E most ws
  at_ : ∀ x ∈ L, AtN n s t most x.1 x.2
/-- The letters of a word. -/
theorem BeginI.letters {n : NetL} {S E : List Int} {s : SpaceL} {most : Int} {ws : List Int} {l : Int} (hW : Whole n S s) (hok : netOk n = true) (h : BeginI n s E most (ws ++ [l])) : BeginI n s E most ws ∧ 1 ≤ l ∧ l ≤ 26 := by
  obtain ⟨r, ⟨e, e1, e2, e3⟩, hr⟩ := h
  refine ⟨⟨l :: r, ⟨e, e1, e2, by simpa using e3⟩, by simpa using hr⟩, ?_⟩
  obtain ⟨m, h1, h2⟩ := e3.split
  obtain ⟨a, ha, _, h4, h5, _⟩ := Way.last.1 h1
  have := lab_ok hok _ (hW.sound a ha).2.2.1
  omega

/-- The beginnings with one letter more: of the first i of L all, of the next one those with a letter below c. -/
structure NextL (n : NetL) (s : SpaceL) (E : List Int) (t : TalkL) (most : Int) (k : Nat) (L : List (List Int × SetL)) (i c : Nat) (M : List (List Int × SetL)) : Prop where
  up : (M.map (·.1)).Pairwise SLex
  mem : ∀ ws, ws ∈ M.map (·.1) ↔ ∃ (j : Nat) (l : Int), (∃ h : j < L.length, ws = L[j].1 ++ [l]) ∧ 1 ≤ l ∧ l ≤ 26 ∧ (j < i ∨ j = i ∧ l < c) ∧ BeginI n s E most ws
  at_ : ∀ x ∈ M, AtN n s t most x.1 x.2
  len : M.length ≤ 26 * i + (c - 1)
theorem NextL.start {n : NetL} {s : SpaceL} {E : List Int} {t : TalkL} {most : Int} {k : Nat} {L : List (List Int × SetL)} : NextL n s E t most k L 0 1 [] := by
  refine ⟨List.Pairwise.nil, fun ws => ⟨fun h => by simp at h, ?_⟩, by simp, by simp⟩
  rintro ⟨j, l, _, h1, h2, h3, _⟩
  omega
theorem NextL.row {n : NetL} {s : SpaceL} {E : List Int} {t : TalkL} {most : Int} {k i : Nat} {L M : List (List Int × SetL)} (h : NextL n s E t most k L i 27 M) : NextL n s E t most k L (i + 1) 1 M := by
  refine ⟨h.up, fun ws => ?_, h.at_, by have := h.len; omega⟩
  rw [h.mem]
  constructor
  · rintro ⟨j, l, q1, q2, q3, q4, q5⟩; exact ⟨j, l, q1, q2, q3, by omega, q5⟩
  · rintro ⟨j, l, q1, q2, q3, q4, q5⟩; exact ⟨j, l, q1, q2, q3, by omega, q5⟩
theorem NextL.skip {n : NetL} {s : SpaceL} {E : List Int} {t : TalkL} {most : Int} {k i c : Nat} {L M : List (List Int × SetL)} (h : NextL n s E t most k L i c M) (hi : i < L.length) (hc : 1 ≤ c) (hno : ¬ BeginI n s E most (L[i].1 ++ [(c : Int)])) : NextL n s E t most k L i (c + 1) M := by
  refine ⟨h.up, fun ws => ?_, h.at_, by have := h.len; omega⟩
  rw [h.mem]
  constructor
  · rintro ⟨j, l, q1, q2, q3, q4, q5⟩; exact ⟨j, l, q1, q2, q3, by omega, q5⟩
  · rintro ⟨j, l, ⟨hj, e⟩, q2, q3, q4, q5⟩
    by_cases e2 : j = i ∧ l = c
    · obtain ⟨rfl, rfl⟩ := e2
      rw [e] at q5
      exact absurd q5 hno
    · exact ⟨j, l, ⟨hj, e⟩, q2, q3, by omega, q5⟩
theorem NextL.add {n : NetL} {s : SpaceL} {E : List Int} {t : TalkL} {most : Int} {k i c : Nat} {L M : List (List Int × SetL)} (h : NextL n s E t most k L i c M) (hL : Level n s E t most k L) (hi : i < L.length) (hc : 1 ≤ c) (hc2 : c ≤ 26) (hb : BeginI n s E most (L[i].1 ++ [(c : Int)])) {q : SetL} (hq : AtN n s t most (L[i].1 ++ [(c : Int)]) q) :
    NextL n s E t most k L i (c + 1) (M ++ [(L[i].1 ++ [(c : Int)], q)]) := by
  have hlen : ∀ j (hj : j < L.length), L[j].1.length = k := fun j hj => ((hL.mem _).1 (List.mem_map_of_mem (List.getElem_mem hj))).1
  have hlt : ∀ j (hj : j < L.length), j < i → LexI L[j].1 L[i].1 := fun j hj hji => by
    have := (List.pairwise_iff_getElem.1 hL.up) j i (by simpa using hj) (by simpa using hi) hji
    simp only [List.getElem_map] at this
    rcases this with q | ⟨_, q⟩
    · rw [hlen j hj, hlen i hi] at q; omega
    · exact q
  refine ⟨?_, fun ws => ?_, fun x hx => ?_, by have := h.len; simp; omega⟩
  · rw [List.map_append, List.pairwise_append]
    refine ⟨h.up, by simp, fun a ha b hb' => ?_⟩
    simp only [List.map_cons, List.map_nil, List.mem_singleton] at hb'
    subst hb'
    obtain ⟨j, l, ⟨hj, e⟩, q2, q3, q4, q5⟩ := (h.mem a).1 ha
    subst e
    refine .inr ⟨by simp [hlen j hj, hlen i hi], ?_⟩
    rcases q4 with q4 | ⟨rfl, q4⟩
    · exact (hlt j hj q4).snoc
    · exact LexI.last q4 _
  · rw [List.map_append, List.mem_append, h.mem]
    simp only [List.map_cons, List.map_nil, List.mem_singleton]
    constructor
    · rintro (⟨j, l, q1, q2, q3, q4, q5⟩ | rfl)
      · exact ⟨j, l, q1, q2, q3, by omega, q5⟩
      · exact ⟨i, (c : Int), ⟨hi, rfl⟩, by omega, by omega, by omega, hb⟩
    · rintro ⟨j, l, ⟨hj, e⟩, q2, q3, q4, q5⟩
      by_cases e2 : j = i ∧ l = c
      · obtain ⟨rfl, rfl⟩ := e2; exact .inr e
      · exact .inl ⟨j, l, ⟨hj, e⟩, q2, q3, by omega, q5⟩
  · rcases List.mem_append.1 hx with hx | hx
    · exact h.at_ x hx
    · rw [List.mem_singleton.1 hx]; exact hq
theorem NextL.done {n : NetL} {S E : List Int} {s : SpaceL} {t : TalkL} {most : Int} {k : Nat} {L M : List (List Int × SetL)} (h : NextL n s E t most k L L.length 1 M) (hL : Level n s E t most k L) (hW : Whole n S s) (hok : netOk n = true) : Level n s E t most (k + 1) M := by
  refine ⟨h.up, fun ws => ?_, h.at_⟩
  rw [h.mem]
  constructor
  · rintro ⟨j, l, ⟨hj, rfl⟩, q2, q3, q4, q5⟩
    have := ((hL.mem _).1 (List.mem_map_of_mem (List.getElem_mem hj))).1
    exact ⟨by simp [this], q5⟩
  · rintro ⟨h1, h2⟩
    obtain ⟨u, l, rfl⟩ : ∃ u l, ws = u ++ [l] := by
      rcases List.eq_nil_or_concat ws with e | ⟨u, l, e⟩
      · rw [e] at h1; simp at h1
      · exact ⟨u, l, by rw [e]; simp⟩
    obtain ⟨q1, q2, q3⟩ := h2.letters hW hok
    have hu : u ∈ L.map (·.1) := (hL.mem u).2 ⟨by simpa using h1, q1⟩
    obtain ⟨x, hx, rfl⟩ := List.mem_map.1 hu
    obtain ⟨j, hj, rfl⟩ := List.getElem_of_mem hx
    exact ⟨j, l, ⟨hj, rfl⟩, q2, q3, .inl hj, h2⟩

end Go.Proofs.Ytakgppoeikcepaa

/- What is listed, plainly. -/
namespace Go.Proofs.Ytakgppoeikcepaa
set_option linter.unusedVariables false
set_option maxRecDepth 4000

/-- The words so far: all that are shorter than k, and those among the first i of the level. -/
structure Got (n : NetL) (s : SpaceL) (E : List Int) (most : Int) (k : Nat) (L : List (List Int × SetL)) (i : Nat) (ws : List (List Int)) : Prop where
  up : ws.Pairwise SLex
  mem : ∀ x, x ∈ ws ↔ (ToEnd n s E 0 x ∧ (x.length : Int) ≤ most) ∧ (x.length < k ∨ ∃ (j : Nat) (h : j < L.length), j < i ∧ x = L[j].1)
theorem Got.start {n : NetL} {s : SpaceL} {E : List Int} {most : Int} {L : List (List Int × SetL)} : Got n s E most 0 L 0 [] := by
  refine ⟨List.Pairwise.nil, fun x => ⟨fun h => by simp at h, ?_⟩⟩
  rintro ⟨_, h | ⟨j, _, h, _⟩⟩ <;> omega
theorem Got.skip {n : NetL} {s : SpaceL} {E : List Int} {most : Int} {k i : Nat} {L : List (List Int × SetL)} {ws : List (List Int)} (h : Got n s E most k L i ws) (hi : i < L.length) (hno : ¬ ToEnd n s E 0 L[i].1) : Got n s E most k L (i + 1) ws := by
  refine ⟨h.up, fun x => ?_⟩
  rw [h.mem]
  constructor
  · rintro ⟨h1, h2 | ⟨j, hj, h2, h3⟩⟩
    · exact ⟨h1, .inl h2⟩
    · exact ⟨h1, .inr ⟨j, hj, by omega, h3⟩⟩
  · rintro ⟨h1, h2 | ⟨j, hj, h2, h3⟩⟩
    · exact ⟨h1, .inl h2⟩
    · by_cases e : j = i
      · subst e; rw [h3] at h1; exact absurd h1.1 hno
      · exact ⟨h1, .inr ⟨j, hj, by omega, h3⟩⟩
theorem Got.add {n : NetL} {s : SpaceL} {E : List Int} {t : TalkL} {most : Int} {k i : Nat} {L : List (List Int × SetL)} {ws : List (List Int)} (h : Got n s E most k L i ws) (hL : Level n s E t most k L) (hi : i < L.length) (hy : ToEnd n s E 0 L[i].1) : Got n s E most k L (i + 1) (ws ++ [L[i].1]) := by
  have hlen : ∀ j (hj : j < L.length), L[j].1.length = k := fun j hj => ((hL.mem _).1 (List.mem_map_of_mem (List.getElem_mem hj))).1
  have hm : (L[i].1.length : Int) ≤ most := by
    obtain ⟨r, _, hr⟩ := ((hL.mem _).1 (List.mem_map_of_mem (List.getElem_mem hi))).2
    simp only [List.length_append] at hr
    omega
  refine ⟨?_, fun x => ?_⟩
  · rw [List.pairwise_append]
    refine ⟨h.up, by simp, fun a ha b hb => ?_⟩
    rw [List.mem_singleton.1 hb]
    rcases ((h.mem a).1 ha).2 with q | ⟨j, hj, q1, rfl⟩
    · exact .inl (by rw [hlen i hi]; exact q)
    · have := (List.pairwise_iff_getElem.1 hL.up) j i (by simpa using hj) (by simpa using hi) q1
      simpa only [List.getElem_map] using this
  · rw [List.mem_append, h.mem, List.mem_singleton]
    constructor
    · rintro (⟨h1, h2 | ⟨j, hj, h2, h3⟩⟩ | rfl)
      · exact ⟨h1, .inl h2⟩
      · exact ⟨h1, .inr ⟨j, hj, by omega, h3⟩⟩
      · exact ⟨⟨hy, hm⟩, .inr ⟨i, hi, by omega, rfl⟩⟩
    · rintro ⟨h1, h2 | ⟨j, hj, h2, h3⟩⟩
      · exact .inl ⟨h1, .inl h2⟩
      · by_cases e : j = i
        · subst e; exact .inr h3
        · exact .inl ⟨h1, .inr ⟨j, hj, by omega, h3⟩⟩
theorem Got.next {n : NetL} {s : SpaceL} {E : List Int} {t : TalkL} {most : Int} {k : Nat} {L M : List (List Int × SetL)} {ws : List (List Int)} (h : Got n s E most k L L.length ws) (hL : Level n s E t most k L) : Got n s E most (k + 1) M 0 ws := by
  refine ⟨h.up, fun x => ?_⟩
  rw [h.mem]
  constructor
  · rintro ⟨h1, h2 | ⟨j, hj, h2, h3⟩⟩
    · exact ⟨h1, .inl (by omega)⟩
    · have := ((hL.mem _).1 (List.mem_map_of_mem (List.getElem_mem hj))).1
      exact ⟨h1, .inl (by rw [h3, this]; omega)⟩
  · rintro ⟨h1, h2 | ⟨j, hj, h2, h3⟩⟩
    · by_cases e : x.length < k
      · exact ⟨h1, .inl e⟩
      · have hx : x ∈ L.map (·.1) := (hL.mem x).2 ⟨by omega, [], by simpa using h1.1, by simpa using h1.2⟩
        obtain ⟨y, hy, rfl⟩ := List.mem_map.1 hx
        obtain ⟨j, hj, rfl⟩ := List.getElem_of_mem hy
        exact ⟨h1, .inr ⟨j, hj, hj, rfl⟩⟩
    · omega
theorem Got.done {n : NetL} {s : SpaceL} {E : List Int} {t : TalkL} {most : Int} {k : Nat} {ws : List (List Int)} (h : Got n s E most k [] 0 ws) (hL : Level n s E t most k []) : ∀ x, x ∈ ws ↔ ToEnd n s E 0 x ∧ (x.length : Int) ≤ most := by
  intro x
  rw [h.mem]
  constructor
  · rintro ⟨h1, _⟩; exact h1
  · intro h1
    refine ⟨h1, .inl (Nat.lt_of_not_le fun hk => ?_)⟩
    have := (hL.mem (x.take k)).2 ⟨by simp; omega, x.drop k, by rw [List.take_append_drop]; exact h1.1, by rw [List.take_append_drop]; exact h1.2⟩
    simp at this

/-- There are more than may be listed. -/
def FullW (W : List Int → Prop) (most : Int) : Prop := ∃ l : List (List Int), l.Nodup ∧ (∀ x ∈ l, W x ∧ (x.length : Int) ≤ most) ∧ 400 < l.length
theorem level_full {n : NetL} {s : SpaceL} {E : List Int} {t : TalkL} {most : Int} {k : Nat} {L : List (List Int × SetL)} (hL : Level n s E t most k L) (h : 400 < L.length) : FullW (ToEnd n s E 0) most := by
  have hex : ∀ x : List Int, ∃ y : List Int, (x ∈ L.map (·.1) → ToEnd n s E 0 y ∧ (y.length : Int) ≤ most ∧ y.take k = x) := by
    intro x
    by_cases hx : x ∈ L.map (·.1)
    · obtain ⟨h1, r, h2, h3⟩ := (hL.mem x).1 hx
      exact ⟨x ++ r, fun _ => ⟨h2, h3, by rw [← h1, List.take_left']; rfl⟩⟩
    · exact ⟨[], fun h => absurd h hx⟩
  obtain ⟨f, hf⟩ := Classical.axiomOfChoice hex
  refine ⟨(L.map (·.1)).map f, ?_, fun x hx => ?_, by simpa using h⟩
  · have hnd := slex_nodup hL.up
    rw [List.nodup_iff_pairwise_ne] at hnd ⊢
    rw [List.pairwise_map]
    refine hnd.imp_of_mem fun {a b} ha hb hne e => hne ?_
    have h1 := (hf a ha).2.2
    have h2 := (hf b hb).2.2
    rw [← h1, ← h2, e]
  · obtain ⟨y, hy, rfl⟩ := List.mem_map.1 hx
    exact ⟨(hf y hy).1, (hf y hy).2.1⟩
theorem got_full {n : NetL} {s : SpaceL} {E : List Int} {most : Int} {k i : Nat} {L : List (List Int × SetL)} {ws : List (List Int)} (h : Got n s E most k L i ws) (hl : 400 < ws.length) : FullW (ToEnd n s E 0) most :=
  ⟨ws, slex_nodup h.up, fun x hx => ((h.mem x).1 hx).1, hl⟩

/-- What Words tells of words W. -/
def ListsW (W : List Int → Prop) (most : Int) (l : List (List Int)) (d : Int) : Prop :=
  (FullW W most ∧ l = [] ∧ d = 4) ∨ (l.length ≤ 400 ∧ d = 0 ∧ l.Pairwise SLex ∧ ∀ x, x ∈ l ↔ W x ∧ (x.length : Int) ≤ most)
theorem ListsW.unique {W : List Int → Prop} {most : Int} {l l' : List (List Int)} {d d' : Int} (h : ListsW W most l d) (k : ListsW W most l' d') : l = l' ∧ d = d' := by
  have key : ∀ {m : List (List Int)}, FullW W most → m.length ≤ 400 → (∀ x, x ∈ m ↔ W x ∧ (x.length : Int) ≤ most) → False := by
    rintro m ⟨f, f1, f2, f3⟩ hm hx
    have := nodup_lists (l2 := m) f1 fun x hx' => (hx x).2 (f2 x hx')
    omega
  rcases h with ⟨h1, rfl, rfl⟩ | ⟨h1, rfl, h3, h4⟩ <;> rcases k with ⟨k1, rfl, rfl⟩ | ⟨k1, rfl, k3, k4⟩
  · exact ⟨rfl, rfl⟩
  · exact (key h1 k1 k4).elim
  · exact (key k1 h1 h4).elim
  · exact ⟨slex_unique h3 k3 fun x => by rw [h4, k4], rfl⟩
theorem FullW.congr {W V : List Int → Prop} {most : Int} (h : ∀ x, W x ↔ V x) : FullW W most ↔ FullW V most := by
  constructor
  · rintro ⟨l, h1, h2, h3⟩; exact ⟨l, h1, fun x hx => ⟨(h x).1 (h2 x hx).1, (h2 x hx).2⟩, h3⟩
  · rintro ⟨l, h1, h2, h3⟩; exact ⟨l, h1, fun x hx => ⟨(h x).2 (h2 x hx).1, (h2 x hx).2⟩, h3⟩
theorem ListsW.congr {W V : List Int → Prop} {most : Int} {l : List (List Int)} {d : Int} (h : ∀ x, W x ↔ V x) (hl : ListsW W most l d) : ListsW V most l d := by
  rcases hl with ⟨h1, h2⟩ | ⟨h1, h2, h3, h4⟩
  · exact .inl ⟨(FullW.congr h).1 h1, h2⟩
  · exact .inr ⟨h1, h2, h3, fun x => by rw [h4, h]⟩

structure WordsAns (n : NetL) (i o most : Int) (l : List (List Int)) (d : Int) : Prop where
  ex : ∃ d0, TongErr n i o d0 ∧ (¬ d0 = 0 → l = [] ∧ d = d0) ∧ (d0 = 0 → (¬ (0 ≤ most ∧ most ≤ 8) → l = [] ∧ d = 2) ∧ ((0 ≤ most ∧ most ≤ 8) → ListsW (WordI n i o) most l d))
theorem WordsAns.unique {n : NetL} {i o most : Int} {l l' : List (List Int)} {d d' : Int} (h : WordsAns n i o most l d) (k : WordsAns n i o most l' d') : l = l' ∧ d = d' := by
  obtain ⟨d0, h1, h2, h3⟩ := h.ex
  obtain ⟨e0, k1, k2, k3⟩ := k.ex
  obtain rfl := h1.unique k1
  by_cases hd : d0 = 0
  · by_cases hm : 0 ≤ most ∧ most ≤ 8
    · exact ((h3 hd).2 hm).unique ((k3 hd).2 hm)
    · obtain ⟨q1, q2⟩ := (h3 hd).1 hm
      obtain ⟨r1, r2⟩ := (k3 hd).1 hm
      exact ⟨by rw [q1, r1], by omega⟩
  · obtain ⟨q1, q2⟩ := h2 hd
    obtain ⟨r1, r2⟩ := k2 hd
    exact ⟨by rw [q1, r1], by omega⟩

end Go.Proofs.Ytakgppoeikcepaa

/- Plain: what the laws TongueShort and TongueRuns ask of Has, Least and Words. -/
namespace Go.Proofs.Ytakgppoeikcepaa
set_option linter.unusedVariables false
set_option maxRecDepth 4000

theorem TongErr.not3 {n : NetL} {i o : Int} (h : TongErr n i o 3) : False := by
  rcases h with ⟨_, h⟩ | ⟨_, h⟩
  · cases hn : netOk n with
    | false => have := h.bad hn; omega
    | true =>
      by_cases hs : ShapeOk n i o
      · have := h.right hs; omega
      · have := h.form hn hs; omega
  · unfold graphL at h
    split at h
    · split at h <;> simp at h
    · simp at h

theorem least_three {n : NetL} {i o k : Int} (h : LeastAns n i o k 3) : TongErr n i o 0 ∧ ∀ ws, ¬ WordI n i o ws := by
  obtain ⟨d0, h1, h2, h3⟩ := h.ex
  by_cases hd : d0 = 0
  · subst hd
    rcases h3 rfl with ⟨_, _, q⟩ | ⟨q, _⟩
    · exact ⟨h1, q⟩
    · exact absurd q (by omega)
  · obtain ⟨_, q⟩ := h2 hd
    subst q
    exact h1.not3.elim

/-- Where there is no word. -/
theorem ask_none {n : NetL} {i o k most : Int} {l : List (List Int)} {ws : List Int} {b : Bool} {d2 d3 : Int} (hL : LeastAns n i o k 3) (hW : WordsAns n i o most l d2) (hH : HasAns n i o ws b d3) : d3 = 0 ∧ b = false ∧ (d2 = 0 → l.length = 0) := by
  obtain ⟨h0, hn⟩ := least_three hL
  obtain rfl := hH.err.unique h0
  refine ⟨rfl, ?_, fun hd => ?_⟩
  · cases hb : b with
    | false => rfl
    | true => exact absurd ((hH.ok rfl).1 hb) (hn ws)
  · subst hd
    obtain ⟨e, w1, w2, w3⟩ := hW.ex
    obtain rfl := w1.unique h0
    by_cases hm : 0 ≤ most ∧ most ≤ 8
    · rcases (w3 rfl).2 hm with ⟨_, rfl, _⟩ | ⟨_, _, _, q⟩
      · rfl
      · cases l with
        | nil => rfl
        | cons a t => exact absurd ((q a).1 (by simp)).1 (hn a)
    · exact absurd ((w3 rfl).1 hm).2 (by omega)

/-- Where all three tell of the same fault. -/
theorem ask_fault {n : NetL} {i o k d : Int} {ws : List Int} {b : Bool} {d3 : Int} (hL : LeastAns n i o k d) (hd : ¬ d = 0) (h3 : ¬ d = 3) (hH : HasAns n i o ws b d3) : d3 = d := by
  obtain ⟨d0, h1, h2, hq⟩ := hL.ex
  by_cases hd0 : d0 = 0
  · rcases hq hd0 with ⟨q, _⟩ | ⟨q, _⟩
    · exact absurd q h3
    · exact absurd q hd
  · obtain ⟨_, q⟩ := h2 hd0
    subst q
    exact hH.err.unique h1

/-- Where there is a word. -/
theorem ask_some {n : NetL} {i o k most : Int} {l : List (List Int)} {ws : List Int} {b : Bool} {d2 d3 : Int} (hL : LeastAns n i o k 0) (hW : WordsAns n i o most l d2) (hH : HasAns n i o ws b d3) :
    (b = true → k ≤ (ws.length : Int)) ∧ (d2 = 0 → (0 < l.length ↔ k ≤ most) ∧ (l.length ≠ 0 → ((l.getD 0 []).length : Int) = k)) := by
  obtain ⟨d0, h1, h2, hq⟩ := hL.ex
  have hd0 : d0 = 0 := by
    apply Classical.byContradiction
    intro h
    exact h (h2 h).2.symm
  subst hd0
  rcases hq rfl with ⟨q, _⟩ | ⟨_, x, hx, hlen, hmin⟩
  · exact absurd q (by omega)
  · obtain rfl := hH.err.unique h1
    refine ⟨fun hb => hmin _ ((hH.ok rfl).1 hb), fun hd => ?_⟩
    subst hd
    obtain ⟨e, w1, w2, w3⟩ := hW.ex
    obtain rfl := w1.unique h1
    by_cases hm : 0 ≤ most ∧ most ≤ 8
    · rcases (w3 rfl).2 hm with ⟨_, _, q⟩ | ⟨_, _, hP, hq⟩
      · exact absurd q (by omega)
      · have hmem : k ≤ most → x ∈ l := fun h => (hq x).2 ⟨hx, by omega⟩
        cases l with
        | nil =>
          refine ⟨⟨fun h => by simp at h, fun h => ?_⟩, fun h => absurd rfl h⟩
          exact absurd (hmem h) (by simp)
        | cons a t =>
          obtain ⟨ha, hal⟩ := (hq a).1 (by simp)
          have hka := hmin a ha
          refine ⟨⟨fun _ => by omega, fun _ => by simp⟩, fun _ => ?_⟩
          show (a.length : Int) = k
          rcases List.mem_cons.1 (hmem (by omega)) with e | ht
          · rw [← e]; exact hlen
          · have := ((List.pairwise_cons.1 hP).1 x ht).len
            omega
    · exact absurd ((w3 rfl).1 hm).2 (by omega)

/-- A run's word, as the law gathers it. -/
def putT (n : NetL) (t : Int) : List Int := if 0 ≤ t ∧ t < (n.trans.length : Int) ∧ 0 < labT n t.toNat then [labT n t.toNat] else []
def wordTo (n : NetL) : List Int → List Int
  | [] => []
  | t :: ts => putT n t ++ wordTo n ts
theorem wordTo_append (n : NetL) : ∀ (a b : List Int), wordTo n (a ++ b) = wordTo n a ++ wordTo n b
  | [], b => rfl
  | t :: a, b => by show putT n t ++ wordTo n (a ++ b) = _; rw [wordTo_append n a b, ← List.append_assoc]; rfl
theorem wordTo_one (n : NetL) (t : Int) : wordTo n [t] = putT n t := by show putT n t ++ [] = _; rw [List.append_nil]
theorem wordTo_succ (n : NetL) (l : List Int) {k : Nat} (hk : k < l.length) : wordTo n (l.take (k + 1)) = wordTo n (l.take k) ++ putT n (nth l k) := by
  rw [List.take_succ_eq_append_getElem hk, wordTo_append, wordTo_one]
  have e : l[k] = nth l k := by simp [nth, List.getD, hk]
  rw [e]
theorem putT_len (n : NetL) (t : Int) : (putT n t).length ≤ 1 := by unfold putT; split <;> simp
theorem wordTo_len (n : NetL) : ∀ (l : List Int), (wordTo n l).length ≤ l.length
  | [] => Nat.le_refl _
  | t :: ts => by have := wordTo_len n ts; have := putT_len n t; show (putT n t ++ wordTo n ts).length ≤ _; simp; omega
theorem fire_in {n : NetL} {m : List Int} {t : Int} (h : (fireL n m t).2 = 0) : 0 ≤ t ∧ t < (n.trans.length : Int) := by
  unfold fireL at h
  split at h
  · split at h
    · rename_i q
      simp only [Bool.and_eq_true, decide_eq_true_eq] at q
      exact q.1
    · simp at h
  · simp at h
theorem seen_word {n : NetL} (hok : netOk n = true) : ∀ {seq m E : List Int}, runL n m seq = (E, 0) → seenL n seq = wordTo n seq
  | [], m, E, h => rfl
  | t :: ts, m, E, h => by
    rw [runL_cons] at h
    split at h
    · split at h
      · rename_i q
        obtain ⟨h0, h1⟩ := fire_in (by simpa using q)
        have ih := seen_word hok h
        have hl := (lab_ok hok t.toNat (by omega)).1
        show (if labT n t.toNat = 0 then seenL n ts else labT n t.toNat :: seenL n ts) = putT n t ++ wordTo n ts
        rw [ih]
        unfold putT
        by_cases hz : labT n t.toNat = 0
        · rw [if_pos hz, if_neg (by omega)]; rfl
        · rw [if_neg hz, if_pos ⟨h0, h1, by omega⟩]; rfl
      · rename_i q
        simp only [Prod.mk.injEq] at h
        rw [h.2] at q
        simp at q
    · simp at h
/-- What the law TongueRuns asks. -/
theorem ask_runs {n : NetL} {i o : Int} {seq : List Int} {b : Bool} {d : Int} (hH : HasAns n i o (wordTo n seq) b d) (hd : d = 0) (hr : runL n (startL n.places i) seq = (startL n.places o, 0)) : b = true := by
  have hok : netOk n = true := by
    rcases hH.err with ⟨h, _⟩ | ⟨h, _⟩
    · exact absurd hd h
    · exact h.ok
  exact (hH.ok hd).2 ⟨seq, hr, seen_word hok hr⟩

end Go.Proofs.Ytakgppoeikcepaa

/- Traces beside nets, plainly: moves, what they cost, and what is cheapest. -/
namespace Go.Proofs.Ytakgppoeikcepaa
set_option linter.unusedVariables false
set_option maxRecDepth 4000

theorem take_nth {t : List Int} {k : Nat} (h : k < t.length) : t.take (k + 1) = t.take k ++ [nth t k] := by
  rw [List.take_succ_eq_append_getElem h]
  have e : t[k] = nth t k := by simp [nth, List.getD, h]
  rw [e]
theorem nth_app {t : List Int} {x : Int} {k : Nat} (h : k < t.length) : nth (t ++ [x]) k = nth t k := by
  unfold nth
  rw [List.getD_eq_getElem?_getD, List.getD_eq_getElem?_getD, List.getElem?_append_left h]

structure MoveL where
  kind : Int
  label : Int
  tran : Int

/-- One move: from a mark's number, and how much was seen, to another one. -/
def AStep (A : List ArcL) (lb : Nat → Int) (tr : List Int) (p : Nat × Nat) (m : MoveL) (q : Nat × Nat) : Prop :=
  (p.2 < tr.length ∧ q = (p.1, p.2 + 1) ∧ m = ⟨2, nth tr p.2, 0⟩) ∨
  ∃ a ∈ A, a.frm = p.1 ∧ ((q = (a.dst, p.2) ∧ m = ⟨3, lb a.tran, a.tran⟩) ∨ (p.2 < tr.length ∧ lb a.tran ≠ 0 ∧ nth tr p.2 = lb a.tran ∧ q = (a.dst, p.2 + 1) ∧ m = ⟨1, lb a.tran, a.tran⟩))
def priceM (m : MoveL) : Nat := if m.kind = 1 ∨ (m.kind = 3 ∧ m.label = 0) then 0 else 1
def costM : List MoveL → Nat
  | [] => 0
  | m :: ms => priceM m + costM ms
def Lay (A : List ArcL) (lb : Nat → Int) (tr : List Int) : Nat × Nat → List MoveL → Nat × Nat → Prop
  | p, [], q => p = q
  | p, m :: ms, q => ∃ r, AStep A lb tr p m r ∧ Lay A lb tr r ms q
section
variable {A : List ArcL} {lb : Nat → Int} {tr : List Int}
theorem Lay.append : ∀ {ms ns : List MoveL} {p q r : Nat × Nat}, Lay A lb tr p ms q → Lay A lb tr q ns r → Lay A lb tr p (ms ++ ns) r
  | [], ns, p, q, r, h1, h2 => by have e : p = q := h1; rw [e]; exact h2
  | m :: ms, ns, p, q, r, h1, h2 => by obtain ⟨x, h3, h4⟩ := h1; exact ⟨x, h3, h4.append h2⟩
theorem Lay.one {p q : Nat × Nat} {m : MoveL} (h : AStep A lb tr p m q) : Lay A lb tr p [m] q := ⟨q, h, rfl⟩
theorem Lay.split : ∀ {ms ns : List MoveL} {p r : Nat × Nat}, Lay A lb tr p (ms ++ ns) r → ∃ q, Lay A lb tr p ms q ∧ Lay A lb tr q ns r
  | [], ns, p, r, h => ⟨p, rfl, h⟩
  | m :: ms, ns, p, r, h => by obtain ⟨x, h3, h4⟩ := h; obtain ⟨q, h5, h6⟩ := h4.split; exact ⟨q, ⟨x, h3, h5⟩, h6⟩
theorem costM_append : ∀ (ms ns : List MoveL), costM (ms ++ ns) = costM ms + costM ns
  | [], ns => by simp [costM]
  | m :: ms, ns => by show priceM m + costM (ms ++ ns) = priceM m + costM ms + costM ns; rw [costM_append ms ns]; omega
theorem AStep.seen {p q : Nat × Nat} {m : MoveL} (h : AStep A lb tr p m q) : p.2 ≤ q.2 ∧ q.2 ≤ p.2 + 1 ∧ (p.2 ≤ tr.length → q.2 ≤ tr.length) := by
  rcases h with ⟨h1, rfl, _⟩ | ⟨a, _, _, ⟨rfl, _⟩ | ⟨h1, _, _, rfl, _⟩⟩ <;> simp <;> omega
theorem AStep.mark {p q : Nat × Nat} {m : MoveL} {N : Nat} (hA : ∀ a ∈ A, a.dst < N) (hp : p.1 < N) (h : AStep A lb tr p m q) : q.1 < N := by
  rcases h with ⟨h1, rfl, _⟩ | ⟨a, ha, _, ⟨rfl, _⟩ | ⟨h1, _, _, rfl, _⟩⟩
  · exact hp
  · exact hA a ha
  · exact hA a ha
theorem Lay.rises : ∀ {ms : List MoveL} {p q : Nat × Nat}, Lay A lb tr p ms q → p.2 ≤ q.2
  | [], p, q, h => by obtain rfl : p = q := h; exact Nat.le_refl _
  | m :: ms, p, q, h => by obtain ⟨y, a1, a2⟩ := h; exact Nat.le_trans a1.seen.1 a2.rises
/-- By arcs alone. -/
theorem Lay.way {k f d : Nat} {w : List Int} (j : Nat) (h : WayN A lb k f w d) (hl : ∀ l ∈ w, l ≠ 0 → True) : ∃ ms, Lay A lb tr (f, j) ms (d, j) ∧ costM ms = w.length := by
  induction k generalizing f w with
  | zero => obtain ⟨rfl, rfl⟩ := h; exact ⟨[], rfl, rfl⟩
  | succ k ih =>
    obtain ⟨a, ha, rfl, u, h1, rfl⟩ := h
    obtain ⟨ms, q1, q2⟩ := ih h1 (fun _ _ _ => trivial)
    refine ⟨⟨3, lb a.tran, a.tran⟩ :: ms, ⟨(a.dst, j), .inr ⟨a, ha, rfl, .inl ⟨rfl, rfl⟩⟩, q1⟩, ?_⟩
    show priceM _ + costM ms = _
    rw [q2]
    unfold priceM
    by_cases h0 : lb a.tran = 0
    · simp [h0]
    · simp [h0]; omega
/-- By the trace alone. -/
theorem Lay.trace (f : Nat) : ∀ (k j : Nat), j + k = tr.length → ∃ ms, Lay A lb tr (f, j) ms (f, tr.length) ∧ costM ms = k
  | 0, j, h => ⟨[], by show (f, j) = _; rw [← h]; rfl, rfl⟩
  | k + 1, j, h => by
    obtain ⟨ms, q1, q2⟩ := Lay.trace f k (j + 1) (by omega)
    exact ⟨⟨2, nth tr j, 0⟩ :: ms, ⟨(f, j + 1), .inl ⟨by simp; omega, rfl, rfl⟩, q1⟩, by show priceM _ + _ = _; rw [q2]; unfold priceM; simp; omega⟩

/-- What costs nothing is a word: the trace from here on. -/
theorem Lay.free : ∀ {ms : List MoveL} {p q : Nat × Nat}, Lay A lb tr p ms q → costM ms = 0 → p.2 ≤ tr.length → q.2 ≤ tr.length ∧ ∃ w, tr.take q.2 = tr.take p.2 ++ w ∧ Way A lb p.1 w q.1
  | [], p, q, h, _, hp => by obtain rfl : p = q := h; exact ⟨hp, [], by simp, Way.here _⟩
  | m :: ms, p, q, h, hc, hp => by
    obtain ⟨r, h1, h2⟩ := h
    have hc' : priceM m + costM ms = 0 := hc
    obtain ⟨g1, w, g2, g3⟩ := h2.free (by omega) (h1.seen.2.2 hp)
    refine ⟨g1, ?_⟩
    rcases h1 with ⟨_, rfl, rfl⟩ | ⟨a, ha, e, ⟨rfl, rfl⟩ | ⟨l1, l2, l3, rfl, rfl⟩⟩
    · exfalso; have : priceM ⟨2, nth tr p.2, 0⟩ = 1 := by unfold priceM; simp
      omega
    · have h0 : lb a.tran = 0 := by
        apply Classical.byContradiction
        intro h0
        have : priceM ⟨3, lb a.tran, a.tran⟩ = 1 := by unfold priceM; simp [h0]
        omega
      rw [← e]
      exact ⟨w, g2, by have := (Way.arc0 (lb := lb) ha h0).append g3; rwa [List.nil_append] at this⟩
    · rw [← e]
      refine ⟨lb a.tran :: w, ?_, by have := (Way.arc (lb := lb) ha l2).append g3; rwa [List.singleton_append] at this⟩
      rw [g2]
      show tr.take (p.2 + 1) ++ w = _
      rw [take_nth l1, l3, List.append_assoc, List.singleton_append]
theorem Lay.of_word : ∀ {w : List Int} {j f d : Nat}, j + w.length ≤ tr.length → tr.take (j + w.length) = tr.take j ++ w → Way A lb f w d → ∃ ms, Lay A lb tr (f, j) ms (d, j + w.length) ∧ costM ms = 0
  | [], j, f, d, hl, he, h => by
    obtain ⟨k, h⟩ := h
    obtain ⟨ms, q1, q2⟩ := Lay.way (tr := tr) j h (fun _ _ _ => trivial)
    exact ⟨ms, q1, q2⟩
  | l :: w, j, f, d, hl, he, h => by
    have hl' : j + 1 + w.length ≤ tr.length := by simp at hl; omega
    obtain ⟨a, ha, ⟨k, g1⟩, g2, g3, g4⟩ := Way.first (w := w) h
    obtain ⟨ms1, q1, q2⟩ := Lay.way (tr := tr) j g1 (fun _ _ _ => trivial)
    have hn : nth tr j = l := by
      have : (tr.take (j + (l :: w).length))[j]? = (tr.take j ++ l :: w)[j]? := by rw [he]
      rw [List.getElem?_take, if_pos (by simp), List.getElem?_append_right (by simp; omega)] at this
      have e : j - (tr.take j).length = 0 := by simp; omega
      rw [e] at this
      simp at this
      unfold nth
      rw [List.getD_eq_getElem?_getD, this]; rfl
    have he' : tr.take (j + 1 + w.length) = tr.take (j + 1) ++ w := by
      rw [take_nth (show j < tr.length by omega), hn, List.append_assoc, List.singleton_append, ← he]
      congr 1; simp; omega
    obtain ⟨ms2, r1, r2⟩ := Lay.of_word hl' he' g4
    refine ⟨ms1 ++ ⟨1, lb a.tran, a.tran⟩ :: ms2, ?_, ?_⟩
    · refine q1.append ⟨(a.dst, j + 1), .inr ⟨a, ha, rfl, .inr ⟨by show j < _; omega, by rw [g2]; exact g3, by show nth tr j = _; rw [hn, g2], rfl, rfl⟩⟩, ?_⟩
      rw [show j + (l :: w).length = j + 1 + w.length by simp; omega]
      exact r1
    · rw [costM_append, q2]
      show _ + (priceM _ + costM ms2) = 0
      rw [r2]
      unfold priceM
      simp
theorem lay_word {f d : Nat} : (∃ ms, Lay A lb tr (f, 0) ms (d, tr.length) ∧ costM ms = 0) ↔ Way A lb f tr d := by
  constructor
  · rintro ⟨ms, h, hc⟩
    obtain ⟨_, w, e, h2⟩ := h.free hc (Nat.zero_le _)
    simp only [List.take_length, List.take_zero, List.nil_append] at e
    rw [e]; exact h2
  · intro h
    have := Lay.of_word (tr := tr) (j := 0) (w := tr) (by omega) (by simp) h
    rwa [Nat.zero_add] at this

/-- Without a trace it costs what is seen. -/
theorem Lay.nil_way : ∀ {ms : List MoveL} {p q : Nat × Nat}, Lay A lb [] p ms q → ∃ w, w.length = costM ms ∧ Way A lb p.1 w q.1
  | [], p, q, h => by obtain rfl : p = q := h; exact ⟨[], rfl, Way.here _⟩
  | m :: ms, p, q, h => by
    obtain ⟨r, h1, h2⟩ := h
    obtain ⟨w, g1, g2⟩ := h2.nil_way
    rcases h1 with ⟨l1, _⟩ | ⟨a, ha, e, ⟨rfl, rfl⟩ | ⟨l1, _⟩⟩
    · simp at l1
    · rw [← e]
      by_cases h0 : lb a.tran = 0
      · refine ⟨w, ?_, by have := (Way.arc0 (lb := lb) ha h0).append g2; rwa [List.nil_append] at this⟩
        show _ = priceM _ + costM ms
        rw [g1]; unfold priceM; simp [h0]
      · refine ⟨lb a.tran :: w, ?_, by have := (Way.arc (lb := lb) ha h0).append g2; rwa [List.singleton_append] at this⟩
        show _ = priceM _ + costM ms
        rw [← g1]; unfold priceM; simp [h0]; omega
    · simp at l1

/-- One label more. -/
theorem AStep.more {p q : Nat × Nat} {m : MoveL} (x : Int) (h : AStep A lb tr p m q) : AStep A lb (tr ++ [x]) p m q := by
  have hn : p.2 < tr.length → nth (tr ++ [x]) p.2 = nth tr p.2 := fun h => nth_app h
  rcases h with ⟨h1, h2, h3⟩ | ⟨a, ha, e, h | ⟨h1, h2, h3, h4, h5⟩⟩
  · exact .inl ⟨by simp; omega, h2, by rw [hn h1]; exact h3⟩
  · exact .inr ⟨a, ha, e, .inl h⟩
  · exact .inr ⟨a, ha, e, .inr ⟨by simp; omega, h2, by rw [hn h1]; exact h3, h4, h5⟩⟩
theorem Lay.more (x : Int) : ∀ {ms : List MoveL} {p q : Nat × Nat}, Lay A lb tr p ms q → Lay A lb (tr ++ [x]) p ms q
  | [], p, q, h => h
  | m :: ms, p, q, h => by obtain ⟨r, h1, h2⟩ := h; exact ⟨r, h1.more x, h2.more x⟩
theorem Lay.longer {x : Int} {ms : List MoveL} {f d : Nat} (h : Lay A lb tr (f, 0) ms (d, tr.length)) : ∃ ns, Lay A lb (tr ++ [x]) (f, 0) ns (d, (tr ++ [x]).length) ∧ costM ns = costM ms + 1 := by
  refine ⟨ms ++ [⟨2, nth (tr ++ [x]) tr.length, 0⟩], (h.more x).append (Lay.one (.inl ⟨by simp, by simp, rfl⟩)), ?_⟩
  rw [costM_append]
  show costM ms + (priceM _ + 0) = _
  unfold priceM; simp
/-- One label less: what sees it is left out, or is a move of the net alone. -/
theorem Lay.less {x : Int} : ∀ {ms : List MoveL} {p q : Nat × Nat}, Lay A lb (tr ++ [x]) p ms q → p.2 ≤ tr.length + 1 → ∃ ns, Lay A lb tr (p.1, min p.2 tr.length) ns (q.1, min q.2 tr.length) ∧ costM ns ≤ costM ms + (if p.2 ≤ tr.length ∧ tr.length < q.2 then 1 else 0)
  | [], p, q, h, _ => by obtain rfl : p = q := h; exact ⟨[], rfl, by simp⟩
  | m :: ms, p, q, h, hp => by
    obtain ⟨r, h1, h2⟩ := h
    have hs := h1.seen
    have hr : r.2 ≤ tr.length + 1 := by have := hs.2.2 (by simpa using hp); simpa using this
    obtain ⟨ns, g1, g2⟩ := h2.less hr
    have hq : r.2 ≤ q.2 := by
      exact Lay.rises h2
    have hn : p.2 < tr.length → nth (tr ++ [x]) p.2 = nth tr p.2 := fun h => nth_app h
    have hcost : costM (m :: ms) = priceM m + costM ms := rfl
    rcases h1 with ⟨l1, rfl, rfl⟩ | ⟨a, ha, e, ⟨rfl, rfl⟩ | ⟨l1, l2, l3, rfl, rfl⟩⟩
    · have hpr : priceM ⟨2, nth (tr ++ [x]) p.2, 0⟩ = 1 := by unfold priceM; simp
      by_cases hlt : p.2 < tr.length
      · refine ⟨⟨2, nth tr p.2, 0⟩ :: ns, ⟨(p.1, p.2 + 1), .inl ⟨by show min p.2 tr.length < _; omega, by show _ = (_, min p.2 tr.length + 1); rw [Nat.min_eq_left (by omega)], by show _ = MoveL.mk 2 (nth tr (min p.2 tr.length)) 0; rw [Nat.min_eq_left (by omega)]⟩, by have := g1; simp only at this; rwa [Nat.min_eq_left (show p.2 + 1 ≤ tr.length by omega)] at this⟩, ?_⟩
        rw [hcost, hpr]
        show priceM _ + costM ns ≤ _
        have hpr' : priceM ⟨2, nth tr p.2, 0⟩ = 1 := by unfold priceM; simp
        rw [hpr']
        simp only at g2
        split at g2 <;> split <;> omega
      · have e1 : p.2 = tr.length := by simp at l1; omega
        refine ⟨ns, ?_, ?_⟩
        · have := g1
          simp only at this
          rw [e1, show min (tr.length + 1) tr.length = min tr.length tr.length by omega] at this
          rw [e1]; exact this
        · rw [hcost, hpr]
          simp only at g2
          split at g2 <;> split <;> omega
    · refine ⟨⟨3, lb a.tran, a.tran⟩ :: ns, ⟨(a.dst, min p.2 tr.length), .inr ⟨a, ha, e, .inl ⟨rfl, rfl⟩⟩, g1⟩, ?_⟩
      rw [hcost]
      show priceM _ + costM ns ≤ _
      simp only at g2
      omega
    · have hpr : priceM ⟨1, lb a.tran, a.tran⟩ = 0 := by unfold priceM; simp
      by_cases hlt : p.2 < tr.length
      · rw [hn hlt] at l3
        refine ⟨⟨1, lb a.tran, a.tran⟩ :: ns, ⟨(a.dst, p.2 + 1), .inr ⟨a, ha, e, .inr ⟨by show min p.2 tr.length < _; omega, l2, by show nth tr (min p.2 tr.length) = _; rw [Nat.min_eq_left (by omega)]; exact l3, by show _ = (_, min p.2 tr.length + 1); rw [Nat.min_eq_left (by omega)], rfl⟩⟩, by have := g1; simp only at this; rwa [Nat.min_eq_left (show p.2 + 1 ≤ tr.length by omega)] at this⟩, ?_⟩
        rw [hcost, hpr]
        show priceM _ + costM ns ≤ _
        rw [hpr]
        simp only at g2
        split at g2 <;> split <;> omega
      · have e1 : p.2 = tr.length := by simp at l1; omega
        refine ⟨⟨3, lb a.tran, a.tran⟩ :: ns, ⟨(a.dst, tr.length), .inr ⟨a, ha, e, .inl ⟨by show _ = (_, min p.2 tr.length); rw [e1, Nat.min_self], rfl⟩⟩, by have := g1; simp only at this; rwa [e1, show min (tr.length + 1) tr.length = tr.length by omega] at this⟩, ?_⟩
        rw [hcost, hpr]
        have hpr' : priceM ⟨3, lb a.tran, a.tran⟩ = 1 := by unfold priceM; simp [l2]
        show priceM _ + costM ns ≤ _
        rw [hpr']
        simp only at g2
        split at g2 <;> split <;> omega
theorem Lay.shorter {x : Int} {ms : List MoveL} {f d : Nat} (h : Lay A lb (tr ++ [x]) (f, 0) ms (d, (tr ++ [x]).length)) : ∃ ns, Lay A lb tr (f, 0) ns (d, tr.length) ∧ costM ns ≤ costM ms + 1 := by
  obtain ⟨ns, g1, g2⟩ := h.less (by simp)
  refine ⟨ns, ?_, ?_⟩
  · have := g1
    simp only [List.length_append, List.length_singleton] at this
    rwa [Nat.zero_min, Nat.min_eq_right (by omega)] at this
  · split at g2 <;> omega
end

/-- So much it costs at least. -/
def Cheap (A : List ArcL) (lb : Nat → Int) (tr : List Int) (p q : Nat × Nat) (c : Nat) : Prop := (∃ ms, Lay A lb tr p ms q ∧ costM ms = c) ∧ ∀ ms, Lay A lb tr p ms q → c ≤ costM ms
theorem Cheap.one {A : List ArcL} {lb : Nat → Int} {tr : List Int} {p q : Nat × Nat} {c d : Nat} (h : Cheap A lb tr p q c) (k : Cheap A lb tr p q d) : c = d := by
  obtain ⟨⟨ms, h1, h2⟩, h3⟩ := h
  obtain ⟨⟨ns, k1, k2⟩, k3⟩ := k
  have := h3 ns k1
  have := k3 ms h1
  omega

/-- What align.Align answers. -/
structure AlignAns (n : NetL) (i o : Int) (tr : List Int) (ms : List MoveL) (c d : Int) : Prop where
  ex : ∃ d0, TongErr n i o d0 ∧ (¬ d0 = 0 → d = d0 ∧ c = 0 ∧ ms = []) ∧ (d0 = 0 → (60 < tr.length ∧ d = 2 ∧ c = 0 ∧ ms = []) ∨
    (tr.length ≤ 60 ∧ (∀ e, e < (graphL n (startL n.places i) 300).1.marks.length → markAt (graphL n (startL n.places i) 300).1.marks e ≠ startL n.places o) ∧ d = 3 ∧ c = 0 ∧ ms = []) ∨
    (tr.length ≤ 60 ∧ d = 0 ∧ ∃ e, e < (graphL n (startL n.places i) 300).1.marks.length ∧ markAt (graphL n (startL n.places i) 300).1.marks e = startL n.places o ∧
      Lay (graphL n (startL n.places i) 300).1.arcs (labT n) tr (0, 0) ms (e, tr.length) ∧ (costM ms : Int) = c ∧ Cheap (graphL n (startL n.places i) 300).1.arcs (labT n) tr (0, 0) (e, tr.length) (costM ms)))
/-- What it costs, alone. -/
def CostAns (n : NetL) (i o : Int) (tr : List Int) (c d : Int) : Prop := ∃ ms, AlignAns n i o tr ms c d

end Go.Proofs.Ytakgppoeikcepaa

/- What it costs, round by round, plainly. -/
namespace Go.Proofs.Ytakgppoeikcepaa
set_option linter.unusedVariables false
set_option maxRecDepth 4000

abbrev farC : Int := 1073741824
section
variable {A : List ArcL} {lb : Nat → Int} {tr : List Int} {M : Nat} {cost : Nat → Nat → Int}
/-- Each cost is far, or that of moves that lie so. -/
structure CostOk (A : List ArcL) (lb : Nat → Int) (tr : List Int) (M : Nat) (cost : Nat → Nat → Int) : Prop where
  zero : cost 0 0 = 0
  got : ∀ k m, k ≤ tr.length → m < M → cost k m = farC ∨ (cost k m < farC ∧ ∃ ms, Lay A lb tr (0, 0) ms (m, k) ∧ (costM ms : Int) = cost k m)
/-- One cost less. -/
def putC (cost : Nat → Nat → Int) (k m : Nat) (c : Int) : Nat → Nat → Int := fun k' m' => if k' = k ∧ m' = m then c else cost k' m'
def startC : Nat → Nat → Int := putC (fun _ _ => farC) 0 0 0
theorem putC_same (cost : Nat → Nat → Int) (k m : Nat) (c : Int) : putC cost k m c k m = c := by unfold putC; rw [if_pos ⟨rfl, rfl⟩]
theorem putC_other {k m k' m' : Nat} {c : Int} (h : ¬ (k' = k ∧ m' = m)) : putC cost k m c k' m' = cost k' m' := by unfold putC; rw [if_neg h]
theorem costOk_start : CostOk A lb tr M startC where
  zero := putC_same _ _ _ _
  got k m _ _ := by
    by_cases h : k = 0 ∧ m = 0
    · obtain ⟨rfl, rfl⟩ := h
      exact .inr ⟨by unfold startC; rw [putC_same]; decide, [], rfl, by unfold startC; rw [putC_same]; rfl⟩
    · exact .inl (by unfold startC; rw [putC_other h])
theorem CostOk.le (h : CostOk A lb tr M cost) {k m : Nat} (hk : k ≤ tr.length) (hm : m < M) : 0 ≤ cost k m ∧ cost k m ≤ farC := by
  rcases h.got k m hk hm with e | ⟨h1, ms, _, e⟩
  · rw [e]; exact ⟨by decide, by decide⟩
  · omega
theorem CostOk.set (h : CostOk A lb tr M cost) {k m : Nat} {c : Int} (hk : k ≤ tr.length) (hm : m < M) (hlt : c < cost k m) (hg : ∃ ms, Lay A lb tr (0, 0) ms (m, k) ∧ (costM ms : Int) = c) : CostOk A lb tr M (putC cost k m c) where
  zero := by
    by_cases q : 0 = k ∧ 0 = m
    · obtain ⟨rfl, rfl⟩ := q
      obtain ⟨ms, _, e⟩ := hg
      have := h.zero
      omega
    · rw [putC_other q]; exact h.zero
  got k' m' hk' hm' := by
    by_cases q : k' = k ∧ m' = m
    · obtain ⟨rfl, rfl⟩ := q
      rw [putC_same]
      have := (h.le hk' hm').2
      exact .inr ⟨by omega, hg⟩
    · rw [putC_other q]; exact h.got k' m' hk' hm'
theorem Lay.snoc {ms : List MoveL} {p q r : Nat × Nat} {m : MoveL} (h : Lay A lb tr p ms q) (k : AStep A lb tr q m r) : Lay A lb tr p (ms ++ [m]) r := h.append (Lay.one k)
theorem costM_snoc (ms : List MoveL) (m : MoveL) : costM (ms ++ [m]) = costM ms + priceM m := by rw [costM_append]; rfl
/-- Along an arc, alone. -/
theorem CostOk.arc (h : CostOk A lb tr M cost) {k : Nat} {a : ArcL} (hk : k ≤ tr.length) (ha : a ∈ A) (hf : a.frm < M) (hd : a.dst < M) (hl : 0 ≤ lb a.tran) (hlt : cost k a.frm + min (lb a.tran) 1 < cost k a.dst) :
    CostOk A lb tr M (putC cost k a.dst (cost k a.frm + min (lb a.tran) 1)) := by
  refine h.set hk hd hlt ?_
  have h2 := (h.le hk hd).2
  rcases h.got k a.frm hk hf with e | ⟨_, ms, h3, e⟩
  · omega
  · refine ⟨ms ++ [⟨3, lb a.tran, a.tran⟩], h3.snoc (.inr ⟨a, ha, rfl, .inl ⟨rfl, rfl⟩⟩), ?_⟩
    rw [costM_snoc]
    unfold priceM
    by_cases h0 : lb a.tran = 0
    · simp [h0]; omega
    · simp [h0]; omega
/-- Along an arc, and along the trace. -/
theorem CostOk.both (h : CostOk A lb tr M cost) {k : Nat} {a : ArcL} (hk : k < tr.length) (ha : a ∈ A) (hf : a.frm < M) (hd : a.dst < M) (hl : 0 < lb a.tran) (ht : nth tr k = lb a.tran) (hlt : cost k a.frm < cost (k + 1) a.dst) :
    CostOk A lb tr M (putC cost (k + 1) a.dst (cost k a.frm)) := by
  refine h.set (show k + 1 ≤ tr.length from hk) hd hlt ?_
  have h2 := (h.le (show k + 1 ≤ tr.length from hk) hd).2
  rcases h.got k a.frm (Nat.le_of_lt hk) hf with e | ⟨_, ms, h3, e⟩
  · omega
  · refine ⟨ms ++ [⟨1, lb a.tran, a.tran⟩], h3.snoc (.inr ⟨a, ha, rfl, .inr ⟨hk, by omega, ht, rfl, rfl⟩⟩), ?_⟩
    rw [costM_snoc]
    unfold priceM
    simp
    omega
/-- Along the trace, alone. -/
theorem CostOk.trace (h : CostOk A lb tr M cost) {k m : Nat} (hk : k < tr.length) (hm : m < M) (hlt : cost k m + 1 < cost (k + 1) m) : CostOk A lb tr M (putC cost (k + 1) m (cost k m + 1)) := by
  refine h.set (show k + 1 ≤ tr.length from hk) hm hlt ?_
  have h2 := (h.le (show k + 1 ≤ tr.length from hk) hm).2
  rcases h.got k m (Nat.le_of_lt hk) hm with e | ⟨_, ms, h3, e⟩
  · omega
  · refine ⟨ms ++ [⟨2, nth tr k, 0⟩], h3.snoc (.inl ⟨hk, rfl, rfl⟩), ?_⟩
    rw [costM_snoc]
    unfold priceM
    simp
    omega

/-- What was gone through without anything that costs less: the first k rows, of row k the first j arcs, of its marks the first i. -/
structure CalmTo (A : List ArcL) (lb : Nat → Int) (tr : List Int) (M : Nat) (cost : Nat → Nat → Int) (k j i : Nat) : Prop where
  arc : ∀ k' j', (k' < k ∨ k' = k ∧ j' < j) → k' ≤ tr.length → ∀ a, A[j']? = some a → cost k' a.dst ≤ cost k' a.frm + min (lb a.tran) 1 ∧ (k' < tr.length → 0 < lb a.tran → nth tr k' = lb a.tran → cost (k' + 1) a.dst ≤ cost k' a.frm)
  trace : ∀ k' m, (k' < k ∨ k' = k ∧ m < i) → k' < tr.length → m < M → cost (k' + 1) m ≤ cost k' m + 1
theorem CalmTo.start : CalmTo A lb tr M cost 0 0 0 := ⟨fun k' j' h => by omega, fun k' m h => by omega⟩
theorem CalmTo.arcNext {k j : Nat} {a : ArcL} (h : CalmTo A lb tr M cost k j 0) (ha : A[j]? = some a) (h1 : cost k a.dst ≤ cost k a.frm + min (lb a.tran) 1) (h2 : k < tr.length → 0 < lb a.tran → nth tr k = lb a.tran → cost (k + 1) a.dst ≤ cost k a.frm) : CalmTo A lb tr M cost k (j + 1) 0 := by
  refine ⟨fun k' j' hk' hl b hb => ?_, fun k' m hm => h.trace k' m hm⟩
  by_cases q : k' < k ∨ k' = k ∧ j' < j
  · exact h.arc k' j' q hl b hb
  · have e1 : k' = k := by omega
    have e2 : j' = j := by omega
    subst e1 e2
    rw [ha] at hb
    injection hb with hb
    subst hb
    exact ⟨h1, h2⟩
theorem CalmTo.markNext {k i : Nat} (h : CalmTo A lb tr M cost k A.length i) (h1 : k < tr.length → i < M → cost (k + 1) i ≤ cost k i + 1) : CalmTo A lb tr M cost k A.length (i + 1) := by
  refine ⟨h.arc, fun k' m hm hk hM => ?_⟩
  by_cases q : k' < k ∨ k' = k ∧ m < i
  · exact h.trace k' m q hk hM
  · have e1 : k' = k := by omega
    have e2 : m = i := by omega
    subst e1 e2
    exact h1 hk hM
theorem CalmTo.rowNext {k : Nat} (h : CalmTo A lb tr M cost k A.length M) : CalmTo A lb tr M cost (k + 1) 0 0 := by
  refine ⟨fun k' j' hk' hl b hb => ?_, fun k' m hm hk hM => h.trace k' m (by omega) hk hM⟩
  have hj : j' < A.length := (List.getElem?_eq_some_iff.1 hb).1
  exact h.arc k' j' (by omega) hl b hb
/-- Nothing costs less: it is the least. -/
theorem CalmTo.least (h : CalmTo A lb tr M cost (tr.length + 1) 0 0) (hA : ∀ a ∈ A, a.dst < M) (hl : ∀ a ∈ A, 0 ≤ lb a.tran) : ∀ {ms : List MoveL} {p q : Nat × Nat}, Lay A lb tr p ms q → p.1 < M → p.2 ≤ tr.length → cost q.2 q.1 ≤ cost p.2 p.1 + costM ms
  | [], p, q, e, _, _ => by
    obtain rfl : p = q := e
    show _ ≤ _ + ((0 : Nat) : Int)
    omega
  | m :: ms, p, q, ⟨r, h1, h2⟩, hp, hk => by
    have hr := h.least hA hl h2 (h1.mark hA hp) (h1.seen.2.2 hk)
    have hstep : cost r.2 r.1 ≤ cost p.2 p.1 + priceM m := by
      rcases h1 with ⟨l1, rfl, rfl⟩ | ⟨a, ha, e, ⟨rfl, rfl⟩ | ⟨l1, l2, l3, rfl, rfl⟩⟩
      · have := h.trace p.2 p.1 (by omega) l1 hp
        unfold priceM
        simp
        exact this
      · obtain ⟨j, hj, hja⟩ := List.getElem_of_mem ha
        have := (h.arc p.2 j (by omega) hk a (by rw [List.getElem?_eq_getElem hj, hja])).1
        have hla := hl a ha
        rw [e] at this
        unfold priceM
        by_cases h0 : lb a.tran = 0
        · simp [h0] at this ⊢; omega
        · simp [h0]; show cost p.2 a.dst ≤ _; omega
      · obtain ⟨j, hj, hja⟩ := List.getElem_of_mem ha
        have hla := hl a ha
        have := (h.arc p.2 j (by omega) hk a (by rw [List.getElem?_eq_getElem hj, hja])).2 l1 (by omega) l3
        rw [e] at this
        unfold priceM
        simp
        exact this
    show _ ≤ _ + ((priceM m + costM ms : Nat) : Int)
    omega
/-- The end. -/
theorem cost_cheap (h : CostOk A lb tr M cost) (hc : CalmTo A lb tr M cost (tr.length + 1) 0 0) (hA : ∀ a ∈ A, a.dst < M) (hl : ∀ a ∈ A, 0 ≤ lb a.tran) (hM : 0 < M) {e : Nat} (he : e < M) {ms : List MoveL} (hr : Lay A lb tr (0, 0) ms (e, tr.length)) (hs : (costM ms : Int) < farC) :
    ∃ c : Nat, cost tr.length e = (c : Int) ∧ Cheap A lb tr (0, 0) (e, tr.length) c := by
  have hle := fun ns hn => hc.least hA hl (ms := ns) (p := (0, 0)) (q := (e, tr.length)) hn hM (Nat.zero_le _)
  have hz : cost 0 0 = 0 := h.zero
  have h1 := hle ms hr
  simp only [hz] at h1
  rcases h.got tr.length e (Nat.le_refl _) he with q | ⟨_, ns, h3, h4⟩
  · omega
  · refine ⟨costM ns, h4.symm, ⟨ns, h3, rfl⟩, fun ks hk => ?_⟩
    have := hle ks hk
    simp only [hz] at this
    omega
end

/-! ### the sum of all costs: it falls -/
theorem sum_lt {n : Nat} {f g : Nat → Nat} (h : ∀ i, i < n → f i ≤ g i) {j : Nat} (hj : j < n) (hl : f j < g j) : ((List.range n).map f).sum < ((List.range n).map g).sum := by
  induction n with
  | zero => omega
  | succ n ih =>
    rw [List.range_succ, List.map_append, List.map_append, List.sum_append, List.sum_append]
    simp only [List.map_cons, List.map_nil, List.sum_cons, List.sum_nil]
    by_cases e : j = n
    · subst e
      have hle : ∀ m, m ≤ j → ((List.range m).map f).sum ≤ ((List.range m).map g).sum := by
        intro m
        induction m with
        | zero => intro _; simp
        | succ m im =>
          intro hm
          rw [List.range_succ, List.map_append, List.map_append, List.sum_append, List.sum_append]
          simp only [List.map_cons, List.map_nil, List.sum_cons, List.sum_nil]
          have := im (by omega)
          have := h m (by omega)
          omega
      have := hle j (Nat.le_refl _)
      omega
    · have := ih (fun i hi => h i (by omega)) (by omega)
      have := h n (by omega)
      omega
def sumC (R C : Nat) (cost : Nat → Nat → Int) : Nat := ((List.range R).map fun k => ((List.range C).map fun m => (cost k m).toNat).sum).sum
theorem sumC_lt {R C k m : Nat} {cost : Nat → Nat → Int} {c : Int} (hk : k < R) (hm : m < C) (hlt : c < cost k m) (hc : 0 ≤ c) : sumC R C (putC cost k m c) < sumC R C cost := by
  have hrow : ((List.range C).map fun m' => (putC cost k m c k m').toNat).sum < ((List.range C).map fun m' => (cost k m').toNat).sum := by
    refine sum_lt (fun i _ => ?_) (j := m) hm ?_
    · by_cases e : i = m
      · subst e; rw [putC_same]; omega
      · rw [putC_other (by omega)]; exact Nat.le_refl _
    · rw [putC_same]; omega
  refine sum_lt (fun i _ => ?_) (j := k) hk hrow
  by_cases e : i = k
  · subst e; exact Nat.le_of_lt hrow
  · have : (fun m' => (putC cost k m c i m').toNat) = fun m' => (cost i m').toNat := by
      funext m'
      rw [putC_other (by omega)]
    rw [this]
    exact Nat.le_refl _

end Go.Proofs.Ytakgppoeikcepaa

/- A square of numbers under construction. -/
namespace Go.Proofs.Ytakgppoeikcepaa
open Go.RowKit
set_option linter.unusedVariables false
set_option linter.unusedSimpArgs false
set_option maxRecDepth 4000

/-- R rows at X, of which K were made, C numbers each. -/
structure MatI (X : Nat) (w wr : World) (R K C : Nat) (g : Nat → Nat) (f : Nat → Nat → Int) : Prop where
  row : ∀ k, k < K → wr.cell? ⟨X, k, none⟩ = some (.slice (some ⟨g k, 0, none⟩) C C)
  none_ : ∀ k, K ≤ k → k < R → wr.cell? ⟨X, k, none⟩ = some (.slice none 0 0)
  rowF : ∀ k, k < R → wr.frozen? ⟨X, k, none⟩ = false
  cell : ∀ k m, k < K → m < C → wr.cell? ⟨g k, m, none⟩ = some (.int .i64 (f k m))
  cellF : ∀ k m, k < K → m < C → wr.frozen? ⟨g k, m, none⟩ = false
  lo : ∀ k, k < K → X < g k
  hi : ∀ k, k < K → g k < wr.heap.size
  apart : ∀ i j, i < K → j < K → i ≠ j → g i ≠ g j
  below : Below X w wr
  size : X < wr.heap.size
  many : K ≤ R
section
variable {X : Nat} {w wr : World} {R K C : Nat} {g : Nat → Nat} {f : Nat → Nat → Int}
theorem MatI.to {w2 : World} (h : MatI X w wr R K C g f) (hb : Below wr.heap.size wr w2) : MatI X w w2 R K C g f where
  row k hk := by rw [hb.cell (p := ⟨X, k, none⟩) h.size]; exact h.row k hk
  none_ k hk hr := by rw [hb.cell (p := ⟨X, k, none⟩) h.size]; exact h.none_ k hk hr
  rowF k hk := by rw [hb.frozen (p := ⟨X, k, none⟩) h.size]; exact h.rowF k hk
  cell k m hk hm := by rw [hb.cell (p := ⟨g k, m, none⟩) (h.hi k hk)]; exact h.cell k m hk hm
  cellF k m hk hm := by rw [hb.frozen (p := ⟨g k, m, none⟩) (h.hi k hk)]; exact h.cellF k m hk hm
  lo := h.lo
  hi k hk := Nat.lt_of_lt_of_le (h.hi k hk) hb.size
  apart := h.apart
  below := h.below.trans (hb.mono (Nat.le_of_lt h.size))
  size := Nat.lt_of_lt_of_le h.size hb.size
  many := h.many
/-- A cell off the square was written. -/
theorem MatI.other (h : MatI X w wr R K C g f) {b o : Nat} {v : Value} (hb : X < b) (ho : ∀ k, k < K → g k ≠ b) : MatI X w (wr.setCell ⟨b, o, none⟩ v) R K C g f where
  row k hk := by rw [World.cell?_setCell_other _ _ _ _ (by intro q; injection q with q; omega)]; exact h.row k hk
  none_ k hk hr := by rw [World.cell?_setCell_other _ _ _ _ (by intro q; injection q with q; omega)]; exact h.none_ k hk hr
  rowF k hk := by rw [World.frozen?_setCell]; exact h.rowF k hk
  cell k m hk hm := by rw [World.cell?_setCell_other _ _ _ _ (by intro q; injection q with q; exact ho k hk (by omega))]; exact h.cell k m hk hm
  cellF k m hk hm := by rw [World.frozen?_setCell]; exact h.cellF k m hk hm
  lo := h.lo
  hi k hk := by simpa [World.setCell] using h.hi k hk
  apart := h.apart
  below := h.below.setCell (p := ⟨b, o, none⟩) (Nat.le_of_lt hb) v
  size := by simpa [World.setCell] using h.size
  many := h.many
/-- One number less. -/
theorem MatI.put (h : MatI X w wr R K C g f) {k m : Nat} (hk : k < K) (hm : m < C) (c : Int) : MatI X w (wr.setCell ⟨g k, m, none⟩ (.int .i64 c)) R K C g (putC f k m c) where
  row j hj := by have := h.lo k hk; rw [World.cell?_setCell_other _ _ _ _ (by intro q; injection q with q; omega)]; exact h.row j hj
  none_ j hj hr := by have := h.lo k hk; rw [World.cell?_setCell_other _ _ _ _ (by intro q; injection q with q; omega)]; exact h.none_ j hj hr
  rowF j hj := by rw [World.frozen?_setCell]; exact h.rowF j hj
  cell j n hj hn := by
    by_cases e : j = k ∧ n = m
    · obtain ⟨rfl, rfl⟩ := e
      rw [World.cell?_setCell_same _ _ _ (h.cell j n hj hn), putC_same]
    · rw [putC_other e, World.cell?_setCell_other _ _ _ _ (by
        intro q
        injection q with q1 q2
        by_cases e1 : j = k
        · subst e1; exact e ⟨rfl, by omega⟩
        · exact h.apart j k hj hk e1 (by omega))]
      exact h.cell j n hj hn
  cellF j n hj hn := by rw [World.frozen?_setCell]; exact h.cellF j n hj hn
  lo := h.lo
  hi j hj := by simpa [World.setCell] using h.hi j hj
  apart := h.apart
  below := h.below.setCell (p := ⟨g k, m, none⟩) (Nat.le_of_lt (h.lo k hk)) _
  size := by simpa [World.setCell] using h.size
  many := h.many
/-- One row more. -/
theorem MatI.grow {w2 : World} (h : MatI X w wr R K C g f) (hK : K < R) {z : Nat → Int} (hr : RowAt wr.heap.size wr w2 C z) :
    MatI X w (w2.setCell ⟨X, K, none⟩ (.slice (some ⟨wr.heap.size, 0, none⟩) C C)) R (K + 1) C (fun k => if k = K then wr.heap.size else g k) (fun k m => if k = K then z m else f k m) := by
  have h2 := h.to hr.below
  have hX := h.size
  refine ⟨fun k hk => ?_, fun k hk hkr => ?_, fun k hk => by rw [World.frozen?_setCell]; exact h2.rowF k hk, fun k m hk hm => ?_, fun k m hk hm => ?_, fun k hk => ?_, fun k hk => ?_, fun i j hi hj hne => ?_, h2.below.setCell (p := ⟨X, K, none⟩) (Nat.le_refl _) _, by simpa [World.setCell] using h2.size, hK⟩
  · by_cases e : k = K
    · subst e
      rw [World.cell?_setCell_same _ _ _ (h2.none_ k (Nat.le_refl _) hK), if_pos rfl]
    · rw [World.cell?_setCell_other _ _ _ _ (by intro q; injection q with _ q; omega), if_neg e]
      exact h2.row k (by omega)
  · rw [World.cell?_setCell_other _ _ _ _ (by intro q; injection q with _ q; omega)]
    exact h2.none_ k (by omega) hkr
  · by_cases e : k = K
    · subst e
      simp only [if_true]
      rw [World.cell?_setCell_other _ _ _ _ (by intro q; injection q with q; omega)]
      exact hr.cells m hm
    · simp only [if_neg e]
      have := h.lo k (by omega)
      rw [World.cell?_setCell_other _ _ _ _ (by intro q; injection q with q; omega)]
      exact h2.cell k m (by omega) hm
  · by_cases e : k = K
    · subst e
      simp only [if_true]
      rw [World.frozen?_setCell]
      exact hr.frozen m hm
    · simp only [if_neg e]
      rw [World.frozen?_setCell]
      exact h2.cellF k m (by omega) hm
  · by_cases e : k = K
    · simp only [if_pos e]; exact hX
    · simp only [if_neg e]; exact h.lo k (by omega)
  · by_cases e : k = K
    · simp only [if_pos e]; simpa [World.setCell] using hr.size
    · simp only [if_neg e]; simpa [World.setCell] using h2.hi k (by omega)
  · by_cases e1 : i = K
    · have e2 : j ≠ K := by omega
      simp only [if_pos e1, if_neg e2]
      have := h.hi j (by omega)
      omega
    · by_cases e2 : j = K
      · simp only [if_neg e1, if_pos e2]
        have := h.hi i (by omega)
        omega
      · simp only [if_neg e1, if_neg e2]
        exact h.apart i j (by omega) (by omega) hne
theorem MatI.congr {f2 : Nat → Nat → Int} (h : MatI X w wr R K C g f) (hf : ∀ k m, k < K → m < C → f2 k m = f k m) : MatI X w wr R K C g f2 :=
  ⟨h.row, h.none_, h.rowF, fun k m hk hm => by rw [hf k m hk hm]; exact h.cell k m hk hm, h.cellF, h.lo, h.hi, h.apart, h.below, h.size, h.many⟩
end

theorem info_rowC : (Try.prog.info? 25).map (fun i => (i.zero, i.size, i.bytes)) = some (some (.slice none 0 0), 1, 24) := by kernel_rfl
theorem make_rowsC (w : World) (n C : Nat) (hn : n ≤ 5864062014805) :
    ∃ w1, (Instr.makeSlice 46 (.int .i64 (n : Int)) (.int .i64 (n : Int))).run Try.prog w = .ok (.slice (some ⟨w.heap.size, 0, none⟩) n n) w1 ∧ MatI w.heap.size w w1 n 0 C (fun _ => 0) (fun _ _ => 0) ∧ w1.heap.size = w.heap.size + 1 := by
  obtain ⟨i0, hi, hz0, hz1, hz2⟩ := info_parts info_rowC
  have h := run_make (P := Try.prog) w 46 25 i0 (.slice none 0 0) Try.underlying46 hi hz0 .i64 .i64 n n (by omega) (by omega) (by rw [hz2]; omega) (by omega)
  simp only [Int.toNat_natCast] at h
  refine ⟨_, h, ⟨fun k hk => by omega, fun k _ hk => ?_, fun k hk => World.frozen?_alloc_at _ _ _ _ rfl, fun k m hk => by omega, fun k m hk => by omega, fun k hk => by omega, fun k hk => by omega, fun i j hi => by omega, (Below.refl _ _).alloc (Nat.le_refl _) _, by simp, Nat.zero_le _⟩, by simp⟩
  rw [World.cell?_alloc_at _ _ _ _ rfl]
  simp [madeCells, hz1, Value.cells, hk, Nat.mod_one]

end Go.Proofs.Ytakgppoeikcepaa

/- The document's own cost of alignments: better. -/
namespace Go.Proofs.Ytakgppoeikcepaa
open Go.RowKit
set_option linter.unusedVariables false
set_option linter.unusedSimpArgs false
set_option maxRecDepth 4000

/-- The costs at work: their square, the box that holds it, the box of 'again'. -/
structure CostAt (X T ab : Nat) (w wr : World) (R C : Nat) (g : Nat → Nat) (f : Nat → Nat → Int) (again : Bool) : Prop where
  mat : MatI X w wr R R C g f
  box : wr.cell? ⟨T, 0, none⟩ = some (.slice (some ⟨X, 0, none⟩) R R)
  boxB : X < T ∧ T < wr.heap.size ∧ ∀ k, k < R → g k ≠ T
  flag : wr.cell? ⟨ab, 0, none⟩ = some (.bool again)
  flagF : wr.frozen? ⟨ab, 0, none⟩ = false
  flagB : X < ab ∧ ab < wr.heap.size ∧ ab ≠ T ∧ ∀ k, k < R → g k ≠ ab
section
variable {X T ab : Nat} {w wr : World} {R C : Nat} {g : Nat → Nat} {f : Nat → Nat → Int} {again : Bool}
theorem CostAt.to {w2 : World} (h : CostAt X T ab w wr R C g f again) (hb : Below wr.heap.size wr w2) : CostAt X T ab w w2 R C g f again :=
  ⟨h.mat.to hb, by rw [hb.cell (p := ⟨T, 0, none⟩) h.boxB.2.1]; exact h.box, ⟨h.boxB.1, Nat.lt_of_lt_of_le h.boxB.2.1 hb.size, h.boxB.2.2⟩,
   by rw [hb.cell (p := ⟨ab, 0, none⟩) h.flagB.2.1]; exact h.flag, by rw [hb.frozen (p := ⟨ab, 0, none⟩) h.flagB.2.1]; exact h.flagF, ⟨h.flagB.1, Nat.lt_of_lt_of_le h.flagB.2.1 hb.size, h.flagB.2.2⟩⟩
theorem CostAt.put (h : CostAt X T ab w wr R C g f again) {k m : Nat} (hk : k < R) (hm : m < C) (c : Int) :
    CostAt X T ab w ((wr.setCell ⟨g k, m, none⟩ (.int .i64 c)).setCell ⟨ab, 0, none⟩ (.bool true)) R C g (putC f k m c) true := by
  obtain ⟨b1, b2, b3⟩ := h.boxB
  obtain ⟨a1, a2, a3, a4⟩ := h.flagB
  refine ⟨(h.mat.put hk hm c).other a1 a4, ?_, ⟨b1, by simpa [World.setCell] using b2, b3⟩, ?_, by rw [World.frozen?_setCell, World.frozen?_setCell]; exact h.flagF, ⟨a1, by simpa [World.setCell] using a2, a3, a4⟩⟩
  · rw [World.cell?_setCell_other _ _ _ _ (by intro q; injection q with q; omega), World.cell?_setCell_other _ _ _ _ (by intro q; injection q with q; exact b3 k hk (by omega))]
    exact h.box
  · exact World.cell?_setCell_same _ _ _ (by rw [World.cell?_setCell_other _ _ _ _ (by intro q; injection q with q; exact a4 k hk (by omega))]; exact h.flag)
theorem CostAt.set (h : CostAt X T ab w wr R C g f again) (b : Bool) : CostAt X T ab w (wr.setCell ⟨ab, 0, none⟩ (.bool b)) R C g f b := by
  obtain ⟨b1, b2, b3⟩ := h.boxB
  obtain ⟨a1, a2, a3, a4⟩ := h.flagB
  refine ⟨h.mat.other a1 a4, ?_, ⟨b1, by simpa [World.setCell] using b2, b3⟩, World.cell?_setCell_same _ _ _ h.flag, by rw [World.frozen?_setCell]; exact h.flagF, ⟨a1, by simpa [World.setCell] using a2, a3, a4⟩⟩
  rw [World.cell?_setCell_other _ _ _ _ (by intro q; injection q with q; omega)]
  exact h.box
end

/-- All but two blocks stand. -/
def Others (b c : Nat) (w w' : World) : Prop := ∀ x o, x ≠ b → x ≠ c → w'.cell? ⟨x, o, none⟩ = w.cell? ⟨x, o, none⟩

/-- better(k, m, c). -/
def betterF (f : Nat → Nat → Int) (k m : Nat) (c : Int) : Nat → Nat → Int := if c < f k m then putC f k m c else f

set_option maxHeartbeats 2000000 in
theorem better_any {X T ab : Nat} {w wr : World} {R C : Nat} {g : Nat → Nat} {f : Nat → Nat → Int} {again : Bool} (h : CostAt X T ab w wr R C g f again) (k m : Nat) (c : Int) (hk : k < R) (hm : m < C) (hR : R ≤ 1000000) (hC : C ≤ 1000000) :
    Calls Try.prog 22 #[.int .i64 (k : Int), .int .i64 (m : Int), .int .i64 c, .pointer (some ⟨T, 0, none⟩), .pointer (some ⟨ab, 0, none⟩)] wr
      fun e w' => e = .returned (.tuple #[]) ∧ CostAt X T ab w w' R C g (betterF f k m c) (again || decide (c < f k m)) ∧ Below X wr w' ∧ Others (g k) ab wr w' := by
  have x0 := h.box
  have x1 := h.mat.row k hk
  have x2 := h.mat.cell k m hk hm
  have hkR : (k : Int) < (R : Int) := by omega
  have hmC : (m : Int) < (C : Int) := by omega
  by_cases hc : c < f k m
  · have n1 : decide (c < f k m) = true := by rw [decide_eq_true_eq]; exact hc
    have y0 := h.mat.cellF k m hk hm
    have y1 := h.flagF
    have y2 := h.flag
    have hne := h.flagB.2.2.2 k hk
    have hP := h.put hk hm c
    have hB : Hid (Below X wr ((wr.setCell ⟨g k, m, none⟩ (.int .i64 c)).setCell ⟨ab, 0, none⟩ (.bool true))) :=
      ((Below.refl X wr).setCell (p := ⟨g k, m, none⟩) (Nat.le_of_lt (h.mat.lo k hk)) _).setCell (p := ⟨ab, 0, none⟩) (Nat.le_of_lt h.flagB.1) _
    have HP : Hid (CostAt X T ab w ((wr.setCell ⟨g k, m, none⟩ (.int .i64 c)).setCell ⟨ab, 0, none⟩ (.bool true)) R C g (betterF f k m c) (again || decide (c < f k m))) := by
      show CostAt _ _ _ _ _ _ _ _ _ _
      unfold betterF
      rw [if_pos hc, n1, Bool.or_true]
      exact hP
    have hO : Hid (Others (g k) ab wr ((wr.setCell ⟨g k, m, none⟩ (.int .i64 c)).setCell ⟨ab, 0, none⟩ (.bool true))) := fun x o h1 h2 => by
      rw [World.cell?_setCell_other _ _ _ _ (by intro q; injection q with q; exact h2 q.symm), World.cell?_setCell_other _ _ _ _ (by intro q; injection q with q; exact h1 q.symm)]
    clear hP h
    go_enter Try.func22, Try.ntmps22
    go_wp2
    go_end0
    exact ⟨rfl, HP.out, hB.out, hO.out⟩
  · have n1 : decide (c < f k m) = false := by rw [decide_eq_false_iff_not]; exact hc
    have HP : Hid (CostAt X T ab w wr R C g (betterF f k m c) again) := by
      show CostAt _ _ _ _ _ _ _ _ _ _
      unfold betterF
      rw [if_neg hc]
      exact h
    clear h
    go_enter Try.func22, Try.ntmps22
    go_wp2
    go_end0
    exact ⟨rfl, HP.out, Below.refl _ _, fun _ _ _ _ => rfl⟩

end Go.Proofs.Ytakgppoeikcepaa

/- One round of costs, plainly. -/
namespace Go.Proofs.Ytakgppoeikcepaa
set_option linter.unusedVariables false
set_option maxRecDepth 4000

section
variable {A : List ArcL} {lb : Nat → Int} {tr : List Int} {M : Nat} {f0 f : Nat → Nat → Int} {ag : Bool}
/-- A round under way: it began with f0. -/
structure Prog (A : List ArcL) (lb : Nat → Int) (tr : List Int) (M : Nat) (f0 f : Nat → Nat → Int) (ag : Bool) (k j i : Nat) : Prop where
  ok : CostOk A lb tr M f
  calm : ag = false → f = f0 ∧ CalmTo A lb tr M f k j i
  less : ag = true → sumC (tr.length + 1) M f < sumC (tr.length + 1) M f0
theorem Prog.start (h : CostOk A lb tr M f0) : Prog A lb tr M f0 f0 false 0 0 0 := ⟨h, fun _ => ⟨rfl, CalmTo.start⟩, fun q => by cases q⟩
/-- One call of better: what is kept while it goes on. -/
structure ProgMid (A : List ArcL) (lb : Nat → Int) (tr : List Int) (M : Nat) (f0 f : Nat → Nat → Int) (ag : Bool) : Prop where
  ok : CostOk A lb tr M f
  same : ag = false → f = f0
  less : ag = true → sumC (tr.length + 1) M f < sumC (tr.length + 1) M f0
theorem ProgMid.better (h : ProgMid A lb tr M f0 f ag) {k m : Nat} {c : Int} (hk : k ≤ tr.length) (hm : m < M) (hc : 0 ≤ c) (hok : c < f k m → CostOk A lb tr M (putC f k m c)) : ProgMid A lb tr M f0 (betterF f k m c) (ag || decide (c < f k m)) := by
  unfold betterF
  by_cases q : c < f k m
  · rw [if_pos q, decide_eq_true q, Bool.or_true]
    have h1 := sumC_lt (R := tr.length + 1) (show k < tr.length + 1 by omega) hm q hc
    refine ⟨hok q, (fun e => by cases e), fun _ => ?_⟩
    cases ag with
    | false => rw [h.same rfl] at h1 ⊢; exact h1
    | true => exact Nat.lt_trans h1 (h.less rfl)
  · rw [if_neg q, decide_eq_false q, Bool.or_false]
    exact h
theorem Prog.mid {k j i : Nat} (h : Prog A lb tr M f0 f ag k j i) : ProgMid A lb tr M f0 f ag := ⟨h.ok, fun e => (h.calm e).1, h.less⟩
theorem better_calm {g : Nat → Nat → Int} {k m : Nat} {c : Int} {a b : Bool} (h : (a || decide (c < g k m)) = false) : a = false ∧ g k m ≤ c ∧ betterF g k m c = g := by
  rw [Bool.or_eq_false_iff, decide_eq_false_iff_not] at h
  exact ⟨h.1, by omega, by unfold betterF; rw [if_neg h.2]⟩
/-- An arc was gone through: first alone, then along the trace, where the label is the trace's next. -/
def both (tr : List Int) (k : Nat) (l : Int) : Bool := decide (k < tr.length) && decide (0 < l) && (nth tr k == l)
def f1C (lb : Nat → Int) (f : Nat → Nat → Int) (k : Nat) (a : ArcL) : Nat → Nat → Int := betterF f k a.dst (f k a.frm + min (lb a.tran) 1)
def g1C (lb : Nat → Int) (f : Nat → Nat → Int) (k : Nat) (a : ArcL) (ag : Bool) : Bool := ag || decide (f k a.frm + min (lb a.tran) 1 < f k a.dst)
theorem ProgMid.arc1 (h : ProgMid A lb tr M f0 f ag) {k : Nat} {a : ArcL} (hk : k ≤ tr.length) (ha : a ∈ A) (hf : a.frm < M) (hd : a.dst < M) (hl : 0 ≤ lb a.tran) : ProgMid A lb tr M f0 (f1C lb f k a) (g1C lb f k a ag) := by
  refine h.better hk hd ?_ fun q => h.ok.arc hk ha hf hd hl q
  have := (h.ok.le hk hf).1
  omega
theorem ProgMid.arc2 (h : ProgMid A lb tr M f0 f ag) {k : Nat} {a : ArcL} (hb : both tr k (lb a.tran) = true) (ha : a ∈ A) (hf : a.frm < M) (hd : a.dst < M) : ProgMid A lb tr M f0 (betterF f (k + 1) a.dst (f k a.frm)) (ag || decide (f k a.frm < f (k + 1) a.dst)) := by
  unfold both at hb
  simp only [Bool.and_eq_true, decide_eq_true_eq, beq_iff_eq] at hb
  obtain ⟨⟨h1, h2⟩, h3⟩ := hb
  exact h.better h1 hd ((h.ok.le (Nat.le_of_lt h1) hf).1) fun q => h.ok.both h1 ha hf hd h2 h3 q
/-- An arc is done: not along the trace. -/
theorem Prog.arcNo {k j : Nat} {a : ArcL} (h : Prog A lb tr M f0 f ag k j 0) (ha : A[j]? = some a) (hk : k ≤ tr.length) (hf : a.frm < M) (hd : a.dst < M) (hl : 0 ≤ lb a.tran) (hb : both tr k (lb a.tran) = false) :
    Prog A lb tr M f0 (f1C lb f k a) (g1C lb f k a ag) k (j + 1) 0 := by
  have hm : a ∈ A := List.mem_of_getElem? ha
  have h1 := h.mid.arc1 (k := k) hk hm hf hd hl
  refine ⟨h1.ok, fun e => ?_, h1.less⟩
  obtain ⟨e1, e2, e3⟩ := better_calm (a := ag) (b := ag) (g := f) e
  obtain ⟨q1, q2⟩ := h.calm e1
  refine ⟨h1.same e, ?_⟩
  unfold f1C
  rw [e3]
  refine q2.arcNext ha e2 fun r1 r2 r3 => ?_
  exfalso
  unfold both at hb
  rw [decide_eq_true r1, decide_eq_true r2, r3] at hb
  simp at hb
/-- An arc is done: along the trace, too. -/
theorem Prog.arcYes {k j : Nat} {a : ArcL} (h : Prog A lb tr M f0 f ag k j 0) (ha : A[j]? = some a) (hk : k ≤ tr.length) (hf : a.frm < M) (hd : a.dst < M) (hl : 0 ≤ lb a.tran) (hb : both tr k (lb a.tran) = true) :
    Prog A lb tr M f0 (betterF (f1C lb f k a) (k + 1) a.dst (f1C lb f k a k a.frm)) (g1C lb f k a ag || decide (f1C lb f k a k a.frm < f1C lb f k a (k + 1) a.dst)) k (j + 1) 0 := by
  have hm : a ∈ A := List.mem_of_getElem? ha
  have h1 := (h.mid.arc1 (k := k) hk hm hf hd hl).arc2 hb hm hf hd
  refine ⟨h1.ok, fun e => ?_, h1.less⟩
  obtain ⟨e4, e5, e6⟩ := better_calm (a := g1C lb f k a ag) (b := ag) (g := f1C lb f k a) e
  obtain ⟨e1, e2, e3⟩ := better_calm (a := ag) (b := ag) (g := f) e4
  obtain ⟨q1, q2⟩ := h.calm e1
  refine ⟨h1.same e, ?_⟩
  rw [e6]
  unfold f1C at e5 ⊢
  rw [e3] at e5 ⊢
  exact q2.arcNext ha e2 fun _ _ _ => e5
/-- A mark is done. -/
theorem Prog.markYes {k i : Nat} (h : Prog A lb tr M f0 f ag k A.length i) (hk : k < tr.length) (hi : i < M) : Prog A lb tr M f0 (betterF f (k + 1) i (f k i + 1)) (ag || decide (f k i + 1 < f (k + 1) i)) k A.length (i + 1) := by
  have h1 := h.mid.better (k := k + 1) (m := i) (c := f k i + 1) hk hi (by have := (h.ok.le (Nat.le_of_lt hk) hi).1; omega) fun q => h.ok.trace hk hi q
  refine ⟨h1.ok, fun e => ?_, h1.less⟩
  obtain ⟨e1, e2, e3⟩ := better_calm (a := ag) (b := ag) (g := f) e
  obtain ⟨q1, q2⟩ := h.calm e1
  refine ⟨h1.same e, ?_⟩
  rw [e3]
  exact q2.markNext fun _ _ => e2
theorem Prog.markNo {k i : Nat} (h : Prog A lb tr M f0 f ag k A.length i) (hk : ¬ k < tr.length) : Prog A lb tr M f0 f ag k A.length (i + 1) :=
  ⟨h.ok, fun e => ⟨(h.calm e).1, (h.calm e).2.markNext fun q => absurd q hk⟩, h.less⟩
theorem Prog.rowNext {k : Nat} (h : Prog A lb tr M f0 f ag k A.length M) : Prog A lb tr M f0 f ag (k + 1) 0 0 := ⟨h.ok, fun e => ⟨(h.calm e).1, (h.calm e).2.rowNext⟩, h.less⟩
/-- What is left falls, round by round. -/
def leftC (R C : Nat) (f : Nat → Nat → Int) (ag : Bool) : Nat := 2 * sumC R C f + (if ag then 1 else 0)
theorem Prog.falls {k j i : Nat} (h : Prog A lb tr M f0 f ag k j i) : leftC (tr.length + 1) M f ag < leftC (tr.length + 1) M f0 true := by
  unfold leftC
  cases ag with
  | false => rw [(h.calm rfl).1]; simp
  | true => have := h.less rfl; simp; omega
end

end Go.Proofs.Ytakgppoeikcepaa
