import Derived.Test.YteoofibhpifmlaaDoorGr23
import Derived.Test.YteoofibhpifmlaaDoorGr06
import Derived.Test.YteoofibhpifmlaaDoorShapeDev
import Derived.Test.YteoofibhpifmlaaDoorReachDev
import Derived.Test.YteoofibhpifmlaaDoorGr19
import Derived.Test.YteoofibhpifmlaaDoorGr00
import Derived.Test.YteoofibhpifmlaaDoorGr11
import Derived.Test.YteoofibhpifmlaaDoorGr10
/- Package tongue as it landed: heard. -/
namespace Go.Proofs.YteoofibhpifmlaaDoor
open Go.RowKit Go.Shelf
set_option linter.unusedVariables false
set_option linter.unusedSimpArgs false
set_option maxRecDepth 4000

/-- What heard answers. -/
def Heard (w' : World) (n : NetL) (i o : Int) (p : Option Addr) (d : Int) : Prop :=
  (¬ d = 0 ∧ p = none ∧ (Judged n i o d ∨ (ShapeOk n i o ∧ (graphL n (startL n.places i) 300).2 = d))) ∨
  (d = 0 ∧ ShapeOk n i o ∧ ∃ s, graphL n (startL n.places i) 300 = (s, 0) ∧ ∃ T bn lv t, p = some ⟨T, 0, none⟩ ∧ TalkAt w' T bn lv t ∧ TalkOk n s (startL n.places o) t)

set_option maxRecDepth 100000 in
set_option maxHeartbeats 8000000 in
theorem heard_any (v : Value) (n : NetL) (i o : Int) (w : World) (hv : Net w v n) :
    Calls Tryd.prog 15 #[v, .int .i64 i, .int .i64 o] w fun e w' => ∃ p d, e = .returned (.tuple #[.pointer p, .int .i64 d]) ∧ Heard w' n i o p d ∧ Below w.heap.size w w' := by
  obtain ⟨tv, rfl, hT⟩ := hv
  have c : Below w.heap.size w (w.alloc (.cells #[.int .i64 n.places, tv] 24)) := below_new _ _
  have hbx := box2_new w (.int .i64 n.places) tv 24
  obtain ⟨w0, Hw0⟩ : ∃ w0, Hid (w.alloc (.cells #[.int .i64 n.places, tv] 24) = w0) := ⟨_, rfl⟩
  rw [Hw0.out] at c hbx
  have hv : Net w0 (.agg #[.int .i64 n.places, tv]) n := ⟨_, rfl, hT.below c⟩
  obtain ⟨x0, x1, x2⟩ := id hbx
  go_enter Tryd.func15, Tryd.ntmps15
  go_upto_region 1 with fail
  rw [Hw0.out]
  clear Hw0
  go_wp2_with fail
  clear x0 x1 x2
  refine (shape_wrong _ n i o _ (by exact hv)).mono ?_
  rintro e w1 ⟨d, rfl, hd, b⟩
  replace hbx := hbx.below b
  replace hv := hv.below b
  replace c := below_then c b
  clear b
  by_cases hd0 : d = 0
  · subst hd0
    have HS : Hid (ShapeOk n i o) := hd.zero
    clear hd
    obtain ⟨x0, x1, x2⟩ := id hbx
    go_upto_region 4 with fail
    have hdr : Below w1.heap.size w1 w1.drew := (Below.refl _ _).drew
    have hvd := hv.below hdr
    have hvn := hvd.below (below_new w1.drew (.cells #[.slice none 0 0, .slice none 0 0] 56))
    have Hne : Hid (startL n.places i ≠ []) := by intro e; have h1 := start_len HS.out.ok i; have h2 := two_places HS.out; rw [e] at h1; simp at h1; omega
    obtain ⟨G, HG⟩ : ∃ G, Hid (graphL n (startL n.places i) 300 = G) := ⟨_, rfl⟩
    have Hfl : Hid (∀ j, j < G.1.marks.length → markAt G.1.marks j ≠ []) := by have := graph_full (n := n) (most := 300) Hne.out; rw [HG.out] at this; exact this
    go_cut [9, 10] (fun p q wc => ∃ bx mv av, p = .pointer (some ⟨bx, 0, none⟩) ∧ q = .int .i64 G.2 ∧ Box2 wc bx mv av ∧ Space wc (.agg #[mv, av]) G.1 ∧ Below w1.heap.size w1 wc)
    case first =>
      go_region_held3 (fun w' => w'.cell? ⟨w.heap.size, 0, none⟩ = some (.int .i64 n.places) ∧ w'.cell? ⟨w.heap.size, 1, none⟩ = some tv)
        (first | exact ⟨f1, f2⟩ | go_keep)
        (first
          | (go_at_call 12; refine (shape_start_own _ n i _ ?_).mono ?_; (first | exact hvd | exact hvn); rintro e w2 ⟨r1, rfl, hOn, hOb⟩; have hI := hOn.now; (first | (have hnb : NilBox w2 w1.heap.size := (nilBox_new w1.drew).below hOb; have q2 := below_then (below_then hdr (below_new w1.drew (.cells #[.slice none 0 0, .slice none 0 0] 56))) hOb) | (have q2 := below_then hdr hOb)); have hv2 := hv.below q2; obtain ⟨y0, y1, y2⟩ := hbx.below q2)
          | (go_at_call 30; refine (reach_graph _ _ n (startL n.places i) 300 _ ?_ ?_).mono ?_; (first | exact hv2 | exact hv2.below (below_new w2 (.cells #[.slice none 0 0, .slice none 0 0] 56))); (first | exact hI | exact hI.below (below_new w2 (.cells #[.slice none 0 0, .slice none 0 0] 56))); rw [HG.out]; rintro e w3 ⟨r2, rfl, hSp, b3⟩; (first | (have hnb3 := (nilBox_new w2).below b3; have q3 := below_then q2 (below_then (below_new w2 (.cells #[.slice none 0 0, .slice none 0 0] 56)) b3); have hlt3 : w.heap.size < w2.heap.size := y0) | (have hnb3 := hnb.below b3; have q3 := below_then q2 b3; have hlt3 : w.heap.size < w1.heap.size := x0) | (have q3 := below_then q2 b3)); obtain ⟨mv, av, rfl, hMv, hAv⟩ := id hSp; obtain ⟨am, cm, rfl, _, _⟩ := hMv.slice; obtain ⟨aa, ca, hav, _⟩ := hAv.slice; rw [List.length_map] at hav; subst hav; obtain ⟨z0, z1, z2⟩ := hbx.below q3; (first | (obtain ⟨n0, n1, n2, n3, n4⟩ := hnb3.at; have hf := hnb3.fill hSp Hfl.out; have f1 := (hf.2.2.cell (p := ⟨w.heap.size, 0, none⟩) hlt3).trans z1; have f2 := (hf.2.2.cell (p := ⟨w.heap.size, 1, none⟩) hlt3).trans z2) | skip)))
      all_goals
        go_wp2_with fail
        go_meet
        first
          | exact ⟨_, _, _, rfl, rfl, hf.2.1, hf.1, q3.trans (hf.2.2.mono (Nat.le_refl _))⟩
          | exact ⟨_, _, _, rfl, rfl, hf.2.1, hf.1, q3.trans (hf.2.2.mono q2.size)⟩
          | exact ⟨_, _, _, rfl, rfl, box2_new w3 _ _ _, hSp.below (below_new w3 _), below_then q3 (below_new w3 _)⟩
    obtain ⟨bx, mv, av, rfl, rfl, hbs, hSp, b4⟩ := hcut
    obtain ⟨w4, rfl⟩ : ∃ w0, w0 = wc := ⟨_, rfl⟩
    replace hbx := hbx.below b4
    replace hv := hv.below b4
    replace c := below_then c b4
    clear hvd hvn hdr b4 x0 x1 x2 Hne
    obtain ⟨s, dg⟩ := G
    simp only at hSp Hfl ⊢
    by_cases hg0 : dg = 0
    · subst hg0
      clear Hfl
      have HW : Hid (Whole n (startL n.places i) s) := graphL_whole HG.out
      have Hsm : Hid (s.marks.length ≤ 300) := by have := graphL_small n (startL n.places i) 300; rw [HG.out] at this; exact this
      have Harcs : Hid (∀ a ∈ s.arcs, a.frm < s.marks.length ∧ a.dst < s.marks.length ∧ a.tran < n.trans.length ∧ 0 ≤ labT n a.tran) := fun a ha => by
        obtain ⟨h1, h2, h3, _⟩ := HW.out.sound a ha
        exact ⟨h1, h2, h3, (lab_ok HS.out.ok _ h3).1⟩
      have Hml : Hid (∀ m, m < s.marks.length → (markAt s.marks m).length = (startL n.places o).length) := fun m hm => by
        have h1 : ((markAt s.marks m).length : Int) = n.places := by obtain ⟨most, k, hF, hk⟩ := HW.out; exact (fits_net (hF.fits _ (markAt_mem hm))).2.1
        have h2 := start_len HS.out.ok o
        show _ = _
        omega
      have Hpos : Hid (0 < s.marks.length) := HW.out.here.1
      obtain ⟨y0, y1, y2⟩ := id hbs
      obtain ⟨hMk, hAk⟩ : Lists w4 mv s.marks ∧ Arcs w4 av (s.arcs.map arcZ) := by obtain ⟨mv', av', e, h1, h2⟩ := hSp; injection e with e; injection e with e; simp at e; obtain ⟨rfl, rfl⟩ := e; exact ⟨h1, h2⟩
      have hLab : LabAt w4 w.heap.size n tv := ⟨hbx, hT.below c⟩
      clear hSp
      go_wp2_with fail
      refine (unseen_any n tv mv av s w.heap.size w4 hLab hMk hAk Hsm.out (fun a ha => ⟨(Harcs.out a ha).1, (Harcs.out a ha).2.1, (Harcs.out a ha).2.2.1⟩)).mono ?_
      rintro e w5 ⟨Bf, f, rfl, hR, hFar, hBf, b5⟩
      have hv5 := hv.below b5
      have hbx5 := hbx.below b5
      have hbs5 := hbs.below b5
      have hLab5 := hLab.below b5
      have hMk5 := hMk.below b5
      have hAk5 := hAk.below b5
      have c5 := below_then c b5
      clear hv hbx hbs hLab hMk hAk c b5 y0 y1 y2
      obtain ⟨am, cm, rfl, _, _⟩ := hMk5.slice
      obtain ⟨aa, ca, rfl, hlab⟩ := hAk5.slice
      obtain ⟨N, HN⟩ : ∃ N, Hid (s.marks.length = N) := ⟨_, rfl⟩
      obtain ⟨la, Hla⟩ : ∃ la, Hid ((s.arcs.map arcZ).length = la) := ⟨_, rfl⟩
      have hN : N ≤ 300 := by rw [← HN.out]; exact Hsm.out
      have hN0 : 0 < N := by rw [← HN.out]; exact Hpos.out
      rw [HN.out] at hR hFar hMk5 hbs5 ⊢
      rw [Hla.out] at hAk5 hbs5 hlab
      have Hall : Hid (∀ w' : World, Below w5.heap.size w5 w' → (fun w' => w'.cell? ⟨Bf, 0, none⟩ = some (.int .u64 ((f 0).at_ 0 : Nat)) ∧ w'.cell? ⟨Bf, 1, none⟩ = some (.int .u64 ((f 0).at_ 1 : Nat)) ∧ w'.cell? ⟨Bf, 2, none⟩ = some (.int .u64 ((f 0).at_ 2 : Nat)) ∧ w'.cell? ⟨Bf, 3, none⟩ = some (.int .u64 ((f 0).at_ 3 : Nat)) ∧ w'.cell? ⟨Bf, 4, none⟩ = some (.int .u64 ((f 0).at_ 4 : Nat)) ∧ w'.cell? ⟨bx, 0, none⟩ = some (.slice am N cm) ∧ w'.cell? ⟨bx, 1, none⟩ = some (.slice aa la ca) ∧ w'.cell? ⟨w.heap.size, 0, none⟩ = some (.int .i64 n.places) ∧ w'.cell? ⟨w.heap.size, 1, none⟩ = some tv) w') := fun w' hb => by
        obtain ⟨_, g0, g1, g2, g3, g4⟩ := (hR.below hb).c hN0
        simp only [Nat.zero_mul, Nat.zero_add] at g0 g1 g2 g3 g4
        obtain ⟨_, p0, p1⟩ := hbs5.below hb
        obtain ⟨_, r0, r1⟩ := hbx5.below hb
        exact ⟨g0, g1, g2, g3, g4, p0, p1, r0, r1⟩
      go_upto_region 9 with fail
      go_cut [13] (fun p wc => ∃ T bn Bl lf, p = .pointer (some ⟨T, 0, none⟩) ∧ wc.heap[T]? = some (.cells #[.int .u64 ((f 0).at_ 0 : Nat), .int .u64 ((f 0).at_ 1 : Nat), .int .u64 ((f 0).at_ 2 : Nat), .int .u64 ((f 0).at_ 3 : Nat), .int .u64 ((f 0).at_ 4 : Nat), .slice (some ⟨bn, 0, none⟩) N N, .slice (some ⟨Bl, 0, none⟩) N N] 51 (0, 0)) ∧
        SetRow wc bn (N * 27) (fun _ => noneS) ∧ (w5.heap.size ≤ T ∧ w5.heap.size ≤ bn ∧ w5.heap.size ≤ Bl ∧ T ≠ bn ∧ T ≠ Bl ∧ bn ≠ Bl) ∧ IntRow wc Bl N lf ∧ LeastAll n s (startL n.places o) lf ∧ Below w5.heap.size w5 wc)
      case first =>
        have hdr : Below w5.heap.size w5 w5.drew := (Below.refl _ _).drew
        refine wp_region_held_drew (S := (fun w' => w'.cell? ⟨Bf, 0, none⟩ = some (.int .u64 ((f 0).at_ 0 : Nat)) ∧ w'.cell? ⟨Bf, 1, none⟩ = some (.int .u64 ((f 0).at_ 1 : Nat)) ∧ w'.cell? ⟨Bf, 2, none⟩ = some (.int .u64 ((f 0).at_ 2 : Nat)) ∧ w'.cell? ⟨Bf, 3, none⟩ = some (.int .u64 ((f 0).at_ 3 : Nat)) ∧ w'.cell? ⟨Bf, 4, none⟩ = some (.int .u64 ((f 0).at_ 4 : Nat)) ∧ w'.cell? ⟨bx, 0, none⟩ = some (.slice am N cm) ∧ w'.cell? ⟨bx, 1, none⟩ = some (.slice aa la ca) ∧ w'.cell? ⟨w.heap.size, 0, none⟩ = some (.int .i64 n.places) ∧ w'.cell? ⟨w.heap.size, 1, none⟩ = some tv)) (by kernel_rfl) (Hall.out _ hdr) (fun hH => ?_)
        refine wpAnyH_take (i := 0) rfl (by kernel_rfl) (by kernel_rfl) (by kernel_rfl) (fun _ _ _ h => h) (.inl ⟨by rfl, fun _ _ => rfl⟩) hH ?_
        simp only [List.getElem_toArray, List.getElem_cons_succ, List.getElem_cons_zero, Act.put, List.setIfInBounds_toArray, List.set_cons_zero, List.set_cons_succ]
        refine wpAnyH_take (i := 1) (v := .pointer (some ⟨Bf, 0, none⟩)) rfl (by kernel_rfl) (by kernel_rfl) (by kernel_rfl) (fun _ _ _ h => h) (.inl ⟨by rfl, fun w' hS' => by first | (go_simp; done) | (go_simp; rfl) | (go_simp; intro h; omega)⟩) hH ?_
        simp only [List.getElem_toArray, List.getElem_cons_succ, List.getElem_cons_zero, Act.put, List.setIfInBounds_toArray, List.set_cons_zero, List.set_cons_succ]
        refine wpAnyH_take (i := 2) (v := setV (f 0)) rfl (by kernel_rfl) (by kernel_rfl) (by kernel_rfl) (fun _ _ _ h => h) (.inl ⟨by rfl, fun w' hS' => by obtain ⟨s0, s1, s2, s3, s4, m0, m1, n0, n1⟩ := hS'; go_simp⟩) hH ?_
        simp only [List.getElem_toArray, List.getElem_cons_succ, List.getElem_cons_zero, Act.put, List.setIfInBounds_toArray, List.set_cons_zero, List.set_cons_succ]
        refine wpAnyH_take (i := 3) (v := .pointer (some ⟨bx, 0, none⟩)) rfl (by kernel_rfl) (by kernel_rfl) (by kernel_rfl) (fun _ _ _ h => h) (.inl ⟨by rfl, fun w' hS' => by first | (go_simp; done) | (go_simp; rfl) | (go_simp; intro h; omega)⟩) hH ?_
        simp only [List.getElem_toArray, List.getElem_cons_succ, List.getElem_cons_zero, Act.put, List.setIfInBounds_toArray, List.set_cons_zero, List.set_cons_succ]
        refine wpAnyH_take (i := 4) (v := .slice am N cm) rfl (by kernel_rfl) (by kernel_rfl) (by kernel_rfl) (fun _ _ _ h => h) (.inl ⟨by rfl, fun w' hS' => by obtain ⟨s0, s1, s2, s3, s4, m0, m1, n0, n1⟩ := hS'; go_simp⟩) hH ?_
        simp only [List.getElem_toArray, List.getElem_cons_succ, List.getElem_cons_zero, Act.put, List.setIfInBounds_toArray, List.set_cons_zero, List.set_cons_succ]
        refine wpAnyH_take (i := 5) (v := .int .i64 (N : Int)) rfl (by kernel_rfl) (by kernel_rfl) (by kernel_rfl) (fun _ _ _ h => h) (.inl ⟨by rfl, fun w' hS' => by first | (go_simp; done) | (go_simp; rfl) | (go_simp; intro h; omega)⟩) hH ?_
        simp only [List.getElem_toArray, List.getElem_cons_succ, List.getElem_cons_zero, Act.put, List.setIfInBounds_toArray, List.set_cons_zero, List.set_cons_succ]
        refine wpAnyH_take (i := 7) (v := .agg #[.slice am N cm, .slice aa la ca]) rfl (by kernel_rfl) (by kernel_rfl) (by kernel_rfl) (fun _ _ _ h => h) (.inl ⟨by rfl, fun w' hS' => by obtain ⟨s0, s1, s2, s3, s4, m0, m1, n0, n1⟩ := hS'; go_simp⟩) hH ?_
        simp only [List.getElem_toArray, List.getElem_cons_succ, List.getElem_cons_zero, Act.put, List.setIfInBounds_toArray, List.set_cons_zero, List.set_cons_succ]
        refine wpAnyH_take (i := 8) (v := .agg #[.int .i64 n.places, tv]) rfl (by kernel_rfl) (by kernel_rfl) (by kernel_rfl) (fun _ _ _ h => h) (.inl ⟨by rfl, fun w' hS' => by obtain ⟨s0, s1, s2, s3, s4, m0, m1, n0, n1⟩ := hS'; go_simp⟩) hH ?_
        simp only [List.getElem_toArray, List.getElem_cons_succ, List.getElem_cons_zero, Act.put, List.setIfInBounds_toArray, List.set_cons_zero, List.set_cons_succ]
        refine wpAnyH_take (i := 9) rfl (by kernel_rfl) (by kernel_rfl) (by kernel_rfl) (fun _ _ _ h => h) (.inl ⟨by rfl, fun _ _ => rfl⟩) hH ?_
        simp only [List.getElem_toArray, List.getElem_cons_succ, List.getElem_cons_zero, Act.put, List.setIfInBounds_toArray, List.set_cons_zero, List.set_cons_succ]
        refine wpAnyH_take (i := 11) rfl (by kernel_rfl) (by kernel_rfl) (by kernel_rfl) (fun _ _ _ h => h) (.inl ⟨by rfl, fun _ _ => rfl⟩) hH ?_
        simp only [List.getElem_toArray, List.getElem_cons_succ, List.getElem_cons_zero, Act.put, List.setIfInBounds_toArray, List.set_cons_zero, List.set_cons_succ]
        refine wpAnyH_ready (rs := [6, 10]) (by kernel_rfl) (by simp) ?_
        refine AllReadyH.cons rfl (fun K hK => ?_) (AllReadyH.cons rfl (fun K hK => ?_) AllReadyH.nil)
        · obtain ⟨w6, hmkw6, bmw6, hzw6, hRw6⟩ := make_letters w5.drew N hN
          have Hzw6 : Hid _ := hzw6
          clear hzw6
          simp only [List.getElem_toArray, List.getElem_cons_succ, List.getElem_cons_zero]
          rw [if_pos (by rfl)]
          go_wp2_with fail
          have qw6 := below_then hdr bmw6
          refine hK.out _ _ (Hall.out _ qw6) (fun hH => ?_)
          refine wpAnyH_ready (rs := [10]) (by kernel_rfl) (by simp) ?_
          refine AllReadyH.cons rfl (fun K hK => ?_) AllReadyH.nil
          simp only [List.getElem_toArray, List.getElem_cons_succ, List.getElem_cons_zero]
          rw [if_pos (by rfl)]
          go_wp2_with fail
          refine (shape_start_own _ n o _ (by exact hv5.below (qw6))).mono ?_
          rintro e w7 ⟨rw7, rfl, hOnw7, hObw7⟩
          have qw7 := below_then qw6 hObw7
          have hIw7 := hOnw7.now
          refine hK.out _ _ (Hall.out _ qw7) (fun hH => ?_)
          refine wpAnyH_ready (rs := [12]) (by kernel_rfl) (by simp) ?_
          refine AllReadyH.cons rfl (fun K hK => ?_) AllReadyH.nil
          simp only [List.getElem_toArray, List.getElem_cons_succ, List.getElem_cons_zero]
          rw [if_pos (by rfl)]
          go_wp2_with fail
          refine (leastTo_any n tv _ _ _ s (startL n.places o) w.heap.size w7 (by exact hLab5.below qw7) (by exact hMk5.below qw7) (by exact hAk5.below qw7) (by exact hIw7) (by rw [HN.out]; exact hN) Hml.out Harcs.out).mono ?_
          rintro e w8 ⟨Bl, lf, rfl, hIR, hLA, hBl, bw8⟩
          rw [HN.out] at hIR ⊢
          have qw8 := below_then qw7 bw8
          refine hK.out _ _ (Hall.out _ qw8) (fun hH => ?_)
          refine wpAnyH_take (i := 13) (v := .agg #[.int .u64 ((f 0).at_ 0 : Nat), .int .u64 ((f 0).at_ 1 : Nat), .int .u64 ((f 0).at_ 2 : Nat), .int .u64 ((f 0).at_ 3 : Nat), .int .u64 ((f 0).at_ 4 : Nat), .slice (some ⟨w5.drew.heap.size, 0, none⟩) N N, .slice (some ⟨Bl, 0, none⟩) N N]) rfl (by kernel_rfl) (by kernel_rfl) (by kernel_rfl) (fun _ _ _ h => h) (.inl ⟨by rfl, fun w' hS' => by first | (go_simp; done) | (go_simp; rfl) | (go_simp; intro h; omega)⟩) hH ?_
          simp only [List.getElem_toArray, List.getElem_cons_succ, List.getElem_cons_zero, Act.put, List.setIfInBounds_toArray, List.set_cons_zero, List.set_cons_succ]
          refine wpAnyH_ready (rs := [14]) (by kernel_rfl) (by simp) ?_
          refine AllReadyH.cons rfl (fun K hK => ?_) AllReadyH.nil
          simp only [List.getElem_toArray, List.getElem_cons_succ, List.getElem_cons_zero]
          rw [if_pos (by rfl)]
          go_wp2_with fail
          have bt := below_new w8 (.cells #[.int .u64 ((f 0).at_ 0 : Nat), .int .u64 ((f 0).at_ 1 : Nat), .int .u64 ((f 0).at_ 2 : Nat), .int .u64 ((f 0).at_ 3 : Nat), .int .u64 ((f 0).at_ 4 : Nat), .slice (some ⟨w5.drew.heap.size, 0, none⟩) N N, .slice (some ⟨Bl, 0, none⟩) N N] 51)
          refine hK.out _ _ (Hall.out _ (below_then qw8 bt)) (fun hH => ?_)
          refine wpAnyH_take (i := 15) rfl (by kernel_rfl) (by kernel_rfl) (by kernel_rfl) (fun _ _ _ h => h) (.inl ⟨by rfl, fun _ _ => rfl⟩) hH ?_
          simp only [List.getElem_toArray, List.getElem_cons_succ, List.getElem_cons_zero, Act.put, List.setIfInBounds_toArray, List.set_cons_zero, List.set_cons_succ]
          refine wpAnyH_done (by kernel_rfl) ?_ _
          have hapart : w5.heap.size ≤ w8.heap.size ∧ w5.heap.size ≤ w5.drew.heap.size ∧ w5.heap.size ≤ Bl ∧ w8.heap.size ≠ w5.drew.heap.size ∧ w8.heap.size ≠ Bl ∧ w5.drew.heap.size ≠ Bl := by have hz := Hzw6.out; have h1 := hIR.lt; have h2 := qw8.size; have h3 := qw7.size; have h4 := hObw7.size; have h5 := bw8.size; have h6 : w5.drew.heap.size = w5.heap.size := rfl; omega
          go_wp2_with fail
          go_meet
          exact ⟨_, w5.drew.heap.size, Bl, lf, rfl, heap_alloc_at _ _, ((hRw6.below hObw7).below bw8).below bt, hapart, hIR.keep bt.size (bt.block _ hIR.lt), hLA, below_then qw8 bt⟩
        · simp only [List.getElem_toArray, List.getElem_cons_succ, List.getElem_cons_zero]
          rw [if_pos (by rfl)]
          go_wp2_with fail
          refine (shape_start_own _ n o _ (by exact hv5.below (hdr))).mono ?_
          rintro e w6 ⟨rw6, rfl, hOnw6, hObw6⟩
          have qw6 := below_then hdr hObw6
          have hIw6 := hOnw6.now
          refine hK.out _ _ (Hall.out _ qw6) (fun hH => ?_)
          refine wpAnyH_ready (rs := [6, 12]) (by kernel_rfl) (by simp) ?_
          refine AllReadyH.cons rfl (fun K hK => ?_) (AllReadyH.cons rfl (fun K hK => ?_) AllReadyH.nil)
          · obtain ⟨w7, hmkw7, bmw7, hzw7, hRw7⟩ := make_letters w6 N hN
            have Hzw7 : Hid _ := hzw7
            clear hzw7
            simp only [List.getElem_toArray, List.getElem_cons_succ, List.getElem_cons_zero]
            rw [if_pos (by rfl)]
            go_wp2_with fail
            have qw7 := below_then qw6 bmw7
            refine hK.out _ _ (Hall.out _ qw7) (fun hH => ?_)
            refine wpAnyH_ready (rs := [12]) (by kernel_rfl) (by simp) ?_
            refine AllReadyH.cons rfl (fun K hK => ?_) AllReadyH.nil
            simp only [List.getElem_toArray, List.getElem_cons_succ, List.getElem_cons_zero]
            rw [if_pos (by rfl)]
            go_wp2_with fail
            refine (leastTo_any n tv _ _ _ s (startL n.places o) w.heap.size w7 (by exact hLab5.below qw7) (by exact hMk5.below qw7) (by exact hAk5.below qw7) (by exact (hIw6.below bmw7)) (by rw [HN.out]; exact hN) Hml.out Harcs.out).mono ?_
            rintro e w8 ⟨Bl, lf, rfl, hIR, hLA, hBl, bw8⟩
            rw [HN.out] at hIR ⊢
            have qw8 := below_then qw7 bw8
            refine hK.out _ _ (Hall.out _ qw8) (fun hH => ?_)
            refine wpAnyH_take (i := 13) (v := .agg #[.int .u64 ((f 0).at_ 0 : Nat), .int .u64 ((f 0).at_ 1 : Nat), .int .u64 ((f 0).at_ 2 : Nat), .int .u64 ((f 0).at_ 3 : Nat), .int .u64 ((f 0).at_ 4 : Nat), .slice (some ⟨w6.heap.size, 0, none⟩) N N, .slice (some ⟨Bl, 0, none⟩) N N]) rfl (by kernel_rfl) (by kernel_rfl) (by kernel_rfl) (fun _ _ _ h => h) (.inl ⟨by rfl, fun w' hS' => by first | (go_simp; done) | (go_simp; rfl) | (go_simp; intro h; omega)⟩) hH ?_
            simp only [List.getElem_toArray, List.getElem_cons_succ, List.getElem_cons_zero, Act.put, List.setIfInBounds_toArray, List.set_cons_zero, List.set_cons_succ]
            refine wpAnyH_ready (rs := [14]) (by kernel_rfl) (by simp) ?_
            refine AllReadyH.cons rfl (fun K hK => ?_) AllReadyH.nil
            simp only [List.getElem_toArray, List.getElem_cons_succ, List.getElem_cons_zero]
            rw [if_pos (by rfl)]
            go_wp2_with fail
            have bt := below_new w8 (.cells #[.int .u64 ((f 0).at_ 0 : Nat), .int .u64 ((f 0).at_ 1 : Nat), .int .u64 ((f 0).at_ 2 : Nat), .int .u64 ((f 0).at_ 3 : Nat), .int .u64 ((f 0).at_ 4 : Nat), .slice (some ⟨w6.heap.size, 0, none⟩) N N, .slice (some ⟨Bl, 0, none⟩) N N] 51)
            refine hK.out _ _ (Hall.out _ (below_then qw8 bt)) (fun hH => ?_)
            refine wpAnyH_take (i := 15) rfl (by kernel_rfl) (by kernel_rfl) (by kernel_rfl) (fun _ _ _ h => h) (.inl ⟨by rfl, fun _ _ => rfl⟩) hH ?_
            simp only [List.getElem_toArray, List.getElem_cons_succ, List.getElem_cons_zero, Act.put, List.setIfInBounds_toArray, List.set_cons_zero, List.set_cons_succ]
            refine wpAnyH_done (by kernel_rfl) ?_ _
            have hapart : w5.heap.size ≤ w8.heap.size ∧ w5.heap.size ≤ w6.heap.size ∧ w5.heap.size ≤ Bl ∧ w8.heap.size ≠ w6.heap.size ∧ w8.heap.size ≠ Bl ∧ w6.heap.size ≠ Bl := by have hz := Hzw7.out; have h1 := hIR.lt; have h2 := qw6.size; have h3 := qw7.size; have h5 := bw8.size; omega
            go_wp2_with fail
            go_meet
            exact ⟨_, w6.heap.size, Bl, lf, rfl, heap_alloc_at _ _, (hRw7.below bw8).below bt, hapart, hIR.keep bt.size (bt.block _ hIR.lt), hLA, below_then qw8 bt⟩
          · simp only [List.getElem_toArray, List.getElem_cons_succ, List.getElem_cons_zero]
            rw [if_pos (by rfl)]
            go_wp2_with fail
            refine (leastTo_any n tv _ _ _ s (startL n.places o) w.heap.size w6 (by exact hLab5.below qw6) (by exact hMk5.below qw6) (by exact hAk5.below qw6) (by exact hIw6) (by rw [HN.out]; exact hN) Hml.out Harcs.out).mono ?_
            rintro e w7 ⟨Bl, lf, rfl, hIR, hLA, hBl, bw7⟩
            rw [HN.out] at hIR ⊢
            have qw7 := below_then qw6 bw7
            refine hK.out _ _ (Hall.out _ qw7) (fun hH => ?_)
            obtain ⟨w8, hmkw8, bmw8, hzw8, hRw8⟩ := make_letters w7 N hN
            have Hzw8 : Hid _ := hzw8
            clear hzw8
            refine wpAnyH_ready (rs := [6]) (by kernel_rfl) (by simp) ?_
            refine AllReadyH.cons rfl (fun K hK => ?_) AllReadyH.nil
            simp only [List.getElem_toArray, List.getElem_cons_succ, List.getElem_cons_zero]
            rw [if_pos (by rfl)]
            go_wp2_with fail
            have qw8 := below_then qw7 bmw8
            refine hK.out _ _ (Hall.out _ qw8) (fun hH => ?_)
            refine wpAnyH_take (i := 13) (v := .agg #[.int .u64 ((f 0).at_ 0 : Nat), .int .u64 ((f 0).at_ 1 : Nat), .int .u64 ((f 0).at_ 2 : Nat), .int .u64 ((f 0).at_ 3 : Nat), .int .u64 ((f 0).at_ 4 : Nat), .slice (some ⟨w7.heap.size, 0, none⟩) N N, .slice (some ⟨Bl, 0, none⟩) N N]) rfl (by kernel_rfl) (by kernel_rfl) (by kernel_rfl) (fun _ _ _ h => h) (.inl ⟨by rfl, fun w' hS' => by first | (go_simp; done) | (go_simp; rfl) | (go_simp; intro h; omega)⟩) hH ?_
            simp only [List.getElem_toArray, List.getElem_cons_succ, List.getElem_cons_zero, Act.put, List.setIfInBounds_toArray, List.set_cons_zero, List.set_cons_succ]
            refine wpAnyH_ready (rs := [14]) (by kernel_rfl) (by simp) ?_
            refine AllReadyH.cons rfl (fun K hK => ?_) AllReadyH.nil
            simp only [List.getElem_toArray, List.getElem_cons_succ, List.getElem_cons_zero]
            rw [if_pos (by rfl)]
            go_wp2_with fail
            have bt := below_new w8 (.cells #[.int .u64 ((f 0).at_ 0 : Nat), .int .u64 ((f 0).at_ 1 : Nat), .int .u64 ((f 0).at_ 2 : Nat), .int .u64 ((f 0).at_ 3 : Nat), .int .u64 ((f 0).at_ 4 : Nat), .slice (some ⟨w7.heap.size, 0, none⟩) N N, .slice (some ⟨Bl, 0, none⟩) N N] 51)
            refine hK.out _ _ (Hall.out _ (below_then qw8 bt)) (fun hH => ?_)
            refine wpAnyH_take (i := 15) rfl (by kernel_rfl) (by kernel_rfl) (by kernel_rfl) (fun _ _ _ h => h) (.inl ⟨by rfl, fun _ _ => rfl⟩) hH ?_
            simp only [List.getElem_toArray, List.getElem_cons_succ, List.getElem_cons_zero, Act.put, List.setIfInBounds_toArray, List.set_cons_zero, List.set_cons_succ]
            refine wpAnyH_done (by kernel_rfl) ?_ _
            have hapart : w5.heap.size ≤ w8.heap.size ∧ w5.heap.size ≤ w7.heap.size ∧ w5.heap.size ≤ Bl ∧ w8.heap.size ≠ w7.heap.size ∧ w8.heap.size ≠ Bl ∧ w7.heap.size ≠ Bl := by have hz := Hzw8.out; have h1 := hIR.lt; have h2 := qw6.size; have h3 := qw7.size; omega
            go_wp2_with fail
            go_meet
            exact ⟨_, w7.heap.size, Bl, lf, rfl, heap_alloc_at _ _, (hRw8).below bt, hapart, (hIR.keep bmw8.size (bmw8.block _ hIR.lt)).keep bt.size (bt.block _ (Nat.lt_of_lt_of_le hIR.lt bmw8.size)), hLA, below_then qw8 bt⟩
      obtain ⟨T, bn, Bl, lf, rfl, hTc, hRn, ⟨t1, t2, t3, t4, t5, t6⟩, hIR, hLA, b9⟩ := hcut
      obtain ⟨w9, rfl⟩ : ∃ w0, w0 = wc := ⟨_, rfl⟩
      obtain ⟨_, p0, p1⟩ := hbs5.below b9
      have HTc : Hid _ := hTc
      have HRn : Hid _ := hRn
      have HIR : Hid _ := hIR
      have Hap : Hid _ := And.intro t1 (And.intro t2 (And.intro t3 (And.intro t4 (And.intro t5 t6))))
      clear hTc hRn hIR t1 t2 t3 t4 t5 t6 Hall
      have Hlaa : Hid (la = s.arcs.length) := by show _ = _; rw [← Hla.out, List.length_map]
      go_wp2_with fail
      clear p0 p1
      obtain ⟨AA, HAA⟩ : ∃ AA, Hid (s.arcs = AA) := ⟨_, rfl⟩
      rw [HAA.out] at hAk5 hFar Harcs Hlaa
      rw [HN.out] at Harcs
      go_loopg [58] la (fun g i wr => ∃ (k : Nat) (gs : Nat → SetL), k + g = la ∧ i = .int .i64 (k : Int) ∧ SetRow wr bn (N * 27) gs ∧ NextTo n AA N f k gs ∧ (∀ b, b < w9.heap.size → b ≠ bn → wr.heap[b]? = w9.heap[b]?) ∧ w9.heap.size ≤ wr.heap.size ∧ Below w5.heap.size w5 wr)
      case atStart => exact ⟨0, fun _ => noneS, by omega, rfl, HRn.out, NextTo.zero, fun _ _ _ => rfl, Nat.le_refl _, b9⟩
      case round =>
        obtain ⟨k, gs, hkg, rfl, hG, hNx, hO, hsz, hB⟩ := hrel
        by_cases hk : k < la
        · have hk' : decide ((k : Int) < (la : Int)) = true := by rw [decide_eq_true_eq]; omega
          have hkA : k < AA.length := by have := Hlaa.out; omega
          obtain ⟨b1, o1, rfl, hb1, e0, e1, e2⟩ := (hAk5.below hB).at (k := k) (by simpa using hkA)
          have eA : (AA.map arcZ)[k]'(by simpa using hkA) = arcZ AA[k] := by simp
          rw [eA] at e0 e1 e2
          obtain ⟨A, HA⟩ : ∃ A, Hid (AA[k] = A) := ⟨AA[k], (rfl : AA[k] = AA[k])⟩
          rw [HA.out] at e0 e1 e2
          simp only [arcZ] at e0 e1 e2
          have hAin : A ∈ AA := by rw [← HA.out]; exact List.getElem_mem hkA
          obtain ⟨ax, ay, at_, alb⟩ := Harcs.out A hAin
          have al26 := (lab_ok HS.out.ok _ at_).2
          have hbn1 := below_new wr (.cells #[.int .i64 (A.frm : Int), .int .i64 (A.tran : Int), .int .i64 (A.dst : Int)] 63)
          have hA1 := heap_alloc_at wr (.cells #[.int .i64 (A.frm : Int), .int .i64 (A.tran : Int), .int .i64 (A.dst : Int)] 63)
          obtain ⟨wr1, Hwr1⟩ : ∃ wr1, Hid (wr.alloc (.cells #[.int .i64 (A.frm : Int), .int .i64 (A.tran : Int), .int .i64 (A.dst : Int)] 63) = wr1) := ⟨_, rfl⟩
          rw [Hwr1.out] at hbn1 hA1
          obtain ⟨z0, z1, z2⟩ := arc_cells hA1
          go_upto_region 13 with fail
          rw [Hwr1.out]
          have eg := enters_of Tryd.func31 (by kernel_rfl) rfl
          go_wp2_with fail
          refine (label_any w.heap.size n tv (A.frm : Int) (A.dst : Int) A.tran wr1 (by exact (hLab5.below hB).below hbn1) at_).mono ?_
          rintro e wr2 ⟨rfl, hwr2⟩
          have hbn2 : Below wr1.heap.size wr1 wr2 := by rw [hwr2]; exact below_new _ _
          have hb2 : Below wr.heap.size wr wr2 := below_then hbn1 hbn2
          have hA2 := (hbn2.block _ (Array.getElem?_eq_some_iff.1 hA1).1).trans hA1
          clear z0 z1 z2 e0 e1 e2 eg Hwr1 hwr2 hA1 hbn1 hbn2
          by_cases hl0 : 0 < labT n A.tran
          · obtain ⟨l, hl⟩ := Int.eq_ofNat_of_zero_le alb
            have HL : Hid (labT n A.tran = (l : Int)) := hl
            rw [hl] at hl0 al26 ⊢
            have hl1 : 0 < l := by omega
            have hl27 : l < 27 := by omega
            have hgt : decide ((l : Int) > 0) = true := by rw [decide_eq_true_eq]; omega
            have hT2 : wr2.heap[T]? = w9.heap[T]? := (hb2.block T (by have := (Array.getElem?_eq_some_iff.1 HTc.out).1; omega)).trans (hO T (Array.getElem?_eq_some_iff.1 HTc.out).1 (by have := Hap.out; omega))
            have hT5 : wr2.cell? ⟨T, 5, none⟩ = some (.slice (some ⟨bn, 0, none⟩) N N) := by simp [World.cell?, hT2, HTc.out]
            obtain ⟨z0, z1, z2⟩ := arc_cells hA2
            have hG2 := hG.below hb2
            have hR2 := (hR.below hB).below hb2
            have Hnx := hNx.step (k := k) (l := l) hkA (by rw [HA.out]; exact HL.out) hl1 hl27
            rw [HA.out] at Hnx
            have Hx : Hid (∀ W : World, SetRow W bn (N * 27) (updS gs (A.frm * 27 + l) (orS (gs (A.frm * 27 + l)) (f A.dst))) → (∀ b, b < wr2.heap.size → b ≠ bn → W.heap[b]? = wr2.heap[b]?) → wr2.heap.size ≤ W.heap.size → Below bn wr2 W → ∃ (k' : Nat) (gs : Nat → SetL), k' = k + 1 ∧ SetRow W bn (N * 27) gs ∧ NextTo n AA N f (k + 1) gs ∧ (∀ b, b < w9.heap.size → b ≠ bn → W.heap[b]? = w9.heap[b]?) ∧ w9.heap.size ≤ W.heap.size ∧ Below w5.heap.size w5 W) := fun W h1 h2 h3 h4 => ⟨_, _, rfl, h1, Hnx, fun b q1 q2 => (h2 b (by have := hb2.size; omega) q2).trans ((hb2.block b (by omega)).trans (hO b q1 q2)), by have := hb2.size; omega, (hB.trans (hb2.mono hB.size)).trans (h4.mono (by have := Hap.out; omega))⟩
            have hlx : A.frm * 27 + l < N * 27 := by omega
            obtain ⟨_, g0, g1, g2, g3, g4⟩ := hG2.c hlx
            have eoff : (A.frm * 27 + l) * 5 = A.frm * 135 + l * 5 := by omega
            rw [eoff] at g0 g1 g2 g3 g4
            have hltn := hG.lt
            clear hNx Hnx hG hO
            go_upto_region 15 with fail
            go_quiet (fail)
            have hdq : Below wr2.heap.size wr2 (wr2.drewN nq) := below_drewN (Below.refl _ _) nq
            obtain ⟨wr3, Hwr3⟩ : ∃ wr3, Hid (wr2.drewN nq = wr3) := ⟨_, rfl⟩
            rw [Hwr3.out] at hdq
            go_upto_region 16 with fail
            rw [Hwr3.out]
            have hA3 := (hdq.block _ (Array.getElem?_eq_some_iff.1 hA2).1).trans hA2
            have hG3 := hG2.below hdq
            have hR3 := hR2.below hdq
            clear z0 z1 z2 g0 g1 g2 g3 g4 hT5 hT2 Hwr3
            have Hall : Hid (∀ w' : World, Below wr3.heap.size wr3 w' → (fun w' => w'.cell? ⟨wr.heap.size, 2, none⟩ = some (.int .i64 (A.dst : Int)) ∧ w'.cell? ⟨Bf, A.dst * 5, none⟩ = some (.int .u64 ((f A.dst).at_ 0 : Nat)) ∧ w'.cell? ⟨Bf, A.dst * 5 + 1, none⟩ = some (.int .u64 ((f A.dst).at_ 1 : Nat)) ∧ w'.cell? ⟨Bf, A.dst * 5 + 2, none⟩ = some (.int .u64 ((f A.dst).at_ 2 : Nat)) ∧ w'.cell? ⟨Bf, A.dst * 5 + 3, none⟩ = some (.int .u64 ((f A.dst).at_ 3 : Nat)) ∧ w'.cell? ⟨Bf, A.dst * 5 + 4, none⟩ = some (.int .u64 ((f A.dst).at_ 4 : Nat))) w') := fun w' hb => by
              obtain ⟨_, _, y2⟩ := arc_cells ((hb.block _ (Array.getElem?_eq_some_iff.1 hA3).1).trans hA3)
              obtain ⟨_, r0, r1, r2, r3, r4⟩ := (hR3.below hb).c ay
              exact ⟨y2, r0, r1, r2, r3, r4⟩
            refine wp_region_held_drew (S := (fun w' => w'.cell? ⟨wr.heap.size, 2, none⟩ = some (.int .i64 (A.dst : Int)) ∧ w'.cell? ⟨Bf, A.dst * 5, none⟩ = some (.int .u64 ((f A.dst).at_ 0 : Nat)) ∧ w'.cell? ⟨Bf, A.dst * 5 + 1, none⟩ = some (.int .u64 ((f A.dst).at_ 1 : Nat)) ∧ w'.cell? ⟨Bf, A.dst * 5 + 2, none⟩ = some (.int .u64 ((f A.dst).at_ 2 : Nat)) ∧ w'.cell? ⟨Bf, A.dst * 5 + 3, none⟩ = some (.int .u64 ((f A.dst).at_ 3 : Nat)) ∧ w'.cell? ⟨Bf, A.dst * 5 + 4, none⟩ = some (.int .u64 ((f A.dst).at_ 4 : Nat)))) (by kernel_rfl) (Hall.out _ (Below.refl _ _).drew) (fun hH => ?_)
            refine wpAnyH_take (i := 0) rfl (by kernel_rfl) (by kernel_rfl) (by kernel_rfl) (fun _ _ _ h => h) (.inl ⟨by rfl, fun _ _ => rfl⟩) hH ?_
            simp only [List.getElem_toArray, List.getElem_cons_succ, List.getElem_cons_zero, Act.put, List.setIfInBounds_toArray, List.set_cons_zero, List.set_cons_succ]
            refine wpAnyH_take (i := 1) rfl (by kernel_rfl) (by kernel_rfl) (by kernel_rfl) (fun _ _ _ h => h) (.inl ⟨by rfl, fun _ _ => rfl⟩) hH ?_
            simp only [List.getElem_toArray, List.getElem_cons_succ, List.getElem_cons_zero, Act.put, List.setIfInBounds_toArray, List.set_cons_zero, List.set_cons_succ]
            refine wpAnyH_take (i := 2) (v := .pointer (some ⟨bn, A.frm * 135 + l * 5, none⟩)) rfl (by kernel_rfl) (by kernel_rfl) (by kernel_rfl) (fun _ _ _ h => h) (.inl ⟨by rfl, fun w' hS' => by first | (go_simp; done) | (go_simp; rfl) | (go_simp; intro h; omega)⟩) hH ?_
            simp only [List.getElem_toArray, List.getElem_cons_succ, List.getElem_cons_zero, Act.put, List.setIfInBounds_toArray, List.set_cons_zero, List.set_cons_succ]
            refine wpAnyH_take (i := 4) rfl (by kernel_rfl) (by kernel_rfl) (by kernel_rfl) (fun _ _ _ h => h) (.inl ⟨by rfl, fun _ _ => rfl⟩) hH ?_
            simp only [List.getElem_toArray, List.getElem_cons_succ, List.getElem_cons_zero, Act.put, List.setIfInBounds_toArray, List.set_cons_zero, List.set_cons_succ]
            refine wpAnyH_take (i := 5) (v := .pointer (some ⟨wr.heap.size, 2, none⟩)) rfl (by kernel_rfl) (by kernel_rfl) (by kernel_rfl) (fun _ _ _ h => h) (.inl ⟨by rfl, fun w' hS' => by first | (go_simp; done) | (go_simp; rfl) | (go_simp; intro h; omega)⟩) hH ?_
            simp only [List.getElem_toArray, List.getElem_cons_succ, List.getElem_cons_zero, Act.put, List.setIfInBounds_toArray, List.set_cons_zero, List.set_cons_succ]
            refine wpAnyH_take (i := 6) (v := .int .i64 (A.dst : Int)) rfl (by kernel_rfl) (by kernel_rfl) (by kernel_rfl) (fun _ _ _ h => h) (.inl ⟨by rfl, fun w' hS' => by obtain ⟨sa2, q0, q1, q2, q3, q4⟩ := hS'; go_simp⟩) hH ?_
            simp only [List.getElem_toArray, List.getElem_cons_succ, List.getElem_cons_zero, Act.put, List.setIfInBounds_toArray, List.set_cons_zero, List.set_cons_succ]
            refine wpAnyH_take (i := 7) (v := .pointer (some ⟨Bf, A.dst * 5, none⟩)) rfl (by kernel_rfl) (by kernel_rfl) (by kernel_rfl) (fun _ _ _ h => h) (.inl ⟨by rfl, fun w' hS' => by first | (go_simp; done) | (go_simp; rfl) | (go_simp; intro h; omega)⟩) hH ?_
            simp only [List.getElem_toArray, List.getElem_cons_succ, List.getElem_cons_zero, Act.put, List.setIfInBounds_toArray, List.set_cons_zero, List.set_cons_succ]
            refine wpAnyH_take (i := 8) (v := setV (f A.dst)) rfl (by kernel_rfl) (by kernel_rfl) (by kernel_rfl) (fun _ _ _ h => h) (.inl ⟨by rfl, fun w' hS' => by obtain ⟨sa2, q0, q1, q2, q3, q4⟩ := hS'; go_simp⟩) hH ?_
            simp only [List.getElem_toArray, List.getElem_cons_succ, List.getElem_cons_zero, Act.put, List.setIfInBounds_toArray, List.set_cons_zero, List.set_cons_succ]
            obtain ⟨_, g0, g1, g2, g3, g4⟩ := hG3.c hlx
            rw [eoff] at g0 g1 g2 g3 g4
            refine wpAnyH_ready (rs := [3]) (by kernel_rfl) (by simp) ?_
            refine AllReadyH.cons rfl (fun K hK => ?_) AllReadyH.nil
            simp only [List.getElem_toArray, List.getElem_cons_succ, List.getElem_cons_zero]
            rw [if_pos (by rfl)]
            go_wp2_with fail
            refine hK.out _ _ hH (fun hH => ?_)
            refine wpAnyH_ready (rs := [9]) (by kernel_rfl) (by simp) ?_
            refine AllReadyH.cons rfl (fun K hK => ?_) AllReadyH.nil
            simp only [List.getElem_toArray, List.getElem_cons_succ, List.getElem_cons_zero]
            rw [if_pos (by rfl)]
            go_wp2_with fail
            refine (or_any (gs (A.frm * 27 + l)) (f A.dst) _).mono ?_
            rintro e wr4 ⟨rfl, bo⟩
            have bo' : Below wr3.heap.size wr3 wr4 := (Below.refl wr3.heap.size wr3).drew.trans bo
            refine hK.out _ _ (Hall.out wr4 bo') (fun hH => ?_)
            refine wpAnyH_take (i := 10) (v := .pointer (some ⟨bn, A.frm * 135 + l * 5, none⟩)) rfl (by kernel_rfl) (by kernel_rfl) (by kernel_rfl) (fun _ _ _ h => h) (.inl ⟨by rfl, fun w' hS' => by first | (go_simp; done) | (go_simp; rfl) | (go_simp; intro h; omega)⟩) hH ?_
            simp only [List.getElem_toArray, List.getElem_cons_succ, List.getElem_cons_zero, Act.put, List.setIfInBounds_toArray, List.set_cons_zero, List.set_cons_succ]
            have hG4 := hG3.below bo'
            obtain ⟨_, o0, o1, o2, o3, o4⟩ := hG4.c hlx
            have f0 := hG4.frozen ((A.frm * 27 + l) * 5) (by omega)
            have f1 := hG4.frozen ((A.frm * 27 + l) * 5 + 1) (by omega)
            have f2 := hG4.frozen ((A.frm * 27 + l) * 5 + 2) (by omega)
            have f3 := hG4.frozen ((A.frm * 27 + l) * 5 + 3) (by omega)
            have f4 := hG4.frozen ((A.frm * 27 + l) * 5 + 4) (by omega)
            obtain ⟨W5, HW5, hR5, hB5, ho5, hz5⟩ := hG4.store hlx (orS (gs (A.frm * 27 + l)) (f A.dst))
            rw [eoff] at o0 o1 o2 o3 o4 f0 f1 f2 f3 f4 HW5
            refine wpAnyH_ready (rs := [11]) (by kernel_rfl) (by simp) ?_
            refine AllReadyH.cons rfl (fun K hK => ?_) AllReadyH.nil
            simp only [List.getElem_toArray, List.getElem_cons_succ, List.getElem_cons_zero]
            rw [if_pos (by rfl)]
            go_wp2_with fail
            rw [HW5.out]
            have hS5 : (fun w' => w'.cell? ⟨wr.heap.size, 2, none⟩ = some (.int .i64 (A.dst : Int)) ∧ w'.cell? ⟨Bf, A.dst * 5, none⟩ = some (.int .u64 ((f A.dst).at_ 0 : Nat)) ∧ w'.cell? ⟨Bf, A.dst * 5 + 1, none⟩ = some (.int .u64 ((f A.dst).at_ 1 : Nat)) ∧ w'.cell? ⟨Bf, A.dst * 5 + 2, none⟩ = some (.int .u64 ((f A.dst).at_ 2 : Nat)) ∧ w'.cell? ⟨Bf, A.dst * 5 + 3, none⟩ = some (.int .u64 ((f A.dst).at_ 3 : Nat)) ∧ w'.cell? ⟨Bf, A.dst * 5 + 4, none⟩ = some (.int .u64 ((f A.dst).at_ 4 : Nat))) W5 := by
              have hA5 := (ho5 wr.heap.size (by omega)).trans ((bo'.block _ (Array.getElem?_eq_some_iff.1 hA3).1).trans hA3)
              obtain ⟨_, _, y2⟩ := arc_cells hA5
              have hR5' := ((hR3.below bo').keep (w' := W5) (by omega) (ho5 Bf (by have := Hap.out; have := hR.lt; omega)))
              obtain ⟨_, r0, r1, r2, r3, r4⟩ := hR5'.c ay
              exact ⟨y2, r0, r1, r2, r3, r4⟩
            refine hK.out _ _ hS5 (fun hH => ?_)
            refine wpAnyH_done (by kernel_rfl) ?_ _
            obtain ⟨k', gs', rfl, m1, m2, m3, m4, m5⟩ := Hx.out W5 hR5 (fun b q1 q2 => (ho5 b q2).trans ((bo'.block b (by have := hdq.size; omega)).trans (hdq.block b q1))) (by have := hdq.size; have := bo'.size; omega) ((hdq.mono (Nat.le_of_lt hG2.lt)).trans ((bo'.mono (Nat.le_of_lt hG3.lt)).trans hB5))
            clear hG2 hG3 hR2 hR3 hG4 o0 o1 o2 o3 o4 f0 f1 f2 f3 f4 g0 g1 g2 g3 g4 Hall hS5 hH HW5 hR5 hB5 ho5 hz5 Hx
            go_wp2
            go_roundg (gk - 1)
            case measure => omega
            case rel => exact ⟨k + 1, gs', by omega, by go_num, m1, m2, m3, m4, m5⟩
          · have hgt : decide (labT n A.tran > 0) = false := by rw [decide_eq_false_iff_not]; omega
            have Hnx := hNx.skip hkA (by rw [HA.out]; omega)
            have m1 := hG.below hb2
            have m3 : ∀ b, b < w9.heap.size → b ≠ bn → wr2.heap[b]? = w9.heap[b]? := fun b q1 q2 => (hb2.block b (by omega)).trans (hO b q1 q2)
            have m4 : w9.heap.size ≤ wr2.heap.size := Nat.le_trans hsz hb2.size
            have m5 := hB.trans (hb2.mono hB.size)
            have HO : Hid _ := m3
            clear hNx hG hO m3
            go_wp2
            go_roundg (gk - 1)
            case measure => omega
            case rel => exact ⟨k + 1, gs, by omega, by go_num, m1, Hnx, HO.out, m4, m5⟩
        · obtain rfl : k = la := by omega
          clear hk
          have R : Hid (Heard wr n i o (some ⟨T, 0, none⟩) 0) := by
            have hap := Hap.out
            have hTl := (Array.getElem?_eq_some_iff.1 HTc.out).1
            refine .inr ⟨rfl, HS.out, s, HG.out, T, bn, _, ⟨N, f 0, fun m c => gs (m * 27 + c), (List.range N).map lf⟩, rfl, ⟨(hO T hTl (by omega)).trans HTc.out, fun m c' hm hc => ?_, ?_, by simp, hN⟩, ?_⟩
            · have := hG.c (m := m * 27 + c') (by show m * 27 + c' < N * 27; simp only at hm; omega)
              rw [show (m * 27 + c') * 5 = m * 135 + c' * 5 by omega] at this
              exact this
            · refine ⟨_, _, _, rfl, by simp, by omega, ⟨Nat.le_refl _, by omega, fun h => by cases h⟩, fun j hj => ⟨Bl, 0, rfl, by have := HIR.out.lt; omega, ?_⟩⟩
              have hj' : j < N := by simpa using hj
              rw [Nat.zero_add, World.cell?_of_block (a := ⟨Bl, j, none⟩) (hO Bl HIR.out.lt (by omega)), HIR.out.cells j hj']
              simp [nth, List.getD, hj']
            · have hlf : ∀ m, m < N → nth ((List.range N).map lf) m = lf m := fun m hm => by simp [nth, List.getD, hm]
              have hNl : s.marks.length = N := HN.out
              refine ⟨hNl.symm, fun j hj => by rw [HAA.out]; exact hFar 0 hN0 j hj, ?_, ?_⟩
              · rw [HAA.out]
                have := NextTo.done (N := N) (by rw [← Hlaa.out]; exact hNx) hFar (fun a ha => (Harcs.out a ha).2.1)
                exact this
              · refine ⟨fun m hm => by rw [hlf m (by omega)]; exact hLA.pos m hm, fun m hm h => ?_, fun m hm w' h => ?_⟩
                · rw [hlf m (by omega)] at h ⊢; exact hLA.sound m hm h
                · rw [hlf m (by omega)]; exact hLA.least m hm w' h
          have Rb : Below w.heap.size w wr := c5.trans (hB.mono c5.size)
          clear hG hNx hO
          have hkk : decide ((k : Int) < (k : Int)) = false := by simp
          go_wp2
          go_ret2
          exact ⟨_, _, rfl, R.out, Rb⟩
    · have hdd : (dg != 0) = true := by simpa using hg0
      have HV : Hid (Heard w4 n i o none dg) := .inl ⟨hg0, rfl, .inr ⟨HS.out, by rw [HG.out]⟩⟩
      clear hv hg0 hbx HG Hfl hSp hbs
      go_wp2
      go_ret2
      exact ⟨none, dg, rfl, HV.out, c⟩
  · have hdd : (d != 0) = true := by simpa using hd0
    have HV : Hid (Heard w1 n i o none d) := .inl ⟨hd0, rfl, .inl hd⟩
    clear hv hd hd0 hbx
    go_wp2
    go_ret2
    exact ⟨none, d, rfl, HV.out, c⟩

end Go.Proofs.YteoofibhpifmlaaDoor

/- Where one is behind the beginning of a word, plainly. -/
namespace Go.Proofs.YteoofibhpifmlaaDoor
set_option linter.unusedVariables false
set_option maxRecDepth 4000

/-- These are the marks where one can be behind ws. -/
def AtW (n : NetL) (s : SpaceL) (ws : List Int) (u : SetL) : Prop := ∀ j, j < 320 → (u.has j = true ↔ Way s.arcs (labT n) 0 ws j)
theorem AtW.lt {n : NetL} {S : List Int} {s : SpaceL} {ws : List Int} {u : SetL} (h : AtW n s ws u) (hW : Whole n S s) : ∀ m, m < 320 → u.has m = true → m < s.marks.length := fun m hm hh =>
  ((h m hm).1 hh).end_lt (fun a ha => (hW.sound a ha).2.1) hW.here.1
theorem AtW.behind {n : NetL} {S E : List Int} {s : SpaceL} {t : TalkL} {ws : List Int} {l : Int} {u u' : SetL} (h : AtW n s ws u) (hW : Whole n S s) (hN : s.marks.length ≤ 300) (hok : netOk n = true) (hT : TalkOk n s E t) (hb : BehindT t u l u') : AtW n s (ws ++ [l]) u' := by
  intro j hj
  rw [hb j hj, Way.last]
  constructor
  · rintro ⟨h1, h2, m, hm, hu, hn⟩
    obtain ⟨a, ha, q1, q2, q3⟩ := (hT.next m l.toNat hm (by omega) (by omega) j hj).1 hn
    refine ⟨a, ha, ?_, by rw [q2]; omega, by omega, q3⟩
    rw [q1]
    exact (h m (by have := hT.size; omega)).1 hu
  · rintro ⟨a, ha, h1, h2, h3, h4⟩
    obtain ⟨b1, b2, b3, _⟩ := hW.sound a ha
    have hl := lab_ok hok _ b3
    rw [h2] at hl
    have hsz := hT.size
    refine ⟨by omega, hl.2, a.frm, by omega, (h a.frm (by omega)).2 h1, ?_⟩
    exact (hT.next a.frm l.toNat (by omega) (by omega) (by omega) j hj).2 ⟨a, ha, rfl, by rw [h2]; omega, h4⟩
theorem AtW.none {n : NetL} {S E : List Int} {s : SpaceL} {ws r : List Int} {u : SetL} (h : AtW n s ws u) (hW : Whole n S s) (hN : s.marks.length ≤ 300) (he : emptyS u = true) : ¬ ToEnd n s E 0 (ws ++ r) := by
  rintro ⟨e, _, _, hw⟩
  obtain ⟨m, h1, h2⟩ := hw.split
  have hm : m < s.marks.length := h1.end_lt (fun a ha => (hW.sound a ha).2.1) hW.here.1
  have := (h m (by omega)).2 h1
  rw [(emptyS_iff u).1 he m (by omega)] at this
  cases this
theorem AtW.ends {n : NetL} {S E : List Int} {s : SpaceL} {t : TalkL} {ws : List Int} {u : SetL} {b : Bool} (h : AtW n s ws u) (hW : Whole n S s) (hN : s.marks.length ≤ 300) (hT : TalkOk n s E t) (he : endsT t u b) : b = true ↔ ToEnd n s E 0 ws := by
  have hsz := hT.size
  unfold endsT at he
  rw [he]
  constructor
  · rintro ⟨m, h1, h2, h3⟩
    obtain ⟨e, q1, q2, q3⟩ := (hT.least.zero (m := m) (by omega)).1 h3
    have := ((h m (by omega)).1 h2).append q3
    rw [List.append_nil] at this
    exact ⟨e, q1, q2, this⟩
  · rintro ⟨e, q1, q2, q3⟩
    exact ⟨e, by omega, (h e (by omega)).2 q3, (hT.least.zero q1).2 ⟨e, q1, q2, Way.here _⟩⟩
theorem TalkOk.start {n : NetL} {E : List Int} {s : SpaceL} {t : TalkL} (hT : TalkOk n s E t) : AtW n s [] t.bg := hT.bg

/-- Which error is told first. -/
def TongErr (n : NetL) (i o d : Int) : Prop := (¬ d = 0 ∧ Judged n i o d) ∨ (ShapeOk n i o ∧ (graphL n (startL n.places i) 300).2 = d)
theorem TongErr.unique {n : NetL} {i o d e : Int} (h : TongErr n i o d) (k : TongErr n i o e) : d = e := by
  rcases h with ⟨h1, h2⟩ | ⟨h1, h2⟩ <;> rcases k with ⟨k1, k2⟩ | ⟨k1, k2⟩
  · exact h2.unique k2
  · exact absurd k1 (h2.not_zero h1)
  · exact absurd h1 (k2.not_zero k1)
  · rw [← h2, ← k2]
/-- Is it a word of the net? -/
def WordI (n : NetL) (i o : Int) (ws : List Int) : Prop := WordN n (startL n.places i) (startL n.places o) ws
structure HasAns (n : NetL) (i o : Int) (ws : List Int) (b : Bool) (d : Int) : Prop where
  err : TongErr n i o d
  bad : ¬ d = 0 → b = false
  ok : d = 0 → (b = true ↔ WordI n i o ws)
theorem HasAns.unique {n : NetL} {i o : Int} {ws : List Int} {b c : Bool} {d e : Int} (h : HasAns n i o ws b d) (k : HasAns n i o ws c e) : b = c ∧ d = e := by
  obtain rfl := h.err.unique k.err
  refine ⟨?_, rfl⟩
  by_cases hd : d = 0
  · rw [Bool.eq_iff_iff, h.ok hd, k.ok hd]
  · rw [h.bad hd, k.bad hd]
structure LeastAns (n : NetL) (i o : Int) (k d : Int) : Prop where
  ex : ∃ d0, TongErr n i o d0 ∧ (¬ d0 = 0 → k = 0 ∧ d = d0) ∧ (d0 = 0 → (d = 3 ∧ k = 0 ∧ ∀ ws, ¬ WordI n i o ws) ∨ (d = 0 ∧ ∃ ws, WordI n i o ws ∧ (ws.length : Int) = k ∧ ∀ ws', WordI n i o ws' → k ≤ ws'.length))
theorem LeastAns.unique {n : NetL} {i o k d k' d' : Int} (h : LeastAns n i o k d) (h' : LeastAns n i o k' d') : k = k' ∧ d = d' := by
  obtain ⟨d0, h1, h2, h3⟩ := h.ex
  obtain ⟨d0', h1', h2', h3'⟩ := h'.ex
  obtain rfl := h1.unique h1'
  by_cases hd : d0 = 0
  · rcases h3 hd with ⟨q1, q2, q3⟩ | ⟨q1, ws, q2, q3, q4⟩ <;> rcases h3' hd with ⟨r1, r2, r3⟩ | ⟨r1, ws', r2, r3, r4⟩
    · exact ⟨by omega, by omega⟩
    · exact absurd r2 (q3 _)
    · exact absurd q2 (r3 _)
    · have := q4 _ r2; have := r4 _ q2; exact ⟨by omega, by omega⟩
  · obtain ⟨q1, q2⟩ := h2 hd
    obtain ⟨r1, r2⟩ := h2' hd
    exact ⟨by omega, by omega⟩

theorem heard_err {w' : World} {n : NetL} {i o : Int} {p : Option Addr} {d : Int} (h : Heard w' n i o p d) : TongErr n i o d := by
  rcases h with ⟨h1, _, h2 | ⟨h2, h3⟩⟩ | ⟨h1, h2, s, h3, _⟩
  · exact .inl ⟨h1, h2⟩
  · exact .inr ⟨h2, h3⟩
  · exact .inr ⟨h2, by rw [h3, h1]⟩

end Go.Proofs.YteoofibhpifmlaaDoor

/- Package tongue as it landed: Has and Least. -/
namespace Go.Proofs.YteoofibhpifmlaaDoor
open Go.RowKit
set_option linter.unusedVariables false
set_option maxRecDepth 4000

theorem ints_at {w : World} {a : Option Addr} {len cap : Nat} {xs : List Int} (h : Ints w (.slice a len cap) xs) {k : Nat} (hk : k < len) : ∃ b off, a = some ⟨b, off, none⟩ ∧ b < w.heap.size ∧ w.cell? ⟨b, off + k, none⟩ = some (.int .i64 (nth xs k)) := by
  obtain ⟨a', len', cap', e, hl, hm, hs, hr⟩ := h
  injection e with e1 e2 e3
  subst e1 e2 e3
  exact hr k (by omega)

set_option maxRecDepth 100000 in
set_option maxHeartbeats 4000000 in
theorem tongue_has (v u : Value) (n : NetL) (i o : Int) (ws : List Int) (w : World) (hv : Net w v n) (hu : Ints w u ws) (hTab : Tab w) :
    Calls Tryd.prog 6 #[v, .int .i64 i, .int .i64 o, u] w fun e w' => ∃ b d, e = .returned (.tuple #[.bool b, .int .i64 d]) ∧ HasAns n i o ws b d ∧ Below w.heap.size w w' := by
  obtain ⟨tv, rfl, hT⟩ := hv
  have c : Below w.heap.size w (w.alloc (.cells #[.int .i64 n.places, tv] 24)) := below_new _ _
  have hbx := box2_new w (.int .i64 n.places) tv 24
  obtain ⟨w0, Hw0⟩ : ∃ w0, Hid (w.alloc (.cells #[.int .i64 n.places, tv] 24) = w0) := ⟨_, rfl⟩
  rw [Hw0.out] at c hbx
  have hv : Net w0 (.agg #[.int .i64 n.places, tv]) n := ⟨_, rfl, hT.below c⟩
  obtain ⟨x0, x1, x2⟩ := id hbx
  obtain ⟨au, lu, cu, rfl, hlu, hmu, hsu, hru⟩ := id hu
  have Hlu : Hid _ := hlu
  clear hlu
  go_enter Tryd.func6, Tryd.ntmps6
  go_upto_region 1 with fail
  rw [Hw0.out]
  clear Hw0
  go_wp2_with fail
  clear x0 x1 x2
  refine (heard_any _ n i o _ (by exact hv)).mono ?_
  rintro e w1 ⟨p, d, rfl, hH, b⟩
  have HE := heard_err hH
  replace c := below_then c b
  clear b hv hbx
  rcases hH with ⟨hd0, rfl, _⟩ | ⟨rfl, hS, s, hG, T, bn, lv, t, rfl, hTa, hTk⟩
  · have hdd : (d != 0) = true := by simpa using hd0
    go_wp2
    go_ret2
    exact ⟨false, d, rfl, ⟨HE, fun _ => rfl, fun h => absurd h hd0⟩, c⟩
  · have hW := graphL_whole hG
    have hN : s.marks.length ≤ 300 := by have := graphL_small n (startL n.places i) 300; rw [hG] at this; exact this
    have hwd : ∀ ws, WordI n i o ws ↔ ToEnd n s (startL n.places o) 0 ws := fun ws => hW.word
    have t0 : w1.cell? ⟨T, 0, none⟩ = some (.int .u64 (t.bg.at_ 0 : Nat)) := by simp [World.cell?, hTa.cells]
    have t1 : w1.cell? ⟨T, 1, none⟩ = some (.int .u64 (t.bg.at_ 1 : Nat)) := by simp [World.cell?, hTa.cells]
    have t2 : w1.cell? ⟨T, 2, none⟩ = some (.int .u64 (t.bg.at_ 2 : Nat)) := by simp [World.cell?, hTa.cells]
    have t3 : w1.cell? ⟨T, 3, none⟩ = some (.int .u64 (t.bg.at_ 3 : Nat)) := by simp [World.cell?, hTa.cells]
    have t4 : w1.cell? ⟨T, 4, none⟩ = some (.int .u64 (t.bg.at_ 4 : Nat)) := by simp [World.cell?, hTa.cells]
    have bn2 := below_new w1 (.cells (setC t.bg) 48)
    have hA2 := setAt_new w1 t.bg
    obtain ⟨w2, Hw2⟩ : ∃ w2, Hid (w1.alloc (.cells (setC t.bg) 48) = w2) := ⟨_, rfl⟩
    rw [Hw2.out] at bn2 hA2
    have e2 : w1.alloc (.cells #[.int .u64 (t.bg.at_ 0 : Nat), .int .u64 (t.bg.at_ 1 : Nat), .int .u64 (t.bg.at_ 2 : Nat), .int .u64 (t.bg.at_ 3 : Nat), .int .u64 (t.bg.at_ 4 : Nat)] 48) = w2 := Hw2.out
    have He2 : Hid _ := e2
    clear e2 Hw2
    have HtTa : Hid _ := hTa
    go_upto_region 5 with fail
    rw [He2.out]
    clear He2 t0 t1 t2 t3 t4
    go_wp2_with fail
    have Hst : Hid (AtW n s ([] : List Int) t.bg) := hTk.start
    go_loopg [31] lu (fun g x wr => ∃ (k : Nat) (q : SetL), k + g = lu ∧ x = .int .i64 (k : Int) ∧ SetAt wr w1.heap.size q ∧ AtW n s (ws.take k) q ∧ Below w1.heap.size w1 wr)
    case atStart => exact ⟨0, t.bg, by omega, rfl, hA2, by simpa using Hst.out, bn2⟩
    case round =>
      obtain ⟨k, q, hkg, rfl, hA, hAt, hB⟩ := hrel
      have hTr := HtTa.out.below hB
      have hTb := (hTab.below c).below hB
      have hqn : ∀ m, m < 320 → q.has m = true → m < t.n := fun m h1 h2 => by rw [hTk.size]; exact hAt.lt hW m h1 h2
      obtain ⟨_, q0, q1, q2, q3, q4⟩ := hA.c
      simp only [Nat.zero_add] at q1 q2 q3 q4
      by_cases hk : k < lu
      · have hk' : decide ((k : Int) < (lu : Int)) = true := by rw [decide_eq_true_eq]; omega
        obtain ⟨b1, o1, rfl, hb1, ec⟩ := ints_at ((hu.below c).below hB) hk
        go_wp2_with fail
        refine (tbehind_any T bn lv t q _ wr hTr hTb hqn).mono ?_
        rintro e w3 ⟨q', rfl, hBe, b3⟩
        have hlk : k < ws.length := by have := Hlu.out; omega
        have hAt' : AtW n s (ws.take (k + 1)) q' := by
          have := hAt.behind hW hN hS.ok hTk hBe
          rw [List.take_succ_eq_append_getElem hlk]
          have e : ws[k] = nth ws k := by simp [nth, List.getD, hlk]
          rw [e]; exact this
        have hA3 := hA.below b3
        obtain ⟨_, r0, r1, r2, r3, r4⟩ := hA3.c
        simp only [Nat.zero_add] at r1 r2 r3 r4
        have f0 := hA3.frozen 0
        have f1 := hA3.frozen 1
        have f2 := hA3.frozen 2
        have f3 := hA3.frozen 3
        have f4 := hA3.frozen 4
        obtain ⟨w4, Hw4, hA4, hB4, ho4, hz4⟩ := hA3.store q'
        have hB04 : Below w1.heap.size w1 w4 := (hB.trans (b3.mono hB.size)).trans hB4
        clear q0 q1 q2 q3 q4 hA ec hA3
        go_upto_region 9 with fail
        rw [Hw4.out]
        clear r0 r1 r2 r3 r4 f0 f1 f2 f3 f4 Hw4 ho4 hz4
        obtain ⟨_, r0, r1, r2, r3, r4⟩ := hA4.c
        simp only [Nat.zero_add] at r1 r2 r3 r4
        go_wp2_with fail
        refine (empty_any q' w4).mono ?_
        rintro e w5 ⟨rfl, b5⟩
        have hA5 := hA4.below b5
        have hB5 := hB04.trans (b5.mono hB04.size)
        cases hem : emptyS q'
        · clear r0 r1 r2 r3 r4 hA4
          go_wp2
          go_roundg (gk - 1)
          case measure => omega
          case rel => exact ⟨k + 1, q', by omega, by go_num, hA5, hAt', hB5⟩
        · have R : ¬ WordI n i o ws := by
            rw [hwd]
            have := hAt'.none (E := startL n.places o) (r := ws.drop (k + 1)) hW hN hem
            rwa [List.take_append_drop] at this
          clear r0 r1 r2 r3 r4 hA4
          go_wp2
          go_ret2
          exact ⟨false, 0, rfl, ⟨HE, fun _ => rfl, fun _ => ⟨fun h => (by cases h), fun h => absurd h R⟩⟩, c.trans (hB5.mono c.size)⟩
      · obtain rfl : k = lu := by omega
        clear hk
        have hkk : decide ((k : Int) < (k : Int)) = false := by simp
        have e : ws.take k = ws := List.take_of_length_le (by have := Hlu.out; omega)
        rw [e] at hAt
        go_wp2_with fail
        refine (mayEnd_any T bn lv t q wr hTr hTb hqn).mono ?_
        rintro e w3 ⟨b, rfl, hEnd, b3⟩
        have R := hAt.ends hW hN hTk hEnd
        go_wp2
        go_ret2
        exact ⟨b, 0, rfl, ⟨HE, fun h => absurd rfl h, fun _ => by rw [hwd]; exact R⟩, (c.trans (hB.mono c.size)).trans (b3.mono (Nat.le_trans c.size hB.size))⟩

set_option maxRecDepth 100000 in
set_option maxHeartbeats 4000000 in
theorem tongue_least (v : Value) (n : NetL) (i o : Int) (w : World) (hv : Net w v n) :
    Calls Tryd.prog 8 #[v, .int .i64 i, .int .i64 o] w fun e w' => ∃ k d, e = .returned (.tuple #[.int .i64 k, .int .i64 d]) ∧ LeastAns n i o k d ∧ Below w.heap.size w w' := by
  obtain ⟨tv, rfl, hT⟩ := hv
  have c : Below w.heap.size w (w.alloc (.cells #[.int .i64 n.places, tv] 24)) := below_new _ _
  have hbx := box2_new w (.int .i64 n.places) tv 24
  obtain ⟨w0, Hw0⟩ : ∃ w0, Hid (w.alloc (.cells #[.int .i64 n.places, tv] 24) = w0) := ⟨_, rfl⟩
  rw [Hw0.out] at c hbx
  have hv : Net w0 (.agg #[.int .i64 n.places, tv]) n := ⟨_, rfl, hT.below c⟩
  obtain ⟨x0, x1, x2⟩ := id hbx
  go_enter Tryd.func8, Tryd.ntmps8
  go_upto_region 1 with fail
  rw [Hw0.out]
  clear Hw0
  go_wp2_with fail
  clear x0 x1 x2
  refine (heard_any _ n i o _ (by exact hv)).mono ?_
  rintro e w1 ⟨p, d, rfl, hH, b⟩
  have HE := heard_err hH
  replace c := below_then c b
  clear b hv hbx
  rcases hH with ⟨hd0, rfl, _⟩ | ⟨rfl, hS, s, hG, T, bn, lv, t, rfl, hTa, hTk⟩
  · have hdd : (d != 0) = true := by simpa using hd0
    go_wp2
    go_ret2
    exact ⟨0, d, rfl, ⟨d, HE, fun _ => ⟨rfl, rfl⟩, fun h => absurd h hd0⟩, c⟩
  · have hW := graphL_whole hG
    have hwd : ∀ ws, WordI n i o ws ↔ ToEnd n s (startL n.places o) 0 ws := fun ws => hW.word
    have h0n := hW.here.1
    have t6 := hTa.c6
    obtain ⟨b, off, cap, rfl, hlt, hcl⟩ := hTa.least_at (m := 0) (by rw [hTk.size]; exact h0n)
    have hn0 : 0 < t.n := by rw [hTk.size]; exact h0n
    have hn3 := hTa.small
    obtain ⟨k, Hk⟩ : ∃ k, Hid (nth t.least 0 = k) := ⟨_, rfl⟩
    rw [Hk.out] at hcl
    rw [Nat.add_zero] at hcl
    have hLA := hTk.least
    by_cases h300 : k = 300
    · subst h300
      have R : LeastAns n i o 0 3 := ⟨0, HE, fun h => absurd rfl h, fun _ => .inl ⟨rfl, rfl, fun ws hws => by
        have := (hLA.least 0 h0n ws ((hwd ws).1 hws)).2
        have := Hk.out
        omega⟩⟩
      clear hLA hTa
      go_wp2
      go_ret2
      exact ⟨0, 3, rfl, R, c⟩
    · have hne : (k == 300) = false := by simpa using h300
      have R : LeastAns n i o k 0 := by
        have hp := hLA.pos 0 h0n
        have hk := Hk.out
        obtain ⟨ws, h1, h2⟩ := hLA.sound 0 h0n (by omega)
        exact ⟨0, HE, fun h => absurd rfl h, fun _ => .inr ⟨rfl, ws, (hwd ws).2 h1, by omega, fun ws' h' => by have := (hLA.least 0 h0n ws' ((hwd ws').1 h')).1; omega⟩⟩
      clear hLA hTa h300
      go_wp2
      go_ret2
      exact ⟨k, 0, rfl, R, c⟩

end Go.Proofs.YteoofibhpifmlaaDoor

/- Package tongue as it landed: near. -/
namespace Go.Proofs.YteoofibhpifmlaaDoor
open Go.RowKit Go.Shelf
set_option linter.unusedVariables false
set_option linter.unusedSimpArgs false
set_option maxRecDepth 4000

/-- The marks among the first k from which the end is not far. -/
def NearTo (t : TalkL) (room : Int) (k : Nat) (q : SetL) : Prop := ∀ j, j < 320 → (q.has j = true ↔ j < k ∧ nth t.least j ≤ room)
theorem NearTo.zero (t : TalkL) (room : Int) : NearTo t room 0 noneS := fun j _ => by rw [has_none]; simp
theorem NearTo.more {t : TalkL} {room : Int} {k : Nat} {q : SetL} (h : NearTo t room k q) (hk : nth t.least k ≤ room) : NearTo t room (k + 1) (orS q (onlyS k)) := by
  intro j hj
  rw [has_or, Bool.or_eq_true, h j hj, has_only, decide_eq_true_eq]
  constructor
  · rintro (⟨h1, h2⟩ | rfl)
    · exact ⟨by omega, h2⟩
    · exact ⟨by omega, hk⟩
  · rintro ⟨h1, h2⟩
    by_cases e : j = k
    · exact .inr e
    · exact .inl ⟨by omega, h2⟩
theorem NearTo.skip {t : TalkL} {room : Int} {k : Nat} {q : SetL} (h : NearTo t room k q) (hk : ¬ nth t.least k ≤ room) : NearTo t room (k + 1) q := by
  intro j hj
  rw [h j hj]
  constructor
  · rintro ⟨h1, h2⟩; exact ⟨by omega, h2⟩
  · rintro ⟨h1, h2⟩
    by_cases e : j = k
    · subst e; exact absurd h2 hk
    · exact ⟨by omega, h2⟩

set_option maxRecDepth 100000 in
set_option maxHeartbeats 4000000 in
theorem near_any (T bn : Nat) (lv : Value) (t : TalkL) (room : Int) (w : World) (hT : TalkAt w T bn lv t) (hn0 : 0 < t.n) :
    Calls Tryd.prog 50 #[.pointer (some ⟨T, 0, none⟩), .int .i64 room] w fun e w' => ∃ q, e = .returned (setV q) ∧ NearTo t room t.n q ∧ Below w.heap.size w w' := by
  have a1 := setAt_new w noneS
  have b1 := below_new w (.cells (setC noneS) 48)
  have a2 := setAt_new (w.alloc (.cells (setC noneS) 48)) noneS
  have b2 := below_new (w.alloc (.cells (setC noneS) 48)) (.cells (setC noneS) 48)
  have es : (w.alloc (.cells (setC noneS) 48)).heap.size = w.heap.size + 1 := by simp
  rw [es] at a2
  obtain ⟨w2, Hw2⟩ : ∃ w2, Hid ((w.alloc (.cells (setC noneS) 48)).alloc (.cells (setC noneS) 48) = w2) := ⟨_, rfl⟩
  have A1 := a1.below b2
  have c := below_then b1 b2
  rw [Hw2.out] at A1 a2 c
  have e2 : (w.alloc (.cells #[.int .u64 0, .int .u64 0, .int .u64 0, .int .u64 0, .int .u64 0] 48)).alloc (.cells #[.int .u64 0, .int .u64 0, .int .u64 0, .int .u64 0, .int .u64 0] 48) = w2 := Hw2.out
  have He2 : Hid _ := e2
  clear a1 b1 b2 es Hw2 e2
  have t6 := (hT.below c).c6
  obtain ⟨b, off, cap, rfl, hlt, _⟩ := hT.least_at hn0
  obtain ⟨N, HN⟩ : ∃ N, Hid (t.n = N) := ⟨_, rfl⟩
  have hN := hT.small
  rw [HN.out] at hN t6 hn0 ⊢
  go_enter Tryd.func50, Tryd.ntmps50
  go_upto_region 2 with fail
  rw [He2.out]
  clear He2
  go_wp2_with fail
  clear t6
  go_loopg [13] N (fun g x wr => ∃ (k : Nat) (q : SetL), k + g = N ∧ x = .int .i64 (k : Int) ∧ SetAt wr (w.heap.size + 1) q ∧ SetAt wr w.heap.size noneS ∧ NearTo t room k q ∧ Below w.heap.size w wr)
  case atStart => exact ⟨0, noneS, by omega, rfl, a2, A1, NearTo.zero _ _, c⟩
  case round =>
    clear a2 A1 c
    obtain ⟨k, q, hkg, rfl, hQ, hNo, hq, hB⟩ := hrel
    by_cases hk : k < N
    · have hk' : decide ((k : Int) < (N : Int)) = true := by rw [decide_eq_true_eq]; omega
      obtain ⟨b', off', cap', e', hlt', hcl⟩ := (hT.below hB).least_at (m := k) (by rw [HN.out]; exact hk)
      injection e' with e1 e2 e3
      injection e1 with e1
      injection e1 with e1 e4
      subst e1 e4 e3
      clear e2
      by_cases hle : nth t.least k ≤ room
      · have hle' : decide (nth t.least k ≤ room) = true := by rw [decide_eq_true_eq]; exact hle
        have Hq : Hid (NearTo t room (k + 1) (orS q (onlyS k))) := hq.more hle
        clear hle
        go_upto_region 6 with fail
        have hdr : Below wr.heap.size wr wr.drew := (Below.refl _ _).drew
        obtain ⟨_, q0, q1, q2, q3, q4⟩ := hQ.c
        simp only [Nat.zero_add] at q1 q2 q3 q4
        clear hcl
        refine wp_region_held_drew (S := (fun _ => True)) (by kernel_rfl) trivial (fun hH => ?_)
        refine wpAnyH_take (i := 1) rfl (by kernel_rfl) (by kernel_rfl) (by kernel_rfl) (fun _ _ _ h => h) (.inl ⟨by rfl, fun _ _ => rfl⟩) hH ?_
        simp only [List.getElem_toArray, List.getElem_cons_succ, List.getElem_cons_zero, Act.put, List.setIfInBounds_toArray, List.set_cons_zero, List.set_cons_succ]
        refine wpAnyH_ready (rs := [0, 2]) (by kernel_rfl) (by simp) ?_
        refine AllReadyH.cons rfl (fun K hK => ?_) (AllReadyH.cons rfl (fun K hK => ?_) AllReadyH.nil)
        · simp only [List.getElem_toArray, List.getElem_cons_succ, List.getElem_cons_zero]
          rw [if_pos (by rfl)]
          go_wp2_with fail
          refine hK.out _ _ trivial (fun hH => ?_)
          refine wpAnyH_ready (rs := [2]) (by kernel_rfl) (by simp) ?_
          refine AllReadyH.cons rfl (fun K hK => ?_) AllReadyH.nil
          simp only [List.getElem_toArray, List.getElem_cons_succ, List.getElem_cons_zero]
          rw [if_pos (by rfl)]
          go_wp2_with fail
          refine (only_any k (by omega) _).mono ?_
          rintro e w4 ⟨rfl, bo⟩
          have qq := below_then hdr bo
          refine hK.out _ _ trivial (fun hH => ?_)
          clear q0 q1 q2 q3 q4
          refine wpAnyH_ready (rs := [3]) (by kernel_rfl) (by simp) ?_
          refine AllReadyH.cons rfl (fun K hK => ?_) AllReadyH.nil
          simp only [List.getElem_toArray, List.getElem_cons_succ, List.getElem_cons_zero]
          rw [if_pos (by rfl)]
          go_wp2_with fail
          refine (or_any q (onlyS k) _).mono ?_
          rintro e w5 ⟨rfl, bo2⟩
          have q5 := below_then qq bo2
          refine hK.out _ _ trivial (fun hH => ?_)
          have hQ5 := hQ.below q5
          have hN5 := hNo.below q5
          obtain ⟨_, p0, p1, p2, p3, p4⟩ := hQ5.c
          simp only [Nat.zero_add] at p1 p2 p3 p4
          have f0 := hQ5.frozen 0
          have f1 := hQ5.frozen 1
          have f2 := hQ5.frozen 2
          have f3 := hQ5.frozen 3
          have f4 := hQ5.frozen 4
          obtain ⟨W5, HW5, hS5, hB5, ho5, hz5⟩ := hQ5.store (orS q (onlyS k))
          refine wpAnyH_ready (rs := [4]) (by kernel_rfl) (by simp) ?_
          refine AllReadyH.cons rfl (fun K hK => ?_) AllReadyH.nil
          simp only [List.getElem_toArray, List.getElem_cons_succ, List.getElem_cons_zero]
          rw [if_pos (by rfl)]
          go_wp2_with fail
          rw [HW5.out]
          refine hK.out _ _ trivial (fun hH => ?_)
          refine wpAnyH_done (by kernel_rfl) ?_ _
          have hN6 : SetAt W5 w.heap.size noneS := (ho5 _ (by omega)).trans hN5
          have hB6 : Below w.heap.size w W5 := (hB.trans (q5.mono hB.size)).trans (hB5.mono (by omega))
          clear p0 p1 p2 p3 p4 f0 f1 f2 f3 f4 HW5 hQ5 hN5 ho5 hz5 hH hQ hNo hq
          go_wp2
          go_roundg (gk - 1)
          case measure => omega
          case rel => exact ⟨k + 1, orS q (onlyS k), by omega, by go_num, hS5, hN6, Hq.out, hB6⟩
        · simp only [List.getElem_toArray, List.getElem_cons_succ, List.getElem_cons_zero]
          rw [if_pos (by rfl)]
          go_wp2_with fail
          refine (only_any k (by omega) _).mono ?_
          rintro e w4 ⟨rfl, bo⟩
          have qq := below_then hdr bo
          refine hK.out _ _ trivial (fun hH => ?_)
          clear q0 q1 q2 q3 q4
          obtain ⟨_, q0, q1, q2, q3, q4⟩ := (hQ.below qq).c
          simp only [Nat.zero_add] at q1 q2 q3 q4
          refine wpAnyH_ready (rs := [0]) (by kernel_rfl) (by simp) ?_
          refine AllReadyH.cons rfl (fun K hK => ?_) AllReadyH.nil
          simp only [List.getElem_toArray, List.getElem_cons_succ, List.getElem_cons_zero]
          rw [if_pos (by rfl)]
          go_wp2_with fail
          refine hK.out _ _ trivial (fun hH => ?_)
          clear q0 q1 q2 q3 q4
          refine wpAnyH_ready (rs := [3]) (by kernel_rfl) (by simp) ?_
          refine AllReadyH.cons rfl (fun K hK => ?_) AllReadyH.nil
          simp only [List.getElem_toArray, List.getElem_cons_succ, List.getElem_cons_zero]
          rw [if_pos (by rfl)]
          go_wp2_with fail
          refine (or_any q (onlyS k) _).mono ?_
          rintro e w5 ⟨rfl, bo2⟩
          have q5 := below_then qq bo2
          refine hK.out _ _ trivial (fun hH => ?_)
          have hQ5 := hQ.below q5
          have hN5 := hNo.below q5
          obtain ⟨_, p0, p1, p2, p3, p4⟩ := hQ5.c
          simp only [Nat.zero_add] at p1 p2 p3 p4
          have f0 := hQ5.frozen 0
          have f1 := hQ5.frozen 1
          have f2 := hQ5.frozen 2
          have f3 := hQ5.frozen 3
          have f4 := hQ5.frozen 4
          obtain ⟨W5, HW5, hS5, hB5, ho5, hz5⟩ := hQ5.store (orS q (onlyS k))
          refine wpAnyH_ready (rs := [4]) (by kernel_rfl) (by simp) ?_
          refine AllReadyH.cons rfl (fun K hK => ?_) AllReadyH.nil
          simp only [List.getElem_toArray, List.getElem_cons_succ, List.getElem_cons_zero]
          rw [if_pos (by rfl)]
          go_wp2_with fail
          rw [HW5.out]
          refine hK.out _ _ trivial (fun hH => ?_)
          refine wpAnyH_done (by kernel_rfl) ?_ _
          have hN6 : SetAt W5 w.heap.size noneS := (ho5 _ (by omega)).trans hN5
          have hB6 : Below w.heap.size w W5 := (hB.trans (q5.mono hB.size)).trans (hB5.mono (by omega))
          clear p0 p1 p2 p3 p4 f0 f1 f2 f3 f4 HW5 hQ5 hN5 ho5 hz5 hH hQ hNo hq
          go_wp2
          go_roundg (gk - 1)
          case measure => omega
          case rel => exact ⟨k + 1, orS q (onlyS k), by omega, by go_num, hS5, hN6, Hq.out, hB6⟩
      · have hle' : decide (nth t.least k ≤ room) = false := by rw [decide_eq_false_iff_not]; exact hle
        have Hq : Hid (NearTo t room (k + 1) q) := hq.skip hle
        clear hle hq
        go_wp2
        go_roundg (gk - 1)
        case measure => omega
        case rel => exact ⟨k + 1, q, by omega, by go_num, hQ, hNo, Hq.out, hB⟩
    · obtain rfl : k = N := by omega
      clear hk
      have hkk : decide ((k : Int) < (k : Int)) = false := by simp
      obtain ⟨_, q0, q1, q2, q3, q4⟩ := hQ.c
      obtain ⟨_, p0, p1, p2, p3, p4⟩ := hNo.c
      simp only [Nat.zero_add] at q1 q2 q3 q4 p1 p2 p3 p4
      have f0 := hNo.frozen 0
      have f1 := hNo.frozen 1
      have f2 := hNo.frozen 2
      have f3 := hNo.frozen 3
      have f4 := hNo.frozen 4
      obtain ⟨W5, HW5, hS5, hB5, ho5, hz5⟩ := hNo.store q
      have R : Below w.heap.size w W5 := hB.trans hB5
      clear hQ hNo ho5 hz5
      go_wp2_with fail
      rw [HW5.out]
      exact bodyPost_ret (results_set rfl rfl hS5.c) rfl ⟨q, rfl, hq, R⟩

end Go.Proofs.YteoofibhpifmlaaDoor

/- All words of a net up to some length, plainly: level by level. -/
namespace Go.Proofs.YteoofibhpifmlaaDoor
set_option linter.unusedVariables false
set_option maxRecDepth 4000

/-- A beginning that some word of up to most letters has. -/
def BeginI (n : NetL) (s : SpaceL) (E : List Int) (most : Int) (ws : List Int) : Prop := ∃ r, ToEnd n s E 0 (ws ++ r) ∧ ((ws ++ r).length : Int) ≤ most
/-- Where one is behind ws, if it may still become a word. -/
def AtN (n : NetL) (s : SpaceL) (t : TalkL) (most : Int) (ws : List Int) (q : SetL) : Prop := ∀ j, j < 320 → (q.has j = true ↔ Way s.arcs (labT n) 0 ws j ∧ nth t.least j ≤ most - ws.length)

theorem AtN.lt {n : NetL} {S : List Int} {s : SpaceL} {t : TalkL} {most : Int} {ws : List Int} {q : SetL} (h : AtN n s t most ws q) (hW : Whole n S s) : ∀ m, m < 320 → q.has m = true → m < s.marks.length := fun m hm hh =>
  ((h m hm).1 hh).1.end_lt (fun a ha => (hW.sound a ha).2.1) hW.here.1
theorem AtN.first {n : NetL} {S E : List Int} {s : SpaceL} {t : TalkL} {most : Int} {q : SetL} (hW : Whole n S s) (hN : s.marks.length ≤ 300) (hT : TalkOk n s E t) (hq : NearTo t most t.n q) : AtN n s t most [] (andS t.bg q) := by
  intro j hj
  rw [has_and, Bool.and_eq_true, hT.bg j hj, hq j hj, hT.size]
  simp only [List.length_nil, Int.natCast_zero, Int.sub_zero]
  constructor
  · rintro ⟨h1, h2, h3⟩; exact ⟨h1, h3⟩
  · rintro ⟨h1, h2⟩; exact ⟨h1, h1.end_lt (fun a ha => (hW.sound a ha).2.1) hW.here.1, h2⟩
/-- One letter more. -/
theorem AtN.next {n : NetL} {S E : List Int} {s : SpaceL} {t : TalkL} {most : Int} {ws : List Int} {l : Int} {q u nr : SetL} (h : AtN n s t most ws q) (hW : Whole n S s) (hN : s.marks.length ≤ 300) (hok : netOk n = true) (hT : TalkOk n s E t)
    (hb : BehindT t q l u) (hn : NearTo t (most - ws.length - 1) t.n nr) : AtN n s t most (ws ++ [l]) (andS u nr) := by
  intro j hj
  have hsz := hT.size
  rw [has_and, Bool.and_eq_true, hb j hj, hn j hj, Way.last]
  simp only [List.length_append, List.length_cons, List.length_nil]
  constructor
  · rintro ⟨⟨h1, h2, m, hm, hu, hx⟩, h3, h4⟩
    obtain ⟨a, ha, q1, q2, q3⟩ := (hT.next m l.toNat hm (by omega) (by omega) j hj).1 hx
    refine ⟨⟨a, ha, ?_, by rw [q2]; omega, by omega, q3⟩, by omega⟩
    rw [q1]
    exact ((h m (by omega)).1 hu).1
  · rintro ⟨⟨a, ha, h1, h2, h3, h4⟩, h5⟩
    obtain ⟨b1, b2, b3, _⟩ := hW.sound a ha
    have hl := lab_ok hok _ b3
    rw [h2] at hl
    have hjN : j < s.marks.length := h4.end_lt (fun a ha => (hW.sound a ha).2.1) b2
    refine ⟨⟨by omega, hl.2, a.frm, by omega, (h a.frm (by omega)).2 ⟨h1, ?_⟩, (hT.next a.frm l.toNat (by omega) (by omega) (by omega) j hj).2 ⟨a, ha, rfl, by rw [h2]; omega, h4⟩⟩, by omega, by omega⟩
    -- the way from there to the end is one letter longer, at most
    by_cases h300 : nth t.least j < 300
    · obtain ⟨w', ⟨e, e1, e2, e3⟩, hw'⟩ := hT.least.sound j hjN h300
      have hway : Way s.arcs (labT n) a.frm (l :: w') e := by
        have := (Way.arc (lb := labT n) ha (by rw [h2]; exact h3)).append (h4.append e3)
        rw [h2] at this
        exact this
      have := (hT.least.least a.frm b1 (l :: w') ⟨e, e1, e2, hway⟩).1
      simp only [List.length_cons] at this
      omega
    · have := (hT.least.pos a.frm b1).2
      have := (hT.least.pos j hjN).2
      omega
theorem AtN.some {n : NetL} {S E : List Int} {s : SpaceL} {t : TalkL} {most : Int} {ws : List Int} {q : SetL} (h : AtN n s t most ws q) (hW : Whole n S s) (hN : s.marks.length ≤ 300) (hm : most < 300) (hT : TalkOk n s E t) : emptyS q = false ↔ BeginI n s E most ws := by
  rw [← Bool.not_eq_true, emptyS_iff]
  constructor
  · intro hne
    obtain ⟨j, hj, hq⟩ : ∃ j, j < 320 ∧ q.has j = true := Classical.byContradiction fun hno => hne fun m hm => by
      cases hh : q.has m
      · rfl
      · exact absurd ⟨m, hm, hh⟩ hno
    obtain ⟨h1, h2⟩ := (h j hj).1 hq
    have hjN : j < s.marks.length := h1.end_lt (fun a ha => (hW.sound a ha).2.1) hW.here.1
    obtain ⟨r, ⟨e, e1, e2, e3⟩, hr⟩ := hT.least.sound j hjN (by omega)
    exact ⟨r, ⟨e, e1, e2, h1.append e3⟩, by simp only [List.length_append]; omega⟩
  · rintro ⟨r, ⟨e, e1, e2, e3⟩, hr⟩ hno
    obtain ⟨m, h1, h2⟩ := e3.split
    have hmN : m < s.marks.length := h1.end_lt (fun a ha => (hW.sound a ha).2.1) hW.here.1
    have hl := (hT.least.least m hmN r ⟨e, e1, e2, h2⟩).1
    simp only [List.length_append] at hr
    have := (h m (by omega)).2 ⟨h1, by omega⟩
    rw [hno m (by omega)] at this
    cases this
theorem AtN.ends {n : NetL} {S E : List Int} {s : SpaceL} {t : TalkL} {most : Int} {ws : List Int} {q : SetL} {b : Bool} (h : AtN n s t most ws q) (hW : Whole n S s) (hN : s.marks.length ≤ 300) (hl : (ws.length : Int) ≤ most) (hT : TalkOk n s E t) (he : endsT t q b) : b = true ↔ ToEnd n s E 0 ws := by
  have hsz := hT.size
  unfold endsT at he
  rw [he]
  constructor
  · rintro ⟨m, h1, h2, h3⟩
    obtain ⟨e, q1, q2, q3⟩ := (hT.least.zero (m := m) (by omega)).1 h3
    have := ((h m (by omega)).1 h2).1.append q3
    rw [List.append_nil] at this
    exact ⟨e, q1, q2, this⟩
  · rintro ⟨e, q1, q2, q3⟩
    have hz := (hT.least.zero q1).2 ⟨e, q1, q2, Way.here _⟩
    exact ⟨e, by omega, (h e (by omega)).2 ⟨q3, by omega⟩, hz⟩

/-- A level: all beginnings of k letters, in their order. -/
structure Level (n : NetL) (s : SpaceL) (E : List Int) (t : TalkL) (most : Int) (k : Nat) (L : List (List Int × SetL)) : Prop where
  up : (L.map (·.1)).Pairwise SLex
  mem : ∀ ws, ws ∈ L.map (·.1) ↔ ws.length = k ∧ BeginI n s E most ws
  at_ : ∀ x ∈ L, AtN n s t most x.1 x.2
/-- The letters of a word. -/
theorem BeginI.letters {n : NetL} {S E : List Int} {s : SpaceL} {most : Int} {ws : List Int} {l : Int} (hW : Whole n S s) (hok : netOk n = true) (h : BeginI n s E most (ws ++ [l])) : BeginI n s E most ws ∧ 1 ≤ l ∧ l ≤ 26 := by
  obtain ⟨r, ⟨e, e1, e2, e3⟩, hr⟩ := h
  refine ⟨⟨l :: r, ⟨e, e1, e2, by simpa using e3⟩, by simpa using hr⟩, ?_⟩
  obtain ⟨m, h1, h2⟩ := e3.split
  obtain ⟨a, ha, _, h4, h5, _⟩ := Way.last.1 h1
  have := lab_ok hok _ (hW.sound a ha).2.2.1
  omega

/-- The beginnings with one letter more: of the first i of L all, of the next one those with a letter below c. -/
structure NextL (n : NetL) (s : SpaceL) (E : List Int) (t : TalkL) (most : Int) (k : Nat) (L : List (List Int × SetL)) (i c : Nat) (M : List (List Int × SetL)) : Prop where
  up : (M.map (·.1)).Pairwise SLex
  mem : ∀ ws, ws ∈ M.map (·.1) ↔ ∃ (j : Nat) (l : Int), (∃ h : j < L.length, ws = L[j].1 ++ [l]) ∧ 1 ≤ l ∧ l ≤ 26 ∧ (j < i ∨ j = i ∧ l < c) ∧ BeginI n s E most ws
  at_ : ∀ x ∈ M, AtN n s t most x.1 x.2
  len : M.length ≤ 26 * i + (c - 1)
theorem NextL.start {n : NetL} {s : SpaceL} {E : List Int} {t : TalkL} {most : Int} {k : Nat} {L : List (List Int × SetL)} : NextL n s E t most k L 0 1 [] := by
  refine ⟨List.Pairwise.nil, fun ws => ⟨fun h => by simp at h, ?_⟩, by simp, by simp⟩
  rintro ⟨j, l, _, h1, h2, h3, _⟩
  omega
theorem NextL.row {n : NetL} {s : SpaceL} {E : List Int} {t : TalkL} {most : Int} {k i : Nat} {L M : List (List Int × SetL)} (h : NextL n s E t most k L i 27 M) : NextL n s E t most k L (i + 1) 1 M := by
  refine ⟨h.up, fun ws => ?_, h.at_, by have := h.len; omega⟩
  rw [h.mem]
  constructor
  · rintro ⟨j, l, q1, q2, q3, q4, q5⟩; exact ⟨j, l, q1, q2, q3, by omega, q5⟩
  · rintro ⟨j, l, q1, q2, q3, q4, q5⟩; exact ⟨j, l, q1, q2, q3, by omega, q5⟩
theorem NextL.skip {n : NetL} {s : SpaceL} {E : List Int} {t : TalkL} {most : Int} {k i c : Nat} {L M : List (List Int × SetL)} (h : NextL n s E t most k L i c M) (hi : i < L.length) (hc : 1 ≤ c) (hno : ¬ BeginI n s E most (L[i].1 ++ [(c : Int)])) : NextL n s E t most k L i (c + 1) M := by
  refine ⟨h.up, fun ws => ?_, h.at_, by have := h.len; omega⟩
  rw [h.mem]
  constructor
  · rintro ⟨j, l, q1, q2, q3, q4, q5⟩; exact ⟨j, l, q1, q2, q3, by omega, q5⟩
  · rintro ⟨j, l, ⟨hj, e⟩, q2, q3, q4, q5⟩
    by_cases e2 : j = i ∧ l = c
    · obtain ⟨rfl, rfl⟩ := e2
      rw [e] at q5
      exact absurd q5 hno
    · exact ⟨j, l, ⟨hj, e⟩, q2, q3, by omega, q5⟩
theorem NextL.add {n : NetL} {s : SpaceL} {E : List Int} {t : TalkL} {most : Int} {k i c : Nat} {L M : List (List Int × SetL)} (h : NextL n s E t most k L i c M) (hL : Level n s E t most k L) (hi : i < L.length) (hc : 1 ≤ c) (hc2 : c ≤ 26) (hb : BeginI n s E most (L[i].1 ++ [(c : Int)])) {q : SetL} (hq : AtN n s t most (L[i].1 ++ [(c : Int)]) q) :
    NextL n s E t most k L i (c + 1) (M ++ [(L[i].1 ++ [(c : Int)], q)]) := by
  have hlen : ∀ j (hj : j < L.length), L[j].1.length = k := fun j hj => ((hL.mem _).1 (List.mem_map_of_mem (List.getElem_mem hj))).1
  have hlt : ∀ j (hj : j < L.length), j < i → LexI L[j].1 L[i].1 := fun j hj hji => by
    have := (List.pairwise_iff_getElem.1 hL.up) j i (by simpa using hj) (by simpa using hi) hji
    simp only [List.getElem_map] at this
    rcases this with q | ⟨_, q⟩
    · rw [hlen j hj, hlen i hi] at q; omega
    · exact q
  refine ⟨?_, fun ws => ?_, fun x hx => ?_, by have := h.len; simp; omega⟩
  · rw [List.map_append, List.pairwise_append]
    refine ⟨h.up, by simp, fun a ha b hb' => ?_⟩
    simp only [List.map_cons, List.map_nil, List.mem_singleton] at hb'
    subst hb'
    obtain ⟨j, l, ⟨hj, e⟩, q2, q3, q4, q5⟩ := (h.mem a).1 ha
    subst e
    refine .inr ⟨by simp [hlen j hj, hlen i hi], ?_⟩
    rcases q4 with q4 | ⟨rfl, q4⟩
    · exact (hlt j hj q4).snoc
    · exact LexI.last q4 _
  · rw [List.map_append, List.mem_append, h.mem]
    simp only [List.map_cons, List.map_nil, List.mem_singleton]
    constructor
    · rintro (⟨j, l, q1, q2, q3, q4, q5⟩ | rfl)
      · exact ⟨j, l, q1, q2, q3, by omega, q5⟩
      · exact ⟨i, (c : Int), ⟨hi, rfl⟩, by omega, by omega, by omega, hb⟩
    · rintro ⟨j, l, ⟨hj, e⟩, q2, q3, q4, q5⟩
      by_cases e2 : j = i ∧ l = c
      · obtain ⟨rfl, rfl⟩ := e2; exact .inr e
      · exact .inl ⟨j, l, ⟨hj, e⟩, q2, q3, by omega, q5⟩
  · rcases List.mem_append.1 hx with hx | hx
    · exact h.at_ x hx
    · rw [List.mem_singleton.1 hx]; exact hq
theorem NextL.done {n : NetL} {S E : List Int} {s : SpaceL} {t : TalkL} {most : Int} {k : Nat} {L M : List (List Int × SetL)} (h : NextL n s E t most k L L.length 1 M) (hL : Level n s E t most k L) (hW : Whole n S s) (hok : netOk n = true) : Level n s E t most (k + 1) M := by
  refine ⟨h.up, fun ws => ?_, h.at_⟩
  rw [h.mem]
  constructor
  · rintro ⟨j, l, ⟨hj, rfl⟩, q2, q3, q4, q5⟩
    have := ((hL.mem _).1 (List.mem_map_of_mem (List.getElem_mem hj))).1
    exact ⟨by simp [this], q5⟩
  · rintro ⟨h1, h2⟩
    obtain ⟨u, l, rfl⟩ : ∃ u l, ws = u ++ [l] := by
      rcases List.eq_nil_or_concat ws with e | ⟨u, l, e⟩
      · rw [e] at h1; simp at h1
      · exact ⟨u, l, by rw [e]; simp⟩
    obtain ⟨q1, q2, q3⟩ := h2.letters hW hok
    have hu : u ∈ L.map (·.1) := (hL.mem u).2 ⟨by simpa using h1, q1⟩
    obtain ⟨x, hx, rfl⟩ := List.mem_map.1 hu
    obtain ⟨j, hj, rfl⟩ := List.getElem_of_mem hx
    exact ⟨j, l, ⟨hj, rfl⟩, q2, q3, .inl hj, h2⟩

end Go.Proofs.YteoofibhpifmlaaDoor

/- What is listed, plainly. -/
namespace Go.Proofs.YteoofibhpifmlaaDoor
set_option linter.unusedVariables false
set_option maxRecDepth 4000

/-- The words so far: all that are shorter than k, and those among the first i of the level. -/
structure Got (n : NetL) (s : SpaceL) (E : List Int) (most : Int) (k : Nat) (L : List (List Int × SetL)) (i : Nat) (ws : List (List Int)) : Prop where
  up : ws.Pairwise SLex
  mem : ∀ x, x ∈ ws ↔ (ToEnd n s E 0 x ∧ (x.length : Int) ≤ most) ∧ (x.length < k ∨ ∃ (j : Nat) (h : j < L.length), j < i ∧ x = L[j].1)
theorem Got.start {n : NetL} {s : SpaceL} {E : List Int} {most : Int} {L : List (List Int × SetL)} : Got n s E most 0 L 0 [] := by
  refine ⟨List.Pairwise.nil, fun x => ⟨fun h => by simp at h, ?_⟩⟩
  rintro ⟨_, h | ⟨j, _, h, _⟩⟩ <;> omega
theorem Got.skip {n : NetL} {s : SpaceL} {E : List Int} {most : Int} {k i : Nat} {L : List (List Int × SetL)} {ws : List (List Int)} (h : Got n s E most k L i ws) (hi : i < L.length) (hno : ¬ ToEnd n s E 0 L[i].1) : Got n s E most k L (i + 1) ws := by
  refine ⟨h.up, fun x => ?_⟩
  rw [h.mem]
  constructor
  · rintro ⟨h1, h2 | ⟨j, hj, h2, h3⟩⟩
    · exact ⟨h1, .inl h2⟩
    · exact ⟨h1, .inr ⟨j, hj, by omega, h3⟩⟩
  · rintro ⟨h1, h2 | ⟨j, hj, h2, h3⟩⟩
    · exact ⟨h1, .inl h2⟩
    · by_cases e : j = i
      · subst e; rw [h3] at h1; exact absurd h1.1 hno
      · exact ⟨h1, .inr ⟨j, hj, by omega, h3⟩⟩
theorem Got.add {n : NetL} {s : SpaceL} {E : List Int} {t : TalkL} {most : Int} {k i : Nat} {L : List (List Int × SetL)} {ws : List (List Int)} (h : Got n s E most k L i ws) (hL : Level n s E t most k L) (hi : i < L.length) (hy : ToEnd n s E 0 L[i].1) : Got n s E most k L (i + 1) (ws ++ [L[i].1]) := by
  have hlen : ∀ j (hj : j < L.length), L[j].1.length = k := fun j hj => ((hL.mem _).1 (List.mem_map_of_mem (List.getElem_mem hj))).1
  have hm : (L[i].1.length : Int) ≤ most := by
    obtain ⟨r, _, hr⟩ := ((hL.mem _).1 (List.mem_map_of_mem (List.getElem_mem hi))).2
    simp only [List.length_append] at hr
    omega
  refine ⟨?_, fun x => ?_⟩
  · rw [List.pairwise_append]
    refine ⟨h.up, by simp, fun a ha b hb => ?_⟩
    rw [List.mem_singleton.1 hb]
    rcases ((h.mem a).1 ha).2 with q | ⟨j, hj, q1, rfl⟩
    · exact .inl (by rw [hlen i hi]; exact q)
    · have := (List.pairwise_iff_getElem.1 hL.up) j i (by simpa using hj) (by simpa using hi) q1
      simpa only [List.getElem_map] using this
  · rw [List.mem_append, h.mem, List.mem_singleton]
    constructor
    · rintro (⟨h1, h2 | ⟨j, hj, h2, h3⟩⟩ | rfl)
      · exact ⟨h1, .inl h2⟩
      · exact ⟨h1, .inr ⟨j, hj, by omega, h3⟩⟩
      · exact ⟨⟨hy, hm⟩, .inr ⟨i, hi, by omega, rfl⟩⟩
    · rintro ⟨h1, h2 | ⟨j, hj, h2, h3⟩⟩
      · exact .inl ⟨h1, .inl h2⟩
      · by_cases e : j = i
        · subst e; exact .inr h3
        · exact .inl ⟨h1, .inr ⟨j, hj, by omega, h3⟩⟩
theorem Got.next {n : NetL} {s : SpaceL} {E : List Int} {t : TalkL} {most : Int} {k : Nat} {L M : List (List Int × SetL)} {ws : List (List Int)} (h : Got n s E most k L L.length ws) (hL : Level n s E t most k L) : Got n s E most (k + 1) M 0 ws := by
  refine ⟨h.up, fun x => ?_⟩
  rw [h.mem]
  constructor
  · rintro ⟨h1, h2 | ⟨j, hj, h2, h3⟩⟩
    · exact ⟨h1, .inl (by omega)⟩
    · have := ((hL.mem _).1 (List.mem_map_of_mem (List.getElem_mem hj))).1
      exact ⟨h1, .inl (by rw [h3, this]; omega)⟩
  · rintro ⟨h1, h2 | ⟨j, hj, h2, h3⟩⟩
    · by_cases e : x.length < k
      · exact ⟨h1, .inl e⟩
      · have hx : x ∈ L.map (·.1) := (hL.mem x).2 ⟨by omega, [], by simpa using h1.1, by simpa using h1.2⟩
        obtain ⟨y, hy, rfl⟩ := List.mem_map.1 hx
        obtain ⟨j, hj, rfl⟩ := List.getElem_of_mem hy
        exact ⟨h1, .inr ⟨j, hj, hj, rfl⟩⟩
    · omega
theorem Got.done {n : NetL} {s : SpaceL} {E : List Int} {t : TalkL} {most : Int} {k : Nat} {ws : List (List Int)} (h : Got n s E most k [] 0 ws) (hL : Level n s E t most k []) : ∀ x, x ∈ ws ↔ ToEnd n s E 0 x ∧ (x.length : Int) ≤ most := by
  intro x
  rw [h.mem]
  constructor
  · rintro ⟨h1, _⟩; exact h1
  · intro h1
    refine ⟨h1, .inl (Nat.lt_of_not_le fun hk => ?_)⟩
    have := (hL.mem (x.take k)).2 ⟨by simp; omega, x.drop k, by rw [List.take_append_drop]; exact h1.1, by rw [List.take_append_drop]; exact h1.2⟩
    simp at this

/-- There are more than may be listed. -/
def FullW (W : List Int → Prop) (most : Int) : Prop := ∃ l : List (List Int), l.Nodup ∧ (∀ x ∈ l, W x ∧ (x.length : Int) ≤ most) ∧ 400 < l.length
theorem level_full {n : NetL} {s : SpaceL} {E : List Int} {t : TalkL} {most : Int} {k : Nat} {L : List (List Int × SetL)} (hL : Level n s E t most k L) (h : 400 < L.length) : FullW (ToEnd n s E 0) most := by
  have hex : ∀ x : List Int, ∃ y : List Int, (x ∈ L.map (·.1) → ToEnd n s E 0 y ∧ (y.length : Int) ≤ most ∧ y.take k = x) := by
    intro x
    by_cases hx : x ∈ L.map (·.1)
    · obtain ⟨h1, r, h2, h3⟩ := (hL.mem x).1 hx
      exact ⟨x ++ r, fun _ => ⟨h2, h3, by rw [← h1, List.take_left']; rfl⟩⟩
    · exact ⟨[], fun h => absurd h hx⟩
  obtain ⟨f, hf⟩ := Classical.axiomOfChoice hex
  refine ⟨(L.map (·.1)).map f, ?_, fun x hx => ?_, by simpa using h⟩
  · have hnd := slex_nodup hL.up
    rw [List.nodup_iff_pairwise_ne] at hnd ⊢
    rw [List.pairwise_map]
    refine hnd.imp_of_mem fun {a b} ha hb hne e => hne ?_
    have h1 := (hf a ha).2.2
    have h2 := (hf b hb).2.2
    rw [← h1, ← h2, e]
  · obtain ⟨y, hy, rfl⟩ := List.mem_map.1 hx
    exact ⟨(hf y hy).1, (hf y hy).2.1⟩
theorem got_full {n : NetL} {s : SpaceL} {E : List Int} {most : Int} {k i : Nat} {L : List (List Int × SetL)} {ws : List (List Int)} (h : Got n s E most k L i ws) (hl : 400 < ws.length) : FullW (ToEnd n s E 0) most :=
  ⟨ws, slex_nodup h.up, fun x hx => ((h.mem x).1 hx).1, hl⟩

/-- What Words tells of words W. -/
def ListsW (W : List Int → Prop) (most : Int) (l : List (List Int)) (d : Int) : Prop :=
  (FullW W most ∧ l = [] ∧ d = 4) ∨ (l.length ≤ 400 ∧ d = 0 ∧ l.Pairwise SLex ∧ ∀ x, x ∈ l ↔ W x ∧ (x.length : Int) ≤ most)
theorem ListsW.unique {W : List Int → Prop} {most : Int} {l l' : List (List Int)} {d d' : Int} (h : ListsW W most l d) (k : ListsW W most l' d') : l = l' ∧ d = d' := by
  have key : ∀ {m : List (List Int)}, FullW W most → m.length ≤ 400 → (∀ x, x ∈ m ↔ W x ∧ (x.length : Int) ≤ most) → False := by
    rintro m ⟨f, f1, f2, f3⟩ hm hx
    have := nodup_lists (l2 := m) f1 fun x hx' => (hx x).2 (f2 x hx')
    omega
  rcases h with ⟨h1, rfl, rfl⟩ | ⟨h1, rfl, h3, h4⟩ <;> rcases k with ⟨k1, rfl, rfl⟩ | ⟨k1, rfl, k3, k4⟩
  · exact ⟨rfl, rfl⟩
  · exact (key h1 k1 k4).elim
  · exact (key k1 h1 h4).elim
  · exact ⟨slex_unique h3 k3 fun x => by rw [h4, k4], rfl⟩
theorem FullW.congr {W V : List Int → Prop} {most : Int} (h : ∀ x, W x ↔ V x) : FullW W most ↔ FullW V most := by
  constructor
  · rintro ⟨l, h1, h2, h3⟩; exact ⟨l, h1, fun x hx => ⟨(h x).1 (h2 x hx).1, (h2 x hx).2⟩, h3⟩
  · rintro ⟨l, h1, h2, h3⟩; exact ⟨l, h1, fun x hx => ⟨(h x).2 (h2 x hx).1, (h2 x hx).2⟩, h3⟩
theorem ListsW.congr {W V : List Int → Prop} {most : Int} {l : List (List Int)} {d : Int} (h : ∀ x, W x ↔ V x) (hl : ListsW W most l d) : ListsW V most l d := by
  rcases hl with ⟨h1, h2⟩ | ⟨h1, h2, h3, h4⟩
  · exact .inl ⟨(FullW.congr h).1 h1, h2⟩
  · exact .inr ⟨h1, h2, h3, fun x => by rw [h4, h]⟩

structure WordsAns (n : NetL) (i o most : Int) (l : List (List Int)) (d : Int) : Prop where
  ex : ∃ d0, TongErr n i o d0 ∧ (¬ d0 = 0 → l = [] ∧ d = d0) ∧ (d0 = 0 → (¬ (0 ≤ most ∧ most ≤ 8) → l = [] ∧ d = 2) ∧ ((0 ≤ most ∧ most ≤ 8) → ListsW (WordI n i o) most l d))
theorem WordsAns.unique {n : NetL} {i o most : Int} {l l' : List (List Int)} {d d' : Int} (h : WordsAns n i o most l d) (k : WordsAns n i o most l' d') : l = l' ∧ d = d' := by
  obtain ⟨d0, h1, h2, h3⟩ := h.ex
  obtain ⟨e0, k1, k2, k3⟩ := k.ex
  obtain rfl := h1.unique k1
  by_cases hd : d0 = 0
  · by_cases hm : 0 ≤ most ∧ most ≤ 8
    · exact ((h3 hd).2 hm).unique ((k3 hd).2 hm)
    · obtain ⟨q1, q2⟩ := (h3 hd).1 hm
      obtain ⟨r1, r2⟩ := (k3 hd).1 hm
      exact ⟨by rw [q1, r1], by omega⟩
  · obtain ⟨q1, q2⟩ := h2 hd
    obtain ⟨r1, r2⟩ := k2 hd
    exact ⟨by rw [q1, r1], by omega⟩

end Go.Proofs.YteoofibhpifmlaaDoor

/- Plain: what the laws TongueShort and TongueRuns ask of Has, Least and Words. -/
namespace Go.Proofs.YteoofibhpifmlaaDoor
set_option linter.unusedVariables false
set_option maxRecDepth 4000

theorem TongErr.not3 {n : NetL} {i o : Int} (h : TongErr n i o 3) : False := by
  rcases h with ⟨_, h⟩ | ⟨_, h⟩
  · cases hn : netOk n with
    | false => have := h.bad hn; omega
    | true =>
      by_cases hs : ShapeOk n i o
      · have := h.right hs; omega
      · have := h.form hn hs; omega
  · unfold graphL at h
    split at h
    · split at h <;> simp at h
    · simp at h

theorem least_three {n : NetL} {i o k : Int} (h : LeastAns n i o k 3) : TongErr n i o 0 ∧ ∀ ws, ¬ WordI n i o ws := by
  obtain ⟨d0, h1, h2, h3⟩ := h.ex
  by_cases hd : d0 = 0
  · subst hd
    rcases h3 rfl with ⟨_, _, q⟩ | ⟨q, _⟩
    · exact ⟨h1, q⟩
    · exact absurd q (by omega)
  · obtain ⟨_, q⟩ := h2 hd
    subst q
    exact h1.not3.elim

/-- Where there is no word. -/
theorem ask_none {n : NetL} {i o k most : Int} {l : List (List Int)} {ws : List Int} {b : Bool} {d2 d3 : Int} (hL : LeastAns n i o k 3) (hW : WordsAns n i o most l d2) (hH : HasAns n i o ws b d3) : d3 = 0 ∧ b = false ∧ (d2 = 0 → l.length = 0) := by
  obtain ⟨h0, hn⟩ := least_three hL
  obtain rfl := hH.err.unique h0
  refine ⟨rfl, ?_, fun hd => ?_⟩
  · cases hb : b with
    | false => rfl
    | true => exact absurd ((hH.ok rfl).1 hb) (hn ws)
  · subst hd
    obtain ⟨e, w1, w2, w3⟩ := hW.ex
    obtain rfl := w1.unique h0
    by_cases hm : 0 ≤ most ∧ most ≤ 8
    · rcases (w3 rfl).2 hm with ⟨_, rfl, _⟩ | ⟨_, _, _, q⟩
      · rfl
      · cases l with
        | nil => rfl
        | cons a t => exact absurd ((q a).1 (by simp)).1 (hn a)
    · exact absurd ((w3 rfl).1 hm).2 (by omega)

/-- Where all three tell of the same fault. -/
theorem ask_fault {n : NetL} {i o k d : Int} {ws : List Int} {b : Bool} {d3 : Int} (hL : LeastAns n i o k d) (hd : ¬ d = 0) (h3 : ¬ d = 3) (hH : HasAns n i o ws b d3) : d3 = d := by
  obtain ⟨d0, h1, h2, hq⟩ := hL.ex
  by_cases hd0 : d0 = 0
  · rcases hq hd0 with ⟨q, _⟩ | ⟨q, _⟩
    · exact absurd q h3
    · exact absurd q hd
  · obtain ⟨_, q⟩ := h2 hd0
    subst q
    exact hH.err.unique h1

/-- Where there is a word. -/
theorem ask_some {n : NetL} {i o k most : Int} {l : List (List Int)} {ws : List Int} {b : Bool} {d2 d3 : Int} (hL : LeastAns n i o k 0) (hW : WordsAns n i o most l d2) (hH : HasAns n i o ws b d3) :
    (b = true → k ≤ (ws.length : Int)) ∧ (d2 = 0 → (0 < l.length ↔ k ≤ most) ∧ (l.length ≠ 0 → ((l.getD 0 []).length : Int) = k)) := by
  obtain ⟨d0, h1, h2, hq⟩ := hL.ex
  have hd0 : d0 = 0 := by
    apply Classical.byContradiction
    intro h
    exact h (h2 h).2.symm
  subst hd0
  rcases hq rfl with ⟨q, _⟩ | ⟨_, x, hx, hlen, hmin⟩
  · exact absurd q (by omega)
  · obtain rfl := hH.err.unique h1
    refine ⟨fun hb => hmin _ ((hH.ok rfl).1 hb), fun hd => ?_⟩
    subst hd
    obtain ⟨e, w1, w2, w3⟩ := hW.ex
    obtain rfl := w1.unique h1
    by_cases hm : 0 ≤ most ∧ most ≤ 8
    · rcases (w3 rfl).2 hm with ⟨_, _, q⟩ | ⟨_, _, hP, hq⟩
      · exact absurd q (by omega)
      · have hmem : k ≤ most → x ∈ l := fun h => (hq x).2 ⟨hx, by omega⟩
        cases l with
        | nil =>
          refine ⟨⟨fun h => by simp at h, fun h => ?_⟩, fun h => absurd rfl h⟩
          exact absurd (hmem h) (by simp)
        | cons a t =>
          obtain ⟨ha, hal⟩ := (hq a).1 (by simp)
          have hka := hmin a ha
          refine ⟨⟨fun _ => by omega, fun _ => by simp⟩, fun _ => ?_⟩
          show (a.length : Int) = k
          rcases List.mem_cons.1 (hmem (by omega)) with e | ht
          · rw [← e]; exact hlen
          · have := ((List.pairwise_cons.1 hP).1 x ht).len
            omega
    · exact absurd ((w3 rfl).1 hm).2 (by omega)

/-- A run's word, as the law gathers it. -/
def putT (n : NetL) (t : Int) : List Int := if 0 ≤ t ∧ t < (n.trans.length : Int) ∧ 0 < labT n t.toNat then [labT n t.toNat] else []
def wordTo (n : NetL) : List Int → List Int
  | [] => []
  | t :: ts => putT n t ++ wordTo n ts
theorem wordTo_append (n : NetL) : ∀ (a b : List Int), wordTo n (a ++ b) = wordTo n a ++ wordTo n b
  | [], b => rfl
  | t :: a, b => by show putT n t ++ wordTo n (a ++ b) = _; rw [wordTo_append n a b, ← List.append_assoc]; rfl
theorem wordTo_one (n : NetL) (t : Int) : wordTo n [t] = putT n t := by show putT n t ++ [] = _; rw [List.append_nil]
theorem wordTo_succ (n : NetL) (l : List Int) {k : Nat} (hk : k < l.length) : wordTo n (l.take (k + 1)) = wordTo n (l.take k) ++ putT n (nth l k) := by
  rw [List.take_succ_eq_append_getElem hk, wordTo_append, wordTo_one]
  have e : l[k] = nth l k := by simp [nth, List.getD, hk]
  rw [e]
theorem putT_len (n : NetL) (t : Int) : (putT n t).length ≤ 1 := by unfold putT; split <;> simp
theorem wordTo_len (n : NetL) : ∀ (l : List Int), (wordTo n l).length ≤ l.length
  | [] => Nat.le_refl _
  | t :: ts => by have := wordTo_len n ts; have := putT_len n t; show (putT n t ++ wordTo n ts).length ≤ _; simp; omega
theorem fire_in {n : NetL} {m : List Int} {t : Int} (h : (fireL n m t).2 = 0) : 0 ≤ t ∧ t < (n.trans.length : Int) := by
  unfold fireL at h
  split at h
  · split at h
    · rename_i q
      simp only [Bool.and_eq_true, decide_eq_true_eq] at q
      exact q.1
    · simp at h
  · simp at h
theorem seen_word {n : NetL} (hok : netOk n = true) : ∀ {seq m E : List Int}, runL n m seq = (E, 0) → seenL n seq = wordTo n seq
  | [], m, E, h => rfl
  | t :: ts, m, E, h => by
    rw [runL_cons] at h
    split at h
    · split at h
      · rename_i q
        obtain ⟨h0, h1⟩ := fire_in (by simpa using q)
        have ih := seen_word hok h
        have hl := (lab_ok hok t.toNat (by omega)).1
        show (if labT n t.toNat = 0 then seenL n ts else labT n t.toNat :: seenL n ts) = putT n t ++ wordTo n ts
        rw [ih]
        unfold putT
        by_cases hz : labT n t.toNat = 0
        · rw [if_pos hz, if_neg (by omega)]; rfl
        · rw [if_neg hz, if_pos ⟨h0, h1, by omega⟩]; rfl
      · rename_i q
        simp only [Prod.mk.injEq] at h
        rw [h.2] at q
        simp at q
    · simp at h
/-- What the law TongueRuns asks. -/
theorem ask_runs {n : NetL} {i o : Int} {seq : List Int} {b : Bool} {d : Int} (hH : HasAns n i o (wordTo n seq) b d) (hd : d = 0) (hr : runL n (startL n.places i) seq = (startL n.places o, 0)) : b = true := by
  have hok : netOk n = true := by
    rcases hH.err with ⟨h, _⟩ | ⟨h, _⟩
    · exact absurd hd h
    · exact h.ok
  exact (hH.ok hd).2 ⟨seq, hr, seen_word hok hr⟩

end Go.Proofs.YteoofibhpifmlaaDoor

/- Beginnings of words in memory. -/
namespace Go.Proofs.YteoofibhpifmlaaDoor
open Go.RowKit
set_option linter.unusedVariables false
set_option maxRecDepth 4000

/-- The cells of a beginning: where its word lies, and the marks. -/
def begCell (b : Value × List Int × SetL) : List Value := [b.1, .int .u64 (b.2.2.at_ 0 : Nat), .int .u64 (b.2.2.at_ 1 : Nat), .int .u64 (b.2.2.at_ 2 : Nat), .int .u64 (b.2.2.at_ 3 : Nat), .int .u64 (b.2.2.at_ 4 : Nat)]
def begCells (bs : List (Value × List Int × SetL)) : List Value := bs.flatMap begCell
theorem begCells_len : ∀ (bs : List (Value × List Int × SetL)), (begCells bs).length = bs.length * 6
  | [] => rfl
  | b :: bs => by simp only [begCells, List.flatMap_cons, List.length_append] at *; have := begCells_len bs; simp only [begCells] at this; rw [this]; simp [begCell]; omega
theorem begCells_append (bs cs : List (Value × List Int × SetL)) : begCells (bs ++ cs) = begCells bs ++ begCells cs := by simp [begCells]
theorem begCells_at : ∀ (bs : List (Value × List Int × SetL)) (j : Nat) (hj : j < bs.length) (i : Nat), i < 6 → (begCells bs)[j * 6 + i]? = (begCell bs[j])[i]?
  | b :: bs, 0, hj, i, hi => by
    simp only [begCells, List.flatMap_cons, Nat.zero_mul, Nat.zero_add, List.getElem_cons_zero]
    rw [List.getElem?_append_left (by simpa [begCell] using hi)]
  | b :: bs, j + 1, hj, i, hi => by
    have := begCells_at bs j (by simpa using hj) i hi
    simp only [begCells, List.flatMap_cons] at this ⊢
    rw [List.getElem?_append_right (by simp [begCell]; omega)]
    simp only [List.getElem_cons_succ]
    rw [← this]
    congr 1
    simp [begCell]; omega

/-- A value that is a slice of these beginnings. -/
def Begs (w : World) (v : Value) (L : List (List Int × SetL)) : Prop :=
  ∃ a len cap, v = .slice a len cap ∧ L.length = len ∧ Shape a len cap ∧ ∀ j (hj : j < L.length), ∃ b off u, a = some ⟨b, off, none⟩ ∧ b < w.heap.size ∧ w.cell? ⟨b, off + j * 6, none⟩ = some u ∧ Ints w u L[j].1 ∧ SetC w b (off + j * 6 + 1) L[j].2
theorem Begs.below {w w' : World} {v : Value} {L : List (List Int × SetL)} (h : Begs w v L) (hb : Below w.heap.size w w') : Begs w' v L := by
  obtain ⟨a, len, cap, e, hl, hs, hr⟩ := h
  refine ⟨a, len, cap, e, hl, hs, fun j hj => ?_⟩
  obtain ⟨b, off, u, h1, h2, h3, h4, h5⟩ := hr j hj
  exact ⟨b, off, u, h1, Nat.lt_of_lt_of_le h2 hb.size, (hb.cell (p := ⟨b, _, none⟩) h2).trans h3, h4.below hb, h5.below hb⟩
theorem Begs.at {w : World} {a : Option Addr} {len cap : Nat} {L : List (List Int × SetL)} (h : Begs w (.slice a len cap) L) {j : Nat} (hj : j < L.length) : ∃ b off u, a = some ⟨b, off, none⟩ ∧ b < w.heap.size ∧ w.cell? ⟨b, off + j * 6, none⟩ = some u ∧ Ints w u L[j].1 ∧ SetC w b (off + j * 6 + 1) L[j].2 := by
  obtain ⟨a', len', cap', e, hl, hs, hr⟩ := h
  injection e with e1 e2 e3
  subst e1 e2 e3
  exact hr j hj
theorem Begs.slice {w : World} {v : Value} {L : List (List Int × SetL)} (h : Begs w v L) : ∃ a cap, v = .slice a L.length cap := by
  obtain ⟨a, len, cap, e, hl, hs, hr⟩ := h
  exact ⟨a, cap, by rw [e, hl]⟩

/-- Beginnings that the call itself lists; their words lie elsewhere. -/
structure BegOut (B : Nat) (w0 wr : World) (v : Value) (bs : List (Value × List Int × SetL)) : Prop where
  own : wr.ownsRow B 104 6 v bs.length (begCells bs)
  below : Below B w0 wr
  size : B ≤ wr.heap.size
  row : ∀ j (hj : j < bs.length), On (fun k => B ≤ k ∧ some k ≠ v.ownBlock) wr (fun w' => Ints w' bs[j].1 bs[j].2.1)

theorem BegOut.start {w : World} (B : Nat) {w0 : World} (hb : Below B w0 w) (hB : B ≤ w.heap.size) : BegOut B w0 w (.slice none 0 0) [] := ⟨World.ownsRow_nil _ _ _ _, hb, hB, fun j hj => absurd hj (by simp)⟩
theorem BegOut.to {B : Nat} {w0 wr w' : World} {v : Value} {bs : List (Value × List Int × SetL)} (h : BegOut B w0 wr v bs) (hb : Below wr.heap.size wr w') : BegOut B w0 w' v bs :=
  ⟨((ownsRow_on h.own).below hb).now, h.below.trans (hb.mono h.size), Nat.le_trans h.size hb.size, fun j hj => (h.row j hj).below hb⟩
theorem BegOut.step {B : Nat} {w0 wr wB wC W : World} {v v' c : Value} {bs : List (Value × List Int × SetL)} {xs : List Int} {q : SetL} (h : BegOut B w0 wr v bs)
    (hb : Below wr.heap.size wr wB) (k1 : On (fun k => wr.heap.size ≤ k) wB (fun w' => Ints w' c xs)) (hW : Below wB.heap.size wB W)
    (hown : wC.ownsRow B 104 6 v' (bs.length + 1) (begCells bs ++ begCell (c, xs, q))) (hg : W.grownBy wC v.ownBlock)
    (hat : v'.ownBlock = v.ownBlock ∨ v'.ownBlock = some W.heap.size) : BegOut B w0 wC v' (bs ++ [(c, xs, q)]) := by
  have g := h.to (hb.trans (hW.mono hb.size))
  have hov : ∀ k, v.ownBlock = some k → B ≤ k ∧ k < wr.heap.size := fun k hk => ownsRow_lt h.own hk
  have s1 := hb.size
  have s2 := hW.size
  have keep : ∀ {R : World → Prop}, On (fun k => B ≤ k ∧ some k ≠ v.ownBlock) W R → On (fun k => B ≤ k ∧ some k ≠ v'.ownBlock) wC R := by
    intro R hR w2 hs hk
    refine hR w2 (Nat.le_trans hg.size hs) fun k hlt ⟨hkx, hkr⟩ => ?_
    have hk' : some k ≠ v'.ownBlock := by
      rcases hat with e | e <;> rw [e]
      · exact hkr
      · simp; omega
    rw [hk k (Nat.lt_of_lt_of_le hlt hg.size) ⟨hkx, hk'⟩]
    exact hg.block k hlt hkr
  have hB := h.size
  refine ⟨?_, ?_, Nat.le_trans g.size hg.size, fun j hj => ?_⟩
  · rw [begCells_append, List.length_append]
    simpa [begCells] using hown
  · exact g.below.grown hg g.size (fun k hk => (hov k hk).1)
  · by_cases hjl : j < bs.length
    · rw [List.getElem_append_left hjl]
      exact keep (g.row j hjl)
    · have e : j = bs.length := by simp at hj; omega
      subst e
      rw [List.getElem_append_right (Nat.le_refl _)]
      simp only [Nat.sub_self, List.getElem_cons_zero]
      refine keep ((k1.below hW).weaken fun k hlt hk => ⟨by omega, fun e => ?_⟩)
      have := hov k e.symm
      omega
/-- The same, with where the words lie. -/
def BegsV (w : World) (v : Value) (bs : List (Value × List Int × SetL)) : Prop :=
  ∃ a len cap, v = .slice a len cap ∧ bs.length = len ∧ Shape a len cap ∧ ∀ j (hj : j < bs.length), ∃ b off, a = some ⟨b, off, none⟩ ∧ b < w.heap.size ∧ w.cell? ⟨b, off + j * 6, none⟩ = some bs[j].1 ∧ Ints w bs[j].1 bs[j].2.1 ∧ SetC w b (off + j * 6 + 1) bs[j].2.2
theorem BegsV.begs {w : World} {v : Value} {bs : List (Value × List Int × SetL)} (h : BegsV w v bs) : Begs w v (bs.map (·.2)) := by
  obtain ⟨a, len, cap, e, hl, hs, hr⟩ := h
  refine ⟨a, len, cap, e, by simpa using hl, hs, fun j hj => ?_⟩
  obtain ⟨b, off, h1, h2, h3, h4, h5⟩ := hr j (by simpa using hj)
  exact ⟨b, off, _, h1, h2, h3, by simpa using h4, by simpa using h5⟩
theorem BegsV.at {w : World} {a : Option Addr} {len cap : Nat} {bs : List (Value × List Int × SetL)} (h : BegsV w (.slice a len cap) bs) {j : Nat} (hj : j < bs.length) : ∃ b off, a = some ⟨b, off, none⟩ ∧ b < w.heap.size ∧ w.cell? ⟨b, off + j * 6, none⟩ = some bs[j].1 ∧ Ints w bs[j].1 bs[j].2.1 ∧ SetC w b (off + j * 6 + 1) bs[j].2.2 := by
  obtain ⟨a', len', cap', e, hl, hs, hr⟩ := h
  injection e with e1 e2 e3
  subst e1 e2 e3
  exact hr j hj
theorem BegsV.slice {w : World} {v : Value} {bs : List (Value × List Int × SetL)} (h : BegsV w v bs) : ∃ a cap, v = .slice a bs.length cap := by
  obtain ⟨a, len, cap, e, hl, hs, hr⟩ := h
  exact ⟨a, cap, by rw [e, hl]⟩
theorem BegOut.begsV {B : Nat} {w0 wr : World} {v : Value} {bs : List (Value × List Int × SetL)} (h : BegOut B w0 wr v bs) : On (fun k => B ≤ k) wr (fun w' => BegsV w' v bs) := by
  intro w' hs hk
  have hown := ((ownsRow_on h.own) w' hs fun k hlt hD => hk k hlt hD.2)
  have hrow : ∀ j (hj : j < bs.length), Ints w' bs[j].1 bs[j].2.1 := fun j hj => (h.row j hj) w' hs fun k hlt hD => hk k hlt hD.1
  have hown0 := hown
  obtain ⟨_, hcase⟩ := hown
  rcases hcase with ⟨rfl, h0⟩ | ⟨g, cap', cur, rfl, hg, hh, hn, hcap, hsz, htake⟩
  · have e : bs = [] := List.length_eq_zero_iff.1 h0
    subst e
    exact ⟨none, 0, 0, rfl, rfl, ⟨by omega, by omega, fun _ => rfl⟩, fun j hj => absurd hj (by simp)⟩
  · refine ⟨_, _, _, rfl, by simp, ⟨hn, by unfold maxLen at hcap; omega, fun h => by cases h⟩, fun j hj => ?_⟩
    have hj' : j < bs.length := by simpa using hj
    have hlt : g < w'.heap.size := (Array.getElem?_eq_some_iff.1 hh).1
    have cell : ∀ i, i < 6 → w'.cell? ⟨g, j * 6 + i, none⟩ = (begCell bs[j])[i]? := fun i hi => by
      rw [hown0.cellAt (j * 6 + i) (by omega)]
      exact begCells_at bs j hj' i hi
    refine ⟨g, 0, rfl, hlt, ?_, ?_, ⟨hlt, ?_, ?_, ?_, ?_, ?_⟩⟩
    · have := cell 0 (by omega); simpa [begCell] using this
    · exact hrow j hj'
    · have := cell 1 (by omega); simpa [begCell] using this
    · have := cell 2 (by omega); simpa [begCell, Nat.add_assoc] using this
    · have := cell 3 (by omega); simpa [begCell, Nat.add_assoc] using this
    · have := cell 4 (by omega); simpa [begCell, Nat.add_assoc] using this
    · have := cell 5 (by omega); simpa [begCell, Nat.add_assoc] using this

theorem info_begun : (Tryd.prog.info? 104).map (fun i => (i.zero, i.size, i.bytes)) = some (some (.agg #[.slice none 0 0, .int .u64 0, .int .u64 0, .int .u64 0, .int .u64 0, .int .u64 0]), 6, 64) := by kernel_rfl

theorem wpr_append_beg {o : Oper} {a : Act} {K : Act → World → Prop} {Q : Exit → Act → World → Prop} {Y : Nat → Option Bool} (hwt : Region.wanted o Y = true) (s x : Operand)
    (ho : o.op = .call { callee := .builtin .append, args := #[s, x], argTypes := #[101, 101] }) (B : Nat) (wr : World) (v : Value) (bs : List (Value × List Int × SetL))
    (a1 : Option Addr) (l1 p1 : Nat) (xs : List Int) (q : SetL) (hown : wr.ownsRow B 104 6 v bs.length (begCells bs))
    (hs : a.eval s = v) (hx : a.eval x = .slice (some ⟨wr.heap.size, 0, none⟩) 1 1) (hl : bs.length + 1 ≤ 1000000) (hB : B ≤ wr.heap.size)
    (h : ∀ v' w', w'.ownsRow B 104 6 v' (bs.length + 1) (begCells bs ++ begCell (.slice a1 l1 p1, xs, q)) → (wr.alloc (.cells #[.slice a1 l1 p1, .int .u64 (q.at_ 0 : Nat), .int .u64 (q.at_ 1 : Nat), .int .u64 (q.at_ 2 : Nat), .int .u64 (q.at_ 3 : Nat), .int .u64 (q.at_ 4 : Nat)] 104)).grownBy w' v.ownBlock →
      (v'.ownBlock = v.ownBlock ∨ v'.ownBlock = some (wr.alloc (.cells #[.slice a1 l1 p1, .int .u64 (q.at_ 0 : Nat), .int .u64 (q.at_ 1 : Nat), .int .u64 (q.at_ 2 : Nat), .int .u64 (q.at_ 3 : Nat), .int .u64 (q.at_ 4 : Nat)] 104)).heap.size) → K (a.put o.dst v') w') :
    if Region.wanted o Y = true then Oper.wp Tryd.prog o a (wr.alloc (.cells #[.slice a1 l1 p1, .int .u64 (q.at_ 0 : Nat), .int .u64 (q.at_ 1 : Nat), .int .u64 (q.at_ 2 : Nat), .int .u64 (q.at_ 3 : Nat), .int .u64 (q.at_ 4 : Nat)] 104)) K Q else K (a.put o.dst undef) (wr.alloc (.cells #[.slice a1 l1 p1, .int .u64 (q.at_ 0 : Nat), .int .u64 (q.at_ 1 : Nat), .int .u64 (q.at_ 2 : Nat), .int .u64 (q.at_ 3 : Nat), .int .u64 (q.at_ 4 : Nat)] 104)) := by
  obtain ⟨i0, hi, hz0, hz1, hz2⟩ := info_parts info_begun
  refine wp_append_at _ hwt s x 101 ho B 104 i0 _ 6 64 Tryd.underlying101 hi hz0 hz1 hz2 rfl (by decide) v bs.length _ hs (hown.alloc _) ⟨wr.heap.size, 0, none⟩ 1 1 (begCell (.slice a1 l1 p1, xs, q)) hx rfl ?_ ?_ ?_ ?_ ?_ h
  · intro j u hj
    rw [addr_add, World.cell?_alloc_at _ _ _ _ rfl]
    match j, hj with
    | 0, hj => simpa [begCell] using hj
    | 1, hj => simpa [begCell] using hj
    | 2, hj => simpa [begCell] using hj
    | 3, hj => simpa [begCell] using hj
    | 4, hj => simpa [begCell] using hj
    | 5, hj => simpa [begCell] using hj
  · intro u hu
    simp only [begCell, List.mem_cons, List.not_mem_nil, or_false] at hu
    rcases hu with rfl | rfl | rfl | rfl | rfl | rfl <;> rfl
  · unfold maxLen; omega
  · omega
  · simp; omega

end Go.Proofs.YteoofibhpifmlaaDoor

/- Package tongue as it landed: longer. -/
namespace Go.Proofs.YteoofibhpifmlaaDoor
open Go.RowKit Go.Shelf
set_option linter.unusedVariables false
set_option linter.unusedSimpArgs false
set_option maxRecDepth 4000

/-- append of all of another slice, inside a region that draws its order. -/
theorem wpr_app_ints {o : Oper} {a : Act} {K : Act → World → Prop} {Q : Exit → Act → World → Prop} {Y : Nat → Option Bool} (hwt : Region.wanted o Y = true) (s x : Operand)
    (ho : o.op = .call { callee := .builtin .append, args := #[s, x], argTypes := #[25, 25] }) (B : Nat) (w wr : World) (v : Value) (ad : Addr) (m c : Nat) (zs ys : List Int) (hG : Own B w wr v zs)
    (hs : a.eval s = v) (hx : a.eval x = .slice (some ad) m c) (hu : Ints wr (.slice (some ad) m c) ys) (hl : zs.length + ys.length ≤ 17592186044416)
    (h : ∀ v' w', Own B w w' v' (zs ++ ys) → K (a.put o.dst v') w') :
    if Region.wanted o Y = true then Oper.wp Tryd.prog o a wr K Q else K (a.put o.dst undef) wr := by
  obtain ⟨i0, hi, hz0, hz1, hz2⟩ := info_parts info_int
  obtain ⟨ax, len, cap, e, hlen, hmx, hsh, hr⟩ := hu
  injection e with e1 e2 e3
  subst e1 e2 e3
  obtain ⟨hown, hb, hB⟩ := hG
  refine wp_append_at _ hwt s x 25 ho B 3 i0 (.int .i64 0) 1 8 Tryd.underlying25 hi hz0 hz1 hz2 rfl (by decide) v zs.length _ hs hown ad m c (ys.map (Value.int .i64)) hx (by simp [hlen]) ?_ ?_ ?_ ?_ hB ?_
  · intro j u hj
    have hjl : j < ys.length := by
      rcases Nat.lt_or_ge j ys.length with h1 | h1
      · exact h1
      · rw [List.getElem?_eq_none (by simpa using h1)] at hj; cases hj
    obtain ⟨b, off, e, hlt, hc⟩ := hr j hjl
    injection e with e
    subst e
    rw [addr_add, hc]
    simp [List.getElem?_eq_getElem hjl] at hj
    subst hj
    simp [nth, List.getD, List.getElem?_eq_getElem hjl]
  · intro u hu
    obtain ⟨z, _, rfl⟩ := List.mem_map.1 hu
    rfl
  · unfold maxLen; omega
  · omega
  · intro v' w' hown' hgrow _
    exact h v' w' ⟨by simpa [hlen] using hown', hb.grown hgrow hB (fun k hk => (hown.lt k hk).1), Nat.le_trans hB hgrow.size⟩

theorem own_apart {v v' : Value} {b m : Nat} (hat : v'.ownBlock = v.ownBlock ∨ v'.ownBlock = some m) (h : some b ≠ v.ownBlock) (hb : b < m) : some b ≠ v'.ownBlock := by
  rcases hat with e | e
  · rw [e]; exact h
  · rw [e]; simp; omega

/-- A beginning in a box of its own. -/
def BegBox (w : World) (b : Nat) (u : Value) (q : SetL) : Prop := w.heap[b]? = some (.cells #[u, .int .u64 (q.at_ 0 : Nat), .int .u64 (q.at_ 1 : Nat), .int .u64 (q.at_ 2 : Nat), .int .u64 (q.at_ 3 : Nat), .int .u64 (q.at_ 4 : Nat)] 104 (0, 0))
theorem BegBox.cells {w : World} {b : Nat} {u : Value} {q : SetL} (h : BegBox w b u q) : w.cell? ⟨b, 0, none⟩ = some u ∧ w.cell? ⟨b, 1, none⟩ = some (.int .u64 (q.at_ 0 : Nat)) ∧ w.cell? ⟨b, 2, none⟩ = some (.int .u64 (q.at_ 1 : Nat)) ∧ w.cell? ⟨b, 3, none⟩ = some (.int .u64 (q.at_ 2 : Nat)) ∧ w.cell? ⟨b, 4, none⟩ = some (.int .u64 (q.at_ 3 : Nat)) ∧ w.cell? ⟨b, 5, none⟩ = some (.int .u64 (q.at_ 4 : Nat)) := by
  unfold BegBox at h
  refine ⟨?_, ?_, ?_, ?_, ?_, ?_⟩ <;> simp [World.cell?, h]
theorem BegBox.below {w w' : World} {b : Nat} {u : Value} {q : SetL} (h : BegBox w b u q) (hb : Below w.heap.size w w') : BegBox w' b u q := (hb.block b (Array.getElem?_eq_some_iff.1 h).1).trans h
theorem BegBox.lt {w : World} {b : Nat} {u : Value} {q : SetL} (h : BegBox w b u q) : b < w.heap.size := (Array.getElem?_eq_some_iff.1 h).1

set_option maxRecDepth 100000 in
set_option maxHeartbeats 8000000 in
theorem longer_any (T bn : Nat) (lv bv : Value) (t : TalkL) (n : NetL) (S E : List Int) (s : SpaceL) (most : Int) (k : Nat) (L : List (List Int × SetL)) (w : World) (hT : TalkAt w T bn lv t) (hTab : Tab w) (hW : Whole n S s) (hN : s.marks.length ≤ 300) (hok : netOk n = true) (hTk : TalkOk n s E t) (hm : 0 ≤ most ∧ most ≤ 8)
    (hLv : Level n s E t most k L) (hk8 : (k : Int) ≤ most) (hLl : L.length ≤ 400) (hB : Begs w bv L) :
    Calls Tryd.prog 51 #[.pointer (some ⟨T, 0, none⟩), bv, .int .i64 (most - k - 1)] w fun e w' => ∃ r bs, e = .returned r ∧ On (fun j => w.heap.size ≤ j) w' (fun w'' => BegsV w'' r bs) ∧ Level n s E t most (k + 1) (bs.map (·.2)) ∧ bs.length ≤ 10400 ∧ Below w.heap.size w w' := by
  obtain ⟨ab, cb, rfl⟩ := hB.slice
  obtain ⟨lb, Hlb⟩ : ∃ lb, Hid (L.length = lb) := ⟨_, rfl⟩
  have hlb : lb ≤ 400 := by rw [← Hlb.out]; exact hLl
  rw [Hlb.out] at hB ⊢
  have hsz := hTk.size
  have hn0 : 0 < t.n := by rw [hsz]; exact hW.here.1
  go_enter Tryd.func51, Tryd.ntmps51
  go_wp2_with fail
  refine (near_any T bn lv t (most - k - 1) w hT hn0).mono ?_
  rintro e w1 ⟨nr, rfl, hnr, b1⟩
  have a2 := setAt_new w1 nr
  have b2 := below_new w1 (.cells (setC nr) 48)
  obtain ⟨w2, Hw2⟩ : ∃ w2, Hid (w1.alloc (.cells (setC nr) 48) = w2) := ⟨_, rfl⟩
  rw [Hw2.out] at a2 b2
  have e2 : w1.alloc (.cells #[.int .u64 (nr.at_ 0 : Nat), .int .u64 (nr.at_ 1 : Nat), .int .u64 (nr.at_ 2 : Nat), .int .u64 (nr.at_ 3 : Nat), .int .u64 (nr.at_ 4 : Nat)] 48) = w2 := Hw2.out
  have He2 : Hid _ := e2
  clear Hw2 e2
  have c := below_then b1 b2
  obtain ⟨nb, Hnb⟩ : ∃ nb, Hid (w1.heap.size = nb) := ⟨_, rfl⟩
  have hnb0 : w.heap.size ≤ nb := by rw [← Hnb.out]; exact b1.size
  rw [Hnb.out] at a2
  clear b1 b2
  go_upto_region 2 with fail
  rw [He2.out, Hnb.out]
  clear He2 Hnb
  go_wp2_with fail
  go_loopg [8, 18] lb (fun g v x wr => ∃ (i : Nat) (bs : List (Value × List Int × SetL)), i + g = lb ∧ x = .int .i64 (i : Int) ∧ BegOut w.heap.size w wr v bs ∧ NextL n s E t most k L i 1 (bs.map (·.2)) ∧ SetAt wr nb nr ∧ some nb ≠ v.ownBlock)
  case atStart => exact ⟨0, [], by omega, rfl, BegOut.start _ c c.size, NextL.start, a2, by simp [Value.ownBlock]⟩
  case round =>
    clear a2 c
    obtain ⟨i, bs, hig, rfl, hO, hX, hNr, hnb1⟩ := hrel
    obtain ⟨g1, rfl⟩ : ∃ g1, g1 = gk := ⟨_, rfl⟩
    by_cases hi : i < lb
    · have hi' : decide ((i : Int) < (lb : Int)) = true := by rw [decide_eq_true_eq]; omega
      have hiL : i < L.length := by rw [Hlb.out]; exact hi
      obtain ⟨b0, o0, u0, rfl, hb0, d0, hu0, hq0⟩ := (hB.below hO.below).at hiL
      obtain ⟨_, d1, d2', d3', d4', d5'⟩ := hq0
      have d2 : wr.cell? ⟨b0, o0 + i * 6 + 2, none⟩ = _ := d2'
      have d3 : wr.cell? ⟨b0, o0 + i * 6 + 3, none⟩ = _ := d3'
      have d4 : wr.cell? ⟨b0, o0 + i * 6 + 4, none⟩ = _ := d4'
      have d5 : wr.cell? ⟨b0, o0 + i * 6 + 5, none⟩ = _ := d5'
      clear d2' d3' d4' d5'
      obtain ⟨X, HX⟩ : ∃ X, Hid (L[i] = X) := ⟨L[i], (rfl : L[i] = L[i])⟩
      rw [HX.out] at hu0 d1 d2 d3 d4 d5
      obtain ⟨xa, xl, xc, rfl, _⟩ := id hu0
      have hXat : AtN n s t most X.1 X.2 := by rw [← HX.out]; exact hLv.at_ _ (List.getElem_mem hiL)
      have hXk : X.1.length = k := by rw [← HX.out]; exact ((hLv.mem _).1 (List.mem_map_of_mem (List.getElem_mem hiL))).1
      have bx := below_new wr (.cells #[.slice xa xl xc, .int .u64 (X.2.at_ 0 : Nat), .int .u64 (X.2.at_ 1 : Nat), .int .u64 (X.2.at_ 2 : Nat), .int .u64 (X.2.at_ 3 : Nat), .int .u64 (X.2.at_ 4 : Nat)] 104)
      have hx1 : BegBox (wr.alloc (.cells #[.slice xa xl xc, .int .u64 (X.2.at_ 0 : Nat), .int .u64 (X.2.at_ 1 : Nat), .int .u64 (X.2.at_ 2 : Nat), .int .u64 (X.2.at_ 3 : Nat), .int .u64 (X.2.at_ 4 : Nat)] 104)) wr.heap.size (.slice xa xl xc) X.2 := heap_alloc_at _ _
      obtain ⟨wr1, Hwr1⟩ : ∃ wr1, Hid (wr.alloc (.cells #[.slice xa xl xc, .int .u64 (X.2.at_ 0 : Nat), .int .u64 (X.2.at_ 1 : Nat), .int .u64 (X.2.at_ 2 : Nat), .int .u64 (X.2.at_ 3 : Nat), .int .u64 (X.2.at_ 4 : Nat)] 104) = wr1) := ⟨_, rfl⟩
      rw [Hwr1.out] at bx hx1
      have hO1 := hO.to bx
      have hN1 := hNr.below bx
      obtain ⟨xb, Hxb⟩ : ∃ xb, Hid (wr.heap.size = xb) := ⟨_, rfl⟩
      have hxo : some xb ≠ u8.ownBlock := fun e => by have := ownsRow_lt hO.own e.symm; have := Hxb.out; omega
      have hxB : w.heap.size ≤ xb := by rw [← Hxb.out]; exact hO.size
      rw [Hxb.out] at hx1
      go_upto_region 6 with fail
      rw [Hwr1.out, Hxb.out]
      have Hu0 : Hid (∀ w8 : World, Below w.heap.size w w8 → Ints w8 (.slice xa xl xc) X.1) := fun w8 hb8 => by
        obtain ⟨b0', o0', u0', e0, hb0', d0', hu0', _⟩ := hB.at hiL
        injection e0 with e0
        injection e0 with e0 e1
        subst e0 e1
        have e2 := (hO.below.cell (p := ⟨b0, o0 + i * 6, none⟩) hb0').trans d0'
        rw [d0] at e2
        injection e2 with e2
        rw [HX.out] at hu0'
        rw [e2]
        exact hu0'.below hb8
      clear Hwr1 d0 d1 d2 d3 d4 d5 hO hNr hu0
      go_wp2_with fail
      go_loopg [8, 11] 27 (fun g v x wq => ∃ (c : Nat) (bs : List (Value × List Int × SetL)), c + g = 28 ∧ 1 ≤ c ∧ c ≤ 27 ∧ x = .int .i64 (c : Int) ∧ BegOut w.heap.size w wq v bs ∧ NextL n s E t most k L i c (bs.map (·.2)) ∧ SetAt wq nb nr ∧ some nb ≠ v.ownBlock ∧ BegBox wq xb (.slice xa xl xc) X.2 ∧ some xb ≠ v.ownBlock)
      case atStart => exact ⟨1, bs, by omega, by omega, by omega, rfl, hO1, hX, hN1, hnb1, hx1, hxo⟩
      case round =>
        clear hO1 hX hN1 hnb1 hx1 hxo bs
        obtain ⟨c, bs, hcg, hc1, hc27, rfl, hO, hX, hNr, hnb1, hx1, hxo⟩ := hrel
        obtain ⟨wq, rfl⟩ : ∃ wq, wq = wr := ⟨_, rfl⟩
        by_cases hc26 : c ≤ 26
        · have hc' : decide ((c : Int) ≤ 26) = true := by rw [decide_eq_true_eq]; omega
          have hXn : ∀ m, m < 320 → X.2.has m = true → m < t.n := fun m h1 h2 => by rw [hsz]; exact hXat.lt hW m h1 h2
          have Hnx : Hid (∀ u1, BehindT t X.2 (c : Int) u1 → AtN n s t most (X.1 ++ [(c : Int)]) (andS u1 nr)) := fun u1 h1 => hXat.next hW hN hok hTk h1 (by rw [hXk]; exact hnr)
          obtain ⟨xq, Hxq⟩ : ∃ xq, Hid (X.2 = xq) := ⟨_, rfl⟩
          rw [Hxq.out] at hx1 hXn Hnx
          have Hall : Hid (∀ w' : World, Below wq.heap.size wq w' → (fun w' => (w'.cell? ⟨xb, 1, none⟩ = some (.int .u64 (xq.at_ 0 : Nat)) ∧ w'.cell? ⟨xb, 2, none⟩ = some (.int .u64 (xq.at_ 1 : Nat)) ∧ w'.cell? ⟨xb, 3, none⟩ = some (.int .u64 (xq.at_ 2 : Nat)) ∧ w'.cell? ⟨xb, 4, none⟩ = some (.int .u64 (xq.at_ 3 : Nat)) ∧ w'.cell? ⟨xb, 5, none⟩ = some (.int .u64 (xq.at_ 4 : Nat))) ∧ w'.cell? ⟨nb, 0, none⟩ = some (.int .u64 (nr.at_ 0 : Nat)) ∧ w'.cell? ⟨nb, 1, none⟩ = some (.int .u64 (nr.at_ 1 : Nat)) ∧ w'.cell? ⟨nb, 2, none⟩ = some (.int .u64 (nr.at_ 2 : Nat)) ∧ w'.cell? ⟨nb, 3, none⟩ = some (.int .u64 (nr.at_ 3 : Nat)) ∧ w'.cell? ⟨nb, 4, none⟩ = some (.int .u64 (nr.at_ 4 : Nat))) w') := fun w' hb => by
            obtain ⟨_, y1, y2, y3, y4, y5⟩ := (hx1.below hb).cells
            obtain ⟨_, r0, r1, r2, r3, r4⟩ := (hNr.below hb).c
            simp only [Nat.zero_add] at r1 r2 r3 r4
            exact ⟨⟨y1, y2, y3, y4, y5⟩, r0, r1, r2, r3, r4⟩
          have hdr : Below wq.heap.size wq wq.drew := (Below.refl _ _).drew
          go_upto_region 9 with fail
          go_cut [12] (fun p wc => ∃ sb q, p = .pointer (some ⟨sb, 0, none⟩) ∧ SetAt wc sb q ∧ AtN n s t most (X.1 ++ [(c : Int)]) q ∧ wq.heap.size ≤ sb ∧ Below wq.heap.size wq wc)
          case first =>
            refine wp_region_held_drew (S := (fun w' => (w'.cell? ⟨xb, 1, none⟩ = some (.int .u64 (xq.at_ 0 : Nat)) ∧ w'.cell? ⟨xb, 2, none⟩ = some (.int .u64 (xq.at_ 1 : Nat)) ∧ w'.cell? ⟨xb, 3, none⟩ = some (.int .u64 (xq.at_ 2 : Nat)) ∧ w'.cell? ⟨xb, 4, none⟩ = some (.int .u64 (xq.at_ 3 : Nat)) ∧ w'.cell? ⟨xb, 5, none⟩ = some (.int .u64 (xq.at_ 4 : Nat))) ∧ w'.cell? ⟨nb, 0, none⟩ = some (.int .u64 (nr.at_ 0 : Nat)) ∧ w'.cell? ⟨nb, 1, none⟩ = some (.int .u64 (nr.at_ 1 : Nat)) ∧ w'.cell? ⟨nb, 2, none⟩ = some (.int .u64 (nr.at_ 2 : Nat)) ∧ w'.cell? ⟨nb, 3, none⟩ = some (.int .u64 (nr.at_ 3 : Nat)) ∧ w'.cell? ⟨nb, 4, none⟩ = some (.int .u64 (nr.at_ 4 : Nat)))) (by kernel_rfl) (Hall.out _ hdr) (fun hH => ?_)
            refine wpAnyH_take (i := 0) rfl (by kernel_rfl) (by kernel_rfl) (by kernel_rfl) (fun _ _ _ h => h) (.inl ⟨by rfl, fun _ _ => rfl⟩) hH ?_
            simp only [List.getElem_toArray, List.getElem_cons_succ, List.getElem_cons_zero, Act.put, List.setIfInBounds_toArray, List.set_cons_zero, List.set_cons_succ]
            refine wpAnyH_take (i := 1) (v := .pointer (some ⟨xb, 1, none⟩)) rfl (by kernel_rfl) (by kernel_rfl) (by kernel_rfl) (fun _ _ _ h => h) (.inl ⟨by rfl, fun w' hS' => by first | (go_simp; done) | (go_simp; rfl) | (go_simp; intro h; omega)⟩) hH ?_
            simp only [List.getElem_toArray, List.getElem_cons_succ, List.getElem_cons_zero, Act.put, List.setIfInBounds_toArray, List.set_cons_zero, List.set_cons_succ]
            refine wpAnyH_take (i := 2) (v := setV xq) rfl (by kernel_rfl) (by kernel_rfl) (by kernel_rfl) (fun _ _ _ h => h) (.inl ⟨by rfl, fun w' hS' => by obtain ⟨⟨x0, x1, x2, x3, x4⟩, n0, n1, n2, n3, n4⟩ := hS'; go_simp⟩) hH ?_
            simp only [List.getElem_toArray, List.getElem_cons_succ, List.getElem_cons_zero, Act.put, List.setIfInBounds_toArray, List.set_cons_zero, List.set_cons_succ]
            refine wpAnyH_take (i := 3) rfl (by kernel_rfl) (by kernel_rfl) (by kernel_rfl) (fun _ _ _ h => h) (.inl ⟨by rfl, fun _ _ => rfl⟩) hH ?_
            simp only [List.getElem_toArray, List.getElem_cons_succ, List.getElem_cons_zero, Act.put, List.setIfInBounds_toArray, List.set_cons_zero, List.set_cons_succ]
            refine wpAnyH_take (i := 5) (v := setV nr) rfl (by kernel_rfl) (by kernel_rfl) (by kernel_rfl) (fun _ _ _ h => h) (.inl ⟨by rfl, fun w' hS' => by obtain ⟨⟨x0, x1, x2, x3, x4⟩, n0, n1, n2, n3, n4⟩ := hS'; go_simp⟩) hH ?_
            simp only [List.getElem_toArray, List.getElem_cons_succ, List.getElem_cons_zero, Act.put, List.setIfInBounds_toArray, List.set_cons_zero, List.set_cons_succ]
            refine wpAnyH_ready (rs := [4, 7]) (by kernel_rfl) (by simp) ?_
            refine AllReadyH.cons rfl (fun K hK => ?_) (AllReadyH.cons rfl (fun K hK => ?_) AllReadyH.nil)
            · simp only [List.getElem_toArray, List.getElem_cons_succ, List.getElem_cons_zero]
              rw [if_pos (by rfl)]
              go_wp2_with fail
              refine (tbehind_any T bn lv t xq (c : Int) _ ((hT.below hO.below).below (hdr)) ((hTab.below hO.below).below (hdr)) hXn).mono ?_
              rintro e w4 ⟨u1, rfl, hBe, bw4⟩
              have qw4 := below_then hdr bw4
              refine hK.out _ _ (Hall.out _ qw4) (fun hH => ?_)
              refine wpAnyH_ready (rs := [6, 7]) (by kernel_rfl) (by simp) ?_
              refine AllReadyH.cons rfl (fun K hK => ?_) (AllReadyH.cons rfl (fun K hK => ?_) AllReadyH.nil)
              · simp only [List.getElem_toArray, List.getElem_cons_succ, List.getElem_cons_zero]
                rw [if_pos (by rfl)]
                go_wp2_with fail
                refine (and_any u1 nr _).mono ?_
                rintro e w5 ⟨rfl, bw5⟩
                have qw5 := below_then qw4 bw5
                refine hK.out _ _ (Hall.out _ qw5) (fun hH => ?_)
                refine wpAnyH_ready (rs := [7]) (by kernel_rfl) (by simp) ?_
                refine AllReadyH.cons rfl (fun K hK => ?_) AllReadyH.nil
                simp only [List.getElem_toArray, List.getElem_cons_succ, List.getElem_cons_zero]
                rw [if_pos (by rfl)]
                go_wp2_with fail
                have bw6 := below_new w5 (.cells #[.int .u64 0, .int .u64 0, .int .u64 0, .int .u64 0, .int .u64 0] 48)
                have zw6 : SetAt (w5.alloc (.cells #[.int .u64 0, .int .u64 0, .int .u64 0, .int .u64 0, .int .u64 0] 48)) w5.heap.size noneS := setAt_new w5 noneS
                obtain ⟨w6, Hw6⟩ : ∃ w6, Hid (w5.alloc (.cells #[.int .u64 0, .int .u64 0, .int .u64 0, .int .u64 0, .int .u64 0] 48) = w6) := ⟨_, rfl⟩
                rw [Hw6.out] at bw6 zw6 ⊢
                have qw6 := below_then qw5 bw6
                refine hK.out _ _ (Hall.out _ qw6) (fun hH => ?_)
                have zz : SetAt w6 w5.heap.size noneS := zw6
                obtain ⟨_, p0, p1, p2, p3, p4⟩ := zz.c
                simp only [Nat.zero_add] at p1 p2 p3 p4
                have f0 := zz.frozen 0
                have f1 := zz.frozen 1
                have f2 := zz.frozen 2
                have f3 := zz.frozen 3
                have f4 := zz.frozen 4
                obtain ⟨W5, HW5, hS5, hB5, ho5, hz5⟩ := zz.store (andS u1 nr)
                refine wpAnyH_ready (rs := [8]) (by kernel_rfl) (by simp) ?_
                refine AllReadyH.cons rfl (fun K hK => ?_) AllReadyH.nil
                simp only [List.getElem_toArray, List.getElem_cons_succ, List.getElem_cons_zero]
                rw [if_pos (by rfl)]
                go_wp2_with fail
                rw [HW5.out]
                have q5 : Below wq.heap.size wq W5 := qw6.trans (hB5.mono (by have h1 := qw4.size; have h2 := qw5.size; have h3 := qw6.size; have h4 : wq.drew.heap.size = wq.heap.size := rfl; omega))
                refine hK.out _ _ (Hall.out _ q5) (fun hH => ?_)
                refine wpAnyH_done (by kernel_rfl) ?_ _
                go_wp2_with fail
                go_meet
                exact ⟨_, andS u1 nr, rfl, hS5, Hnx.out u1 hBe, by have h1 := qw4.size; have h2 := qw5.size; have h3 := qw6.size; have h4 : wq.drew.heap.size = wq.heap.size := rfl; omega, q5⟩
              · simp only [List.getElem_toArray, List.getElem_cons_succ, List.getElem_cons_zero]
                rw [if_pos (by rfl)]
                go_wp2_with fail
                have bw5 := below_new w4 (.cells #[.int .u64 0, .int .u64 0, .int .u64 0, .int .u64 0, .int .u64 0] 48)
                have zw5 : SetAt (w4.alloc (.cells #[.int .u64 0, .int .u64 0, .int .u64 0, .int .u64 0, .int .u64 0] 48)) w4.heap.size noneS := setAt_new w4 noneS
                obtain ⟨w5, Hw5⟩ : ∃ w5, Hid (w4.alloc (.cells #[.int .u64 0, .int .u64 0, .int .u64 0, .int .u64 0, .int .u64 0] 48) = w5) := ⟨_, rfl⟩
                rw [Hw5.out] at bw5 zw5 ⊢
                have qw5 := below_then qw4 bw5
                refine hK.out _ _ (Hall.out _ qw5) (fun hH => ?_)
                refine wpAnyH_ready (rs := [6]) (by kernel_rfl) (by simp) ?_
                refine AllReadyH.cons rfl (fun K hK => ?_) AllReadyH.nil
                simp only [List.getElem_toArray, List.getElem_cons_succ, List.getElem_cons_zero]
                rw [if_pos (by rfl)]
                go_wp2_with fail
                refine (and_any u1 nr _).mono ?_
                rintro e w6 ⟨rfl, bw6⟩
                have qw6 := below_then qw5 bw6
                refine hK.out _ _ (Hall.out _ qw6) (fun hH => ?_)
                have zz : SetAt w6 w4.heap.size noneS := zw5.below bw6
                obtain ⟨_, p0, p1, p2, p3, p4⟩ := zz.c
                simp only [Nat.zero_add] at p1 p2 p3 p4
                have f0 := zz.frozen 0
                have f1 := zz.frozen 1
                have f2 := zz.frozen 2
                have f3 := zz.frozen 3
                have f4 := zz.frozen 4
                obtain ⟨W5, HW5, hS5, hB5, ho5, hz5⟩ := zz.store (andS u1 nr)
                refine wpAnyH_ready (rs := [8]) (by kernel_rfl) (by simp) ?_
                refine AllReadyH.cons rfl (fun K hK => ?_) AllReadyH.nil
                simp only [List.getElem_toArray, List.getElem_cons_succ, List.getElem_cons_zero]
                rw [if_pos (by rfl)]
                go_wp2_with fail
                rw [HW5.out]
                have q5 : Below wq.heap.size wq W5 := qw6.trans (hB5.mono (by have h1 := qw4.size; have h2 := qw5.size; have h3 := qw6.size; have h4 : wq.drew.heap.size = wq.heap.size := rfl; omega))
                refine hK.out _ _ (Hall.out _ q5) (fun hH => ?_)
                refine wpAnyH_done (by kernel_rfl) ?_ _
                go_wp2_with fail
                go_meet
                exact ⟨_, andS u1 nr, rfl, hS5, Hnx.out u1 hBe, by have h1 := qw4.size; have h2 := qw5.size; have h3 := qw6.size; have h4 : wq.drew.heap.size = wq.heap.size := rfl; omega, q5⟩
            · simp only [List.getElem_toArray, List.getElem_cons_succ, List.getElem_cons_zero]
              rw [if_pos (by rfl)]
              go_wp2_with fail
              have qw4' : Below wq.heap.size wq (wq.alloc (.cells #[.int .u64 0, .int .u64 0, .int .u64 0, .int .u64 0, .int .u64 0] 48)).drew := (below_new wq (.cells #[.int .u64 0, .int .u64 0, .int .u64 0, .int .u64 0, .int .u64 0] 48)).drew
              have zw4 : SetAt (wq.alloc (.cells #[.int .u64 0, .int .u64 0, .int .u64 0, .int .u64 0, .int .u64 0] 48)).drew wq.heap.size noneS := setAt_new wq noneS
              obtain ⟨w4, Hw4⟩ : ∃ w4, Hid ((wq.alloc (.cells #[.int .u64 0, .int .u64 0, .int .u64 0, .int .u64 0, .int .u64 0] 48)).drew = w4) := ⟨_, rfl⟩
              rw [Hw4.out] at qw4' zw4 ⊢
              have qw4 := qw4'
              refine hK.out _ _ (Hall.out _ qw4) (fun hH => ?_)
              refine wpAnyH_ready (rs := [4]) (by kernel_rfl) (by simp) ?_
              refine AllReadyH.cons rfl (fun K hK => ?_) AllReadyH.nil
              simp only [List.getElem_toArray, List.getElem_cons_succ, List.getElem_cons_zero]
              rw [if_pos (by rfl)]
              go_wp2_with fail
              refine (tbehind_any T bn lv t xq (c : Int) _ ((hT.below hO.below).below (qw4)) ((hTab.below hO.below).below (qw4)) hXn).mono ?_
              rintro e w5 ⟨u1, rfl, hBe, bw5⟩
              have qw5 := below_then qw4 bw5
              refine hK.out _ _ (Hall.out _ qw5) (fun hH => ?_)
              refine wpAnyH_ready (rs := [6]) (by kernel_rfl) (by simp) ?_
              refine AllReadyH.cons rfl (fun K hK => ?_) AllReadyH.nil
              simp only [List.getElem_toArray, List.getElem_cons_succ, List.getElem_cons_zero]
              rw [if_pos (by rfl)]
              go_wp2_with fail
              refine (and_any u1 nr _).mono ?_
              rintro e w6 ⟨rfl, bw6⟩
              have qw6 := below_then qw5 bw6
              refine hK.out _ _ (Hall.out _ qw6) (fun hH => ?_)
              have zz : SetAt w6 wq.heap.size noneS := (zw4.below bw5).below bw6
              obtain ⟨_, p0, p1, p2, p3, p4⟩ := zz.c
              simp only [Nat.zero_add] at p1 p2 p3 p4
              have f0 := zz.frozen 0
              have f1 := zz.frozen 1
              have f2 := zz.frozen 2
              have f3 := zz.frozen 3
              have f4 := zz.frozen 4
              obtain ⟨W5, HW5, hS5, hB5, ho5, hz5⟩ := zz.store (andS u1 nr)
              refine wpAnyH_ready (rs := [8]) (by kernel_rfl) (by simp) ?_
              refine AllReadyH.cons rfl (fun K hK => ?_) AllReadyH.nil
              simp only [List.getElem_toArray, List.getElem_cons_succ, List.getElem_cons_zero]
              rw [if_pos (by rfl)]
              go_wp2_with fail
              rw [HW5.out]
              have q5 : Below wq.heap.size wq W5 := qw6.trans (hB5.mono (by have h4 : wq.drew.heap.size = wq.heap.size := rfl; omega))
              refine hK.out _ _ (Hall.out _ q5) (fun hH => ?_)
              refine wpAnyH_done (by kernel_rfl) ?_ _
              go_wp2_with fail
              go_meet
              exact ⟨_, andS u1 nr, rfl, hS5, Hnx.out u1 hBe, by omega, q5⟩

          obtain ⟨sb, q, rfl, hS, hq, hsb, bC⟩ := hcut
          obtain ⟨w7, rfl⟩ : ∃ w0, w0 = wc := ⟨_, rfl⟩
          obtain ⟨_, p0, p1, p2, p3, p4⟩ := hS.c
          simp only [Nat.zero_add] at p1 p2 p3 p4
          have hsbo : some sb ≠ u8.ownBlock := fun e => by have := ownsRow_lt hO.own e.symm; omega
          have hsome := hq.some (E := E) hW hN (by omega) hTk
          go_wp2_with fail
          refine (empty_any q w7).mono ?_
          rintro e w8 ⟨rfl, b8⟩
          have q8 := below_then bC b8
          have hO8 := hO.to q8
          have hN8 := hNr.below q8
          have hx8 := hx1.below q8
          have hS8 := hS.below b8
          have HeX : Hid (L[i].1 = X.1) := by show _ = _; rw [HX.out]
          clear p0 p1 p2 p3 p4
          cases hem : emptyS q
          · have hb : BeginI n s E most (X.1 ++ [(c : Int)]) := hsome.1 hem
            have Hadd : Hid (NextL n s E t most k L i (c + 1) (bs.map (·.2) ++ [(X.1 ++ [(c : Int)], q)])) := by
              have := hX.add hLv hiL hc1 hc26 (by rw [HeX.out]; exact hb) (q := q) (by rw [HeX.out]; exact hq)
              rw [HeX.out] at this
              exact this
            have hu8 : Ints w8 (.slice xa xl xc) X.1 := Hu0.out w8 hO8.below
            have Hall2 : Hid (∀ w' : World, Below w8.heap.size w8 w' → (fun w' => w'.cell? ⟨xb, 0, none⟩ = some (.slice xa xl xc) ∧ w'.cell? ⟨sb, 0, none⟩ = some (.int .u64 (q.at_ 0 : Nat)) ∧ w'.cell? ⟨sb, 1, none⟩ = some (.int .u64 (q.at_ 1 : Nat)) ∧ w'.cell? ⟨sb, 2, none⟩ = some (.int .u64 (q.at_ 2 : Nat)) ∧ w'.cell? ⟨sb, 3, none⟩ = some (.int .u64 (q.at_ 3 : Nat)) ∧ w'.cell? ⟨sb, 4, none⟩ = some (.int .u64 (q.at_ 4 : Nat))) w') := fun w' hb => by
              obtain ⟨y0, _⟩ := (hx8.below hb).cells
              obtain ⟨_, r0, r1, r2, r3, r4⟩ := (hS8.below hb).c
              simp only [Nat.zero_add] at r1 r2 r3 r4
              exact ⟨y0, r0, r1, r2, r3, r4⟩
            have hdr8 : Below w8.heap.size w8 w8.drew := (Below.refl _ _).drew
            clear hO hNr hx1 hS hsome Hall Hnx
            go_upto_region 11 with fail
            refine wp_region_held_drew (S := (fun w' => w'.cell? ⟨xb, 0, none⟩ = some (.slice xa xl xc) ∧ w'.cell? ⟨sb, 0, none⟩ = some (.int .u64 (q.at_ 0 : Nat)) ∧ w'.cell? ⟨sb, 1, none⟩ = some (.int .u64 (q.at_ 1 : Nat)) ∧ w'.cell? ⟨sb, 2, none⟩ = some (.int .u64 (q.at_ 2 : Nat)) ∧ w'.cell? ⟨sb, 3, none⟩ = some (.int .u64 (q.at_ 3 : Nat)) ∧ w'.cell? ⟨sb, 4, none⟩ = some (.int .u64 (q.at_ 4 : Nat)))) (by kernel_rfl) (Hall2.out _ hdr8) (fun hH => ?_)
            refine wpAnyH_take (i := 0) (v := u8) rfl (by kernel_rfl) (by kernel_rfl) (by kernel_rfl) (fun _ _ _ h => h) (.inl ⟨by rfl, fun _ _ => rfl⟩) hH ?_
            simp only [List.getElem_toArray, List.getElem_cons_succ, List.getElem_cons_zero, Act.put, List.setIfInBounds_toArray, List.set_cons_zero, List.set_cons_succ]
            refine wpAnyH_take (i := 1) (v := .pointer (some ⟨xb, 0, none⟩)) rfl (by kernel_rfl) (by kernel_rfl) (by kernel_rfl) (fun _ _ _ h => h) (.inl ⟨by rfl, fun w' hS' => by first | (go_simp; done) | (go_simp; rfl) | (go_simp; intro h; omega)⟩) hH ?_
            simp only [List.getElem_toArray, List.getElem_cons_succ, List.getElem_cons_zero, Act.put, List.setIfInBounds_toArray, List.set_cons_zero, List.set_cons_succ]
            refine wpAnyH_take (i := 2) (v := .slice xa xl xc) rfl (by kernel_rfl) (by kernel_rfl) (by kernel_rfl) (fun _ _ _ h => h) (.inl ⟨by rfl, fun w' hS' => by obtain ⟨x0, n0, n1, n2, n3, n4⟩ := hS'; go_simp⟩) hH ?_
            simp only [List.getElem_toArray, List.getElem_cons_succ, List.getElem_cons_zero, Act.put, List.setIfInBounds_toArray, List.set_cons_zero, List.set_cons_succ]
            refine wpAnyH_take (i := 4) (v := .int .i64 (c : Int)) rfl (by kernel_rfl) (by kernel_rfl) (by kernel_rfl) (fun _ _ _ h => h) (.inl ⟨by rfl, fun _ _ => rfl⟩) hH ?_
            simp only [List.getElem_toArray, List.getElem_cons_succ, List.getElem_cons_zero, Act.put, List.setIfInBounds_toArray, List.set_cons_zero, List.set_cons_succ]
            refine wpAnyH_take (i := 7) (v := setV q) rfl (by kernel_rfl) (by kernel_rfl) (by kernel_rfl) (fun _ _ _ h => h) (.inl ⟨by rfl, fun w' hS' => by obtain ⟨x0, n0, n1, n2, n3, n4⟩ := hS'; go_simp⟩) hH ?_
            simp only [List.getElem_toArray, List.getElem_cons_succ, List.getElem_cons_zero, Act.put, List.setIfInBounds_toArray, List.set_cons_zero, List.set_cons_succ]
            refine wpAnyH_ready (rs := [3, 5]) (by kernel_rfl) (by simp) ?_
            refine AllReadyH.cons rfl (fun K hK => ?_) (AllReadyH.cons rfl (fun K hK => ?_) AllReadyH.nil)
            · simp only [List.getElem_toArray, List.getElem_cons_succ, List.getElem_cons_zero]
              rw [if_pos (by rfl)]
              go_wp2_with fail
              refine (clone_any _ X.1 _ ((hu8.below hdr8))).mono ?_
              rintro e w9 ⟨r, rfl, hOw⟩
              have q9 : Below w8.heap.size w8 w9 := hdr8.trans hOw.2.1
              refine hK.out _ _ (Hall2.out _ q9) (fun hH => ?_)
              refine wpAnyH_ready (rs := [5]) (by kernel_rfl) (by simp) ?_
              refine AllReadyH.cons rfl (fun K hK => ?_) AllReadyH.nil
              simp only [List.getElem_toArray, List.getElem_cons_succ, List.getElem_cons_zero]
              rw [if_pos (by rfl)]
              go_wp2_with fail
              have bi := below_new w9 (.cells #[.int .i64 (c : Int)] 3)
              refine hK.out _ _ (Hall2.out _ (below_then q9 bi)) (fun hH => ?_)
              refine wpAnyH_ready (rs := [6]) (by kernel_rfl) (by simp) ?_
              refine AllReadyH.cons rfl (fun K hK => ?_) AllReadyH.nil
              simp only [List.getElem_toArray, List.getElem_cons_succ, List.getElem_cons_zero]
              refine wpr_append_int (by rfl) _ _ rfl w8.drew.heap.size w8.drew w9 r X.1 (c : Int) hOw rfl rfl (by rw [hXk]; omega) ?_
              intro v1 w10 hV
              have q10 : Below w8.heap.size w8 w10 := hdr8.trans hV.2.1
              have hVon : On (fun k => w8.heap.size ≤ k) w10 (fun w' => Ints w' v1 (X.1 ++ [(c : Int)])) := hV.on (by simp [hXk]; omega)
              obtain ⟨va, vl, vc, rfl⟩ := hV.slice
              refine hK.out _ _ (Hall2.out _ q10) (fun hH => ?_)
              refine wpAnyH_take (i := 8) (v := .agg #[.slice va vl vc, .int .u64 (q.at_ 0 : Nat), .int .u64 (q.at_ 1 : Nat), .int .u64 (q.at_ 2 : Nat), .int .u64 (q.at_ 3 : Nat), .int .u64 (q.at_ 4 : Nat)]) rfl (by kernel_rfl) (by kernel_rfl) (by kernel_rfl) (fun _ _ _ h => h) (.inl ⟨by rfl, fun w' hS' => by first | (go_simp; done) | (go_simp; rfl) | (go_simp; intro h; omega)⟩) hH ?_
              simp only [List.getElem_toArray, List.getElem_cons_succ, List.getElem_cons_zero, Act.put, List.setIfInBounds_toArray, List.set_cons_zero, List.set_cons_succ]
              refine wpAnyH_ready (rs := [9]) (by kernel_rfl) (by simp) ?_
              refine AllReadyH.cons rfl (fun K hK => ?_) AllReadyH.nil
              simp only [List.getElem_toArray, List.getElem_cons_succ, List.getElem_cons_zero]
              rw [if_pos (by rfl)]
              go_wp2_with fail
              have bg := below_new w10 (.cells #[.slice va vl vc, .int .u64 (q.at_ 0 : Nat), .int .u64 (q.at_ 1 : Nat), .int .u64 (q.at_ 2 : Nat), .int .u64 (q.at_ 3 : Nat), .int .u64 (q.at_ 4 : Nat)] 104)
              refine hK.out _ _ (Hall2.out _ (below_then q10 bg)) (fun hH => ?_)
              refine wpAnyH_ready (rs := [10]) (by kernel_rfl) (by simp) ?_
              refine AllReadyH.cons rfl (fun K hK => ?_) AllReadyH.nil
              simp only [List.getElem_toArray, List.getElem_cons_succ, List.getElem_cons_zero]
              refine wpr_append_beg (by rfl) _ _ rfl w.heap.size w10 u8 bs va vl vc (X.1 ++ [(c : Int)]) q (hO8.to q10).own rfl rfl (by have := hX.len; simp only [List.length_map] at this; omega) (hO8.to q10).size ?_
              intro v' w' hown hg hat
              have hOn : BegOut w.heap.size w w' v' (bs ++ [(.slice va vl vc, X.1 ++ [(c : Int)], q)]) := hO8.step q10 (hVon) bg hown hg hat
              have hlt10 := q10.size
              have hblk : ∀ b, b < w8.heap.size → some b ≠ u8.ownBlock → w'.heap[b]? = w8.heap[b]? := fun b h1 h2 => (hg.block b (by simp; omega) h2).trans ((bg.block b (by omega)).trans (q10.block b h1))
              have hx9 : BegBox w' xb (.slice xa xl xc) xq := (hblk xb hx8.lt hxo).trans hx8
              have hn9 : SetAt w' nb nr := (hblk nb hN8.lt hnb1).trans hN8
              have hs9 : SetAt w' sb q := (hblk sb hS8.lt hsbo).trans hS8
              have hxo9 : some xb ≠ v'.ownBlock := own_apart hat hxo (by simp; have := hx8.lt; omega)
              have hno9 : some nb ≠ v'.ownBlock := own_apart hat hnb1 (by simp; have := hN8.lt; omega)
              refine hK.out _ _ ?_ (fun hH => ?_)
              · obtain ⟨y0, _⟩ := hx9.cells
                obtain ⟨_, r0, r1, r2, r3, r4⟩ := hs9.c
                simp only [Nat.zero_add] at r1 r2 r3 r4
                exact ⟨y0, r0, r1, r2, r3, r4⟩
              refine wpAnyH_take (i := 11) rfl (by kernel_rfl) (by kernel_rfl) (by kernel_rfl) (fun _ _ _ h => h) (.inl ⟨by rfl, fun _ _ => rfl⟩) hH ?_
              simp only [List.getElem_toArray, List.getElem_cons_succ, List.getElem_cons_zero, Act.put, List.setIfInBounds_toArray, List.set_cons_zero, List.set_cons_succ]
              refine wpAnyH_done (by kernel_rfl) ?_ _
              have hXn9 : NextL n s E t most k L i (c + 1) ((bs ++ [(Value.slice va vl vc, X.1 ++ [(c : Int)], q)]).map (·.2)) := by rw [List.map_append]; exact Hadd.out
              clear hO8 hN8 hx8 hS8 hX Hall2 hH hown hg hat hblk hs9
              go_wp2
              go_roundg (gk - 1)
              case measure => omega
              case rel => exact ⟨c + 1, _, by omega, by omega, by omega, by go_num, hOn, hXn9, hn9, hno9, by rw [Hxq.out]; exact hx9, hxo9⟩
            · simp only [List.getElem_toArray, List.getElem_cons_succ, List.getElem_cons_zero]
              rw [if_pos (by rfl)]
              go_wp2_with fail
              have bi : Below w8.heap.size w8 (w8.alloc (.cells #[.int .i64 (c : Int)] 3)).drew := (below_new w8 (.cells #[.int .i64 (c : Int)] 3)).drew
              have hi1 : Ints (w8.alloc (.cells #[.int .i64 (c : Int)] 3)).drew (.slice (some ⟨w8.heap.size, 0, none⟩) 1 1) [(c : Int)] := (ints_lit w8 _ [(c : Int)] 3 1 rfl (by omega) rfl).below ((Below.refl _ _).drew)
              obtain ⟨w9, Hw9⟩ : ∃ w9, Hid ((w8.alloc (.cells #[.int .i64 (c : Int)] 3)).drew = w9) := ⟨_, rfl⟩
              rw [Hw9.out] at bi hi1 ⊢
              refine hK.out _ _ (Hall2.out _ bi) (fun hH => ?_)
              refine wpAnyH_ready (rs := [3]) (by kernel_rfl) (by simp) ?_
              refine AllReadyH.cons rfl (fun K hK => ?_) AllReadyH.nil
              simp only [List.getElem_toArray, List.getElem_cons_succ, List.getElem_cons_zero]
              rw [if_pos (by rfl)]
              go_wp2_with fail
              refine (clone_any _ X.1 _ ((hu8.below bi))).mono ?_
              rintro e w9b ⟨r, rfl, hOw⟩
              have q9 : Below w8.heap.size w8 w9b := below_then bi hOw.2.1
              refine hK.out _ _ (Hall2.out _ q9) (fun hH => ?_)
              refine wpAnyH_ready (rs := [6]) (by kernel_rfl) (by simp) ?_
              refine AllReadyH.cons rfl (fun K hK => ?_) AllReadyH.nil
              simp only [List.getElem_toArray, List.getElem_cons_succ, List.getElem_cons_zero]
              refine wpr_app_ints (by rfl) _ _ rfl w9.heap.size w9 w9b r _ 1 1 X.1 [(c : Int)] hOw rfl rfl (hi1.below hOw.2.1) (by rw [hXk]; simp; omega) ?_
              intro v1 w10 hV
              have q10 : Below w8.heap.size w8 w10 := below_then bi hV.2.1
              have hVon : On (fun k => w8.heap.size ≤ k) w10 (fun w' => Ints w' v1 (X.1 ++ [(c : Int)])) := (hV.on (by simp [hXk]; omega)).weaken (fun k _ hk => Nat.le_trans bi.size hk)
              obtain ⟨va, vl, vc, rfl⟩ := hV.slice
              refine hK.out _ _ (Hall2.out _ q10) (fun hH => ?_)
              refine wpAnyH_take (i := 8) (v := .agg #[.slice va vl vc, .int .u64 (q.at_ 0 : Nat), .int .u64 (q.at_ 1 : Nat), .int .u64 (q.at_ 2 : Nat), .int .u64 (q.at_ 3 : Nat), .int .u64 (q.at_ 4 : Nat)]) rfl (by kernel_rfl) (by kernel_rfl) (by kernel_rfl) (fun _ _ _ h => h) (.inl ⟨by rfl, fun w' hS' => by first | (go_simp; done) | (go_simp; rfl) | (go_simp; intro h; omega)⟩) hH ?_
              simp only [List.getElem_toArray, List.getElem_cons_succ, List.getElem_cons_zero, Act.put, List.setIfInBounds_toArray, List.set_cons_zero, List.set_cons_succ]
              refine wpAnyH_ready (rs := [9]) (by kernel_rfl) (by simp) ?_
              refine AllReadyH.cons rfl (fun K hK => ?_) AllReadyH.nil
              simp only [List.getElem_toArray, List.getElem_cons_succ, List.getElem_cons_zero]
              rw [if_pos (by rfl)]
              go_wp2_with fail
              have bg := below_new w10 (.cells #[.slice va vl vc, .int .u64 (q.at_ 0 : Nat), .int .u64 (q.at_ 1 : Nat), .int .u64 (q.at_ 2 : Nat), .int .u64 (q.at_ 3 : Nat), .int .u64 (q.at_ 4 : Nat)] 104)
              refine hK.out _ _ (Hall2.out _ (below_then q10 bg)) (fun hH => ?_)
              refine wpAnyH_ready (rs := [10]) (by kernel_rfl) (by simp) ?_
              refine AllReadyH.cons rfl (fun K hK => ?_) AllReadyH.nil
              simp only [List.getElem_toArray, List.getElem_cons_succ, List.getElem_cons_zero]
              refine wpr_append_beg (by rfl) _ _ rfl w.heap.size w10 u8 bs va vl vc (X.1 ++ [(c : Int)]) q (hO8.to q10).own rfl rfl (by have := hX.len; simp only [List.length_map] at this; omega) (hO8.to q10).size ?_
              intro v' w' hown hg hat
              have hOn : BegOut w.heap.size w w' v' (bs ++ [(.slice va vl vc, X.1 ++ [(c : Int)], q)]) := hO8.step q10 (hVon) bg hown hg hat
              have hlt10 := q10.size
              have hblk : ∀ b, b < w8.heap.size → some b ≠ u8.ownBlock → w'.heap[b]? = w8.heap[b]? := fun b h1 h2 => (hg.block b (by simp; omega) h2).trans ((bg.block b (by omega)).trans (q10.block b h1))
              have hx9 : BegBox w' xb (.slice xa xl xc) xq := (hblk xb hx8.lt hxo).trans hx8
              have hn9 : SetAt w' nb nr := (hblk nb hN8.lt hnb1).trans hN8
              have hs9 : SetAt w' sb q := (hblk sb hS8.lt hsbo).trans hS8
              have hxo9 : some xb ≠ v'.ownBlock := own_apart hat hxo (by simp; have := hx8.lt; omega)
              have hno9 : some nb ≠ v'.ownBlock := own_apart hat hnb1 (by simp; have := hN8.lt; omega)
              refine hK.out _ _ ?_ (fun hH => ?_)
              · obtain ⟨y0, _⟩ := hx9.cells
                obtain ⟨_, r0, r1, r2, r3, r4⟩ := hs9.c
                simp only [Nat.zero_add] at r1 r2 r3 r4
                exact ⟨y0, r0, r1, r2, r3, r4⟩
              refine wpAnyH_take (i := 11) rfl (by kernel_rfl) (by kernel_rfl) (by kernel_rfl) (fun _ _ _ h => h) (.inl ⟨by rfl, fun _ _ => rfl⟩) hH ?_
              simp only [List.getElem_toArray, List.getElem_cons_succ, List.getElem_cons_zero, Act.put, List.setIfInBounds_toArray, List.set_cons_zero, List.set_cons_succ]
              refine wpAnyH_done (by kernel_rfl) ?_ _
              have hXn9 : NextL n s E t most k L i (c + 1) ((bs ++ [(Value.slice va vl vc, X.1 ++ [(c : Int)], q)]).map (·.2)) := by rw [List.map_append]; exact Hadd.out
              clear hO8 hN8 hx8 hS8 hX Hall2 hH hown hg hat hblk hs9
              go_wp2
              go_roundg (gk - 1)
              case measure => omega
              case rel => exact ⟨c + 1, _, by omega, by omega, by omega, by go_num, hOn, hXn9, hn9, hno9, by rw [Hxq.out]; exact hx9, hxo9⟩
          · have hb : ¬ BeginI n s E most (X.1 ++ [(c : Int)]) := fun h => by rw [hsome.2 h] at hem; cases hem
            have hX9 := hX.skip hiL hc1 (by rw [HeX.out]; exact hb)
            clear hO hNr hx1 hS hsome Hall Hnx hX
            go_wp2
            go_roundg (gk - 1)
            case measure => omega
            case rel => exact ⟨c + 1, bs, by omega, by omega, by omega, by go_num, hO8, hX9, hN8, hnb1, by rw [Hxq.out]; exact hx8, hxo⟩
        · obtain rfl : c = 27 := by omega
          have hX9 := hX.row
          go_wp2
          go_roundg (g1 - 1)
          case measure => omega
          case rel => exact ⟨i + 1, bs, by omega, by go_num, hO, hX9, hNr, hnb1⟩
    · obtain rfl : i = lb := by omega
      clear hi
      have hkk : decide ((i : Int) < (i : Int)) = false := by simp
      rw [← Hlb.out] at hX
      have R := hX.done hLv hW hok
      have Rl := hX.len
      have Ro := hO.begsV
      rw [List.length_map] at Rl
      go_wp2
      go_ret
      exact ⟨_, _, rfl, Ro, R, by omega, hO.below⟩

end Go.Proofs.YteoofibhpifmlaaDoor
