import Derived.Test.YtffaamljogbmlaaDoorGr26
import Derived.Test.YtffaamljogbmlaaDoorGr04
import Derived.Test.YtffaamljogbmlaaDoorShapeDev
import Derived.Test.YtffaamljogbmlaaDoorReachDev
import Derived.Test.YtffaamljogbmlaaDoorGr22
/- Package tongue as it landed: heard. -/
namespace Go.Proofs.YtffaamljogbmlaaDoor
open Go.RowKit Go.Shelf
set_option linter.unusedVariables false
set_option linter.unusedSimpArgs false
set_option maxRecDepth 4000

/-- What heard answers. -/
def Heard (w' : World) (n : NetL) (i o : Int) (p : Option Addr) (d : Int) : Prop :=
  (¬ d = 0 ∧ p = none ∧ (Judged n i o d ∨ (ShapeOk n i o ∧ (graphL n (startL n.places i) 300).2 = d))) ∨
  (d = 0 ∧ ShapeOk n i o ∧ ∃ s, graphL n (startL n.places i) 300 = (s, 0) ∧ ∃ T bn lv t, p = some ⟨T, 0, none⟩ ∧ TalkAt w' T bn lv t ∧ TalkOk n s (startL n.places o) t)

set_option maxRecDepth 100000 in
set_option maxHeartbeats 8000000 in
theorem heard_any (v : Value) (n : NetL) (i o : Int) (w : World) (hv : Net w v n) :
    Calls Tryd.prog 15 #[v, .int .i64 i, .int .i64 o] w fun e w' => ∃ p d, e = .returned (.tuple #[.pointer p, .int .i64 d]) ∧ Heard w' n i o p d ∧ Below w.heap.size w w' := by
  obtain ⟨tv, rfl, hT⟩ := hv
  have c : Below w.heap.size w (w.alloc (.cells #[.int .i64 n.places, tv] 24)) := below_new _ _
  have hbx := box2_new w (.int .i64 n.places) tv 24
  obtain ⟨w0, Hw0⟩ : ∃ w0, Hid (w.alloc (.cells #[.int .i64 n.places, tv] 24) = w0) := ⟨_, rfl⟩
  rw [Hw0.out] at c hbx
  have hv : Net w0 (.agg #[.int .i64 n.places, tv]) n := ⟨_, rfl, hT.below c⟩
  obtain ⟨x0, x1, x2⟩ := id hbx
  go_enter Tryd.func15, Tryd.ntmps15
  go_upto_region 1 with fail
  rw [Hw0.out]
  clear Hw0
  go_wp2_with fail
  clear x0 x1 x2
  refine (shape_wrong _ n i o _ (by exact hv)).mono ?_
  rintro e w1 ⟨d, rfl, hd, b⟩
  replace hbx := hbx.below b
  replace hv := hv.below b
  replace c := below_then c b
  clear b
  by_cases hd0 : d = 0
  · subst hd0
    have HS : Hid (ShapeOk n i o) := hd.zero
    clear hd
    obtain ⟨x0, x1, x2⟩ := id hbx
    go_upto_region 4 with fail
    have hdr : Below w1.heap.size w1 w1.drew := (Below.refl _ _).drew
    have hvd := hv.below hdr
    have hvn := hvd.below (below_new w1.drew (.cells #[.slice none 0 0, .slice none 0 0] 72))
    have Hne : Hid (startL n.places i ≠ []) := by intro e; have h1 := start_len HS.out.ok i; have h2 := two_places HS.out; rw [e] at h1; simp at h1; omega
    obtain ⟨G, HG⟩ : ∃ G, Hid (graphL n (startL n.places i) 300 = G) := ⟨_, rfl⟩
    have Hfl : Hid (∀ j, j < G.1.marks.length → markAt G.1.marks j ≠ []) := by have := graph_full (n := n) (most := 300) Hne.out; rw [HG.out] at this; exact this
    go_cut [9, 10] (fun p q wc => ∃ bx mv av, p = .pointer (some ⟨bx, 0, none⟩) ∧ q = .int .i64 G.2 ∧ Box2 wc bx mv av ∧ Space wc (.agg #[mv, av]) G.1 ∧ Below w1.heap.size w1 wc)
    case first =>
      go_region_held3 (fun w' => w'.cell? ⟨w.heap.size, 0, none⟩ = some (.int .i64 n.places) ∧ w'.cell? ⟨w.heap.size, 1, none⟩ = some tv)
        (first | exact ⟨f1, f2⟩ | go_keep)
        (first
          | (go_at_call 7; refine (shape_start_own _ n i _ ?_).mono ?_; (first | exact hvd | exact hvn); rintro e w2 ⟨r1, rfl, hOn, hOb⟩; have hI := hOn.now; (first | (have hnb : NilBox w2 w1.heap.size := (nilBox_new w1.drew).below hOb; have q2 := below_then (below_then hdr (below_new w1.drew (.cells #[.slice none 0 0, .slice none 0 0] 72))) hOb) | (have q2 := below_then hdr hOb)); have hv2 := hv.below q2; obtain ⟨y0, y1, y2⟩ := hbx.below q2)
          | (go_at_call 24; refine (reach_graph _ _ n (startL n.places i) 300 _ ?_ ?_).mono ?_; (first | exact hv2 | exact hv2.below (below_new w2 (.cells #[.slice none 0 0, .slice none 0 0] 72))); (first | exact hI | exact hI.below (below_new w2 (.cells #[.slice none 0 0, .slice none 0 0] 72))); rw [HG.out]; rintro e w3 ⟨r2, rfl, hSp, b3⟩; (first | (have hnb3 := (nilBox_new w2).below b3; have q3 := below_then q2 (below_then (below_new w2 (.cells #[.slice none 0 0, .slice none 0 0] 72)) b3); have hlt3 : w.heap.size < w2.heap.size := y0) | (have hnb3 := hnb.below b3; have q3 := below_then q2 b3; have hlt3 : w.heap.size < w1.heap.size := x0) | (have q3 := below_then q2 b3)); obtain ⟨mv, av, rfl, hMv, hAv⟩ := id hSp; obtain ⟨am, cm, rfl, _, _⟩ := hMv.slice; obtain ⟨aa, ca, hav, _⟩ := hAv.slice; rw [List.length_map] at hav; subst hav; obtain ⟨z0, z1, z2⟩ := hbx.below q3; (first | (obtain ⟨n0, n1, n2, n3, n4⟩ := hnb3.at; have hf := hnb3.fill hSp Hfl.out; have f1 := (hf.2.2.cell (p := ⟨w.heap.size, 0, none⟩) hlt3).trans z1; have f2 := (hf.2.2.cell (p := ⟨w.heap.size, 1, none⟩) hlt3).trans z2) | skip)))
      all_goals
        go_wp2_with fail
        go_meet
        first
          | exact ⟨_, _, _, rfl, rfl, hf.2.1, hf.1, q3.trans (hf.2.2.mono (Nat.le_refl _))⟩
          | exact ⟨_, _, _, rfl, rfl, hf.2.1, hf.1, q3.trans (hf.2.2.mono q2.size)⟩
          | exact ⟨_, _, _, rfl, rfl, box2_new w3 _ _ _, hSp.below (below_new w3 _), below_then q3 (below_new w3 _)⟩
    obtain ⟨bx, mv, av, rfl, rfl, hbs, hSp, b4⟩ := hcut
    obtain ⟨w4, rfl⟩ : ∃ w0, w0 = wc := ⟨_, rfl⟩
    replace hbx := hbx.below b4
    replace hv := hv.below b4
    replace c := below_then c b4
    clear hvd hvn hdr b4 x0 x1 x2 Hne
    obtain ⟨s, dg⟩ := G
    simp only at hSp Hfl ⊢
    by_cases hg0 : dg = 0
    · subst hg0
      clear Hfl
      have HW : Hid (Whole n (startL n.places i) s) := graphL_whole HG.out
      have Hsm : Hid (s.marks.length ≤ 300) := by have := graphL_small n (startL n.places i) 300; rw [HG.out] at this; exact this
      have Harcs : Hid (∀ a ∈ s.arcs, a.frm < s.marks.length ∧ a.dst < s.marks.length ∧ a.tran < n.trans.length ∧ 0 ≤ labT n a.tran) := fun a ha => by
        obtain ⟨h1, h2, h3, _⟩ := HW.out.sound a ha
        exact ⟨h1, h2, h3, (lab_ok HS.out.ok _ h3).1⟩
      have Hml : Hid (∀ m, m < s.marks.length → (markAt s.marks m).length = (startL n.places o).length) := fun m hm => by
        have h1 : ((markAt s.marks m).length : Int) = n.places := by obtain ⟨most, k, hF, hk⟩ := HW.out; exact (fits_net (hF.fits _ (markAt_mem hm))).2.1
        have h2 := start_len HS.out.ok o
        show _ = _
        omega
      have Hpos : Hid (0 < s.marks.length) := HW.out.here.1
      obtain ⟨y0, y1, y2⟩ := id hbs
      obtain ⟨hMk, hAk⟩ : Lists w4 mv s.marks ∧ Arcs w4 av (s.arcs.map arcZ) := by obtain ⟨mv', av', e, h1, h2⟩ := hSp; injection e with e; injection e with e; simp at e; obtain ⟨rfl, rfl⟩ := e; exact ⟨h1, h2⟩
      have hLab : LabAt w4 w.heap.size n tv := ⟨hbx, hT.below c⟩
      clear hSp
      go_wp2_with fail
      refine (unseen_any n tv mv av s w.heap.size w4 hLab hMk hAk Hsm.out (fun a ha => ⟨(Harcs.out a ha).1, (Harcs.out a ha).2.1, (Harcs.out a ha).2.2.1⟩)).mono ?_
      rintro e w5 ⟨Bf, f, rfl, hR, hFar, hBf, b5⟩
      have hv5 := hv.below b5
      have hbx5 := hbx.below b5
      have hbs5 := hbs.below b5
      have hLab5 := hLab.below b5
      have hMk5 := hMk.below b5
      have hAk5 := hAk.below b5
      have c5 := below_then c b5
      clear hv hbx hbs hLab hMk hAk c b5 y0 y1 y2
      obtain ⟨am, cm, rfl, _, _⟩ := hMk5.slice
      obtain ⟨aa, ca, rfl, hlab⟩ := hAk5.slice
      obtain ⟨N, HN⟩ : ∃ N, Hid (s.marks.length = N) := ⟨_, rfl⟩
      obtain ⟨la, Hla⟩ : ∃ la, Hid ((s.arcs.map arcZ).length = la) := ⟨_, rfl⟩
      have hN : N ≤ 300 := by rw [← HN.out]; exact Hsm.out
      have hN0 : 0 < N := by rw [← HN.out]; exact Hpos.out
      rw [HN.out] at hR hFar hMk5 hbs5 ⊢
      rw [Hla.out] at hAk5 hbs5 hlab
      have Hall : Hid (∀ w' : World, Below w5.heap.size w5 w' → (fun w' => w'.cell? ⟨Bf, 0, none⟩ = some (.int .u64 ((f 0).at_ 0 : Nat)) ∧ w'.cell? ⟨Bf, 1, none⟩ = some (.int .u64 ((f 0).at_ 1 : Nat)) ∧ w'.cell? ⟨Bf, 2, none⟩ = some (.int .u64 ((f 0).at_ 2 : Nat)) ∧ w'.cell? ⟨Bf, 3, none⟩ = some (.int .u64 ((f 0).at_ 3 : Nat)) ∧ w'.cell? ⟨Bf, 4, none⟩ = some (.int .u64 ((f 0).at_ 4 : Nat)) ∧ w'.cell? ⟨bx, 0, none⟩ = some (.slice am N cm) ∧ w'.cell? ⟨bx, 1, none⟩ = some (.slice aa la ca) ∧ w'.cell? ⟨w.heap.size, 0, none⟩ = some (.int .i64 n.places) ∧ w'.cell? ⟨w.heap.size, 1, none⟩ = some tv) w') := fun w' hb => by
        obtain ⟨_, g0, g1, g2, g3, g4⟩ := (hR.below hb).c hN0
        simp only [Nat.zero_mul, Nat.zero_add] at g0 g1 g2 g3 g4
        obtain ⟨_, p0, p1⟩ := hbs5.below hb
        obtain ⟨_, r0, r1⟩ := hbx5.below hb
        exact ⟨g0, g1, g2, g3, g4, p0, p1, r0, r1⟩
      go_upto_region 9 with fail
      go_cut [13] (fun p wc => ∃ T bn Bl lf, p = .pointer (some ⟨T, 0, none⟩) ∧ wc.heap[T]? = some (.cells #[.int .u64 ((f 0).at_ 0 : Nat), .int .u64 ((f 0).at_ 1 : Nat), .int .u64 ((f 0).at_ 2 : Nat), .int .u64 ((f 0).at_ 3 : Nat), .int .u64 ((f 0).at_ 4 : Nat), .slice (some ⟨bn, 0, none⟩) N N, .slice (some ⟨Bl, 0, none⟩) N N] 59 (0, 0)) ∧
        SetRow wc bn (N * 27) (fun _ => noneS) ∧ (w5.heap.size ≤ T ∧ w5.heap.size ≤ bn ∧ w5.heap.size ≤ Bl ∧ T ≠ bn ∧ T ≠ Bl ∧ bn ≠ Bl) ∧ IntRow wc Bl N lf ∧ LeastAll n s (startL n.places o) lf ∧ Below w5.heap.size w5 wc)
      case first =>
        have hdr : Below w5.heap.size w5 w5.drew := (Below.refl _ _).drew
        refine wp_region_held_drew (S := (fun w' => w'.cell? ⟨Bf, 0, none⟩ = some (.int .u64 ((f 0).at_ 0 : Nat)) ∧ w'.cell? ⟨Bf, 1, none⟩ = some (.int .u64 ((f 0).at_ 1 : Nat)) ∧ w'.cell? ⟨Bf, 2, none⟩ = some (.int .u64 ((f 0).at_ 2 : Nat)) ∧ w'.cell? ⟨Bf, 3, none⟩ = some (.int .u64 ((f 0).at_ 3 : Nat)) ∧ w'.cell? ⟨Bf, 4, none⟩ = some (.int .u64 ((f 0).at_ 4 : Nat)) ∧ w'.cell? ⟨bx, 0, none⟩ = some (.slice am N cm) ∧ w'.cell? ⟨bx, 1, none⟩ = some (.slice aa la ca) ∧ w'.cell? ⟨w.heap.size, 0, none⟩ = some (.int .i64 n.places) ∧ w'.cell? ⟨w.heap.size, 1, none⟩ = some tv)) (by kernel_rfl) (Hall.out _ hdr) (fun hH => ?_)
        refine wpAnyH_take (i := 0) rfl (by kernel_rfl) (by kernel_rfl) (by kernel_rfl) (fun _ _ _ h => h) (.inl ⟨by rfl, fun _ _ => rfl⟩) hH ?_
        simp only [List.getElem_toArray, List.getElem_cons_succ, List.getElem_cons_zero, Act.put, List.setIfInBounds_toArray, List.set_cons_zero, List.set_cons_succ]
        refine wpAnyH_take (i := 1) (v := .pointer (some ⟨Bf, 0, none⟩)) rfl (by kernel_rfl) (by kernel_rfl) (by kernel_rfl) (fun _ _ _ h => h) (.inl ⟨by rfl, fun w' hS' => by first | (go_simp; done) | (go_simp; rfl) | (go_simp; intro h; omega)⟩) hH ?_
        simp only [List.getElem_toArray, List.getElem_cons_succ, List.getElem_cons_zero, Act.put, List.setIfInBounds_toArray, List.set_cons_zero, List.set_cons_succ]
        refine wpAnyH_take (i := 2) (v := setV (f 0)) rfl (by kernel_rfl) (by kernel_rfl) (by kernel_rfl) (fun _ _ _ h => h) (.inl ⟨by rfl, fun w' hS' => by obtain ⟨s0, s1, s2, s3, s4, m0, m1, n0, n1⟩ := hS'; go_simp⟩) hH ?_
        simp only [List.getElem_toArray, List.getElem_cons_succ, List.getElem_cons_zero, Act.put, List.setIfInBounds_toArray, List.set_cons_zero, List.set_cons_succ]
        refine wpAnyH_take (i := 3) (v := .pointer (some ⟨bx, 0, none⟩)) rfl (by kernel_rfl) (by kernel_rfl) (by kernel_rfl) (fun _ _ _ h => h) (.inl ⟨by rfl, fun w' hS' => by first | (go_simp; done) | (go_simp; rfl) | (go_simp; intro h; omega)⟩) hH ?_
        simp only [List.getElem_toArray, List.getElem_cons_succ, List.getElem_cons_zero, Act.put, List.setIfInBounds_toArray, List.set_cons_zero, List.set_cons_succ]
        refine wpAnyH_take (i := 4) (v := .slice am N cm) rfl (by kernel_rfl) (by kernel_rfl) (by kernel_rfl) (fun _ _ _ h => h) (.inl ⟨by rfl, fun w' hS' => by obtain ⟨s0, s1, s2, s3, s4, m0, m1, n0, n1⟩ := hS'; go_simp⟩) hH ?_
        simp only [List.getElem_toArray, List.getElem_cons_succ, List.getElem_cons_zero, Act.put, List.setIfInBounds_toArray, List.set_cons_zero, List.set_cons_succ]
        refine wpAnyH_take (i := 5) (v := .int .i64 (N : Int)) rfl (by kernel_rfl) (by kernel_rfl) (by kernel_rfl) (fun _ _ _ h => h) (.inl ⟨by rfl, fun w' hS' => by first | (go_simp; done) | (go_simp; rfl) | (go_simp; intro h; omega)⟩) hH ?_
        simp only [List.getElem_toArray, List.getElem_cons_succ, List.getElem_cons_zero, Act.put, List.setIfInBounds_toArray, List.set_cons_zero, List.set_cons_succ]
        refine wpAnyH_take (i := 7) (v := .agg #[.slice am N cm, .slice aa la ca]) rfl (by kernel_rfl) (by kernel_rfl) (by kernel_rfl) (fun _ _ _ h => h) (.inl ⟨by rfl, fun w' hS' => by obtain ⟨s0, s1, s2, s3, s4, m0, m1, n0, n1⟩ := hS'; go_simp⟩) hH ?_
        simp only [List.getElem_toArray, List.getElem_cons_succ, List.getElem_cons_zero, Act.put, List.setIfInBounds_toArray, List.set_cons_zero, List.set_cons_succ]
        refine wpAnyH_take (i := 8) (v := .agg #[.int .i64 n.places, tv]) rfl (by kernel_rfl) (by kernel_rfl) (by kernel_rfl) (fun _ _ _ h => h) (.inl ⟨by rfl, fun w' hS' => by obtain ⟨s0, s1, s2, s3, s4, m0, m1, n0, n1⟩ := hS'; go_simp⟩) hH ?_
        simp only [List.getElem_toArray, List.getElem_cons_succ, List.getElem_cons_zero, Act.put, List.setIfInBounds_toArray, List.set_cons_zero, List.set_cons_succ]
        refine wpAnyH_take (i := 9) rfl (by kernel_rfl) (by kernel_rfl) (by kernel_rfl) (fun _ _ _ h => h) (.inl ⟨by rfl, fun _ _ => rfl⟩) hH ?_
        simp only [List.getElem_toArray, List.getElem_cons_succ, List.getElem_cons_zero, Act.put, List.setIfInBounds_toArray, List.set_cons_zero, List.set_cons_succ]
        refine wpAnyH_take (i := 11) rfl (by kernel_rfl) (by kernel_rfl) (by kernel_rfl) (fun _ _ _ h => h) (.inl ⟨by rfl, fun _ _ => rfl⟩) hH ?_
        simp only [List.getElem_toArray, List.getElem_cons_succ, List.getElem_cons_zero, Act.put, List.setIfInBounds_toArray, List.set_cons_zero, List.set_cons_succ]
        refine wpAnyH_ready (rs := [6, 10]) (by kernel_rfl) (by simp) ?_
        refine AllReadyH.cons rfl (fun K hK => ?_) (AllReadyH.cons rfl (fun K hK => ?_) AllReadyH.nil)
        · obtain ⟨w6, hmkw6, bmw6, hzw6, hRw6⟩ := make_letters w5.drew N hN
          have Hzw6 : Hid _ := hzw6
          clear hzw6
          simp only [List.getElem_toArray, List.getElem_cons_succ, List.getElem_cons_zero]
          rw [if_pos (by rfl)]
          go_wp2_with fail
          have qw6 := below_then hdr bmw6
          refine hK.out _ _ (Hall.out _ qw6) (fun hH => ?_)
          refine wpAnyH_ready (rs := [10]) (by kernel_rfl) (by simp) ?_
          refine AllReadyH.cons rfl (fun K hK => ?_) AllReadyH.nil
          simp only [List.getElem_toArray, List.getElem_cons_succ, List.getElem_cons_zero]
          rw [if_pos (by rfl)]
          go_wp2_with fail
          refine (shape_start_own _ n o _ (by exact hv5.below (qw6))).mono ?_
          rintro e w7 ⟨rw7, rfl, hOnw7, hObw7⟩
          have qw7 := below_then qw6 hObw7
          have hIw7 := hOnw7.now
          refine hK.out _ _ (Hall.out _ qw7) (fun hH => ?_)
          refine wpAnyH_ready (rs := [12]) (by kernel_rfl) (by simp) ?_
          refine AllReadyH.cons rfl (fun K hK => ?_) AllReadyH.nil
          simp only [List.getElem_toArray, List.getElem_cons_succ, List.getElem_cons_zero]
          rw [if_pos (by rfl)]
          go_wp2_with fail
          refine (leastTo_any n tv _ _ _ s (startL n.places o) w.heap.size w7 (by exact hLab5.below qw7) (by exact hMk5.below qw7) (by exact hAk5.below qw7) (by exact hIw7) (by rw [HN.out]; exact hN) Hml.out Harcs.out).mono ?_
          rintro e w8 ⟨Bl, lf, rfl, hIR, hLA, hBl, bw8⟩
          rw [HN.out] at hIR ⊢
          have qw8 := below_then qw7 bw8
          refine hK.out _ _ (Hall.out _ qw8) (fun hH => ?_)
          refine wpAnyH_take (i := 13) (v := .agg #[.int .u64 ((f 0).at_ 0 : Nat), .int .u64 ((f 0).at_ 1 : Nat), .int .u64 ((f 0).at_ 2 : Nat), .int .u64 ((f 0).at_ 3 : Nat), .int .u64 ((f 0).at_ 4 : Nat), .slice (some ⟨w5.drew.heap.size, 0, none⟩) N N, .slice (some ⟨Bl, 0, none⟩) N N]) rfl (by kernel_rfl) (by kernel_rfl) (by kernel_rfl) (fun _ _ _ h => h) (.inl ⟨by rfl, fun w' hS' => by first | (go_simp; done) | (go_simp; rfl) | (go_simp; intro h; omega)⟩) hH ?_
          simp only [List.getElem_toArray, List.getElem_cons_succ, List.getElem_cons_zero, Act.put, List.setIfInBounds_toArray, List.set_cons_zero, List.set_cons_succ]
          refine wpAnyH_ready (rs := [14]) (by kernel_rfl) (by simp) ?_
          refine AllReadyH.cons rfl (fun K hK => ?_) AllReadyH.nil
          simp only [List.getElem_toArray, List.getElem_cons_succ, List.getElem_cons_zero]
          rw [if_pos (by rfl)]
          go_wp2_with fail
          have bt := below_new w8 (.cells #[.int .u64 ((f 0).at_ 0 : Nat), .int .u64 ((f 0).at_ 1 : Nat), .int .u64 ((f 0).at_ 2 : Nat), .int .u64 ((f 0).at_ 3 : Nat), .int .u64 ((f 0).at_ 4 : Nat), .slice (some ⟨w5.drew.heap.size, 0, none⟩) N N, .slice (some ⟨Bl, 0, none⟩) N N] 59)
          refine hK.out _ _ (Hall.out _ (below_then qw8 bt)) (fun hH => ?_)
          refine wpAnyH_take (i := 15) rfl (by kernel_rfl) (by kernel_rfl) (by kernel_rfl) (fun _ _ _ h => h) (.inl ⟨by rfl, fun _ _ => rfl⟩) hH ?_
          simp only [List.getElem_toArray, List.getElem_cons_succ, List.getElem_cons_zero, Act.put, List.setIfInBounds_toArray, List.set_cons_zero, List.set_cons_succ]
          refine wpAnyH_done (by kernel_rfl) ?_ _
          have hapart : w5.heap.size ≤ w8.heap.size ∧ w5.heap.size ≤ w5.drew.heap.size ∧ w5.heap.size ≤ Bl ∧ w8.heap.size ≠ w5.drew.heap.size ∧ w8.heap.size ≠ Bl ∧ w5.drew.heap.size ≠ Bl := by have hz := Hzw6.out; have h1 := hIR.lt; have h2 := qw8.size; have h3 := qw7.size; have h4 := hObw7.size; have h5 := bw8.size; have h6 : w5.drew.heap.size = w5.heap.size := rfl; omega
          go_wp2_with fail
          go_meet
          exact ⟨_, w5.drew.heap.size, Bl, lf, rfl, heap_alloc_at _ _, ((hRw6.below hObw7).below bw8).below bt, hapart, hIR.keep bt.size (bt.block _ hIR.lt), hLA, below_then qw8 bt⟩
        · simp only [List.getElem_toArray, List.getElem_cons_succ, List.getElem_cons_zero]
          rw [if_pos (by rfl)]
          go_wp2_with fail
          refine (shape_start_own _ n o _ (by exact hv5.below (hdr))).mono ?_
          rintro e w6 ⟨rw6, rfl, hOnw6, hObw6⟩
          have qw6 := below_then hdr hObw6
          have hIw6 := hOnw6.now
          refine hK.out _ _ (Hall.out _ qw6) (fun hH => ?_)
          refine wpAnyH_ready (rs := [6, 12]) (by kernel_rfl) (by simp) ?_
          refine AllReadyH.cons rfl (fun K hK => ?_) (AllReadyH.cons rfl (fun K hK => ?_) AllReadyH.nil)
          · obtain ⟨w7, hmkw7, bmw7, hzw7, hRw7⟩ := make_letters w6 N hN
            have Hzw7 : Hid _ := hzw7
            clear hzw7
            simp only [List.getElem_toArray, List.getElem_cons_succ, List.getElem_cons_zero]
            rw [if_pos (by rfl)]
            go_wp2_with fail
            have qw7 := below_then qw6 bmw7
            refine hK.out _ _ (Hall.out _ qw7) (fun hH => ?_)
            refine wpAnyH_ready (rs := [12]) (by kernel_rfl) (by simp) ?_
            refine AllReadyH.cons rfl (fun K hK => ?_) AllReadyH.nil
            simp only [List.getElem_toArray, List.getElem_cons_succ, List.getElem_cons_zero]
            rw [if_pos (by rfl)]
            go_wp2_with fail
            refine (leastTo_any n tv _ _ _ s (startL n.places o) w.heap.size w7 (by exact hLab5.below qw7) (by exact hMk5.below qw7) (by exact hAk5.below qw7) (by exact (hIw6.below bmw7)) (by rw [HN.out]; exact hN) Hml.out Harcs.out).mono ?_
            rintro e w8 ⟨Bl, lf, rfl, hIR, hLA, hBl, bw8⟩
            rw [HN.out] at hIR ⊢
            have qw8 := below_then qw7 bw8
            refine hK.out _ _ (Hall.out _ qw8) (fun hH => ?_)
            refine wpAnyH_take (i := 13) (v := .agg #[.int .u64 ((f 0).at_ 0 : Nat), .int .u64 ((f 0).at_ 1 : Nat), .int .u64 ((f 0).at_ 2 : Nat), .int .u64 ((f 0).at_ 3 : Nat), .int .u64 ((f 0).at_ 4 : Nat), .slice (some ⟨w6.heap.size, 0, none⟩) N N, .slice (some ⟨Bl, 0, none⟩) N N]) rfl (by kernel_rfl) (by kernel_rfl) (by kernel_rfl) (fun _ _ _ h => h) (.inl ⟨by rfl, fun w' hS' => by first | (go_simp; done) | (go_simp; rfl) | (go_simp; intro h; omega)⟩) hH ?_
            simp only [List.getElem_toArray, List.getElem_cons_succ, List.getElem_cons_zero, Act.put, List.setIfInBounds_toArray, List.set_cons_zero, List.set_cons_succ]
            refine wpAnyH_ready (rs := [14]) (by kernel_rfl) (by simp) ?_
            refine AllReadyH.cons rfl (fun K hK => ?_) AllReadyH.nil
            simp only [List.getElem_toArray, List.getElem_cons_succ, List.getElem_cons_zero]
            rw [if_pos (by rfl)]
            go_wp2_with fail
            have bt := below_new w8 (.cells #[.int .u64 ((f 0).at_ 0 : Nat), .int .u64 ((f 0).at_ 1 : Nat), .int .u64 ((f 0).at_ 2 : Nat), .int .u64 ((f 0).at_ 3 : Nat), .int .u64 ((f 0).at_ 4 : Nat), .slice (some ⟨w6.heap.size, 0, none⟩) N N, .slice (some ⟨Bl, 0, none⟩) N N] 59)
            refine hK.out _ _ (Hall.out _ (below_then qw8 bt)) (fun hH => ?_)
            refine wpAnyH_take (i := 15) rfl (by kernel_rfl) (by kernel_rfl) (by kernel_rfl) (fun _ _ _ h => h) (.inl ⟨by rfl, fun _ _ => rfl⟩) hH ?_
            simp only [List.getElem_toArray, List.getElem_cons_succ, List.getElem_cons_zero, Act.put, List.setIfInBounds_toArray, List.set_cons_zero, List.set_cons_succ]
            refine wpAnyH_done (by kernel_rfl) ?_ _
            have hapart : w5.heap.size ≤ w8.heap.size ∧ w5.heap.size ≤ w6.heap.size ∧ w5.heap.size ≤ Bl ∧ w8.heap.size ≠ w6.heap.size ∧ w8.heap.size ≠ Bl ∧ w6.heap.size ≠ Bl := by have hz := Hzw7.out; have h1 := hIR.lt; have h2 := qw6.size; have h3 := qw7.size; have h5 := bw8.size; omega
            go_wp2_with fail
            go_meet
            exact ⟨_, w6.heap.size, Bl, lf, rfl, heap_alloc_at _ _, (hRw7.below bw8).below bt, hapart, hIR.keep bt.size (bt.block _ hIR.lt), hLA, below_then qw8 bt⟩
          · simp only [List.getElem_toArray, List.getElem_cons_succ, List.getElem_cons_zero]
            rw [if_pos (by rfl)]
            go_wp2_with fail
            refine (leastTo_any n tv _ _ _ s (startL n.places o) w.heap.size w6 (by exact hLab5.below qw6) (by exact hMk5.below qw6) (by exact hAk5.below qw6) (by exact hIw6) (by rw [HN.out]; exact hN) Hml.out Harcs.out).mono ?_
            rintro e w7 ⟨Bl, lf, rfl, hIR, hLA, hBl, bw7⟩
            rw [HN.out] at hIR ⊢
            have qw7 := below_then qw6 bw7
            refine hK.out _ _ (Hall.out _ qw7) (fun hH => ?_)
            obtain ⟨w8, hmkw8, bmw8, hzw8, hRw8⟩ := make_letters w7 N hN
            have Hzw8 : Hid _ := hzw8
            clear hzw8
            refine wpAnyH_ready (rs := [6]) (by kernel_rfl) (by simp) ?_
            refine AllReadyH.cons rfl (fun K hK => ?_) AllReadyH.nil
            simp only [List.getElem_toArray, List.getElem_cons_succ, List.getElem_cons_zero]
            rw [if_pos (by rfl)]
            go_wp2_with fail
            have qw8 := below_then qw7 bmw8
            refine hK.out _ _ (Hall.out _ qw8) (fun hH => ?_)
            refine wpAnyH_take (i := 13) (v := .agg #[.int .u64 ((f 0).at_ 0 : Nat), .int .u64 ((f 0).at_ 1 : Nat), .int .u64 ((f 0).at_ 2 : Nat), .int .u64 ((f 0).at_ 3 : Nat), .int .u64 ((f 0).at_ 4 : Nat), .slice (some ⟨w7.heap.size, 0, none⟩) N N, .slice (some ⟨Bl, 0, none⟩) N N]) rfl (by kernel_rfl) (by kernel_rfl) (by kernel_rfl) (fun _ _ _ h => h) (.inl ⟨by rfl, fun w' hS' => by first | (go_simp; done) | (go_simp; rfl) | (go_simp; intro h; omega)⟩) hH ?_
            simp only [List.getElem_toArray, List.getElem_cons_succ, List.getElem_cons_zero, Act.put, List.setIfInBounds_toArray, List.set_cons_zero, List.set_cons_succ]
            refine wpAnyH_ready (rs := [14]) (by kernel_rfl) (by simp) ?_
            refine AllReadyH.cons rfl (fun K hK => ?_) AllReadyH.nil
            simp only [List.getElem_toArray, List.getElem_cons_succ, List.getElem_cons_zero]
            rw [if_pos (by rfl)]
            go_wp2_with fail
            have bt := below_new w8 (.cells #[.int .u64 ((f 0).at_ 0 : Nat), .int .u64 ((f 0).at_ 1 : Nat), .int .u64 ((f 0).at_ 2 : Nat), .int .u64 ((f 0).at_ 3 : Nat), .int .u64 ((f 0).at_ 4 : Nat), .slice (some ⟨w7.heap.size, 0, none⟩) N N, .slice (some ⟨Bl, 0, none⟩) N N] 59)
            refine hK.out _ _ (Hall.out _ (below_then qw8 bt)) (fun hH => ?_)
            refine wpAnyH_take (i := 15) rfl (by kernel_rfl) (by kernel_rfl) (by kernel_rfl) (fun _ _ _ h => h) (.inl ⟨by rfl, fun _ _ => rfl⟩) hH ?_
            simp only [List.getElem_toArray, List.getElem_cons_succ, List.getElem_cons_zero, Act.put, List.setIfInBounds_toArray, List.set_cons_zero, List.set_cons_succ]
            refine wpAnyH_done (by kernel_rfl) ?_ _
            have hapart : w5.heap.size ≤ w8.heap.size ∧ w5.heap.size ≤ w7.heap.size ∧ w5.heap.size ≤ Bl ∧ w8.heap.size ≠ w7.heap.size ∧ w8.heap.size ≠ Bl ∧ w7.heap.size ≠ Bl := by have hz := Hzw8.out; have h1 := hIR.lt; have h2 := qw6.size; have h3 := qw7.size; omega
            go_wp2_with fail
            go_meet
            exact ⟨_, w7.heap.size, Bl, lf, rfl, heap_alloc_at _ _, (hRw8).below bt, hapart, (hIR.keep bmw8.size (bmw8.block _ hIR.lt)).keep bt.size (bt.block _ (Nat.lt_of_lt_of_le hIR.lt bmw8.size)), hLA, below_then qw8 bt⟩
      obtain ⟨T, bn, Bl, lf, rfl, hTc, hRn, ⟨t1, t2, t3, t4, t5, t6⟩, hIR, hLA, b9⟩ := hcut
      obtain ⟨w9, rfl⟩ : ∃ w0, w0 = wc := ⟨_, rfl⟩
      obtain ⟨_, p0, p1⟩ := hbs5.below b9
      have HTc : Hid _ := hTc
      have HRn : Hid _ := hRn
      have HIR : Hid _ := hIR
      have Hap : Hid _ := And.intro t1 (And.intro t2 (And.intro t3 (And.intro t4 (And.intro t5 t6))))
      clear hTc hRn hIR t1 t2 t3 t4 t5 t6 Hall
      have Hlaa : Hid (la = s.arcs.length) := by show _ = _; rw [← Hla.out, List.length_map]
      go_wp2_with fail
      clear p0 p1
      obtain ⟨AA, HAA⟩ : ∃ AA, Hid (s.arcs = AA) := ⟨_, rfl⟩
      rw [HAA.out] at hAk5 hFar Harcs Hlaa
      rw [HN.out] at Harcs
      go_loopg [58] la (fun g i wr => ∃ (k : Nat) (gs : Nat → SetL), k + g = la ∧ i = .int .i64 (k : Int) ∧ SetRow wr bn (N * 27) gs ∧ NextTo n AA N f k gs ∧ (∀ b, b < w9.heap.size → b ≠ bn → wr.heap[b]? = w9.heap[b]?) ∧ w9.heap.size ≤ wr.heap.size ∧ Below w5.heap.size w5 wr)
      case atStart => exact ⟨0, fun _ => noneS, by omega, rfl, HRn.out, NextTo.zero, fun _ _ _ => rfl, Nat.le_refl _, b9⟩
      case round =>
        obtain ⟨k, gs, hkg, rfl, hG, hNx, hO, hsz, hB⟩ := hrel
        by_cases hk : k < la
        · have hk' : decide ((k : Int) < (la : Int)) = true := by rw [decide_eq_true_eq]; omega
          have hkA : k < AA.length := by have := Hlaa.out; omega
          obtain ⟨b1, o1, rfl, hb1, e0, e1, e2⟩ := (hAk5.below hB).at (k := k) (by simpa using hkA)
          have eA : (AA.map arcZ)[k]'(by simpa using hkA) = arcZ AA[k] := by simp
          rw [eA] at e0 e1 e2
          obtain ⟨A, HA⟩ : ∃ A, Hid (AA[k] = A) := ⟨AA[k], (rfl : AA[k] = AA[k])⟩
          rw [HA.out] at e0 e1 e2
          simp only [arcZ] at e0 e1 e2
          have hAin : A ∈ AA := by rw [← HA.out]; exact List.getElem_mem hkA
          obtain ⟨ax, ay, at_, alb⟩ := Harcs.out A hAin
          have al26 := (lab_ok HS.out.ok _ at_).2
          have hbn1 := below_new wr (.cells #[.int .i64 (A.frm : Int), .int .i64 (A.tran : Int), .int .i64 (A.dst : Int)] 76)
          have hA1 := heap_alloc_at wr (.cells #[.int .i64 (A.frm : Int), .int .i64 (A.tran : Int), .int .i64 (A.dst : Int)] 76)
          obtain ⟨wr1, Hwr1⟩ : ∃ wr1, Hid (wr.alloc (.cells #[.int .i64 (A.frm : Int), .int .i64 (A.tran : Int), .int .i64 (A.dst : Int)] 76) = wr1) := ⟨_, rfl⟩
          rw [Hwr1.out] at hbn1 hA1
          obtain ⟨z0, z1, z2⟩ := arc_cells hA1
          go_upto_region 13 with fail
          rw [Hwr1.out]
          have eg := enters_of Tryd.func25 (by kernel_rfl) rfl
          go_wp2_with fail
          refine (label_any w.heap.size n tv (A.frm : Int) (A.dst : Int) A.tran wr1 (by exact (hLab5.below hB).below hbn1) at_).mono ?_
          rintro e wr2 ⟨rfl, hwr2⟩
          have hbn2 : Below wr1.heap.size wr1 wr2 := by rw [hwr2]; exact below_new _ _
          have hb2 : Below wr.heap.size wr wr2 := below_then hbn1 hbn2
          have hA2 := (hbn2.block _ (Array.getElem?_eq_some_iff.1 hA1).1).trans hA1
          clear z0 z1 z2 e0 e1 e2 eg Hwr1 hwr2 hA1 hbn1 hbn2
          by_cases hl0 : 0 < labT n A.tran
          · obtain ⟨l, hl⟩ := Int.eq_ofNat_of_zero_le alb
            have HL : Hid (labT n A.tran = (l : Int)) := hl
            rw [hl] at hl0 al26 ⊢
            have hl1 : 0 < l := by omega
            have hl27 : l < 27 := by omega
            have hgt : decide ((l : Int) > 0) = true := by rw [decide_eq_true_eq]; omega
            have hT2 : wr2.heap[T]? = w9.heap[T]? := (hb2.block T (by have := (Array.getElem?_eq_some_iff.1 HTc.out).1; omega)).trans (hO T (Array.getElem?_eq_some_iff.1 HTc.out).1 (by have := Hap.out; omega))
            have hT5 : wr2.cell? ⟨T, 5, none⟩ = some (.slice (some ⟨bn, 0, none⟩) N N) := by simp [World.cell?, hT2, HTc.out]
            obtain ⟨z0, z1, z2⟩ := arc_cells hA2
            have hG2 := hG.below hb2
            have hR2 := (hR.below hB).below hb2
            have Hnx := hNx.step (k := k) (l := l) hkA (by rw [HA.out]; exact HL.out) hl1 hl27
            rw [HA.out] at Hnx
            have Hx : Hid (∀ W : World, SetRow W bn (N * 27) (updS gs (A.frm * 27 + l) (orS (gs (A.frm * 27 + l)) (f A.dst))) → (∀ b, b < wr2.heap.size → b ≠ bn → W.heap[b]? = wr2.heap[b]?) → wr2.heap.size ≤ W.heap.size → Below bn wr2 W → ∃ (k' : Nat) (gs : Nat → SetL), k' = k + 1 ∧ SetRow W bn (N * 27) gs ∧ NextTo n AA N f (k + 1) gs ∧ (∀ b, b < w9.heap.size → b ≠ bn → W.heap[b]? = w9.heap[b]?) ∧ w9.heap.size ≤ W.heap.size ∧ Below w5.heap.size w5 W) := fun W h1 h2 h3 h4 => ⟨_, _, rfl, h1, Hnx, fun b q1 q2 => (h2 b (by have := hb2.size; omega) q2).trans ((hb2.block b (by omega)).trans (hO b q1 q2)), by have := hb2.size; omega, (hB.trans (hb2.mono hB.size)).trans (h4.mono (by have := Hap.out; omega))⟩
            have hlx : A.frm * 27 + l < N * 27 := by omega
            obtain ⟨_, g0, g1, g2, g3, g4⟩ := hG2.c hlx
            have eoff : (A.frm * 27 + l) * 5 = A.frm * 135 + l * 5 := by omega
            rw [eoff] at g0 g1 g2 g3 g4
            have hltn := hG.lt
            clear hNx Hnx hG hO
            go_upto_region 15 with fail
            go_quiet (fail)
            have hdq : Below wr2.heap.size wr2 (wr2.drewN nq) := below_drewN (Below.refl _ _) nq
            obtain ⟨wr3, Hwr3⟩ : ∃ wr3, Hid (wr2.drewN nq = wr3) := ⟨_, rfl⟩
            rw [Hwr3.out] at hdq
            go_upto_region 16 with fail
            rw [Hwr3.out]
            have hA3 := (hdq.block _ (Array.getElem?_eq_some_iff.1 hA2).1).trans hA2
            have hG3 := hG2.below hdq
            have hR3 := hR2.below hdq
            clear z0 z1 z2 g0 g1 g2 g3 g4 hT5 hT2 Hwr3
            have Hall : Hid (∀ w' : World, Below wr3.heap.size wr3 w' → (fun w' => w'.cell? ⟨wr.heap.size, 2, none⟩ = some (.int .i64 (A.dst : Int)) ∧ w'.cell? ⟨Bf, A.dst * 5, none⟩ = some (.int .u64 ((f A.dst).at_ 0 : Nat)) ∧ w'.cell? ⟨Bf, A.dst * 5 + 1, none⟩ = some (.int .u64 ((f A.dst).at_ 1 : Nat)) ∧ w'.cell? ⟨Bf, A.dst * 5 + 2, none⟩ = some (.int .u64 ((f A.dst).at_ 2 : Nat)) ∧ w'.cell? ⟨Bf, A.dst * 5 + 3, none⟩ = some (.int .u64 ((f A.dst).at_ 3 : Nat)) ∧ w'.cell? ⟨Bf, A.dst * 5 + 4, none⟩ = some (.int .u64 ((f A.dst).at_ 4 : Nat))) w') := fun w' hb => by
              obtain ⟨_, _, y2⟩ := arc_cells ((hb.block _ (Array.getElem?_eq_some_iff.1 hA3).1).trans hA3)
              obtain ⟨_, r0, r1, r2, r3, r4⟩ := (hR3.below hb).c ay
              exact ⟨y2, r0, r1, r2, r3, r4⟩
            refine wp_region_held_drew (S := (fun w' => w'.cell? ⟨wr.heap.size, 2, none⟩ = some (.int .i64 (A.dst : Int)) ∧ w'.cell? ⟨Bf, A.dst * 5, none⟩ = some (.int .u64 ((f A.dst).at_ 0 : Nat)) ∧ w'.cell? ⟨Bf, A.dst * 5 + 1, none⟩ = some (.int .u64 ((f A.dst).at_ 1 : Nat)) ∧ w'.cell? ⟨Bf, A.dst * 5 + 2, none⟩ = some (.int .u64 ((f A.dst).at_ 2 : Nat)) ∧ w'.cell? ⟨Bf, A.dst * 5 + 3, none⟩ = some (.int .u64 ((f A.dst).at_ 3 : Nat)) ∧ w'.cell? ⟨Bf, A.dst * 5 + 4, none⟩ = some (.int .u64 ((f A.dst).at_ 4 : Nat)))) (by kernel_rfl) (Hall.out _ (Below.refl _ _).drew) (fun hH => ?_)
            refine wpAnyH_take (i := 0) rfl (by kernel_rfl) (by kernel_rfl) (by kernel_rfl) (fun _ _ _ h => h) (.inl ⟨by rfl, fun _ _ => rfl⟩) hH ?_
            simp only [List.getElem_toArray, List.getElem_cons_succ, List.getElem_cons_zero, Act.put, List.setIfInBounds_toArray, List.set_cons_zero, List.set_cons_succ]
            refine wpAnyH_take (i := 1) rfl (by kernel_rfl) (by kernel_rfl) (by kernel_rfl) (fun _ _ _ h => h) (.inl ⟨by rfl, fun _ _ => rfl⟩) hH ?_
            simp only [List.getElem_toArray, List.getElem_cons_succ, List.getElem_cons_zero, Act.put, List.setIfInBounds_toArray, List.set_cons_zero, List.set_cons_succ]
            refine wpAnyH_take (i := 2) (v := .pointer (some ⟨bn, A.frm * 135 + l * 5, none⟩)) rfl (by kernel_rfl) (by kernel_rfl) (by kernel_rfl) (fun _ _ _ h => h) (.inl ⟨by rfl, fun w' hS' => by first | (go_simp; done) | (go_simp; rfl) | (go_simp; intro h; omega)⟩) hH ?_
            simp only [List.getElem_toArray, List.getElem_cons_succ, List.getElem_cons_zero, Act.put, List.setIfInBounds_toArray, List.set_cons_zero, List.set_cons_succ]
            refine wpAnyH_take (i := 4) rfl (by kernel_rfl) (by kernel_rfl) (by kernel_rfl) (fun _ _ _ h => h) (.inl ⟨by rfl, fun _ _ => rfl⟩) hH ?_
            simp only [List.getElem_toArray, List.getElem_cons_succ, List.getElem_cons_zero, Act.put, List.setIfInBounds_toArray, List.set_cons_zero, List.set_cons_succ]
            refine wpAnyH_take (i := 5) (v := .pointer (some ⟨wr.heap.size, 2, none⟩)) rfl (by kernel_rfl) (by kernel_rfl) (by kernel_rfl) (fun _ _ _ h => h) (.inl ⟨by rfl, fun w' hS' => by first | (go_simp; done) | (go_simp; rfl) | (go_simp; intro h; omega)⟩) hH ?_
            simp only [List.getElem_toArray, List.getElem_cons_succ, List.getElem_cons_zero, Act.put, List.setIfInBounds_toArray, List.set_cons_zero, List.set_cons_succ]
            refine wpAnyH_take (i := 6) (v := .int .i64 (A.dst : Int)) rfl (by kernel_rfl) (by kernel_rfl) (by kernel_rfl) (fun _ _ _ h => h) (.inl ⟨by rfl, fun w' hS' => by obtain ⟨sa2, q0, q1, q2, q3, q4⟩ := hS'; go_simp⟩) hH ?_
            simp only [List.getElem_toArray, List.getElem_cons_succ, List.getElem_cons_zero, Act.put, List.setIfInBounds_toArray, List.set_cons_zero, List.set_cons_succ]
            refine wpAnyH_take (i := 7) (v := .pointer (some ⟨Bf, A.dst * 5, none⟩)) rfl (by kernel_rfl) (by kernel_rfl) (by kernel_rfl) (fun _ _ _ h => h) (.inl ⟨by rfl, fun w' hS' => by first | (go_simp; done) | (go_simp; rfl) | (go_simp; intro h; omega)⟩) hH ?_
            simp only [List.getElem_toArray, List.getElem_cons_succ, List.getElem_cons_zero, Act.put, List.setIfInBounds_toArray, List.set_cons_zero, List.set_cons_succ]
            refine wpAnyH_take (i := 8) (v := setV (f A.dst)) rfl (by kernel_rfl) (by kernel_rfl) (by kernel_rfl) (fun _ _ _ h => h) (.inl ⟨by rfl, fun w' hS' => by obtain ⟨sa2, q0, q1, q2, q3, q4⟩ := hS'; go_simp⟩) hH ?_
            simp only [List.getElem_toArray, List.getElem_cons_succ, List.getElem_cons_zero, Act.put, List.setIfInBounds_toArray, List.set_cons_zero, List.set_cons_succ]
            obtain ⟨_, g0, g1, g2, g3, g4⟩ := hG3.c hlx
            rw [eoff] at g0 g1 g2 g3 g4
            refine wpAnyH_ready (rs := [3]) (by kernel_rfl) (by simp) ?_
            refine AllReadyH.cons rfl (fun K hK => ?_) AllReadyH.nil
            simp only [List.getElem_toArray, List.getElem_cons_succ, List.getElem_cons_zero]
            rw [if_pos (by rfl)]
            go_wp2_with fail
            refine hK.out _ _ hH (fun hH => ?_)
            refine wpAnyH_ready (rs := [9]) (by kernel_rfl) (by simp) ?_
            refine AllReadyH.cons rfl (fun K hK => ?_) AllReadyH.nil
            simp only [List.getElem_toArray, List.getElem_cons_succ, List.getElem_cons_zero]
            rw [if_pos (by rfl)]
            go_wp2_with fail
            refine (or_any (gs (A.frm * 27 + l)) (f A.dst) _).mono ?_
            rintro e wr4 ⟨rfl, bo⟩
            have bo' : Below wr3.heap.size wr3 wr4 := (Below.refl wr3.heap.size wr3).drew.trans bo
            refine hK.out _ _ (Hall.out wr4 bo') (fun hH => ?_)
            refine wpAnyH_take (i := 10) (v := .pointer (some ⟨bn, A.frm * 135 + l * 5, none⟩)) rfl (by kernel_rfl) (by kernel_rfl) (by kernel_rfl) (fun _ _ _ h => h) (.inl ⟨by rfl, fun w' hS' => by first | (go_simp; done) | (go_simp; rfl) | (go_simp; intro h; omega)⟩) hH ?_
            simp only [List.getElem_toArray, List.getElem_cons_succ, List.getElem_cons_zero, Act.put, List.setIfInBounds_toArray, List.set_cons_zero, List.set_cons_succ]
            have hG4 := hG3.below bo'
            obtain ⟨_, o0, o1, o2, o3, o4⟩ := hG4.c hlx
            have f0 := hG4.frozen ((A.frm * 27 + l) * 5) (by omega)
            have f1 := hG4.frozen ((A.frm * 27 + l) * 5 + 1) (by omega)
            have f2 := hG4.frozen ((A.frm * 27 + l) * 5 + 2) (by omega)
            have f3 := hG4.frozen ((A.frm * 27 + l) * 5 + 3) (by omega)
            have f4 := hG4.frozen ((A.frm * 27 + l) * 5 + 4) (by omega)
            obtain ⟨W5, HW5, hR5, hB5, ho5, hz5⟩ := hG4.store hlx (orS (gs (A.frm * 27 + l)) (f A.dst))
            rw [eoff] at o0 o1 o2 o3 o4 f0 f1 f2 f3 f4 HW5
            refine wpAnyH_ready (rs := [11]) (by kernel_rfl) (by simp) ?_
            refine AllReadyH.cons rfl (fun K hK => ?_) AllReadyH.nil
            simp only [List.getElem_toArray, List.getElem_cons_succ, List.getElem_cons_zero]
            rw [if_pos (by rfl)]
            go_wp2_with fail
            rw [HW5.out]
            have hS5 : (fun w' => w'.cell? ⟨wr.heap.size, 2, none⟩ = some (.int .i64 (A.dst : Int)) ∧ w'.cell? ⟨Bf, A.dst * 5, none⟩ = some (.int .u64 ((f A.dst).at_ 0 : Nat)) ∧ w'.cell? ⟨Bf, A.dst * 5 + 1, none⟩ = some (.int .u64 ((f A.dst).at_ 1 : Nat)) ∧ w'.cell? ⟨Bf, A.dst * 5 + 2, none⟩ = some (.int .u64 ((f A.dst).at_ 2 : Nat)) ∧ w'.cell? ⟨Bf, A.dst * 5 + 3, none⟩ = some (.int .u64 ((f A.dst).at_ 3 : Nat)) ∧ w'.cell? ⟨Bf, A.dst * 5 + 4, none⟩ = some (.int .u64 ((f A.dst).at_ 4 : Nat))) W5 := by
              have hA5 := (ho5 wr.heap.size (by omega)).trans ((bo'.block _ (Array.getElem?_eq_some_iff.1 hA3).1).trans hA3)
              obtain ⟨_, _, y2⟩ := arc_cells hA5
              have hR5' := ((hR3.below bo').keep (w' := W5) (by omega) (ho5 Bf (by have := Hap.out; have := hR.lt; omega)))
              obtain ⟨_, r0, r1, r2, r3, r4⟩ := hR5'.c ay
              exact ⟨y2, r0, r1, r2, r3, r4⟩
            refine hK.out _ _ hS5 (fun hH => ?_)
            refine wpAnyH_done (by kernel_rfl) ?_ _
            obtain ⟨k', gs', rfl, m1, m2, m3, m4, m5⟩ := Hx.out W5 hR5 (fun b q1 q2 => (ho5 b q2).trans ((bo'.block b (by have := hdq.size; omega)).trans (hdq.block b q1))) (by have := hdq.size; have := bo'.size; omega) ((hdq.mono (Nat.le_of_lt hG2.lt)).trans ((bo'.mono (Nat.le_of_lt hG3.lt)).trans hB5))
            clear hG2 hG3 hR2 hR3 hG4 o0 o1 o2 o3 o4 f0 f1 f2 f3 f4 g0 g1 g2 g3 g4 Hall hS5 hH HW5 hR5 hB5 ho5 hz5 Hx
            go_wp2
            go_roundg (gk - 1)
            case measure => omega
            case rel => exact ⟨k + 1, gs', by omega, by go_num, m1, m2, m3, m4, m5⟩
          · have hgt : decide (labT n A.tran > 0) = false := by rw [decide_eq_false_iff_not]; omega
            have Hnx := hNx.skip hkA (by rw [HA.out]; omega)
            have m1 := hG.below hb2
            have m3 : ∀ b, b < w9.heap.size → b ≠ bn → wr2.heap[b]? = w9.heap[b]? := fun b q1 q2 => (hb2.block b (by omega)).trans (hO b q1 q2)
            have m4 : w9.heap.size ≤ wr2.heap.size := Nat.le_trans hsz hb2.size
            have m5 := hB.trans (hb2.mono hB.size)
            have HO : Hid _ := m3
            clear hNx hG hO m3
            go_wp2
            go_roundg (gk - 1)
            case measure => omega
            case rel => exact ⟨k + 1, gs, by omega, by go_num, m1, Hnx, HO.out, m4, m5⟩
        · obtain rfl : k = la := by omega
          clear hk
          have R : Hid (Heard wr n i o (some ⟨T, 0, none⟩) 0) := by
            have hap := Hap.out
            have hTl := (Array.getElem?_eq_some_iff.1 HTc.out).1
            refine .inr ⟨rfl, HS.out, s, HG.out, T, bn, _, ⟨N, f 0, fun m c => gs (m * 27 + c), (List.range N).map lf⟩, rfl, ⟨(hO T hTl (by omega)).trans HTc.out, fun m c' hm hc => ?_, ?_, by simp, hN⟩, ?_⟩
            · have := hG.c (m := m * 27 + c') (by show m * 27 + c' < N * 27; simp only at hm; omega)
              rw [show (m * 27 + c') * 5 = m * 135 + c' * 5 by omega] at this
              exact this
            · refine ⟨_, _, _, rfl, by simp, by omega, ⟨Nat.le_refl _, by omega, fun h => by cases h⟩, fun j hj => ⟨Bl, 0, rfl, by have := HIR.out.lt; omega, ?_⟩⟩
              have hj' : j < N := by simpa using hj
              rw [Nat.zero_add, World.cell?_of_block (a := ⟨Bl, j, none⟩) (hO Bl HIR.out.lt (by omega)), HIR.out.cells j hj']
              simp [nth, List.getD, hj']
            · have hlf : ∀ m, m < N → nth ((List.range N).map lf) m = lf m := fun m hm => by simp [nth, List.getD, hm]
              have hNl : s.marks.length = N := HN.out
              refine ⟨hNl.symm, fun j hj => by rw [HAA.out]; exact hFar 0 hN0 j hj, ?_, ?_⟩
              · rw [HAA.out]
                have := NextTo.done (N := N) (by rw [← Hlaa.out]; exact hNx) hFar (fun a ha => (Harcs.out a ha).2.1)
                exact this
              · refine ⟨fun m hm => by rw [hlf m (by omega)]; exact hLA.pos m hm, fun m hm h => ?_, fun m hm w' h => ?_⟩
                · rw [hlf m (by omega)] at h ⊢; exact hLA.sound m hm h
                · rw [hlf m (by omega)]; exact hLA.least m hm w' h
          have Rb : Below w.heap.size w wr := c5.trans (hB.mono c5.size)
          clear hG hNx hO
          have hkk : decide ((k : Int) < (k : Int)) = false := by simp
          go_wp2
          go_ret2
          exact ⟨_, _, rfl, R.out, Rb⟩
    · have hdd : (dg != 0) = true := by simpa using hg0
      have HV : Hid (Heard w4 n i o none dg) := .inl ⟨hg0, rfl, .inr ⟨HS.out, by rw [HG.out]⟩⟩
      clear hv hg0 hbx HG Hfl hSp hbs
      go_wp2
      go_ret2
      exact ⟨none, dg, rfl, HV.out, c⟩
  · have hdd : (d != 0) = true := by simpa using hd0
    have HV : Hid (Heard w1 n i o none d) := .inl ⟨hd0, rfl, .inl hd⟩
    clear hv hd hd0 hbx
    go_wp2
    go_ret2
    exact ⟨none, d, rfl, HV.out, c⟩

end Go.Proofs.YtffaamljogbmlaaDoor

/- Where one is behind the beginning of a word, plainly. -/
namespace Go.Proofs.YtffaamljogbmlaaDoor
set_option linter.unusedVariables false
set_option maxRecDepth 4000

/-- These are the marks where one can be behind ws. -/
def AtW (n : NetL) (s : SpaceL) (ws : List Int) (u : SetL) : Prop := ∀ j, j < 320 → (u.has j = true ↔ Way s.arcs (labT n) 0 ws j)
theorem AtW.lt {n : NetL} {S : List Int} {s : SpaceL} {ws : List Int} {u : SetL} (h : AtW n s ws u) (hW : Whole n S s) : ∀ m, m < 320 → u.has m = true → m < s.marks.length := fun m hm hh =>
  ((h m hm).1 hh).end_lt (fun a ha => (hW.sound a ha).2.1) hW.here.1
theorem AtW.behind {n : NetL} {S E : List Int} {s : SpaceL} {t : TalkL} {ws : List Int} {l : Int} {u u' : SetL} (h : AtW n s ws u) (hW : Whole n S s) (hN : s.marks.length ≤ 300) (hok : netOk n = true) (hT : TalkOk n s E t) (hb : BehindT t u l u') : AtW n s (ws ++ [l]) u' := by
  intro j hj
  rw [hb j hj, Way.last]
  constructor
  · rintro ⟨h1, h2, m, hm, hu, hn⟩
    obtain ⟨a, ha, q1, q2, q3⟩ := (hT.next m l.toNat hm (by omega) (by omega) j hj).1 hn
    refine ⟨a, ha, ?_, by rw [q2]; omega, by omega, q3⟩
    rw [q1]
    exact (h m (by have := hT.size; omega)).1 hu
  · rintro ⟨a, ha, h1, h2, h3, h4⟩
    obtain ⟨b1, b2, b3, _⟩ := hW.sound a ha
    have hl := lab_ok hok _ b3
    rw [h2] at hl
    have hsz := hT.size
    refine ⟨by omega, hl.2, a.frm, by omega, (h a.frm (by omega)).2 h1, ?_⟩
    exact (hT.next a.frm l.toNat (by omega) (by omega) (by omega) j hj).2 ⟨a, ha, rfl, by rw [h2]; omega, h4⟩
theorem AtW.none {n : NetL} {S E : List Int} {s : SpaceL} {ws r : List Int} {u : SetL} (h : AtW n s ws u) (hW : Whole n S s) (hN : s.marks.length ≤ 300) (he : emptyS u = true) : ¬ ToEnd n s E 0 (ws ++ r) := by
  rintro ⟨e, _, _, hw⟩
  obtain ⟨m, h1, h2⟩ := hw.split
  have hm : m < s.marks.length := h1.end_lt (fun a ha => (hW.sound a ha).2.1) hW.here.1
  have := (h m (by omega)).2 h1
  rw [(emptyS_iff u).1 he m (by omega)] at this
  cases this
theorem AtW.ends {n : NetL} {S E : List Int} {s : SpaceL} {t : TalkL} {ws : List Int} {u : SetL} {b : Bool} (h : AtW n s ws u) (hW : Whole n S s) (hN : s.marks.length ≤ 300) (hT : TalkOk n s E t) (he : endsT t u b) : b = true ↔ ToEnd n s E 0 ws := by
  have hsz := hT.size
  unfold endsT at he
  rw [he]
  constructor
  · rintro ⟨m, h1, h2, h3⟩
    obtain ⟨e, q1, q2, q3⟩ := (hT.least.zero (m := m) (by omega)).1 h3
    have := ((h m (by omega)).1 h2).append q3
    rw [List.append_nil] at this
    exact ⟨e, q1, q2, this⟩
  · rintro ⟨e, q1, q2, q3⟩
    exact ⟨e, by omega, (h e (by omega)).2 q3, (hT.least.zero q1).2 ⟨e, q1, q2, Way.here _⟩⟩
theorem TalkOk.start {n : NetL} {E : List Int} {s : SpaceL} {t : TalkL} (hT : TalkOk n s E t) : AtW n s [] t.bg := hT.bg

/-- Which error is told first. -/
def TongErr (n : NetL) (i o d : Int) : Prop := (¬ d = 0 ∧ Judged n i o d) ∨ (ShapeOk n i o ∧ (graphL n (startL n.places i) 300).2 = d)
theorem TongErr.unique {n : NetL} {i o d e : Int} (h : TongErr n i o d) (k : TongErr n i o e) : d = e := by
  rcases h with ⟨h1, h2⟩ | ⟨h1, h2⟩ <;> rcases k with ⟨k1, k2⟩ | ⟨k1, k2⟩
  · exact h2.unique k2
  · exact absurd k1 (h2.not_zero h1)
  · exact absurd h1 (k2.not_zero k1)
  · rw [← h2, ← k2]
/-- Is it a word of the net? -/
def WordI (n : NetL) (i o : Int) (ws : List Int) : Prop := WordN n (startL n.places i) (startL n.places o) ws
structure HasAns (n : NetL) (i o : Int) (ws : List Int) (b : Bool) (d : Int) : Prop where
  err : TongErr n i o d
  bad : ¬ d = 0 → b = false
  ok : d = 0 → (b = true ↔ WordI n i o ws)
theorem HasAns.unique {n : NetL} {i o : Int} {ws : List Int} {b c : Bool} {d e : Int} (h : HasAns n i o ws b d) (k : HasAns n i o ws c e) : b = c ∧ d = e := by
  obtain rfl := h.err.unique k.err
  refine ⟨?_, rfl⟩
  by_cases hd : d = 0
  · rw [Bool.eq_iff_iff, h.ok hd, k.ok hd]
  · rw [h.bad hd, k.bad hd]
structure LeastAns (n : NetL) (i o : Int) (k d : Int) : Prop where
  ex : ∃ d0, TongErr n i o d0 ∧ (¬ d0 = 0 → k = 0 ∧ d = d0) ∧ (d0 = 0 → (d = 3 ∧ k = 0 ∧ ∀ ws, ¬ WordI n i o ws) ∨ (d = 0 ∧ ∃ ws, WordI n i o ws ∧ (ws.length : Int) = k ∧ ∀ ws', WordI n i o ws' → k ≤ ws'.length))
theorem LeastAns.unique {n : NetL} {i o k d k' d' : Int} (h : LeastAns n i o k d) (h' : LeastAns n i o k' d') : k = k' ∧ d = d' := by
  obtain ⟨d0, h1, h2, h3⟩ := h.ex
  obtain ⟨d0', h1', h2', h3'⟩ := h'.ex
  obtain rfl := h1.unique h1'
  by_cases hd : d0 = 0
  · rcases h3 hd with ⟨q1, q2, q3⟩ | ⟨q1, ws, q2, q3, q4⟩ <;> rcases h3' hd with ⟨r1, r2, r3⟩ | ⟨r1, ws', r2, r3, r4⟩
    · exact ⟨by omega, by omega⟩
    · exact absurd r2 (q3 _)
    · exact absurd q2 (r3 _)
    · have := q4 _ r2; have := r4 _ q2; exact ⟨by omega, by omega⟩
  · obtain ⟨q1, q2⟩ := h2 hd
    obtain ⟨r1, r2⟩ := h2' hd
    exact ⟨by omega, by omega⟩

theorem heard_err {w' : World} {n : NetL} {i o : Int} {p : Option Addr} {d : Int} (h : Heard w' n i o p d) : TongErr n i o d := by
  rcases h with ⟨h1, _, h2 | ⟨h2, h3⟩⟩ | ⟨h1, h2, s, h3, _⟩
  · exact .inl ⟨h1, h2⟩
  · exact .inr ⟨h2, h3⟩
  · exact .inr ⟨h2, by rw [h3, h1]⟩

end Go.Proofs.YtffaamljogbmlaaDoor

/- Package tongue as it landed: Has and Least. -/
namespace Go.Proofs.YtffaamljogbmlaaDoor
open Go.RowKit
set_option linter.unusedVariables false
set_option maxRecDepth 4000

theorem ints_at {w : World} {a : Option Addr} {len cap : Nat} {xs : List Int} (h : Ints w (.slice a len cap) xs) {k : Nat} (hk : k < len) : ∃ b off, a = some ⟨b, off, none⟩ ∧ b < w.heap.size ∧ w.cell? ⟨b, off + k, none⟩ = some (.int .i64 (nth xs k)) := by
  obtain ⟨a', len', cap', e, hl, hm, hs, hr⟩ := h
  injection e with e1 e2 e3
  subst e1 e2 e3
  exact hr k (by omega)

set_option maxRecDepth 100000 in
set_option maxHeartbeats 4000000 in
theorem tongue_has (v u : Value) (n : NetL) (i o : Int) (ws : List Int) (w : World) (hv : Net w v n) (hu : Ints w u ws) (hTab : Tab w) :
    Calls Tryd.prog 10 #[v, .int .i64 i, .int .i64 o, u] w fun e w' => ∃ b d, e = .returned (.tuple #[.bool b, .int .i64 d]) ∧ HasAns n i o ws b d ∧ Below w.heap.size w w' := by
  obtain ⟨tv, rfl, hT⟩ := hv
  have c : Below w.heap.size w (w.alloc (.cells #[.int .i64 n.places, tv] 24)) := below_new _ _
  have hbx := box2_new w (.int .i64 n.places) tv 24
  obtain ⟨w0, Hw0⟩ : ∃ w0, Hid (w.alloc (.cells #[.int .i64 n.places, tv] 24) = w0) := ⟨_, rfl⟩
  rw [Hw0.out] at c hbx
  have hv : Net w0 (.agg #[.int .i64 n.places, tv]) n := ⟨_, rfl, hT.below c⟩
  obtain ⟨x0, x1, x2⟩ := id hbx
  obtain ⟨au, lu, cu, rfl, hlu, hmu, hsu, hru⟩ := id hu
  have Hlu : Hid _ := hlu
  clear hlu
  go_enter Tryd.func10, Tryd.ntmps10
  go_upto_region 1 with fail
  rw [Hw0.out]
  clear Hw0
  go_wp2_with fail
  clear x0 x1 x2
  refine (heard_any _ n i o _ (by exact hv)).mono ?_
  rintro e w1 ⟨p, d, rfl, hH, b⟩
  have HE := heard_err hH
  replace c := below_then c b
  clear b hv hbx
  rcases hH with ⟨hd0, rfl, _⟩ | ⟨rfl, hS, s, hG, T, bn, lv, t, rfl, hTa, hTk⟩
  · have hdd : (d != 0) = true := by simpa using hd0
    go_wp2
    go_ret2
    exact ⟨false, d, rfl, ⟨HE, fun _ => rfl, fun h => absurd h hd0⟩, c⟩
  · have hW := graphL_whole hG
    have hN : s.marks.length ≤ 300 := by have := graphL_small n (startL n.places i) 300; rw [hG] at this; exact this
    have hwd : ∀ ws, WordI n i o ws ↔ ToEnd n s (startL n.places o) 0 ws := fun ws => hW.word
    have t0 : w1.cell? ⟨T, 0, none⟩ = some (.int .u64 (t.bg.at_ 0 : Nat)) := by simp [World.cell?, hTa.cells]
    have t1 : w1.cell? ⟨T, 1, none⟩ = some (.int .u64 (t.bg.at_ 1 : Nat)) := by simp [World.cell?, hTa.cells]
    have t2 : w1.cell? ⟨T, 2, none⟩ = some (.int .u64 (t.bg.at_ 2 : Nat)) := by simp [World.cell?, hTa.cells]
    have t3 : w1.cell? ⟨T, 3, none⟩ = some (.int .u64 (t.bg.at_ 3 : Nat)) := by simp [World.cell?, hTa.cells]
    have t4 : w1.cell? ⟨T, 4, none⟩ = some (.int .u64 (t.bg.at_ 4 : Nat)) := by simp [World.cell?, hTa.cells]
    have bn2 := below_new w1 (.cells (setC t.bg) 56)
    have hA2 := setAt_new w1 t.bg
    obtain ⟨w2, Hw2⟩ : ∃ w2, Hid (w1.alloc (.cells (setC t.bg) 56) = w2) := ⟨_, rfl⟩
    rw [Hw2.out] at bn2 hA2
    have e2 : w1.alloc (.cells #[.int .u64 (t.bg.at_ 0 : Nat), .int .u64 (t.bg.at_ 1 : Nat), .int .u64 (t.bg.at_ 2 : Nat), .int .u64 (t.bg.at_ 3 : Nat), .int .u64 (t.bg.at_ 4 : Nat)] 56) = w2 := Hw2.out
    have He2 : Hid _ := e2
    clear e2 Hw2
    have HtTa : Hid _ := hTa
    go_upto_region 5 with fail
    rw [He2.out]
    clear He2 t0 t1 t2 t3 t4
    go_wp2_with fail
    have Hst : Hid (AtW n s ([] : List Int) t.bg) := hTk.start
    go_loopg [31] lu (fun g x wr => ∃ (k : Nat) (q : SetL), k + g = lu ∧ x = .int .i64 (k : Int) ∧ SetAt wr w1.heap.size q ∧ AtW n s (ws.take k) q ∧ Below w1.heap.size w1 wr)
    case atStart => exact ⟨0, t.bg, by omega, rfl, hA2, by simpa using Hst.out, bn2⟩
    case round =>
      obtain ⟨k, q, hkg, rfl, hA, hAt, hB⟩ := hrel
      have hTr := HtTa.out.below hB
      have hTb := (hTab.below c).below hB
      have hqn : ∀ m, m < 320 → q.has m = true → m < t.n := fun m h1 h2 => by rw [hTk.size]; exact hAt.lt hW m h1 h2
      obtain ⟨_, q0, q1, q2, q3, q4⟩ := hA.c
      simp only [Nat.zero_add] at q1 q2 q3 q4
      by_cases hk : k < lu
      · have hk' : decide ((k : Int) < (lu : Int)) = true := by rw [decide_eq_true_eq]; omega
        obtain ⟨b1, o1, rfl, hb1, ec⟩ := ints_at ((hu.below c).below hB) hk
        go_wp2_with fail
        refine (tbehind_any T bn lv t q _ wr hTr hTb hqn).mono ?_
        rintro e w3 ⟨q', rfl, hBe, b3⟩
        have hlk : k < ws.length := by have := Hlu.out; omega
        have hAt' : AtW n s (ws.take (k + 1)) q' := by
          have := hAt.behind hW hN hS.ok hTk hBe
          rw [List.take_succ_eq_append_getElem hlk]
          have e : ws[k] = nth ws k := by simp [nth, List.getD, hlk]
          rw [e]; exact this
        have hA3 := hA.below b3
        obtain ⟨_, r0, r1, r2, r3, r4⟩ := hA3.c
        simp only [Nat.zero_add] at r1 r2 r3 r4
        have f0 := hA3.frozen 0
        have f1 := hA3.frozen 1
        have f2 := hA3.frozen 2
        have f3 := hA3.frozen 3
        have f4 := hA3.frozen 4
        obtain ⟨w4, Hw4, hA4, hB4, ho4, hz4⟩ := hA3.store q'
        have hB04 : Below w1.heap.size w1 w4 := (hB.trans (b3.mono hB.size)).trans hB4
        clear q0 q1 q2 q3 q4 hA ec hA3
        go_upto_region 9 with fail
        rw [Hw4.out]
        clear r0 r1 r2 r3 r4 f0 f1 f2 f3 f4 Hw4 ho4 hz4
        obtain ⟨_, r0, r1, r2, r3, r4⟩ := hA4.c
        simp only [Nat.zero_add] at r1 r2 r3 r4
        go_wp2_with fail
        refine (empty_any q' w4).mono ?_
        rintro e w5 ⟨rfl, b5⟩
        have hA5 := hA4.below b5
        have hB5 := hB04.trans (b5.mono hB04.size)
        cases hem : emptyS q'
        · clear r0 r1 r2 r3 r4 hA4
          go_wp2
          go_roundg (gk - 1)
          case measure => omega
          case rel => exact ⟨k + 1, q', by omega, by go_num, hA5, hAt', hB5⟩
        · have R : ¬ WordI n i o ws := by
            rw [hwd]
            have := hAt'.none (E := startL n.places o) (r := ws.drop (k + 1)) hW hN hem
            rwa [List.take_append_drop] at this
          clear r0 r1 r2 r3 r4 hA4
          go_wp2
          go_ret2
          exact ⟨false, 0, rfl, ⟨HE, fun _ => rfl, fun _ => ⟨fun h => (by cases h), fun h => absurd h R⟩⟩, c.trans (hB5.mono c.size)⟩
      · obtain rfl : k = lu := by omega
        clear hk
        have hkk : decide ((k : Int) < (k : Int)) = false := by simp
        have e : ws.take k = ws := List.take_of_length_le (by have := Hlu.out; omega)
        rw [e] at hAt
        go_wp2_with fail
        refine (mayEnd_any T bn lv t q wr hTr hTb hqn).mono ?_
        rintro e w3 ⟨b, rfl, hEnd, b3⟩
        have R := hAt.ends hW hN hTk hEnd
        go_wp2
        go_ret2
        exact ⟨b, 0, rfl, ⟨HE, fun h => absurd rfl h, fun _ => by rw [hwd]; exact R⟩, (c.trans (hB.mono c.size)).trans (b3.mono (Nat.le_trans c.size hB.size))⟩

end Go.Proofs.YtffaamljogbmlaaDoor
