import Derived.Test.YteoofibhpifmlaaDoorGr11
import Derived.Test.YteoofibhpifmlaaDoorGr05
import Derived.Test.YteoofibhpifmlaaDoorGr07
import Derived.Test.YteoofibhpifmlaaDoorGr02
import Derived.Deep.RegionHeld3
import Derived.Test.YteoofibhpifmlaaDoorGr00
import Derived.BigQuiet
/- The document's own answers for tongue: a net's space and where its end is, walked. -/
namespace Go.Proofs.YteoofibhpifmlaaDoor
open Go.RowKit
set_option linter.unusedVariables false
set_option linter.unusedSimpArgs false
set_option maxRecDepth 4000

/-- Where the last mark that is E lies among the first k. -/
def EndAt (l : List (List Int)) (E : List Int) (k : Nat) (a : Int) : Prop := (a = -1 ∧ ∀ j, j < k → markAt l j ≠ E) ∨ ∃ g : Nat, a = g ∧ g < k ∧ markAt l g = E
theorem EndAt.zero (l : List (List Int)) (E : List Int) : EndAt l E 0 (-1) := .inl ⟨rfl, fun j hj => absurd hj (Nat.not_lt_zero _)⟩
theorem EndAt.yes {l : List (List Int)} {E : List Int} {k : Nat} (he : markAt l k = E) : EndAt l E (k + 1) k := .inr ⟨k, rfl, by omega, he⟩
theorem EndAt.no {l : List (List Int)} {E : List Int} {k : Nat} {a : Int} (h : EndAt l E k a) (he : markAt l k ≠ E) : EndAt l E (k + 1) a := by
  rcases h with ⟨e, h⟩ | ⟨g, e, hg, h⟩
  · refine .inl ⟨e, fun j hj => ?_⟩
    by_cases q : j = k
    · rw [q]; exact he
    · exact h j (by omega)
  · exact .inr ⟨g, e, by omega, h⟩

/-- What lspace tells. -/
def Lsp (n : NetL) (i o : Int) (s : SpaceL) (a d : Int) : Prop :=
  (¬ d = 0 ∧ Judged n i o d) ∨ (ShapeOk n i o ∧ graphL n (startL n.places i) 300 = (s, d) ∧ EndAt s.marks (startL n.places o) s.marks.length a)

set_option maxHeartbeats 4000000 in
theorem lspace_any (v : Value) (n : NetL) (i o : Int) (w : World) (hv : Net w v n) (hsm : SmallNet n) :
    Calls Tryd.prog 19 #[v, .int .i64 i, .int .i64 o] w fun e w' => ∃ r s a d, e = .returned (.tuple #[r, .int .i64 a, .int .i64 d]) ∧ (Space w' r s ∧ Lsp n i o s a d) ∧ Below w.heap.size w w' := by
  obtain ⟨tv, rfl, hT⟩ := hv
  obtain ⟨w0, Hw0⟩ : ∃ w0, Hid ((w.alloc (.cells #[.int .i64 n.places, tv] 24)).alloc (.cells #[.slice none 0 0, .slice none 0 0] 56) = w0) := ⟨_, rfl⟩
  have b1 := below_new w (.cells #[.int .i64 n.places, tv] 24)
  have b2 := below_new (w.alloc (.cells #[.int .i64 n.places, tv] 24)) (.cells #[.slice none 0 0, .slice none 0 0] 56)
  have c : Below w.heap.size w w0 := by rw [← Hw0.out]; exact below_then b1 b2
  have hbx : Box2 w0 w.heap.size (.int .i64 n.places) tv := by rw [← Hw0.out]; exact (box2_new w _ tv 24).below b2
  have hva : NilBox w0 (w.heap.size + 1) := by
    rw [← Hw0.out]
    have e : (w.alloc (.cells #[.int .i64 n.places, tv] 24)).heap.size = w.heap.size + 1 := by simp
    rw [← e]
    exact nilBox_new _
  have hv : Net w0 (.agg #[.int .i64 n.places, tv]) n := ⟨_, rfl, hT.below c⟩
  clear b1 b2
  obtain ⟨x0, x1, x2⟩ := id hbx
  go_enter Tryd.func19, Tryd.ntmps19
  go_upto_region 1 with fail
  rw [Hw0.out]
  clear Hw0
  go_wp2_with fail
  clear x0 x1 x2
  refine (hwrong_any _ n i o _ (by exact hv) hsm).mono ?_
  rintro e w1 ⟨d, rfl, hd, b⟩
  replace hbx := hbx.below b
  replace hva := hva.below b
  replace hv := hv.below b
  replace c := below_then c b
  clear b
  by_cases hd0 : d = 0
  · subst hd0
    have hS := hd.zero
    have HS : Hid _ := hS
    clear hd
    obtain ⟨x0, x1, x2⟩ := id hbx
    go_upto_region 4 with fail
    have hdr : Below w1.heap.size w1 w1.drew := (Below.refl _ _).drew
    have hvd := hv.below hdr
    have hvn := hvd.below (below_new w1.drew (.cells #[.slice none 0 0, .slice none 0 0] 56))
    have Hne : Hid (startL n.places i ≠ []) := by intro e; have h1 := start_len hS.ok i; have h2 := shape_two hS; rw [e] at h1; simp at h1; omega
    have Hsl : Hid ((startL n.places i).length ≤ 17592186044416) := by have := start_length n.places i; show _ ≤ _; omega
    obtain ⟨G, HG⟩ : ∃ G, Hid (graphL n (startL n.places i) 300 = G) := ⟨_, rfl⟩
    have Hfl : Hid (∀ j, j < G.1.marks.length → markAt G.1.marks j ≠ []) := by have := graph_full (n := n) (most := 300) Hne.out; rw [HG.out] at this; exact this
    go_cut [10, 11] (fun p q wc => ∃ bx mv av, p = .pointer (some ⟨bx, 0, none⟩) ∧ q = .int .i64 G.2 ∧ Box2 wc bx mv av ∧ Space wc (.agg #[mv, av]) G.1 ∧ Below w1.heap.size w1 wc)
    case first =>
      go_region_held3 (fun w' => w'.cell? ⟨w.heap.size, 0, none⟩ = some (.int .i64 n.places) ∧ w'.cell? ⟨w.heap.size, 1, none⟩ = some tv)
        (first | exact ⟨f1, f2⟩ | go_keep)
        (first
          | (go_at_call 38; refine (hstart_own _ n i _ ?_).mono ?_; (first | exact hvd | exact hvn); rintro e w2 ⟨r1, rfl, hO⟩; have hI := hO.ints Hsl.out; (first | (have hnb : NilBox w2 w1.heap.size := (nilBox_new w1.drew).below hO.2.1; have q2 := below_then (below_then hdr (below_new w1.drew (.cells #[.slice none 0 0, .slice none 0 0] 56))) hO.2.1) | (have q2 := below_then hdr hO.2.1)); have hv2 := hv.below q2; obtain ⟨y0, y1, y2⟩ := hbx.below q2)
          | (go_at_call 37; refine (dgraph_any _ _ n (startL n.places i) 300 _ ?_ ?_ hsm).mono ?_; (first | exact hv2 | exact hv2.below (below_new w2 (.cells #[.slice none 0 0, .slice none 0 0] 56))); (first | exact hI | exact hI.below (below_new w2 (.cells #[.slice none 0 0, .slice none 0 0] 56))); rw [HG.out]; rintro e w3 ⟨r2, rfl, hSp, b3⟩; (first | (have hnb3 := (nilBox_new w2).below b3; have q3 := below_then q2 (below_then (below_new w2 (.cells #[.slice none 0 0, .slice none 0 0] 56)) b3); have hlt3 : w.heap.size < w2.heap.size := y0) | (have hnb3 := hnb.below b3; have q3 := below_then q2 b3; have hlt3 : w.heap.size < w1.heap.size := x0) | (have q3 := below_then q2 b3)); obtain ⟨mv, av, rfl, hMv, hAv⟩ := id hSp; obtain ⟨am, cm, rfl, _, _⟩ := hMv.slice; obtain ⟨aa, ca, hav, _⟩ := hAv.slice; rw [List.length_map] at hav; subst hav; obtain ⟨z0, z1, z2⟩ := hbx.below q3; (first | (obtain ⟨n0, n1, n2, n3, n4⟩ := hnb3.at; have hf := hnb3.fill hSp Hfl.out; have f1 := (hf.2.2.cell (p := ⟨w.heap.size, 0, none⟩) hlt3).trans z1; have f2 := (hf.2.2.cell (p := ⟨w.heap.size, 1, none⟩) hlt3).trans z2) | skip)))
      all_goals
        go_wp2_with fail
        go_meet
        first
          | exact ⟨_, _, _, rfl, rfl, hf.2.1, hf.1, q3.trans (hf.2.2.mono (Nat.le_refl _))⟩
          | exact ⟨_, _, _, rfl, rfl, hf.2.1, hf.1, q3.trans (hf.2.2.mono q2.size)⟩
          | exact ⟨_, _, _, rfl, rfl, box2_new w3 _ _ _, hSp.below (below_new w3 _), below_then q3 (below_new w3 _)⟩
    obtain ⟨bx, mv, av, rfl, rfl, hbs, hSp, b4⟩ := hcut
    obtain ⟨w4, rfl⟩ : ∃ w0, w0 = wc := ⟨_, rfl⟩
    replace hbx := hbx.below b4
    replace hva := hva.below b4
    replace hv := hv.below b4
    replace c := below_then c b4
    clear hvd hvn hdr b4 x0 x1 x2 Hne Hsl
    obtain ⟨s, dg⟩ := G
    simp only at hSp Hfl ⊢
    have Hsm : Hid (s.marks.length ≤ 300) := by have := graphL_small n (startL n.places i) 300; rw [HG.out] at this; exact this
    obtain ⟨hMk, hAk⟩ : Lists w4 mv s.marks ∧ Arcs w4 av (s.arcs.map arcZ) := by obtain ⟨mv', av', e, h1, h2⟩ := hSp; injection e with e; injection e with e; simp at e; obtain ⟨rfl, rfl⟩ := e; exact ⟨h1, h2⟩
    obtain ⟨am, cm, rfl, _, _⟩ := hMk.slice
    obtain ⟨aa, ca, rfl, _⟩ := hAk.slice
    obtain ⟨lm, Hlm⟩ : ∃ lm, Hid (s.marks.length = lm) := ⟨_, rfl⟩
    obtain ⟨la, Hla⟩ : ∃ la, Hid ((s.arcs.map arcZ).length = la) := ⟨_, rfl⟩
    rw [Hlm.out] at hbs hMk hSp
    rw [Hla.out] at hbs hSp
    have hlm : lm ≤ 300 := by rw [← Hlm.out]; exact Hsm.out
    clear hAk
    obtain ⟨E, HE⟩ : ∃ E, Hid (startL n.places o = E) := ⟨_, rfl⟩
    have HEl : Hid (E.length ≤ 17592186044416) := by have := start_length n.places o; rw [HE.out] at this; show _ ≤ _; omega
    obtain ⟨y0, y1, y2⟩ := id hbs
    go_wp2_with fail
    clear y0 y1 y2
    go_loopg [12, 34] lm (fun g a i wr => ∃ (k : Nat) (z : Int), k + g = lm ∧ i = .int .i64 k ∧ a = .int .i64 z ∧ Hid (EndAt s.marks E k z) ∧ Below w4.heap.size w4 wr)
    case atStart => exact ⟨0, -1, by omega, rfl, rfl, EndAt.zero _ _, Below.refl _ _⟩
    case round =>
      obtain ⟨k, z, hkg, rfl, rfl, Hat, hb⟩ := hrel
      by_cases hk : k < lm
      · obtain ⟨b1, o1, u1, rfl, _, c1, i1⟩ := (hMk.below hb).at hk
        obtain ⟨x0, x1, x2⟩ := hbx.below hb
        obtain ⟨X, HX⟩ : ∃ X, Hid (markAt s.marks k = X) := ⟨_, rfl⟩
        rw [HX.out] at i1
        obtain ⟨au, lu, cu, rfl, _⟩ := id i1
        go_wp2_with fail
        refine (hstart_own _ n o _ (by exact hv.below hb)).mono ?_
        rintro e w5 ⟨ev, rfl, hO⟩
        rw [HE.out] at hO
        have hE := hO.ints HEl.out
        have b5 := hO.2.1
        have i5 := i1.below b5
        obtain ⟨ae, le, ce, rfl, _⟩ := id hE
        clear x0 x1 x2 c1 i1 hO
        go_wp2_with fail
        refine (equal_b _ _ X E _ (by exact i5) (by exact hE)).mono ?_
        rintro e w6 ⟨rfl, b6⟩
        have hb6 := below_then hb (below_then b5 b6)
        clear i5 hE b5 b6 hb
        cases hq : (X == E)
        · have R : Hid (EndAt s.marks E (k + 1) z) := Hat.out.no (by rw [HX.out]; simpa using hq)
          clear hq Hat
          go_wp2
          go_roundg (gk - 1)
          case measure => omega
          case rel => exact ⟨k + 1, z, by omega, by go_num, rfl, R, hb6⟩
        · have R : Hid (EndAt s.marks E (k + 1) k) := EndAt.yes (by rw [HX.out]; simpa using hq)
          clear hq Hat
          go_wp2
          go_roundg (gk - 1)
          case measure => omega
          case rel => exact ⟨k + 1, k, by omega, by go_num, rfl, R, hb6⟩
      · obtain rfl : k = lm := by omega
        have HL : Hid (Lsp n i o s z dg) := by
          refine .inr ⟨HS.out, HG.out, ?_⟩
          rw [HE.out, Hlm.out]
          exact Hat.out
        replace hva := hva.below hb
        replace hbs := hbs.below hb
        replace hSp := hSp.below hb
        replace c := below_then c hb
        obtain ⟨y0, y1, y2⟩ := id hbs
        obtain ⟨n0, n1, n2, n3, n4⟩ := hva.at
        have hf := hva.fill hSp Hfl.out
        have Hf1 : Hid _ := hf.1
        have Hf2 : Hid _ := c.trans (hf.2.2.mono (by omega))
        obtain ⟨g0, g1, g2⟩ := hf.2.1
        obtain ⟨W, HWw⟩ : ∃ W, Hid ((wr.setCell ⟨w.heap.size + 1, 0, none⟩ (.slice am k cm)).setCell ⟨w.heap.size + 1, 1, none⟩ (.slice aa la ca) = W) := ⟨_, rfl⟩
        rw [HWw.out] at Hf1 Hf2 g1 g2
        clear hf hva hbs hSp hb Hat
        go_wp2_with fail
        rw [HWw.out]
        refine bodyPost_ret (v := .tuple #[.agg #[.slice am k cm, .slice aa la ca], .int .i64 z, .int .i64 dg]) ?_ rfl ⟨_, _, _, _, rfl, ⟨Hf1.out, HL.out⟩, Hf2.out⟩
        simp [results, Tryd.results19, go_sem, g1, g2]
  · have hdd : (d != 0) = true := by simpa using hd0
    obtain ⟨n0, n1, n2, n3, n4⟩ := hva.at
    have hf := hva.fill (space_nil _) (fun j hj => absurd hj (by simp))
    have Hf1 : Hid _ := hf.1
    have Hf2 : Hid _ := c.trans (hf.2.2.mono (by omega))
    obtain ⟨g0, g1, g2⟩ := hf.2.1
    obtain ⟨W, HWw⟩ : ∃ W, Hid ((w1.setCell ⟨w.heap.size + 1, 0, none⟩ (.slice none 0 0)).setCell ⟨w.heap.size + 1, 1, none⟩ (.slice none 0 0) = W) := ⟨_, rfl⟩
    rw [HWw.out] at Hf1 Hf2 g1 g2
    clear hf hva
    go_wp2_with fail
    rw [HWw.out]
    refine bodyPost_ret (v := .tuple #[.agg #[.slice none 0 0, .slice none 0 0], .int .i64 (-1), .int .i64 d]) ?_ rfl ⟨_, ⟨[], []⟩, _, _, rfl, ⟨Hf1.out, .inl ⟨hd0, hd⟩⟩, Hf2.out⟩
    simp [results, Tryd.results19, go_sem, g1, g2]

end Go.Proofs.YteoofibhpifmlaaDoor

/- The document's own answers for tongue: where a word leads, walked. -/
namespace Go.Proofs.YteoofibhpifmlaaDoor
open Go.RowKit
set_option linter.unusedVariables false
set_option linter.unusedSimpArgs false
set_option maxRecDepth 4000

/-- What is asked of a space: its arcs name its marks and the net's transitions, whose labels are none below zero. -/
structure LeadIn (N : NetL) (s : SpaceL) : Prop where
  some : 0 < s.marks.length
  few : s.marks.length ≤ 300
  frm : ∀ a ∈ s.arcs, a.frm < s.marks.length
  dst : ∀ a ∈ s.arcs, a.dst < s.marks.length
  tran : ∀ a ∈ s.arcs, a.tran < N.trans.length
  lab : ∀ a ∈ s.arcs, 0 ≤ labT N a.tran

set_option maxHeartbeats 8000000 in
theorem llead_any (v sv u : Value) (N : NetL) (s : SpaceL) (ws : List Int) (w : World) (hv : Net w v N) (hS : Space w sv s) (hu : Ints w u ws) (hin : LeadIn N s) (hlw : ws.length ≤ 1048576) :
    Calls Tryd.prog 20 #[v, sv, u] w fun e w' => ∃ b W rb M, e = .returned (.slice (some ⟨b, 0, none⟩) (ws.length + 1) (ws.length + 1)) ∧ RecAt b W w' (ws.length + 1) s.marks.length rb (ws.length + 1) M ∧ IsLead N s ws M ∧ Below w.heap.size w w' := by
  obtain ⟨tv, rfl, hT⟩ := hv
  obtain ⟨mv, av, rfl, hMk, hA⟩ := hS
  obtain ⟨am, cm, rfl, _, _⟩ := hMk.slice
  obtain ⟨aa, ca, rfl, hla0⟩ := hA.slice
  obtain ⟨ta, tl, tc, rfl, htl, _, hts, _⟩ := id hT
  have Htl : Hid _ := htl
  have htc1 : tl ≤ tc := hts.1
  have htc2 : tc ≤ 9223372036854775807 := hts.2.1
  obtain ⟨aw, lw, cw_, rfl, hlw0, _⟩ := id hu
  have Hlw : Hid (ws.length = lw) := hlw0
  have hlwb : lw ≤ 1048576 := by omega
  obtain ⟨R, HRl⟩ : ∃ R, Hid (lw + 1 = R) := ⟨_, rfl⟩
  have hRb : R ≤ 1048577 := by have := HRl.out; omega
  have hR0 : 0 < R := by have := HRl.out; omega
  obtain ⟨n, Hn⟩ : ∃ n, Hid (s.marks.length = n) := ⟨_, rfl⟩
  obtain ⟨la, Hla⟩ : ∃ la, Hid (s.arcs.length = la) := ⟨_, rfl⟩
  have Hin : Hid (LeadIn N s) := hin
  have hn0 : 0 < n := by have := hin.some; have := Hn.out; omega
  have hnb : n ≤ 300 := by have := hin.few; have := Hn.out; omega
  have hla1 : (s.arcs.map arcZ).length = la := by rw [List.length_map]; exact Hla.out
  rw [hla1] at hA hla0 ⊢
  rw [hlw0, HRl.out, Hn.out]
  clear htl hlw0 hlw hin hMk hts hla1
  obtain ⟨W0, HW0⟩ : ∃ W0, Hid ((w.alloc (.cells #[.int .i64 N.places, .slice ta tl tc] 24)).alloc (.cells #[.slice am n cm, .slice aa la ca] 56) = W0) := ⟨_, rfl⟩

  obtain ⟨c, hbn_, hbs, hx1, hx2⟩ := two_newB _ _ _ _ _ _ _ _ HW0.out
  clear hx1 hx2
  replace hA := hA.below c
  replace hT := hT.below c
  replace hu := hu.below c
  go_enter Tryd.func20, Tryd.ntmps20
  go_upto_region 1 with fail
  rw [HW0.out]
  clear HW0
  obtain ⟨w1, hmk, hb1, hs1, hc1⟩ := make_rows W0 R (by omega)
  have H0 : Hid (RecAt W0.heap.size W0 w1 R n (fun _ => 0) 0 (fun _ _ => false)) := recAt_new hb1 hs1 hc1 _ _
  have eR : ((R : Nat) : Int) = (lw : Int) + 1 := by have := HRl.out; omega
  rw [eR] at hmk
  clear eR
  go_wp2_with fail
  clear hmk hb1 hs1 hc1
  go_loopg [21] R (fun g i wr => ∃ k : Nat, k + g = R ∧ i = .int .i64 k ∧ ∃ rb, RecAt W0.heap.size W0 wr R n rb k (fun _ _ => false))
  case atStart => exact ⟨0, by omega, rfl, _, H0.out⟩
  case round =>
    clear H0
    obtain ⟨k, hkg, rfl, rb, hF⟩ := hrel
    by_cases hkn : k < R
    · obtain ⟨w2, hmk, hb2, hs2, hc2⟩ := make_bools wr n (by omega)
      have hG := hF.grow hkn hb2 hs2 hc2
      have hF2 := hF.to hb2
      obtain ⟨x0, x1, x2⟩ := hbs.below hF.below
      obtain ⟨⟨u, o1⟩, o2⟩ := hF2.outer k hkn
      have hsz := hF.size
      clear hF hF2 hb2 hs2 hc2 hsz
      go_wp2
      go_roundg (gk - 1)
      case measure => omega
      case rel => exact ⟨k + 1, by omega, by go_num, _, hG⟩
    · obtain rfl : R = k := by omega
      have r1 := hF.rows 0 hR0
      have r2 := hF.cells 0 0 hR0 hn0
      have r3 := hF.frozen 0 0 hR0 hn0
      have hF0 := hF.put hR0 hn0
      obtain ⟨M9, HM9⟩ : ∃ M9, Hid (upd2 (fun _ _ => false) 0 0 = M9) := ⟨_, rfl⟩
      have HO9 : Hid (LeadOk N s ws M9) := by show LeadOk _ _ _ _; rw [← HM9.out]; exact LeadOk.first N s ws
      rw [HM9.out] at hF0
      obtain ⟨N0, HN0⟩ : ∃ N0, Hid (falF M9 s.marks.length (ws.length + 1) + 1 = N0) := ⟨_, rfl⟩
      have HI : Hid _ := hF0
      clear hF hF0 HM9
      go_wp2_with fail
      clear r1 r2 r3
      go_loopg [9] N0 (fun g ag wr => ∃ M again, ag = .bool again ∧ RecAt W0.heap.size W0 wr R n rb R M ∧ Hid (LeadOk N s ws M ∧ (again = true → falF M s.marks.length (ws.length + 1) < g) ∧ (again = false → IsLead N s ws M)))
      case atStart => exact ⟨_, true, rfl, HI.out, HO9.out, fun _ => by have := HN0.out; omega, fun h => by cases h⟩
      case round =>
        clear HI
        obtain ⟨M, again, rfl, hF, HM⟩ := hrel
        obtain ⟨G, hGk⟩ : ∃ G, G = gk := ⟨_, rfl⟩
        subst hGk
        cases again
        · have R1 := below_then c hF.below
          have R3 : IsLead N s ws M := HM.out.2.2 rfl
          clear HM
          go_wp2
          go_ret
          exact ⟨_, _, _, _, rfl, hF, R3, R1⟩
        · obtain ⟨x0, x1, x2⟩ := hbs.below hF.below
          have HG : Hid (falF M s.marks.length (ws.length + 1) < G) := HM.out.2.1 rfl
          have HP0 : Hid (PassL N s ws M M false 0 0) := PassL.start HM.out.1
          clear HM
          have HF0 : Hid _ := hF
          clear hF
          go_wp2_with fail
          clear x0 x1 x2
          go_loopg [9, 40] la (fun g ag i wr => ∃ p again M', p + g = la ∧ i = .int .i64 (p : Nat) ∧ ag = .bool again ∧ RecAt W0.heap.size W0 wr R n rb R M' ∧ Hid (PassL N s ws M M' again p 0))
          case atStart => exact ⟨0, false, M, by omega, rfl, rfl, HF0.out, HP0⟩
          case round =>
            clear HF0 HP0
            obtain ⟨p, again, M1, hpg, rfl, rfl, hF, HP⟩ := hrel
            obtain ⟨G1, hGk⟩ : ∃ G1, G1 = gk := ⟨_, rfl⟩
            subst hGk
            by_cases hpn : p < la
            · have Hpl : Hid (p < s.arcs.length) := by have := Hla.out; show p < s.arcs.length; omega
              obtain ⟨b1, o1, rfl, _, c0, c1, c2⟩ := (hA.below hF.below).at (k := p) (by rw [List.length_map]; exact Hpl.out)
              obtain ⟨A, HA⟩ : ∃ A, Hid (s.arcs[p]'Hpl.out = A) := ⟨_, rfl⟩
              have hmem := List.getElem_mem Hpl.out
              have r1 := Hin.out.frm _ hmem
              have r2 := Hin.out.dst _ hmem
              have r3 := Hin.out.tran _ hmem
              have r4 := Hin.out.lab _ hmem
              obtain ⟨f, y, b⟩ := A
              rw [List.getElem_map, HA.out] at c0 c1 c2
              rw [HA.out] at r1 r2 r3 r4
              simp only [arcZ] at c0 c1 c2
              simp only at r1 r2 r3 r4
              have hfn : f < n := by have := Hn.out; omega
              have hbn : b < n := by have := Hn.out; omega
              have hyt : y < tl := by have := Htl.out; omega
              obtain ⟨L, HL⟩ : ∃ L, Hid (labT N y = L) := ⟨_, rfl⟩
              rw [HL.out] at r4
              obtain ⟨bt, ot, p1, q1, rfl, hblt, h0, _, _, _, _⟩ := (hT.below hF.below).at (k := y) hyt
              have e0 : (tranAt N.trans y).label = L := HL.out
              rw [e0] at h0
              clear r1 r2 r3 hmem e0
              obtain ⟨x0, x1, x2⟩ := hbn_.below hF.below
              have bn := below_new wr (.cells #[.int .i64 f, .int .i64 y, .int .i64 b] 63)
              have hb3 := box3_new wr (.int .i64 f) (.int .i64 y) (.int .i64 b) 63
              have HB : Hid (∀ i, i < R → rb i ≠ wr.heap.size) := fun i hi => by have := (hF.newer i hi).2; omega
              have HF1 : Hid _ := hF.to bn
              have h0' := (bn.cell (p := ⟨bt, ot + y * 3, none⟩) hblt).trans h0
              have x1' := (bn.cell (p := ⟨w.heap.size, 0, none⟩) x0).trans x1
              have x2' := (bn.cell (p := ⟨w.heap.size, 1, none⟩) x0).trans x2
              clear hF
              by_cases hL0 : L = 0
              · subst hL0
                go_wp2_with fail
                obtain ⟨B7, HB7⟩ : ∃ B7, Hid (wr.heap.size = B7) := ⟨_, rfl⟩
                rw [HB7.out] at hb3 HB ⊢
                clear c0 c1 c2 h0 h0' x0 x1 x2 x1' x2' bn r4
                go_loopg [9, 53] R (fun g ag i wr => ∃ k again M', k + g = R ∧ i = .int .i64 (k : Nat) ∧ ag = .bool again ∧ RecAt W0.heap.size W0 wr R n rb R M' ∧ Box3 wr B7 (.int .i64 f) (.int .i64 y) (.int .i64 b) ∧ Hid (PassL N s ws M M' again p k))
                case atStart => exact ⟨0, again, M1, by omega, rfl, rfl, HF1.out, hb3, HP⟩
                case round =>
                  clear HF1 HP hb3
                  obtain ⟨k, again, M2, hkg, rfl, rfl, hF, hb3, HP⟩ := hrel
                  by_cases hkn : k < R
                  · obtain ⟨z0, z1, z2, z3⟩ := id hb3
                    have e1 := hF.rows k hkn
                    have e2 := hF.cells k f hkn hfn
                    have Hkw : Hid (k ≤ ws.length) := by have := Hlw.out; have := HRl.out; show _ ≤ _; omega
                    have e3 := hF.cells k b hkn hbn
                    have e4 := hF.frozen k b hkn hbn
                    have hst : stepTo N ⟨f, y, b⟩ k = k := by unfold stepTo; rw [if_neg (by rw [HL.out]; omega)]
                    have HS : Hid ((M2 k f = true → M2 k b = true) → PassL N s ws M M2 again p (k + 1)) := fun h => HP.out.skip Hpl.out HA.out (fun _ => by rw [hst]; exact h)
                    have HPu : Hid (M2 k f = true → M2 k b = false → PassL N s ws M (upd2 M2 k b) true p (k + 1)) := fun h1 h2 => by have := HP.out.put Hpl.out HA.out (by rw [HL.out]; omega) Hkw.out (by rw [Hn.out]; exact hbn) ⟨by rw [hst]; exact Hkw.out, .inl HL.out⟩ h1 (by rw [hst]; exact h2); rw [hst] at this; exact this
                    clear HP hst
                    cases h1 : M2 k f
                    · rw [h1] at e2
                      have R : Hid _ := HS.out (fun h => by rw [h1] at h; cases h)
                      clear HS HPu
                      go_wp2_with fail
                      go_quiet (fail)
                      have bq := below_drewN (Below.refl wr.heap.size wr) nq
                      have hF2 := hF.to bq
                      have hb32 := hb3.below bq
                      clear hF hb3 bq
                      go_wp2
                      go_roundg (gk - 1)
                      case measure => omega
                      case rel => exact ⟨k + 1, again, M2, by omega, by go_num, rfl, hF2, hb32, R⟩
                    · rw [h1] at e2
                      cases h2 : M2 k b
                      · rw [h2] at e3
                        have R : Hid _ := HPu.out h1 h2
                        clear HS HPu
                        go_wp2_with fail
                        go_quiet (fail)
                        have bq := below_drewN (Below.refl wr.heap.size wr) nq
                        obtain ⟨wq, Hwq⟩ : ∃ wq, Hid (wr.drewN nq = wq) := ⟨_, rfl⟩
                        rw [Hwq.out] at bq ⊢
                        clear Hwq e1 e2 e3 e4 z0 z1 z2 z3
                        replace hF := hF.to bq
                        replace hb3 := hb3.below bq
                        clear bq
                        obtain ⟨z0, z1, z2, z3⟩ := id hb3
                        have e1 := hF.rows (k) hkn
                        have e3 := hF.cells (k) b hkn hbn
                        rw [h2] at e3
                        have e4 := hF.frozen (k) b hkn hbn
                        have bd : Below wq.heap.size (wq.setCell ⟨rb (k), b, none⟩ (.bool true)) (wq.setCell ⟨rb (k), b, none⟩ (.bool true)).drew := (Below.refl _ _).drew
                        have R2 := (hF.put hkn hbn).to (by simpa [World.setCell] using bd)
                        have R3 := (box3_put (u := .bool true) (p := ⟨rb (k), b, none⟩) hb3 (HB.out (k) hkn)).below (by simpa [World.setCell] using bd)
                        clear hF hb3 bd
                        go_wp2_with fail
                        go_region
                        clear e1 e3 e4 z0 z1 z2 z3
                        go_wp2
                        go_roundg (gk - 1)
                        case measure => omega
                        case rel => exact ⟨k + 1, true, upd2 M2 (k) b, by omega, by go_num, rfl, R2, R3, R⟩
                      · rw [h2] at e3
                        have R : Hid _ := HS.out (fun _ => h2)
                        clear HS HPu
                        go_wp2_with fail
                        go_quiet (fail)
                        have bq := below_drewN (Below.refl wr.heap.size wr) nq
                        have hF2 := hF.to bq
                        have hb32 := hb3.below bq
                        clear hF hb3 bq
                        go_wp2
                        go_roundg (gk - 1)
                        case measure => omega
                        case rel => exact ⟨k + 1, again, M2, by omega, by go_num, rfl, hF2, hb32, R⟩
                  · obtain rfl : R = k := by omega
                    have R9 : Hid _ := HP.out.next (by have := Hlw.out; have := HRl.out; omega)
                    clear HP
                    go_wp2
                    go_roundg (G1 - 1)
                    case measure => omega
                    case rel => exact ⟨p + 1, again, M2, by omega, by go_num, rfl, hF, R9⟩
              · have HLp : Hid (0 < L) := by show 0 < L; omega
                have g5 : decide (L > 0) = true := by rw [decide_eq_true_eq]; omega
                have g6 : (L == 0) = false := by simpa using hL0
                clear hL0
                go_wp2_with fail
                obtain ⟨B7, HB7⟩ : ∃ B7, Hid (wr.heap.size = B7) := ⟨_, rfl⟩
                rw [HB7.out] at hb3 HB ⊢
                clear c0 c1 c2 h0 h0' x0 x1 x2 x1' x2' bn r4
                go_loopg [9, 53] R (fun g ag i wr => ∃ k again M', k + g = R ∧ i = .int .i64 (k : Nat) ∧ ag = .bool again ∧ RecAt W0.heap.size W0 wr R n rb R M' ∧ Box3 wr B7 (.int .i64 f) (.int .i64 y) (.int .i64 b) ∧ Hid (PassL N s ws M M' again p k))
                case atStart => exact ⟨0, again, M1, by omega, rfl, rfl, HF1.out, hb3, HP⟩
                case round =>
                  clear HF1 HP hb3
                  obtain ⟨k, again, M2, hkg, rfl, rfl, hF, hb3, HP⟩ := hrel
                  by_cases hkn : k < R
                  · obtain ⟨z0, z1, z2, z3⟩ := id hb3
                    have e1 := hF.rows k hkn
                    have e2 := hF.cells k f hkn hfn
                    have Hkw : Hid (k ≤ ws.length) := by have := Hlw.out; have := HRl.out; show _ ≤ _; omega
                    have hst : stepTo N ⟨f, y, b⟩ k = k + 1 := by unfold stepTo; rw [if_pos (by rw [HL.out]; exact HLp.out)]
                    have HS : Hid ((k + 1 < R → nth ws k = L → M2 k f = true → M2 (k + 1) b = true) → PassL N s ws M M2 again p (k + 1)) := fun h => HP.out.skip Hpl.out HA.out (fun hg => by
                      rw [hst]
                      have h1 := hg.1
                      rw [hst] at h1
                      refine h (by have := Hlw.out; have := HRl.out; omega) ?_
                      rcases hg.2 with q | q
                      · rw [HL.out] at q; exact absurd q (by have := HLp.out; omega)
                      · rw [HL.out] at q; exact q)
                    have HPu : Hid (k + 1 < R → nth ws k = L → M2 k f = true → M2 (k + 1) b = false → PassL N s ws M (upd2 M2 (k + 1) b) true p (k + 1)) := fun q1 q2 h1 h2 => by have := HP.out.put Hpl.out HA.out (by rw [HL.out]; have := HLp.out; omega) Hkw.out (by rw [Hn.out]; exact hbn) ⟨by rw [hst]; have := Hlw.out; have := HRl.out; omega, .inr (by rw [HL.out]; exact q2)⟩ h1 (by rw [hst]; exact h2); rw [hst] at this; exact this
                    clear HP hst
                    cases h1 : M2 k f
                    · rw [h1] at e2
                      have R : Hid _ := HS.out (fun _ _ h => by rw [h1] at h; cases h)
                      clear HS HPu
                      go_wp2_with fail
                      go_quiet (fail)
                      have bq := below_drewN (Below.refl wr.heap.size wr) nq
                      have hF2 := hF.to bq
                      have hb32 := hb3.below bq
                      clear hF hb3 bq
                      go_wp2
                      go_roundg (gk - 1)
                      case measure => omega
                      case rel => exact ⟨k + 1, again, M2, by omega, by go_num, rfl, hF2, hb32, R⟩
                    · rw [h1] at e2
                      by_cases hk1 : k + 1 < R
                      · have g1 : decide ((k : Int) + 1 < (R : Int)) = true := by rw [decide_eq_true_eq]; omega
                        have hkl : k < lw := by have := HRl.out; omega
                        obtain ⟨bw, ow, rfl, hbw, cw⟩ := ints_atL (hu.below hF.below) (k := k) hkl
                        by_cases hw : nth ws k = L
                        · have g2 : (nth ws k == L) = true := by simpa using hw
                          have e5 := hF.rows (k + 1) hk1
                          have e3 := hF.cells (k + 1) b hk1 hbn
                          have e4 := hF.frozen (k + 1) b hk1 hbn
                          cases h2 : M2 (k + 1) b
                          · rw [h2] at e3
                            have R : Hid _ := HPu.out hk1 hw h1 h2
                            clear HS HPu
                            go_wp2_with fail
                            go_quiet (fail)
                            have bq := below_drewN (Below.refl wr.heap.size wr) nq
                            obtain ⟨wq, Hwq⟩ : ∃ wq, Hid (wr.drewN nq = wq) := ⟨_, rfl⟩
                            rw [Hwq.out] at bq ⊢
                            clear Hwq e1 e2 e3 e4 e5 cw g2 z0 z1 z2 z3
                            replace hF := hF.to bq
                            replace hb3 := hb3.below bq
                            clear bq
                            obtain ⟨z0, z1, z2, z3⟩ := id hb3
                            have e1 := hF.rows (k + 1) hk1
                            have e3 := hF.cells (k + 1) b hk1 hbn
                            rw [h2] at e3
                            have e4 := hF.frozen (k + 1) b hk1 hbn
                            have bd : Below wq.heap.size (wq.setCell ⟨rb (k + 1), b, none⟩ (.bool true)) (wq.setCell ⟨rb (k + 1), b, none⟩ (.bool true)).drew := (Below.refl _ _).drew
                            have R2 := (hF.put hk1 hbn).to (by simpa [World.setCell] using bd)
                            have R3 := (box3_put (u := .bool true) (p := ⟨rb (k + 1), b, none⟩) hb3 (HB.out (k + 1) hk1)).below (by simpa [World.setCell] using bd)
                            clear hF hb3 bd
                            go_wp2_with fail
                            go_region
                            clear e1 e3 e4 z0 z1 z2 z3
                            go_wp2
                            go_roundg (gk - 1)
                            case measure => omega
                            case rel => exact ⟨k + 1, true, upd2 M2 (k + 1) b, by omega, by go_num, rfl, R2, R3, R⟩
                          · rw [h2] at e3
                            have R : Hid _ := HS.out (fun _ _ _ => h2)
                            clear HS HPu
                            go_wp2_with fail
                            go_quiet (fail)
                            have bq := below_drewN (Below.refl wr.heap.size wr) nq
                            have hF2 := hF.to bq
                            have hb32 := hb3.below bq
                            clear hF hb3 bq
                            go_wp2
                            go_roundg (gk - 1)
                            case measure => omega
                            case rel => exact ⟨k + 1, again, M2, by omega, by go_num, rfl, hF2, hb32, R⟩
                        · have g2 : (nth ws k == L) = false := by simpa using hw
                          have R : Hid _ := HS.out (fun _ h => absurd h hw)
                          clear HS HPu
                          go_wp2_with fail
                          go_quiet (fail)
                          have bq := below_drewN (Below.refl wr.heap.size wr) nq
                          have hF2 := hF.to bq
                          have hb32 := hb3.below bq
                          clear hF hb3 bq
                          go_wp2
                          go_roundg (gk - 1)
                          case measure => omega
                          case rel => exact ⟨k + 1, again, M2, by omega, by go_num, rfl, hF2, hb32, R⟩
                      · have g1 : decide ((k : Int) + 1 < (R : Int)) = false := by rw [decide_eq_false_iff_not]; omega
                        have R : Hid _ := HS.out (fun h => absurd h hk1)
                        clear HS HPu
                        go_wp2_with fail
                        go_quiet (fail)
                        have bq := below_drewN (Below.refl wr.heap.size wr) nq
                        have hF2 := hF.to bq
                        have hb32 := hb3.below bq
                        clear hF hb3 bq
                        go_wp2
                        go_roundg (gk - 1)
                        case measure => omega
                        case rel => exact ⟨k + 1, again, M2, by omega, by go_num, rfl, hF2, hb32, R⟩
                  · obtain rfl : R = k := by omega
                    have R9 : Hid _ := HP.out.next (by have := Hlw.out; have := HRl.out; omega)
                    clear HP
                    go_wp2
                    go_roundg (G1 - 1)
                    case measure => omega
                    case rel => exact ⟨p + 1, again, M2, by omega, by go_num, rfl, hF, R9⟩
            · have R9 : Hid (LeadOk N s ws M1 ∧ (again = true → falF M1 s.marks.length (ws.length + 1) < G - 1) ∧ (again = false → IsLead N s ws M1)) := by
                refine ⟨HP.out.1, fun h => ?_, fun h => ?_⟩
                · subst h
                  have h2 : falF M1 s.marks.length (ws.length + 1) < falF M s.marks.length (ws.length + 1) := HP.out.2
                  have := HG.out
                  omega
                · subst h
                  exact HP.out.lead Hin.out.lab (by have := Hla.out; omega)
              have hG0 : 0 < G := by have := HG.out; omega
              clear HP HG
              go_wp2
              go_roundg (G - 1)
              case measure => omega
              case rel => exact ⟨M1, again, rfl, hF, R9⟩

end Go.Proofs.YteoofibhpifmlaaDoor

/- The document's own answers for tongue: LHas, walked. -/
namespace Go.Proofs.YteoofibhpifmlaaDoor
open Go.RowKit
set_option linter.unusedVariables false
set_option linter.unusedSimpArgs false
set_option maxRecDepth 4000

theorem whole_lab {N : NetL} {m : List Int} {s : SpaceL} (hW : Whole N m s) (hok : netOk N = true) {a : ArcL} (ha : a ∈ s.arcs) : 0 ≤ labT N a.tran := by
  have ht := (hW.sound a ha).2.2.1
  unfold netOk at hok
  rw [Bool.and_eq_true, List.all_eq_true] at hok
  have := hok.2 (tranAt N.trans a.tran) (by unfold tranAt; rw [List.getD_eq_getElem?_getD, List.getElem?_eq_getElem ht]; exact List.getElem_mem ht)
  unfold tranOk tranHead at this
  unfold labT
  simp only [Bool.and_eq_true, decide_eq_true_eq] at this
  omega
theorem lead_in {N : NetL} {m : List Int} {s : SpaceL} (hW : Whole N m s) (hok : netOk N = true) (hN : s.marks.length ≤ 300) : LeadIn N s :=
  ⟨hW.here.1, hN, fun a ha => (hW.sound a ha).1, fun a ha => (hW.sound a ha).2.1, fun a ha => (hW.sound a ha).2.2.1, fun a ha => whole_lab hW hok ha⟩
/-- Where the end lies at g, a word that leads there leads to the end. -/
theorem end_at {N : NetL} {m E : List Int} {s : SpaceL} (hW : Whole N m s) {g : Nat} (hg : g < s.marks.length) (he : markAt s.marks g = E) (ws : List Int) : Way s.arcs (labT N) 0 ws g ↔ ToEnd N s E 0 ws := by
  constructor
  · exact fun h => ⟨g, hg, he, h⟩
  · rintro ⟨e, h1, h2, h3⟩
    obtain rfl : e = g := markAt_inj hW.nodup h1 hg (by rw [h2, he])
    exact h3

/-- What LHas tells. -/
def LHasIs (n : NetL) (i o : Int) (ws : List Int) (b : Bool) (d : Int) : Prop :=
  ∃ s a, Lsp n i o s a d ∧ (¬ d = 0 → b = false) ∧ (d = 0 → (b = true ↔ ToEnd n s (startL n.places o) 0 ws))

theorem lspV {w : World} {r : Value} {s : SpaceL} (h : Space w r s) : ∃ am lm cm aa la ca, r = .agg #[.slice am lm cm, .slice aa la ca] := by
  obtain ⟨mv, av, rfl, h1, h2⟩ := h
  obtain ⟨am, cm, rfl, _, _⟩ := h1.slice
  obtain ⟨aa, ca, rfl, _⟩ := h2.slice
  exact ⟨_, _, _, _, _, _, rfl⟩

set_option maxHeartbeats 4000000 in
theorem lhas_any (v u : Value) (n : NetL) (i o : Int) (ws : List Int) (w : World) (hv : Net w v n) (hu : Ints w u ws) (hsm : SmallNet n) (hlw : ws.length ≤ 1048576) :
    Calls Tryd.prog 7 #[v, .int .i64 i, .int .i64 o, u] w fun e w' => ∃ b d, e = .returned (.tuple #[.bool b, .int .i64 d]) ∧ LHasIs n i o ws b d ∧ Below w.heap.size w w' := by
  obtain ⟨tv, rfl, hT⟩ := hv
  have c := below_new w (.cells #[.int .i64 n.places, tv] 24)
  have hbx := box2_new w (.int .i64 n.places) tv 24
  have hv : Net (w.alloc (.cells #[.int .i64 n.places, tv] 24)) (.agg #[.int .i64 n.places, tv]) n := ⟨_, rfl, hT.below c⟩
  obtain ⟨w0, Hw0⟩ : ∃ w0, Hid (w.alloc (.cells #[.int .i64 n.places, tv] 24) = w0) := ⟨_, rfl⟩
  rw [Hw0.out] at c hbx hv
  replace hu := hu.below c
  clear hT
  obtain ⟨aw, lw, cw, rfl, hlw0, _⟩ := id hu
  have Hlw : Hid (ws.length = lw) := hlw0
  clear hlw0
  obtain ⟨x0, x1, x2⟩ := id hbx
  go_enter Tryd.func7, Tryd.ntmps7
  go_upto_region 1 with fail
  rw [Hw0.out]
  clear Hw0
  go_wp2_with fail
  clear x0 x1 x2
  refine (lspace_any _ n i o _ (by exact hv) hsm).mono ?_
  rintro e w1 ⟨r, s, a, d, rfl, ⟨hSp, hL⟩, b1⟩
  have HL : Hid (Lsp n i o s a d) := hL
  clear hL
  obtain ⟨am, lm, cm, aa, la, ca, rfl⟩ := lspV hSp
  replace hbx := hbx.below b1
  replace hv := hv.below b1
  replace c := below_then c b1
  replace hu := hu.below b1
  have bn := below_new w1 (.cells #[.slice am lm cm, .slice aa la ca] 56)
  have hbs := box2_new w1 (.slice am lm cm) (.slice aa la ca) 56
  obtain ⟨w2, Hw2⟩ : ∃ w2, Hid (w1.alloc (.cells #[.slice am lm cm, .slice aa la ca] 56) = w2) := ⟨_, rfl⟩
  rw [Hw2.out] at bn hbs
  replace hSp := hSp.below bn
  replace hbx := hbx.below bn
  replace hv := hv.below bn
  replace c := below_then c bn
  replace hu := hu.below bn
  clear b1 bn
  go_upto_region 2 with fail
  rw [Hw2.out]
  clear Hw2
  by_cases hd : d = 0
  · subst hd
    obtain ⟨hS, hG, hE⟩ : ShapeOk n i o ∧ graphL n (startL n.places i) 300 = (s, 0) ∧ EndAt s.marks (startL n.places o) s.marks.length a := by
      rcases HL.out with ⟨h, _⟩ | h
      · exact absurd rfl h
      · exact h
    have hW := graphL_whole hG
    have hN : s.marks.length ≤ 300 := by have := graphL_small n (startL n.places i) 300; rw [hG] at this; exact this
    rcases hE with ⟨rfl, hno⟩ | ⟨g, rfl, hg, hm⟩
    · have R : LHasIs n i o ws false 0 := ⟨s, -1, HL.out, fun _ => rfl, fun _ => ⟨fun h => (by cases h), fun ⟨e, h1, h2, _⟩ => absurd h2 (hno e h1)⟩⟩
      clear hno HL hS hG hW hN
      go_wp2
      go_ret2
      exact ⟨false, 0, rfl, R, c⟩
    · have hin := lead_in hW hS.ok hN
      have hgi : decide ((g : Int) < 0) = false := by rw [decide_eq_false_iff_not]; omega
      have HX : Hid _ := end_at hW hg hm ws
      have Hg : Hid _ := hg
      clear hS hG hm hW hN hg
      obtain ⟨x0, x1, x2⟩ := id hbx
      obtain ⟨y0, y1, y2⟩ := id hbs
      go_wp2_with fail
      clear x0 x1 x2 y0 y1 y2
      refine (llead_any _ _ _ n s ws _ (by exact hv) (by exact hSp) (by exact hu) hin hlw).mono ?_
      rintro e w3 ⟨B, W, rb, M, rfl, hF, hM, b3⟩
      have c3 := below_then c b3
      have e1 := hF.rows ws.length (by omega)
      have e2 := hF.cells ws.length g (by omega) Hg.out
      have R : LHasIs n i o ws (M ws.length g) 0 := ⟨s, g, HL.out, fun h => absurd rfl h, fun _ => by rw [hM g, HX.out]⟩
      have hgN := Hg.out
      obtain ⟨Nm, HNm⟩ : ∃ Nm, Hid (s.marks.length = Nm) := ⟨_, rfl⟩
      rw [HNm.out] at e1 hgN
      rw [Hlw.out] at e1 e2 R ⊢
      obtain ⟨bb, Hbb⟩ : ∃ bb, Hid (M lw g = bb) := ⟨_, rfl⟩
      rw [Hbb.out] at e2 R
      have hlt : lw < lw + 1 := by omega
      have hlwb : lw ≤ 1048576 := by have := Hlw.out; omega
      clear hF hM HL HX hin hbx hbs hSp hv hu b3
      go_wp2
      go_ret2
      exact ⟨bb, 0, rfl, R, c3⟩
  · have hd' : (d != 0) = true := by simpa using hd
    have R : LHasIs n i o ws false d := ⟨s, a, HL.out, fun _ => rfl, fun h => absurd h hd⟩
    clear HL
    go_wp2
    go_ret2
    exact ⟨false, d, rfl, R, c⟩

end Go.Proofs.YteoofibhpifmlaaDoor
