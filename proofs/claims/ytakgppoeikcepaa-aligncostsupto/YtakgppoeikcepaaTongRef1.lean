/- The document's own answers for tongue: a net's space and where its end is, walked. -/
import Derived.Test.YtakgppoeikcepaaGr11
import Derived.Test.YtakgppoeikcepaaGr05
import Derived.Test.YtakgppoeikcepaaGr07
import Derived.Test.YtakgppoeikcepaaGr02
import Derived.Deep.RegionHeld3
namespace Go.Proofs.Ytakgppoeikcepaa
open Go.RowKit
set_option linter.unusedVariables false
set_option linter.unusedSimpArgs false
set_option maxRecDepth 4000

/-- Where the last mark that is E lies among the first k. -/
def EndAt (l : List (List Int)) (E : List Int) (k : Nat) (a : Int) : Prop := (a = -1 ∧ ∀ j, j < k → markAt l j ≠ E) ∨ ∃ g : Nat, a = g ∧ g < k ∧ markAt l g = E
theorem EndAt.zero (l : List (List Int)) (E : List Int) : EndAt l E 0 (-1) := .inl ⟨rfl, fun j hj => absurd hj (Nat.not_lt_zero _)⟩
theorem EndAt.yes {l : List (List Int)} {E : List Int} {k : Nat} (he : markAt l k = E) : EndAt l E (k + 1) k := .inr ⟨k, rfl, by omega, he⟩
theorem EndAt.no {l : List (List Int)} {E : List Int} {k : Nat} {a : Int} (h : EndAt l E k a) (he : markAt l k ≠ E) : EndAt l E (k + 1) a := by
  rcases h with ⟨e, h⟩ | ⟨g, e, hg, h⟩
  · refine .inl ⟨e, fun j hj => ?_⟩
    by_cases q : j = k
    · rw [q]; exact he
    · exact h j (by omega)
  · exact .inr ⟨g, e, by omega, h⟩

/-- What lspace tells. -/
def Lsp (n : NetL) (i o : Int) (s : SpaceL) (a d : Int) : Prop :=
  (¬ d = 0 ∧ Judged n i o d) ∨ (ShapeOk n i o ∧ graphL n (startL n.places i) 300 = (s, d) ∧ EndAt s.marks (startL n.places o) s.marks.length a)

set_option maxHeartbeats 4000000 in
theorem lspace_any (v : Value) (n : NetL) (i o : Int) (w : World) (hv : Net w v n) (hsm : SmallNet n) :
    Calls Try.prog 21 #[v, .int .i64 i, .int .i64 o] w fun e w' => ∃ r s a d, e = .returned (.tuple #[r, .int .i64 a, .int .i64 d]) ∧ (Space w' r s ∧ Lsp n i o s a d) ∧ Below w.heap.size w w' := by
  obtain ⟨tv, rfl, hT⟩ := hv
  obtain ⟨w0, Hw0⟩ : ∃ w0, Hid ((w.alloc (.cells #[.int .i64 n.places, tv] 24)).alloc (.cells #[.slice none 0 0, .slice none 0 0] 49) = w0) := ⟨_, rfl⟩
  have b1 := below_new w (.cells #[.int .i64 n.places, tv] 24)
  have b2 := below_new (w.alloc (.cells #[.int .i64 n.places, tv] 24)) (.cells #[.slice none 0 0, .slice none 0 0] 49)
  have c : Below w.heap.size w w0 := by rw [← Hw0.out]; exact below_then b1 b2
  have hbx : Box2 w0 w.heap.size (.int .i64 n.places) tv := by rw [← Hw0.out]; exact (box2_new w _ tv 24).below b2
  have hva : NilBox w0 (w.heap.size + 1) := by
    rw [← Hw0.out]
    have e : (w.alloc (.cells #[.int .i64 n.places, tv] 24)).heap.size = w.heap.size + 1 := by simp
    rw [← e]
    exact nilBox_new _
  have hv : Net w0 (.agg #[.int .i64 n.places, tv]) n := ⟨_, rfl, hT.below c⟩
  clear b1 b2
  obtain ⟨x0, x1, x2⟩ := id hbx
  go_enter Try.func21, Try.ntmps21
  go_upto_region 1 with fail
  rw [Hw0.out]
  clear Hw0
  go_wp2_with fail
  clear x0 x1 x2
  refine (hwrong_any _ n i o _ (by exact hv) hsm).mono ?_
  rintro e w1 ⟨d, rfl, hd, b⟩
  replace hbx := hbx.below b
  replace hva := hva.below b
  replace hv := hv.below b
  replace c := below_then c b
  clear b
  by_cases hd0 : d = 0
  · subst hd0
    have hS := hd.zero
    have HS : Hid _ := hS
    clear hd
    obtain ⟨x0, x1, x2⟩ := id hbx
    go_upto_region 4 with fail
    have hdr : Below w1.heap.size w1 w1.drew := (Below.refl _ _).drew
    have hvd := hv.below hdr
    have hvn := hvd.below (below_new w1.drew (.cells #[.slice none 0 0, .slice none 0 0] 49))
    have Hne : Hid (startL n.places i ≠ []) := by intro e; have h1 := start_len hS.ok i; have h2 := shape_two hS; rw [e] at h1; simp at h1; omega
    have Hsl : Hid ((startL n.places i).length ≤ 17592186044416) := by have := start_length n.places i; show _ ≤ _; omega
    obtain ⟨G, HG⟩ : ∃ G, Hid (graphL n (startL n.places i) 300 = G) := ⟨_, rfl⟩
    have Hfl : Hid (∀ j, j < G.1.marks.length → markAt G.1.marks j ≠ []) := by have := graph_full (n := n) (most := 300) Hne.out; rw [HG.out] at this; exact this
    go_cut [10, 11] (fun p q wc => ∃ bx mv av, p = .pointer (some ⟨bx, 0, none⟩) ∧ q = .int .i64 G.2 ∧ Box2 wc bx mv av ∧ Space wc (.agg #[mv, av]) G.1 ∧ Below w1.heap.size w1 wc)
    case first =>
      go_region_held3 (fun w' => w'.cell? ⟨w.heap.size, 0, none⟩ = some (.int .i64 n.places) ∧ w'.cell? ⟨w.heap.size, 1, none⟩ = some tv)
        (first | exact ⟨f1, f2⟩ | go_keep)
        (first
          | (go_at_call 34; refine (hstart_own _ n i _ ?_).mono ?_; (first | exact hvd | exact hvn); rintro e w2 ⟨r1, rfl, hO⟩; have hI := hO.ints Hsl.out; (first | (have hnb : NilBox w2 w1.heap.size := (nilBox_new w1.drew).below hO.2.1; have q2 := below_then (below_then hdr (below_new w1.drew (.cells #[.slice none 0 0, .slice none 0 0] 49))) hO.2.1) | (have q2 := below_then hdr hO.2.1)); have hv2 := hv.below q2; obtain ⟨y0, y1, y2⟩ := hbx.below q2)
          | (go_at_call 33; refine (dgraph_any _ _ n (startL n.places i) 300 _ ?_ ?_ hsm).mono ?_; (first | exact hv2 | exact hv2.below (below_new w2 (.cells #[.slice none 0 0, .slice none 0 0] 49))); (first | exact hI | exact hI.below (below_new w2 (.cells #[.slice none 0 0, .slice none 0 0] 49))); rw [HG.out]; rintro e w3 ⟨r2, rfl, hSp, b3⟩; (first | (have hnb3 := (nilBox_new w2).below b3; have q3 := below_then q2 (below_then (below_new w2 (.cells #[.slice none 0 0, .slice none 0 0] 49)) b3); have hlt3 : w.heap.size < w2.heap.size := y0) | (have hnb3 := hnb.below b3; have q3 := below_then q2 b3; have hlt3 : w.heap.size < w1.heap.size := x0) | (have q3 := below_then q2 b3)); obtain ⟨mv, av, rfl, hMv, hAv⟩ := id hSp; obtain ⟨am, cm, rfl, _, _⟩ := hMv.slice; obtain ⟨aa, ca, hav, _⟩ := hAv.slice; rw [List.length_map] at hav; subst hav; obtain ⟨z0, z1, z2⟩ := hbx.below q3; (first | (obtain ⟨n0, n1, n2, n3, n4⟩ := hnb3.at; have hf := hnb3.fill hSp Hfl.out; have f1 := (hf.2.2.cell (p := ⟨w.heap.size, 0, none⟩) hlt3).trans z1; have f2 := (hf.2.2.cell (p := ⟨w.heap.size, 1, none⟩) hlt3).trans z2) | skip)))
      all_goals
        go_wp2_with fail
        go_meet
        first
          | exact ⟨_, _, _, rfl, rfl, hf.2.1, hf.1, q3.trans (hf.2.2.mono (Nat.le_refl _))⟩
          | exact ⟨_, _, _, rfl, rfl, hf.2.1, hf.1, q3.trans (hf.2.2.mono q2.size)⟩
          | exact ⟨_, _, _, rfl, rfl, box2_new w3 _ _ _, hSp.below (below_new w3 _), below_then q3 (below_new w3 _)⟩
    obtain ⟨bx, mv, av, rfl, rfl, hbs, hSp, b4⟩ := hcut
    obtain ⟨w4, rfl⟩ : ∃ w0, w0 = wc := ⟨_, rfl⟩
    replace hbx := hbx.below b4
    replace hva := hva.below b4
    replace hv := hv.below b4
    replace c := below_then c b4
    clear hvd hvn hdr b4 x0 x1 x2 Hne Hsl
    obtain ⟨s, dg⟩ := G
    simp only at hSp Hfl ⊢
    have Hsm : Hid (s.marks.length ≤ 300) := by have := graphL_small n (startL n.places i) 300; rw [HG.out] at this; exact this
    obtain ⟨hMk, hAk⟩ : Lists w4 mv s.marks ∧ Arcs w4 av (s.arcs.map arcZ) := by obtain ⟨mv', av', e, h1, h2⟩ := hSp; injection e with e; injection e with e; simp at e; obtain ⟨rfl, rfl⟩ := e; exact ⟨h1, h2⟩
    obtain ⟨am, cm, rfl, _, _⟩ := hMk.slice
    obtain ⟨aa, ca, rfl, _⟩ := hAk.slice
    obtain ⟨lm, Hlm⟩ : ∃ lm, Hid (s.marks.length = lm) := ⟨_, rfl⟩
    obtain ⟨la, Hla⟩ : ∃ la, Hid ((s.arcs.map arcZ).length = la) := ⟨_, rfl⟩
    rw [Hlm.out] at hbs hMk hSp
    rw [Hla.out] at hbs hSp
    have hlm : lm ≤ 300 := by rw [← Hlm.out]; exact Hsm.out
    clear hAk
    obtain ⟨E, HE⟩ : ∃ E, Hid (startL n.places o = E) := ⟨_, rfl⟩
    have HEl : Hid (E.length ≤ 17592186044416) := by have := start_length n.places o; rw [HE.out] at this; show _ ≤ _; omega
    obtain ⟨y0, y1, y2⟩ := id hbs
    go_wp2_with fail
    clear y0 y1 y2
    go_loopg [12, 34] lm (fun g a i wr => ∃ (k : Nat) (z : Int), k + g = lm ∧ i = .int .i64 k ∧ a = .int .i64 z ∧ Hid (EndAt s.marks E k z) ∧ Below w4.heap.size w4 wr)
    case atStart => exact ⟨0, -1, by omega, rfl, rfl, EndAt.zero _ _, Below.refl _ _⟩
    case round =>
      obtain ⟨k, z, hkg, rfl, rfl, Hat, hb⟩ := hrel
      by_cases hk : k < lm
      · obtain ⟨b1, o1, u1, rfl, _, c1, i1⟩ := (hMk.below hb).at hk
        obtain ⟨x0, x1, x2⟩ := hbx.below hb
        obtain ⟨X, HX⟩ : ∃ X, Hid (markAt s.marks k = X) := ⟨_, rfl⟩
        rw [HX.out] at i1
        obtain ⟨au, lu, cu, rfl, _⟩ := id i1
        go_wp2_with fail
        refine (hstart_own _ n o _ (by exact hv.below hb)).mono ?_
        rintro e w5 ⟨ev, rfl, hO⟩
        rw [HE.out] at hO
        have hE := hO.ints HEl.out
        have b5 := hO.2.1
        have i5 := i1.below b5
        obtain ⟨ae, le, ce, rfl, _⟩ := id hE
        clear x0 x1 x2 c1 i1 hO
        go_wp2_with fail
        refine (equal_b _ _ X E _ (by exact i5) (by exact hE)).mono ?_
        rintro e w6 ⟨rfl, b6⟩
        have hb6 := below_then hb (below_then b5 b6)
        clear i5 hE b5 b6 hb
        cases hq : (X == E)
        · have R : Hid (EndAt s.marks E (k + 1) z) := Hat.out.no (by rw [HX.out]; simpa using hq)
          clear hq Hat
          go_wp2
          go_roundg (gk - 1)
          case measure => omega
          case rel => exact ⟨k + 1, z, by omega, by go_num, rfl, R, hb6⟩
        · have R : Hid (EndAt s.marks E (k + 1) k) := EndAt.yes (by rw [HX.out]; simpa using hq)
          clear hq Hat
          go_wp2
          go_roundg (gk - 1)
          case measure => omega
          case rel => exact ⟨k + 1, k, by omega, by go_num, rfl, R, hb6⟩
      · obtain rfl : k = lm := by omega
        have HL : Hid (Lsp n i o s z dg) := by
          refine .inr ⟨HS.out, HG.out, ?_⟩
          rw [HE.out, Hlm.out]
          exact Hat.out
        replace hva := hva.below hb
        replace hbs := hbs.below hb
        replace hSp := hSp.below hb
        replace c := below_then c hb
        obtain ⟨y0, y1, y2⟩ := id hbs
        obtain ⟨n0, n1, n2, n3, n4⟩ := hva.at
        have hf := hva.fill hSp Hfl.out
        have Hf1 : Hid _ := hf.1
        have Hf2 : Hid _ := c.trans (hf.2.2.mono (by omega))
        obtain ⟨g0, g1, g2⟩ := hf.2.1
        obtain ⟨W, HWw⟩ : ∃ W, Hid ((wr.setCell ⟨w.heap.size + 1, 0, none⟩ (.slice am k cm)).setCell ⟨w.heap.size + 1, 1, none⟩ (.slice aa la ca) = W) := ⟨_, rfl⟩
        rw [HWw.out] at Hf1 Hf2 g1 g2
        clear hf hva hbs hSp hb Hat
        go_wp2_with fail
        rw [HWw.out]
        refine bodyPost_ret (v := .tuple #[.agg #[.slice am k cm, .slice aa la ca], .int .i64 z, .int .i64 dg]) ?_ rfl ⟨_, _, _, _, rfl, ⟨Hf1.out, HL.out⟩, Hf2.out⟩
        simp [results, Try.results21, go_sem, g1, g2]
  · have hdd : (d != 0) = true := by simpa using hd0
    obtain ⟨n0, n1, n2, n3, n4⟩ := hva.at
    have hf := hva.fill (space_nil _) (fun j hj => absurd hj (by simp))
    have Hf1 : Hid _ := hf.1
    have Hf2 : Hid _ := c.trans (hf.2.2.mono (by omega))
    obtain ⟨g0, g1, g2⟩ := hf.2.1
    obtain ⟨W, HWw⟩ : ∃ W, Hid ((w1.setCell ⟨w.heap.size + 1, 0, none⟩ (.slice none 0 0)).setCell ⟨w.heap.size + 1, 1, none⟩ (.slice none 0 0) = W) := ⟨_, rfl⟩
    rw [HWw.out] at Hf1 Hf2 g1 g2
    clear hf hva
    go_wp2_with fail
    rw [HWw.out]
    refine bodyPost_ret (v := .tuple #[.agg #[.slice none 0 0, .slice none 0 0], .int .i64 (-1), .int .i64 d]) ?_ rfl ⟨_, ⟨[], []⟩, _, _, rfl, ⟨Hf1.out, .inl ⟨hd0, hd⟩⟩, Hf2.out⟩
    simp [results, Try.results21, go_sem, g1, g2]

end Go.Proofs.Ytakgppoeikcepaa
