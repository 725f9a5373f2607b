/- The answers of the document itself for sound: IJudge. -/
import Derived.Test.YtkdbkoogcndlgaaGr06
import Derived.Test.YtkdbkoogcndlgaaGr03
import Derived.Test.YtkdbkoogcndlgaaGr04
import Derived.Test.YtkdbkoogcndlgaaGr07
import Derived.Test.YtkdbkoogcndlgaaGr05
import Derived.Deep.RegionHeld3
namespace Go.Proofs.Ytkdbkoogcndlgaa
open Go.RowKit
set_option linter.unusedVariables false
set_option maxRecDepth 4000

/-- Of the first k marks none has more than the end; which of them is the end. -/
def AtIs (l : List (List Int)) (E : List Int) (k : Nat) (a : Int) : Prop :=
  (∀ j, j < k → ¬ ExtraM E (markAt l j)) ∧ ((a = -1 ∧ ∀ j, j < k → markAt l j ≠ E) ∨ ∃ g : Nat, a = g ∧ g < k ∧ markAt l g = E)
theorem AtIs.zero (l : List (List Int)) (E : List Int) : AtIs l E 0 (-1) := ⟨fun j hj => absurd hj (Nat.not_lt_zero _), .inl ⟨rfl, fun j hj => absurd hj (Nat.not_lt_zero _)⟩⟩
theorem AtIs.yes {l : List (List Int)} {E : List Int} {k : Nat} {a : Int} (h : AtIs l E k a) (he : markAt l k = E) : AtIs l E (k + 1) k := by
  refine ⟨fun j hj => ?_, .inr ⟨k, rfl, by omega, he⟩⟩
  by_cases e : j = k
  · subst e; exact fun q => q.2 he
  · exact h.1 j (by omega)
theorem AtIs.no {l : List (List Int)} {E : List Int} {k : Nat} {a : Int} (h : AtIs l E k a) (he : markAt l k ≠ E) (hc : coversL (markAt l k) E = false) : AtIs l E (k + 1) a := by
  refine ⟨fun j hj => ?_, ?_⟩
  · by_cases e : j = k
    · subst e; exact fun q => by have := q.1; rw [hc] at this; cases this
    · exact h.1 j (by omega)
  · rcases h.2 with ⟨h1, h2⟩ | ⟨g, h1, h2, h3⟩
    · refine .inl ⟨h1, fun j hj => ?_⟩
      by_cases e : j = k
      · subst e; exact he
      · exact h2 j (by omega)
    · exact .inr ⟨g, h1, by omega, h3⟩
theorem AtIs.lt {l : List (List Int)} {E : List Int} {k : Nat} {a : Int} (h : AtIs l E k a) : a = -1 ∨ ∃ g : Nat, a = g ∧ g < k := by
  rcases h.2 with ⟨h1, _⟩ | ⟨g, h1, h2, _⟩
  · exact .inl h1
  · exact .inr ⟨g, h1, h2⟩
theorem AtIs.none {n : NetL} {m E : List Int} {s : SpaceL} (h : AtIs s.marks E s.marks.length (-1)) (hW : Whole n m s) {k : Nat} (hk : k < s.marks.length) : ¬ ReachZ n (markAt s.marks k) E := by
  intro q
  obtain ⟨g, hg, e, _⟩ := hW.reach_comes hk q
  rcases h.2 with ⟨_, h2⟩ | ⟨g, h1, _⟩
  · exact h2 g hg e
  · omega
theorem AtIs.reach {n : NetL} {m E : List Int} {s : SpaceL} {M : Nat → Nat → Bool} {g : Nat} (h : AtIs s.marks E s.marks.length g) (hW : Whole n m s) (hM : IsReach (toZ s) M) {k : Nat} (hk : k < s.marks.length) : M k g = true ↔ ReachZ n (markAt s.marks k) E := by
  obtain ⟨hgl, e⟩ : g < s.marks.length ∧ markAt s.marks g = E := by
    rcases h.2 with ⟨h1, _⟩ | ⟨g', h1, h2, h3⟩
    · omega
    · obtain rfl : g = g' := by omega
      exact ⟨h2, h3⟩
  rw [hM k g hk hgl]
  constructor
  · intro q
    obtain ⟨g', e1, e2, e3⟩ := hW.comes_reach hk q
    obtain rfl : g = g' := by omega
    rw [← e]; exact e3
  · intro q
    obtain ⟨g', h1, h2, h3⟩ := hW.reach_comes hk q
    obtain rfl : g' = g := markAt_inj hW.nodup h1 hgl (by rw [h2, e])
    exact h3

set_option maxHeartbeats 4000000 in
theorem ijudge_any (v : Value) (n : NetL) (i o most : Int) (w : World) (hv : Net w v n) (hsm : SmallNet n) :
    Calls Try.prog 9 #[v, .int .i64 i, .int .i64 o, .int .i64 most] w fun e w' => ∃ r x d, e = .returned (.tuple #[r, .int .i64 d]) ∧ (VerdV w' r x ∧ Verd n i o most x d) ∧ Below w.heap.size w w' := by
  obtain ⟨tv, rfl, hT⟩ := hv
  obtain ⟨w0, Hw0⟩ : ∃ w0, Hid ((w.alloc (.cells #[.int .i64 n.places, tv] 24)).alloc (.cells #[.int .i64 0, .slice none 0 0, .int .i64 0] 27) = w0) := ⟨_, rfl⟩
  have b1 := below_new w (.cells #[.int .i64 n.places, tv] 24)
  have b2 := below_new (w.alloc (.cells #[.int .i64 n.places, tv] 24)) (.cells #[.int .i64 0, .slice none 0 0, .int .i64 0] 27)
  have c : Below w.heap.size w w0 := by rw [← Hw0.out]; exact below_then b1 b2
  have hbx : Box2 w0 w.heap.size (.int .i64 n.places) tv := by rw [← Hw0.out]; exact (box2_new w _ tv 24).below b2
  have hva : VerdAt w0 (w.heap.size + 1) (.int .i64 0) (.slice none 0 0) (.int .i64 0) := by
    rw [← Hw0.out]
    have e : (w.alloc (.cells #[.int .i64 n.places, tv] 24)).heap.size = w.heap.size + 1 := by simp
    rw [← e]
    show ((w.alloc (.cells #[.int .i64 n.places, tv] 24)).heap.push _)[(w.alloc (.cells #[.int .i64 n.places, tv] 24)).heap.size]? = _
    rw [Array.getElem?_push_size]
  have hv : Net w0 (.agg #[.int .i64 n.places, tv]) n := ⟨_, rfl, hT.below c⟩
  clear b1 b2
  obtain ⟨x0, x1, x2⟩ := id hbx
  go_enter Try.func9, Try.ntmps9
  go_upto_region 1 with fail
  rw [Hw0.out]
  clear Hw0
  go_wp2_with fail
  clear x0 x1 x2
  refine (hwrong_any _ n i o _ (by exact hv) hsm).mono ?_
  rintro e w1 ⟨d, rfl, hd, b⟩
  replace hbx := hbx.below b
  replace hva := hva.below b
  replace hv := hv.below b
  replace c := below_then c b
  clear b
  by_cases hd0 : d = 0
  · subst hd0
    have hS := hd.zero
    have HS : Hid _ := hS
    clear hd
    obtain ⟨x0, x1, x2⟩ := id hbx
    go_upto_region 4 with fail
    have hdr : Below w1.heap.size w1 w1.drew := (Below.refl _ _).drew
    have hvd := hv.below hdr
    have hvn := hvd.below (below_new w1.drew (.cells #[.slice none 0 0, .slice none 0 0] 46))
    have Hne : Hid (startL n.places i ≠ []) := by intro e; have h1 := start_len hS.ok i; have h2 := shape_two hS; rw [e] at h1; simp at h1; omega
    have Hsl : Hid ((startL n.places i).length ≤ 17592186044416) := by have := start_length n.places i; show _ ≤ _; omega
    obtain ⟨G, HG⟩ : ∃ G, Hid (graphL n (startL n.places i) most = G) := ⟨_, rfl⟩
    have Hfl : Hid (∀ j, j < G.1.marks.length → markAt G.1.marks j ≠ []) := by have := graph_full (n := n) (most := most) Hne.out; rw [HG.out] at this; exact this
    go_cut [11, 12] (fun p q wc => ∃ bx mv av, p = .pointer (some ⟨bx, 0, none⟩) ∧ q = .int .i64 G.2 ∧ Box2 wc bx mv av ∧ Space wc (.agg #[mv, av]) G.1 ∧ Below w1.heap.size w1 wc)
    case first =>
      go_region_held3 (fun w' => w'.cell? ⟨w.heap.size, 0, none⟩ = some (.int .i64 n.places) ∧ w'.cell? ⟨w.heap.size, 1, none⟩ = some tv)
        (first | exact ⟨f1, f2⟩ | go_keep)
        (first
          | (go_at_call 25; refine (hstart_own _ n i _ ?_).mono ?_; (first | exact hvd | exact hvn); rintro e w2 ⟨r1, rfl, hO⟩; have hI := hO.ints Hsl.out; (first | (have hnb : NilBox w2 w1.heap.size := (nilBox_new w1.drew).below hO.2.1; have q2 := below_then (below_then hdr (below_new w1.drew (.cells #[.slice none 0 0, .slice none 0 0] 46))) hO.2.1) | (have q2 := below_then hdr hO.2.1)); have hv2 := hv.below q2; obtain ⟨y0, y1, y2⟩ := hbx.below q2)
          | (go_at_call 24; refine (dgraph_any _ _ n (startL n.places i) most _ ?_ ?_ hsm).mono ?_; (first | exact hv2 | exact hv2.below (below_new w2 (.cells #[.slice none 0 0, .slice none 0 0] 46))); (first | exact hI | exact hI.below (below_new w2 (.cells #[.slice none 0 0, .slice none 0 0] 46))); rw [HG.out]; rintro e w3 ⟨r2, rfl, hSp, b3⟩; (first | (have hnb3 := (nilBox_new w2).below b3; have q3 := below_then q2 (below_then (below_new w2 (.cells #[.slice none 0 0, .slice none 0 0] 46)) b3); have hlt3 : w.heap.size < w2.heap.size := y0) | (have hnb3 := hnb.below b3; have q3 := below_then q2 b3; have hlt3 : w.heap.size < w1.heap.size := x0) | (have q3 := below_then q2 b3)); obtain ⟨mv, av, rfl, hMv, hAv⟩ := id hSp; obtain ⟨am, cm, rfl, _, _⟩ := hMv.slice; obtain ⟨aa, ca, hav, _⟩ := hAv.slice; rw [List.length_map] at hav; subst hav; obtain ⟨z0, z1, z2⟩ := hbx.below q3; (first | (obtain ⟨n0, n1, n2, n3, n4⟩ := hnb3.at; have hf := hnb3.fill hSp Hfl.out; have f1 := (hf.2.2.cell (p := ⟨w.heap.size, 0, none⟩) hlt3).trans z1; have f2 := (hf.2.2.cell (p := ⟨w.heap.size, 1, none⟩) hlt3).trans z2) | skip)))
      all_goals
        go_wp2_with fail
        go_meet
        first
          | exact ⟨_, _, _, rfl, rfl, hf.2.1, hf.1, q3.trans (hf.2.2.mono (Nat.le_refl _))⟩
          | exact ⟨_, _, _, rfl, rfl, hf.2.1, hf.1, q3.trans (hf.2.2.mono q2.size)⟩
          | exact ⟨_, _, _, rfl, rfl, box2_new w3 _ _ _, hSp.below (below_new w3 _), below_then q3 (below_new w3 _)⟩
    obtain ⟨bx, mv, av, rfl, rfl, hbs, hSp, b4⟩ := hcut
    obtain ⟨w4, rfl⟩ : ∃ w0, w0 = wc := ⟨_, rfl⟩
    replace hbx := hbx.below b4
    replace hva := hva.below b4
    replace hv := hv.below b4
    replace c := below_then c b4
    clear hvd hvn hdr b4 x0 x1 x2 Hne Hsl
    obtain ⟨s, dg⟩ := G
    simp only at hSp Hfl ⊢
    by_cases hg0 : dg = 0
    · subst hg0
      clear Hfl
      obtain ⟨x0, x1, x2⟩ := id hbx
      go_wp2_with fail
      refine (hstart_own _ n o _ (by exact hv)).mono ?_
      rintro e w5 ⟨ev, rfl, hO⟩
      have hE := hO.ints (by have := start_length n.places o; omega)
      have b5 := hO.2.1
      replace hbx := hbx.below b5
      replace hva := hva.below b5
      replace hSp := hSp.below b5
      replace hbs := hbs.below b5
      replace c := below_then c b5
      clear hv hO b5 x0 x1 x2
      obtain ⟨E, HE⟩ : ∃ E, Hid (startL n.places o = E) := ⟨_, rfl⟩
      rw [HE.out] at hE
      have HW : Hid (Whole n (startL n.places i) s) := graphL_whole HG.out
      have HV : Hid (∀ x, SaysV n E s x → Verd n i o most x 0) := fun x hx => verd_right HS.out HG.out (by rw [HE.out]; exact hx)
      have Hl2 : Hid (∀ j, j < s.marks.length → 2 ≤ (markAt s.marks j).length) := fun j hj => by have := (fits_net (HW.out.fits hj)).2.1; have := shape_two HS.out; omega
      have Hsm : Hid (s.marks.length ≤ 300) := by have := graphL_small n (startL n.places i) most; rw [HG.out] at this; exact this
      have hsv : SpaceV w5 (.agg #[mv, av]) (toZ s) := hSp.toV Hsm.out
      obtain ⟨hMk, hAk⟩ : Lists w5 mv s.marks ∧ Arcs w5 av (s.arcs.map arcZ) := by obtain ⟨mv', av', e, h1, h2⟩ := hSp; injection e with e; injection e with e; simp at e; obtain ⟨rfl, rfl⟩ := e; exact ⟨h1, h2⟩
      obtain ⟨am, cm, rfl, _, _⟩ := hMk.slice
      obtain ⟨aa, ca, rfl, _⟩ := hAk.slice
      obtain ⟨lm, Hlm⟩ : ∃ lm, Hid (s.marks.length = lm) := ⟨_, rfl⟩
      obtain ⟨la, Hla⟩ : ∃ la, Hid ((s.arcs.map arcZ).length = la) := ⟨_, rfl⟩
      rw [Hlm.out] at hbs hsv hMk
      rw [Hla.out] at hbs hsv
      have hlm : lm ≤ 300 := by rw [← Hlm.out]; exact Hsm.out
      clear hSp hAk HG HE
      obtain ⟨y0, y1, y2⟩ := id hbs
      obtain ⟨ae, le, ce, rfl, _⟩ := id hE
      go_wp2_with fail
      clear y0 y1 y2
      go_loopg [14, 49] lm (fun g a i wr => ∃ (k : Nat) (z : Int), k + g = lm ∧ i = .int .i64 k ∧ a = .int .i64 z ∧ Hid (AtIs s.marks E k z) ∧ Below w5.heap.size w5 wr)
      case atStart => exact ⟨0, -1, by omega, rfl, rfl, AtIs.zero _ _, Below.refl _ _⟩
      case round =>
        obtain ⟨k, z, hkg, rfl, rfl, Hat, hb⟩ := hrel
        by_cases hk : k < lm
        · obtain ⟨b1, o1, u1, rfl, _, c1, i1⟩ := (hMk.below hb).at hk
          have hE' := hE.below hb
          obtain ⟨X, HX⟩ : ∃ X, Hid (markAt s.marks k = X) := ⟨_, rfl⟩
          rw [HX.out] at i1
          obtain ⟨au, lu, cu, rfl, _⟩ := id i1
          go_wp2_with fail
          refine (equal_any _ _ X E _ (by exact i1) (by exact hE')).mono ?_
          rintro e w6 ⟨rfl, m6, rfl⟩
          clear c1
          cases hq : (X == E)
          · have Hne : Hid (markAt s.marks k ≠ E) := by show markAt s.marks k ≠ E; rw [HX.out]; simpa using hq
            go_wp2_with fail
            refine (acovers_any _ _ X E _ (i1.drewN m6) (hE'.drewN m6)).mono ?_
            rintro e w7 ⟨rfl, m7, rfl⟩
            have hb7 := below_drewN (below_drewN hb m6) m7
            have i7 := (i1.drewN m6).drewN m7
            obtain ⟨w7, Hw7⟩ : ∃ w7, Hid ((wr.drewN m6).drewN m7 = w7) := ⟨_, rfl⟩
            rw [Hw7.out] at hb7 i7 ⊢
            clear Hw7 hb i1 hE' hq
            cases hc : coversL X E
            · have R : Hid (AtIs s.marks E (k + 1) z) := Hat.out.no Hne.out (by rw [HX.out]; exact hc)
              clear hc Hat
              go_wp2
              go_roundg (gk - 1)
              case measure => omega
              case rel => exact ⟨k + 1, z, by omega, by go_num, rfl, R, hb7⟩
            · have R : Hid (Verd n i o most ⟨2, X, 0⟩ 0) := by have := HV.out _ (says_extra (n := n) (by rw [Hlm.out]; exact hk) ⟨by rw [HX.out]; exact hc, Hne.out⟩ Hat.out.1); rw [HX.out] at this; exact this
              have hva7 := hva.below hb7
              obtain ⟨q1, q2, q3, qf⟩ := hva7.cells
              have qf0 := qf 0
              have qf1 := qf 1
              have qf2 := qf 2
              obtain ⟨W, HWw, z1, z2, z3, bz⟩ := hva7.put (.int .i64 2) (.slice au lu cu) (.int .i64 0)
              have HI : Hid (Ints W (.slice au lu cu) X) := by have := i7.put_verd (u := .slice au lu cu) (by have := Hl2.out k (by rw [Hlm.out]; exact hk); rw [HX.out] at this; exact this) hva7 (.int .i64 2); rw [HWw.out] at this; exact this
              have R2 : Below w.heap.size w W := (below_then c hb7).trans (bz.mono (by omega))
              clear hva hva7 bz hbx c qf hbs hc Hat hb7 i7 hsv hMk hE
              go_wp2_with fail
              rw [HWw.out]
              exact bodyPost_ret (v := .tuple #[.agg #[.int .i64 2, .slice au lu cu, .int .i64 0], .int .i64 0]) (results_verd rfl rfl rfl z1 z2 z3) rfl ⟨_, _, _, rfl, ⟨⟨_, rfl, HI.out⟩, R.out⟩, R2⟩
          · have R : Hid (AtIs s.marks E (k + 1) k) := Hat.out.yes (by rw [HX.out]; simpa using hq)
            have hb7 := below_drewN hb m6
            clear hb i1 hE' hq Hat
            go_wp2
            go_roundg (gk - 1)
            case measure => omega
            case rel => exact ⟨k + 1, k, by omega, by go_num, rfl, R, hb7⟩
        · obtain rfl : k = lm := by omega
          replace hbx := hbx.below hb
          replace hva := hva.below hb
          replace hsv := hsv.below hb
          replace hbs := hbs.below hb
          replace hMk := hMk.below hb
          replace c := below_then c hb
          clear hb hE
          obtain ⟨y0, y1, y2⟩ := id hbs
          have Hnx : Hid (∀ j, j < s.marks.length → ¬ ExtraM E (markAt s.marks j)) := by rw [Hlm.out]; exact Hat.out.1
          have HA : Hid (AtIs s.marks E s.marks.length z) := by rw [Hlm.out]; exact Hat.out
          have hz := Hat.out.lt
          clear Hat
          obtain ⟨w8, Hw8⟩ : ∃ w8, Hid (wr = w8) := ⟨_, rfl⟩
          rw [Hw8.out] at hbx hva hsv hbs hMk c y0 y1 y2 ⊢
          clear Hw8
          go_wp2_with fail
          refine (greach_any _ (toZ s) _ (by exact hsv) HW.out.right).mono ?_
          have Hlz : Hid ((toZ s).marks.length = k) := Hlm.out
          rw [Hlz.out]
          rintro e w9 ⟨bm, rb, M, rfl, hM, hIR, b9⟩
          have HR : Hid (IsReach (toZ s) M) := hIR
          replace hbx := hbx.below b9
          replace hva := hva.below b9
          replace hsv := hsv.below b9
          replace hbs := hbs.below b9
          replace hMk := hMk.below b9
          replace c := below_then c b9
          clear b9 y0 y1 y2 hIR
          obtain ⟨y0, y1, y2⟩ := id hbs
          obtain ⟨lm, rfl⟩ : ∃ lm, lm = k := ⟨_, rfl⟩
          go_wp2_with fail
          clear y0 y1 y2
          go_loopg [69] lm (fun g i wr => ∃ k : Nat, k + g = lm ∧ i = .int .i64 k ∧ Hid (∀ j, j < k → ReachZ n (markAt s.marks j) E) ∧ wr = w9)
          case atStart => exact ⟨0, by omega, rfl, fun j hj => absurd hj (Nat.not_lt_zero _), rfl⟩
          case round =>
            obtain ⟨k, hkg, rfl, Hk, rfl⟩ := hrel
            obtain ⟨w9, rfl⟩ : ∃ w0, w0 = wr := ⟨_, rfl⟩
            by_cases hk : k < lm
            · obtain ⟨b1, o1, u1, rfl, _, c1, i1⟩ := hMk.at hk
              obtain ⟨X, HX⟩ : ∃ X, Hid (markAt s.marks k = X) := ⟨_, rfl⟩
              rw [HX.out] at i1
              obtain ⟨au, lu, cu, rfl, _⟩ := id i1
              have Hks : Hid (k < s.marks.length) := by show k < s.marks.length; rw [Hlm.out]; exact hk
              have HZ : Hid (¬ ReachZ n (markAt s.marks k) E → Verd n i o most ⟨3, X, 0⟩ 0) := fun hq => by have := HV.out _ (says_stuck (n := n) Hnx.out Hks.out hq Hk.out); rw [HX.out] at this; exact this
              obtain ⟨q1, q2, q3, qf⟩ := hva.cells
              have qf0 := qf 0
              have qf1 := qf 1
              have qf2 := qf 2
              obtain ⟨W, HWw, z1, z2, z3, bz⟩ := hva.put (.int .i64 3) (.slice au lu cu) (.int .i64 0)
              have HI : Hid (Ints W (.slice au lu cu) X) := by have := i1.put_verd (u := .slice au lu cu) (by have := Hl2.out k Hks.out; rw [HX.out] at this; exact this) hva (.int .i64 3); rw [HWw.out] at this; exact this
              have R2 : Below w.heap.size w W := c.trans (bz.mono (by omega))
              rcases hz with hz | ⟨g, hz, hgl⟩
              · subst hz
                have R : Hid (Verd n i o most ⟨3, X, 0⟩ 0) := HZ.out (HA.out.none HW.out Hks.out)
                clear hva bz hbx c qf hbs hsv hMk i1 hM
                go_wp2_with fail
                rw [HWw.out]
                exact bodyPost_ret (v := .tuple #[.agg #[.int .i64 3, .slice au lu cu, .int .i64 0], .int .i64 0]) (results_verd rfl rfl rfl z1 z2 z3) rfl ⟨_, _, _, rfl, ⟨⟨_, rfl, HI.out⟩, R.out⟩, R2⟩
              · subst hz
                have m1 := hM.rows k hk
                have m2 := hM.cells k g hk hgl
                have Hr : Hid (M k g = true ↔ ReachZ n (markAt s.marks k) E) := HA.out.reach HW.out HR.out Hks.out
                cases hmk : M k g
                · rw [hmk] at m2
                  have R : Hid (Verd n i o most ⟨3, X, 0⟩ 0) := HZ.out fun q => by have := Hr.out.2 q; rw [hmk] at this; cases this
                  clear hva bz hbx c qf hbs hsv hMk i1 hM hmk
                  go_wp2_with fail
                  rw [HWw.out]
                  exact bodyPost_ret (v := .tuple #[.agg #[.int .i64 3, .slice au lu cu, .int .i64 0], .int .i64 0]) (results_verd rfl rfl rfl z1 z2 z3) rfl ⟨_, _, _, rfl, ⟨⟨_, rfl, HI.out⟩, R.out⟩, R2⟩
                · rw [hmk] at m2
                  have R : Hid (∀ j, j < k + 1 → ReachZ n (markAt s.marks j) E) := fun j hj => by
                    by_cases e : j = k
                    · subst e; exact Hr.out.1 hmk
                    · exact Hk.out j (by omega)
                  clear q1 q2 q3 qf qf0 qf1 qf2 HWw HI R2 z1 z2 z3 bz HZ hmk
                  go_wp2
                  go_roundg (gk - 1)
                  case measure => omega
                  case rel => exact ⟨k + 1, by omega, by go_num, R, rfl⟩
            · obtain rfl : k = lm := by omega
              have Hall : Hid (∀ j, j < s.marks.length → ReachZ n (markAt s.marks j) E) := by rw [Hlm.out]; exact Hk.out
              obtain ⟨y0, y1, y2⟩ := id hbs
              obtain ⟨x0, x1, x2⟩ := id hbx
              obtain ⟨ta, lt, tc, rfl, hlt, _⟩ := id hT
              have Hlt : Hid _ := hlt
              clear Hk hM hMk hlt
              go_wp2_with fail
              refine (gdead_any _ (toZ s) lt _ (by exact hsv)).mono ?_
              rintro e w10 ⟨dv, rfl, hD, b10⟩
              replace hva := hva.below b10
              replace c := below_then c b10
              clear x0 x1 x2 y0 y1 y2 hsv hbs hbx b10
              rw [← Hlt.out] at hD
              cases hdl : deadL (toZ s) n.trans.length with
              | nil =>
                rw [hdl] at hD
                obtain ⟨da, dl, dc, rfl, hdl0, _⟩ := hD
                obtain rfl : dl = 0 := by rw [← hdl0]; rfl
                have R : Hid (Verd n i o most ⟨1, [], 0⟩ 0) := HV.out _ (says_sound Hnx.out Hall.out hdl)
                obtain ⟨q1, q2, q3, qf⟩ := hva.cells
                have qf0 := qf 0
                have qf1 := qf 1
                have qf2 := qf 2
                obtain ⟨W, HWw, z1, z2, z3, bz⟩ := hva.put (.int .i64 1) (.slice none 0 0) (.int .i64 0)
                have R2 : Below w.heap.size w W := c.trans (bz.mono (by omega))
                clear hva c bz qf hdl hdl0
                go_wp2_with fail
                go_loopg [95] 0 (fun g i wr => i = .int .i64 0 ∧ wr = w10)
                case atStart => exact ⟨rfl, rfl⟩
                case round =>
                  obtain ⟨rfl, rfl⟩ := hrel
                  go_wp2_with fail
                  rw [HWw.out]
                  exact bodyPost_ret (v := .tuple #[.agg #[.int .i64 1, .slice none 0 0, .int .i64 0], .int .i64 0]) (results_verd rfl rfl rfl z1 z2 z3) rfl ⟨_, _, _, rfl, ⟨⟨_, rfl, Ints.nil _⟩, R.out⟩, R2⟩
              | cons t ts =>
                rw [hdl] at hD
                obtain ⟨da, dl, dc, rfl, hdl0, hdm, _, hdr⟩ := hD
                obtain ⟨db, doff, rfl, _, hdc⟩ := hdr 0 (by simp)
                have hdl1 : 0 < dl := by rw [← hdl0]; simp
                have hdc' : w10.cell? ⟨db, doff, none⟩ = some (.int .i64 t) := hdc
                have R : Hid (Verd n i o most ⟨4, [], t⟩ 0) := HV.out _ (says_dead Hnx.out Hall.out hdl)
                obtain ⟨q1, q2, q3, qf⟩ := hva.cells
                have qf0 := qf 0
                have qf1 := qf 1
                have qf2 := qf 2
                obtain ⟨W, HWw, z1, z2, z3, bz⟩ := hva.put (.int .i64 4) (.slice none 0 0) (.int .i64 t)
                have R2 : Below w.heap.size w W := c.trans (bz.mono (by omega))
                clear hva c bz qf hdl hdl0 hdc hdr
                go_wp2_with fail
                go_loopg [95] 0 (fun g i wr => i = .int .i64 0 ∧ wr = w10)
                case atStart => exact ⟨rfl, rfl⟩
                case round =>
                  obtain ⟨rfl, rfl⟩ := hrel
                  go_wp2_with fail
                  rw [HWw.out]
                  exact bodyPost_ret (v := .tuple #[.agg #[.int .i64 4, .slice none 0 0, .int .i64 t], .int .i64 0]) (results_verd rfl rfl rfl z1 z2 z3) rfl ⟨_, _, _, rfl, ⟨⟨_, rfl, Ints.nil _⟩, R.out⟩, R2⟩
    · have hdd : (dg != 0) = true := by simpa using hg0
      have HV : Hid (Verd n i o most ⟨0, [], 0⟩ dg) := by have := verd_full (i := i) (o := o) (most := most) HS.out (by rw [HG.out]; exact hg0); rw [HG.out] at this; exact this
      obtain ⟨q1, q2, q3, qf⟩ := hva.cells
      have qf0 := qf 0
      have qf1 := qf 1
      have qf2 := qf 2
      obtain ⟨W, HW, z1, z2, z3, bz⟩ := hva.put (.int .i64 0) (.slice none 0 0) (.int .i64 0)
      have R : Below w.heap.size w W := c.trans (bz.mono (by omega))
      clear hva hv hg0 bz hbx c qf hSp hbs HG Hfl
      go_wp2_with fail
      rw [HW.out]
      exact bodyPost_ret (v := .tuple #[.agg #[.int .i64 0, .slice none 0 0, .int .i64 0], .int .i64 dg]) (results_verd rfl rfl rfl z1 z2 z3) rfl ⟨_, _, _, rfl, ⟨verd_none _, HV.out⟩, R⟩
  · have hdd : (d != 0) = true := by simpa using hd0
    have HV : Hid (Verd n i o most ⟨0, [], 0⟩ d) := ⟨fun _ => ⟨hd, rfl⟩, fun hs => absurd hs (hd.not_zero hd0), fun hs => absurd hs (hd.not_zero hd0)⟩
    obtain ⟨q1, q2, q3, qf⟩ := hva.cells
    have qf0 := qf 0
    have qf1 := qf 1
    have qf2 := qf 2
    obtain ⟨W, HW, z1, z2, z3, bz⟩ := hva.put (.int .i64 0) (.slice none 0 0) (.int .i64 0)
    have R : Below w.heap.size w W := c.trans (bz.mono (by omega))
    clear hva hv hd hd0 bz hbx c qf
    go_wp2_with fail
    rw [HW.out]
    exact bodyPost_ret (v := .tuple #[.agg #[.int .i64 0, .slice none 0 0, .int .i64 0], .int .i64 d]) (results_verd rfl rfl rfl z1 z2 z3) rfl ⟨_, _, _, rfl, ⟨verd_none _, HV.out⟩, R⟩

end Go.Proofs.Ytkdbkoogcndlgaa
