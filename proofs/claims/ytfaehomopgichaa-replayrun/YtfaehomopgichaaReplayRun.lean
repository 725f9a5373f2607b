/- The law ReplayRun, walked: it answers true, and writes nothing that was there. -/
import Derived.Test.YtfaehomopgichaaGr15
import Derived.Test.YtfaehomopgichaaGr05
import Derived.Test.YtfaehomopgichaaGr08
namespace Go.Proofs.Ytfaehomopgichaa
open Go.RowKit
set_option linter.unusedVariables false
set_option linter.unusedSimpArgs false
set_option maxRecDepth 4000

theorem labels_askR (w0 : World) (bl : Nat) (l : Int) (hl : Box1 w0 bl (.int .i64 l)) : AsksT1 w0 10 (.pointer (some ⟨bl, 0, none⟩)) (hasLab l) := by
  intro u1 u2 x w hb h1 h2
  obtain ⟨a1, l1, p1, rfl, _⟩ := id h1
  obtain ⟨a2, l2, p2, rfl, _⟩ := id h2
  have bb := below_new w (.cells #[.int .i64 x.label, .slice a1 l1 p1, .slice a2 l2 p2] 35)
  obtain ⟨hlt, c0⟩ := (hl.below hb).below bb
  obtain ⟨y, Hy⟩ : ∃ y, Hid (x.label = y) := ⟨_, rfl⟩
  have R : Hid (hasLab l x = (y == l)) := by unfold hasLab; rw [Hy.out]; rfl
  rw [Hy.out] at bb c0 ⊢
  rw [R.out]
  clear h1 h2 hb hl hlt
  go_enter Try.func10, Try.ntmps10
  go_wp2
  go_ret
  exact ⟨rfl, bb⟩
theorem idxs_next (n : NetL) {tr : List Int} {k : Nat} (hk : k < tr.length) : idxs n (tr.take (k + 1)) = idxs n (tr.take k) ++ [idxI (n.trans.findIdx? (hasLab (nth tr k)))] := by
  rw [take_succ hk]
  simp only [idxs, List.map_append, List.map_cons, List.map_nil]
  rfl

set_option maxHeartbeats 8000000 in
theorem replayRun_walk (v sv : Value) (n : NetL) (i o : Int) (tr : List Int) (w : World) (hv : Net w v n) (hs : Ints w sv tr) :
    Calls Try.prog 5 #[v, .int .i64 i, .int .i64 o, sv] w fun e w' => e = .returned (.bool true) ∧ Below w.heap.size w w' := by
  obtain ⟨tv, rfl, hT⟩ := hv
  have c := below_new w (.cells #[.int .i64 n.places, tv] 24)
  have hbx := box2_new w (.int .i64 n.places) tv 24
  have hv : Net _ (.agg #[.int .i64 n.places, tv]) n := ⟨_, rfl, hT.below c⟩
  replace hs := hs.below c
  clear hT
  go_enter Try.func5, Try.ntmps5
  go_wp2_with fail
  refine (alive20_any _).mono ?_
  rintro e w1 ⟨rfl, b⟩
  replace hv := hv.below b
  replace hs := hs.below b
  replace hbx := hbx.below b
  replace c := below_then c b
  clear b
  obtain ⟨x0, x1, x2⟩ := id hbx
  go_wp2_with fail
  refine (replay_replay _ _ n i o tr _ (by exact hv) (by exact hs)).mono ?_
  rintro e w2 ⟨r, d, rfl, hR, b⟩
  replace c := below_then c b
  replace hv := hv.below b
  replace hs := hs.below b
  replace hbx := hbx.below b
  clear b x0 x1 x2
  have bn := below_new w2 (.cells (playA r) 27)
  have hp := playAt_new w2 r
  obtain ⟨p1, p2, p3, p4⟩ := r
  obtain ⟨bk, Hbk⟩ : ∃ b1, Hid (w2.heap.size = b1) := ⟨_, rfl⟩
  rw [Hbk.out] at hp
  obtain ⟨w3, Hw3⟩ : ∃ w3, Hid (w2.alloc (.cells #[.int .i64 p1, .int .i64 p2, .int .i64 p3, .int .i64 p4] 27) = w3) := ⟨_, rfl⟩
  have e0 : w2.alloc (.cells (playA ⟨p1, p2, p3, p4⟩) 27) = w3 := Hw3.out
  rw [e0] at hp bn
  clear e0
  replace c := below_then c bn
  replace hv := hv.below bn
  replace hs := hs.below bn
  replace hbx := hbx.below bn
  simp only [playV, playA]
  go_upto_region 4 with fail
  rw [Hbk.out, Hw3.out]
  clear Hbk Hw3 bn
  obtain ⟨q1, q2, q3, q4, _, _, _, _⟩ := hp.cells
  simp only at q1 q2 q3 q4
  by_cases hd : d = 0
  · subst hd
    by_cases hl : 0 < p3
    · clear hp hR
      go_wp2
      go_ret
      exact ⟨rfl, c⟩
    · have s2 := hR.sums.2.1
      simp only at s2
      obtain rfl : p3 = 0 := by omega
      obtain ⟨xs, P, hP, h1, h2, h3, h4, h5, _⟩ := hR.run rfl
      simp only at h4
      have HS : Hid (ShapeOk n i o) := hR.zero.1
      have Hlt : Hid (tr.length ≤ 60) := hR.zero.2.2.1
      have s9 := hR.sums
      simp only at s9
      obtain ⟨_, _, s3, _, _, _, _, _, s9⟩ := s9
      clear hR s2 hl
      have H1 : Hid _ := h1
      have H4 : Hid _ := h4
      have H5 : Hid _ := h5
      have HP : Hid _ := hP
      have H3 : Hid (xs.length = P) := h3
      clear h1 h2 h4 h5 hP h3
      obtain ⟨ua, ul, uc, rfl, hul, hum, hush, _⟩ := id hs
      have Hul : Hid (tr.length = ul) := hul
      have hul60 : ul ≤ 60 := by rw [← hul]; exact Hlt.out
      clear hul
      obtain ⟨tv', e', hT⟩ := id hv
      injection e' with e'
      simp at e'
      subst e'
      obtain ⟨ta, tl, tc, rfl, _⟩ := id hT
      go_upto_region 8 with fail
      go_loopg [11, 38] ul (fun gk sq ix wr => ∃ k : Nat, k + gk = ul ∧ ix = .int .i64 k ∧ Own w3.heap.size w3 wr sq (idxs n (tr.take k)))
      case atStart => exact ⟨0, by omega, rfl, Own.nil _⟩
      case round =>
        obtain ⟨k, hkg, rfl, hO⟩ := hrel
        by_cases hkn : k < ul
        · obtain ⟨ua', ul', uc', e, _, _, _, hr⟩ := (hs.below hO.2.1)
          injection e with e1 e2 e3
          subst e1 e2 e3
          have hkt : k < tr.length := by rw [Hul.out]; exact hkn
          obtain ⟨ub, uo, rfl, hublt, hc⟩ := hr k hkt
          have Hnx : Hid _ := idxs_next n hkt
          clear hr hkt
          obtain ⟨l, Hl⟩ : ∃ l, Hid (nth tr k = l) := ⟨_, rfl⟩
          rw [Hl.out] at hc Hnx
          have bl := below_new wr (.cells #[.int .i64 l] 3)
          have hBl1 := box1_new wr (.int .i64 l) 3
          obtain ⟨wl, Hwl⟩ : ∃ v, Hid (wr.alloc (.cells #[.int .i64 l] 3) = v) := ⟨_, rfl⟩
          rw [Hwl.out] at bl hBl1
          have hb2 := below_then hO.2.1 bl
          have hbw2 := hbx.below hb2
          obtain ⟨y0, y1, y2⟩ := id hbw2
          have hil : (idxs n (tr.take k)).length ≤ 60 := by
            simp only [idxs, List.length_map, List.length_take]; have := Hul.out; omega
          obtain ⟨la, ll, lc, rfl⟩ := hO.slice
          go_upto_region 10 with fail
          rw [Hwl.out]
          clear Hwl hc
          go_wp2_with fail
          refine (indextrans1 wl 10 _ (hasLab l) (labels_askR wl wr.heap.size l hBl1) Try.call10 _ n.trans wl (Below.refl _ _) (by exact hT.below hb2)).mono ?_
          rintro e w7 ⟨rfl, b7⟩
          obtain ⟨z, Hz⟩ : ∃ z, Hid (idxI (n.trans.findIdx? (hasLab l)) = z) := ⟨_, rfl⟩
          rw [Hz.out] at Hnx ⊢
          have hO7 := (hO.trans bl).trans b7
          clear hBl1 hbw2 y0 y1 y2 hO bl b7 hb2 Hz
          go_wp2_with (at_builtin; refine wp_append_int rfl _ _ rfl w3.heap.size w3 _ _ _ z hO7 rfl rfl (by omega) ?_; intro v' w5 hO5)
          go_roundg (gk - 1)
          case measure => omega
          case rel => exact ⟨k + 1, by omega, by go_num, by rw [Hnx.out]; exact hO5⟩
        · obtain rfl : k = ul := by omega
          rw [List.take_of_length_le (by rw [Hul.out]; exact Nat.le_refl _)] at hO
          have hsq := hO.ints (by simp only [idxs, List.length_map]; have := Hul.out; omega)
          obtain ⟨la, ll, lc, rfl, _⟩ := id hsq
          have hb := hO.2.1
          replace hv := hv.below hb
          replace hbx := hbx.below hb
          replace c := below_then c hb
          replace hp := hp.below hb hp.lt
          clear hO hs hT
          obtain ⟨x0, x1, x2⟩ := id hbx
          go_upto_region 12 with fail
          go_region_held3 (fun w' => w'.cell? ⟨w.heap.size, 0, none⟩ = some (.int .i64 n.places) ∧ w'.cell? ⟨w.heap.size, 1, none⟩ = some (.slice ta tl tc))
            (go_keep)
            (first
              | (go_at_call 12; refine (shape_start _ n i _ ?_).mono ?_; exact hv.below (below_drewN (Below.refl _ _) 1); rintro e wA ⟨rA, rfl, hA, bA0⟩; have bA := below_then (below_drewN (Below.refl wr.heap.size wr) 1) bA0; obtain ⟨xA0, xA1, xA2⟩ := hbx.below bA)
              | (go_at_call 11; refine (net_run n (idxs n tr) _ rA _ (startL n.places i) _ ?_ ?_ ?_).mono ?_; exact hv.below bA; exact hA; exact hsq.below bA; rintro e wD ⟨rD, rfl, hD, bD0⟩; rw [H1.out] at hD ⊢; have bD := below_then bA bD0; obtain ⟨xD0, xD1, xD2⟩ := hbx.below bD))
          all_goals
            replace c := below_then c bD
            replace hp := hp.below bD hp.lt
            clear hA xA0 xA1 xA2 xD0 xD1 xD2 bA bD x0 x1 x2 bA0 bD0 hbx hv hsq hb q1 q2 q3 q4
            obtain ⟨q1, q2, q3, q4, _, _, _, _⟩ := hp.cells
            simp only at q1 q2 q3 q4 hD
            have Hri : Hid (∀ j, 0 ≤ nth xs j ∧ nth xs j ≤ 1000000) := (rightL_iff _).1 (fits_net (run_fits _ H1.out).2).2.2
            have hP16 : P ≤ 16 := by
              have h0 := HS.out.ok
              have hp' := HP.out
              simp only [netOk, headOk, Bool.and_eq_true, decide_eq_true_eq] at h0
              omega
            have HSb : Hid (∀ j, j ≤ P → 0 ≤ sumTo (nth xs) j ∧ sumTo (nth xs) j ≤ 16000000) := fun j hj => by
              have a1 := sumTo_nonneg (f := nth xs) (k := j) fun m _ => (Hri.out m).1
              have a2 := sumTo_le (f := nth xs) (g := fun _ => 1000000) (k := j) fun m _ => (Hri.out m).2
              rw [sumTo_const] at a2
              exact ⟨a1, by omega⟩
            obtain ⟨xa, xl, xc, rfl, hxl, _, _, hxr⟩ := hD
            have hxP : xl = P := by rw [← hxl]; exact H3.out
            subst hxP
            have Hxr : Hid _ := hxr
            clear hxr hxl
            obtain ⟨o', ho⟩ : ∃ o' : Nat, o = o' := Int.eq_ofNat_of_zero_le HS.out.o0
            subst ho
            have hoP : o' < xl := by have h1 := HS.out.o1; have h2 := HP.out; omega
            rw [Int.toNat_natCast] at H5
            go_upto_region 15 with fail
            go_loopg [16, 61] xl (fun gk sm ix wr' => ∃ k : Nat, k + gk = xl ∧ ix = .int .i64 k ∧ sm = .int .i64 (sumTo (nth xs) k) ∧ wr' = wD)
            case atStart => exact ⟨0, by omega, rfl, rfl, rfl⟩
            case round =>
              obtain ⟨j, hjg, rfl, rfl, rfl⟩ := hrel
              have hb1 := HSb.out j (by omega)
              by_cases hjn : j < xl
              · obtain ⟨xb, xo, rfl, _, hc⟩ := Hxr.out j (by rw [H3.out]; exact hjn)
                have Hs : Hid (sumTo (nth xs) (j + 1) = sumTo (nth xs) j + nth xs j) := rfl
                have hb2 := Hri.out j
                obtain ⟨S, HS0⟩ : ∃ S, Hid (sumTo (nth xs) j = S) := ⟨_, rfl⟩
                obtain ⟨y, Hy⟩ : ∃ S, Hid (nth xs j = S) := ⟨_, rfl⟩
                rw [HS0.out] at hb1 Hs ⊢
                rw [Hy.out] at hb2 hc Hs
                clear HS0 Hy
                go_wp2
                go_roundg (gk - 1)
                case measure => omega
                case rel => exact ⟨j + 1, by omega, by go_num, by rw [Hs.out], rfl⟩
              · obtain rfl : j = xl := by omega
                obtain ⟨xb, xo, rfl, _, hc⟩ := Hxr.out o' (by rw [H3.out]; exact hoP)
                obtain ⟨y, Hy⟩ : ∃ S, Hid (nth xs o' = S) := ⟨_, rfl⟩
                have h5 := H5.out
                rw [Hy.out] at hc h5
                have h4 : (sumTo (nth xs) j == p4 + 1) = true := by rw [beq_iff_eq]; exact H4.out
                obtain ⟨S, HS0⟩ : ∃ S, Hid (sumTo (nth xs) j = S) := ⟨_, rfl⟩
                rw [HS0.out] at hb1 h4 ⊢
                clear HS0 Hy
                go_wp2
                go_ret
                exact ⟨rfl, c⟩
  · have hdd : (d != 0) = true := by simpa using hd
    clear hp hR hd
    go_wp2
    go_ret
    exact ⟨rfl, c⟩

end Go.Proofs.Ytfaehomopgichaa
