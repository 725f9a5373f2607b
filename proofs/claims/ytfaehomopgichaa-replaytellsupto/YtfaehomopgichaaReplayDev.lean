/- Package replay as it landed: Replay. -/
import Derived.Test.YtfaehomopgichaaGr13
import Derived.Test.YtfaehomopgichaaReplayMem
import Derived.Test.YtfaehomopgichaaShapeDev
namespace Go.Proofs.Ytfaehomopgichaa
open Go.RowKit
set_option linter.unusedVariables false
set_option linter.unusedSimpArgs false
set_option maxRecDepth 4000

theorem gameAt_new {w w1 : World} {P : Nat} (hR : RowAt w.heap.size w w1 P (fun _ => 0)) : GameAt w1.heap.size w.heap.size P (w1.alloc (.cells (gameA noPlay w.heap.size P) 43)) ⟨noPlay, fun _ => 0⟩ := by
  have bb := below_new w1 (.cells (gameA noPlay w.heap.size P) 43)
  have h2 := hR.to bb
  exact ⟨heap_alloc_at w1 _, h2.cells, h2.frozen, by have := hR.size; omega, h2.size⟩
theorem take_succ {xs : List Int} {k : Nat} (hk : k < xs.length) : xs.take (k + 1) = xs.take k ++ [nth xs k] := by
  rw [List.take_add_one]
  simp [nth, List.getD, List.getElem?_eq_getElem hk]
theorem take_split {xs : List Int} {k : Nat} (hk : k < xs.length) : xs = xs.take k ++ nth xs k :: xs.drop (k + 1) := by
  have := List.take_append_drop k xs
  rw [List.drop_eq_getElem_cons hk] at this
  rw [show nth xs k = xs[k] by simp [nth, List.getD, List.getElem?_eq_getElem hk]]
  exact this.symm

set_option maxHeartbeats 8000000 in
theorem replay_replay (v u : Value) (n : NetL) (i o : Int) (tr : List Int) (w : World) (hv : Net w v n) (hu : Ints w u tr) :
    Calls Try.prog 6 #[v, .int .i64 i, .int .i64 o, u] w fun e w' => ∃ r d, e = .returned (.tuple #[playV r, .int .i64 d]) ∧ Replayed n i o tr r d ∧ Below w.heap.size w w' := by
  obtain ⟨tv, rfl, hT⟩ := hv
  obtain ⟨ta, tlen, tc, rfl, htl, _, _, _⟩ := id hT
  obtain ⟨ua, ul, uc, rfl, hul, hum, hush, _⟩ := id hu
  have Hul : Hid (tr.length = ul) := hul
  have Htl : Hid (n.trans.length = tlen) := htl
  clear hul htl
  have b1 := below_new w (.cells #[.int .i64 n.places, .slice ta tlen tc] 24)
  have hbx := box2_new w (.int .i64 n.places) (.slice ta tlen tc) 24
  obtain ⟨wa, Hwa⟩ : ∃ v, Hid (w.alloc (.cells #[.int .i64 n.places, .slice ta tlen tc] 24) = v) := ⟨_, rfl⟩
  rw [Hwa.out] at b1 hbx
  have s1 : wa.heap.size = w.heap.size + 1 := by rw [← Hwa.out]; simp
  have b2 := below_new wa (.cells (playA noPlay) 27)
  have hPl := playAt_new wa noPlay
  rw [s1] at hPl
  obtain ⟨w0, Hw0⟩ : ∃ v, Hid (wa.alloc (.cells #[.int .i64 0, .int .i64 0, .int .i64 0, .int .i64 0] 27) = v) := ⟨_, rfl⟩
  have e0 : wa.alloc (.cells (playA noPlay) 27) = w0 := Hw0.out
  rw [e0] at b2 hPl
  clear e0
  replace hbx := hbx.below b2
  have c0 := below_then b1 b2
  replace hT := hT.below c0
  replace hu := hu.below c0
  have hv : Net w0 (.agg #[.int .i64 n.places, .slice ta tlen tc]) n := ⟨_, rfl, hT⟩
  obtain ⟨x0, x1, x2⟩ := id hbx
  go_enter Try.func6, Try.ntmps6
  go_upto_region 1 with fail
  rw [Hwa.out]
  first | rw [s1, Hw0.out] | rw [Hw0.out]
  clear Hwa Hw0 s1 b1 b2
  go_wp2_with fail
  refine (shape_wrong _ n i o w0 (by exact hv)).mono ?_
  rintro e w1 ⟨d, rfl, hd, b⟩
  have hltP := hPl.lt
  replace hPl := hPl.below b hltP
  replace hbx := hbx.below b
  replace hT := hT.below b
  replace hu := hu.below b
  replace hv := hv.below b
  replace c0 := below_then c0 b
  clear x0 x1 x2 b hltP
  by_cases hd0 : d = 0
  · subst hd0
    have HS : Hid (ShapeOk n i o) := hd.zero
    clear hd
    obtain ⟨P, HP, hP0, hP1⟩ : ∃ P : Nat, Hid (n.places = (P : Int)) ∧ 0 < P ∧ P ≤ 16 := shape_places HS.out
    obtain ⟨x0, x1, x2⟩ := id hbx
    go_wp2_with fail
    refine (named_any _ n w1 (by exact hv) HS.out.ok).mono ?_
    rintro e w2 ⟨bn, rfl, hbn, b⟩
    have hltP := hPl.lt
    replace hPl := hPl.below b hltP
    replace hbx := hbx.below b
    replace hT := hT.below b
    replace hu := hu.below b
    replace hv := hv.below b
    replace c0 := below_then c0 b
    clear x0 x1 x2 b hltP
    cases bn
    · have HN : Hid (¬ NamedN n) := fun q => by have := hbn.2 q; cases this
      have HV : Hid (Replayed n i o tr noPlay 1) := Replayed.of_form HS.out HN.out
      obtain ⟨W, HW, z1, bz⟩ := hPl.put noPlay
      obtain ⟨q1, q2, q3, q4, f1, f2, f3, f4⟩ := hPl.cells
      have R : Below w.heap.size w W := c0.trans (bz.mono (by omega))
      simp only [noPlay] at HW q1 q2 q3 q4
      clear hPl hv hbx hT hu bz c0 hbn HN
      go_wp2_with fail
      rw [HW.out]
      exact bodyPost_ret (v := .tuple #[playV noPlay, .int .i64 1]) (results_play rfl rfl rfl z1) rfl ⟨_, _, rfl, HV.out, R⟩
    · have HN : Hid (NamedN n) := hbn.1 rfl
      clear hbn
      by_cases hl60 : 60 < ul
      · have HV : Hid (Replayed n i o tr noPlay 2) := Replayed.of_many HS.out HN.out (by rw [Hul.out]; exact hl60)
        obtain ⟨W, HW, z1, bz⟩ := hPl.put noPlay
        obtain ⟨q1, q2, q3, q4, f1, f2, f3, f4⟩ := hPl.cells
        have R : Below w.heap.size w W := c0.trans (bz.mono (by omega))
        simp only [noPlay] at HW q1 q2 q3 q4
        clear hPl hv hbx hT hu bz c0 HN
        go_wp2_with fail
        rw [HW.out]
        exact bodyPost_ret (v := .tuple #[playV noPlay, .int .i64 2]) (results_play rfl rfl rfl z1) rfl ⟨_, _, rfl, HV.out, R⟩
      · obtain ⟨x0, x1, x2⟩ := id hbx
        rw [HP.out] at x1
        obtain ⟨w3, hmk, hR⟩ := make_intsZ w2 P (P : Int) rfl (by omega)
        have bR : Below w2.heap.size w2 w3 := hR.below
        have hG := gameAt_new hR
        have bG := below_new w3 (.cells (gameA noPlay w2.heap.size P) 43)
        obtain ⟨w4, Hw4⟩ : ∃ v, Hid (w3.alloc (.cells #[.int .i64 0, .int .i64 0, .int .i64 0, .int .i64 0, .slice (some ⟨w2.heap.size, 0, none⟩) P P] 43) = v) := ⟨_, rfl⟩
        have e0 : w3.alloc (.cells (gameA noPlay w2.heap.size P) 43) = w4 := Hw4.out
        rw [e0] at hG bG
        clear e0
        have hRs := hR.size
        clear hR
        obtain ⟨B, HB⟩ : ∃ B, Hid (w3.heap.size = B) := ⟨_, rfl⟩
        rw [HB.out] at hG hRs bG
        have hl60' : ¬ ((60 : Int) < (ul : Int)) := by omega
        have y1 := (bR.cell (p := ⟨w.heap.size, 1, none⟩) x0).trans x2
        go_upto_region 9 with fail
        rw [HB.out, Hw4.out]
        have c4 : Below w2.heap.size w2 w4 := bR.trans (bG.mono (by rw [← HB.out]; exact bR.size))
        have hBlt : B < w4.heap.size := blk_lt hG.box
        clear HB Hw4 hmk y1 bR bG x0 x1 x2
        have hbx4 := hbx.below c4
        obtain ⟨x0, x1, x2⟩ := id hbx4
        go_wp2_with fail
        refine (shape_start_own _ n i w4 (by exact hv.below c4)).mono ?_
        rintro e w5 ⟨r5, rfl, hO5, b5⟩
        obtain ⟨sa, sl, sc, rfl, _⟩ := id hO5.now
        have ht5 : Toks P (startL n.places i) := by rw [HP.out]; exact tok_of_start hP1 i
        have hG5 := hG.to b5
        go_wp2_with fail
        refine (put_any B w2.heap.size P 0 _ _ (startL n.places i) w5 hG5 hP1 (bnd_zero P) (by omega) ht5 (fun w' q => (q.on hO5 (by omega) (by omega)).now)).mono ?_
        rintro e w6 ⟨rfl, hG6, q6⟩
        have c6 : Below w2.heap.size w2 w6 := q6.low (c4.trans (b5.mono c4.size)) (by omega) (Nat.le_refl _)
        have hB6 : B < w6.heap.size := Nat.lt_of_lt_of_le (Nat.lt_of_lt_of_le hBlt b5.size) q6.size
        clear hG hG5 hO5 q6 b5 hbx4 x0 x1 x2 c4 hBlt
        have HG0 : Hid (gameL n (tr.take 0) (begunG n i) = some (begunG n i)) := by rw [List.take_zero]; rfl
        obtain ⟨g0, Hg0⟩ : ∃ g, Hid (begunG n i = g) := ⟨_, rfl⟩
        have e6 : putG ⟨noPlay, fun _ => 0⟩ (startL n.places i) = g0 := Hg0.out
        rw [e6] at hG6
        clear e6
        go_wp2_with fail
        go_loopg [41] ul (fun gk ix wr => ∃ (k : Nat) (g : GameL), k + gk = ul ∧ ix = .int .i64 k ∧ Below w2.heap.size w2 wr ∧ GameAt B w2.heap.size P wr g ∧ B < wr.heap.size ∧ Hid (gameL n (tr.take k) (begunG n i) = some g))
        case atStart => exact ⟨0, g0, by omega, rfl, c6, hG6, hB6, by rw [← Hg0.out]; exact HG0⟩
        case round =>
          obtain ⟨k, g, hkg, rfl, hb, hG, hBl, HGk⟩ := hrel
          have hbw := hbx.below hb
          obtain ⟨x0, x1, x2⟩ := id hbw
          by_cases hkn : k < ul
          · obtain ⟨ua', ul', uc', e, _, _, _, hr⟩ := (hu.below hb)
            injection e with e1 e2 e3
            subst e1 e2 e3
            have hkt : k < tr.length := by rw [Hul.out]; exact hkn
            obtain ⟨ub, uo, rfl, hublt, hc⟩ := hr k hkt
            have Hnx : Hid (tr.take (k + 1) = tr.take k ++ [nth tr k]) := take_succ hkt
            have Hsp : Hid (tr = tr.take k ++ nth tr k :: tr.drop (k + 1)) := take_split hkt
            have HB : Hid (BndG P (1 + 2 * (tr.take k).length) g) := BndG.game HS.out.ok HP.out hP1 _ (begun_bnd HP.out hP1 i) HGk.out
            have hlk : (tr.take k).length = k := by rw [List.length_take]; omega
            rw [hlk] at HB
            clear hlk hkt hr
            obtain ⟨l, Hl⟩ : ∃ l, Hid (nth tr k = l) := ⟨_, rfl⟩
            rw [Hl.out] at hc Hnx Hsp
            have bl := below_new wr (.cells #[.int .i64 l] 3)
            have hBl1 := box1_new wr (.int .i64 l) 3
            obtain ⟨wl, Hwl⟩ : ∃ v, Hid (wr.alloc (.cells #[.int .i64 l] 3) = v) := ⟨_, rfl⟩
            rw [Hwl.out] at bl hBl1
            have hb2 := below_then hb bl
            have hbw2 := hbx.below hb2
            obtain ⟨y0, y1, y2⟩ := id hbw2
            go_upto_region 13 with fail
            rw [Hwl.out]
            clear Hwl x0 x1 x2 hc
            go_wp2_with fail
            refine (indextrans1 wl 16 _ (hasLab l) (labels_asks wl wr.heap.size l hBl1) Try.call16 _ n.trans wl (Below.refl _ _) (by exact hT.below hb2)).mono ?_
            rintro e w7 ⟨rfl, b7⟩
            have hG7 := (hG.to bl).to b7
            have c7 : Below w2.heap.size w2 w7 := hb2.trans (b7.mono hb2.size)
            have hB7 : B < w7.heap.size := Nat.lt_of_lt_of_le (Nat.lt_of_lt_of_le hBl bl.size) b7.size
            clear hBl1 hbw hbw2 y0 y1 y2 hG bl b7 hb hb2 hBl
            have HI : Hid (n.trans.findIdx? (hasLab l) = labIdx n l) := rfl
            rw [HI.out]
            cases hq : labIdx n l with
            | none =>
              have HV : Hid (Replayed n i o tr noPlay 3) := Replayed.of_none HS.out HN.out (by rw [Hul.out]; omega) (by rw [Hsp.out]; exact gameL_stop _ _ _ _ _ _ HGk.out hq)
              have hPl7 := hPl.below c7 hPl.lt
              have hltP := hPl.lt
              obtain ⟨W, HW, z1, bz⟩ := hPl7.put noPlay
              obtain ⟨q1, q2, q3, q4, f1, f2, f3, f4⟩ := hPl7.cells
              have R : Below w.heap.size w W := (below_then c0 c7).trans (bz.mono (by omega))
              simp only [noPlay] at HW q1 q2 q3 q4
              have ei : idxI none = -1 := rfl
              rw [ei]
              clear hPl hPl7 hv hbx hT hu bz c0 HN hG7 c7 hq ei HGk
              go_wp2_with fail
              rw [HW.out]
              exact bodyPost_ret (v := .tuple #[playV noPlay, .int .i64 3]) (results_play rfl rfl rfl z1) rfl ⟨_, _, rfl, HV.out, R⟩
            | some j =>
              obtain ⟨hj, hlab⟩ := labIdx_some hq
              obtain ⟨tk1, tk2⟩ := tok_of_tran HS.out.ok HP.out hj
              have hjt : j < tlen := by rw [← Htl.out]; exact hj
              have HGn : Hid (gameL n (tr.take (k + 1)) (begunG n i) = some (putG (takeG g (tranAt n.trans j).pre) (tranAt n.trans j).post)) := by
                show _ = _
                rw [Hnx.out, gameL_snoc _ _ _ _ _ HGk.out, hq]
              have HB2 := HB.out.take hP1 tk1
              have ei : idxI (some j) = (j : Int) := rfl
              rw [ei]
              clear ei hlab hq HI
              have hbx7 := hbx.below c7
              obtain ⟨y0, y1, y2⟩ := id hbx7
              obtain ⟨tb, tf, k1, k2, rfl, hblt, t0, t1, t2, i1, i2⟩ := hT.at hjt
              obtain ⟨a1, l1, p1, rfl, _⟩ := id i1
              obtain ⟨a2, l2, p2, rfl, _⟩ := id i2
              have hv7 : ∀ w', Two B w2.heap.size w7 w' → Ints w' (.slice a1 l1 p1) (tranAt n.trans j).pre := fun w' q => i1.below (q.low c7 (by omega) (Nat.le_refl _))
              have T1 := (c7.cell (p := ⟨tb, tf + j * 3 + 1, none⟩) hblt).trans t1
              go_wp2_with fail
              refine (take_any B w2.heap.size P (1 + 2 * k) g _ _ w7 hG7 hP1 HB.out (by omega) tk1 hv7).mono ?_
              rintro e w8 ⟨rfl, hG8, q8⟩
              have c8 : Below w2.heap.size w2 w8 := q8.low c7 (by omega) (Nat.le_refl _)
              have hB8 := Nat.lt_of_lt_of_le hB7 q8.size
              clear hv7 T1 hG7 q8 y0 y1 y2 hbx7 c7 hB7
              have hbx8 := hbx.below c8
              obtain ⟨y0, y1, y2⟩ := id hbx8
              have hv8 : ∀ w', Two B w2.heap.size w8 w' → Ints w' (.slice a2 l2 p2) (tranAt n.trans j).post := fun w' q => i2.below (q.low c8 (by omega) (Nat.le_refl _))
              have T2 := (c8.cell (p := ⟨tb, tf + j * 3 + 2, none⟩) hblt).trans t2
              go_wp2_with fail
              refine (put_any B w2.heap.size P (1 + 2 * k + 1) _ _ _ w8 hG8 hP1 HB2 (by omega) tk2 hv8).mono ?_
              rintro e w9 ⟨rfl, hG9, q9⟩
              have c9 : Below w2.heap.size w2 w9 := q9.low c8 (by omega) (Nat.le_refl _)
              have hB9 := Nat.lt_of_lt_of_le hB8 q9.size
              clear hv8 T2 hG8 q9 y0 y1 y2 hbx8 c8 hB8 t0 t1 t2 i1 i2 tk1 tk2 HB2 hbx hPl hv
              go_wp2
              go_roundg (gk - 1)
              case measure => omega
              case rel => exact ⟨k + 1, _, by omega, by go_num, c9, hG9, hB9, HGn⟩
          · obtain rfl : k = ul := by omega
            have HGt : Hid (gameL n tr (begunG n i) = some g) := by have := HGk.out; rw [List.take_of_length_le (by rw [Hul.out]; exact Nat.le_refl _)] at this; exact this
            have HB : Hid (BndG P (1 + 2 * tr.length) g) := BndG.game HS.out.ok HP.out hP1 _ (begun_bnd HP.out hP1 i) HGt.out
            rw [Hul.out] at HB
            have HV : Hid (Replayed n i o tr (takeG g (startL n.places o)).pl 0) := Replayed.of_ok HS.out HN.out (by rw [Hul.out]; omega) HGt.out
            have ht : Toks P (startL n.places o) := by rw [HP.out]; exact tok_of_start hP1 o
            have hvw := hv.below hb
            go_wp2_with fail
            refine (shape_start_own _ n o wr (by exact hvw)).mono ?_
            rintro e w7 ⟨r7, rfl, hO7, b7⟩
            obtain ⟨sa, sl, sc, rfl, _⟩ := id hO7.now
            have hG7 := hG.to b7
            go_wp2_with fail
            refine (take_any B w2.heap.size P (1 + 2 * k) g _ (startL n.places o) w7 hG7 hP1 HB.out (by omega) ht (fun w' q => (q.on hO7 (by omega) (by have := hG.lt; omega)).now)).mono ?_
            rintro e w8 ⟨rfl, hG8, q8⟩
            have c8 : Below w2.heap.size w2 w8 := q8.low (hb.trans (b7.mono hb.size)) (by omega) (Nat.le_refl _)
            obtain ⟨g9, Hg9⟩ : ∃ g', Hid (takeG g (startL n.places o) = g') := ⟨_, rfl⟩
            rw [Hg9.out] at hG8 HV
            obtain ⟨d0, d1, d2, d3, d4, f0, f1, f2, f3⟩ := hG8.at
            have hltP := hPl.lt
            have hPl8 := hPl.below c8 hltP
            obtain ⟨W, HW, z1, bz⟩ := hPl8.put g9.pl
            obtain ⟨q1, q2, q3, q4, e1, e2, e3, e4⟩ := hPl8.cells
            have R : Below w.heap.size w W := (below_then c0 c8).trans (bz.mono (by omega))
            clear hPl hPl8 hv hbx hT hu bz c0 HN hG7 hG8 hO7 b7 c8 HGk HGt HB hG hvw hbw x0 x1 x2 ht q8
            go_wp2_with fail
            rw [HW.out]
            exact bodyPost_ret (v := .tuple #[playV g9.pl, .int .i64 0]) (results_play rfl rfl rfl z1) rfl ⟨_, _, rfl, HV.out, R⟩
  · have hdd : (d != 0) = true := by simpa using hd0
    have HV : Hid (Replayed n i o tr noPlay d) := Replayed.of_bad hd hd0
    obtain ⟨W, HW, z1, bz⟩ := hPl.put noPlay
    obtain ⟨q1, q2, q3, q4, f1, f2, f3, f4⟩ := hPl.cells
    have R : Below w.heap.size w W := c0.trans (bz.mono (by omega))
    simp only [noPlay] at HW q1 q2 q3 q4
    clear hPl hv hbx hT hu bz c0 hd hd0
    go_wp2_with fail
    rw [HW.out]
    exact bodyPost_ret (v := .tuple #[playV noPlay, .int .i64 d]) (results_play rfl rfl rfl z1) rfl ⟨_, _, rfl, HV.out, R⟩

end Go.Proofs.Ytfaehomopgichaa
