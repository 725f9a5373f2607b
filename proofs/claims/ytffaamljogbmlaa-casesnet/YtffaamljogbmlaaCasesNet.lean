/- The law CasesNet, walked. -/
import Derived.Test.YtffaamljogbmlaaGr18
import Derived.Test.YtffaamljogbmlaaGr05
import Derived.Test.YtffaamljogbmlaaGr01
import Derived.Test.YtffaamljogbmlaaShapeDev
import Derived.Test.YtffaamljogbmlaaGr00
import Derived.BigQuiet
import Derived.Deep.RegionHeld3
namespace Go.Proofs.Ytffaamljogbmlaa
open Go.RowKit
set_option linter.unusedVariables false
set_option linter.unusedSimpArgs false
set_option maxRecDepth 4000

theorem box3_keep {w w' : World} {b : Nat} {x y z : Value} (h : Box3 w b x y z) (hk : w'.heap[b]? = w.heap[b]?) (hs : w.heap.size ≤ w'.heap.size) : Box3 w' b x y z := by
  obtain ⟨h0, h1, h2, h3⟩ := h
  exact ⟨Nat.lt_of_lt_of_le h0 hs, by rw [cell_kept (p := ⟨b, 0, none⟩) hk]; exact h1, by rw [cell_kept (p := ⟨b, 1, none⟩) hk]; exact h2, by rw [cell_kept (p := ⟨b, 2, none⟩) hk]; exact h3⟩

theorem isUndo : AsksO 25 fun o => o.1 == 4 := by
  intro x y w
  have b := below_new w (.cells #[.int .i64 x, .int .i64 y] 29)
  go_enter Try.func25, Try.ntmps25
  go_wp2
  go_ret
  exact ⟨rfl, b⟩

set_option maxHeartbeats 16000000 in
theorem casesNet_walk (v u : Value) (n : NetL) (i : Int) (os : List (Int × Int)) (w : World) (hv : Net w v n) (hu : OpsV w u os) :
    Calls Try.prog 7 #[v, .int .i64 i, u] w fun e w' => e = .returned (.bool true) ∧ Below w.heap.size w w' := by
  obtain ⟨tv, rfl, hT⟩ := hv
  have c := below_new w (.cells #[.int .i64 n.places, tv] 24)
  have hbx := box2_new w (.int .i64 n.places) tv 24
  have hv : Net _ (.agg #[.int .i64 n.places, tv]) n := ⟨_, rfl, hT.below c⟩
  replace hu := hu.below c
  replace hT := hT.below c
  obtain ⟨w0, Hw0⟩ : ∃ w0, Hid (w.alloc (.cells #[.int .i64 n.places, tv] 24) = w0) := ⟨_, rfl⟩
  rw [Hw0.out] at c hbx hv hu hT
  go_enter Try.func7, Try.ntmps7
  go_upto_region 1 with fail
  rw [Hw0.out]
  clear Hw0
  go_wp2_with fail
  refine (alive16_any w0).mono ?_
  rintro e w1 ⟨rfl, b⟩
  replace c := below_then c b
  replace hv := hv.below b
  replace hT := hT.below b
  replace hu := hu.below b
  replace hbx := hbx.below b
  clear b
  obtain ⟨x0, x1, x2⟩ := id hbx
  go_wp2_with fail
  refine (cases_busy _ n w1 (by exact hv)).mono ?_
  rintro e w2 ⟨r, rfl, hB, b⟩
  replace c := below_then c b
  replace hv := hv.below b
  replace hT := hT.below b
  replace hu := hu.below b
  replace hbx := hbx.below b
  clear b x0 x1 x2
  have HS0 : Hid _ := busy_some (n := n)
  obtain ⟨bn, Hbn⟩ : ∃ x, Hid ((busyN n).1 = x) := ⟨_, rfl⟩
  obtain ⟨E, HE⟩ : ∃ x, Hid ((busyN n).2 = x) := ⟨_, rfl⟩
  rw [Hbn.out] at hB HS0
  rw [HE.out] at HS0 ⊢
  obtain ⟨bv, rfl, hBT⟩ := hB
  obtain ⟨ba, bl, bc, rfl, _⟩ := id hBT
  have bn1 := below_new w2 (.cells #[.int .i64 bn.places, .slice ba bl bc] 24)
  have hby := box2_new w2 (.int .i64 bn.places) (.slice ba bl bc) 24
  obtain ⟨By, HBy⟩ : ∃ B, Hid (w2.heap.size = B) := ⟨_, rfl⟩
  rw [HBy.out] at hby
  obtain ⟨w3, Hw3⟩ : ∃ w3, Hid (w2.alloc (.cells #[.int .i64 bn.places, .slice ba bl bc] 24) = w3) := ⟨_, rfl⟩
  rw [Hw3.out] at bn1 hby
  replace c := below_then c bn1
  replace hv := hv.below bn1
  replace hT := hT.below bn1
  replace hu := hu.below bn1
  replace hbx := hbx.below bn1
  replace hBT := hBT.below bn1
  clear bn1
  go_upto_region 4 with fail
  rw [Hw3.out, HBy.out]
  clear Hw3
  obtain ⟨x0, x1, x2⟩ := id hbx
  go_wp2_with fail
  refine (cases_play _ _ n i os w3 (by exact hv) (by exact hu)).mono ?_
  rintro e w4 ⟨r, l, rfl, hr, hl, b⟩
  obtain ⟨ra, rl, rp, ra', rl', rp', rfl, k1, k2⟩ := hr
  obtain ⟨la, ll, lp, rfl, _⟩ := id hl
  replace c := below_then c b
  replace hT := hT.below b
  replace hu := hu.below b
  replace hbx := hbx.below b
  replace hby := hby.below b
  replace hBT := hBT.below b
  clear b x0 x1 x2 hv
  have bn1 := below_new w4 (.cells #[.slice ra rl rp, .slice ra' rl' rp'] 27)
  have hbz := box2_new w4 (.slice ra rl rp) (.slice ra' rl' rp') 27
  obtain ⟨Bz, HBz⟩ : ∃ B, Hid (w4.heap.size = B) := ⟨_, rfl⟩
  rw [HBz.out] at hbz
  obtain ⟨w5, Hw5⟩ : ∃ w5, Hid (w4.alloc (.cells #[.slice ra rl rp, .slice ra' rl' rp'] 27) = w5) := ⟨_, rfl⟩
  rw [Hw5.out] at bn1 hbz
  replace c := below_then c bn1
  replace hT := hT.below bn1
  replace hu := hu.below bn1
  replace hl := hl.below bn1
  replace k1 := k1.below bn1
  replace k2 := k2.below bn1
  replace hbx := hbx.below bn1
  replace hby := hby.below bn1
  replace hBT := hBT.below bn1
  clear bn1
  go_upto_region 5 with fail
  rw [Hw5.out, HBz.out]
  clear Hw5
  obtain ⟨ua, uc, rfl, hul, hush⟩ := hu.slice
  obtain ⟨D, HD⟩ : ∃ x, Hid ((playAll n i os).2.2 = x) := ⟨_, rfl⟩
  rw [HD.out]
  have HDE : Hid (D ≠ 0 ∨ (playAll n i os = ((playC n (beginC n i).1 os).1, (playC n (beginC n i).1 os).2, 0) ∧ (beginC n i).2 = 0)) := by
    by_cases h : (beginC n i).2 = 0
    · exact .inr ⟨by unfold playAll; rw [if_pos h], h⟩
    · refine .inl ?_
      rw [← HD.out]; unfold playAll; rw [if_neg h]; exact h
  by_cases hD : D = 0
  · obtain ⟨hpl, hbeg⟩ := HDE.out.resolve_left (fun q => q hD)
    subst hD
    rw [hpl] at hl k1 k2
    have HLl : Hid (os.length = ll) := by
      have := len_of_ints hl
      rw [show ((playC n (beginC n i).1 os).1, (playC n (beginC n i).1 os).2, (0 : Int)).2.1 = (playC n (beginC n i).1 os).2 from rfl, play_length] at this
      exact this
    rw [HLl.out]
    rw [HLl.out] at hu hul hush
    clear HDE hpl HD
    by_cases hE : E = 0
    · obtain ⟨P, S, hOk⟩ := HS0.out hE
      subst hE
      go_wp2_with fail
      refine (containsops_any _ _ isUndo Try.call25 _ os w5 (by exact hu)).mono ?_
      rintro e w6 ⟨q, rfl, hq, b⟩
      replace c := below_then c b
      replace hT := hT.below b
      replace hu := hu.below b
      replace hl := hl.below b
      replace k1 := k1.below b
      replace k2 := k2.below b
      replace hbx := hbx.below b
      replace hby := hby.below b
      replace hbz := hbz.below b
      replace hBT := hBT.below b
      clear b
      cases q
      · have Hno : Hid (∀ k, k < os.length → (opAt os k).1 ≠ 4) := fun k hk h => by
          have := hq.2 ⟨k, hk, by simp [h]⟩
          cases this
        have HI : Hid (0 ≤ i ∧ i < n.places) := (begin_right hbeg).2.2
        have HR : Hid (rightC n (playC n (beginC n i).1 os).1 = true) := play_right os (begin_right hbeg).1
        have hpl := hOk.places
        have hP16 : P ≤ 16 := by have := hOk.p16; omega
        have hLab : Hid (∀ k, k < n.trans.length → 0 ≤ (tranAt n.trans k).label) := fun k hk => by
          have h := net_tran hOk.ok hk
          simp only [tranOk, tranHead, Bool.and_eq_true, decide_eq_true_eq] at h
          exact h.1.1.1.1
        have h24 : n.trans.length ≤ 24 := by have := hOk.t24; omega
        have HOk : Hid _ := hOk
        rw [hpl] at hbx
        obtain ⟨es, Hes⟩ : ∃ es, Hid ((playC n (beginC n i).1 os).2 = es) := ⟨_, rfl⟩
        obtain ⟨cE, HcE⟩ : ∃ cE, Hid ((playC n (beginC n i).1 os).1 = cE) := ⟨_, rfl⟩
        replace hl : Ints w6 (.slice la ll lp) es := by rw [← Hes.out]; exact hl
        replace k1 : Ints w6 (.slice ra rl rp) cE.mark := by rw [← HcE.out]; exact k1
        replace k2 : Ints w6 (.slice ra' rl' rp') cE.busy := by rw [← HcE.out]; exact k2
        rw [HcE.out] at HR
        obtain ⟨ta, len, tc, rfl, hlen, hmx, hsh, _⟩ := id hT
        have Hlen : Hid (n.trans.length = len) := hlen
        have hcap : len ≤ tc := hsh.1
        have hcap2 : tc ≤ 9223372036854775807 := hsh.2.1
        rw [hlen] at h24
        clear hq hOk hlen hsh HS0 hbeg hpl
        rw [show n.places = (P : Int) from HOk.out.places]
        obtain ⟨x0, x1, x2⟩ := id hbx
        go_wp2_with fail
        go_quiet (fail)
        have b := below_drewN (Below.refl w6.heap.size w6) nq
        obtain ⟨w7, H7⟩ : ∃ w7, Hid (w6.drewN nq = w7) := ⟨_, rfl⟩
        rw [H7.out] at b ⊢
        replace c := below_then c b
        replace hT := hT.below b
        replace hu := hu.below b
        replace hl := hl.below b
        replace k1 := k1.below b
        replace k2 := k2.below b
        replace hbx := hbx.below b
        replace hby := hby.below b
        replace hbz := hbz.below b
        replace hBT := hBT.below b
        clear b x0 x1 x2 H7
        obtain ⟨x0, x1, x2⟩ := id hbx
        go_wp2_with fail
        clear x0 x1 x2
        go_loopg [12, 13, 14, 15, 71] len (fun gk av pv kv qv tv' wr => ∃ t : Nat, t + gk = len ∧ tv' = .int .i64 (t : Int) ∧ kv = .int .i64 ((t + seenTo n.trans t : Nat) : Int) ∧ qv = .int .i64 ((P + seenTo n.trans t : Nat) : Int) ∧ Two w7.heap.size w7 wr av pv (atL n.trans t) (placeL n.trans P t))
        case atStart => exact ⟨0, by omega, rfl, rfl, rfl, Two.start w7⟩
        case round =>
          obtain ⟨t, htg, rfl, rfl, rfl, hTw⟩ := hrel
          by_cases htn : t < len
          · have hst := seen_le n.trans t
            have htl : t < n.trans.length := by rw [Hlen.out]; exact htn
            have hlab := hLab.out t htl
            obtain ⟨bt, ot, p1, q1, rfl, hlt, h0, h1, h2, i1, j1⟩ := (hT.below hTw.below).at htn
            obtain ⟨a1, l1, cp1, rfl⟩ : ∃ a l c, p1 = .slice a l c := by obtain ⟨a, l, c, e, _⟩ := i1; exact ⟨a, l, c, e⟩
            obtain ⟨a2, l2, cp2, rfl⟩ : ∃ a l c, q1 = .slice a l c := by obtain ⟨a, l, c, e, _⟩ := j1; exact ⟨a, l, c, e⟩
            have bn1 := below_new wr (.cells #[.int .i64 (tranAt n.trans t).label, .slice a1 l1 cp1, .slice a2 l2 cp2] 54)
            have hb3 := box3_new wr (.int .i64 (tranAt n.trans t).label) (.slice a1 l1 cp1) (.slice a2 l2 cp2) 54
            obtain ⟨Bt, HBt⟩ : ∃ B, Hid (wr.heap.size = B) := ⟨_, rfl⟩
            rw [HBt.out] at hb3
            obtain ⟨w8, Hw8⟩ : ∃ w8, Hid (wr.alloc (.cells #[.int .i64 (tranAt n.trans t).label, .slice a1 l1 cp1, .slice a2 l2 cp2] 54) = w8) := ⟨_, rfl⟩
            rw [Hw8.out] at bn1 hb3
            have hTw2 := hTw.to bn1
            have Hl1 : Hid (∀ k, u12.ownBlock = some k → k < Bt) := fun k hk => by rw [← HBt.out]; exact (ownsRow_lt hTw.own1 hk).2
            have Hl2 : Hid (∀ k, u13.ownBlock = some k → k < Bt) := fun k hk => by rw [← HBt.out]; exact (ownsRow_lt hTw.own2 hk).2
            clear i1 j1 bn1
            go_upto_region 12 with fail
            rw [Hw8.out, HBt.out]
            clear Hw8 h0 h1 h2 hTw
            have HA : Hid _ := atL_succ n.trans t
            have HP2 : Hid _ := placeL_succ n.trans P t
            have HSe : Hid (seenTo n.trans (t + 1) = seenTo n.trans t + (if (tranAt n.trans t).label = 0 then 0 else 1)) := rfl
            have hl1 := atL_length n.trans t
            have hl2 := placeL_length n.trans P t
            obtain ⟨sk, Hsk⟩ : ∃ sk, Hid (seenTo n.trans t = sk) := ⟨_, rfl⟩
            rw [Hsk.out] at HA HP2 HSe hst
            rw [Hsk.out]
            obtain ⟨L, HL⟩ : ∃ L, Hid ((tranAt n.trans t).label = L) := ⟨_, rfl⟩
            rw [HL.out] at hb3 HSe hlab
            rw [HL.out]
            go_upto_region 13 with (at_builtin; first | (refine wp_append_two rfl _ _ rfl w7.heap.size w7 _ u12 u13 _ _ ((t + sk : Nat) : Int) hTw2 rfl rfl (by omega) ?_; intro v1 w9 hTw3 hkp1) | (refine wp_append_two rfl _ _ rfl w7.heap.size w7 _ u13 v1 _ _ ((P + sk : Nat) : Int) hTw3.swap rfl rfl (by omega) ?_; intro v2 w10 hTw4 hkp2))
            have hb4 : Box3 w10 Bt (.int .i64 L) (.slice a1 l1 cp1) (.slice a2 l2 cp2) := by
              have hlt8 := hb3.1
              have e1 := hkp1.2 Bt hlt8 (fun q => by have := Hl1.out Bt q; omega)
              have e2 := hkp2.2 Bt (Nat.lt_of_lt_of_le hlt8 hkp1.1) (fun q => by have := Hl2.out Bt q; omega)
              exact box3_keep hb3 (e2.trans e1) (Nat.le_trans hkp1.1 hkp2.1)
            obtain ⟨z0, z1, z2, z3⟩ := hb4
            rw [← HA.out, ← HP2.out] at hTw4
            clear HA HP2 hTw2 hTw3 hkp1 hkp2 hb3 hl1 hl2
            by_cases hL : 0 < L
            · have e3 : seenTo n.trans (t + 1) = sk + 1 := by rw [HSe.out, if_neg (by omega)]
              have E3 : Hid _ := e3
              clear HSe e3
              go_wp2
              go_roundg (gk - 1)
              case measure => omega
              case rel => exact ⟨t + 1, by omega, by go_num, by rw [E3.out]; congr 1; omega, by rw [E3.out]; congr 1, hTw4.swap⟩
            · have e3 : seenTo n.trans (t + 1) = sk := by rw [HSe.out, if_pos (by omega)]; rfl
              have E3 : Hid _ := e3
              have hL' : decide (0 < L) = false := decide_eq_false hL
              clear HSe e3 hL
              go_wp2
              go_roundg (gk - 1)
              case measure => omega
              case rel => exact ⟨t + 1, by omega, by go_num, by rw [E3.out]; congr 1; omega, by rw [E3.out]; congr 1, hTw4.swap⟩
          · obtain rfl : t = len := by omega
            have hAt := hTw.ints1 (by rw [atL_length]; omega)
            have hPl := hTw.ints2 (by rw [placeL_length]; omega)
            have b := hTw.below
            obtain ⟨aa, al, ac, rfl, hal, _⟩ := id hAt
            obtain ⟨pa, pl, pc, rfl, hpll, _⟩ := id hPl
            obtain rfl : al = t := by rw [← hal, atL_length]
            obtain rfl : pl = al := by rw [← hpll, placeL_length]
            clear hal hpll hTw
            replace c := below_then c b
            replace hT := hT.below b
            replace hl := hl.below b
            replace k1 := k1.below b
            replace k2 := k2.below b
            replace hbx := hbx.below b
            replace hby := hby.below b
            replace hbz := hbz.below b
            replace hBT := hBT.below b
            replace hu := hu.below b
            clear b
            obtain ⟨w8, H8⟩ : ∃ w8, Hid (wr = w8) := ⟨_, rfl⟩
            rw [H8.out] at c hT hu hl k1 k2 hbx hby hbz hBT hAt hPl ⊢
            clear H8
            have Hrun : Hid _ := case_run HOk.out HI.out Hno.out os.length (Nat.le_refl _)
            rw [caseAt_all n _ (Nat.le_refl _), Hes.out, HcE.out, HLl.out] at Hrun
            have Hin : Hid (∀ x, x < ll → nth es x = 0 → ∃ t : Nat, (opAt os x).2 = t ∧ t < pl ∧ 1 ≤ (opAt os x).1 ∧ (opAt os x).1 ≤ 3) := fun x hx h0 => by
              have hx' : x < os.length := by rw [HLl.out]; exact hx
              obtain ⟨t, h1, h2, h3, h4⟩ := done_in (n := n) (i := i) hx' (by rw [Hes.out]; exact h0)
              have := Hno.out x hx'
              exact ⟨t, h1, by rw [← Hlen.out]; exact h2, h3, by omega⟩
            go_wp2_with fail
            go_loopg [18, 95] ll (fun gk sv xv wr => ∃ x : Nat, x + gk = ll ∧ xv = .int .i64 (x : Int) ∧ Own w8.heap.size w8 wr sv (seqTo n os es x))
            case atStart => exact ⟨0, by omega, rfl, Own.nil w8⟩
            case round =>
              obtain ⟨x, hxg, rfl, hO⟩ := hrel
              by_cases hxn : x < ll
              · obtain ⟨bo, oo, rfl, hlto, o0, o1⟩ := (hu.below hO.2.1).at hxn
                obtain ⟨be, oe, rfl, hlte, oE⟩ := ints_atL (hl.below hO.2.1) hxn
                have HYs : Hid (nth es x = 0 → seqTo n os es (x + 1) = seqTo n os es x ++ [posOf n (opAt os x)]) := seqTo_yes
                have HNs : Hid (nth es x ≠ 0 → seqTo n os es (x + 1) = seqTo n os es x) := seqTo_no
                have Hix : Hid _ := Hin.out x hxn
                have hsl := seqTo_le n os es x
                obtain ⟨O, HO⟩ : ∃ O, Hid (opAt os x = O) := ⟨_, rfl⟩
                obtain ⟨kd, tr⟩ := O
                rw [HO.out] at o0 o1 HYs Hix
                simp only at o0 o1
                obtain ⟨ex, Hex⟩ : ∃ ex, Hid (nth es x = ex) := ⟨_, rfl⟩
                rw [Hex.out] at oE HYs HNs Hix
                clear HO Hex
                have bn1 := below_new wr (.cells #[.int .i64 kd, .int .i64 tr] 29)
                have hbo := box2_new wr (.int .i64 kd) (.int .i64 tr) 29
                obtain ⟨Bo, HBo⟩ : ∃ B, Hid (wr.heap.size = B) := ⟨_, rfl⟩
                rw [HBo.out] at hbo
                obtain ⟨w9, Hw9⟩ : ∃ w9, Hid (wr.alloc (.cells #[.int .i64 kd, .int .i64 tr] 29) = w9) := ⟨_, rfl⟩
                rw [Hw9.out] at bn1 hbo
                have hO9 := hO.trans bn1
                have oE9 := (bn1.cell (p := ⟨be, oe + x, none⟩) hlte).trans oE
                clear bn1
                go_upto_region 21 with fail
                rw [Hw9.out, HBo.out]
                clear Hw9 hO o0 o1 oE
                obtain ⟨y0, y1, y2⟩ := id hbo
                by_cases h0 : ex = 0
                · subst h0
                  obtain ⟨t', e1, e2, e3, e4⟩ := Hix.out rfl
                  simp only at e1 e3 e4
                  subst e1
                  have R : Hid _ := HYs.out rfl
                  have hAt9 := hAt.below hO9.2.1
                  obtain ⟨b1, o1', rfl, _, cA⟩ := ints_atL hAt9 e2
                  rw [atL_at n.trans e2] at cA
                  have hst := seen_le n.trans t'
                  obtain ⟨sk, Hsk⟩ : ∃ sk, Hid (seenTo n.trans t' = sk) := ⟨_, rfl⟩
                  have Hpos : Hid (posOf n (kd, (t' : Int)) = ((t' + sk + (if kd = 3 then 1 else 0) : Nat) : Int)) := by
                    show _ = _
                    unfold posOf
                    simp only
                    rw [Int.toNat_natCast, Hsk.out]
                  rw [Hsk.out] at cA hst
                  have hg0 : decide ((t' : Int) < 0) = false := decide_eq_false (by omega)
                  have hg1 : decide ((pl : Int) ≤ (t' : Int)) = false := decide_eq_false (by omega)
                  clear HYs HNs Hix hAt9
                  obtain rfl | rfl | rfl : kd = 1 ∨ kd = 2 ∨ kd = 3 := by omega
                  · have R2 : Hid (posOf n (1, (t' : Int)) = ((t' + sk : Nat) : Int)) := by show _ = _; rw [Hpos.out]; rfl
                    clear Hpos
                    go_wp2_with (at_builtin; refine wp_append_int rfl _ _ rfl w8.heap.size w8 _ _ _ ((t' + sk : Nat) : Int) hO9 rfl rfl (by omega) ?_; intro v' w10 hO10)
                    go_roundg (gk - 1)
                    case measure => omega
                    case rel => exact ⟨x + 1, by omega, by go_num, by rw [R.out, R2.out]; exact hO10⟩
                  · have R2 : Hid (posOf n (2, (t' : Int)) = ((t' + sk : Nat) : Int)) := by show _ = _; rw [Hpos.out]; rfl
                    clear Hpos
                    go_wp2_with (at_builtin; refine wp_append_int rfl _ _ rfl w8.heap.size w8 _ _ _ ((t' + sk : Nat) : Int) hO9 rfl rfl (by omega) ?_; intro v' w10 hO10)
                    go_roundg (gk - 1)
                    case measure => omega
                    case rel => exact ⟨x + 1, by omega, by go_num, by rw [R.out, R2.out]; exact hO10⟩
                  · have R2 : Hid (posOf n (3, (t' : Int)) = (t' : Int) + (sk : Int) + 1) := by show _ = _; rw [Hpos.out, if_pos rfl]; omega
                    clear Hpos
                    go_wp2_with (at_builtin; refine wp_append_int rfl _ _ rfl w8.heap.size w8 _ _ _ ((t' : Int) + (sk : Int) + 1) hO9 rfl rfl (by omega) ?_; intro v' w10 hO10)
                    go_roundg (gk - 1)
                    case measure => omega
                    case rel => exact ⟨x + 1, by omega, by go_num, by rw [R.out, R2.out]; exact hO10⟩
                · have h0' : (ex != 0) = true := by simpa using h0
                  have R : Hid _ := HNs.out h0
                  clear HYs HNs Hix h0
                  go_wp2
                  go_roundg (gk - 1)
                  case measure => omega
                  case rel => exact ⟨x + 1, by omega, by go_num, by rw [R.out]; exact hO9⟩
              · obtain rfl : x = ll := by omega
                have hsl := seqTo_le n os es x
                have hSq := hO.ints (by omega)
                have b := hO.2.1
                replace c := below_then c b
                replace hT := hT.below b
                replace hl := hl.below b
                replace k1 := k1.below b
                replace k2 := k2.below b
                replace hbx := hbx.below b
                replace hby := hby.below b
                replace hbz := hbz.below b
                replace hBT := hBT.below b
                replace hAt := hAt.below b
                replace hPl := hPl.below b
                clear b hO hu
                obtain ⟨M, hRun, hSim⟩ := Hrun.out
                have HRun : Hid _ := hRun
                have HSim : Hid _ := hSim
                have HS31 : Hid (∀ w', Below wr.heap.size wr w' → w'.cell? ⟨By, 0, none⟩ = some (.int .i64 bn.places) ∧ w'.cell? ⟨By, 1, none⟩ = some (.slice ba bl bc)) := fun w' h => (hby.below h).2
                have hd : Below wr.heap.size wr wr.drew := (Below.refl _ _).drew
                clear hRun hSim Hrun
                go_upto_region 31 with fail
                refine wp_region_held_drew (S := (fun w' => w'.cell? ⟨By, 0, none⟩ = some (.int .i64 bn.places) ∧ w'.cell? ⟨By, 1, none⟩ = some (.slice ba bl bc))) (by kernel_rfl) (HS31.out _ (Below.refl _ _).drew) (fun hH => ?_)
                refine wpAnyH_take (i := 0) (v := .agg #[.int .i64 bn.places, .slice ba bl bc]) rfl (by kernel_rfl) (by kernel_rfl) (by kernel_rfl) (fun _ _ _ h => h) (.inl ⟨by rfl, fun w' hS' => by obtain ⟨s1, s2⟩ := hS'; go_simp⟩) hH ?_
                simp only [List.getElem_toArray, List.getElem_cons_succ, List.getElem_cons_zero, Act.put, List.setIfInBounds_toArray, List.set_cons_zero, List.set_cons_succ]
                refine wpAnyH_take (i := 1) (v := .agg #[.int .i64 bn.places, .slice ba bl bc]) rfl (by kernel_rfl) (by kernel_rfl) (by kernel_rfl) (fun _ _ _ h => h) (.inl ⟨by rfl, fun w' hS' => by obtain ⟨s1, s2⟩ := hS'; go_simp⟩) hH ?_
                simp only [List.getElem_toArray, List.getElem_cons_succ, List.getElem_cons_zero, Act.put, List.setIfInBounds_toArray, List.set_cons_zero, List.set_cons_succ]
                refine wpAnyH_take (i := 2) (v := .int .i64 i) rfl (by kernel_rfl) (by kernel_rfl) (by kernel_rfl) (fun _ _ _ h => h) (.inl ⟨by rfl, fun _ _ => rfl⟩) hH ?_
                simp only [List.getElem_toArray, List.getElem_cons_succ, List.getElem_cons_zero, Act.put, List.setIfInBounds_toArray, List.set_cons_zero, List.set_cons_succ]
                refine wpAnyH_take (i := 4) (v := u18) rfl (by kernel_rfl) (by kernel_rfl) (by kernel_rfl) (fun _ _ _ h => h) (.inl ⟨by rfl, fun _ _ => rfl⟩) hH ?_
                simp only [List.getElem_toArray, List.getElem_cons_succ, List.getElem_cons_zero, Act.put, List.setIfInBounds_toArray, List.set_cons_zero, List.set_cons_succ]
                refine wpAnyH_ready (rs := [3]) (by kernel_rfl) (by simp) ?_
                refine AllReadyH.cons rfl (fun K hK => ?_) AllReadyH.nil
                simp only [List.getElem_toArray, List.getElem_cons_succ, List.getElem_cons_zero]
                rw [if_pos (by rfl)]
                go_wp2_with fail
                refine (shape_start _ bn i wr.drew (by exact ⟨_, rfl, hBT.below hd⟩)).mono ?_
                rintro e w11 ⟨r4, rfl, hr4, b4⟩
                replace b4 := below_then hd b4
                refine hK.out _ _ (HS31.out _ b4) (fun hH => ?_)
                refine wpAnyH_ready (rs := [5]) (by kernel_rfl) (by simp) ?_
                refine AllReadyH.cons rfl (fun K hK => ?_) AllReadyH.nil
                simp only [List.getElem_toArray, List.getElem_cons_succ, List.getElem_cons_zero]
                rw [if_pos (by rfl)]
                go_wp2_with fail
                refine (net_run bn _ _ _ _ _ w11 (by exact ⟨_, rfl, hBT.below b4⟩) (by exact hr4) (by exact hSq.below b4)).mono ?_
                rintro e w12 ⟨r5, rfl, hr5, b5⟩
                replace b5 := below_then b4 b5
                rw [HRun.out] at hr5 ⊢
                refine hK.out _ _ (HS31.out _ b5) (fun hH => ?_)
                obtain ⟨ma, ml, mc, rfl, hml, _, hmsh, _⟩ := id hr5
                refine wpAnyH_take (i := 6) (v := .tuple #[.slice ma ml mc, .int .i64 0]) rfl (by kernel_rfl) (by kernel_rfl) (by kernel_rfl) (fun _ _ _ h => h) (.inl ⟨by rfl, fun _ _ => rfl⟩) hH ?_
                simp only [List.getElem_toArray, List.getElem_cons_succ, List.getElem_cons_zero, Act.put, List.setIfInBounds_toArray, List.set_cons_zero, List.set_cons_succ]
                refine wpAnyH_take (i := 7) (v := .slice ma ml mc) rfl (by kernel_rfl) (by kernel_rfl) (by kernel_rfl) (fun _ _ _ h => h) (.inl ⟨by rfl, fun w' hS' => by first | (go_simp; done) | (go_simp; rfl) | (go_simp; intro h; omega) | (go_simp; omega)⟩) hH ?_
                simp only [List.getElem_toArray, List.getElem_cons_succ, List.getElem_cons_zero, Act.put, List.setIfInBounds_toArray, List.set_cons_zero, List.set_cons_succ]
                refine wpAnyH_take (i := 8) (v := .int .i64 0) rfl (by kernel_rfl) (by kernel_rfl) (by kernel_rfl) (fun _ _ _ h => h) (.inl ⟨by rfl, fun w' hS' => by first | (go_simp; done) | (go_simp; rfl) | (go_simp; intro h; omega) | (go_simp; omega)⟩) hH ?_
                simp only [List.getElem_toArray, List.getElem_cons_succ, List.getElem_cons_zero, Act.put, List.setIfInBounds_toArray, List.set_cons_zero, List.set_cons_succ]
                refine wpAnyH_take (i := 9) (v := .slice ma ml mc) rfl (by kernel_rfl) (by kernel_rfl) (by kernel_rfl) (fun _ _ _ h => h) (.inl ⟨by rfl, fun _ _ => rfl⟩) hH ?_
                simp only [List.getElem_toArray, List.getElem_cons_succ, List.getElem_cons_zero, Act.put, List.setIfInBounds_toArray, List.set_cons_zero, List.set_cons_succ]
                refine wpAnyH_take (i := 10) (v := .int .i64 0) rfl (by kernel_rfl) (by kernel_rfl) (by kernel_rfl) (fun _ _ _ h => h) (.inl ⟨by rfl, fun _ _ => rfl⟩) hH ?_
                simp only [List.getElem_toArray, List.getElem_cons_succ, List.getElem_cons_zero, Act.put, List.setIfInBounds_toArray, List.set_cons_zero, List.set_cons_succ]
                refine wpAnyH_done (by kernel_rfl) ?_ _
                replace c := below_then c b5
                replace hT := hT.below b5
                replace hl := hl.below b5
                replace k1 := k1.below b5
                replace k2 := k2.below b5
                replace hbx := hbx.below b5
                replace hby := hby.below b5
                replace hbz := hbz.below b5
                replace hBT := hBT.below b5
                replace hAt := hAt.below b5
                replace hPl := hPl.below b5
                clear hH hK hr4 hSq b4 hd HS31
                obtain ⟨hf1, hf2, hf3⟩ := rightC_iff.1 HR.out
                obtain ⟨_, hm2, _⟩ := fits_net hf1
                have e1 : rl = P := by have h1 := len_of_ints k1; have h2 := HOk.out.places; omega
                have e2 : rl' = pl := by have h1 := len_of_ints k2; have h2 := Hlen.out; omega
                subst e1 e2
                have hlM := HSim.out.len
                have hml2 : M.length = ml := hml
                have hMk : Ints w12 (.slice ma rl mc) cE.mark := by
                  obtain ⟨a9, l9, c9, e9, h91, h92, h93, h94⟩ := id hr5
                  injection e9 with e91 e92 e93
                  subst e91 e92 e93
                  refine ⟨_, _, _, rfl, len_of_ints k1, by omega, ⟨by have := h93.1; omega, h93.2.1, h93.2.2⟩, fun j hj => ?_⟩
                  have hj' : j < rl := by rw [← len_of_ints k1]; exact hj
                  obtain ⟨b9, o9, q1, q2, q3⟩ := h94 j (by omega)
                  rw [HSim.out.place j hj'] at q3
                  exact ⟨b9, o9, q1, q2, q3⟩
                have hle : rl ≤ ml := by omega
                have hle2 : ml ≤ mc := hmsh.1
                have hle3 : mc ≤ 9223372036854775807 := hmsh.2.1
                have HS32 : Hid (∀ w', Below w12.heap.size w12 w' → w'.cell? ⟨Bz, 0, none⟩ = some (.slice ra rl rp) ∧ w'.cell? ⟨Bz, 1, none⟩ = some (.slice ra' rl' rp') ∧ w'.cell? ⟨w.heap.size, 0, none⟩ = some (.int .i64 (rl : Int)) ∧ w'.cell? ⟨w.heap.size, 1, none⟩ = some (.slice ta rl' tc)) := fun w' h => ⟨(hbz.below h).2.1, (hbz.below h).2.2, (hbx.below h).2.1, (hbx.below h).2.2⟩
                have hd : Below w12.heap.size w12 w12.drew := (Below.refl _ _).drew
                clear hf1 hf2 hf3 hm2 hmsh
                go_upto_region 32 with fail
                refine wp_region_held_drew (S := (fun w' => w'.cell? ⟨Bz, 0, none⟩ = some (.slice ra rl rp) ∧ w'.cell? ⟨Bz, 1, none⟩ = some (.slice ra' rl' rp') ∧ w'.cell? ⟨w.heap.size, 0, none⟩ = some (.int .i64 (rl : Int)) ∧ w'.cell? ⟨w.heap.size, 1, none⟩ = some (.slice ta rl' tc))) (by kernel_rfl) (HS32.out _ (Below.refl _ _).drew) (fun hH => ?_)
                refine wpAnyH_take (i := 0) (v := .int .i64 0) rfl (by kernel_rfl) (by kernel_rfl) (by kernel_rfl) (fun _ _ _ h => h) (.inl ⟨by rfl, fun _ _ => rfl⟩) hH ?_
                simp only [List.getElem_toArray, List.getElem_cons_succ, List.getElem_cons_zero, Act.put, List.setIfInBounds_toArray, List.set_cons_zero, List.set_cons_succ]
                refine wpAnyH_take (i := 1) (v := .bool false) rfl (by kernel_rfl) (by kernel_rfl) (by kernel_rfl) (fun _ _ _ h => h) (.inl ⟨by rfl, fun w' hS' => by first | (go_simp; done) | (go_simp; rfl) | (go_simp; intro h; omega) | (go_simp; omega)⟩) hH ?_
                simp only [List.getElem_toArray, List.getElem_cons_succ, List.getElem_cons_zero, Act.put, List.setIfInBounds_toArray, List.set_cons_zero, List.set_cons_succ]
                refine wpAnyH_take (i := 2) (v := .bool false) rfl (by kernel_rfl) (by kernel_rfl) (by kernel_rfl) (fun _ _ _ h => h) (.inl ⟨by rfl, fun _ _ => rfl⟩) hH ?_
                simp only [List.getElem_toArray, List.getElem_cons_succ, List.getElem_cons_zero, Act.put, List.setIfInBounds_toArray, List.set_cons_zero, List.set_cons_succ]
                refine wpAnyH_take (i := 3) (v := .pointer (some ⟨Bz, 0, none⟩)) rfl (by kernel_rfl) (by kernel_rfl) (by kernel_rfl) (fun _ _ _ h => h) (.inl ⟨by rfl, fun w' hS' => by first | (go_simp; done) | (go_simp; rfl) | (go_simp; intro h; omega) | (go_simp; omega)⟩) hH ?_
                simp only [List.getElem_toArray, List.getElem_cons_succ, List.getElem_cons_zero, Act.put, List.setIfInBounds_toArray, List.set_cons_zero, List.set_cons_succ]
                refine wpAnyH_take (i := 4) (v := .slice ra rl rp) rfl (by kernel_rfl) (by kernel_rfl) (by kernel_rfl) (fun _ _ _ h => h) (.inl ⟨by rfl, fun w' hS' => by obtain ⟨s1, s2, s3, s4⟩ := hS'; go_simp⟩) hH ?_
                simp only [List.getElem_toArray, List.getElem_cons_succ, List.getElem_cons_zero, Act.put, List.setIfInBounds_toArray, List.set_cons_zero, List.set_cons_succ]
                refine wpAnyH_take (i := 5) (v := .int .i64 (rl : Int)) rfl (by kernel_rfl) (by kernel_rfl) (by kernel_rfl) (fun _ _ _ h => h) (.inl ⟨by rfl, fun w' hS' => by first | (go_simp; done) | (go_simp; rfl) | (go_simp; intro h; omega) | (go_simp; omega)⟩) hH ?_
                simp only [List.getElem_toArray, List.getElem_cons_succ, List.getElem_cons_zero, Act.put, List.setIfInBounds_toArray, List.set_cons_zero, List.set_cons_succ]
                refine wpAnyH_take (i := 6) (v := .pointer (some ⟨w.heap.size, 0, none⟩)) rfl (by kernel_rfl) (by kernel_rfl) (by kernel_rfl) (fun _ _ _ h => h) (.inl ⟨by rfl, fun w' hS' => by first | (go_simp; done) | (go_simp; rfl) | (go_simp; intro h; omega) | (go_simp; omega)⟩) hH ?_
                simp only [List.getElem_toArray, List.getElem_cons_succ, List.getElem_cons_zero, Act.put, List.setIfInBounds_toArray, List.set_cons_zero, List.set_cons_succ]
                refine wpAnyH_take (i := 7) (v := .int .i64 (rl : Int)) rfl (by kernel_rfl) (by kernel_rfl) (by kernel_rfl) (fun _ _ _ h => h) (.inl ⟨by rfl, fun w' hS' => by obtain ⟨s1, s2, s3, s4⟩ := hS'; go_simp⟩) hH ?_
                simp only [List.getElem_toArray, List.getElem_cons_succ, List.getElem_cons_zero, Act.put, List.setIfInBounds_toArray, List.set_cons_zero, List.set_cons_succ]
                refine wpAnyH_take (i := 8) (v := .bool false) rfl (by kernel_rfl) (by kernel_rfl) (by kernel_rfl) (fun _ _ _ h => h) (.inl ⟨by rfl, fun w' hS' => by first | (go_simp; done) | (go_simp; rfl) | (go_simp; intro h; omega) | (go_simp; omega)⟩) hH ?_
                simp only [List.getElem_toArray, List.getElem_cons_succ, List.getElem_cons_zero, Act.put, List.setIfInBounds_toArray, List.set_cons_zero, List.set_cons_succ]
                refine wpAnyH_take (i := 9) (v := .bool false) rfl (by kernel_rfl) (by kernel_rfl) (by kernel_rfl) (fun _ _ _ h => h) (.inl ⟨by rfl, fun _ _ => rfl⟩) hH ?_
                simp only [List.getElem_toArray, List.getElem_cons_succ, List.getElem_cons_zero, Act.put, List.setIfInBounds_toArray, List.set_cons_zero, List.set_cons_succ]
                refine wpAnyH_take (i := 10) (v := .bool false) rfl (by kernel_rfl) (by kernel_rfl) (by kernel_rfl) (fun _ _ _ h => h) (.inl ⟨by rfl, fun _ _ => rfl⟩) hH ?_
                simp only [List.getElem_toArray, List.getElem_cons_succ, List.getElem_cons_zero, Act.put, List.setIfInBounds_toArray, List.set_cons_zero, List.set_cons_succ]
                refine wpAnyH_take (i := 11) (v := .pointer (some ⟨Bz, 1, none⟩)) rfl (by kernel_rfl) (by kernel_rfl) (by kernel_rfl) (fun _ _ _ h => h) (.inl ⟨by rfl, fun w' hS' => by first | (go_simp; done) | (go_simp; rfl) | (go_simp; intro h; omega) | (go_simp; omega)⟩) hH ?_
                simp only [List.getElem_toArray, List.getElem_cons_succ, List.getElem_cons_zero, Act.put, List.setIfInBounds_toArray, List.set_cons_zero, List.set_cons_succ]
                refine wpAnyH_take (i := 12) (v := .slice ra' rl' rp') rfl (by kernel_rfl) (by kernel_rfl) (by kernel_rfl) (fun _ _ _ h => h) (.inl ⟨by rfl, fun w' hS' => by obtain ⟨s1, s2, s3, s4⟩ := hS'; go_simp⟩) hH ?_
                simp only [List.getElem_toArray, List.getElem_cons_succ, List.getElem_cons_zero, Act.put, List.setIfInBounds_toArray, List.set_cons_zero, List.set_cons_succ]
                refine wpAnyH_take (i := 13) (v := .int .i64 (rl' : Int)) rfl (by kernel_rfl) (by kernel_rfl) (by kernel_rfl) (fun _ _ _ h => h) (.inl ⟨by rfl, fun w' hS' => by first | (go_simp; done) | (go_simp; rfl) | (go_simp; intro h; omega) | (go_simp; omega)⟩) hH ?_
                simp only [List.getElem_toArray, List.getElem_cons_succ, List.getElem_cons_zero, Act.put, List.setIfInBounds_toArray, List.set_cons_zero, List.set_cons_succ]
                refine wpAnyH_take (i := 14) (v := .pointer (some ⟨w.heap.size, 1, none⟩)) rfl (by kernel_rfl) (by kernel_rfl) (by kernel_rfl) (fun _ _ _ h => h) (.inl ⟨by rfl, fun w' hS' => by first | (go_simp; done) | (go_simp; rfl) | (go_simp; intro h; omega) | (go_simp; omega)⟩) hH ?_
                simp only [List.getElem_toArray, List.getElem_cons_succ, List.getElem_cons_zero, Act.put, List.setIfInBounds_toArray, List.set_cons_zero, List.set_cons_succ]
                refine wpAnyH_take (i := 15) (v := .slice ta rl' tc) rfl (by kernel_rfl) (by kernel_rfl) (by kernel_rfl) (fun _ _ _ h => h) (.inl ⟨by rfl, fun w' hS' => by obtain ⟨s1, s2, s3, s4⟩ := hS'; go_simp⟩) hH ?_
                simp only [List.getElem_toArray, List.getElem_cons_succ, List.getElem_cons_zero, Act.put, List.setIfInBounds_toArray, List.set_cons_zero, List.set_cons_succ]
                refine wpAnyH_take (i := 16) (v := .int .i64 (rl' : Int)) rfl (by kernel_rfl) (by kernel_rfl) (by kernel_rfl) (fun _ _ _ h => h) (.inl ⟨by rfl, fun w' hS' => by first | (go_simp; done) | (go_simp; rfl) | (go_simp; intro h; omega) | (go_simp; omega)⟩) hH ?_
                simp only [List.getElem_toArray, List.getElem_cons_succ, List.getElem_cons_zero, Act.put, List.setIfInBounds_toArray, List.set_cons_zero, List.set_cons_succ]
                refine wpAnyH_take (i := 17) (v := .bool false) rfl (by kernel_rfl) (by kernel_rfl) (by kernel_rfl) (fun _ _ _ h => h) (.inl ⟨by rfl, fun w' hS' => by first | (go_simp; done) | (go_simp; rfl) | (go_simp; intro h; omega) | (go_simp; omega)⟩) hH ?_
                simp only [List.getElem_toArray, List.getElem_cons_succ, List.getElem_cons_zero, Act.put, List.setIfInBounds_toArray, List.set_cons_zero, List.set_cons_succ]
                refine wpAnyH_take (i := 18) (v := .bool false) rfl (by kernel_rfl) (by kernel_rfl) (by kernel_rfl) (fun _ _ _ h => h) (.inl ⟨by rfl, fun _ _ => rfl⟩) hH ?_
                simp only [List.getElem_toArray, List.getElem_cons_succ, List.getElem_cons_zero, Act.put, List.setIfInBounds_toArray, List.set_cons_zero, List.set_cons_succ]
                refine wpAnyH_take (i := 19) (v := .bool false) rfl (by kernel_rfl) (by kernel_rfl) (by kernel_rfl) (fun _ _ _ h => h) (.inl ⟨by rfl, fun _ _ => rfl⟩) hH ?_
                simp only [List.getElem_toArray, List.getElem_cons_succ, List.getElem_cons_zero, Act.put, List.setIfInBounds_toArray, List.set_cons_zero, List.set_cons_succ]
                refine wpAnyH_take (i := 20) (v := .slice ma ml mc) rfl (by kernel_rfl) (by kernel_rfl) (by kernel_rfl) (fun _ _ _ h => h) (.inl ⟨by rfl, fun _ _ => rfl⟩) hH ?_
                simp only [List.getElem_toArray, List.getElem_cons_succ, List.getElem_cons_zero, Act.put, List.setIfInBounds_toArray, List.set_cons_zero, List.set_cons_succ]
                refine wpAnyH_take (i := 21) (v := .pointer (some ⟨w.heap.size, 0, none⟩)) rfl (by kernel_rfl) (by kernel_rfl) (by kernel_rfl) (fun _ _ _ h => h) (.inl ⟨by rfl, fun w' hS' => by first | (go_simp; done) | (go_simp; rfl) | (go_simp; intro h; omega) | (go_simp; omega)⟩) hH ?_
                simp only [List.getElem_toArray, List.getElem_cons_succ, List.getElem_cons_zero, Act.put, List.setIfInBounds_toArray, List.set_cons_zero, List.set_cons_succ]
                refine wpAnyH_take (i := 22) (v := .int .i64 (rl : Int)) rfl (by kernel_rfl) (by kernel_rfl) (by kernel_rfl) (fun _ _ _ h => h) (.inl ⟨by rfl, fun w' hS' => by obtain ⟨s1, s2, s3, s4⟩ := hS'; go_simp⟩) hH ?_
                simp only [List.getElem_toArray, List.getElem_cons_succ, List.getElem_cons_zero, Act.put, List.setIfInBounds_toArray, List.set_cons_zero, List.set_cons_succ]
                refine wpAnyH_take (i := 23) (v := .slice ma rl mc) rfl (by kernel_rfl) (by kernel_rfl) (by kernel_rfl) (fun _ _ _ h => h) (.inl ⟨by rfl, fun w' hS' => by go_simp; first | done | rfl | omega | (simp; omega)⟩) hH ?_
                simp only [List.getElem_toArray, List.getElem_cons_succ, List.getElem_cons_zero, Act.put, List.setIfInBounds_toArray, List.set_cons_zero, List.set_cons_succ]
                refine wpAnyH_take (i := 24) (v := .pointer (some ⟨Bz, 0, none⟩)) rfl (by kernel_rfl) (by kernel_rfl) (by kernel_rfl) (fun _ _ _ h => h) (.inl ⟨by rfl, fun w' hS' => by first | (go_simp; done) | (go_simp; rfl) | (go_simp; intro h; omega) | (go_simp; omega)⟩) hH ?_
                simp only [List.getElem_toArray, List.getElem_cons_succ, List.getElem_cons_zero, Act.put, List.setIfInBounds_toArray, List.set_cons_zero, List.set_cons_succ]
                refine wpAnyH_take (i := 25) (v := .slice ra rl rp) rfl (by kernel_rfl) (by kernel_rfl) (by kernel_rfl) (fun _ _ _ h => h) (.inl ⟨by rfl, fun w' hS' => by obtain ⟨s1, s2, s3, s4⟩ := hS'; go_simp⟩) hH ?_
                simp only [List.getElem_toArray, List.getElem_cons_succ, List.getElem_cons_zero, Act.put, List.setIfInBounds_toArray, List.set_cons_zero, List.set_cons_succ]
                refine wpAnyH_ready (rs := [26]) (by kernel_rfl) (by simp) ?_
                refine AllReadyH.cons rfl (fun K hK => ?_) AllReadyH.nil
                simp only [List.getElem_toArray, List.getElem_cons_succ, List.getElem_cons_zero]
                rw [if_pos (by rfl)]
                go_wp2_with fail
                refine (equal_b _ _ cE.mark cE.mark w12.drew (by exact hMk.below hd) (by exact k1.below hd)).mono ?_
                rintro e w13 ⟨rfl, b6⟩
                rw [beq_self_eq_true]
                replace b6 := below_then hd b6
                refine hK.out _ _ (HS32.out _ b6) (fun hH => ?_)
                refine wpAnyH_take (i := 27) (v := .bool false) rfl (by kernel_rfl) (by kernel_rfl) (by kernel_rfl) (fun _ _ _ h => h) (.inl ⟨by rfl, fun _ _ => rfl⟩) hH ?_
                simp only [List.getElem_toArray, List.getElem_cons_succ, List.getElem_cons_zero, Act.put, List.setIfInBounds_toArray, List.set_cons_zero, List.set_cons_succ]
                refine wpAnyH_take (i := 28) (v := .bool false) rfl (by kernel_rfl) (by kernel_rfl) (by kernel_rfl) (fun _ _ _ h => h) (.inl ⟨by rfl, fun _ _ => rfl⟩) hH ?_
                simp only [List.getElem_toArray, List.getElem_cons_succ, List.getElem_cons_zero, Act.put, List.setIfInBounds_toArray, List.set_cons_zero, List.set_cons_succ]
                refine wpAnyH_done (by kernel_rfl) ?_ _
                replace c := below_then c b6
                replace hT := hT.below b6
                replace k2 := k2.below b6
                replace hbx := hbx.below b6
                replace hbz := hbz.below b6
                replace hr5 := hr5.below b6
                replace hPl := hPl.below b6
                clear hH hK k1 hMk b6 hd HS32 hby hBT hl hAt
                have HW : Hid (∀ t, t < rl' → (tranAt n.trans t).label ≠ 0 → nth M (rl + seenTo n.trans t) = nth cE.busy t) := fun t ht hl => HSim.out.work t (by rw [Hlen.out]; exact ht) hl
                have HZ : Hid (∀ t, t < rl' → (tranAt n.trans t).label = 0 → nth cE.busy t = 0) := fun t ht hl => HSim.out.none t (by rw [Hlen.out]; exact ht) hl
                have Hlt : Hid (∀ t, t < rl' → (tranAt n.trans t).label ≠ 0 → rl + seenTo n.trans t < ml) := fun t ht hl => by
                  have h1 := HOk.out.seen_lt (t := t) (by rw [Hlen.out]; exact ht) hl
                  have h2 := HSim.out.len
                  have h3 : M.length = ml := hml
                  omega
                have hLab2 : Hid (∀ k, k < rl' → 0 ≤ (tranAt n.trans k).label) := fun k hk => hLab.out k (by rw [Hlen.out]; exact hk)
                clear hLab HSim hml2 hlM hml hle hle2 hle3
                obtain ⟨x0, x1, x2⟩ := id hbx
                go_wp2_with fail
                clear x0 x1 x2
                go_loopg [181] rl' (fun gk tv' wr => ∃ t : Nat, t + gk = rl' ∧ tv' = .int .i64 (t : Int) ∧ Below w13.heap.size w13 wr)
                case atStart => exact ⟨0, by omega, rfl, Below.refl _ _⟩
                case round =>
                  obtain ⟨t, htg, rfl, hb⟩ := hrel
                  by_cases htn : t < rl'
                  · have hlab := hLab2.out t htn
                    obtain ⟨bt, ot, p1, q1, rfl, hlt, h0, h1, h2, i1, j1⟩ := (hT.below hb).at htn
                    obtain ⟨a1, l1, cp1, rfl⟩ : ∃ a l c, p1 = .slice a l c := by obtain ⟨a, l, c, e, _⟩ := i1; exact ⟨a, l, c, e⟩
                    obtain ⟨a2, l2, cp2, rfl⟩ : ∃ a l c, q1 = .slice a l c := by obtain ⟨a, l, c, e, _⟩ := j1; exact ⟨a, l, c, e⟩
                    have bn1 := below_new wr (.cells #[.int .i64 (tranAt n.trans t).label, .slice a1 l1 cp1, .slice a2 l2 cp2] 54)
                    have hb3 := box3_new wr (.int .i64 (tranAt n.trans t).label) (.slice a1 l1 cp1) (.slice a2 l2 cp2) 54
                    obtain ⟨Bt, HBt⟩ : ∃ B, Hid (wr.heap.size = B) := ⟨_, rfl⟩
                    rw [HBt.out] at hb3
                    obtain ⟨w14, Hw14⟩ : ∃ w14, Hid (wr.alloc (.cells #[.int .i64 (tranAt n.trans t).label, .slice a1 l1 cp1, .slice a2 l2 cp2] 54) = w14) := ⟨_, rfl⟩
                    rw [Hw14.out] at bn1 hb3
                    have hb14 := below_then hb bn1
                    obtain ⟨bb, ob, rfl, _, cB⟩ := ints_atL (k2.below hb14) htn
                    obtain ⟨bp, op, rfl, _, cP⟩ := ints_atL (hPl.below hb14) htn
                    rw [placeL_at n.trans rl htn] at cP
                    obtain ⟨z0, z1, z2⟩ := hbz.below hb14
                    have HWt : Hid _ := HW.out t htn
                    have HZt : Hid _ := HZ.out t htn
                    have Hltt : Hid _ := Hlt.out t htn
                    have hM14 := hr5.below hb14
                    clear i1 j1 bn1 hb
                    obtain ⟨L, HL⟩ : ∃ L, Hid ((tranAt n.trans t).label = L) := ⟨_, rfl⟩
                    rw [HL.out] at hb3 HWt HZt Hltt hlab h0
                    rw [HL.out] at Hw14
                    go_upto_region 37 with fail
                    rw [Hw14.out, HBt.out]
                    clear Hw14 h0 h1 h2
                    obtain ⟨y0, y1, y2, y3⟩ := id hb3
                    by_cases hL : L = 0
                    · subst hL
                      have e := HZt.out rfl
                      rw [e] at cB
                      clear HZt HWt Hltt hM14
                      go_wp2_with fail
                      go_quiet (fail)
                      have R := below_drewN hb14 nq
                      clear y0 y1 y2 y3 z0 z1 z2 cB cP hb14
                      go_wp2
                      go_roundg (gk - 1)
                      case measure => omega
                      case rel => exact ⟨t + 1, by omega, by go_num, R⟩
                    · have hL0 : 0 < L := by omega
                      have hL1 : (L == 0) = false := by simpa using hL
                      have e := HWt.out hL
                      have e2 := Hltt.out hL
                      obtain ⟨bm, om, rfl, _, cM⟩ := ints_atL hM14 e2
                      have cM : w14.cell? ⟨bm, om + (rl + seenTo n.trans t), none⟩ = some (.int .i64 (nth M (rl + seenTo n.trans t))) := cM
                      rw [e] at cM
                      obtain ⟨sk, Hsk⟩ : ∃ sk, Hid (rl + seenTo n.trans t = sk) := ⟨_, rfl⟩
                      rw [Hsk.out] at cM cP e2
                      generalize nth cE.busy t = B at cB cM
                      have hBB : (B != B) = false := by simp
                      clear HZt HWt Hltt hM14 hL e
                      go_wp2_with fail
                      go_quiet (fail)
                      have R := below_drewN hb14 nq
                      clear y0 y1 y2 y3 z0 z1 z2 cB cP cM hb14
                      go_wp2
                      go_roundg (gk - 1)
                      case measure => omega
                      case rel => exact ⟨t + 1, by omega, by go_num, R⟩
                  · have R := below_then c hb
                    clear hb
                    go_wp2
                    go_ret
                    exact ⟨rfl, R⟩
      · clear hq HS0 hBT hT hu hl k1 k2 hOk
        go_wp2
        go_ret
        exact ⟨rfl, c⟩
    · have hE' : (E != 0) = true := by simpa using hE
      clear hE HS0 hBT hT hu hl k1 k2
      go_wp2
      go_ret
      exact ⟨rfl, c⟩
  · have hD' : (D != 0) = true := by simpa using hD
    clear hD HDE HS0 hBT hT hu hl k1 k2
    by_cases hE : E = 0
    · subst hE
      go_wp2
      go_ret
      exact ⟨rfl, c⟩
    · have hE' : (E != 0) = true := by simpa using hE
      go_wp2
      go_ret
      exact ⟨rfl, c⟩

end Go.Proofs.Ytffaamljogbmlaa
