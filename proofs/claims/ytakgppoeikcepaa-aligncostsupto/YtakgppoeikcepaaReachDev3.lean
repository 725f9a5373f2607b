/- Package reach as it landed: all that is enabled at a mark fires. -/
import Derived.Test.YtakgppoeikcepaaGr23
import Derived.Test.YtakgppoeikcepaaGr07
import Derived.Test.YtakgppoeikcepaaGr12
namespace Go.Proofs.Ytakgppoeikcepaa
open Go.RowKit Go.Maps
set_option linter.unusedVariables false
set_option maxRecDepth 4000

theorem arrive_try {n : NetL} {M k t : Nat} {s : SpaceL} {bys : List ArcL} {z : List Int} (hT : Tied s bys) (hf : fireL n (markAt s.marks k) t = (z, 0)) :
    ((arriveL M s bys k t z).2.2 = 0 ∧ tryT n M k s t = some (arriveL M s bys k t z).1 ∧ Tied (arriveL M s bys k t z).1 (arriveL M s bys k t z).2.1 ∧ (arriveL M s bys k t z).1.arcs.length = s.arcs.length + 1) ∨
      ((arriveL M s bys k t z).2.2 = 4 ∧ tryT n M k s t = none) := by
  unfold arriveL
  cases hg : findM s.marks z with
  | some g => exact .inl ⟨rfl, tryT_old hf hg, hT.old (findM_some hg).1, by simp⟩
  | none =>
    by_cases hl : s.marks.length = M
    · simp only [if_pos hl]; exact .inr ⟨trivial, tryT_most hf hg hl⟩
    · simp only [if_neg hl]; exact .inl ⟨trivial, tryT_new hf hg hl, hT.new z rfl, by simp⟩

theorem fire_codes {n : NetL} {m : List Int} {t : Int} (hf : fitsL n m = true) : (fireL n m t).2 = 0 ∨ (fireL n m t).2 = 3 ∨ (fireL n m t).2 = 4 := by
  rw [fireL, hf]
  simp only [if_true]
  split
  · split
    · exact .inl rfl
    · exact .inr (.inr rfl)
  · exact .inr (.inl rfl)

theorem tryT_most_le {n : NetL} {M k t : Nat} {s s' : SpaceL} (e : tryT n M k s t = some s') (h : s.marks.length ≤ M) : s'.marks.length ≤ M := by
  unfold tryT at e
  split at e
  · injection e with e; subst e; exact h
  · split at e
    · split at e
      · injection e with e; subst e; exact h
      · split at e
        · cases e
        · injection e with e; subst e; simp only [List.length_append, List.length_singleton]; omega
    · cases e

theorem On.and {D : Nat → Prop} {w : World} {R R' : World → Prop} (h : On D w R) (h' : On D w R') : On D w (fun w' => R w' ∧ R' w') := fun w2 h2 hk => ⟨h w2 h2 hk, h' w2 h2 hk⟩

theorem box2_on {w : World} {b : Nat} {u0 u1 : Value} {S : Nat → Prop} (h : Box2 w b u0 u1) (hb : ¬ S b) : On (fun k => ¬ S k) w (fun w' => Box2 w' b u0 u1) := by
  obtain ⟨y0, y1, y2⟩ := h
  intro w' hs hk
  have hq := hk b y0 hb
  exact ⟨Nat.lt_of_lt_of_le y0 hs, (World.cell?_of_block (a := ⟨b, 0, none⟩) hq).trans y1, (World.cell?_of_block (a := ⟨b, 1, none⟩) hq).trans y2⟩

/-- Where the marks lie. -/
theorem SearchAt.elem {A x mb B : Nat} {M : Int} {W wr : World} {ms : List (List Int)} {ar bys : List ArcL} {c : Nat} {D : DataW Unit} {mv av bv : Value} {us : List Value} (h : SearchAt A x mb B M W wr ms ar bys c D mv av bv us) {j : Nat} (hj : j < ms.length) :
    ∃ b cap u, mv = .slice (some ⟨b, 0, none⟩) ms.length cap ∧ wr.cell? ⟨b, j, none⟩ = some u ∧ u.oneCell' = true ∧ On (fun k => A ≤ k ∧ ¬ mineS x mb mv av bv k) wr (fun w' => Ints w' u (markAt ms j)) := by
  have hj' : j < us.length := by have := h.len; omega
  have hown := h.rowM
  obtain ⟨_, hcase⟩ := hown
  rcases hcase with ⟨e, h0⟩ | ⟨g, cap', cur, e, hg, hh, hn, hcap, hsz, htake⟩
  · omega
  · refine ⟨g, cap', us[j], by rw [e, h.len], ?_, (h.els j hj').1, (h.els j hj').2⟩
    have hown2 := h.rowM
    rw [e] at hown2
    rw [hown2.cellAt j (by omega), List.getElem?_eq_getElem hj']

set_option maxHeartbeats 4000000 in
theorem search_leave {A x mb B P M : Nat} {W w0 : World} {s : SpaceL} {bys : List ArcL} {mv av0 bv0 : Value} (hQ : Srch A x mb B P M W w0 s bys mv av0 bv0) (hT : Tied s bys)
    (v : Value) (n : NetL) (k : Nat) (hv : On (fun k => ¬ mineS x mb mv av0 bv0 k) w0 (fun w' => Net w' v n)) (hk : k < s.marks.length) (hf : fitsL n (markAt s.marks k) = true) (hP : n.places = P) (hP16 : P ≤ 16) (hM : M ≤ 300) (hl : s.marks.length ≤ M) (hla : s.arcs.length ≤ 1000000) :
    Calls Try.prog 50 #[.pointer (some ⟨x, 0, none⟩), v, .int .i64 k] w0 fun e w' =>
      ∃ cd s' bys' mv' av' bv', e = .returned (.int .i64 cd) ∧ Srch A x mb B P M W w' s' bys' mv' av' bv' ∧ Keeps w0 (mineS x mb mv av0 bv0) w' (mineS x mb mv' av' bv') ∧
        ((cd = 0 ∧ rowTo n M k s n.trans.length = some s' ∧ Tied s' bys') ∨ (cd = 4 ∧ rowTo n M k s n.trans.length = none)) := by
  obtain ⟨ts, Hts⟩ : ∃ ts, Hid (canN n (markAt s.marks k) n.trans.length = ts) := ⟨_, rfl⟩
  rw [rowTo_on hk hf n.trans.length (Nat.le_refl _), Hts.out]
  obtain ⟨tv, hve⟩ : ∃ tv, v = .agg #[.int .i64 n.places, tv] := by obtain ⟨tv, e, _⟩ := hv.now; exact ⟨tv, e⟩
  subst hve
  obtain ⟨D, us, hS, hD, hlb⟩ := id hQ
  obtain ⟨bm, cm, u, hmv, hcu, h1u, hu⟩ := hS.elem hk
  replace hu := hu.weaken (D' := fun k => ¬ mineS x mb mv av0 bv0 k) fun k _ hk => hk.2
  have Hnm : Hid _ := hS.notMine (Nat.le_refl _)
  have b1 := below_new w0 (.cells #[.int .i64 n.places, tv] 24)
  have hbx := box2_new w0 (.int .i64 n.places) tv 24
  obtain ⟨w1, Hw1⟩ : ∃ w1, Hid (w0.alloc (.cells #[.int .i64 n.places, tv] 24) = w1) := ⟨_, rfl⟩
  rw [Hw1.out] at b1 hbx
  have hbm : bm < w0.heap.size := by
    subst hmv
    exact (ownsRow_lt hS.rowM rfl).2
  have hcu1 := (b1.cell (p := ⟨bm, k, none⟩) hbm).trans hcu
  obtain ⟨d0, d1, d2, d3, d4, df⟩ := (hS.to b1).at
  have hR := ((hv.below b1).and ((hu.below b1).and (box2_on hbx Hnm.out)))
  have hQ1 := hQ.to b1
  subst hmv
  obtain ⟨lm, Hlm⟩ : ∃ lm, Hid (s.marks.length = lm) := ⟨_, rfl⟩
  have hl' := hl
  have hk' := hk
  rw [Hlm.out] at d1 hl' hk'
  obtain ⟨x0, x1, x2⟩ := id hbx
  obtain ⟨au, lu, cu, rfl⟩ : ∃ au lu cu, u = .slice au lu cu := by obtain ⟨a, l, c, e, _⟩ := hu.now; exact ⟨a, l, c, e⟩
  have HP : Hid _ := hP
  have HF : Hid _ := hf
  have Hlk : Hid (k < s.marks.length) := hk
  have Hla : Hid _ := hla
  have HTd : Hid _ := hT
  have HlM : Hid _ := hl
  clear hv hu hcu df hP hf hk hla hT hl hS hD hlb
  go_enter Try.func50, Try.ntmps50
  go_upto_region 1 with fail
  rw [Hw1.out]
  clear Hw1
  go_wp2_with fail
  refine (net_enabled_own _ _ n (markAt s.marks k) _ (by exact hR.now.1) (by exact hR.now.2.1)).mono ?_
  rintro e w2 ⟨r2, rfl, hr2, b2⟩
  rw [canL_yes HF.out] at hr2 ⊢
  simp only at hr2 ⊢
  have hQ2 := hQ1.to b2
  have hr2' : On (fun k => ¬ mineS x mb (.slice (some ⟨bm, 0, none⟩) s.marks.length cm) av0 bv0 k) w2 (fun w'' => Ints w'' r2 (canTo n (markAt s.marks k) n.trans.length)) := by obtain ⟨D, us, hS1, _⟩ := hQ1; exact (hS1.fresh hr2).weaken fun k _ hk => hk.2
  have hR2 := (hR.below b2).and hr2'
  have hK2 := Keeps.below (below_then b1 b2) (mineS x mb (.slice (some ⟨bm, 0, none⟩) s.marks.length cm) av0 bv0)
  rw [canTo_canN, Hts.out] at hR2
  have Hc : Hid (∀ t ∈ ts, (fireL n (markAt s.marks k) (t : Int)).2 ≠ 3) := by
    intro t ht
    rw [← Hts.out] at ht
    simp only [canN, List.mem_filter, List.mem_range] at ht
    rw [fireL, HF.out, decide_eq_true (show (0 : Int) ≤ t by omega), decide_eq_true (show (t : Int) < n.trans.length by omega), Int.toNat_natCast, ht.2]
    simp only [Bool.and_self, if_true]
    split <;> simp
  have Htl : Hid (ts.length ≤ 24) := by
    show _ ≤ _
    rw [← Hts.out]
    have h1 : (canN n (markAt s.marks k) n.trans.length).length ≤ n.trans.length := Nat.le_trans (List.length_filter_le _ _) (by simp)
    have h2 := fits_trans HF.out
    omega
  obtain ⟨ar, lr, cr, rfl, hlr, _, _, _⟩ := hR2.now.2
  simp only [List.length_map] at hlr
  clear hr2 hr2' hQ1 hR b1 b2 hbx x0 x1 x2 d0 d1 d2 d3 d4 hcu1 hQ
  go_wp2_with fail
  go_loopg [34] lr (fun g i wq => ∃ (j : Nat) (s' : SpaceL) (bys' : List ArcL) (mv av bv : Value), j + g = lr ∧ i = .int .i64 j ∧ Srch A x mb B P M W wq s' bys' mv av bv ∧ Hid (rowOn n M k s (ts.take j) = some s' ∧ Tied s' bys' ∧ s'.arcs.length ≤ s.arcs.length + j ∧ s'.marks.length ≤ M ∧ k < s'.marks.length ∧ markAt s'.marks k = markAt s.marks k) ∧
      On (fun k => ¬ mineS x mb mv av bv k) wq (fun w' => (Net w' (Value.agg #[Value.int IntKind.i64 n.places, tv]) n ∧ Ints w' (Value.slice au lu cu) (markAt s.marks k) ∧ Box2 w' w0.heap.size (Value.int IntKind.i64 n.places) tv) ∧ Ints w' (.slice ar lr cr) (List.map (fun t : Nat => (t : Int)) ts)) ∧
      Keeps w0 (mineS x mb (.slice (some ⟨bm, 0, none⟩) s.marks.length cm) av0 bv0) wq (mineS x mb mv av bv))
  case atStart => exact ⟨0, s, bys, _, _, _, by omega, rfl, hQ2, ⟨rfl, HTd.out, by omega, HlM.out, Hlk.out, rfl⟩, hR2, hK2⟩
  case round =>
    clear hQ2 hR2 hK2
    obtain ⟨j, s', bys', mv, av, bv, hjg, rfl, hQ, Hst, hR, hK⟩ := hrel
    obtain ⟨G, hGk⟩ : ∃ G, G = gk := ⟨_, rfl⟩
    obtain ⟨WR, hWRk⟩ : ∃ WR, WR = wr := ⟨_, rfl⟩
    subst hGk hWRk
    by_cases hjl : j < lr
    · obtain ⟨t, Ht⟩ : ∃ t, Hid (ts[j]? = some t) := ⟨ts[j]'(by omega), List.getElem?_eq_getElem (by omega)⟩
      obtain ⟨⟨hv, hu, hbx⟩, hts⟩ := hR.now
      obtain ⟨x0, x1, x2⟩ := id hbx
      obtain ⟨_, _, _, e, _, _, _, hrow⟩ := hts
      injection e with e1 e2 e3
      subst e1 e2 e3
      obtain ⟨br, off, rfl, hbr, hcr⟩ := hrow j (by simp; omega)
      have hnt : nth (List.map (fun t : Nat => (t : Int)) ts) j = t := by
        have := Ht.out
        simp [nth, List.getD, this]
      rw [hnt] at hcr
      clear hrow hnt
      have Hsucc : Hid (ts.take (j + 1) = ts.take j ++ [t]) := by
        show _ = _
        have := Ht.out
        rw [List.take_add_one, this]; rfl
      have Hmem : Hid (t ∈ ts) := List.mem_of_getElem? Ht.out
      go_wp2_with fail
      refine (net_fire_own _ _ n (markAt s.marks k) t _ (by exact hv) (by exact hu)).mono ?_
      rintro e w5 ⟨r5, rfl, hr5, q5⟩
      replace hR := hR.below q5
      replace hK := hK.trans (Keeps.below q5 _)
      have hr5' : On (fun k => A ≤ k ∧ ¬ mineS x mb mv av bv k) w5 (fun w'' => Ints w'' r5 (fireL n (markAt s.marks k) t).1) := by obtain ⟨D, us, hS, _⟩ := hQ; exact hS.fresh hr5
      replace hQ := hQ.to q5
      clear hr5 q5 hv hu hbx x0 x1 x2 hcr hbr
      have Hq3 : Hid ((fireL n (markAt s.marks k) t).2 ≠ 3) := Hc.out t Hmem.out
      have Hq4 : Hid _ := fire_codes (t := (t : Int)) HF.out
      have Hno : Hid (tryT n M k s' t = none → rowOn n M k s ts = none) := by
        intro h
        have h1 : rowOn n M k s (ts.take (j + 1)) = none := by rw [Hsucc.out, rowOn_snoc, Hst.out.1]; exact h
        have h2 := rowOn_none (us := ts.drop (j + 1)) h1
        rwa [List.take_append_drop] at h2
      have Hyes : Hid (∀ s2, tryT n M k s' t = some s2 → rowOn n M k s (ts.take (j + 1)) = some s2) := by
        intro s2 h
        rw [Hsucc.out, rowOn_snoc, Hst.out.1]; exact h
      obtain ⟨q, hq⟩ : ∃ q, fireL n (markAt s.marks k) t = q := ⟨_, rfl⟩
      have Hq : Hid _ := hq
      rw [hq] at hr5' Hq3 Hq4 ⊢
      clear hq
      obtain ⟨z, cd⟩ := q
      simp only at hr5' ⊢
      have Hq' : Hid (fireL n (markAt s'.marks k) t = (z, cd)) := by show _ = _; rw [Hst.out.2.2.2.2.2]; exact Hq.out
      by_cases h0 : cd = 0
      · subst h0
        have hfz := fire_fits Hq.out
        have Hzw : Hid _ := right_word (fits_net hfz).2.2
        have Hzl : Hid (z.length = P) := by show _ = _; have h1 := (fits_net hfz).2.1; have h2 := HP.out; omega
        clear hfz
        go_wp2_with fail
        refine (search_arrive hQ _ z k t hr5' Hzw.out Hzl.out hP16 (by have := Hst.out.2.2.2.1; omega) (by have h1 := Hst.out.2.2.1; have h2 := Hla.out; have h3 := Htl.out; omega)).mono ?_
        rintro e w6 ⟨mv', av', bv', rfl, hQ6, hK6⟩
        have Hat : Hid _ := arrive_try (M := M) Hst.out.2.1 Hq'.out
        replace hR := hK6.on hR
        replace hK := hK.trans hK6
        obtain ⟨Q, hQA⟩ : ∃ Q, arriveL M s' bys' k t z = Q := ⟨_, rfl⟩
        rw [hQA] at Hat hQ6 ⊢
        clear hQA hQ hr5' hK6 Hzw Hzl Hq Hq3 Hq4
        obtain ⟨s2, bys2, cd⟩ := Q
        simp only at hQ6 ⊢
        have Hat2 : Hid (cd = 0 ∧ tryT n M k s' t = some s2 ∧ Tied s2 bys2 ∧ s2.arcs.length = s'.arcs.length + 1 ∨ cd = 4 ∧ tryT n M k s' t = none) := Hat.out
        clear Hat
        by_cases hc0 : cd = 0
        · subst hc0
          have hok : tryT n M k s' t = some s2 ∧ Tied s2 bys2 ∧ s2.arcs.length = s'.arcs.length + 1 := by
            rcases Hat2.out with h | h
            · exact h.2
            · exact absurd h.1 (by omega)
          have HR : Hid (rowOn n M k s (ts.take (j + 1)) = some s2 ∧ Tied s2 bys2 ∧ s2.arcs.length ≤ s.arcs.length + (j + 1) ∧ s2.marks.length ≤ M ∧ k < s2.marks.length ∧ markAt s2.marks k = markAt s.marks k) := by
            obtain ⟨h1, h2, h3⟩ := hok
            obtain ⟨p1, p2, p3, p4, p5, p6⟩ := Hst.out
            obtain ⟨r, hr⟩ := tryT_pre h1
            refine ⟨Hyes.out _ h1, h2, by omega, tryT_most_le h1 p4, by rw [hr, List.length_append]; omega, ?_⟩
            rw [hr, markAt_append p5, p6]
          clear hok Hat2 Hst Hno Hyes Hq'
          go_wp2
          go_roundg (G - 1)
          case measure => omega
          case rel => exact ⟨j + 1, s2, bys2, mv', av', bv', by omega, by go_num, hQ6, HR, hR, hK⟩
        · have hno : cd = 4 ∧ tryT n M k s' t = none := by
            rcases Hat2.out with h | h
            · exact absurd h.1 hc0
            · exact h
          have HN : Hid (rowOn n M k s ts = none) := Hno.out hno.2
          obtain ⟨rfl, _⟩ := hno
          clear Hat2 Hst Hno Hyes Hq' hR
          go_wp2
          go_ret
          exact ⟨4, s2, bys2, mv', av', bv', rfl, hQ6, hK, .inr ⟨rfl, HN.out⟩⟩
      · have e4 : cd = 4 := by
          have h1 := Hq3.out
          have h2 := Hq4.out
          simp only at h1 h2
          omega
        have HN : Hid (rowOn n M k s ts = none) := Hno.out (tryT_full Hq'.out (by omega) (by omega))
        subst e4
        clear Hq Hq' Hq3 Hq4 Hno Hyes
        go_wp2
        go_ret
        exact ⟨4, s', bys', mv, av, bv, rfl, hQ, hK, .inr ⟨rfl, HN.out⟩⟩
    · have e : j = lr := by omega
      have HY : Hid (rowOn n M k s ts = some s') := by
        show _ = _
        have := Hst.out.1
        rwa [List.take_of_length_le (by omega)] at this
      clear hR
      go_wp2
      go_ret
      exact ⟨0, s', bys', mv, av, bv, rfl, hQ, hK, .inl ⟨rfl, HY.out, Hst.out.2.1⟩⟩

end Go.Proofs.Ytakgppoeikcepaa
