/- Package shape as it landed: what is wrong; closing a net. -/
import Derived.Test.YtkdbkoogcndlgaaGr14
import Derived.Test.YtkdbkoogcndlgaaGr13
namespace Go.Proofs.Ytkdbkoogcndlgaa
open Go.RowKit
set_option linter.unusedVariables false
set_option maxRecDepth 4000

theorem shape_start (v : Value) (n : NetL) (i : Int) (w : World) (hv : Net w v n) :
    Calls Try.prog 13 #[v, .int .i64 i] w fun e w' => ∃ r, e = .returned r ∧ Ints w' r (startL n.places i) ∧ Below w.heap.size w w' := by
  refine (shape_start_own v n i w hv).mono ?_
  rintro e w' ⟨r, rfl, hr, b⟩
  exact ⟨r, rfl, hr.now, b⟩

theorem endsBad_no {n : NetL} (hn : netOk n = true) {i o : Nat} : n.trans.any (endsBad i o) = false ↔ ∀ k, k < n.trans.length → nth (tranAt n.trans k).post i = 0 ∧ nth (tranAt n.trans k).pre o = 0 := by
  constructor
  · intro h k hk
    have h1 : endsBad i o (tranAt n.trans k) = false := by
      rw [List.any_eq_false] at h
      have := h (tranAt n.trans k) (by rw [tranAt_get hk]; exact List.getElem_mem _)
      simpa using this
    have r := tran_right (net_tran hn hk)
    have p1 := (okTok_nth r.1 o).1
    have p2 := (okTok_nth r.2 i).1
    simp only [endsBad, Bool.or_eq_false_iff, decide_eq_false_iff_not] at h1
    omega
  · intro h
    refine anyT_not fun j hj => ?_
    obtain ⟨h1, h2⟩ := h j hj
    simp [endsBad, h1, h2]

theorem shape_ends_iff {n : NetL} (hn : netOk n = true) (i o : Int) : ShapeOk n i o ↔ endsL n i o = true ∧ Between n i.toNat o.toNat := by
  have ht := turn_ok n hn
  unfold Between
  rw [onWay_all hn, onWay_all ht, turn_count]
  constructor
  · intro h
    refine ⟨?_, ⟨h.p1, h.t1⟩, h.p2, h.t2⟩
    have := (endsBad_no hn (i := i.toNat) (o := o.toNat)).2 fun k hk => ⟨h.put k hk, h.take k hk⟩
    simp [endsL, isPlace, this, h.i0, h.i1, h.o0, h.o1, h.ne]
  · rintro ⟨h1, ⟨h2, h3⟩, h4, h5⟩
    simp only [endsL, isPlace, Bool.and_eq_true, decide_eq_true_eq, Bool.not_eq_true', decide_eq_false_iff_not] at h1
    obtain ⟨⟨a1, a2⟩, ⟨a3, a4⟩, a5, a6⟩ := h1
    have := (endsBad_no hn).1 a6
    exact ⟨hn, a5, a1, a2, a3, a4, h2, h4, h3, h5, fun k hk => (this k hk).1, fun k hk => (this k hk).2⟩

set_option maxHeartbeats 1000000 in
theorem shape_wrong (v : Value) (n : NetL) (i o : Int) (w : World) (hv : Net w v n) :
    Calls Try.prog 21 #[v, .int .i64 i, .int .i64 o] w fun e w' => ∃ d, e = .returned (.int .i64 d) ∧ Judged n i o d ∧ Below w.heap.size w w' := by
  obtain ⟨tv, rfl, hT⟩ := id hv
  obtain ⟨a, len, cap, rfl, hlen, hmx, hsh, hr⟩ := id hT
  clear hr hT
  have b1 := below_new w (.cells #[.int .i64 n.places, .slice a len cap] 24)
  have hbx := box2_new w (.int .i64 n.places) (.slice a len cap) 24
  obtain ⟨w1, Hw1⟩ : ∃ w1, Hid (w.alloc (.cells #[.int .i64 n.places, .slice a len cap] 24) = w1) := ⟨_, rfl⟩
  rw [Hw1.out] at b1 hbx
  replace hv := hv.below b1
  obtain ⟨x0, x1, x2⟩ := id hbx
  go_enter Try.func21, Try.ntmps21
  go_upto_region 1 with fail
  rw [Hw1.out]
  clear Hw1
  go_wp2_with fail
  refine (net_wrong _ n _ (by exact hv)).mono ?_
  rintro e w2 ⟨rfl, b⟩
  have B := below_then b1 b
  replace hbx := hbx.below b
  replace hv := hv.below b
  clear b b1 x0 x1 x2
  cases hn : netOk n
  · rw [wrongL_not hn]
    have J : Hid _ := Judged.of_bad (i := i) (o := o) hn
    go_wp2
    go_ret
    exact ⟨2, rfl, J.out, B⟩
  · rw [wrongL_ok hn]
    obtain ⟨x0, x1, x2⟩ := id hbx
    have HI : Hid _ := shape_ends_iff hn i o
    go_wp2_with fail
    refine (ends_any _ n hn i o _ (by exact hv)).mono ?_
    rintro e w3 ⟨rfl, b⟩
    replace B := below_then B b
    replace hbx := hbx.below b
    replace hv := hv.below b
    clear b x0 x1 x2
    obtain ⟨x0, x1, x2⟩ := id hbx
    cases he : endsL n i o
    · have J : Hid (Judged n i o 1) := Judged.of_form hn fun h => by have := (HI.out.1 h).1; rw [he] at this; cases this
      clear HI
      go_wp2
      go_ret
      exact ⟨1, rfl, J.out, B⟩
    · have hp : 0 ≤ i ∧ i < n.places ∧ 0 ≤ o ∧ o < n.places := by
        simp only [endsL, isPlace, Bool.and_eq_true, decide_eq_true_eq] at he
        exact ⟨he.1.1, he.1.2, he.2.1.1, he.2.1.2⟩
      obtain ⟨ki, rfl⟩ : ∃ k : Nat, i = k := ⟨i.toNat, by omega⟩
      obtain ⟨ko, rfl⟩ : ∃ k : Nat, o = k := ⟨o.toNat, by omega⟩
      simp only [Int.toNat_natCast] at HI
      go_wp2_with fail
      refine (between_any _ n hn ki ko hp.2.1 hp.2.2.2 _ (by exact hv)).mono ?_
      rintro e w4 ⟨q, rfl, hq, b⟩
      replace B := below_then B b
      clear b x0 x1 x2 hbx hv hp
      cases q
      · have J : Hid (Judged n ki ko 1) := Judged.of_form hn fun h => by have := hq.2 (HI.out.1 h).2; cases this
        clear HI hq
        go_wp2
        go_ret
        exact ⟨1, rfl, J.out, B⟩
      · have J : Hid (Judged n ki ko 0) := Judged.of_right (HI.out.2 ⟨he, hq.1 rfl⟩)
        clear HI hq
        go_wp2
        go_ret
        exact ⟨0, rfl, J.out, B⟩

/-- The loads of the answer's transitions: they are not taken first, for the same statement stores there. -/
abbrev closeLoad : Op := Op.load 22 (Operand.tmp 35)
abbrev lastLoad : Op := Op.load 22 (Operand.tmp 50)

theorem close_turned (n : NetL) (i o : Int) {k : Nat} (hk : k < n.trans.length) : tranAt (turnL (closeL n i o)).trans k = turnT (tranAt n.trans k) := by
  rw [turn_tran _ (by rw [close_count]; omega), close_at n i o hk]
theorem close_turned_last (n : NetL) (i o : Int) : tranAt (turnL (closeL n i o)).trans n.trans.length = turnT ⟨0, startL n.places o, startL n.places i⟩ := by
  rw [turn_tran _ (by rw [close_count]; omega), close_last]

set_option maxRecDepth 8000 in
set_option maxHeartbeats 4000000 in
theorem shape_close (v : Value) (n : NetL) (i o : Int) (w : World) (hv : Net w v n) :
    Calls Try.prog 18 #[v, .int .i64 i, .int .i64 o] w fun e w' => ∃ r c d, e = .returned (.tuple #[r, .int .i64 d]) ∧ (Net w' r c ∧ Closed n i o c d) ∧ Below w.heap.size w w' := by
  obtain ⟨tv, rfl, hT⟩ := hv
  obtain ⟨a, len, cap, rfl, hlen, hmx, hsh, hr⟩ := id hT
  clear hr
  obtain ⟨W, HW⟩ : ∃ W, Hid (((w.alloc (.cells #[.int .i64 n.places, .slice a len cap] 24)).alloc (.cells #[.int .i64 0, .slice none 0 0] 24)) = W) := ⟨_, rfl⟩
  obtain ⟨c, hbx, hres, hfr, hsz⟩ := two_new _ _ _ _ _ _ _ _ HW.out
  have f0 := hfr 0
  have f1 := hfr 1
  clear hfr
  replace hT := hT.below c
  have hv : Net W (.agg #[.int .i64 n.places, .slice a len cap]) n := ⟨_, rfl, hT⟩
  obtain ⟨x0, x1, x2⟩ := id hbx
  go_enter Try.func18, Try.ntmps18
  go_upto_region 1 with fail
  rw [HW.out]
  clear HW
  go_wp2_with fail
  clear x0 x1 x2
  refine (shape_wrong _ n i o _ (by exact hv)).mono ?_
  rintro e W0 ⟨d, rfl, hd, b⟩
  rw [← b.frozen (p := ⟨w.heap.size + 1, 0, none⟩) (by simp [hsz])] at f0
  rw [← b.frozen (p := ⟨w.heap.size + 1, 1, none⟩) (by simp [hsz])] at f1
  replace hbx := hbx.below b
  replace hres := hres.below b
  replace hv := hv.below b
  replace hT := hT.below b
  replace c := below_then c b
  have hsz0 : w.heap.size + 1 + 1 ≤ W0.heap.size := by have := b.size; omega
  clear b hsz
  obtain ⟨q0, q1, q2⟩ := id hres
  obtain ⟨x0, x1, x2⟩ := id hbx
  obtain ⟨W2, HW2⟩ : ∃ W2, Hid ((W0.setCell ⟨w.heap.size + 1, 0, none⟩ (.int .i64 0)).setCell ⟨w.heap.size + 1, 1, none⟩ (.slice none 0 0) = W2) := ⟨_, rfl⟩
  have c2 : Below w.heap.size w W2 := by rw [← HW2.out]; exact (c.setCell (p := ⟨w.heap.size + 1, 0, none⟩) (by simp) _).setCell (p := ⟨w.heap.size + 1, 1, none⟩) (by simp) _
  have z1 : W2.cell? ⟨w.heap.size + 1, 0, none⟩ = some (.int .i64 0) := by
    rw [← HW2.out, World.cell?_setCell_other _ _ _ _ (by simp)]
    exact World.cell?_setCell_same _ _ _ q1
  have z2 : W2.cell? ⟨w.heap.size + 1, 1, none⟩ = some (.slice none 0 0) := by
    rw [← HW2.out]
    exact World.cell?_setCell_same' _ _ _ (by rw [World.cell?_setCell_other _ _ _ _ (by simp), q2]; rfl)
  by_cases hd0 : d = 0
  case neg =>
    have hne : (d != 0) = true := by simpa using hd0
    have hC : Hid (Closed n i o ⟨0, []⟩ d) := closed_bad hd hd0
    go_wp2
    rw [HW2.out]
    exact bodyPost_ret (v := .tuple #[.agg #[.int .i64 0, .slice none 0 0], .int .i64 d]) (results_net rfl rfl rfl z1 z2) rfl ⟨_, _, _, rfl, ⟨net_none _, hC.out⟩, c2⟩
  subst hd0
  have hS := hd.zero
  have h24a : len ≤ 24 := by have := (head_of hS.ok).2.2; omega
  by_cases h24 : len = 24
  case pos =>
    subst h24
    have hC : Hid (Closed n i o ⟨0, []⟩ 4) := closed_full hS (by omega)
    clear hS hd
    go_wp2
    rw [HW2.out]
    exact bodyPost_ret (v := .tuple #[.agg #[.int .i64 0, .slice none 0 0], .int .i64 4]) (results_net rfl rfl rfl z1 z2) rfl ⟨_, _, _, rfl, ⟨net_none _, hC.out⟩, c2⟩
  have h24b : ((len : Int) == 24) = false := by rw [beq_eq_false_iff_ne]; omega
  have HCl : Hid (Closed n i o (closeL n i o) 0) := closed_right hS (by omega)
  have Hts : Hid (∀ k, k < len → tranAt (turnL (closeL n i o)).trans k = turnT (tranAt n.trans k)) := fun k hk => close_turned n i o (by omega)
  have Htl : Hid (tranAt (turnL (closeL n i o)).trans len = turnT ⟨0, startL n.places o, startL n.places i⟩) := by rw [← hlen]; exact close_turned_last n i o
  have Hct : Hid (∀ k, k < len + 1 → tranAt (turnL (closeL n i o)).trans k = turnT (tranAt (closeL n i o).trans k)) := fun k hk => turn_tran _ (by rw [close_count]; omega)
  have Hcc : Hid ((closeL n i o).trans.length = len + 1) := by show _ = _; rw [close_count, hlen]
  have Hcv : Hid ((closeL n i o).places = n.places) := rfl
  clear HW2 c2 z1 z2 hS hd h24 W2
  generalize (turnL (closeL n i o)).trans = ts at *
  have hst := turn_start W0 n.places ts W0.heap.size rfl
  have bn := below_new W0 (.cells #[.int .i64 n.places, .slice none 0 0] 24)
  obtain ⟨W1, HW1⟩ : ∃ W1, Hid (W0.alloc (.cells #[.int .i64 n.places, .slice none 0 0] 24) = W1) := ⟨_, rfl⟩
  rw [HW1.out] at hst bn
  obtain ⟨y0, y1, y2⟩ := hbx.below bn
  go_upto_region 7 with fail
  rw [HW1.out]
  clear HW1 x0 x1 x2
  go_wp2_with fail
  clear y0 y1 y2
  go_loopg [31] len (fun g i wr => ∃ (k : Nat) (ov : Value) (tv : List (Int × Value × Value)), k + g = len ∧ i = .int .i64 k ∧ Hid (tv.length = k) ∧ TurnOut W0.heap.size n.places W0 wr ts ov tv)
  case atStart => exact ⟨0, _, [], by omega, rfl, rfl, hst⟩
  case round =>
    clear hst bn
    obtain ⟨k, ov, tv, hkg, rfl, Hk, hO⟩ := hrel
    have hbw : Below W0.heap.size W0 wr := hO.below
    by_cases hkn : k < len
    · obtain ⟨b, off, c1, c2, rfl, hblt, h0, h1, h2, i1, i2⟩ := (hT.below hbw).at hkn
      obtain ⟨a1, l1, p1, rfl, hl1, hm1, _, _⟩ := id i1
      obtain ⟨a2, l2, p2, rfl, hl2, hm2, _, _⟩ := id i2
      have hbn := below_new wr (.cells #[.int .i64 (tranAt n.trans k).label, .slice a1 l1 p1, .slice a2 l2 p2] 57)
      have hx3 := box3_new wr (.int .i64 (tranAt n.trans k).label) (.slice a1 l1 p1) (.slice a2 l2 p2) 57
      obtain ⟨wt, Hwt⟩ : ∃ wt, Hid (wr.alloc (.cells #[.int .i64 (tranAt n.trans k).label, .slice a1 l1 p1, .slice a2 l2 p2] 57) = wt) := ⟨_, rfl⟩
      rw [Hwt.out] at hbn hx3
      have Hst : Hid _ := fun wB wC W v' l c1 c2 => @TurnOut.step _ _ _ _ wB wC W _ _ v' _ l c1 c2 hO
      have hO1 := hO.to hbn
      rw [Hk.out, Hts.out k hkn] at Hst
      replace i1 := i1.below hbn
      replace i2 := i2.below hbn
      generalize tranAt n.trans k = t at *
      obtain ⟨d1, hd1⟩ : ∃ d1, Hid (Value.slice a1 l1 p1 = d1) := ⟨_, rfl⟩
      obtain ⟨d2, hd2⟩ : ∃ d2, Hid (Value.slice a2 l2 p2 = d2) := ⟨_, rfl⟩
      go_upto_region 10 with fail
      rw [Hwt.out]
      rw [hd1.out] at i1
      rw [hd2.out] at i2
      rw [hd1.out, hd2.out] at hx3
      have hlt1 : t.pre.length ≤ 17592186044416 := by omega
      have hlt2 : t.post.length ≤ 17592186044416 := by omega
      have Hl1 : Hid _ := hlt1
      have Hl2 : Hid _ := hlt2
      have Hlk : Hid (tv.length + 1 ≤ 2513169434916) := by show _ ≤ _; have := Hk.out; omega
      clear h0 h1 h2 Hwt hd1 hd2 hlt1 hlt2 hl1 hl2 hm1 hm2
      obtain ⟨x0, x1, x2, x3⟩ := id hx3
      have o1 := hO1.c1
      have o2 := hO1.f1
      have hsz1 : W0.heap.size + 1 ≤ wr.heap.size := hO.size
      have hne : ¬ W0.heap.size = wr.heap.size := by omega
      rw [show (Op.load 22 (Operand.tmp 35) : Op) = closeLoad from rfl]
      go_region_held3 (fun w' => w'.cell? ⟨wr.heap.size, 0, none⟩ = some (.int .i64 t.label) ∧ w'.cell? ⟨wr.heap.size, 1, none⟩ = some d1 ∧ w'.cell? ⟨wr.heap.size, 2, none⟩ = some d2)
        (go_keep)
        (first
          | (go_at_call_of 30 d1; refine (clone_any _ t.pre _ ?_).mono ?_; exact i1.drewN 1; rintro e wA ⟨rA, rfl, hA⟩; obtain ⟨ax, lx, cx, rfl⟩ := hA.slice; have bA := below_then (below_drewN (Below.refl wt.heap.size wt) 1) hA.2.1; obtain ⟨xA0, xA1, xA2, xA3⟩ := hx3.below bA; have hOA := hO1.to bA; have oA1 := hOA.c1; have oA2 := hOA.f1)
          | (go_at_call_of 30 d2; refine (clone_any _ t.post _ ?_).mono ?_; exact i2.below bA; rintro e wB ⟨rB, rfl, hB⟩; obtain ⟨ay, ly, cy, rfl⟩ := hB.slice; have bB := below_then bA hB.2.1; obtain ⟨xB0, xB1, xB2, xB3⟩ := hx3.below bB; have hOB := hO1.to bB; have oB1 := hOB.c1; have oB2 := hOB.f1; have oB3 := (hOB.to (below_new wB (.cells #[.int .i64 t.label, .slice ax lx cx, .slice ay ly cy] 57))).c1)
          | (refine wpr_append_tran rfl _ _ rfl (W0.heap.size + 1) wB ov tv t.label _ _ _ _ _ _ hOB.own rfl rfl Hlk.out hOB.size ?_; intro v' wC hC hgC hatC; obtain ⟨av, lv, cv, rfl⟩ := ownsRow_slice hC; obtain ⟨oC1, oC2, hcc⟩ := hO.after (below_then hbn (below_then bB (below_new _ _))) hgC; have hx4 := hx3.below (below_then bB (below_new wB (.cells #[.int .i64 t.label, .slice ax lx cx, .slice ay ly cy] 57))); have xC1 := (hcc ⟨wr.heap.size, 0, none⟩ (Nat.le_refl _) hx4.1).trans hx4.2.1; have xC2 := (hcc ⟨wr.heap.size, 1, none⟩ (Nat.le_refl _) hx4.1).trans hx4.2.2.1; have xC3 := (hcc ⟨wr.heap.size, 2, none⟩ (Nat.le_refl _) hx4.1).trans hx4.2.2.2))
      all_goals
        have q1 := ((hA.on Hl1.out).weaken (D' := fun k => wr.heap.size ≤ k) fun k _ hk => Nat.le_trans hbn.size hk).below hB.2.1
        have q2 := (hB.on Hl2.out).weaken (D' := fun k => wr.heap.size ≤ k) fun k _ hk => Nat.le_trans (Nat.le_trans hbn.size bA.size) hk
        rw [Hk.out] at hC
        have R := Hst.out wB wC _ _ t.label _ _ (below_then hbn bB) q1 q2 rfl (below_new _ _) hC hgC hatC
        have Hk2 : Hid ((tv ++ [(t.label, Value.slice ax lx cx, Value.slice ay ly cy)]).length = k + 1) := by show _ = _; have := Hk.out; simp [this]
        clear q1 q2 hC hgC hatC Hst hcc hx4 xC1 xC2 xC3 oC1 oC2 xB0 xB1 xB2 xB3 xA0 xA1 xA2 xA3 oA1 oA2 oB1 oB2 oB3 hA hB bA bB hOA hOB x0 x1 x2 x3 o1 o2 hO hO1 hbn hx3
        go_wp2
        go_roundg (gk - 1)
        case measure => omega
        case rel => exact ⟨k + 1, _, _, by omega, by go_num, Hk2, R⟩
    · obtain rfl : k = len := by omega
      have hbx1 := hbx.below hbw
      have hv1 := hv.below hbw
      obtain ⟨x0, x1, x2⟩ := id hbx1
      have o1 := hO.c1
      have o2 := hO.f1
      have Hst : Hid _ := fun wB wC W v' l c1 c2 => @TurnOut.step _ _ _ _ wB wC W _ _ v' _ l c1 c2 hO
      rw [Hk.out, Htl.out] at Hst
      have Hlk : Hid (tv.length + 1 ≤ 2513169434916) := by show _ ≤ _; have := Hk.out; omega
      go_upto_region 12 with fail
      rw [show (Op.load 22 (Operand.tmp 50) : Op) = lastLoad from rfl]
      have hne : ¬ W0.heap.size = w.heap.size := by omega
      go_region_held3 (fun w' => w'.cell? ⟨w.heap.size, 0, none⟩ = some (.int .i64 n.places) ∧ w'.cell? ⟨w.heap.size, 1, none⟩ = some (.slice a k cap))
        (go_keep)
        (first
          | (go_at_call_of 13 o; refine (shape_start_own _ n o _ ?_).mono ?_; exact hv1.below (below_drewN (Below.refl _ _) 1); rintro e wA ⟨rA, rfl, hA, bA0⟩; obtain ⟨ax, lx, cx, rfl, _⟩ := hA.now; have bA := below_then (below_drewN (Below.refl wr.heap.size wr) 1) bA0; obtain ⟨xA0, xA1, xA2⟩ := hbx1.below bA; have hOA := hO.to bA; have oA1 := hOA.c1; have oA2 := hOA.f1)
          | (go_at_call_of 13 i; refine (shape_start_own _ n i _ ?_).mono ?_; exact hv1.below bA; rintro e wB ⟨rB, rfl, hB, bB0⟩; obtain ⟨ay, ly, cy, rfl, _⟩ := hB.now; have bB := below_then bA bB0; obtain ⟨xB0, xB1, xB2⟩ := hbx1.below bB; have hOB := hO.to bB; have oB1 := hOB.c1; have oB2 := hOB.f1; have oB3 := (hOB.to (below_new wB (.cells #[.int .i64 0, .slice ax lx cx, .slice ay ly cy] 57))).c1)
          | (refine wpr_append_tran rfl _ _ rfl (W0.heap.size + 1) wB ov tv 0 _ _ _ _ _ _ hOB.own rfl rfl Hlk.out hOB.size ?_; intro v' wC hC hgC hatC; obtain ⟨av, lv, cv, rfl⟩ := ownsRow_slice hC; obtain ⟨oC1, oC2, hcc⟩ := hO.after (below_then bB (below_new _ _)) hgC; have bC : Below W0.heap.size W0 wC := (hOB.below.alloc (by have := hOB.size; omega) _).grown hgC (by have := hOB.size; simp; omega) (fun k hk => by have := (hOB.own.lt k hk).1; omega); obtain ⟨xC0, xC1, xC2⟩ := hbx.below bC))
      all_goals
        have q1 := (hA.weaken (D' := fun k => wr.heap.size ≤ k) fun k _ hk => hk).below bB0
        have q2 := hB.weaken (D' := fun k => wr.heap.size ≤ k) fun k _ hk => Nat.le_trans bA.size hk
        rw [Hk.out] at hC
        have R := Hst.out wB wC _ _ 0 _ _ bB q1 q2 rfl (below_new _ _) hC hgC hatC
        have Hk2 : Hid ((tv ++ [((0 : Int), Value.slice ax lx cx, Value.slice ay ly cy)]).length = k + 1) := by show _ = _; have := Hk.out; simp [this]
        obtain ⟨wD, HwD⟩ : ∃ wD, Hid (wC.setCell ⟨W0.heap.size, 1, none⟩ (.slice av lv cv) = wD) := ⟨_, rfl⟩
        rw [HwD.out] at R ⊢
        clear q1 q2 hC hgC hatC Hst hcc oC1 oC2 xB0 xB1 xB2 xA0 xA1 xA2 xC0 xC1 xC2 oA1 oA2 oB1 oB2 oB3 hA hB bA bB bA0 bB0 bC hOA hOB x0 x1 x2 o1 o2 hO HwD hbx1 hv1 hbw
        generalize tv ++ [((0 : Int), Value.slice ax lx cx, Value.slice ay ly cy)] = tvs at *
        obtain ⟨z0, z1⟩ := And.intro R.c0 R.c1
        have hbD : Below W0.heap.size W0 wD := R.below
        obtain ⟨r0, r1, r2⟩ := hres.below hbD
        have g0 : wD.frozen? ⟨w.heap.size + 1, 0, none⟩ = false := by rw [hbD.frozen (p := ⟨w.heap.size + 1, 0, none⟩) (by simp; omega)]; exact f0
        have g1 : wD.frozen? ⟨w.heap.size + 1, 1, none⟩ = false := by rw [hbD.frozen (p := ⟨w.heap.size + 1, 1, none⟩) (by simp; omega)]; exact f1
        obtain ⟨Wf, HWf⟩ : ∃ Wf, Hid ((wD.setCell ⟨w.heap.size + 1, 0, none⟩ (.int .i64 n.places)).setCell ⟨w.heap.size + 1, 1, none⟩ (.slice av lv cv) = Wf) := ⟨_, rfl⟩
        have hb5 : Below w.heap.size w Wf := by
          rw [← HWf.out]
          exact ((below_then c hbD).setCell (p := ⟨w.heap.size + 1, 0, none⟩) (by simp) _).setCell (p := ⟨w.heap.size + 1, 1, none⟩) (by simp) _
        have hTr : Trans Wf (.slice av lv cv) (closeL n i o).trans := by
          rw [← HWf.out]
          have hown2 := ownsRow_setCell_below (ownsRow_setCell_below R.own (a := ⟨w.heap.size + 1, 0, none⟩) (by show w.heap.size + 1 < _; omega) (.int .i64 n.places)) (a := ⟨w.heap.size + 1, 1, none⟩) (by show w.heap.size + 1 < _; omega) (.slice av lv cv)
          refine tran_read hown2 (by have := Hk2.out; omega) (by rw [Hcc.out, Hk2.out]) fun j hj => ?_
          obtain ⟨e1, e2, e3⟩ := R.row j hj
          rw [Hct.out j (by have := Hk2.out; omega)] at e1 e2 e3
          have hD : ¬ (fun k => W0.heap.size < k ∧ some k ≠ (Value.slice av lv cv).ownBlock) (w.heap.size + 1) := fun h => by have := h.1; omega
          exact ⟨e1, ((e2.set (a := ⟨w.heap.size + 1, 0, none⟩) hD _).set (a := ⟨w.heap.size + 1, 1, none⟩) hD _).now, ((e3.set (a := ⟨w.heap.size + 1, 0, none⟩) hD _).set (a := ⟨w.heap.size + 1, 1, none⟩) hD _).now⟩
        have y1 : Wf.cell? ⟨w.heap.size + 1, 0, none⟩ = some (.int .i64 n.places) := by
          rw [← HWf.out, World.cell?_setCell_other _ _ _ _ (by simp)]
          exact World.cell?_setCell_same _ _ _ r1
        have y2 : Wf.cell? ⟨w.heap.size + 1, 1, none⟩ = some (.slice av lv cv) := by
          rw [← HWf.out]
          exact World.cell?_setCell_same' _ _ _ (by rw [World.cell?_setCell_other _ _ _ _ (by simp), r2]; rfl)
        have HTr : Hid _ := hTr
        have Hb5 : Hid _ := hb5
        have Hy1 : Hid _ := y1
        have Hy2 : Hid _ := y2
        clear hTr hb5 y1 y2 R
        go_wp2
        rw [HWf.out]
        exact bodyPost_ret (v := .tuple #[.agg #[.int .i64 n.places, .slice av lv cv], .int .i64 0]) (results_net rfl rfl rfl Hy1.out Hy2.out) rfl ⟨_, closeL n i o, _, rfl, ⟨⟨_, rfl, HTr.out⟩, HCl.out⟩, Hb5.out⟩

end Go.Proofs.Ytkdbkoogcndlgaa
