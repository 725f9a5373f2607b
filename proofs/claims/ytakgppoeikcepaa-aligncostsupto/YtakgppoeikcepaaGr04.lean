import Derived.Test.YtakgppoeikcepaaGr00
import Derived.Test.YtakgppoeikcepaaGr02
import Derived.Deep.DeepCutAuto
import Derived.Test.YtakgppoeikcepaaGr03
import Derived.Deep.RegionHeld3
/- The answers of the document itself for nets. -/
namespace Go.Proofs.Ytakgppoeikcepaa
open Go.RowKit
set_option linter.unusedVariables false
set_option maxRecDepth 4000

def weightOk (x : Int) : Bool := decide (0 ≤ x) && decide (x ≤ 9)
def tranHead (p : Int) (t : TranL) : Bool := decide (0 ≤ t.label) && decide (t.label ≤ 26) && ((t.pre.length : Int) == p) && ((t.post.length : Int) == p)
def tranOk (p : Int) (t : TranL) : Bool := tranHead p t && (t.pre ++ t.post).all weightOk
def headOk (n : NetL) : Bool := decide (0 ≤ n.places) && decide (n.places ≤ 16) && decide (n.trans.length ≤ 24)
def okTo (n : NetL) (k : Nat) : Bool := headOk n && (n.trans.take k).all (tranOk n.places)
def netOk (n : NetL) : Bool := headOk n && n.trans.all (tranOk n.places)
def wrongL (n : NetL) : Int := if netOk n then 0 else 2

theorem okTo_succ (n : NetL) (k : Nat) (h : k < n.trans.length) : okTo n (k + 1) = (okTo n k && tranOk n.places (tranAt n.trans k)) := by
  unfold okTo
  rw [List.take_succ_eq_append_getElem h, List.all_append]
  simp [tranAt, List.getD, List.getElem?_eq_getElem h, Bool.and_assoc]
theorem okTo_all (n : NetL) (k : Nat) (h : n.trans.length ≤ k) : okTo n k = netOk n := by
  unfold okTo netOk; rw [List.take_of_length_le h]


/-- All of the first j are weights. -/
def weighTo (zs : List Int) (j : Nat) : Bool := (zs.take j).all weightOk
theorem weighTo_succ (zs : List Int) (j : Nat) (h : j < zs.length) : weighTo zs (j + 1) = (weighTo zs j && weightOk (nth zs j)) := by
  unfold weighTo
  rw [List.take_succ_eq_append_getElem h, List.all_append]
  simp [nth, List.getD, List.getElem?_eq_getElem h]
theorem weighTo_all (zs : List Int) (j : Nat) (h : zs.length ≤ j) : weighTo zs j = zs.all weightOk := by
  unfold weighTo; rw [List.take_of_length_le h]

set_option maxHeartbeats 1000000 in
theorem bwrong_any (v : Value) (n : NetL) (w : World) (hv : Net w v n) (hsm : SmallNet n) :
    Calls Try.prog 54 #[v] w fun e w' => e = .returned (.int .i64 (wrongL n)) ∧ Below w.heap.size w w' := by
  obtain ⟨tv, rfl, hT⟩ := hv
  have b1 := below_new w (.cells #[.int .i64 n.places, tv] 24)
  have hT1 := hT.below b1
  have hbx := box2_new w (.int .i64 n.places) tv 24
  obtain ⟨a, len, cap, rfl, hlen, hmx, hsh, hr⟩ := hT
  have Hsm : Hid (SmallNet n) := hsm
  clear hsm hr
  go_enter Try.func54, Try.ntmps54
  go_upto_region 1 with fail
  go_cut [3] (fun o wc => o = .bool (headOk n) ∧ Below w.heap.size w wc ∧ Trans wc (.slice a len cap) n.trans ∧ Box2 wc w.heap.size (.int .i64 n.places) (.slice a len cap))
  case first =>
    go_wp2_with fail
    all_goals go_meet
    all_goals refine ⟨?_, b1, hT1, hbx⟩
    all_goals simp [headOk, *]
    all_goals omega
  case rest =>
    clear b1 hT1 hbx
    obtain ⟨rfl, b1, hT1, hbx⟩ := hcut
    obtain ⟨w0, rfl⟩ : ∃ w0, w0 = wc := ⟨_, rfl⟩
    have hbx0 := hbx
    obtain ⟨hx0, hx1, hx2⟩ := hbx
    go_wp2_with fail
    clear hx0 hx1 hx2
    go_loopg [3, 25] len (fun g o i wr => ∃ k : Nat, k + g = len ∧ i = .int .i64 k ∧ o = .bool (okTo n k) ∧ Below w0.heap.size w0 wr)
    case atStart => exact ⟨0, by omega, rfl, by simp [okTo], Below.refl _ _⟩
    case round =>
      obtain ⟨k, hkg, rfl, rfl, hb⟩ := hrel
      have hT2 := hT1.below hb
      have hb2 := hbx0.below hb
      by_cases hkn : k < len
      · obtain ⟨b, off, c1, c2, rfl, hblt, h0, h1, h2, i1, i2⟩ := hT2.at hkn
        have j1 := i1
        have j2 := i2
        obtain ⟨a1, l1, p1, rfl, hl1, hm1, hs1, hr1⟩ := i1
        obtain ⟨a2, l2, p2, rfl, hl2, hm2, hs2, hr2⟩ := i2
        obtain ⟨hx0, hx1, hx2⟩ := hb2
        have Hok : Hid _ := okTo_succ n k (by omega)
        have Hth : Hid (tranHead n.places (tranAt n.trans k) = (decide (0 ≤ (tranAt n.trans k).label) && decide ((tranAt n.trans k).label ≤ 26) && ((l1 : Int) == n.places) && ((l2 : Int) == n.places))) := by
          show _ = _; unfold tranHead; rw [hl1, hl2]
        clear hr1 hr2 hT2
        have hsmt := Hsm.out k (by omega)
        generalize tranAt n.trans k = t at *
        generalize okTo n k = okk at *
        go_upto_region 5 with fail
        go_cut [3] (fun o wd => o = .bool (okk && tranHead n.places t) ∧ wd = wr.alloc (.cells #[.int .i64 t.label, .slice a1 l1 p1, .slice a2 l2 p2] 37))
        case first =>
          cases okk
          · go_wp2_with fail
            go_meet
            exact ⟨rfl, rfl⟩
          by_cases q1 : 0 ≤ t.label
          case neg =>
            have F : Hid (tranHead n.places t = false) := by show _ = _; rw [Hth.out]; rw [decide_eq_false q1]; rfl
            go_wp2_with fail
            go_meet
            exact ⟨by rw [F.out]; rfl, rfl⟩
          by_cases q2 : t.label ≤ 26
          case neg =>
            have F : Hid (tranHead n.places t = false) := by show _ = _; rw [Hth.out]; rw [decide_eq_false q2]; simp
            go_wp2_with fail
            go_meet
            exact ⟨by rw [F.out]; rfl, rfl⟩
          cases q3 : ((l1 : Int) == n.places)
          case false =>
            have F : Hid (tranHead n.places t = false) := by show _ = _; rw [Hth.out]; rw [q3]; simp
            go_wp2_with fail
            go_meet
            exact ⟨by rw [F.out]; rfl, rfl⟩
          cases q4 : ((l2 : Int) == n.places)
          case false =>
            have F : Hid (tranHead n.places t = false) := by show _ = _; rw [Hth.out]; rw [q4]; simp
            go_wp2_with fail
            go_meet
            exact ⟨by rw [F.out]; rfl, rfl⟩
          case true =>
            have F : Hid (tranHead n.places t = true) := by show _ = _; rw [Hth.out]; rw [q3, q4, decide_eq_true q1, decide_eq_true q2]; rfl
            go_wp2_with fail
            go_meet
            exact ⟨by rw [F.out]; rfl, rfl⟩
        case rest =>
          obtain ⟨rfl, hwd⟩ := hcut
          obtain ⟨wd, rfl⟩ : ∃ wd, wd = wc := ⟨_, rfl⟩
          have e1 := below_new wr (.cells #[.int .i64 t.label, .slice a1 l1 p1, .slice a2 l2 p2] 37)
          have hbd : Below wr.heap.size wr wd := by rw [hwd]; exact e1
          have hc1 : wd.cell? ⟨wr.heap.size, 1, none⟩ = some (.slice a1 l1 p1) := by rw [hwd, World.cell?_alloc_at _ _ _ _ rfl]; rfl
          have hc2 : wd.cell? ⟨wr.heap.size, 2, none⟩ = some (.slice a2 l2 p2) := by rw [hwd, World.cell?_alloc_at _ _ _ _ rfl]; rfl
          clear e1 hwd h0 h1 h2
          have j1 := j1.below hbd
          have j2 := j2.below hbd
          have Hok2 : Hid (okTo n (k + 1) = ((okk && tranHead n.places t) && (t.pre ++ t.post).all weightOk)) := by
            show _ = _; rw [Hok.out, tranOk, Bool.and_assoc]
          obtain ⟨okA, HA⟩ : ∃ okA, Hid ((okk && tranHead n.places t) = okA) := ⟨_, rfl⟩
          rw [HA.out] at Hok2
          rw [HA.out]
          clear Hok HA
          go_wp2_with fail
          refine (concat_any _ [t.pre, t.post] _ (by exact lists_lit2 wd _ _ _ _ _ _ j1 j2 rfl) (by simpa using hsmt)).mono ?_
          rintro e w2 ⟨r, rfl, hR, hbe⟩
          have hbw : Below w0.heap.size w0 w2 := (below_then hb (below_then hbd (below_then (below_new _ _) hbe)))
          have hR2 : Ints w2 r (t.pre ++ t.post) := by simpa using hR
          clear hR hbe hbd hc1 hc2 j1 j2 hb hx0 hx1 hx2
          generalize t.pre ++ t.post = zs at *
          obtain ⟨ar, lr, cr, rfl, hlr, hmr, hsr, hrr⟩ := hR2
          go_wp2_with fail
          go_loop [3, 63] (fun o i => ∃ j : Nat, j ≤ lr ∧ i = .int .i64 j ∧ o = .bool (okA && weighTo zs j)) (fun _ i => lr - (intOf i).toNat)
          case atStart => exact ⟨0, Nat.zero_le _, rfl, by simp [weighTo]⟩
          case round =>
            obtain ⟨j, hj, rfl, rfl⟩ := hrel
            by_cases hjn : j < lr
            · obtain ⟨bq, oq, rfl, hbq, hcq⟩ := hrr j (by omega)
              have hst := weighTo_succ zs j (by omega)
              cases hA : (okA && weighTo zs j)
              · have Hs : Hid ((okA && weighTo zs (j + 1)) = false) := by show _ = _; rw [hst, ← Bool.and_assoc, hA]; rfl
                clear hst hA hrr
                go_wp2
                go_round
                case rel => exact ⟨j + 1, by omega, by go_num, by rw [Hs.out]⟩
                case measure => simp [intOf]; omega
              · have Hs : Hid ((okA && weighTo zs (j + 1)) = weightOk (nth zs j)) := by show _ = _; rw [hst, ← Bool.and_assoc, hA]; rfl
                clear hst hA hrr
                by_cases q1 : 0 ≤ nth zs j
                · by_cases q2 : nth zs j ≤ 9
                  · go_wp2
                    go_round
                    case rel => exact ⟨j + 1, by omega, by go_num, by rw [Hs.out]; simp [weightOk, q1, q2]⟩
                    case measure => simp [intOf]; omega
                  · go_wp2
                    go_round
                    case rel => exact ⟨j + 1, by omega, by go_num, by rw [Hs.out]; simp [weightOk]; omega⟩
                    case measure => simp [intOf]; omega
                · go_wp2
                  go_round
                  case rel => exact ⟨j + 1, by omega, by go_num, by rw [Hs.out]; simp [weightOk]; omega⟩
                  case measure => simp [intOf]; omega
            · have Hw : Hid (okTo n (k + 1) = (okA && weighTo zs j)) := by show _ = _; rw [Hok2.out, weighTo_all zs j (by omega)]
              clear hrr
              go_wp2
              go_roundg (gk - 1)
              case measure => omega
              case rel => exact ⟨k + 1, by omega, by go_num, by rw [Hw.out], hbw⟩
      · have hfin := okTo_all n k (by omega)
        rw [hfin]
        clear hfin hT2 hb2
        cases hno : netOk n
        · have Hw : Hid (wrongL n = 2) := by show _ = _; simp [wrongL, hno]
          clear hno
          go_wp2
          go_ret
          exact ⟨ret_int Hw.out.symm, below_then b1 hb⟩
        · have Hw : Hid (wrongL n = 0) := by show _ = _; simp [wrongL, hno]
          clear hno
          go_wp2
          go_ret
          exact ⟨ret_int Hw.out.symm, below_then b1 hb⟩

end Go.Proofs.Ytakgppoeikcepaa

/- The answers of the document itself for nets: which fit, who can. -/
namespace Go.Proofs.Ytakgppoeikcepaa
open Go.RowKit
set_option linter.unusedVariables false
set_option maxRecDepth 4000

/-- A net, and a mark of it. -/
def fitsL (n : NetL) (m : List Int) : Bool := netOk n && ((m.length : Int) == n.places) && rightL m

theorem wrongL_ok {n : NetL} (h : netOk n = true) : wrongL n = 0 := by simp [wrongL, h]
theorem wrongL_not {n : NetL} (h : netOk n = false) : wrongL n = 2 := by simp [wrongL, h]

set_option maxHeartbeats 400000 in
theorem bfits_any (v u : Value) (n : NetL) (m : List Int) (w : World) (hv : Net w v n) (hu : Ints w u m) (hsm : SmallNet n) :
    Calls Try.prog 57 #[v, u] w fun e w' => e = .returned (.bool (fitsL n m)) ∧ Below w.heap.size w w' := by
  obtain ⟨tv, rfl, hT⟩ := hv
  have b1 := below_new w (.cells #[.int .i64 n.places, tv] 24)
  have hbx := box2_new w (.int .i64 n.places) tv 24
  have hu1 := hu.below b1
  have hv1 : Net _ _ n := ⟨tv, rfl, hT.below b1⟩
  go_enter Try.func57, Try.ntmps57
  go_wp2_with fail
  refine (bwrong_any _ n _ (by exact hv1) hsm).mono ?_
  rintro e w1 ⟨rfl, b2⟩
  have b3 := below_then b1 b2
  have hu2 := hu1.below b2
  obtain ⟨hx0, hx1, hx2⟩ := hbx.below b2
  clear b1 b2 hbx hu1 hv1
  have hu3 := hu2
  obtain ⟨a, len, cap, rfl, hlen, hmx, hsh, hr⟩ := hu2
  clear hr
  cases h1 : netOk n
  · rw [wrongL_not h1]
    have F : Hid (fitsL n m = false) := by show _ = _; simp [fitsL, h1]
    clear h1
    go_wp2
    go_ret
    exact ⟨ret_bool F.out.symm, b3⟩
  · rw [wrongL_ok h1]
    cases h2 : ((len : Int) == n.places)
    · have F : Hid (fitsL n m = false) := by show _ = _; unfold fitsL; rw [hlen, h2]; simp
      clear h1
      go_wp2
      go_ret
      exact ⟨ret_bool F.out.symm, b3⟩
    · have F : Hid (fitsL n m = rightL m) := by show _ = _; unfold fitsL; rw [h1, hlen, h2]; simp
      clear h1
      go_wp2_with fail
      refine (aright_any _ m _ hu3).mono ?_
      rintro e w' ⟨rfl, rfl⟩
      go_wp2
      go_ret
      exact ⟨ret_bool F.out.symm, b3⟩

/-- Whose tokens are there, of the first k. -/
def canTo (n : NetL) (m : List Int) (k : Nat) : List Int := ((List.range k).filter fun t => coversL m (tranAt n.trans t).pre).map fun t => ((t : Nat) : Int)
theorem canTo_yes (n : NetL) (m : List Int) (k : Nat) (h : coversL m (tranAt n.trans k).pre = true) : canTo n m (k + 1) = canTo n m k ++ [(k : Int)] := by
  simp [canTo, List.range_succ, List.filter_append, h]
theorem canTo_no (n : NetL) (m : List Int) (k : Nat) (h : coversL m (tranAt n.trans k).pre = false) : canTo n m (k + 1) = canTo n m k := by
  simp [canTo, List.range_succ, List.filter_append, h]
theorem canTo_le (n : NetL) (m : List Int) (k : Nat) : (canTo n m k).length ≤ k := by
  simp only [canTo, List.length_map]
  exact Nat.le_trans (List.length_filter_le _ _) (by simp)

/-- Who can. -/
def canL (n : NetL) (m : List Int) : List Int × Int := if fitsL n m then (canTo n m n.trans.length, 0) else ([], 2)
theorem canL_yes {n : NetL} {m : List Int} (h : fitsL n m = true) : canL n m = (canTo n m n.trans.length, 0) := by simp [canL, h]
theorem canL_no {n : NetL} {m : List Int} (h : fitsL n m = false) : canL n m = ([], 2) := by simp [canL, h]

end Go.Proofs.Ytakgppoeikcepaa

/- The answers of the document itself for nets: one fires. -/
namespace Go.Proofs.Ytakgppoeikcepaa
open Go.RowKit
set_option linter.unusedVariables false
set_option maxRecDepth 4000

def addL (xs ys : List Int) : List Int := zipL (fun x1 x2 => x1 + x2) xs ys
def subL (xs ys : List Int) : List Int := zipL (fun x1 x2 => x1 - x2) xs ys

/-- One fires. -/
def fireL (n : NetL) (m : List Int) (t : Int) : List Int × Int :=
  if fitsL n m then
    (if decide (0 ≤ t) && decide (t < n.trans.length) && coversL m (tranAt n.trans t.toNat).pre then
      (if rightL (addL (subL m (tranAt n.trans t.toNat).pre) (tranAt n.trans t.toNat).post) then (addL (subL m (tranAt n.trans t.toNat).pre) (tranAt n.trans t.toNat).post, 0) else ([], 4))
    else ([], 3))
  else ([], 2)

theorem fits_net {n : NetL} {m : List Int} (h : fitsL n m = true) : netOk n = true ∧ (m.length : Int) = n.places ∧ rightL m = true := by
  simp only [fitsL, Bool.and_eq_true, beq_iff_eq] at h
  exact ⟨h.1.1, h.1.2, h.2⟩
theorem net_tran {n : NetL} (h : netOk n = true) {k : Nat} (hk : k < n.trans.length) : tranOk n.places (tranAt n.trans k) = true := by
  simp only [netOk, Bool.and_eq_true] at h
  have := List.all_eq_true.1 h.2 _ (List.getElem_mem hk)
  simpa [tranAt, List.getD, List.getElem?_eq_getElem hk] using this
theorem weights_right {xs : List Int} (h : xs.all weightOk = true) : rightL xs = true := by
  rw [rightL_iff]
  intro j
  by_cases hj : j < xs.length
  · have := List.all_eq_true.1 h _ (List.getElem_mem hj)
    simp only [weightOk, Bool.and_eq_true, decide_eq_true_eq] at this
    simp only [nth, List.getD, List.getElem?_eq_getElem hj, Option.getD_some]
    omega
  · rw [nth_past xs j (by omega)]; omega
theorem tran_right {p : Int} {t : TranL} (h : tranOk p t = true) : rightL t.pre = true ∧ rightL t.post = true := by
  simp only [tranOk, Bool.and_eq_true, List.all_append] at h
  exact ⟨weights_right h.2.1, weights_right h.2.2⟩

set_option maxHeartbeats 1000000 in
theorem bfire_any (v u : Value) (n : NetL) (m : List Int) (t : Int) (w : World) (hv : Net w v n) (hu : Ints w u m) (hsm : SmallNet n) :
    Calls Try.prog 58 #[v, u, .int .i64 t] w fun e w' => Gives w (fireL n m t) e w' := by
  obtain ⟨tv, rfl, hT⟩ := hv
  have b1 := below_new w (.cells #[.int .i64 n.places, tv] 24)
  have hbx := box2_new w (.int .i64 n.places) tv 24
  have hu1 := hu.below b1
  have hv1 : Net _ _ n := ⟨tv, rfl, hT.below b1⟩
  go_enter Try.func58, Try.ntmps58
  go_wp2_with fail
  refine (bfits_any _ _ n m _ (by exact hv1) (by exact hu1) hsm).mono ?_
  rintro e w1 ⟨rfl, b2⟩
  have b3 := below_then b1 b2
  have hu2 := hu1.below b2
  have hT2 := (hT.below b1).below b2
  have hbx2 := hbx.below b2
  clear b1 b2 hbx hu1 hv1 hT
  cases hf : fitsL n m
  · have E : fireL n m t = ([], 2) := by simp [fireL, hf]
    go_wp2
    go_ret2
    exact gives_of E (Ints.nil _) b3
  · obtain ⟨hno, _, hrm⟩ := fits_net hf
    obtain ⟨hx0, hx1, hx2⟩ := hbx2
    have hT3 := hT2
    obtain ⟨a, len, cap, rfl, hlen, hmx, hsh, hr⟩ := hT2
    clear hr
    by_cases ht0 : t < 0
    · have E : Hid (fireL n m t = ([], 3)) := by show _ = _; rw [fireL, hf, decide_eq_false (show ¬ 0 ≤ t by omega)]; rfl
      clear hf hno hrm
      go_wp2
      go_ret2
      exact gives_of E.out (Ints.nil _) b3
    by_cases ht1 : (len : Int) ≤ t
    · have E : Hid (fireL n m t = ([], 3)) := by show _ = _; rw [fireL, hf, decide_eq_false (show ¬ t < n.trans.length by omega)]; simp
      clear hf hno hrm
      go_wp2
      go_ret2
      exact gives_of E.out (Ints.nil _) b3
    obtain ⟨k, rfl⟩ := Int.eq_ofNat_of_zero_le (show 0 ≤ t by omega)
    have hkn : k < len := by omega
    have E0 : fireL n m k = (if coversL m (tranAt n.trans k).pre then
      (if rightL (addL (subL m (tranAt n.trans k).pre) (tranAt n.trans k).post) then (addL (subL m (tranAt n.trans k).pre) (tranAt n.trans k).post, 0) else ([], 4)) else ([], 3)) := by
      rw [fireL, hf, decide_eq_true (show (0 : Int) ≤ k by omega), decide_eq_true (show (k : Int) < n.trans.length by omega), Int.toNat_natCast]; simp
    have E1 : Hid _ := E0
    obtain ⟨b, off, c1, c2, rfl, hblt, h0, h1, h2, i1, i2⟩ := hT3.at hkn
    obtain ⟨hr1, hr2⟩ := tran_right (net_tran hno (show k < n.trans.length by omega))
    have hge : ¬ ((len : Int) ≤ (k : Int)) := by omega
    clear E0 hf hno ht0 ht1
    generalize tranAt n.trans k = t at *
    go_wp2_with fail
    refine (acovers_b _ _ m t.pre _ hu2 i1).mono ?_
    rintro e w2 ⟨rfl, hb2⟩
    have b4 := below_then b3 hb2
    have hu3 := hu2.below hb2
    have i1' := i1.below hb2
    have i2' := i2.below hb2
    have hx1' := (hb2.cell (p := ⟨w.heap.size, 1, none⟩) hx0).trans hx2
    have h1' := (hb2.cell (p := ⟨b, _, none⟩) hblt).trans h1
    have h2' := (hb2.cell (p := ⟨b, _, none⟩) hblt).trans h2
    have hy0 := Nat.lt_of_lt_of_le hx0 hb2.size
    have hy1 := Nat.lt_of_lt_of_le hblt hb2.size
    clear hb2 hu2 i1 i2 h0 h1 h2 hx0 hx1 hx2 hT3 b3
    cases hc : coversL m t.pre
    · have E : Hid (fireL n m k = ([], 3)) := by show _ = _; rw [E1.out, hc]; rfl
      clear E1 hc
      go_wp2
      go_ret2
      exact gives_of E.out (Ints.nil _) b4
    · have hrs : rightL (subL m t.pre) = true := by rw [subL, right_minus hrm hr1]; exact hc
      go_wp2
      go_region_held3 (fun w' => w'.cell? ⟨w.heap.size, 1, none⟩ = some (.slice (some ⟨b, off, none⟩) len cap) ∧ w'.cell? ⟨b, off + k * 3 + 1, none⟩ = some c1 ∧ w'.cell? ⟨b, off + k * 3 + 2, none⟩ = some c2)
        (go_keep)
        (first | (go_at_call_of 80 c1; refine (amix_any (-1) (.inr rfl) _ _ m t.pre _ ?_ ?_ hrm hr1).mono ?_; exact hu3.drewN 1; exact i1'.drewN 1; rintro e w4 ⟨r, rfl, hR, hbR⟩; have k1 := (hbR.cell (p := ⟨w.heap.size, 1, none⟩) hy0).trans hx1'; have k2 := (hbR.cell (p := ⟨b, _, none⟩) hy1).trans h1'; have k3 := (hbR.cell (p := ⟨b, _, none⟩) hy1).trans h2') | (go_at_call_of 80 c2; refine (amix_any 1 (.inl rfl) _ _ (subL m t.pre) t.post _ ?_ ?_ hrs hr2).mono ?_; (rw [mix_less] at hR; exact hR); exact (i2'.drewN 1).below hbR; rintro e w5 ⟨r2, rfl, hR2, hbR2⟩; have k1 := (hbR2.cell (p := ⟨w.heap.size, 1, none⟩) (Nat.lt_of_lt_of_le hy0 hbR.size)).trans k1; have k2 := (hbR2.cell (p := ⟨b, _, none⟩) (Nat.lt_of_lt_of_le hy1 hbR.size)).trans k2; have k3 := (hbR2.cell (p := ⟨b, _, none⟩) (Nat.lt_of_lt_of_le hy1 hbR.size)).trans k3))
      rw [mix_one] at hR2
      have b5 : Below w.heap.size w w5 := below_then b4 ((below_drewN (Below.refl _ _) 1).trans ((hbR.trans (hbR2.mono hbR.size))))
      clear k1 k2 k3 hbR hbR2 hR i1' i2' hx1' h1' h2' hy0 hy1
      go_wp2_with fail
      refine (aright_any _ _ _ hR2).mono ?_
      rintro e w' ⟨rfl, rfl⟩
      have E2 : Hid (fireL n m k = (if rightL (zipL (fun x1 x2 => x1 + x2) (subL m t.pre) t.post) then (addL (subL m t.pre) t.post, 0) else ([], 4))) := by
        show _ = _; rw [E1.out, hc]; rfl
      clear E1 hc
      cases hz : rightL (zipL (fun x1 x2 => x1 + x2) (subL m t.pre) t.post)
      · have E : Hid (fireL n m k = ([], 4)) := by show _ = _; rw [E2.out, hz]; rfl
        clear E2 hz
        go_wp2
        go_ret2
        exact gives_of E.out (Ints.nil _) b5
      · have E : Hid (fireL n m k = (addL (subL m t.pre) t.post, 0)) := by show _ = _; rw [E2.out, hz]; rfl
        clear E2 hz
        go_wp2
        go_ret2
        exact gives_of E.out hR2 b5

end Go.Proofs.Ytakgppoeikcepaa

/- The answers of the document itself for nets: one behind the other. -/
namespace Go.Proofs.Ytakgppoeikcepaa
open Go.RowKit
set_option linter.unusedVariables false
set_option maxRecDepth 4000

/-- One behind the other. -/
def runL (n : NetL) : List Int → List Int → List Int × Int
  | m, [] => if fitsL n m then (m, 0) else ([], 2)
  | m, t :: ts => if fitsL n m then (if (fireL n m t).2 == 0 then runL n (fireL n m t).1 ts else ([], (fireL n m t).2)) else ([], 2)

end Go.Proofs.Ytakgppoeikcepaa

/- The answers of the document itself for nets: the other way round. -/
namespace Go.Proofs.Ytakgppoeikcepaa
open Go.RowKit
set_option linter.unusedVariables false
set_option maxRecDepth 4000

def turnT (t : TranL) : TranL := ⟨t.label, t.post, t.pre⟩
def turnL (n : NetL) : NetL := ⟨n.places, n.trans.map turnT⟩
theorem turn_at (ts : List TranL) (j : Nat) (h : j < ts.length) : tranAt (ts.map turnT) j = turnT (tranAt ts j) := by
  simp [tranAt, List.getD, List.getElem?_map, List.getElem?_eq_getElem h]

/-- The first of them, turned, as cells. -/
def TurnedTo (w : World) (ts : List TranL) (tv : List (Int × Value × Value)) : Prop :=
  ∀ j (hj : j < tv.length), tv[j].1 = (tranAt ts j).label ∧ Ints w tv[j].2.1 (tranAt ts j).post ∧ Ints w tv[j].2.2 (tranAt ts j).pre
theorem TurnedTo.nil (w : World) (ts : List TranL) : TurnedTo w ts [] := fun j hj => absurd hj (by simp)
theorem TurnedTo.snoc {w : World} {ts : List TranL} {tv : List (Int × Value × Value)} (h : TurnedTo w ts tv) {l : Int} {c1 c2 : Value}
    (hl : l = (tranAt ts tv.length).label) (h1 : Ints w c1 (tranAt ts tv.length).post) (h2 : Ints w c2 (tranAt ts tv.length).pre) : TurnedTo w ts (tv ++ [(l, c1, c2)]) := by
  intro j hj
  by_cases hjl : j < tv.length
  · rw [List.getElem_append_left hjl]; exact h j hjl
  · have e : j = tv.length := by simp at hj; omega
    subst e
    rw [List.getElem_append_right (Nat.le_refl _)]
    simp only [Nat.sub_self, List.getElem_cons_zero]
    exact ⟨hl, h1, h2⟩

set_option maxHeartbeats 1000000 in
theorem bturned_any (v : Value) (n : NetL) (w : World) (hv : Net w v n) :
    Calls Try.prog 56 #[v] w fun e w' => ∃ r, e = .returned r ∧ Net w' r (turnL n) ∧ Below w.heap.size w w' := by
  obtain ⟨tv, rfl, hT⟩ := hv
  obtain ⟨a, len, cap, rfl, hlen, hmx, hsh, hr⟩ := id hT
  have b1 := below_new w (.cells #[.int .i64 n.places, .slice a len cap] 24)
  have b2 := below_new (w.alloc (.cells #[.int .i64 n.places, .slice a len cap] 24)) (.cells #[.int .i64 0, .slice none 0 0] 24)
  have hbx := (box2_new w (.int .i64 n.places) (.slice a len cap) 24).below b2
  have b3 := below_then b1 b2
  have hT2 := hT.below b3
  have hrs : ∀ wr, Below ((w.alloc (.cells #[.int .i64 n.places, .slice a len cap] 24)).alloc (.cells #[.int .i64 0, .slice none 0 0] 24)).heap.size ((w.alloc (.cells #[.int .i64 n.places, .slice a len cap] 24)).alloc (.cells #[.int .i64 0, .slice none 0 0] 24)) wr →
      wr.cell? ⟨w.heap.size + 1, 0, none⟩ = some (.int .i64 0) ∧ wr.cell? ⟨w.heap.size + 1, 1, none⟩ = some (.slice none 0 0) ∧ wr.frozen? ⟨w.heap.size + 1, 0, none⟩ = false ∧ wr.frozen? ⟨w.heap.size + 1, 1, none⟩ = false ∧ w.heap.size + 1 < wr.heap.size := by
    intro wr hb
    have hlt : w.heap.size + 1 < ((w.alloc (.cells #[.int .i64 n.places, .slice a len cap] 24)).alloc (.cells #[.int .i64 0, .slice none 0 0] 24)).heap.size := by simp
    refine ⟨?_, ?_, ?_, ?_, Nat.lt_of_lt_of_le hlt hb.size⟩
    · rw [hb.cell (p := ⟨w.heap.size + 1, 0, none⟩) hlt, World.cell?_alloc_at _ _ _ _ (by simp)]; rfl
    · rw [hb.cell (p := ⟨w.heap.size + 1, 1, none⟩) hlt, World.cell?_alloc_at _ _ _ _ (by simp)]; rfl
    · rw [hb.frozen (p := ⟨w.heap.size + 1, 0, none⟩) hlt, World.frozen?_alloc_at _ _ _ _ (by simp)]
    · rw [hb.frozen (p := ⟨w.heap.size + 1, 1, none⟩) hlt, World.frozen?_alloc_at _ _ _ _ (by simp)]
  have Hrs : Hid _ := hrs
  obtain ⟨W0, HW0⟩ : ∃ W0, Hid (((w.alloc (.cells #[.int .i64 n.places, .slice a len cap] 24)).alloc (.cells #[.int .i64 0, .slice none 0 0] 24)) = W0) := ⟨_, rfl⟩
  rw [HW0.out] at Hrs hbx b3 hT2
  clear hrs b1 b2 hr
  go_enter Try.func56, Try.ntmps56
  go_wp2_with fail
  rw [HW0.out]
  clear HW0
  go_loopg [3, 9] len (fun g o i wr => ∃ (k : Nat) (tv : List (Int × Value × Value)), k + g = len ∧ i = .int .i64 k ∧ tv.length = k ∧ OwnT W0.heap.size W0 wr o tv ∧ TurnedTo w n.trans tv)
  case atStart => exact ⟨0, [], by omega, rfl, rfl, OwnT.nil_of (Below.refl _ _) (Nat.le_refl _), TurnedTo.nil _ _⟩
  case round =>
    obtain ⟨k, tv, hkg, rfl, hk, hG, hTT⟩ := hrel
    have HTT : Hid _ := hTT
    have Hk : Hid (tv.length = k) := hk
    clear hTT hk
    by_cases hkn : k < len
    · obtain ⟨b, off, c1, c2, rfl, hblt, h0, h1, h2, i1, i2⟩ := hT.at hkn
      have hblt2 := Nat.lt_of_lt_of_le hblt b3.size
      have hbw := below_then b3 hG.2.1
      obtain ⟨a1, l1, p1, rfl, _, _, _, _⟩ := id i1
      obtain ⟨a2, l2, p2, rfl, _, _, _, _⟩ := id i2
      have h0' := (hbw.cell (p := ⟨b, _, none⟩) hblt).trans h0
      have h1' := (hbw.cell (p := ⟨b, _, none⟩) hblt).trans h1
      have h2' := (hbw.cell (p := ⟨b, _, none⟩) hblt).trans h2
      have hbn := below_new wr (.cells #[.int .i64 (tranAt n.trans k).label, .slice a1 l1 p1, .slice a2 l2 p2] 37)
      have hG1 := hG.trans hbn
      have RT : TurnedTo w n.trans (tv ++ [((tranAt n.trans k).label, .slice a2 l2 p2, .slice a1 l1 p1)]) :=
        TurnedTo.snoc HTT.out (by rw [Hk.out]) (by rw [Hk.out]; exact i2) (by rw [Hk.out]; exact i1)
      have HRT : Hid _ := RT
      clear RT h0 h1 h2 i1 i2 hG hbw
      generalize tranAt n.trans k = t at *
      go_wp2_with (at_builtin; refine wp_append_tran rfl _ _ rfl W0.heap.size W0 _ _ tv t.label a2 a1 l2 l1 p2 p1 _ hG1 (by rfl) (by rfl) (by simp) (by have := Hk.out; omega) ?_; intro v' w2 hG2)
      have R := hG2
      clear hG1 hG2 hbn h0' h1' h2'
      go_wp2
      go_roundg (gk - 1)
      case measure => omega
      case rel => exact ⟨k + 1, _, by omega, by go_num, by have := Hk.out; simp [this], R, HRT.out⟩
    · obtain ⟨hx0, hx1, hx2⟩ := hbx.below hG.2.1
      obtain ⟨q1, q2, q3, q4, q5⟩ := Hrs.out _ hG.2.1
      have hr0 : w.heap.size + 1 < W0.heap.size := (Hrs.out _ (Below.refl _ _)).2.2.2.2
      obtain ⟨hown, hbG, hBG⟩ := hG
      have hb4 := below_then b3 hbG
      have hsh2 : ∃ ax lx cx, u3 = .slice ax lx cx := by
        obtain ⟨_, hcase⟩ := hown
        rcases hcase with ⟨rfl, _⟩ | ⟨g, cap', cur, rfl, _⟩
        · exact ⟨_, _, _, rfl⟩
        · exact ⟨_, _, _, rfl⟩
      obtain ⟨ax, lx, cx, rfl⟩ := hsh2
      have hb5 : Below w.heap.size w ((wr.setCell ⟨w.heap.size + 1, 0, none⟩ (.int .i64 n.places)).setCell ⟨w.heap.size + 1, 1, none⟩ (.slice ax lx cx)) :=
        (hb4.setCell (p := ⟨w.heap.size + 1, 0, none⟩) (by simp) _).setCell (p := ⟨w.heap.size + 1, 1, none⟩) (by simp) _
      have hown2 := ownsRow_setCell_below (ownsRow_setCell_below hown (a := ⟨w.heap.size + 1, 0, none⟩) hr0 (.int .i64 n.places)) (a := ⟨w.heap.size + 1, 1, none⟩) hr0 (.slice ax lx cx)
      have hTr := tran_read (ts := (turnL n).trans) hown2 (by have := Hk.out; omega) (by have := Hk.out; simp [turnL]; omega) (fun j hj => by
        obtain ⟨e1, e2, e3⟩ := HTT.out j hj
        have hjl : j < n.trans.length := by have := Hk.out; omega
        have ea : tranAt (turnL n).trans j = turnT (tranAt n.trans j) := turn_at _ _ hjl
        rw [ea]
        exact ⟨e1, e2.below hb5, e3.below hb5⟩)
      have HTr : Hid _ := hTr
      have Hb5 : Hid _ := hb5
      clear hTr hb5 hown hown2
      go_wp2_with fail
      refine bodyPost_ret (v := .agg #[.int .i64 n.places, .slice ax lx cx]) ?_ rfl ⟨_, rfl, ⟨_, rfl, HTr.out⟩, Hb5.out⟩
      simp [results, Try.results56, go_sem, q1, q2]

end Go.Proofs.Ytakgppoeikcepaa

/- Whether two nets are the same, as the document itself asks it. -/
namespace Go.Proofs.Ytakgppoeikcepaa
open Go.RowKit
set_option linter.unusedVariables false
set_option maxRecDepth 4000

def sameT (t u : TranL) : Bool := (t.label == u.label) && (t.pre == u.pre) && (t.post == u.post)
def sameTo (ts us : List TranL) (k : Nat) : Bool := (List.range k).all fun j => sameT (tranAt ts j) (tranAt us j)
def sameTs (ts us : List TranL) : Bool := (ts.length == us.length) && sameTo ts us ts.length
def sameN (n m : NetL) : Bool := (n.places == m.places) && sameTs n.trans m.trans

theorem sameTo_succ (ts us : List TranL) (k : Nat) : sameTo ts us (k + 1) = (sameTo ts us k && sameT (tranAt ts k) (tranAt us k)) := by
  unfold sameTo; rw [List.range_succ, List.all_append]; simp
theorem sameTo_false (ts us : List TranL) (n k : Nat) (h : k < n) (hf : sameT (tranAt ts k) (tranAt us k) = false) : sameTo ts us n = false := by
  unfold sameTo; rw [List.all_eq_false]; exact ⟨k, by simpa using h, by simp [hf]⟩

theorem Trans.get {w : World} {v : Value} {ts : List TranL} (h : Trans w v ts) : ∃ a len cap, v = .slice a len cap ∧ ts.length = len ∧ len ≤ 2513169434916 := by
  obtain ⟨a, len, cap, e, hl, hm, _, _⟩ := h; exact ⟨a, len, cap, e, hl, hm⟩

end Go.Proofs.Ytakgppoeikcepaa

/- Plain facts on nets that fire: more tokens, two that change places, back again, one run behind another one. -/
namespace Go.Proofs.Ytakgppoeikcepaa
set_option linter.unusedVariables false
set_option maxRecDepth 4000

/-- What firing asks, and what it comes to. -/
def Fires (n : NetL) (m : List Int) (t : Int) (m' : List Int) : Prop := fireL n m t = (m', 0)

theorem add_at (xs ys : List Int) (j : Nat) : nth (addL xs ys) j = nth xs j + nth ys j := sum_at xs ys j
theorem sub_at (xs ys : List Int) (j : Nat) : nth (subL xs ys) j = nth xs j - nth ys j := less_at xs ys j
theorem add_length (xs ys : List Int) : (addL xs ys).length = max xs.length ys.length := zipL_length _ _ _
theorem sub_length (xs ys : List Int) : (subL xs ys).length = max xs.length ys.length := zipL_length _ _ _

theorem fire_ok {n : NetL} {m m' : List Int} {t : Int} (h : fireL n m t = (m', 0)) :
    ∃ k : Nat, t = k ∧ k < n.trans.length ∧ fitsL n m = true ∧ coversL m (tranAt n.trans k).pre = true ∧ rightL m' = true ∧ m' = addL (subL m (tranAt n.trans k).pre) (tranAt n.trans k).post := by
  unfold fireL at h
  cases hf : fitsL n m
  · simp [hf] at h
  · simp only [hf, if_true] at h
    cases hc : (decide (0 ≤ t) && decide (t < n.trans.length) && coversL m (tranAt n.trans t.toNat).pre)
    · simp [hc] at h
    · simp only [hc, if_true] at h
      simp only [Bool.and_eq_true, decide_eq_true_eq] at hc
      obtain ⟨⟨h0, h1⟩, h2⟩ := hc
      obtain ⟨k, rfl⟩ := Int.eq_ofNat_of_zero_le h0
      rw [Int.toNat_natCast] at h h2
      cases hr : rightL (addL (subL m (tranAt n.trans k).pre) (tranAt n.trans k).post)
      · simp [hr] at h
      · simp only [hr, if_true, Prod.mk.injEq, and_true] at h
        subst h
        exact ⟨k, rfl, by omega, rfl, h2, hr, rfl⟩

theorem fire_mk {n : NetL} {m : List Int} {k : Nat} (hk : k < n.trans.length) (hf : fitsL n m = true) (hc : coversL m (tranAt n.trans k).pre = true)
    (hr : rightL (addL (subL m (tranAt n.trans k).pre) (tranAt n.trans k).post) = true) : fireL n m k = (addL (subL m (tranAt n.trans k).pre) (tranAt n.trans k).post, 0) := by
  unfold fireL
  rw [hf, decide_eq_true (show (0 : Int) ≤ k by omega), decide_eq_true (show (k : Int) < n.trans.length by omega), Int.toNat_natCast, hc, hr]
  rfl

theorem fits_mk {n : NetL} {m : List Int} (hn : netOk n = true) (hl : (m.length : Int) = n.places) (hr : rightL m = true) : fitsL n m = true := by
  simp [fitsL, hn, hl, hr]

theorem tran_length {n : NetL} (hn : netOk n = true) {k : Nat} (hk : k < n.trans.length) :
    ((tranAt n.trans k).pre.length : Int) = n.places ∧ ((tranAt n.trans k).post.length : Int) = n.places := by
  have h := net_tran hn hk
  simp only [tranOk, tranHead, Bool.and_eq_true, beq_iff_eq] at h
  exact ⟨h.1.1.2, h.1.2⟩

/-- What comes of a firing is a mark of the net. -/
theorem fire_fits {n : NetL} {m m' : List Int} {t : Int} (h : fireL n m t = (m', 0)) : fitsL n m' = true := by
  obtain ⟨k, rfl, hk, hf, hc, hr, rfl⟩ := fire_ok h
  obtain ⟨hn, hl, _⟩ := fits_net hf
  obtain ⟨l1, l2⟩ := tran_length hn hk
  exact fits_mk hn (by rw [add_length, sub_length]; omega) hr

theorem fire_err {n : NetL} {m : List Int} {t : Int} (h : (fireL n m t).2 ≠ 0) : (fireL n m t).1 = [] := by
  unfold fireL at h ⊢
  split at h
  · split at h
    · split at h
      · exact absurd rfl h
      · rename_i h1 h2 h3; simp [h1, h2, h3]
    · rename_i h1 h2; simp [h1, h2]
  · rename_i h1; simp [h1]

theorem run_err {n : NetL} (seq : List Int) : ∀ {m : List Int}, (runL n m seq).2 ≠ 0 → (runL n m seq).1 = [] := by
  induction seq with
  | nil =>
    intro m h
    unfold runL at h ⊢
    split at h
    · exact absurd rfl h
    · rename_i h1; simp [h1]
  | cons t ts ih =>
    intro m h
    unfold runL at h ⊢
    cases hf : fitsL n m
    · simp
    · simp only [hf, if_true] at h ⊢
      cases hq : ((fireL n m t).2 == 0)
      · simp
      · simp only [hq, if_true] at h ⊢
        exact ih h

/-- A run that can be done, step by step. -/
theorem run_cons {n : NetL} {m m' : List Int} {t : Int} {ts : List Int} : runL n m (t :: ts) = (m', 0) ↔ ∃ x, fireL n m t = (x, 0) ∧ runL n x ts = (m', 0) := by
  constructor
  · intro h
    unfold runL at h
    cases hf : fitsL n m
    · simp [hf] at h
    · simp only [hf, if_true] at h
      cases hq : ((fireL n m t).2 == 0)
      · simp only [hq] at h
        have : (fireL n m t).2 = 0 := by simpa using congrArg Prod.snd h
        simp [this] at hq
      · simp only [hq, if_true] at h
        exact ⟨(fireL n m t).1, Prod.ext rfl (by simpa using hq), h⟩
  · rintro ⟨x, h1, h2⟩
    obtain ⟨_, _, _, hf, _⟩ := fire_ok h1
    unfold runL
    simp [hf, h1, h2]

theorem run_nil {n : NetL} {m m' : List Int} : runL n m [] = (m', 0) ↔ fitsL n m = true ∧ m' = m := by
  unfold runL
  cases hf : fitsL n m
  · simp
  · simp [eq_comm]

theorem run_fits {n : NetL} (seq : List Int) : ∀ {m m' : List Int}, runL n m seq = (m', 0) → fitsL n m = true ∧ fitsL n m' = true := by
  induction seq with
  | nil => intro m m' h; obtain ⟨h1, rfl⟩ := run_nil.1 h; exact ⟨h1, h1⟩
  | cons t ts ih =>
    intro m m' h
    obtain ⟨x, h1, h2⟩ := run_cons.1 h
    obtain ⟨_, _, _, hf, _⟩ := fire_ok h1
    exact ⟨hf, (ih h2).2⟩

theorem eq_of_at {xs ys : List Int} (hl : xs.length = ys.length) (h : ∀ j, nth xs j = nth ys j) : xs = ys := eq_of_nth xs ys hl fun j _ => h j

/-! With more. -/

theorem post_le {n : NetL} (hn : netOk n = true) {k : Nat} (hk : k < n.trans.length) (j : Nat) :
    0 ≤ nth (tranAt n.trans k).pre j ∧ nth (tranAt n.trans k).pre j ≤ 9 ∧ 0 ≤ nth (tranAt n.trans k).post j ∧ nth (tranAt n.trans k).post j ≤ 9 := by
  have h := net_tran hn hk
  simp only [tranOk, Bool.and_eq_true, List.all_append] at h
  have one : ∀ xs : List Int, xs.all weightOk = true → 0 ≤ nth xs j ∧ nth xs j ≤ 9 := by
    intro xs hx
    by_cases hj : j < xs.length
    · have := List.all_eq_true.1 hx _ (List.getElem_mem hj)
      simp only [weightOk, Bool.and_eq_true, decide_eq_true_eq] at this
      simp only [nth, List.getD, List.getElem?_eq_getElem hj, Option.getD_some]
      omega
    · rw [nth_past xs j (by omega)]; omega
  have h1 := one _ h.2.1
  have h2 := one _ h.2.2
  omega

theorem fire_more {n : NetL} {m m' d : List Int} {t : Int} (h : fireL n m t = (m', 0)) (hl : d.length = m.length) (h0 : ∀ j, 0 ≤ nth d j) (hb : ∀ j, nth m j + nth d j + 9 ≤ 1000000) :
    fireL n (addL m d) t = (addL m' d, 0) ∧ (∀ j, nth m' j ≤ nth m j + 9) ∧ m'.length = m.length := by
  obtain ⟨k, rfl, hk, hf, hc, hr, rfl⟩ := fire_ok h
  obtain ⟨hn, hlen, hm⟩ := fits_net hf
  obtain ⟨l1, l2⟩ := tran_length hn hk
  rw [rightL_iff] at hm hr
  rw [coversL_iff] at hc
  have hp := post_le hn hk
  have hlen2 : ∀ xs ys : List Int, (addL xs ys).length = max xs.length ys.length := add_length
  have hf' : fitsL n (addL m d) = true := fits_mk hn (by rw [add_length]; omega) ((rightL_iff _).2 fun j => by
    have := hm j; have := h0 j; have := hb j; rw [add_at]; omega)
  have hc' : coversL (addL m d) (tranAt n.trans k).pre = true := (coversL_iff _ _).2 fun j => by
    have := hc j; have := h0 j; rw [add_at]; omega
  have e : addL (subL (addL m d) (tranAt n.trans k).pre) (tranAt n.trans k).post = addL (addL (subL m (tranAt n.trans k).pre) (tranAt n.trans k).post) d := by
    refine eq_of_at (by simp only [add_length, sub_length]; omega) fun j => ?_
    simp only [add_at, sub_at]; omega
  refine ⟨?_, fun j => by have := hp j; have := hc j; rw [add_at, sub_at]; omega, by rw [add_length, sub_length]; omega⟩
  rw [fire_mk hk hf' hc' (by
    rw [e, rightL_iff]
    intro j
    have := hr j; have := h0 j; have := hb j; have := hp j
    simp only [add_at, sub_at] at *
    omega), e]

theorem run_more {n : NetL} (seq : List Int) : ∀ {m m' d : List Int}, runL n m seq = (m', 0) → d.length = m.length → (∀ j, 0 ≤ nth d j) → (∀ j, nth m j + nth d j + 9 * seq.length ≤ 1000000) →
    runL n (addL m d) seq = (addL m' d, 0) ∧ (∀ j, nth m' j ≤ nth m j + 9 * seq.length) ∧ m'.length = m.length := by
  induction seq with
  | nil =>
    intro m m' d h hl h0 hb
    obtain ⟨hf, rfl⟩ := run_nil.1 h
    obtain ⟨hn, hlen, hm⟩ := fits_net hf
    refine ⟨run_nil.2 ⟨fits_mk hn (by rw [add_length]; omega) ((rightL_iff _).2 fun j => ?_), rfl⟩, fun j => by simp, rfl⟩
    have := (rightL_iff _).1 hm j; have := h0 j; have := hb j
    rw [add_at]
    simp only [List.length_nil] at *
    omega
  | cons t ts ih =>
    intro m m' d h hl h0 hb
    obtain ⟨x, h1, h2⟩ := run_cons.1 h
    simp only [List.length_cons] at hb ⊢
    obtain ⟨g1, g2, g3⟩ := fire_more h1 hl h0 (fun j => by have := hb j; omega)
    obtain ⟨k1, k2, k3⟩ := ih h2 (by omega) h0 (fun j => by have := hb j; have := g2 j; omega)
    exact ⟨run_cons.2 ⟨_, g1, k1⟩, fun j => by have := k2 j; have := g2 j; omega, by omega⟩

/-! Two that change places. -/

theorem fire_two {n : NetL} {m : List Int} {t u : Nat} (hn : netOk n = true) (ht : t < n.trans.length) (hu : u < n.trans.length) (hl : (m.length : Int) = n.places) (hm : rightL m = true) (hb : ∀ j, nth m j ≤ 900000)
    (hc : ∀ j, nth (tranAt n.trans t).pre j + nth (tranAt n.trans u).pre j ≤ nth m j) :
    ∃ z, runL n m [(t : Int), (u : Int)] = (z, 0) ∧ z.length = m.length ∧ ∀ j, nth z j = nth m j - nth (tranAt n.trans t).pre j + nth (tranAt n.trans t).post j - nth (tranAt n.trans u).pre j + nth (tranAt n.trans u).post j := by
  have pt := post_le hn ht
  have pu := post_le hn hu
  obtain ⟨l1, l2⟩ := tran_length hn ht
  obtain ⟨l3, l4⟩ := tran_length hn hu
  have hm' := (rightL_iff _).1 hm
  have f1 := fire_mk (m := m) ht (fits_mk hn hl hm) ((coversL_iff _ _).2 fun j => by have := hc j; have := pu j; omega) ((rightL_iff _).2 fun j => by
    have := hc j; have := pt j; have := pu j; have := hb j; have := hm' j; rw [add_at, sub_at]; omega)
  have ff := fire_fits f1
  have f2 := fire_mk hu ff ((coversL_iff _ _).2 fun j => by have := hc j; have := pt j; rw [add_at, sub_at]; omega) ((rightL_iff _).2 fun j => by
    have := hc j; have := pt j; have := pu j; have := hb j; have := hm' j; simp only [add_at, sub_at]; omega)
  refine ⟨_, run_cons.2 ⟨_, f1, run_cons.2 ⟨_, f2, run_nil.2 ⟨fire_fits f2, rfl⟩⟩⟩, by simp only [add_length, sub_length]; omega, fun j => by simp only [add_at, sub_at]⟩

theorem fire_swap {n : NetL} {m : List Int} {t u : Nat} (hn : netOk n = true) (ht : t < n.trans.length) (hu : u < n.trans.length) (hl : (m.length : Int) = n.places) (hm : rightL m = true) (hb : ∀ j, nth m j ≤ 900000)
    (hc : ∀ j, nth (tranAt n.trans t).pre j + nth (tranAt n.trans u).pre j ≤ nth m j) :
    ∃ z, runL n m [(t : Int), (u : Int)] = (z, 0) ∧ runL n m [(u : Int), (t : Int)] = (z, 0) := by
  obtain ⟨z, h1, h2, h3⟩ := fire_two hn ht hu hl hm hb hc
  obtain ⟨y, k1, k2, k3⟩ := fire_two hn hu ht hl hm hb (fun j => by have := hc j; omega)
  have e : y = z := eq_of_at (by omega) fun j => by rw [h3 j, k3 j]; omega
  exact ⟨z, h1, e ▸ k1⟩

/-! Back again. -/

theorem runL_cons (n : NetL) (m : List Int) (t : Int) (ts : List Int) : runL n m (t :: ts) = if fitsL n m then (if (fireL n m t).2 == 0 then runL n (fireL n m t).1 ts else ([], (fireL n m t).2)) else ([], 2) := rfl

theorem run_append {n : NetL} (a : List Int) : ∀ {m : List Int} (b : List Int), runL n m (a ++ b) = if (runL n m a).2 == 0 then runL n (runL n m a).1 b else ([], (runL n m a).2) := by
  induction a with
  | nil =>
    intro m b
    cases hf : fitsL n m
    · have e : runL n m [] = ([], 2) := by simp [runL, hf]
      rw [e, List.nil_append]
      cases b <;> simp [runL, hf]
    · have e : runL n m [] = (m, 0) := by simp [runL, hf]
      rw [e]; rfl
  | cons t ts ih =>
    intro m b
    rw [List.cons_append, runL_cons, runL_cons]
    cases hf : fitsL n m
    · simp
    · simp only [if_true]
      cases hq : ((fireL n m t).2 == 0)
      · simp [hq]
      · simp only [if_true]
        exact ih b

theorem turn_turn (t : TranL) : turnT (turnT t) = t := rfl
theorem turn_ok (n : NetL) (h : netOk n = true) : netOk (turnL n) = true := by
  simp only [netOk, headOk, Bool.and_eq_true, decide_eq_true_eq] at h ⊢
  refine ⟨⟨h.1.1, by simp [turnL]; exact h.1.2⟩, ?_⟩
  rw [List.all_eq_true] at h ⊢
  intro t ht
  obtain ⟨s, hs, rfl⟩ := List.mem_map.1 ht
  have := h.2 s hs
  simp only [tranOk, tranHead, turnT, turnL, Bool.and_eq_true, List.all_append] at this ⊢
  exact ⟨⟨⟨this.1.1.1, this.1.2⟩, this.1.1.2⟩, this.2.2, this.2.1⟩

theorem fire_back {n : NetL} {m m' : List Int} {t : Int} (h : fireL n m t = (m', 0)) : fireL (turnL n) m' t = (m, 0) := by
  have hf' := fire_fits h
  obtain ⟨k, rfl, hk, hf, hc, hr, rfl⟩ := fire_ok h
  obtain ⟨hn, hlen, hm⟩ := fits_net hf
  obtain ⟨l1, l2⟩ := tran_length hn hk
  have hc' := (coversL_iff _ _).1 hc
  have ea : tranAt (turnL n).trans k = turnT (tranAt n.trans k) := turn_at _ _ hk
  have e : addL (subL (addL (subL m (tranAt n.trans k).pre) (tranAt n.trans k).post) (tranAt n.trans k).post) (tranAt n.trans k).pre = m := by
    refine eq_of_at (by simp only [add_length, sub_length]; omega) fun j => ?_
    simp only [add_at, sub_at]; omega
  have hft : fitsL (turnL n) (addL (subL m (tranAt n.trans k).pre) (tranAt n.trans k).post) = true := by
    obtain ⟨_, q1, q2⟩ := fits_net hf'
    exact fits_mk (turn_ok n hn) q1 q2
  have := fire_mk (n := turnL n) (k := k) (by simpa [turnL] using hk) hft (by
    rw [ea, coversL_iff]; intro j; have := hc' j; simp only [turnT, add_at, sub_at]; omega) (by
    rw [ea]; show rightL (addL (subL _ (tranAt n.trans k).post) (tranAt n.trans k).pre) = true; rw [e]; exact hm)
  rw [this, ea]
  show (addL (subL _ (tranAt n.trans k).post) (tranAt n.trans k).pre, (0 : Int)) = _
  rw [e]

theorem run_back {n : NetL} (seq : List Int) : ∀ {m x : List Int}, runL n m seq = (x, 0) → runL (turnL n) x seq.reverse = (m, 0) := by
  induction seq with
  | nil =>
    intro m x h
    obtain ⟨hf, rfl⟩ := run_nil.1 h
    obtain ⟨hn, q1, q2⟩ := fits_net hf
    exact run_nil.2 ⟨fits_mk (turn_ok n hn) q1 q2, rfl⟩
  | cons t ts ih =>
    intro m x h
    obtain ⟨y, h1, h2⟩ := run_cons.1 h
    have h3 := ih h2
    rw [List.reverse_cons, run_append, h3]
    have h4 := fire_back h1
    exact run_cons.2 ⟨_, h4, run_nil.2 ⟨fire_fits h4, rfl⟩⟩

/-! Who can, and who fires. -/

theorem can_mem (n : NetL) (m : List Int) (k : Nat) (t : Int) : t ∈ canTo n m k ↔ ∃ j : Nat, t = j ∧ j < k ∧ coversL m (tranAt n.trans j).pre = true := by
  simp only [canTo, List.mem_map, List.mem_filter, List.mem_range]
  exact ⟨fun ⟨j, ⟨h1, h2⟩, h3⟩ => ⟨j, h3.symm, h1, h2⟩, fun ⟨j, h3, h1, h2⟩ => ⟨j, ⟨h1, h2⟩, h3.symm⟩⟩

theorem can_fire {n : NetL} {m : List Int} (hf : fitsL n m = true) (t : Int) : (canTo n m n.trans.length).contains t = ((fireL n m t).2 != 3) := by
  rw [Bool.eq_iff_iff, List.contains_iff_mem, can_mem, bne_iff_ne]
  constructor
  · rintro ⟨j, rfl, hj, hc⟩
    unfold fireL
    rw [hf, decide_eq_true (show (0 : Int) ≤ j by omega), decide_eq_true (show (j : Int) < n.trans.length by omega), Int.toNat_natCast, hc]
    simp only [Bool.and_self, if_true]
    split <;> simp
  · intro h
    unfold fireL at h
    rw [hf] at h
    cases hc : (decide (0 ≤ t) && decide (t < n.trans.length) && coversL m (tranAt n.trans t.toNat).pre)
    · simp [hc] at h
    · simp only [Bool.and_eq_true, decide_eq_true_eq] at hc
      obtain ⟨⟨h0, h1⟩, h2⟩ := hc
      obtain ⟨k, rfl⟩ := Int.eq_ofNat_of_zero_le h0
      rw [Int.toNat_natCast] at h2
      exact ⟨k, rfl, by omega, h2⟩

theorem not_fits {n : NetL} {m : List Int} (hf : fitsL n m = false) (t : Int) : fireL n m t = ([], 2) := by simp [fireL, hf]

end Go.Proofs.Ytakgppoeikcepaa

/- Plain words for all marks that a net comes to. -/
namespace Go.Proofs.Ytakgppoeikcepaa
set_option linter.unusedVariables false
set_option maxRecDepth 4000

/-- An arc: from, by, to. -/
structure ArcL where
  frm : Nat
  tran : Nat
  dst : Nat

/-- All marks, and how. -/
structure SpaceL where
  marks : List (List Int)
  arcs : List ArcL

/-- Where a mark is found, if it is. -/
def findM (ms : List (List Int)) (x : List Int) : Option Nat := ms.findIdx? (· == x)
def markAt (ms : List (List Int)) (k : Nat) : List Int := ms.getD k []

theorem findM_some {ms : List (List Int)} {x : List Int} {k : Nat} (h : findM ms x = some k) : k < ms.length ∧ markAt ms k = x := by
  obtain ⟨hk, h1, _⟩ := List.findIdx?_eq_some_iff_getElem.1 h
  refine ⟨hk, ?_⟩
  rw [markAt, List.getD_eq_getElem?_getD, List.getElem?_eq_getElem hk]
  simpa using h1
theorem findM_none {ms : List (List Int)} {x : List Int} (h : findM ms x = none) : x ∉ ms := by
  intro hx
  have := List.findIdx?_eq_none_iff.1 h x hx
  simp at this
theorem markAt_mem {ms : List (List Int)} {k : Nat} (h : k < ms.length) : markAt ms k ∈ ms := by
  rw [markAt, List.getD_eq_getElem?_getD, List.getElem?_eq_getElem h]; exact List.getElem_mem h
theorem markAt_append {ms ns : List (List Int)} {k : Nat} (h : k < ms.length) : markAt (ms ++ ns) k = markAt ms k := by
  rw [markAt, markAt, List.getD_eq_getElem?_getD, List.getD_eq_getElem?_getD, List.getElem?_append_left h]
theorem markAt_last (ms : List (List Int)) (x : List Int) : markAt (ms ++ [x]) ms.length = x := by
  rw [markAt, List.getD_eq_getElem?_getD, List.getElem?_append_right (Nat.le_refl _)]; simp

/-- A transition is tried at a mark. -/
def tryT (n : NetL) (most : Nat) (k : Nat) (s : SpaceL) (t : Nat) : Option SpaceL :=
  if (fireL n (markAt s.marks k) t).2 == 3 then some s
  else if (fireL n (markAt s.marks k) t).2 == 0 then
    match findM s.marks (fireL n (markAt s.marks k) t).1 with
    | some g => some ⟨s.marks, s.arcs ++ [⟨k, t, g⟩]⟩
    | none => if s.marks.length = most then none else some ⟨s.marks ++ [(fireL n (markAt s.marks k) t).1], s.arcs ++ [⟨k, t, s.marks.length⟩]⟩
  else none

/-- The first t transitions are tried at mark k. -/
def rowTo (n : NetL) (most k : Nat) (s : SpaceL) : Nat → Option SpaceL
  | 0 => some s
  | t + 1 => (rowTo n most k s t).bind fun s' => tryT n most k s' t

/-- The first k marks are done. -/
def graphTo (n : NetL) (m : List Int) (most : Nat) : Nat → Option SpaceL
  | 0 => some ⟨[m], []⟩
  | k + 1 => (graphTo n m most k).bind fun s => if k < s.marks.length then rowTo n most k s n.trans.length else some s

def graphOk (n : NetL) (m : List Int) (most : Int) : Bool := decide (1 ≤ most) && decide (most ≤ 300) && fitsL n m
def graphL (n : NetL) (m : List Int) (most : Int) : SpaceL × Int :=
  if graphOk n m most then
    match graphTo n m most.toNat most.toNat with
    | some s => (s, 0)
    | none => (⟨[], []⟩, 4)
  else (⟨[], []⟩, 2)

/-- The first arc to a mark. -/
def firstTo (l : List ArcL) (g : Nat) : Option ArcL := l.find? fun a => a.dst == g

/-- What holds while marks are found: k marks are done, and t transitions of mark k. -/
structure Found (n : NetL) (m : List Int) (most k t : Nat) (s : SpaceL) : Prop where
  most_le : s.marks.length ≤ most
  pos : 0 < s.marks.length
  first : markAt s.marks 0 = m
  nodup : s.marks.Nodup
  fits : ∀ x ∈ s.marks, fitsL n x = true
  sound : ∀ a ∈ s.arcs, a.frm < s.marks.length ∧ a.dst < s.marks.length ∧ a.tran < n.trans.length ∧ a.frm ≤ k ∧ fireL n (markAt s.marks a.frm) a.tran = (markAt s.marks a.dst, 0)
  whole : ∀ f j, f < s.marks.length → j < n.trans.length → (f < k ∨ f = k ∧ j < t) → (fireL n (markAt s.marks f) j).2 = 3 ∨ ∃ g, (⟨f, j, g⟩ : ArcL) ∈ s.arcs
  par : ∀ g, 0 < g → g < s.marks.length → ∃ a, firstTo s.arcs g = some a ∧ a.frm < g
  mono : ∀ g h a b, 0 < g → g ≤ h → firstTo s.arcs g = some a → firstTo s.arcs h = some b → h < s.marks.length → a.frm ≤ b.frm
  early : ∀ a b, a ∈ s.arcs → firstTo s.arcs a.dst = some b → b.frm ≤ a.frm

theorem firstTo_append {l : List ArcL} {g : Nat} {a b : ArcL} (h : firstTo l g = some a) : firstTo (l ++ [b]) g = some a := by
  unfold firstTo at *; rw [List.find?_append, h]; rfl
theorem firstTo_new {l : List ArcL} {g : Nat} {b : ArcL} (h : firstTo l g = none) (hb : b.dst = g) : firstTo (l ++ [b]) g = some b := by
  unfold firstTo at *; rw [List.find?_append, h]; simp [hb]
theorem firstTo_other {l : List ArcL} {g : Nat} {b : ArcL} (hb : b.dst ≠ g) : firstTo (l ++ [b]) g = firstTo l g := by
  unfold firstTo; rw [List.find?_append]
  cases l.find? (fun a => a.dst == g) with
  | some a => rfl
  | none => simp [hb]
theorem firstTo_mem {l : List ArcL} {g : Nat} {a : ArcL} (h : firstTo l g = some a) : a ∈ l ∧ a.dst = g := by
  unfold firstTo at h
  exact ⟨List.mem_of_find?_eq_some h, by simpa using List.find?_some h⟩
theorem firstTo_none {l : List ArcL} {g : Nat} (h : ∀ a ∈ l, a.dst ≠ g) : firstTo l g = none := by
  unfold firstTo; rw [List.find?_eq_none]; intro a ha; simpa using h a ha

theorem Found.start {n : NetL} {m : List Int} {most : Nat} (hm : 1 ≤ most) (hf : fitsL n m = true) : Found n m most 0 0 ⟨[m], []⟩ where
  most_le := hm
  pos := Nat.one_pos
  first := rfl
  nodup := by simp
  fits := by simp [hf]
  sound := by simp
  whole := by intro f j h1 h2 h3; omega
  par := by intro g h1 h2; simp at h2; omega
  mono := by intro g h a b h1 h2 h3; simp [firstTo] at h3
  early := by simp

/-- One more arc, to a mark that was there. -/
theorem Found.arc {n : NetL} {m : List Int} {most k t g : Nat} {s : SpaceL} (h : Found n m most k t s) (hk : k < s.marks.length) (ht : t < n.trans.length) (hg : g < s.marks.length)
    (hf : fireL n (markAt s.marks k) t = (markAt s.marks g, 0)) : Found n m most k (t + 1) ⟨s.marks, s.arcs ++ [⟨k, t, g⟩]⟩ where
  most_le := h.most_le
  pos := h.pos
  first := h.first
  nodup := h.nodup
  fits := h.fits
  sound := by
    intro a ha
    rcases List.mem_append.1 ha with ha | ha
    · exact h.sound a ha
    · rw [List.mem_singleton] at ha; subst ha; exact ⟨hk, hg, ht, Nat.le_refl _, hf⟩
  whole := by
    intro f j h1 h2 h3
    by_cases e : f = k ∧ j = t
    · obtain ⟨rfl, rfl⟩ := e; exact .inr ⟨g, List.mem_append_right _ (List.mem_singleton.2 rfl)⟩
    · rcases h.whole f j h1 h2 (by omega) with h4 | ⟨g', h4⟩
      · exact .inl h4
      · exact .inr ⟨g', List.mem_append_left _ h4⟩
  par := by
    intro g' h1 h2
    obtain ⟨a, h3, h4⟩ := h.par g' h1 h2
    exact ⟨a, firstTo_append h3, h4⟩
  mono := by
    intro g1 g2 a b h1 h2 h3 h4 h5
    obtain ⟨a', h6, _⟩ := h.par g1 h1 (Nat.lt_of_le_of_lt h2 h5)
    obtain ⟨b', h7, _⟩ := h.par g2 (by omega) h5
    rw [firstTo_append h6] at h3
    rw [firstTo_append h7] at h4
    injection h3 with h3
    injection h4 with h4
    subst h3 h4
    exact h.mono g1 g2 _ _ h1 h2 h6 h7 h5
  early := by
    intro a b ha hb
    rcases List.mem_append.1 ha with ha | ha
    · cases he : firstTo s.arcs a.dst with
      | some c => rw [firstTo_append he] at hb; injection hb with hb; subst hb; exact h.early a _ ha he
      | none =>
        unfold firstTo at he
        rw [List.find?_eq_none] at he
        exact absurd (he a ha) (by simp)
    · rw [List.mem_singleton] at ha
      subst ha
      rcases List.mem_append.1 (firstTo_mem hb).1 with hb' | hb'
      · exact (h.sound b hb').2.2.2.1
      · rw [List.mem_singleton] at hb'; subst hb'; exact Nat.le_refl _

/-- One more arc, to a new mark. -/
theorem Found.new {n : NetL} {m x : List Int} {most k t : Nat} {s : SpaceL} (h : Found n m most k t s) (hk : k < s.marks.length) (ht : t < n.trans.length) (hx : x ∉ s.marks) (hlt : s.marks.length < most)
    (hf : fireL n (markAt s.marks k) t = (x, 0)) : Found n m most k (t + 1) ⟨s.marks ++ [x], s.arcs ++ [⟨k, t, s.marks.length⟩]⟩ where
  most_le := by simp; omega
  pos := by simp
  first := by show markAt (s.marks ++ [x]) 0 = m; rw [markAt_append h.pos]; exact h.first
  nodup := by
    show (s.marks ++ [x]).Nodup
    rw [List.nodup_append]
    exact ⟨h.nodup, by simp, fun a ha b hb e => by rw [List.mem_singleton] at hb; subst hb; subst e; exact hx ha⟩
  fits := by
    intro y hy
    rcases List.mem_append.1 hy with hy | hy
    · exact h.fits y hy
    · rw [List.mem_singleton] at hy; subst hy; exact fire_fits hf
  sound := by
    intro a ha
    have hl : (s.marks ++ [x]).length = s.marks.length + 1 := by simp
    rcases List.mem_append.1 ha with ha | ha
    · obtain ⟨h1, h2, h3, h4, h5⟩ := h.sound a ha
      show a.frm < (s.marks ++ [x]).length ∧ a.dst < (s.marks ++ [x]).length ∧ a.tran < n.trans.length ∧ a.frm ≤ k ∧ fireL n (markAt (s.marks ++ [x]) a.frm) a.tran = (markAt (s.marks ++ [x]) a.dst, 0)
      rw [markAt_append h1, markAt_append h2, hl]
      exact ⟨by omega, by omega, h3, h4, h5⟩
    · rw [List.mem_singleton] at ha
      subst ha
      show k < (s.marks ++ [x]).length ∧ s.marks.length < (s.marks ++ [x]).length ∧ t < n.trans.length ∧ k ≤ k ∧ fireL n (markAt (s.marks ++ [x]) k) t = (markAt (s.marks ++ [x]) s.marks.length, 0)
      rw [markAt_append hk, markAt_last, hl]
      exact ⟨by omega, by omega, ht, Nat.le_refl _, hf⟩
  whole := by
    intro f j h1 h2 h3
    show (fireL n (markAt (s.marks ++ [x]) f) j).2 = 3 ∨ ∃ g, _ ∈ s.arcs ++ _
    have hfl : f < s.marks.length := by omega
    rw [markAt_append hfl]
    by_cases e : f = k ∧ j = t
    · obtain ⟨rfl, rfl⟩ := e; exact .inr ⟨s.marks.length, List.mem_append_right _ (List.mem_singleton.2 rfl)⟩
    · rcases h.whole f j hfl h2 (by omega) with h4 | ⟨g', h4⟩
      · exact .inl h4
      · exact .inr ⟨g', List.mem_append_left _ h4⟩
  par := by
    intro g h1 h2
    have hl : (s.marks ++ [x]).length = s.marks.length + 1 := by simp
    by_cases hg : g < s.marks.length
    · obtain ⟨a, h3, h4⟩ := h.par g h1 hg
      exact ⟨a, firstTo_append h3, h4⟩
    · have e : g = s.marks.length := by simp only [hl] at h2; omega
      exact ⟨⟨k, t, s.marks.length⟩, firstTo_new (firstTo_none fun a ha => by have := (h.sound a ha).2.1; omega) e.symm, by show k < g; omega⟩
  mono := by
    intro g1 g2 a b h1 h2 h3 h4 h5
    have hl : (s.marks ++ [x]).length = s.marks.length + 1 := by simp
    have hno : firstTo s.arcs s.marks.length = none := firstTo_none fun a ha => by have := (h.sound a ha).2.1; omega
    by_cases hg2 : g2 < s.marks.length
    · obtain ⟨a', h6, _⟩ := h.par g1 h1 (Nat.lt_of_le_of_lt h2 hg2)
      obtain ⟨b', h7, _⟩ := h.par g2 (by omega) hg2
      rw [firstTo_append h6] at h3
      rw [firstTo_append h7] at h4
      injection h3 with h3
      injection h4 with h4
      subst h3 h4
      exact h.mono g1 g2 _ _ h1 h2 h6 h7 hg2
    · have e : g2 = s.marks.length := by simp only [hl] at h5; omega
      subst e
      rw [firstTo_new hno rfl] at h4
      injection h4 with h4
      subst h4
      rcases List.mem_append.1 (firstTo_mem h3).1 with hb' | hb'
      · exact (h.sound a hb').2.2.2.1
      · rw [List.mem_singleton] at hb'; subst hb'; exact Nat.le_refl _
  early := by
    intro a b ha hb
    rcases List.mem_append.1 ha with ha | ha
    · cases he : firstTo s.arcs a.dst with
      | some c => rw [firstTo_append he] at hb; injection hb with hb; subst hb; exact h.early a _ ha he
      | none =>
        unfold firstTo at he
        rw [List.find?_eq_none] at he
        exact absurd (he a ha) (by simp)
    · rw [List.mem_singleton] at ha
      subst ha
      rcases List.mem_append.1 (firstTo_mem hb).1 with hb' | hb'
      · exact (h.sound b hb').2.2.2.1
      · rw [List.mem_singleton] at hb'; subst hb'; exact Nat.le_refl _

end Go.Proofs.Ytakgppoeikcepaa

/- Plain facts on all marks that a net comes to. -/
namespace Go.Proofs.Ytakgppoeikcepaa
set_option linter.unusedVariables false
set_option maxRecDepth 4000

/-- What is found stays: more marks may come behind. -/
def Longer (s s' : SpaceL) : Prop := ∃ ms l, s'.marks = s.marks ++ ms ∧ s'.arcs = s.arcs ++ l
theorem Longer.refl (s : SpaceL) : Longer s s := ⟨[], [], by simp, by simp⟩
theorem Longer.trans {a b c : SpaceL} (h : Longer a b) (k : Longer b c) : Longer a c := by
  obtain ⟨m1, l1, e1, e2⟩ := h
  obtain ⟨m2, l2, e3, e4⟩ := k
  exact ⟨m1 ++ m2, l1 ++ l2, by rw [e3, e1, List.append_assoc], by rw [e4, e2, List.append_assoc]⟩
theorem Longer.le {a b : SpaceL} (h : Longer a b) : a.marks.length ≤ b.marks.length := by
  obtain ⟨m1, l1, e1, e2⟩ := h; rw [e1]; simp

theorem Found.skip {n : NetL} {m : List Int} {most k t : Nat} {s : SpaceL} (h : Found n m most k t s) (hf : (fireL n (markAt s.marks k) t).2 = 3) : Found n m most k (t + 1) s := by
  have hw : ∀ f j, f < s.marks.length → j < n.trans.length → (f < k ∨ f = k ∧ j < t + 1) → (fireL n (markAt s.marks f) j).2 = 3 ∨ ∃ g, (⟨f, j, g⟩ : ArcL) ∈ s.arcs := by
    intro f j h1 h2 h3
    by_cases e : f = k ∧ j = t
    · obtain ⟨rfl, rfl⟩ := e; exact .inl hf
    · exact h.whole f j h1 h2 (by omega)
  exact { h with whole := hw }

theorem tryT_found {n : NetL} {m : List Int} {most k t : Nat} {s s' : SpaceL} (h : Found n m most k t s) (hk : k < s.marks.length) (ht : t < n.trans.length) (e : tryT n most k s t = some s') :
    Found n m most k (t + 1) s' ∧ Longer s s' := by
  unfold tryT at e
  by_cases h3 : (fireL n (markAt s.marks k) t).2 = 3
  · rw [if_pos (by simp [h3])] at e
    injection e with e
    subst e
    exact ⟨h.skip h3, Longer.refl _⟩
  · rw [if_neg (by simp [h3])] at e
    by_cases h0 : (fireL n (markAt s.marks k) t).2 = 0
    · rw [if_pos (by simp [h0])] at e
      cases hf : findM s.marks (fireL n (markAt s.marks k) t).1 with
      | some g =>
        rw [hf] at e
        injection e with e
        subst e
        obtain ⟨hg, he⟩ := findM_some hf
        exact ⟨h.arc hk ht hg (by rw [he, ← h0]), [], [_], by simp, rfl⟩
      | none =>
        rw [hf] at e
        simp only at e
        by_cases hm : s.marks.length = most
        · rw [if_pos hm] at e; cases e
        · rw [if_neg hm] at e
          injection e with e
          subst e
          exact ⟨h.new hk ht (findM_none hf) (by have := h.most_le; omega) (by rw [← h0]), [_], [_], rfl, rfl⟩
    · rw [if_neg (by simp [h0])] at e; cases e

theorem rowTo_found {n : NetL} {m : List Int} {most k : Nat} {s : SpaceL} (h : Found n m most k 0 s) (hk : k < s.marks.length) : ∀ (t : Nat) {s' : SpaceL}, t ≤ n.trans.length → rowTo n most k s t = some s' →
    Found n m most k t s' ∧ Longer s s' := by
  intro t
  induction t with
  | zero => intro s' _ e; injection e with e; subst e; exact ⟨h, Longer.refl _⟩
  | succ t ih =>
    intro s' ht e
    simp only [rowTo, Option.bind_eq_some_iff] at e
    obtain ⟨s1, e1, e2⟩ := e
    obtain ⟨h1, l1⟩ := ih (by omega) e1
    obtain ⟨h2, l2⟩ := tryT_found h1 (Nat.lt_of_lt_of_le hk l1.le) (by omega) e2
    exact ⟨h2, l1.trans l2⟩

theorem Found.next {n : NetL} {m : List Int} {most k : Nat} {s : SpaceL} (h : Found n m most k n.trans.length s) : Found n m most (k + 1) 0 s :=
  { h with
    sound := fun a ha => by obtain ⟨h1, h2, h3, h4, h5⟩ := h.sound a ha; exact ⟨h1, h2, h3, by omega, h5⟩
    whole := fun f j h1 h2 h3 => h.whole f j h1 h2 (by omega) }
theorem Found.past {n : NetL} {m : List Int} {most k : Nat} {s : SpaceL} (h : Found n m most k 0 s) (hk : s.marks.length ≤ k) : Found n m most (k + 1) 0 s :=
  { h with
    sound := fun a ha => by obtain ⟨h1, h2, h3, h4, h5⟩ := h.sound a ha; exact ⟨h1, h2, h3, by omega, h5⟩
    whole := fun f j h1 h2 h3 => h.whole f j h1 h2 (by omega) }

theorem graphTo_found {n : NetL} {m : List Int} {most : Nat} (hm : 1 ≤ most) (hf : fitsL n m = true) : ∀ (k : Nat) {s : SpaceL}, graphTo n m most k = some s → Found n m most k 0 s := by
  intro k
  induction k with
  | zero => intro s e; injection e with e; subst e; exact Found.start hm hf
  | succ k ih =>
    intro s e
    simp only [graphTo, Option.bind_eq_some_iff] at e
    obtain ⟨s1, e1, e2⟩ := e
    have h1 := ih e1
    by_cases hk : k < s1.marks.length
    · rw [if_pos hk] at e2
      exact ((rowTo_found h1 hk _ (Nat.le_refl _) e2).1).next
    · rw [if_neg hk] at e2
      injection e2 with e2
      subst e2
      exact h1.past (by omega)

/-- All marks are found, and all firings. -/
def Whole (n : NetL) (m : List Int) (s : SpaceL) : Prop := ∃ most k, Found n m most k 0 s ∧ s.marks.length ≤ k

theorem graphL_ok {n : NetL} {m : List Int} {most : Int} {s : SpaceL} (h : graphL n m most = (s, 0)) : 1 ≤ most ∧ most ≤ 300 ∧ fitsL n m = true ∧ graphTo n m most.toNat most.toNat = some s ∧ Found n m most.toNat most.toNat 0 s := by
  unfold graphL at h
  cases ho : graphOk n m most
  · rw [ho] at h; simp at h
  · rw [ho] at h
    simp only [if_true] at h
    simp only [graphOk, Bool.and_eq_true, decide_eq_true_eq] at ho
    obtain ⟨⟨h1, h2⟩, h3⟩ := ho
    cases hg : graphTo n m most.toNat most.toNat with
    | none => rw [hg] at h; simp at h
    | some s' =>
      rw [hg] at h
      simp only [Prod.mk.injEq, and_true] at h
      subst h
      exact ⟨h1, h2, h3, rfl, graphTo_found (by omega) h3 _ hg⟩
theorem graphL_whole {n : NetL} {m : List Int} {most : Int} {s : SpaceL} (h : graphL n m most = (s, 0)) : Whole n m s := by
  obtain ⟨_, _, _, _, hF⟩ := graphL_ok h
  exact ⟨_, _, hF, hF.most_le⟩
theorem graphL_err {n : NetL} {m : List Int} {most : Int} (h : (graphL n m most).2 ≠ 0) : (graphL n m most).1 = ⟨[], []⟩ := by
  unfold graphL at *
  split
  · split
    · simp_all
    · rfl
  · rfl

/-- A firing from a mark that is there comes to one that is there; or it cannot be done. -/
theorem Whole.fire {n : NetL} {m : List Int} {s : SpaceL} (h : Whole n m s) {f : Nat} (hf : f < s.marks.length) (t : Int) :
    (fireL n (markAt s.marks f) t).2 = 3 ∨ ∃ (j : Nat) (g : Nat), t = j ∧ (⟨f, j, g⟩ : ArcL) ∈ s.arcs ∧ g < s.marks.length ∧ fireL n (markAt s.marks f) t = (markAt s.marks g, 0) := by
  obtain ⟨most, k, hF, hk⟩ := h
  by_cases ht : 0 ≤ t ∧ t < n.trans.length
  · obtain ⟨j, rfl⟩ := Int.eq_ofNat_of_zero_le ht.1
    rcases hF.whole f j hf (by omega) (by omega) with h3 | ⟨g, hg⟩
    · exact .inl h3
    · obtain ⟨_, q2, _, _, q5⟩ := hF.sound _ hg
      exact .inr ⟨j, g, rfl, hg, q2, q5⟩
  · left
    have hfit := hF.fits _ (markAt_mem hf)
    unfold fireL
    rw [hfit]
    have : (decide (0 ≤ t) && decide (t < n.trans.length)) = false := by
      rw [Bool.and_eq_false_iff, decide_eq_false_iff_not, decide_eq_false_iff_not]; omega
    rw [this]; simp

/-- Whoever is there goes nowhere else. -/
theorem Whole.run {n : NetL} {m : List Int} {s : SpaceL} (h : Whole n m s) (seq : List Int) : ∀ {f : Nat}, f < s.marks.length →
    (runL n (markAt s.marks f) seq).2 = 3 ∨ ∃ g, g < s.marks.length ∧ runL n (markAt s.marks f) seq = (markAt s.marks g, 0) := by
  induction seq with
  | nil =>
    intro f hf
    obtain ⟨most, k, hF, hk⟩ := h
    exact .inr ⟨f, hf, by rw [runL, hF.fits _ (markAt_mem hf)]; rfl⟩
  | cons t ts ih =>
    intro f hf
    have hfit : fitsL n (markAt s.marks f) = true := by obtain ⟨most, k, hF, hk⟩ := h; exact hF.fits _ (markAt_mem hf)
    rw [runL, hfit]
    rcases h.fire hf t with h3 | ⟨j, g, rfl, _, hg, e⟩
    · left; rw [h3]; simp
    · rw [e]
      simp only [BEq.rfl, if_true]
      exact ih hg
theorem Whole.here {n : NetL} {m : List Int} {s : SpaceL} (h : Whole n m s) : 0 < s.marks.length ∧ markAt s.marks 0 = m := by
  obtain ⟨most, k, hF, hk⟩ := h; exact ⟨hF.pos, hF.first⟩
theorem Whole.nodup {n : NetL} {m : List Int} {s : SpaceL} (h : Whole n m s) : s.marks.Nodup := by
  obtain ⟨most, k, hF, hk⟩ := h; exact hF.nodup
theorem markAt_inj {ms : List (List Int)} (h : ms.Nodup) {i j : Nat} (hi : i < ms.length) (hj : j < ms.length) (e : markAt ms i = markAt ms j) : i = j := by
  rw [markAt, markAt, List.getD_eq_getElem?_getD, List.getD_eq_getElem?_getD, List.getElem?_eq_getElem hi, List.getElem?_eq_getElem hj] at e
  have e' : ms[i] = ms[j] := by simpa using e
  have hp := List.pairwise_iff_getElem.1 h
  rcases Nat.lt_trichotomy i j with q | q | q
  · exact absurd e' (hp i j hi hj q)
  · exact q
  · exact absurd e'.symm (hp j i hj hi q)

/-- How far a mark is from the first one, and how it is come to. -/
def pathTo (l : List ArcL) : Nat → Nat → List Int
  | 0, _ => []
  | fuel + 1, g => if g = 0 then [] else match firstTo l g with
    | some a => pathTo l fuel a.frm ++ [(a.tran : Int)]
    | none => []
def pathL (s : SpaceL) (g : Nat) : List Int := pathTo s.arcs g g

theorem pathTo_enough {n : NetL} {m : List Int} {most k t : Nat} {s : SpaceL} (h : Found n m most k t s) : ∀ (f g : Nat), g ≤ f → g < s.marks.length → pathTo s.arcs f g = pathL s g := by
  intro f
  induction f using Nat.strongRecOn with
  | ind f ih =>
    intro g hgf hg
    unfold pathL
    cases g with
    | zero => cases f <;> rfl
    | succ g =>
      cases f with
      | zero => omega
      | succ f =>
        obtain ⟨a, h1, h2⟩ := h.par (g + 1) (by omega) hg
        simp only [pathTo, h1, Nat.add_eq_zero_iff, Nat.succ_ne_self, and_false, if_false]
        rw [ih f (by omega) a.frm (by omega) (by omega)]
        congr 1
        by_cases e : g = f
        · subst e; exact (ih g (by omega) a.frm (by omega) (by omega)).symm
        · exact (ih g (by omega) a.frm (by omega) (by omega)).symm

theorem pathL_zero (s : SpaceL) : pathL s 0 = [] := rfl
theorem pathL_step {n : NetL} {m : List Int} {most k t : Nat} {s : SpaceL} (h : Found n m most k t s) {g : Nat} (h0 : 0 < g) (hg : g < s.marks.length) {a : ArcL} (ha : firstTo s.arcs g = some a) :
    pathL s g = pathL s a.frm ++ [(a.tran : Int)] := by
  obtain ⟨a', h1, h2⟩ := h.par g h0 hg
  rw [ha] at h1
  injection h1 with h1
  subst h1
  unfold pathL
  cases g with
  | zero => omega
  | succ g =>
    simp only [pathTo, ha, Nat.add_eq_zero_iff, and_false, if_false, Nat.one_ne_zero]
    rw [pathTo_enough h g a.frm (by omega) (by omega)]
    rfl

/-- A path leads where it says. -/
theorem Whole.path {n : NetL} {m : List Int} {s : SpaceL} (h : Whole n m s) : ∀ g, g < s.marks.length → runL n m (pathL s g) = (markAt s.marks g, 0) := by
  have h' := h
  obtain ⟨most, k, hF, hk⟩ := h
  intro g
  induction g using Nat.strongRecOn with
  | ind g ih =>
    intro hg
    by_cases h0 : g = 0
    · subst h0
      rw [pathL_zero, hF.first, runL]
      have := hF.fits _ (markAt_mem hF.pos)
      rw [hF.first] at this
      rw [this]; rfl
    · obtain ⟨a, h1, h2⟩ := hF.par g (by omega) hg
      rw [pathL_step hF (by omega) hg h1, run_append, ih a.frm h2 (by omega)]
      simp only [BEq.rfl, if_true]
      obtain ⟨q1, q2, q3, q4, q5⟩ := hF.sound a (firstTo_mem h1).1
      rw [run_cons]
      refine ⟨_, q5, ?_⟩
      rw [(firstTo_mem h1).2, run_nil]
      exact ⟨hF.fits _ (markAt_mem hg), rfl⟩

theorem depth_mono {n : NetL} {m : List Int} {most k t : Nat} {s : SpaceL} (h : Found n m most k t s) : ∀ j, ∀ i, i ≤ j → j < s.marks.length → (pathL s i).length ≤ (pathL s j).length := by
  intro j
  induction j using Nat.strongRecOn with
  | ind j ih =>
    intro i hij hj
    by_cases h0 : i = 0
    · subst h0; simp [pathL_zero]
    · obtain ⟨a, h1, h2⟩ := h.par i (by omega) (by omega)
      obtain ⟨b, h3, h4⟩ := h.par j (by omega) hj
      rw [pathL_step h (by omega) (by omega) h1, pathL_step h (by omega) hj h3]
      simp only [List.length_append, List.length_singleton]
      have := ih b.frm h4 a.frm (h.mono i j a b (by omega) hij h1 h3 hj) (by omega)
      omega
theorem depth_arc {n : NetL} {m : List Int} {most k t : Nat} {s : SpaceL} (h : Found n m most k t s) {a : ArcL} (ha : a ∈ s.arcs) : (pathL s a.dst).length ≤ (pathL s a.frm).length + 1 := by
  obtain ⟨q1, q2, _, _, _⟩ := h.sound a ha
  by_cases h0 : a.dst = 0
  · rw [h0]; simp [pathL_zero]
  · obtain ⟨b, h1, h2⟩ := h.par a.dst (by omega) q2
    rw [pathL_step h (by omega) q2 h1]
    simp only [List.length_append, List.length_singleton]
    have := depth_mono h a.frm b.frm (h.early a b ha h1) q1
    omega

/-- No run that is shorter leads there. -/
theorem Whole.short {n : NetL} {m : List Int} {s : SpaceL} (h : Whole n m s) (seq : List Int) : ∀ {f g : Nat}, f < s.marks.length → g < s.marks.length → runL n (markAt s.marks f) seq = (markAt s.marks g, 0) →
    (pathL s g).length ≤ (pathL s f).length + seq.length := by
  induction seq with
  | nil =>
    intro f g hf hg e
    obtain ⟨_, e2⟩ := run_nil.1 e
    rw [markAt_inj h.nodup hg hf e2]
    simp
  | cons t ts ih =>
    intro f g hf hg e
    obtain ⟨x, e1, e2⟩ := run_cons.1 e
    rcases h.fire hf t with h3 | ⟨j, q, rfl, ha, hq, e3⟩
    · rw [e1] at h3; cases h3
    · rw [e1] at e3
      injection e3 with e3 _
      subst e3
      have h1 := ih hq hg e2
      obtain ⟨most, k, hF, hk⟩ := h
      have h2 := depth_arc hF ha
      simp only [List.length_cons] at *
      omega

end Go.Proofs.Ytakgppoeikcepaa

/- Plain facts on all marks that a net comes to: more room. -/
namespace Go.Proofs.Ytakgppoeikcepaa
set_option linter.unusedVariables false
set_option maxRecDepth 4000

theorem tryT_len {n : NetL} {most k t : Nat} {s s' : SpaceL} (e : tryT n most k s t = some s') : s.marks.length ≤ s'.marks.length := by
  unfold tryT at e
  split at e
  · injection e with e; subst e; exact Nat.le_refl _
  · split at e
    · split at e
      · injection e with e; subst e; exact Nat.le_refl _
      · split at e
        · cases e
        · injection e with e; subst e; simp
    · cases e

theorem try_cut {n : NetL} {most more k t : Nat} {s s' : SpaceL} (hl : s.marks.length ≤ more) (e : tryT n most k s t = some s') : tryT n more k s t = if s'.marks.length ≤ more then some s' else none := by
  unfold tryT at e ⊢
  split at e
  · rename_i h
    rw [if_pos h]
    injection e with e; subst e; rw [if_pos hl]
  · rename_i h
    rw [if_neg h]
    split at e
    · rename_i h2
      rw [if_pos h2]
      split at e
      · rename_i g hg
        injection e with e; subst e; rw [if_pos hl]
      · rename_i hg
        split at e
        · cases e
        · injection e with e
          subst e
          simp only [List.length_append, List.length_singleton]
          by_cases h3 : s.marks.length = more
          · rw [if_pos h3, if_neg (by omega)]
          · rw [if_neg h3, if_pos (by omega)]
    · cases e

theorem rowTo_len {n : NetL} {most k : Nat} {s : SpaceL} : ∀ (t : Nat) {s' : SpaceL}, rowTo n most k s t = some s' → s.marks.length ≤ s'.marks.length := by
  intro t
  induction t with
  | zero => intro s' e; injection e with e; subst e; exact Nat.le_refl _
  | succ t ih =>
    intro s' e
    simp only [rowTo, Option.bind_eq_some_iff] at e
    obtain ⟨s1, e1, e2⟩ := e
    exact Nat.le_trans (ih e1) (tryT_len e2)

theorem row_cut {n : NetL} {most more k : Nat} {s : SpaceL} (hl : s.marks.length ≤ more) : ∀ (t : Nat) {s' : SpaceL}, rowTo n most k s t = some s' → rowTo n more k s t = if s'.marks.length ≤ more then some s' else none := by
  intro t
  induction t with
  | zero => intro s' e; injection e with e; subst e; rw [if_pos hl]; rfl
  | succ t ih =>
    intro s' e
    simp only [rowTo, Option.bind_eq_some_iff] at e
    obtain ⟨s1, e1, e2⟩ := e
    rw [rowTo, ih e1]
    by_cases h1 : s1.marks.length ≤ more
    · rw [if_pos h1]; exact try_cut h1 e2
    · rw [if_neg h1, if_neg (by have := tryT_len e2; omega)]; rfl

theorem graph_cut {n : NetL} {m : List Int} {most more : Nat} (h1 : 1 ≤ more) : ∀ (k : Nat) {s : SpaceL}, graphTo n m most k = some s → graphTo n m more k = if s.marks.length ≤ more then some s else none := by
  intro k
  induction k with
  | zero => intro s e; injection e with e; subst e; rw [if_pos (by simpa using h1)]; rfl
  | succ k ih =>
    intro s e
    simp only [graphTo, Option.bind_eq_some_iff] at e
    obtain ⟨s1, e1, e2⟩ := e
    rw [graphTo, ih e1]
    by_cases hk : k < s1.marks.length
    · rw [if_pos hk] at e2
      by_cases h2 : s1.marks.length ≤ more
      · rw [if_pos h2]
        simp only [Option.bind_some, if_pos hk]
        exact row_cut h2 _ e2
      · rw [if_neg h2, if_neg (by have := rowTo_len _ e2; omega)]; rfl
    · rw [if_neg hk] at e2
      injection e2 with e2
      subst e2
      by_cases h2 : s1.marks.length ≤ more
      · rw [if_pos h2]
        simp only [Option.bind_some, if_neg hk]
      · rw [if_neg h2]; rfl

theorem graph_stable {n : NetL} {m : List Int} {b k : Nat} {s : SpaceL} (e : graphTo n m b k = some s) (hk : s.marks.length ≤ k) : ∀ j, graphTo n m b (k + j) = some s := by
  intro j
  induction j with
  | zero => exact e
  | succ j ih => rw [← Nat.add_assoc, graphTo, ih]; simp only [Option.bind_some]; rw [if_neg (by omega)]
theorem graph_before {n : NetL} {m : List Int} {b : Nat} : ∀ (j k : Nat) {s : SpaceL}, graphTo n m b (k + j) = some s → ∃ s', graphTo n m b k = some s' := by
  intro j
  induction j with
  | zero => intro k s e; exact ⟨s, e⟩
  | succ j ih =>
    intro k s e
    rw [← Nat.add_assoc, graphTo, Option.bind_eq_some_iff] at e
    obtain ⟨s1, e1, _⟩ := e
    exact ih k e1

/-- More room changes nothing, where there was enough; and there is enough just if there is room for all. -/
theorem graph_room {n : NetL} {m : List Int} {most more : Int} {s : SpaceL} (h : graphL n m most = (s, 0)) (h1 : 1 ≤ more) (h2 : more ≤ 300) :
    graphL n m more = if (s.marks.length : Int) ≤ more then (s, 0) else (⟨[], []⟩, 4) := by
  obtain ⟨m1, m2, hf, hg, hF⟩ := graphL_ok h
  have hcut := graph_cut (n := n) (m := m) (more := more.toNat) (by omega) _ hg
  have hle := hF.most_le
  unfold graphL
  have hok : graphOk n m more = true := by simp only [graphOk, Bool.and_eq_true, decide_eq_true_eq]; exact ⟨⟨h1, h2⟩, hf⟩
  rw [hok]
  simp only [if_true]
  have key : graphTo n m more.toNat more.toNat = if s.marks.length ≤ more.toNat then some s else none := by
    rcases Nat.lt_or_ge more.toNat most.toNat with q | q
    · cases hx : graphTo n m more.toNat more.toNat with
      | none =>
        by_cases hl : s.marks.length ≤ more.toNat
        · rw [if_pos hl] at hcut
          have e : most.toNat = more.toNat + (most.toNat - more.toNat) := by omega
          rw [e] at hcut
          obtain ⟨s', hs'⟩ := graph_before _ _ hcut
          rw [hx] at hs'; cases hs'
        · rw [if_neg hl]
      | some s' =>
        have hF' := graphTo_found (most := more.toNat) (by omega) hf _ hx
        have hst := graph_stable hx hF'.most_le (most.toNat - more.toNat)
        rw [show more.toNat + (most.toNat - more.toNat) = most.toNat by omega, hcut] at hst
        by_cases hl : s.marks.length ≤ more.toNat
        · rw [if_pos hl] at hst ⊢; exact hst.symm
        · rw [if_neg hl] at hst; cases hst
    · rw [if_pos (by omega)] at hcut ⊢
      have := graph_stable hcut hle (more.toNat - most.toNat)
      rw [show most.toNat + (more.toNat - most.toNat) = more.toNat by omega] at this
      exact this
  rw [key]
  by_cases hl : s.marks.length ≤ more.toNat
  · rw [if_pos hl, if_pos (by omega)]
  · rw [if_neg hl, if_neg (by omega)]

/-- What Path answers. -/
def reachL (n : NetL) (m goal : List Int) (most : Int) : List Int × Int :=
  if (graphL n m most).2 == 0 then
    match findM (graphL n m most).1.marks goal with
    | some g => (pathL (graphL n m most).1 g, 0)
    | none => ([], 3)
  else ([], (graphL n m most).2)

theorem findM_at {ms : List (List Int)} (h : ms.Nodup) {k : Nat} (hk : k < ms.length) : findM ms (markAt ms k) = some k := by
  cases hf : findM ms (markAt ms k) with
  | none => exact absurd (markAt_mem hk) (findM_none hf)
  | some g =>
    obtain ⟨hg, e⟩ := findM_some hf
    rw [markAt_inj h hg hk e]

/-- Each mark is come to by its path, and by no run that is shorter. -/
theorem reach_true {n : NetL} {m : List Int} {most : Int} {s : SpaceL} (h : graphL n m most = (s, 0)) {k : Nat} (hk : k < s.marks.length) :
    ∃ p, reachL n m (markAt s.marks k) most = (p, 0) ∧ runL n m p = (markAt s.marks k, 0) ∧ ∀ seq, runL n m seq = (markAt s.marks k, 0) → p.length ≤ seq.length := by
  have hW := graphL_whole h
  refine ⟨pathL s k, ?_, hW.path k hk, fun seq hs => ?_⟩
  · unfold reachL
    rw [h]
    simp only [BEq.rfl, if_true]
    rw [findM_at hW.nodup hk]
  · have e := hW.here
    have := hW.short seq (f := 0) (g := k) e.1 hk (by rw [e.2]; exact hs)
    rw [pathL_zero] at this
    simpa using this

end Go.Proofs.Ytakgppoeikcepaa

/- Where a search breaks off; how many can be different. -/
namespace Go.Proofs.Ytakgppoeikcepaa
set_option linter.unusedVariables false
set_option maxRecDepth 4000

theorem row_broke {n : NetL} {m : List Int} {most k : Nat} {s : SpaceL} (h : Found n m most k 0 s) (hk : k < s.marks.length) : ∀ (t : Nat), t ≤ n.trans.length → rowTo n most k s t = none →
    ∃ j s', j < n.trans.length ∧ Found n m most k j s' ∧ k < s'.marks.length ∧ tryT n most k s' j = none
  | 0, _, e => by simp [rowTo] at e
  | t + 1, ht, e => by
    rw [rowTo] at e
    cases e1 : rowTo n most k s t with
    | none => exact row_broke h hk t (by omega) e1
    | some s1 =>
      rw [e1] at e
      obtain ⟨g1, l1⟩ := rowTo_found h hk t (by omega) e1
      exact ⟨t, s1, by omega, g1, Nat.lt_of_lt_of_le hk l1.le, e⟩
theorem graph_broke {n : NetL} {m : List Int} {most : Nat} (hm : 1 ≤ most) (hf : fitsL n m = true) : ∀ (k : Nat), graphTo n m most k = none →
    ∃ f j s', j < n.trans.length ∧ Found n m most f j s' ∧ f < s'.marks.length ∧ tryT n most f s' j = none
  | 0, e => by simp [graphTo] at e
  | k + 1, e => by
    rw [graphTo] at e
    cases e1 : graphTo n m most k with
    | none => exact graph_broke hm hf k e1
    | some s1 =>
      rw [e1] at e
      simp only [Option.bind_some] at e
      split at e
      · rename_i hk
        obtain ⟨j, s', q1, q2, q3, q4⟩ := row_broke (graphTo_found hm hf k e1) hk _ (Nat.le_refl _) e
        exact ⟨k, j, s', q1, q2, q3, q4⟩
      · cases e

theorem nodup_sub {l1 : List (List Int)} : ∀ {l2 : List (List Int)}, l1.Nodup → (∀ x ∈ l1, x ∈ l2) → l1.length ≤ l2.length := by
  induction l1 with
  | nil => intro l2 _ _; simp
  | cons a l ih =>
    intro l2 hn hs
    rw [List.nodup_cons] at hn
    have ha := hs a (by simp)
    have := ih (l2 := l2.erase a) hn.2 fun x hx => (List.mem_erase_of_ne (fun (e : x = a) => hn.1 (e ▸ hx))).2 (hs x (by simp [hx]))
    rw [List.length_erase_of_mem ha] at this
    have := List.length_pos_of_mem ha
    simp; omega

theorem graphOk_300 {n : NetL} {m : List Int} (hf : fitsL n m = true) : graphOk n m 300 = true := by simp [graphOk, hf]

end Go.Proofs.Ytakgppoeikcepaa

/- Plain words for what a space holds in memory. -/
namespace Go.Proofs.Ytakgppoeikcepaa
open Go.RowKit
set_option linter.unusedVariables false
set_option maxRecDepth 4000

/-- A slice of arcs: three numbers each. -/
def Arcs (w : World) (v : Value) (l : List (Int × Int × Int)) : Prop :=
  ∃ a len cap, v = .slice a len cap ∧ l.length = len ∧ len ≤ 5864062014805 ∧ Shape a len cap ∧
    ∀ j (hj : j < l.length), ∃ b off, a = some ⟨b, off, none⟩ ∧ b < w.heap.size ∧ w.cell? ⟨b, off + j * 3, none⟩ = some (.int .i64 l[j].1) ∧
      w.cell? ⟨b, off + j * 3 + 1, none⟩ = some (.int .i64 l[j].2.1) ∧ w.cell? ⟨b, off + j * 3 + 2, none⟩ = some (.int .i64 l[j].2.2)

theorem Arcs.below {w w' : World} {v : Value} {l : List (Int × Int × Int)} (h : Arcs w v l) (hb : Below w.heap.size w w') : Arcs w' v l := by
  obtain ⟨a, len, cap, e, hl, hm, hs, hr⟩ := h
  refine ⟨a, len, cap, e, hl, hm, hs, fun j hj => ?_⟩
  obtain ⟨b, off, ha, hlt, h0, h1, h2⟩ := hr j hj
  exact ⟨b, off, ha, Nat.lt_of_lt_of_le hlt hb.size, by rw [hb.cell (p := ⟨b, _, none⟩) hlt]; exact h0, by rw [hb.cell (p := ⟨b, _, none⟩) hlt]; exact h1, by rw [hb.cell (p := ⟨b, _, none⟩) hlt]; exact h2⟩

theorem Arcs.at {w : World} {a : Option Addr} {len cap : Nat} {l : List (Int × Int × Int)} (h : Arcs w (.slice a len cap) l) {k : Nat} (hk : k < l.length) :
    ∃ b off, a = some ⟨b, off, none⟩ ∧ b < w.heap.size ∧ w.cell? ⟨b, off + k * 3, none⟩ = some (.int .i64 l[k].1) ∧
      w.cell? ⟨b, off + k * 3 + 1, none⟩ = some (.int .i64 l[k].2.1) ∧ w.cell? ⟨b, off + k * 3 + 2, none⟩ = some (.int .i64 l[k].2.2) := by
  obtain ⟨a', len', cap', e, hl, hm, hs, hr⟩ := h
  injection e with e1 e2 e3
  subst e1 e2 e3
  exact hr k hk
theorem Arcs.slice {w : World} {v : Value} {l : List (Int × Int × Int)} (h : Arcs w v l) : ∃ a cap, v = .slice a l.length cap ∧ l.length ≤ 5864062014805 := by
  obtain ⟨a, len, cap, e, hl, hm, hs, hr⟩ := h
  exact ⟨a, cap, by rw [e, hl], by omega⟩

theorem Lists.at {w : World} {a : Option Addr} {len cap : Nat} {ls : List (List Int)} (h : Lists w (.slice a len cap) ls) {k : Nat} (hk : k < len) :
    ∃ b off u, a = some ⟨b, off, none⟩ ∧ b < w.heap.size ∧ w.cell? ⟨b, off + k, none⟩ = some u ∧ Ints w u (markAt ls k) := by
  obtain ⟨a', len', cap', e, hl, hm, hs, hr⟩ := h
  injection e with e1 e2 e3
  subst e1 e2 e3
  exact hr k (by omega)
theorem Lists.slice {w : World} {v : Value} {ls : List (List Int)} (h : Lists w v ls) : ∃ a cap, v = .slice a ls.length cap ∧ ls.length ≤ 17592186044416 ∧ Shape a ls.length cap := by
  obtain ⟨a, len, cap, e, hl, hm, hs, hr⟩ := h
  subst hl
  exact ⟨a, cap, e, hm, hs⟩

def arcZ (a : ArcL) : Int × Int × Int := (a.frm, a.tran, a.dst)

/-- A value that is this space. -/
def Space (w : World) (v : Value) (s : SpaceL) : Prop := ∃ mv av, v = .agg #[mv, av] ∧ Lists w mv s.marks ∧ Arcs w av (s.arcs.map arcZ)

theorem Space.below {w w' : World} {v : Value} {s : SpaceL} (h : Space w v s) (hb : Below w.heap.size w w') : Space w' v s := by
  obtain ⟨mv, av, e, h1, h2⟩ := h
  exact ⟨mv, av, e, h1.below hb, h2.below hb⟩

/-- What a call answers that explores, or tells what is wrong. -/
def GivesS (w : World) (p : SpaceL × Int) (e : Ending) (w' : World) : Prop := ∃ r, e = .returned (.tuple #[r, .int .i64 p.2]) ∧ Space w' r p.1 ∧ Below w.heap.size w w'

theorem graphL_code (n : NetL) (m : List Int) (most : Int) : (graphL n m most).2 = 0 ∨ (graphL n m most).2 = 2 ∨ (graphL n m most).2 = 4 := by
  unfold graphL
  split
  · split
    · exact .inl rfl
    · exact .inr (.inr rfl)
  · exact .inr (.inl rfl)

end Go.Proofs.Ytakgppoeikcepaa

/- Plain words for what can always be done again. -/
namespace Go.Proofs.Ytakgppoeikcepaa
set_option linter.unusedVariables false
set_option maxRecDepth 4000

/-- Marks, and arcs between whatever numbers. -/
structure SpaceZ where
  marks : List (List Int)
  arcs : List (Int × Int × Int)

def rightS (s : SpaceZ) : Bool := s.arcs.all fun a => decide (0 ≤ a.1) && decide (a.1 < s.marks.length) && decide (0 ≤ a.2.2) && decide (a.2.2 < s.marks.length)
def Comes (s : SpaceZ) (k j : Int) : Prop := ∀ P : Int → Prop, P k → (∀ a : Int × Int × Int, P a.1 → a ∈ s.arcs → P a.2.2) → P j
theorem Comes.here {s : SpaceZ} (k : Int) : Comes s k k := fun _ h _ => h
theorem Comes.go {s : SpaceZ} {k : Int} {a : Int × Int × Int} (h : Comes s k a.1) (ha : a ∈ s.arcs) : Comes s k a.2.2 := fun P h0 h1 => h1 a (h P h0 h1) ha
theorem Comes.ind {s : SpaceZ} {k : Int} {motive : (j : Int) → Comes s k j → Prop} (here : motive k (Comes.here k)) (go : ∀ {a : Int × Int × Int} (h : Comes s k a.1) (ha : a ∈ s.arcs), motive a.1 h → motive a.2.2 (Comes.go h ha)) {j : Int} (h : Comes s k j) : motive j h := by
  obtain ⟨h', q⟩ := h (fun j => ∃ h : Comes s k j, motive j h) ⟨Comes.here k, here⟩ (fun a ⟨hx, qx⟩ ha => ⟨Comes.go hx ha, go hx ha qx⟩)
  exact q
def deadL (s : SpaceZ) (T : Int) : List Int := (rangeL (min T 24).toNat).filter fun t => s.arcs.all fun a => a.2.1 != t
def stuckL (s : SpaceZ) : List Int := (rangeL s.marks.length).filter fun k => s.arcs.all fun a => a.1 != k
def boundM (n : Int) (m : List Int) : Int := if rightL m then m.foldl max n else n
def boundL (s : SpaceZ) : Int := s.marks.foldl boundM 0
structure IsLive (s : SpaceZ) (T : Int) (xs : List Int) : Prop where
  up : xs.Pairwise (· < ·)
  mem : ∀ t, t ∈ xs ↔ rightS s = true ∧ 0 ≤ t ∧ t < min T 24 ∧ ∀ k : Int, 0 ≤ k → k < s.marks.length → ∃ a ∈ s.arcs, a.2.1 = t ∧ Comes s k a.1
structure IsHome (s : SpaceZ) (xs : List Int) : Prop where
  up : xs.Pairwise (· < ·)
  mem : ∀ k, k ∈ xs ↔ rightS s = true ∧ 0 ≤ k ∧ k < s.marks.length ∧ ∀ i : Int, 0 ≤ i → i < s.marks.length → Comes s i k

theorem rightS_iff {s : SpaceZ} : rightS s = true ↔ ∀ a ∈ s.arcs, 0 ≤ a.1 ∧ a.1 < s.marks.length ∧ 0 ≤ a.2.2 ∧ a.2.2 < s.marks.length := by
  unfold rightS
  simp only [List.all_eq_true, Bool.and_eq_true, decide_eq_true_eq, and_assoc]
theorem mem_dead {s : SpaceZ} {T t : Int} : t ∈ deadL s T ↔ 0 ≤ t ∧ t < min T 24 ∧ ∀ a ∈ s.arcs, a.2.1 ≠ t := by
  unfold deadL
  rw [List.mem_filter, mem_range]
  simp only [List.all_eq_true, bne_iff_ne]
  constructor
  · rintro ⟨h1, h2⟩; exact ⟨by omega, by omega, h2⟩
  · rintro ⟨h1, h2, h3⟩; exact ⟨by omega, h3⟩
theorem mem_stuck {s : SpaceZ} {k : Int} : k ∈ stuckL s ↔ 0 ≤ k ∧ k < s.marks.length ∧ ∀ a ∈ s.arcs, a.1 ≠ k := by
  unfold stuckL
  rw [List.mem_filter, mem_range]
  simp only [List.all_eq_true, bne_iff_ne, and_assoc]
theorem dead_up (s : SpaceZ) (T : Int) : (deadL s T).Pairwise (· < ·) := (range_sorted _).sublist List.filter_sublist
theorem stuck_up (s : SpaceZ) : (stuckL s).Pairwise (· < ·) := (range_sorted _).sublist List.filter_sublist

/-- Who is stuck goes nowhere. -/
theorem stuck_only {s : SpaceZ} {k j : Int} (h : k ∈ stuckL s) (hc : Comes s k j) : j = k := by
  induction hc using Comes.ind with
  | here => rfl
  | go h1 h2 ih => exact absurd ih ((mem_stuck.1 h).2.2 _ h2)

theorem up_one {xs : List Int} {k : Int} (hx : xs.Pairwise (· < ·)) (h : ∀ t, t ∈ xs ↔ t = k) : xs = [k] :=
  up_unique hx (List.pairwise_singleton _ _) fun t => by rw [h]; simp
theorem up_none {xs : List Int} (h : ∀ t, ¬ t ∈ xs) : xs = [] := List.eq_nil_iff_forall_not_mem.2 h

theorem stuck_live {s : SpaceZ} {T k : Int} {xs : List Int} (hk : k ∈ stuckL s) (h : IsLive s T xs) : xs = [] := by
  refine up_none fun t ht => ?_
  obtain ⟨_, _, _, hall⟩ := (h.mem t).1 ht
  obtain ⟨h1, h2, h3⟩ := mem_stuck.1 hk
  obtain ⟨a, ha, _, hc⟩ := hall k h1 h2
  exact h3 a ha (stuck_only hk hc)
theorem stuck_home {s : SpaceZ} {k : Int} {hs : List Int} (hk : k ∈ stuckL s) (h : IsHome s hs) (hh : k ∈ hs) : hs = [k] ∧ stuckL s = [k] := by
  obtain ⟨_, k1, k2, hall⟩ := (h.mem k).1 hh
  constructor
  · refine up_one h.up fun t => ⟨fun ht => ?_, fun e => by rw [e]; exact hh⟩
    obtain ⟨_, _, _, ht4⟩ := (h.mem t).1 ht
    exact stuck_only hk (ht4 k k1 k2)
  · refine up_one (stuck_up s) fun t => ⟨fun ht => ?_, fun e => by rw [e]; exact hk⟩
    obtain ⟨t1, t2, _⟩ := mem_stuck.1 ht
    exact (stuck_only ht (hall t t1 t2)).symm
theorem wrong_live {s : SpaceZ} {T : Int} {xs : List Int} (hr : rightS s = false) (h : IsLive s T xs) : xs = [] :=
  up_none fun t ht => by have := ((h.mem t).1 ht).1; rw [hr] at this; cases this
theorem wrong_home {s : SpaceZ} {xs : List Int} (hr : rightS s = false) (h : IsHome s xs) : xs = [] :=
  up_none fun t ht => by have := ((h.mem t).1 ht).1; rw [hr] at this; cases this

/-! ### spaces that are found -/
def toZ (s : SpaceL) : SpaceZ := ⟨s.marks, s.arcs.map arcZ⟩

theorem mem_arcZ {s : SpaceL} {a : Int × Int × Int} : a ∈ (toZ s).arcs ↔ ∃ b ∈ s.arcs, a = arcZ b := by
  unfold toZ
  simp only [List.mem_map]
  constructor
  · rintro ⟨b, h1, h2⟩; exact ⟨b, h1, h2.symm⟩
  · rintro ⟨b, h1, h2⟩; exact ⟨b, h1, h2.symm⟩

theorem Whole.sound {n : NetL} {m : List Int} {s : SpaceL} (h : Whole n m s) : ∀ a ∈ s.arcs, a.frm < s.marks.length ∧ a.dst < s.marks.length ∧ a.tran < n.trans.length ∧ fireL n (markAt s.marks a.frm) a.tran = (markAt s.marks a.dst, 0) := by
  obtain ⟨most, k, hF, hk⟩ := h
  intro a ha
  obtain ⟨h1, h2, h3, _, h5⟩ := hF.sound a ha
  exact ⟨h1, h2, h3, h5⟩
theorem Whole.right {n : NetL} {m : List Int} {s : SpaceL} (h : Whole n m s) : rightS (toZ s) = true := by
  refine rightS_iff.2 fun a ha => ?_
  obtain ⟨b, hb, rfl⟩ := mem_arcZ.1 ha
  obtain ⟨h1, h2, _⟩ := h.sound b hb
  simp only [arcZ, toZ]
  omega

/-- One comes by arcs just where a run leads. -/
theorem Whole.comes_run {n : NetL} {m : List Int} {s : SpaceL} (h : Whole n m s) {i : Nat} (hi : i < s.marks.length) {y : Int} (hc : Comes (toZ s) i y) :
    ∃ j : Nat, y = j ∧ j < s.marks.length ∧ ∃ seq, runL n (markAt s.marks i) seq = (markAt s.marks j, 0) := by
  have hfit : ∀ g, g < s.marks.length → fitsL n (markAt s.marks g) = true := by obtain ⟨most, k, hF, hk⟩ := h; exact fun g hg => hF.fits _ (markAt_mem hg)
  have key : ∀ {x y : Int}, Comes (toZ s) x y → x = (i : Int) → ∃ j : Nat, y = j ∧ j < s.marks.length ∧ ∃ seq, runL n (markAt s.marks i) seq = (markAt s.marks j, 0) := by
    intro x y hc
    induction hc using Comes.ind with
    | here => intro e; subst e; exact ⟨i, rfl, hi, [], run_nil.2 ⟨hfit i hi, rfl⟩⟩
    | go h1 h2 ih =>
      intro e
      obtain ⟨j, ej, hj, seq, hs⟩ := ih e
      obtain ⟨b, hb, rfl⟩ := mem_arcZ.1 h2
      obtain ⟨b1, b2, b3, b4⟩ := h.sound b hb
      simp only [arcZ] at ej ⊢
      obtain rfl : b.frm = j := by omega
      refine ⟨b.dst, rfl, b2, seq ++ [(b.tran : Int)], ?_⟩
      rw [run_append, hs]
      simp only [BEq.rfl, if_true]
      exact run_cons.2 ⟨_, b4, run_nil.2 ⟨hfit _ b2, rfl⟩⟩
  exact key hc rfl
theorem Whole.run_comes {n : NetL} {m : List Int} {s : SpaceL} (h : Whole n m s) (seq : List Int) : ∀ {i k : Nat} {z : List Int}, i < s.marks.length → Comes (toZ s) k i → runL n (markAt s.marks i) seq = (z, 0) →
    (∃ j : Nat, j < s.marks.length ∧ z = markAt s.marks j ∧ Comes (toZ s) k j) ∧ ∀ t ∈ seq, ∃ a ∈ s.arcs, (a.tran : Int) = t ∧ Comes (toZ s) k a.frm := by
  induction seq with
  | nil =>
    intro i k z hi hc hr
    obtain ⟨_, rfl⟩ := run_nil.1 hr
    exact ⟨⟨i, hi, rfl, hc⟩, by simp⟩
  | cons t ts ih =>
    intro i k z hi hc hr
    obtain ⟨y, h1, h2⟩ := run_cons.1 hr
    rcases h.fire hi t with h3 | ⟨j, g, rfl, hg, hgl, e⟩
    · rw [h1] at h3; simp at h3
    · rw [e] at h1
      injection h1 with h1 _
      subst h1
      have hc2 : Comes (toZ s) k g := Comes.go (a := arcZ ⟨i, j, g⟩) hc (mem_arcZ.2 ⟨_, hg, rfl⟩)
      obtain ⟨q1, q2⟩ := ih hgl hc2 h2
      refine ⟨q1, fun t' ht' => ?_⟩
      rcases List.mem_cons.1 ht' with q | q
      · exact ⟨_, hg, q.symm, hc⟩
      · exact q2 t' q

/-- From each of the marks all marks are found again, where there is room. -/
theorem Whole.again {n : NetL} {m : List Int} {s : SpaceL} (h : Whole n m s) (hl : s.marks.length < 300) {f : Nat} (hf : f < s.marks.length) : ∃ u, graphL n (markAt s.marks f) 300 = (u, 0) := by
  have hfit : fitsL n (markAt s.marks f) = true := by obtain ⟨most, k, hF, hk⟩ := h; exact hF.fits _ (markAt_mem hf)
  have hok := graphOk_300 hfit
  cases hg : graphTo n (markAt s.marks f) 300 300 with
  | some u => exact ⟨u, by rw [graphL, hok]; simp only [if_true, show (300 : Int).toNat = 300 from rfl]; rw [hg]⟩
  | none =>
    exfalso
    obtain ⟨f', j, s', hj, hF, hf', hn⟩ := graph_broke (by omega) hfit _ hg
    have hin : ∀ g, g < s'.marks.length → ∃ g2, g2 < s.marks.length ∧ markAt s'.marks g = markAt s.marks g2 := by
      intro g
      induction g using Nat.strongRecOn with
      | ind g ih =>
        intro hgl
        by_cases e : g = 0
        · subst e; exact ⟨f, hf, hF.first⟩
        · obtain ⟨a, ha, hlt⟩ := hF.par g (by omega) hgl
          obtain ⟨h1, h2⟩ := firstTo_mem ha
          obtain ⟨q1, q2, q3, q4, q5⟩ := hF.sound a h1
          obtain ⟨g2, hg2, e2⟩ := ih a.frm hlt q1
          rw [e2, h2] at q5
          rcases h.fire hg2 a.tran with r | ⟨_, g3, _, _, hg3, e3⟩
          · rw [q5] at r; simp at r
          · rw [q5] at e3; injection e3 with e3 _; exact ⟨g3, hg3, e3⟩
    have hlen : s'.marks.length ≤ s.marks.length := nodup_sub hF.nodup fun x hx => by
      obtain ⟨g, hgl, rfl⟩ := List.getElem_of_mem hx
      obtain ⟨g2, hg2, e2⟩ := hin g hgl
      have e3 : s'.marks[g] = markAt s'.marks g := by simp [markAt, List.getD_eq_getElem?_getD, List.getElem?_eq_getElem hgl]
      rw [e3, e2]
      exact markAt_mem hg2
    obtain ⟨g2, hg2, e2⟩ := hin f' hf'
    rcases h.fire hg2 j with r | ⟨_, g3, _, _, hg3, e3⟩
    · unfold tryT at hn
      rw [e2, r] at hn
      simp at hn
    · unfold tryT at hn
      rw [e2, e3] at hn
      simp only [show ((0 : Int) == 3) = false from rfl, Bool.false_eq_true, if_false, BEq.rfl, if_true] at hn
      split at hn
      · cases hn
      · rw [if_neg (by omega)] at hn
        cases hn

end Go.Proofs.Ytakgppoeikcepaa

/- Plain words for the words of nets: ways along arcs, and what is seen of them. -/
namespace Go.Proofs.Ytakgppoeikcepaa
set_option linter.unusedVariables false
set_option maxRecDepth 4000

/-- A way of so many arcs, and what is seen of it; lb tells what is seen of a transition, 0: nothing. -/
def WayN (A : List ArcL) (lb : Nat → Int) : Nat → Nat → List Int → Nat → Prop
  | 0, f, w, d => f = d ∧ w = []
  | k + 1, f, w, d => ∃ a ∈ A, a.frm = f ∧ ∃ u, WayN A lb k a.dst u d ∧ w = (if lb a.tran = 0 then u else lb a.tran :: u)
def Way (A : List ArcL) (lb : Nat → Int) (f : Nat) (w : List Int) (d : Nat) : Prop := ∃ k, WayN A lb k f w d

theorem WayN.cons {A : List ArcL} {lb : Nat → Int} {k d : Nat} {u : List Int} {a : ArcL} (ha : a ∈ A) (h : WayN A lb k a.dst u d) : WayN A lb (k + 1) a.frm (if lb a.tran = 0 then u else lb a.tran :: u) d := ⟨a, ha, rfl, u, h, rfl⟩
theorem WayN.append {A : List ArcL} {lb : Nat → Int} : ∀ {k j f m d : Nat} {u v : List Int}, WayN A lb k f u m → WayN A lb j m v d → WayN A lb (k + j) f (u ++ v) d := by
  intro k
  induction k with
  | zero => intro j f m d u v h1 h2; obtain ⟨rfl, rfl⟩ := h1; rw [Nat.zero_add]; exact h2
  | succ k ih =>
    intro j f m d u v h1 h2
    obtain ⟨a, ha, e, u', h, rfl⟩ := h1
    have h3 := ih h h2
    rw [show k + 1 + j = k + j + 1 by omega]
    refine ⟨a, ha, e, u' ++ v, h3, ?_⟩
    split <;> simp
theorem Way.here {A : List ArcL} {lb : Nat → Int} (f : Nat) : Way A lb f [] f := ⟨0, rfl, rfl⟩
theorem Way.append {A : List ArcL} {lb : Nat → Int} {f m d : Nat} {u v : List Int} (h1 : Way A lb f u m) (h2 : Way A lb m v d) : Way A lb f (u ++ v) d := by
  obtain ⟨k, h1⟩ := h1
  obtain ⟨j, h2⟩ := h2
  exact ⟨_, h1.append h2⟩
theorem Way.arc {A : List ArcL} {lb : Nat → Int} {a : ArcL} (ha : a ∈ A) (h : lb a.tran ≠ 0) : Way A lb a.frm [lb a.tran] a.dst := by
  have := WayN.cons (lb := lb) ha (k := 0) ⟨rfl, rfl⟩
  rw [if_neg h] at this
  exact ⟨_, this⟩
theorem Way.arc0 {A : List ArcL} {lb : Nat → Int} {a : ArcL} (ha : a ∈ A) (h : lb a.tran = 0) : Way A lb a.frm [] a.dst := by
  have := WayN.cons (lb := lb) ha (k := 0) ⟨rfl, rfl⟩
  rw [if_pos h] at this
  exact ⟨_, this⟩

/-- What is closed under arcs without letters has all that is come to without letters. -/
theorem Way.unseen {A : List ArcL} {lb : Nat → Int} {P : Nat → Prop} (hP : ∀ a ∈ A, lb a.tran = 0 → P a.frm → P a.dst) : ∀ {f d : Nat}, Way A lb f [] d → P f → P d := by
  rintro f d ⟨k, h⟩
  induction k generalizing f with
  | zero => intro hf; obtain ⟨rfl, _⟩ := h; exact hf
  | succ k ih =>
    intro hf
    obtain ⟨a, ha, e, u, h1, h2⟩ := h
    by_cases h0 : lb a.tran = 0
    · rw [if_pos h0] at h2
      subst h2
      exact ih h1 (hP a ha h0 (by rw [e]; exact hf))
    · rw [if_neg h0] at h2
      cases h2
theorem Way.unseenB {A : List ArcL} {lb : Nat → Int} {P : Nat → Prop} (hP : ∀ a ∈ A, lb a.tran = 0 → P a.dst → P a.frm) : ∀ {f d : Nat}, Way A lb f [] d → P d → P f := by
  rintro f d ⟨k, h⟩
  induction k generalizing f with
  | zero => intro hf; obtain ⟨rfl, _⟩ := h; exact hf
  | succ k ih =>
    intro hd
    obtain ⟨a, ha, e, u, h1, h2⟩ := h
    by_cases h0 : lb a.tran = 0
    · rw [if_pos h0] at h2
      subst h2
      rw [← e]
      exact hP a ha h0 (ih h1 hd)
    · rw [if_neg h0] at h2
      cases h2

/-- The first letter. -/
theorem Way.first {A : List ArcL} {lb : Nat → Int} {f d : Nat} {l : Int} {w : List Int} (h : Way A lb f (l :: w) d) : ∃ a ∈ A, Way A lb f [] a.frm ∧ lb a.tran = l ∧ l ≠ 0 ∧ Way A lb a.dst w d := by
  obtain ⟨k, h⟩ := h
  induction k generalizing f with
  | zero => obtain ⟨_, h⟩ := h; cases h
  | succ k ih =>
    obtain ⟨a, ha, rfl, u, h1, h2⟩ := h
    by_cases h0 : lb a.tran = 0
    · rw [if_pos h0] at h2
      subst h2
      obtain ⟨b, hb, q1, q2, q3, q4⟩ := ih h1
      exact ⟨b, hb, (Way.arc0 ha h0).append q1, q2, q3, q4⟩
    · rw [if_neg h0] at h2
      injection h2 with h2 h3
      subst h3
      exact ⟨a, ha, Way.here _, h2.symm, by rw [h2]; exact h0, ⟨k, h1⟩⟩

theorem Way.split {A : List ArcL} {lb : Nat → Int} : ∀ {u v : List Int} {f d : Nat}, Way A lb f (u ++ v) d → ∃ m, Way A lb f u m ∧ Way A lb m v d := by
  intro u
  induction u with
  | nil => intro v f d h; exact ⟨f, Way.here _, h⟩
  | cons l u ih =>
    intro v f d h
    obtain ⟨a, ha, h1, h2, h0, h3⟩ := Way.first (w := u ++ v) h
    obtain ⟨m, h4, h5⟩ := ih h3
    have := h1.append ((Way.arc (lb := lb) ha (by rw [h2]; exact h0)).append h4)
    rw [h2] at this
    exact ⟨m, this, h5⟩

/-- The last letter. -/
theorem Way.last {A : List ArcL} {lb : Nat → Int} {f d : Nat} {l : Int} {w : List Int} : Way A lb f (w ++ [l]) d ↔ ∃ a ∈ A, Way A lb f w a.frm ∧ lb a.tran = l ∧ l ≠ 0 ∧ Way A lb a.dst [] d := by
  constructor
  · intro h
    obtain ⟨m, h1, h2⟩ := h.split
    obtain ⟨a, ha, h3, h4, h5, h6⟩ := h2.first
    refine ⟨a, ha, ?_, h4, h5, h6⟩
    have := h1.append h3
    rwa [List.append_nil] at this
  · rintro ⟨a, ha, h1, h2, h3, h4⟩
    have := h1.append ((Way.arc (lb := lb) ha (by rw [h2]; exact h3)).append h4)
    rwa [h2] at this

theorem Way.end_lt {A : List ArcL} {lb : Nat → Int} {N f d : Nat} {w : List Int} (hA : ∀ a ∈ A, a.dst < N) (hf : f < N) (h : Way A lb f w d) : d < N := by
  obtain ⟨k, h⟩ := h
  induction k generalizing f w with
  | zero => obtain ⟨rfl, _⟩ := h; exact hf
  | succ k ih => obtain ⟨a, ha, e, u, h1, h2⟩ := h; exact ih (hA a ha) h1

/-! ### the shortest ones -/
theorem least_of {P : Nat → Prop} (h : ∃ n, P n) : ∃ n, P n ∧ ∀ m, P m → n ≤ m := by
  obtain ⟨n, hn⟩ := h
  induction n using Nat.strongRecOn with
  | ind n ih =>
    by_cases hm : ∃ m, m < n ∧ P m
    · obtain ⟨m, h1, h2⟩ := hm; exact ih m h1 h2
    · exact ⟨n, hn, fun m hP => Nat.le_of_not_lt fun h => hm ⟨m, h, hP⟩⟩

/-- So many letters, and among these so many arcs: no way to the end has less. -/
def Best (A : List ArcL) (lb : Nat → Int) (E : Nat → Prop) (f L k : Nat) : Prop :=
  (∃ w e, E e ∧ w.length = L ∧ WayN A lb k f w e) ∧ (∀ w e, E e → Way A lb f w e → L ≤ w.length) ∧ ∀ j w e, E e → w.length = L → WayN A lb j f w e → k ≤ j

theorem best_of {A : List ArcL} {lb : Nat → Int} {E : Nat → Prop} {f e : Nat} {w : List Int} (hE : E e) (h : Way A lb f w e) : ∃ L k, Best A lb E f L k := by
  obtain ⟨L, ⟨w1, e1, hE1, hL, h1⟩, hmin⟩ := least_of (P := fun L => ∃ w e, E e ∧ w.length = L ∧ Way A lb f w e) ⟨_, w, e, hE, rfl, h⟩
  obtain ⟨j1, h1⟩ := h1
  obtain ⟨k, ⟨w2, e2, hE2, hL2, h2⟩, hmin2⟩ := least_of (P := fun k => ∃ w e, E e ∧ w.length = L ∧ WayN A lb k f w e) ⟨_, w1, e1, hE1, hL, h1⟩
  exact ⟨L, k, ⟨w2, e2, hE2, hL2, h2⟩, fun w' e' hE' h' => hmin _ ⟨w', e', hE', rfl, h'⟩, fun j w' e' hE' hl h' => hmin2 j ⟨w', e', hE', hl, h'⟩⟩
theorem Best.one {A : List ArcL} {lb : Nat → Int} {E : Nat → Prop} {f L k L' k' : Nat} (h : Best A lb E f L k) (h' : Best A lb E f L' k') : L = L' ∧ k = k' := by
  obtain ⟨⟨w, e, hE, hL, h1⟩, h2, h3⟩ := h
  obtain ⟨⟨w', e', hE', hL', h1'⟩, h2', h3'⟩ := h'
  have a1 := h2 w' e' hE' ⟨_, h1'⟩
  have a2 := h2' w e hE ⟨_, h1⟩
  have e0 : L = L' := by omega
  subst e0
  have a3 := h3 _ w' e' hE' hL' h1'
  have a4 := h3' _ w e hE hL h1
  exact ⟨rfl, by omega⟩
theorem Best.down {A : List ArcL} {lb : Nat → Int} {E : Nat → Prop} {f L k : Nat} (h : Best A lb E f L (k + 1)) : ∃ a ∈ A, a.frm = f ∧ ∃ L', Best A lb E a.dst L' k := by
  obtain ⟨⟨w, e, hE, hL, a, ha, hf, u, h1, h2⟩, h3, h4⟩ := h
  obtain ⟨L', k', hB⟩ := best_of (f := a.dst) hE ⟨_, h1⟩
  refine ⟨a, ha, hf, L', ?_⟩
  obtain ⟨⟨w', e', hE', hL', q1⟩, q2, q3⟩ := hB
  have c1 := WayN.cons (lb := lb) ha q1
  rw [hf] at c1
  have c2 := h3 _ e' hE' ⟨_, c1⟩
  have c3 := q2 u e hE ⟨_, h1⟩
  have hul : u.length = L' ∧ (if lb a.tran = 0 then w' else lb a.tran :: w').length = L := by
    subst h2
    by_cases h0 : lb a.tran = 0
    · simp only [if_pos h0] at hL c2 ⊢; exact ⟨by omega, by omega⟩
    · simp only [if_neg h0, List.length_cons] at hL c2 ⊢; exact ⟨by omega, by omega⟩
  have c4 := h4 _ _ e' hE' hul.2 c1
  have c5 := q3 _ u e hE hul.1 h1
  obtain rfl : k = k' := by omega
  exact ⟨⟨w', e', hE', hL', q1⟩, q2, q3⟩

theorem nodup_nat {l1 : List Nat} : ∀ {l2 : List Nat}, l1.Nodup → (∀ x ∈ l1, x ∈ l2) → l1.length ≤ l2.length := by
  induction l1 with
  | nil => intro l2 _ _; exact Nat.zero_le _
  | cons x l1 ih =>
    intro l2 hn hs
    obtain ⟨h1, h2⟩ := List.nodup_cons.1 hn
    have := ih (l2 := l2.erase x) h2 fun y hy => (List.mem_erase_of_ne (fun e => h1 (by rw [← e]; exact hy))).2 (hs y (by simp [hy]))
    rw [List.length_erase_of_mem (hs x (by simp))] at this
    have h0 : 0 < l2.length := List.length_pos_of_mem (hs x (by simp))
    simp only [List.length_cons]
    omega

/-- As many marks as a best way has arcs lie ahead, each at another distance. -/
theorem Best.marks {A : List ArcL} {lb : Nat → Int} {E : Nat → Prop} {N : Nat} (hA : ∀ a ∈ A, a.dst < N) : ∀ {k f L : Nat}, f < N → Best A lb E f L k → ∃ l : List Nat, l.length = k + 1 ∧ l.Nodup ∧ ∀ x ∈ l, x < N ∧ ∃ L' j, j ≤ k ∧ Best A lb E x L' j := by
  intro k
  induction k with
  | zero => intro f L hf h; exact ⟨[f], rfl, by simp, fun x hx => by rw [List.mem_singleton.1 hx]; exact ⟨hf, L, 0, Nat.le_refl _, h⟩⟩
  | succ k ih =>
    intro f L hf h
    obtain ⟨a, ha, e, L', h'⟩ := h.down
    obtain ⟨l, h1, h2, h3⟩ := ih (hA a ha) h'
    refine ⟨f :: l, by simp [h1], List.nodup_cons.2 ⟨fun hm => ?_, h2⟩, fun x hx => ?_⟩
    · obtain ⟨_, L2, j, hj, hb⟩ := h3 f hm
      have := (hb.one h).2
      omega
    · rcases List.mem_cons.1 hx with rfl | hx
      · exact ⟨hf, L, k + 1, Nat.le_refl _, h⟩
      · obtain ⟨q1, L2, j, hj, hb⟩ := h3 x hx
        exact ⟨q1, L2, j, by omega, hb⟩
theorem Best.few {A : List ArcL} {lb : Nat → Int} {E : Nat → Prop} {N k f L : Nat} (hA : ∀ a ∈ A, a.dst < N) (hf : f < N) (h : Best A lb E f L k) : k < N := by
  obtain ⟨l, h1, h2, h3⟩ := h.marks hA hf
  have := nodup_nat (l2 := List.range N) h2 fun x hx => List.mem_range.2 (h3 x hx).1
  rw [List.length_range] at this
  omega
theorem WayN.len {A : List ArcL} {lb : Nat → Int} : ∀ {k f d : Nat} {w : List Int}, WayN A lb k f w d → w.length ≤ k := by
  intro k
  induction k with
  | zero => intro f d w h; rw [h.2]; simp
  | succ k ih =>
    intro f d w h
    obtain ⟨a, ha, e, u, h1, rfl⟩ := h
    have := ih h1
    split <;> simp <;> omega
theorem Best.short {A : List ArcL} {lb : Nat → Int} {E : Nat → Prop} {N k f L : Nat} (hA : ∀ a ∈ A, a.dst < N) (hf : f < N) (h : Best A lb E f L k) : L < N := by
  have h1 := h.few hA hf
  obtain ⟨⟨w, e, hE, hL, h2⟩, _⟩ := h
  have := h2.len
  omega

/-! ### the words of a net -/
def labT (n : NetL) (t : Nat) : Int := (tranAt n.trans t).label
def seenL (n : NetL) : List Int → List Int
  | [] => []
  | t :: ts => if labT n t.toNat = 0 then seenL n ts else labT n t.toNat :: seenL n ts
/-- Is it a word from mark to mark? -/
def WordN (n : NetL) (S E w : List Int) : Prop := ∃ seq, runL n S seq = (E, 0) ∧ seenL n seq = w
/-- Is it a word from a mark's number to the end? -/
def ToEnd (n : NetL) (s : SpaceL) (E : List Int) (f : Nat) (w : List Int) : Prop := ∃ e, e < s.marks.length ∧ markAt s.marks e = E ∧ Way s.arcs (labT n) f w e

theorem Whole.way_run {n : NetL} {m : List Int} {s : SpaceL} (h : Whole n m s) : ∀ {k f d : Nat} {w : List Int}, f < s.marks.length → WayN s.arcs (labT n) k f w d → d < s.marks.length ∧ ∃ seq, runL n (markAt s.marks f) seq = (markAt s.marks d, 0) ∧ seenL n seq = w := by
  have hfit : ∀ g, g < s.marks.length → fitsL n (markAt s.marks g) = true := by obtain ⟨most, k, hF, hk⟩ := h; exact fun g hg => hF.fits _ (markAt_mem hg)
  intro k
  induction k with
  | zero => intro f d w hf hw; obtain ⟨rfl, rfl⟩ := hw; exact ⟨hf, [], run_nil.2 ⟨hfit f hf, rfl⟩, rfl⟩
  | succ k ih =>
    intro f d w hf hw
    obtain ⟨a, ha, rfl, u, h1, rfl⟩ := hw
    obtain ⟨b1, b2, b3, b4⟩ := h.sound a ha
    obtain ⟨hd, seq, q1, q2⟩ := ih b2 h1
    exact ⟨hd, (a.tran : Int) :: seq, run_cons.2 ⟨_, b4, q1⟩, by simp only [seenL, Int.toNat_natCast, q2]⟩
theorem Whole.run_way {n : NetL} {m : List Int} {s : SpaceL} (h : Whole n m s) : ∀ (seq : List Int) {f : Nat} {z : List Int}, f < s.marks.length → runL n (markAt s.marks f) seq = (z, 0) → ∃ d, d < s.marks.length ∧ markAt s.marks d = z ∧ Way s.arcs (labT n) f (seenL n seq) d := by
  intro seq
  induction seq with
  | nil => intro f z hf hr; obtain ⟨_, rfl⟩ := run_nil.1 hr; exact ⟨f, hf, rfl, Way.here _⟩
  | cons t ts ih =>
    intro f z hf hr
    obtain ⟨y, h1, h2⟩ := run_cons.1 hr
    rcases h.fire hf t with h3 | ⟨j, g, rfl, hg, hgl, e⟩
    · rw [h1] at h3; simp at h3
    · rw [e] at h1
      injection h1 with h1 _
      subst h1
      obtain ⟨d, hd, hz, k, hk⟩ := ih hgl h2
      have := WayN.cons (lb := labT n) hg hk
      exact ⟨d, hd, hz, _, by simpa only [seenL, Int.toNat_natCast] using this⟩
theorem Whole.word {n : NetL} {S E w : List Int} {s : SpaceL} (h : Whole n S s) : WordN n S E w ↔ ToEnd n s E 0 w := by
  obtain ⟨h0, h1⟩ := h.here
  constructor
  · rintro ⟨seq, hr, rfl⟩
    rw [← h1] at hr
    obtain ⟨d, hd, hz, hw⟩ := h.run_way seq h0 hr
    exact ⟨d, hd, hz, hw⟩
  · rintro ⟨e, he, rfl, k, hw⟩
    obtain ⟨_, seq, q1, q2⟩ := h.way_run h0 hw
    rw [h1] at q1
    exact ⟨seq, q1, q2⟩

end Go.Proofs.Ytakgppoeikcepaa

/- A value that is a space of whatever arcs. -/
namespace Go.Proofs.Ytakgppoeikcepaa
open Go.RowKit
set_option linter.unusedVariables false
set_option maxRecDepth 4000

/-- A space; there are not more marks than memory holds. -/
def SpaceV (w : World) (v : Value) (s : SpaceZ) : Prop := s.marks.length ≤ 5864062014805 ∧ ∃ mv av, v = .agg #[mv, av] ∧ Lists w mv s.marks ∧ Arcs w av s.arcs
theorem SpaceV.below {w w' : World} {v : Value} {s : SpaceZ} (h : SpaceV w v s) (hb : Below w.heap.size w w') : SpaceV w' v s := by
  obtain ⟨hN, mv, av, e, h1, h2⟩ := h
  exact ⟨hN, mv, av, e, h1.below hb, h2.below hb⟩
theorem Space.toV {w : World} {v : Value} {s : SpaceL} (h : Space w v s) (hl : s.marks.length ≤ 300) : SpaceV w v (toZ s) := ⟨by simp only [toZ]; omega, h⟩
theorem graphL_small (n : NetL) (m : List Int) (most : Int) : (graphL n m most).1.marks.length ≤ 300 := by
  by_cases h : (graphL n m most).2 = 0
  · have h1 := graphL_ok (s := (graphL n m most).1) (by rw [← h])
    have h2 := h1.2.2.2.2.most_le
    omega
  · rw [graphL_err h]; simp

theorem lists_lit3 (w : World) (b : Nat) (v0 v1 v2 : Value) (x0 x1 x2 : List Int) (h0 : Ints w v0 x0) (h1 : Ints w v1 x1) (h2 : Ints w v2 x2) (hb : b = w.heap.size) : Lists (w.alloc (.cells #[v0, v1, v2] 25)) (.slice (some ⟨b, 0, none⟩) 3 3) [x0, x1, x2] := by
  subst hb
  have b1 := below_new w (.cells #[v0, v1, v2] 25)
  refine ⟨_, _, _, rfl, rfl, by omega, ⟨by omega, by omega, fun h => by cases h⟩, fun j hj => ?_⟩
  match j, hj with
  | 0, _ => exact ⟨w.heap.size, 0, v0, rfl, by simp, by rw [World.cell?_alloc_at _ _ _ _ rfl]; rfl, h0.below b1⟩
  | 1, _ => exact ⟨w.heap.size, 0, v1, rfl, by simp, by rw [World.cell?_alloc_at _ _ _ _ rfl]; rfl, h1.below b1⟩
  | 2, _ => exact ⟨w.heap.size, 0, v2, rfl, by simp, by rw [World.cell?_alloc_at _ _ _ _ rfl]; rfl, h2.below b1⟩
  | j + 3, h => simp at h; omega
theorem lists_lit1 (w : World) (b : Nat) (v0 : Value) (x0 : List Int) (h0 : Ints w v0 x0) (hb : b = w.heap.size) : Lists (w.alloc (.cells #[v0] 25)) (.slice (some ⟨b, 0, none⟩) 1 1) [x0] := by
  subst hb
  have b1 := below_new w (.cells #[v0] 25)
  refine ⟨_, _, _, rfl, rfl, by omega, ⟨by omega, by omega, fun h => by cases h⟩, fun j hj => ?_⟩
  match j, hj with
  | 0, _ => exact ⟨w.heap.size, 0, v0, rfl, by simp, by rw [World.cell?_alloc_at _ _ _ _ rfl]; rfl, h0.below b1⟩
  | j + 1, h => simp at h
theorem arcs_lit3 (w : World) (b : Nat) (a0 a1 a2 b0 b1 b2 c0 c1 c2 : Int) (hb : b = w.heap.size) :
    Arcs (w.alloc (.cells #[.int .i64 a0, .int .i64 a1, .int .i64 a2, .int .i64 b0, .int .i64 b1, .int .i64 b2, .int .i64 c0, .int .i64 c1, .int .i64 c2] 69)) (.slice (some ⟨b, 0, none⟩) 3 3) [(a0, a1, a2), (b0, b1, b2), (c0, c1, c2)] := by
  subst hb
  refine ⟨_, _, _, rfl, rfl, by omega, ⟨by omega, by omega, fun h => by cases h⟩, fun j hj => ?_⟩
  match j, hj with
  | 0, _ => exact ⟨w.heap.size, 0, rfl, by simp, by rw [World.cell?_alloc_at _ _ _ _ rfl]; rfl, by rw [World.cell?_alloc_at _ _ _ _ rfl]; rfl, by rw [World.cell?_alloc_at _ _ _ _ rfl]; rfl⟩
  | 1, _ => exact ⟨w.heap.size, 0, rfl, by simp, by rw [World.cell?_alloc_at _ _ _ _ rfl]; rfl, by rw [World.cell?_alloc_at _ _ _ _ rfl]; rfl, by rw [World.cell?_alloc_at _ _ _ _ rfl]; rfl⟩
  | 2, _ => exact ⟨w.heap.size, 0, rfl, by simp, by rw [World.cell?_alloc_at _ _ _ _ rfl]; rfl, by rw [World.cell?_alloc_at _ _ _ _ rfl]; rfl, by rw [World.cell?_alloc_at _ _ _ _ rfl]; rfl⟩
  | j + 3, h => simp at h; omega
theorem arcs_lit1 (w : World) (b : Nat) (a0 a1 a2 : Int) (hb : b = w.heap.size) :
    Arcs (w.alloc (.cells #[.int .i64 a0, .int .i64 a1, .int .i64 a2] 69)) (.slice (some ⟨b, 0, none⟩) 1 1) [(a0, a1, a2)] := by
  subst hb
  refine ⟨_, _, _, rfl, rfl, by omega, ⟨by omega, by omega, fun h => by cases h⟩, fun j hj => ?_⟩
  match j, hj with
  | 0, _ => exact ⟨w.heap.size, 0, rfl, by simp, by rw [World.cell?_alloc_at _ _ _ _ rfl]; rfl, by rw [World.cell?_alloc_at _ _ _ _ rfl]; rfl, by rw [World.cell?_alloc_at _ _ _ _ rfl]; rfl⟩
  | j + 1, h => simp at h

end Go.Proofs.Ytakgppoeikcepaa

/- Who comes where: a square of yes and no, plainly and in memory. -/
namespace Go.Proofs.Ytakgppoeikcepaa
open Go.RowKit
set_option linter.unusedVariables false
set_option maxRecDepth 4000

/-! ### plainly -/
def upd2 (M : Nat → Nat → Bool) (k b : Nat) : Nat → Nat → Bool := fun i j => if i = k ∧ j = b then true else M i j
def falF (M : Nat → Nat → Bool) (n : Nat) : Nat → Nat
  | 0 => 0
  | i + 1 => falF M n i + cntF (M i) n

theorem falF_same {M N : Nat → Nat → Bool} (n : Nat) : ∀ (i : Nat), (∀ k, k < i → ∀ j, N k j = M k j) → falF N n i = falF M n i
  | 0, _ => rfl
  | i + 1, h => by
    simp only [falF]
    rw [falF_same n i fun k hk => h k (by omega), cntF_same n fun j _ => h i (by omega) j]
theorem falF_set {M : Nat → Nat → Bool} {k b n : Nat} (hb : b < n) (hf : M k b = false) : ∀ (i : Nat), k < i → falF (upd2 M k b) n i + 1 = falF M n i
  | 0, h => absurd h (Nat.not_lt_zero _)
  | i + 1, h => by
    simp only [falF]
    by_cases e : k = i
    · subst e
      rw [falF_same n k fun x hx j => by unfold upd2; rw [if_neg (by omega)]]
      have := cntF_set (f := M k) (g := upd2 M k b k) (b := b) hf (by unfold upd2; simp) (fun j hj => by unfold upd2; rw [if_neg (by omega)]) n hb
      omega
    · have h1 := falF_set hb hf i (by omega)
      have h2 : cntF (upd2 M k b i) n = cntF (M i) n := cntF_same n fun j _ => by unfold upd2; rw [if_neg (by omega)]
      omega

structure MatOk (s : SpaceZ) (M : Nat → Nat → Bool) : Prop where
  refl : ∀ i : Nat, M i i = true
  sound : ∀ i j : Nat, i < s.marks.length → j < s.marks.length → M i j = true → Comes s i j
theorem MatOk.start (s : SpaceZ) : MatOk s (fun i j => decide (i = j)) :=
  ⟨fun i => by simp, fun i j _ _ h => by have : i = j := by simpa using h
                                         subst this; exact .here _⟩
theorem MatOk.put {s : SpaceZ} {M : Nat → Nat → Bool} (h : MatOk s M) {k f b : Nat} {y : Int} (hk : k < s.marks.length) (hf : f < s.marks.length) (ha : ((f : Int), y, (b : Int)) ∈ s.arcs) (hM : M k f = true) : MatOk s (upd2 M k b) := by
  refine ⟨fun i => ?_, fun i j hi hj hij => ?_⟩
  · unfold upd2
    split
    · rfl
    · exact h.refl i
  · unfold upd2 at hij
    split at hij
    · rename_i e
      obtain ⟨rfl, rfl⟩ := e
      exact Comes.go (a := ((f : Int), y, (j : Int))) (h.sound i f hk hf hM) ha
    · exact h.sound i j hi hj hij

/-- The first p arcs, and of the next one the first k rows, bring nothing new. -/
def ShutTo (s : SpaceZ) (M : Nat → Nat → Bool) (p k : Nat) : Prop :=
  ∀ q (hq : q < s.arcs.length) (f b i : Nat), s.arcs[q].1 = f → s.arcs[q].2.2 = b → i < s.marks.length → (q < p ∨ q = p ∧ i < k) → M i f = true → M i b = true
def Pass (s : SpaceZ) (M0 M : Nat → Nat → Bool) (again : Bool) (p k : Nat) : Prop :=
  MatOk s M ∧ if again then falF M s.marks.length s.marks.length < falF M0 s.marks.length s.marks.length else M = M0 ∧ ShutTo s M0 p k

theorem Pass.start {s : SpaceZ} {M : Nat → Nat → Bool} (h : MatOk s M) : Pass s M M false 0 0 :=
  ⟨h, rfl, fun q _ _ _ _ _ _ _ h => by omega⟩
theorem Pass.next {s : SpaceZ} {M0 M : Nat → Nat → Bool} {again : Bool} {p k : Nat} (h : Pass s M0 M again p k) (hk : s.marks.length ≤ k) : Pass s M0 M again (p + 1) 0 := by
  refine ⟨h.1, ?_⟩
  have h2 := h.2
  cases again
  · exact ⟨h2.1, fun q hq f b i e1 e2 hi hqp => h2.2 q hq f b i e1 e2 hi (by omega)⟩
  · exact h2
theorem Pass.skip {s : SpaceZ} {M0 M : Nat → Nat → Bool} {again : Bool} {p k f b : Nat} {y : Int} (h : Pass s M0 M again p k) (hp : p < s.arcs.length) (ha : s.arcs[p] = ((f : Int), y, (b : Int))) (hM : M k f = true → M k b = true) : Pass s M0 M again p (k + 1) := by
  refine ⟨h.1, ?_⟩
  have h2 := h.2
  cases again
  · refine ⟨h2.1, fun q hq f' b' i e1 e2 hi hqp => ?_⟩
    by_cases e : q = p ∧ i = k
    · obtain ⟨rfl, rfl⟩ := e
      rw [ha] at e1 e2
      simp only at e1 e2
      obtain rfl : f = f' := by omega
      obtain rfl : b = b' := by omega
      rw [← h2.1]
      exact hM
    · exact h2.2 q hq f' b' i e1 e2 hi (by omega)
  · exact h2
theorem Pass.put {s : SpaceZ} {M0 M : Nat → Nat → Bool} {again : Bool} {p k f b : Nat} {y : Int} (h : Pass s M0 M again p k) (hp : p < s.arcs.length) (ha : s.arcs[p] = ((f : Int), y, (b : Int))) (hk : k < s.marks.length) (hf : f < s.marks.length) (hb : b < s.marks.length)
    (h1 : M k f = true) (h2 : M k b = false) : Pass s M0 (upd2 M k b) true p (k + 1) := by
  refine ⟨h.1.put (y := y) hk hf (by rw [← ha]; exact List.getElem_mem hp) h1, ?_⟩
  show _ < _
  have e := falF_set (M := M) hb h2 s.marks.length hk
  have h3 := h.2
  cases again
  · obtain ⟨e1, _⟩ := h3
    subst e1
    omega
  · have h3 : falF M s.marks.length s.marks.length < falF M0 s.marks.length s.marks.length := h3
    omega

def IsReach (s : SpaceZ) (M : Nat → Nat → Bool) : Prop := ∀ i j : Nat, i < s.marks.length → j < s.marks.length → (M i j = true ↔ Comes s i j)
theorem Pass.reach {s : SpaceZ} {M0 M : Nat → Nat → Bool} {p : Nat} (hr : rightS s = true) (h : Pass s M0 M false p 0) (hp : s.arcs.length ≤ p) : IsReach s M := by
  obtain ⟨hok, rfl, hs⟩ := h
  intro i j hi hj
  refine ⟨hok.sound i j hi hj, fun hc => ?_⟩
  have key : ∀ {x y : Int}, Comes s x y → x = (i : Int) → ∃ g : Nat, y = g ∧ g < s.marks.length ∧ M i g = true := by
    intro x y hc
    induction hc using Comes.ind with
    | here => intro e; subst e; exact ⟨i, rfl, hi, hok.refl i⟩
    | go h1 h2 ih =>
      intro e
      obtain ⟨g, eg, hg, hM⟩ := ih e
      obtain ⟨q, hq, rfl⟩ := List.getElem_of_mem h2
      obtain ⟨_, _, r1, r2⟩ := rightS_iff.1 hr _ h2
      obtain ⟨b, eb⟩ := Int.eq_ofNat_of_zero_le r1
      exact ⟨b, eb, by omega, hs q hq g b i eg eb hi (by omega) hM⟩
  obtain ⟨g, eg, _, hM⟩ := key hc rfl
  obtain rfl : j = g := by omega
  exact hM

/-! ### in memory -/
structure MatAt (b : Nat) (w wr : World) (n : Nat) (rb : Nat → Nat) (k : Nat) (M : Nat → Nat → Bool) : Prop where
  rows : ∀ i, i < k → wr.cell? ⟨b, i, none⟩ = some (.slice (some ⟨rb i, 0, none⟩) n n)
  outer : ∀ i, i < n → (∃ u, wr.cell? ⟨b, i, none⟩ = some u) ∧ wr.frozen? ⟨b, i, none⟩ = false
  cells : ∀ i j, i < k → j < n → wr.cell? ⟨rb i, j, none⟩ = some (.bool (M i j))
  frozen : ∀ i j, i < k → j < n → wr.frozen? ⟨rb i, j, none⟩ = false
  newer : ∀ i, i < k → b < rb i ∧ rb i < wr.heap.size
  inj : ∀ i j, i < k → j < k → rb i = rb j → i = j
  below : Below b w wr
  size : b < wr.heap.size

theorem MatAt.to {b : Nat} {w wr w2 : World} {n : Nat} {rb : Nat → Nat} {k : Nat} {M : Nat → Nat → Bool} (h : MatAt b w wr n rb k M) (hb : Below wr.heap.size wr w2) : MatAt b w w2 n rb k M :=
  ⟨fun i hi => by rw [hb.cell (p := ⟨b, i, none⟩) h.size]; exact h.rows i hi,
   fun i hi => ⟨by rw [hb.cell (p := ⟨b, i, none⟩) h.size]; exact (h.outer i hi).1, by rw [hb.frozen (p := ⟨b, i, none⟩) h.size]; exact (h.outer i hi).2⟩,
   fun i j hi hj => by rw [hb.cell (p := ⟨rb i, j, none⟩) (h.newer i hi).2]; exact h.cells i j hi hj,
   fun i j hi hj => by rw [hb.frozen (p := ⟨rb i, j, none⟩) (h.newer i hi).2]; exact h.frozen i j hi hj,
   fun i hi => ⟨(h.newer i hi).1, Nat.lt_of_lt_of_le (h.newer i hi).2 hb.size⟩, h.inj, h.below.trans (hb.mono (Nat.le_of_lt h.size)), Nat.lt_of_lt_of_le h.size hb.size⟩

theorem MatAt.put {b : Nat} {w wr : World} {n : Nat} {rb : Nat → Nat} {k : Nat} {M : Nat → Nat → Bool} (h : MatAt b w wr n rb k M) {i j : Nat} (hi : i < k) (hj : j < n) : MatAt b w (wr.setCell ⟨rb i, j, none⟩ (.bool true)) n rb k (upd2 M i j) := by
  have ne : ∀ x, (⟨rb i, j, none⟩ : Addr) ≠ ⟨b, x, none⟩ := fun x e => by have := (h.newer i hi).1; injection e with e1 _; omega
  refine ⟨fun x hx => by rw [World.cell?_setCell_other _ _ _ _ (ne x)]; exact h.rows x hx, fun x hx => ⟨by rw [World.cell?_setCell_other _ _ _ _ (ne x)]; exact (h.outer x hx).1, by rw [World.frozen?_setCell]; exact (h.outer x hx).2⟩, fun x y hx hy => ?_,
    fun x y hx hy => by rw [World.frozen?_setCell]; exact h.frozen x y hx hy, fun x hx => ⟨(h.newer x hx).1, by simpa [World.setCell] using (h.newer x hx).2⟩, h.inj, h.below.setCell (Nat.le_of_lt (h.newer i hi).1) _, by simpa [World.setCell] using h.size⟩
  by_cases e : x = i ∧ y = j
  · obtain ⟨rfl, rfl⟩ := e
    rw [World.cell?_setCell_same _ _ _ (h.cells x y hx hy)]
    simp [upd2]
  · rw [World.cell?_setCell_other _ _ _ _ (by intro q; injection q with q1 q2; exact e ⟨(h.inj i x hi hx q1).symm, q2.symm⟩), h.cells x y hx hy]
    simp [upd2, e]

theorem info_bools : (Try.prog.info? 113).map (fun i => (i.zero, i.size, i.bytes)) = some (some (.slice none 0 0), 1, 24) := by kernel_rfl

theorem matAt_new {w w1 : World} {n : Nat} (hb : Below w.heap.size w w1) (hs : w.heap.size < w1.heap.size) (hc : ∀ j, j < n → w1.cell? ⟨w.heap.size, j, none⟩ = some (.slice none 0 0) ∧ w1.frozen? ⟨w.heap.size, j, none⟩ = false) (rb : Nat → Nat) (M : Nat → Nat → Bool) :
    MatAt w.heap.size w w1 n rb 0 M :=
  ⟨fun i hi => absurd hi (Nat.not_lt_zero _), fun i hi => ⟨⟨_, (hc i hi).1⟩, (hc i hi).2⟩, fun i j hi => absurd hi (Nat.not_lt_zero _), fun i j hi => absurd hi (Nat.not_lt_zero _), fun i hi => absurd hi (Nat.not_lt_zero _), fun i j hi => absurd hi (Nat.not_lt_zero _), hb, hs⟩

/-- One more row, with a yes where it meets itself. -/
theorem MatAt.grow {b : Nat} {w wr w2 : World} {n : Nat} {rb : Nat → Nat} {k : Nat} (h : MatAt b w wr n rb k (fun i j => decide (i = j))) (hk : k < n) (hb : Below wr.heap.size wr w2) (hs : wr.heap.size < w2.heap.size)
    (hc : ∀ j, j < n → w2.cell? ⟨wr.heap.size, j, none⟩ = some (.bool false) ∧ w2.frozen? ⟨wr.heap.size, j, none⟩ = false) :
    MatAt b w ((w2.setCell ⟨b, k, none⟩ (.slice (some ⟨wr.heap.size, 0, none⟩) n n)).setCell ⟨wr.heap.size, k, none⟩ (.bool true)) n (fun i => if i = k then wr.heap.size else rb i) (k + 1) (fun i j => decide (i = j)) := by
  have h2 := h.to hb
  have hbs := h.size
  have nb : ∀ x y, (⟨wr.heap.size, x, none⟩ : Addr) ≠ ⟨b, y, none⟩ := fun x y e => by injection e with e1 _; omega
  have nr : ∀ i, i < k → ∀ x y, (⟨wr.heap.size, x, none⟩ : Addr) ≠ ⟨rb i, y, none⟩ := fun i hi x y e => by have := (h.newer i hi).2; injection e with e1 _; omega
  have no : ∀ i, i < k → ∀ x y, (⟨b, x, none⟩ : Addr) ≠ ⟨rb i, y, none⟩ := fun i hi x y e => by have := (h.newer i hi).1; injection e with e1 _; omega
  refine ⟨fun i hi => ?_, fun i hi => ?_, fun i j hi hj => ?_, fun i j hi hj => ?_, fun i hi => ?_, fun i j hi hj e => ?_, (h2.below.setCell (Nat.le_refl _) _).setCell (Nat.le_of_lt hbs) _, by simpa [World.setCell] using h2.size⟩
  · rw [World.cell?_setCell_other _ _ _ _ (nb _ _)]
    by_cases e : i = k
    · subst e
      obtain ⟨u, hu⟩ := (h2.outer i hk).1
      rw [World.cell?_setCell_same _ _ _ hu, if_pos rfl]
    · rw [World.cell?_setCell_other _ _ _ _ (by intro q; injection q with _ q2; omega), if_neg e]
      exact h2.rows i (by omega)
  · refine ⟨?_, by rw [World.frozen?_setCell, World.frozen?_setCell]; exact (h2.outer i hi).2⟩
    rw [World.cell?_setCell_other _ _ _ _ (nb _ _)]
    by_cases e : i = k
    · subst e
      obtain ⟨u, hu⟩ := (h2.outer i hk).1
      exact ⟨_, World.cell?_setCell_same _ _ _ hu⟩
    · rw [World.cell?_setCell_other _ _ _ _ (by intro q; injection q with _ q2; omega)]
      exact (h2.outer i hi).1
  · by_cases e : i = k
    · subst e
      simp only [if_true]
      by_cases e2 : j = i
      · subst e2
        rw [World.cell?_setCell_same (u := .bool false) _ _ _ (by rw [World.cell?_setCell_other _ _ _ _ (fun q => nb _ _ q.symm)]; exact (hc j hj).1)]
        simp
      · rw [World.cell?_setCell_other _ _ _ _ (by intro q; injection q with _ q2; omega), World.cell?_setCell_other _ _ _ _ (fun q => nb _ _ q.symm), (hc j hj).1]
        have : ¬ i = j := by omega
        simp [this]
    · simp only [if_neg e]
      rw [World.cell?_setCell_other _ _ _ _ (nr i (by omega) _ _), World.cell?_setCell_other _ _ _ _ (no i (by omega) _ _)]
      exact h2.cells i j (by omega) hj
  · rw [World.frozen?_setCell, World.frozen?_setCell]
    by_cases e : i = k
    · simp only [if_pos e]; exact (hc j hj).2
    · simp only [if_neg e]; exact h2.frozen i j (by omega) hj
  · by_cases e : i = k
    · simp only [if_pos e]; exact ⟨hbs, by simpa [World.setCell] using hs⟩
    · simp only [if_neg e]; exact ⟨(h2.newer i (by omega)).1, by simpa [World.setCell] using (h2.newer i (by omega)).2⟩
  · by_cases e1 : i = k
    · by_cases e2 : j = k
      · omega
      · simp only [if_pos e1, if_neg e2] at e
        have := (h.newer j (by omega)).2
        omega
    · by_cases e2 : j = k
      · simp only [if_neg e1, if_pos e2] at e
        have := (h.newer i (by omega)).2
        omega
      · simp only [if_neg e1, if_neg e2] at e
        exact h.inj i j (by omega) (by omega) e

theorem box3_put {w : World} {b : Nat} {x y z u : Value} {p : Addr} (h : Box3 w b x y z) (hp : p.block ≠ b) : Box3 (w.setCell p u) b x y z := by
  have ne : ∀ j, (⟨b, j, none⟩ : Addr) ≠ p := fun j e => hp (by rw [← e])
  refine ⟨by simpa [World.setCell] using h.1, ?_, ?_, ?_⟩
  · rw [World.cell?_setCell_other _ _ _ _ (Ne.symm (ne 0))]; exact h.2.1
  · rw [World.cell?_setCell_other _ _ _ _ (Ne.symm (ne 1))]; exact h.2.2.1
  · rw [World.cell?_setCell_other _ _ _ _ (Ne.symm (ne 2))]; exact h.2.2.2

/-- As it is read. -/
structure MatR (w : World) (b n : Nat) (rb : Nat → Nat) (M : Nat → Nat → Bool) : Prop where
  lt : b < w.heap.size
  rows : ∀ i, i < n → w.cell? ⟨b, i, none⟩ = some (.slice (some ⟨rb i, 0, none⟩) n n)
  rlt : ∀ i, i < n → rb i < w.heap.size
  cells : ∀ i j, i < n → j < n → w.cell? ⟨rb i, j, none⟩ = some (.bool (M i j))
theorem MatR.below {w w' : World} {b n : Nat} {rb : Nat → Nat} {M : Nat → Nat → Bool} (h : MatR w b n rb M) (hb : Below w.heap.size w w') : MatR w' b n rb M :=
  ⟨Nat.lt_of_lt_of_le h.lt hb.size, fun i hi => by rw [hb.cell (p := ⟨b, i, none⟩) h.lt]; exact h.rows i hi, fun i hi => Nat.lt_of_lt_of_le (h.rlt i hi) hb.size, fun i j hi hj => by rw [hb.cell (p := ⟨rb i, j, none⟩) (h.rlt i hi)]; exact h.cells i j hi hj⟩
theorem MatAt.read {b : Nat} {w wr : World} {n : Nat} {rb : Nat → Nat} {M : Nat → Nat → Bool} (h : MatAt b w wr n rb n M) : MatR wr b n rb M :=
  ⟨h.size, h.rows, fun i hi => (h.newer i hi).2, h.cells⟩

end Go.Proofs.Ytakgppoeikcepaa
