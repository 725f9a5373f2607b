import Derived.Test.YtffaamljogbmlaaGr00
import Derived.Test.YtffaamljogbmlaaGr02
import Derived.Deep.DeepCutAuto
import Derived.Test.YtffaamljogbmlaaGr03
import Derived.Deep.RegionHeld3
/- The answers of the document itself for nets. -/
namespace Go.Proofs.Ytffaamljogbmlaa
open Go.RowKit
set_option linter.unusedVariables false
set_option maxRecDepth 4000

def weightOk (x : Int) : Bool := decide (0 ≤ x) && decide (x ≤ 9)
def tranHead (p : Int) (t : TranL) : Bool := decide (0 ≤ t.label) && decide (t.label ≤ 26) && ((t.pre.length : Int) == p) && ((t.post.length : Int) == p)
def tranOk (p : Int) (t : TranL) : Bool := tranHead p t && (t.pre ++ t.post).all weightOk
def headOk (n : NetL) : Bool := decide (0 ≤ n.places) && decide (n.places ≤ 16) && decide (n.trans.length ≤ 24)
def okTo (n : NetL) (k : Nat) : Bool := headOk n && (n.trans.take k).all (tranOk n.places)
def netOk (n : NetL) : Bool := headOk n && n.trans.all (tranOk n.places)
def wrongL (n : NetL) : Int := if netOk n then 0 else 2

theorem okTo_succ (n : NetL) (k : Nat) (h : k < n.trans.length) : okTo n (k + 1) = (okTo n k && tranOk n.places (tranAt n.trans k)) := by
  unfold okTo
  rw [List.take_succ_eq_append_getElem h, List.all_append]
  simp [tranAt, List.getD, List.getElem?_eq_getElem h, Bool.and_assoc]
theorem okTo_all (n : NetL) (k : Nat) (h : n.trans.length ≤ k) : okTo n k = netOk n := by
  unfold okTo netOk; rw [List.take_of_length_le h]


/-- All of the first j are weights. -/
def weighTo (zs : List Int) (j : Nat) : Bool := (zs.take j).all weightOk
theorem weighTo_succ (zs : List Int) (j : Nat) (h : j < zs.length) : weighTo zs (j + 1) = (weighTo zs j && weightOk (nth zs j)) := by
  unfold weighTo
  rw [List.take_succ_eq_append_getElem h, List.all_append]
  simp [nth, List.getD, List.getElem?_eq_getElem h]
theorem weighTo_all (zs : List Int) (j : Nat) (h : zs.length ≤ j) : weighTo zs j = zs.all weightOk := by
  unfold weighTo; rw [List.take_of_length_le h]

set_option maxHeartbeats 1000000 in
theorem bwrong_any (v : Value) (n : NetL) (w : World) (hv : Net w v n) (hsm : SmallNet n) :
    Calls Try.prog 29 #[v] w fun e w' => e = .returned (.int .i64 (wrongL n)) ∧ Below w.heap.size w w' := by
  obtain ⟨tv, rfl, hT⟩ := hv
  have b1 := below_new w (.cells #[.int .i64 n.places, tv] 24)
  have hT1 := hT.below b1
  have hbx := box2_new w (.int .i64 n.places) tv 24
  obtain ⟨a, len, cap, rfl, hlen, hmx, hsh, hr⟩ := hT
  have Hsm : Hid (SmallNet n) := hsm
  clear hsm hr
  go_enter Try.func29, Try.ntmps29
  go_upto_region 1 with fail
  go_cut [3] (fun o wc => o = .bool (headOk n) ∧ Below w.heap.size w wc ∧ Trans wc (.slice a len cap) n.trans ∧ Box2 wc w.heap.size (.int .i64 n.places) (.slice a len cap))
  case first =>
    go_wp2_with fail
    all_goals go_meet
    all_goals refine ⟨?_, b1, hT1, hbx⟩
    all_goals simp [headOk, *]
    all_goals omega
  case rest =>
    clear b1 hT1 hbx
    obtain ⟨rfl, b1, hT1, hbx⟩ := hcut
    obtain ⟨w0, rfl⟩ : ∃ w0, w0 = wc := ⟨_, rfl⟩
    have hbx0 := hbx
    obtain ⟨hx0, hx1, hx2⟩ := hbx
    go_wp2_with fail
    clear hx0 hx1 hx2
    go_loopg [3, 25] len (fun g o i wr => ∃ k : Nat, k + g = len ∧ i = .int .i64 k ∧ o = .bool (okTo n k) ∧ Below w0.heap.size w0 wr)
    case atStart => exact ⟨0, by omega, rfl, by simp [okTo], Below.refl _ _⟩
    case round =>
      obtain ⟨k, hkg, rfl, rfl, hb⟩ := hrel
      have hT2 := hT1.below hb
      have hb2 := hbx0.below hb
      by_cases hkn : k < len
      · obtain ⟨b, off, c1, c2, rfl, hblt, h0, h1, h2, i1, i2⟩ := hT2.at hkn
        have j1 := i1
        have j2 := i2
        obtain ⟨a1, l1, p1, rfl, hl1, hm1, hs1, hr1⟩ := i1
        obtain ⟨a2, l2, p2, rfl, hl2, hm2, hs2, hr2⟩ := i2
        obtain ⟨hx0, hx1, hx2⟩ := hb2
        have Hok : Hid _ := okTo_succ n k (by omega)
        have Hth : Hid (tranHead n.places (tranAt n.trans k) = (decide (0 ≤ (tranAt n.trans k).label) && decide ((tranAt n.trans k).label ≤ 26) && ((l1 : Int) == n.places) && ((l2 : Int) == n.places))) := by
          show _ = _; unfold tranHead; rw [hl1, hl2]
        clear hr1 hr2 hT2
        have hsmt := Hsm.out k (by omega)
        generalize tranAt n.trans k = t at *
        generalize okTo n k = okk at *
        go_upto_region 5 with fail
        go_cut [3] (fun o wd => o = .bool (okk && tranHead n.places t) ∧ wd = wr.alloc (.cells #[.int .i64 t.label, .slice a1 l1 p1, .slice a2 l2 p2] 54))
        case first =>
          cases okk
          · go_wp2_with fail
            go_meet
            exact ⟨rfl, rfl⟩
          by_cases q1 : 0 ≤ t.label
          case neg =>
            have F : Hid (tranHead n.places t = false) := by show _ = _; rw [Hth.out]; rw [decide_eq_false q1]; rfl
            go_wp2_with fail
            go_meet
            exact ⟨by rw [F.out]; rfl, rfl⟩
          by_cases q2 : t.label ≤ 26
          case neg =>
            have F : Hid (tranHead n.places t = false) := by show _ = _; rw [Hth.out]; rw [decide_eq_false q2]; simp
            go_wp2_with fail
            go_meet
            exact ⟨by rw [F.out]; rfl, rfl⟩
          cases q3 : ((l1 : Int) == n.places)
          case false =>
            have F : Hid (tranHead n.places t = false) := by show _ = _; rw [Hth.out]; rw [q3]; simp
            go_wp2_with fail
            go_meet
            exact ⟨by rw [F.out]; rfl, rfl⟩
          cases q4 : ((l2 : Int) == n.places)
          case false =>
            have F : Hid (tranHead n.places t = false) := by show _ = _; rw [Hth.out]; rw [q4]; simp
            go_wp2_with fail
            go_meet
            exact ⟨by rw [F.out]; rfl, rfl⟩
          case true =>
            have F : Hid (tranHead n.places t = true) := by show _ = _; rw [Hth.out]; rw [q3, q4, decide_eq_true q1, decide_eq_true q2]; rfl
            go_wp2_with fail
            go_meet
            exact ⟨by rw [F.out]; rfl, rfl⟩
        case rest =>
          obtain ⟨rfl, hwd⟩ := hcut
          obtain ⟨wd, rfl⟩ : ∃ wd, wd = wc := ⟨_, rfl⟩
          have e1 := below_new wr (.cells #[.int .i64 t.label, .slice a1 l1 p1, .slice a2 l2 p2] 54)
          have hbd : Below wr.heap.size wr wd := by rw [hwd]; exact e1
          have hc1 : wd.cell? ⟨wr.heap.size, 1, none⟩ = some (.slice a1 l1 p1) := by rw [hwd, World.cell?_alloc_at _ _ _ _ rfl]; rfl
          have hc2 : wd.cell? ⟨wr.heap.size, 2, none⟩ = some (.slice a2 l2 p2) := by rw [hwd, World.cell?_alloc_at _ _ _ _ rfl]; rfl
          clear e1 hwd h0 h1 h2
          have j1 := j1.below hbd
          have j2 := j2.below hbd
          have Hok2 : Hid (okTo n (k + 1) = ((okk && tranHead n.places t) && (t.pre ++ t.post).all weightOk)) := by
            show _ = _; rw [Hok.out, tranOk, Bool.and_assoc]
          obtain ⟨okA, HA⟩ : ∃ okA, Hid ((okk && tranHead n.places t) = okA) := ⟨_, rfl⟩
          rw [HA.out] at Hok2
          rw [HA.out]
          clear Hok HA
          go_wp2_with fail
          refine (concat_any _ [t.pre, t.post] _ (by exact lists_lit2 wd _ _ _ _ _ _ j1 j2 rfl) (by simpa using hsmt)).mono ?_
          rintro e w2 ⟨r, rfl, hR, hbe⟩
          have hbw : Below w0.heap.size w0 w2 := (below_then hb (below_then hbd (below_then (below_new _ _) hbe)))
          have hR2 : Ints w2 r (t.pre ++ t.post) := by simpa using hR
          clear hR hbe hbd hc1 hc2 j1 j2 hb hx0 hx1 hx2
          generalize t.pre ++ t.post = zs at *
          obtain ⟨ar, lr, cr, rfl, hlr, hmr, hsr, hrr⟩ := hR2
          go_wp2_with fail
          go_loop [3, 63] (fun o i => ∃ j : Nat, j ≤ lr ∧ i = .int .i64 j ∧ o = .bool (okA && weighTo zs j)) (fun _ i => lr - (intOf i).toNat)
          case atStart => exact ⟨0, Nat.zero_le _, rfl, by simp [weighTo]⟩
          case round =>
            obtain ⟨j, hj, rfl, rfl⟩ := hrel
            by_cases hjn : j < lr
            · obtain ⟨bq, oq, rfl, hbq, hcq⟩ := hrr j (by omega)
              have hst := weighTo_succ zs j (by omega)
              cases hA : (okA && weighTo zs j)
              · have Hs : Hid ((okA && weighTo zs (j + 1)) = false) := by show _ = _; rw [hst, ← Bool.and_assoc, hA]; rfl
                clear hst hA hrr
                go_wp2
                go_round
                case rel => exact ⟨j + 1, by omega, by go_num, by rw [Hs.out]⟩
                case measure => simp [intOf]; omega
              · have Hs : Hid ((okA && weighTo zs (j + 1)) = weightOk (nth zs j)) := by show _ = _; rw [hst, ← Bool.and_assoc, hA]; rfl
                clear hst hA hrr
                by_cases q1 : 0 ≤ nth zs j
                · by_cases q2 : nth zs j ≤ 9
                  · go_wp2
                    go_round
                    case rel => exact ⟨j + 1, by omega, by go_num, by rw [Hs.out]; simp [weightOk, q1, q2]⟩
                    case measure => simp [intOf]; omega
                  · go_wp2
                    go_round
                    case rel => exact ⟨j + 1, by omega, by go_num, by rw [Hs.out]; simp [weightOk]; omega⟩
                    case measure => simp [intOf]; omega
                · go_wp2
                  go_round
                  case rel => exact ⟨j + 1, by omega, by go_num, by rw [Hs.out]; simp [weightOk]; omega⟩
                  case measure => simp [intOf]; omega
            · have Hw : Hid (okTo n (k + 1) = (okA && weighTo zs j)) := by show _ = _; rw [Hok2.out, weighTo_all zs j (by omega)]
              clear hrr
              go_wp2
              go_roundg (gk - 1)
              case measure => omega
              case rel => exact ⟨k + 1, by omega, by go_num, by rw [Hw.out], hbw⟩
      · have hfin := okTo_all n k (by omega)
        rw [hfin]
        clear hfin hT2 hb2
        cases hno : netOk n
        · have Hw : Hid (wrongL n = 2) := by show _ = _; simp [wrongL, hno]
          clear hno
          go_wp2
          go_ret
          exact ⟨ret_int Hw.out.symm, below_then b1 hb⟩
        · have Hw : Hid (wrongL n = 0) := by show _ = _; simp [wrongL, hno]
          clear hno
          go_wp2
          go_ret
          exact ⟨ret_int Hw.out.symm, below_then b1 hb⟩

end Go.Proofs.Ytffaamljogbmlaa

/- The answers of the document itself for nets: which fit, who can. -/
namespace Go.Proofs.Ytffaamljogbmlaa
open Go.RowKit
set_option linter.unusedVariables false
set_option maxRecDepth 4000

/-- A net, and a mark of it. -/
def fitsL (n : NetL) (m : List Int) : Bool := netOk n && ((m.length : Int) == n.places) && rightL m

theorem wrongL_ok {n : NetL} (h : netOk n = true) : wrongL n = 0 := by simp [wrongL, h]
theorem wrongL_not {n : NetL} (h : netOk n = false) : wrongL n = 2 := by simp [wrongL, h]

set_option maxHeartbeats 400000 in
theorem bfits_any (v u : Value) (n : NetL) (m : List Int) (w : World) (hv : Net w v n) (hu : Ints w u m) (hsm : SmallNet n) :
    Calls Try.prog 38 #[v, u] w fun e w' => e = .returned (.bool (fitsL n m)) ∧ Below w.heap.size w w' := by
  obtain ⟨tv, rfl, hT⟩ := hv
  have b1 := below_new w (.cells #[.int .i64 n.places, tv] 24)
  have hbx := box2_new w (.int .i64 n.places) tv 24
  have hu1 := hu.below b1
  have hv1 : Net _ _ n := ⟨tv, rfl, hT.below b1⟩
  go_enter Try.func38, Try.ntmps38
  go_wp2_with fail
  refine (bwrong_any _ n _ (by exact hv1) hsm).mono ?_
  rintro e w1 ⟨rfl, b2⟩
  have b3 := below_then b1 b2
  have hu2 := hu1.below b2
  obtain ⟨hx0, hx1, hx2⟩ := hbx.below b2
  clear b1 b2 hbx hu1 hv1
  have hu3 := hu2
  obtain ⟨a, len, cap, rfl, hlen, hmx, hsh, hr⟩ := hu2
  clear hr
  cases h1 : netOk n
  · rw [wrongL_not h1]
    have F : Hid (fitsL n m = false) := by show _ = _; simp [fitsL, h1]
    clear h1
    go_wp2
    go_ret
    exact ⟨ret_bool F.out.symm, b3⟩
  · rw [wrongL_ok h1]
    cases h2 : ((len : Int) == n.places)
    · have F : Hid (fitsL n m = false) := by show _ = _; unfold fitsL; rw [hlen, h2]; simp
      clear h1
      go_wp2
      go_ret
      exact ⟨ret_bool F.out.symm, b3⟩
    · have F : Hid (fitsL n m = rightL m) := by show _ = _; unfold fitsL; rw [h1, hlen, h2]; simp
      clear h1
      go_wp2_with fail
      refine (aright_any _ m _ hu3).mono ?_
      rintro e w' ⟨rfl, rfl⟩
      go_wp2
      go_ret
      exact ⟨ret_bool F.out.symm, b3⟩

/-- Whose tokens are there, of the first k. -/
def canTo (n : NetL) (m : List Int) (k : Nat) : List Int := ((List.range k).filter fun t => coversL m (tranAt n.trans t).pre).map fun t => ((t : Nat) : Int)
theorem canTo_yes (n : NetL) (m : List Int) (k : Nat) (h : coversL m (tranAt n.trans k).pre = true) : canTo n m (k + 1) = canTo n m k ++ [(k : Int)] := by
  simp [canTo, List.range_succ, List.filter_append, h]
theorem canTo_no (n : NetL) (m : List Int) (k : Nat) (h : coversL m (tranAt n.trans k).pre = false) : canTo n m (k + 1) = canTo n m k := by
  simp [canTo, List.range_succ, List.filter_append, h]
theorem canTo_le (n : NetL) (m : List Int) (k : Nat) : (canTo n m k).length ≤ k := by
  simp only [canTo, List.length_map]
  exact Nat.le_trans (List.length_filter_le _ _) (by simp)

/-- Who can. -/
def canL (n : NetL) (m : List Int) : List Int × Int := if fitsL n m then (canTo n m n.trans.length, 0) else ([], 2)
theorem canL_yes {n : NetL} {m : List Int} (h : fitsL n m = true) : canL n m = (canTo n m n.trans.length, 0) := by simp [canL, h]
theorem canL_no {n : NetL} {m : List Int} (h : fitsL n m = false) : canL n m = ([], 2) := by simp [canL, h]

end Go.Proofs.Ytffaamljogbmlaa

/- The answers of the document itself for nets: one fires. -/
namespace Go.Proofs.Ytffaamljogbmlaa
open Go.RowKit
set_option linter.unusedVariables false
set_option maxRecDepth 4000

def addL (xs ys : List Int) : List Int := zipL (fun x1 x2 => x1 + x2) xs ys
def subL (xs ys : List Int) : List Int := zipL (fun x1 x2 => x1 - x2) xs ys

/-- One fires. -/
def fireL (n : NetL) (m : List Int) (t : Int) : List Int × Int :=
  if fitsL n m then
    (if decide (0 ≤ t) && decide (t < n.trans.length) && coversL m (tranAt n.trans t.toNat).pre then
      (if rightL (addL (subL m (tranAt n.trans t.toNat).pre) (tranAt n.trans t.toNat).post) then (addL (subL m (tranAt n.trans t.toNat).pre) (tranAt n.trans t.toNat).post, 0) else ([], 4))
    else ([], 3))
  else ([], 2)

theorem fits_net {n : NetL} {m : List Int} (h : fitsL n m = true) : netOk n = true ∧ (m.length : Int) = n.places ∧ rightL m = true := by
  simp only [fitsL, Bool.and_eq_true, beq_iff_eq] at h
  exact ⟨h.1.1, h.1.2, h.2⟩
theorem net_tran {n : NetL} (h : netOk n = true) {k : Nat} (hk : k < n.trans.length) : tranOk n.places (tranAt n.trans k) = true := by
  simp only [netOk, Bool.and_eq_true] at h
  have := List.all_eq_true.1 h.2 _ (List.getElem_mem hk)
  simpa [tranAt, List.getD, List.getElem?_eq_getElem hk] using this
theorem weights_right {xs : List Int} (h : xs.all weightOk = true) : rightL xs = true := by
  rw [rightL_iff]
  intro j
  by_cases hj : j < xs.length
  · have := List.all_eq_true.1 h _ (List.getElem_mem hj)
    simp only [weightOk, Bool.and_eq_true, decide_eq_true_eq] at this
    simp only [nth, List.getD, List.getElem?_eq_getElem hj, Option.getD_some]
    omega
  · rw [nth_past xs j (by omega)]; omega
theorem tran_right {p : Int} {t : TranL} (h : tranOk p t = true) : rightL t.pre = true ∧ rightL t.post = true := by
  simp only [tranOk, Bool.and_eq_true, List.all_append] at h
  exact ⟨weights_right h.2.1, weights_right h.2.2⟩

end Go.Proofs.Ytffaamljogbmlaa

/- The answers of the document itself for nets: one behind the other. -/
namespace Go.Proofs.Ytffaamljogbmlaa
open Go.RowKit
set_option linter.unusedVariables false
set_option maxRecDepth 4000

/-- One behind the other. -/
def runL (n : NetL) : List Int → List Int → List Int × Int
  | m, [] => if fitsL n m then (m, 0) else ([], 2)
  | m, t :: ts => if fitsL n m then (if (fireL n m t).2 == 0 then runL n (fireL n m t).1 ts else ([], (fireL n m t).2)) else ([], 2)

end Go.Proofs.Ytffaamljogbmlaa

/- The answers of the document itself for nets: the other way round. -/
namespace Go.Proofs.Ytffaamljogbmlaa
open Go.RowKit
set_option linter.unusedVariables false
set_option maxRecDepth 4000

def turnT (t : TranL) : TranL := ⟨t.label, t.post, t.pre⟩
def turnL (n : NetL) : NetL := ⟨n.places, n.trans.map turnT⟩
theorem turn_at (ts : List TranL) (j : Nat) (h : j < ts.length) : tranAt (ts.map turnT) j = turnT (tranAt ts j) := by
  simp [tranAt, List.getD, List.getElem?_map, List.getElem?_eq_getElem h]

/-- The first of them, turned, as cells. -/
def TurnedTo (w : World) (ts : List TranL) (tv : List (Int × Value × Value)) : Prop :=
  ∀ j (hj : j < tv.length), tv[j].1 = (tranAt ts j).label ∧ Ints w tv[j].2.1 (tranAt ts j).post ∧ Ints w tv[j].2.2 (tranAt ts j).pre
theorem TurnedTo.nil (w : World) (ts : List TranL) : TurnedTo w ts [] := fun j hj => absurd hj (by simp)
theorem TurnedTo.snoc {w : World} {ts : List TranL} {tv : List (Int × Value × Value)} (h : TurnedTo w ts tv) {l : Int} {c1 c2 : Value}
    (hl : l = (tranAt ts tv.length).label) (h1 : Ints w c1 (tranAt ts tv.length).post) (h2 : Ints w c2 (tranAt ts tv.length).pre) : TurnedTo w ts (tv ++ [(l, c1, c2)]) := by
  intro j hj
  by_cases hjl : j < tv.length
  · rw [List.getElem_append_left hjl]; exact h j hjl
  · have e : j = tv.length := by simp at hj; omega
    subst e
    rw [List.getElem_append_right (Nat.le_refl _)]
    simp only [Nat.sub_self, List.getElem_cons_zero]
    exact ⟨hl, h1, h2⟩

end Go.Proofs.Ytffaamljogbmlaa

/- Whether two nets are the same, as the document itself asks it. -/
namespace Go.Proofs.Ytffaamljogbmlaa
open Go.RowKit
set_option linter.unusedVariables false
set_option maxRecDepth 4000

def sameT (t u : TranL) : Bool := (t.label == u.label) && (t.pre == u.pre) && (t.post == u.post)
def sameTo (ts us : List TranL) (k : Nat) : Bool := (List.range k).all fun j => sameT (tranAt ts j) (tranAt us j)
def sameTs (ts us : List TranL) : Bool := (ts.length == us.length) && sameTo ts us ts.length
def sameN (n m : NetL) : Bool := (n.places == m.places) && sameTs n.trans m.trans

theorem sameTo_succ (ts us : List TranL) (k : Nat) : sameTo ts us (k + 1) = (sameTo ts us k && sameT (tranAt ts k) (tranAt us k)) := by
  unfold sameTo; rw [List.range_succ, List.all_append]; simp
theorem sameTo_false (ts us : List TranL) (n k : Nat) (h : k < n) (hf : sameT (tranAt ts k) (tranAt us k) = false) : sameTo ts us n = false := by
  unfold sameTo; rw [List.all_eq_false]; exact ⟨k, by simpa using h, by simp [hf]⟩


set_option maxHeartbeats 400000 in
theorem same1_any (t u : TranL) (c1 c2 d1 d2 : Value) (w : World) (h1 : Ints w c1 t.pre) (h2 : Ints w c2 t.post) (k1 : Ints w d1 u.pre) (k2 : Ints w d2 u.post) :
    Calls Try.prog 41 #[.agg #[.int .i64 t.label, c1, c2], .agg #[.int .i64 u.label, d1, d2]] w fun e w' => e = .returned (.bool (sameT t u)) ∧ Below w.heap.size w w' := by
  obtain ⟨a1, l1, p1, rfl, _, _, _, _⟩ := id h1
  obtain ⟨a2, l2, p2, rfl, _, _, _, _⟩ := id h2
  obtain ⟨a3, l3, p3, rfl, _, _, _, _⟩ := id k1
  obtain ⟨a4, l4, p4, rfl, _, _, _, _⟩ := id k2
  have b1 := below_new w (.cells #[.int .i64 t.label, .slice a1 l1 p1, .slice a2 l2 p2] 54)
  have b2 := below_new (w.alloc (.cells #[.int .i64 t.label, .slice a1 l1 p1, .slice a2 l2 p2] 54)) (.cells #[.int .i64 u.label, .slice a3 l3 p3, .slice a4 l4 p4] 54)
  have b3 := below_then b1 b2
  have x1 := (box3_new w (.int .i64 t.label) (.slice a1 l1 p1) (.slice a2 l2 p2) 54).below b2
  have x2 := box3_new (w.alloc (.cells #[.int .i64 t.label, .slice a1 l1 p1, .slice a2 l2 p2] 54)) (.int .i64 u.label) (.slice a3 l3 p3) (.slice a4 l4 p4) 54
  have h1' := h1.below b3
  have h2' := h2.below b3
  have k1' := k1.below b3
  have k2' := k2.below b3
  have E : Hid (sameT t u = ((t.label == u.label) && (t.pre == u.pre) && (t.post == u.post))) := rfl
  cases q1 : (t.label == u.label)
  · have F : Hid (sameT t u = false) := by show _ = _; rw [E.out, q1]; rfl
    go_enter Try.func41, Try.ntmps41
    go_wp2
    go_ret
    exact ⟨ret_bool F.out.symm, b3⟩
  · go_enter Try.func41, Try.ntmps41
    go_wp2_with fail
    refine (equal_b _ _ t.pre u.pre _ (by exact h1') (by exact k1')).mono ?_
    rintro e w2 ⟨rfl, b4⟩
    have h2'' := h2'.below b4
    have k2'' := k2'.below b4
    obtain ⟨y0, y1, y2, y3⟩ := x1.below b4
    obtain ⟨z0, z1, z2, z3⟩ := x2.below b4
    simp only [World.size_alloc] at z0 z1 z2 z3
    cases q2 : (t.pre == u.pre)
    · have F : Hid (sameT t u = false) := by show _ = _; rw [E.out, q1, q2]; rfl
      go_wp2
      go_ret
      exact ⟨ret_bool F.out.symm, below_then b3 b4⟩
    · go_wp2_with fail
      refine (equal_b _ _ t.post u.post _ (by exact h2'') (by exact k2'')).mono ?_
      rintro e w3 ⟨rfl, b5⟩
      have F : Hid (sameT t u = (t.post == u.post)) := by show _ = _; rw [E.out, q1, q2]; rfl
      go_wp2
      go_ret
      exact ⟨ret_bool F.out.symm, below_then b3 (below_then b4 b5)⟩

theorem Trans.get {w : World} {v : Value} {ts : List TranL} (h : Trans w v ts) : ∃ a len cap, v = .slice a len cap ∧ ts.length = len ∧ len ≤ 2513169434916 := by
  obtain ⟨a, len, cap, e, hl, hm, _, _⟩ := h; exact ⟨a, len, cap, e, hl, hm⟩

set_option maxHeartbeats 1000000 in
theorem equalfunc_any (v u : Value) (ts us : List TranL) (w : World) (hv : Trans w v ts) (hu : Trans w u us) :
    Calls Try.prog 40 #[v, u, .func (.func 41) #[] #[]] w fun e w' => e = .returned (.bool (sameTs ts us)) ∧ Below w.heap.size w w' := by
  obtain ⟨a, la, ca, rfl, hla, hma⟩ := hv.get
  obtain ⟨b, lb, cb, rfl, hlb, hmb⟩ := hu.get
  have HE : Hid (sameTs ts us = ((la == lb) && sameTo ts us la)) := by show _ = _; unfold sameTs; rw [hla, hlb]
  by_cases hl : la = lb
  · subst hl
    have e1 : (((la : Nat) : Int) != (la : Int)) = false := by simp
    go_enter Try.func40, Try.ntmps40
    go_wp2_with fail
    go_loopg [17] la (fun g i wr => ∃ k : Nat, k + g = la ∧ i = .int .i64 k ∧ Hid (sameTo ts us k = true) ∧ Below w.heap.size w wr)
    case atStart => exact ⟨0, by omega, rfl, rfl, Below.refl _ _⟩
    case round =>
      obtain ⟨k, hkg, rfl, Hs, hb⟩ := hrel
      by_cases hkn : k < la
      · obtain ⟨b1, o1, c1, c2, rfl, hblt, h0, h1, h2, i1, i2⟩ := (hv.below hb).at hkn
        obtain ⟨b2, o2, d1, d2, rfl, hblt', g0, g1, g2, j1, j2⟩ := (hu.below hb).at hkn
        obtain ⟨a1, l1, p1, rfl, _, _, _, _⟩ := id i1
        obtain ⟨a2, l2, p2, rfl, _, _, _, _⟩ := id i2
        obtain ⟨a3, l3, p3, rfl, _, _, _, _⟩ := id j1
        obtain ⟨a4, l4, p4, rfl, _, _, _, _⟩ := id j2
        have hsu : Hid _ := sameTo_succ ts us k
        have hsf : Hid _ := sameTo_false ts us la k hkn
        have m1 := below_new wr (.cells #[.int .i64 (tranAt ts k).label, .slice a1 l1 p1, .slice a2 l2 p2] 54)
        have m2 := below_new (wr.alloc (.cells #[.int .i64 (tranAt ts k).label, .slice a1 l1 p1, .slice a2 l2 p2] 54)) (.cells #[.int .i64 (tranAt us k).label, .slice a3 l3 p3, .slice a4 l4 p4] 54)
        have m3 := below_then m1 m2
        generalize tranAt ts k = t at *
        generalize tranAt us k = s at *
        go_wp2_with fail
        refine (same1_any t s _ _ _ _ _ (by exact i1.below m3) (by exact i2.below m3) (by exact j1.below m3) (by exact j2.below m3)).mono ?_
        rintro e w2 ⟨rfl, b4⟩
        have b5 := below_then hb (below_then m3 b4)
        clear m1 m2 m3 b4 i1 i2 j1 j2 h0 h1 h2 g0 g1 g2
        cases hq : sameT t s
        · have F : Hid (sameTs ts us = false) := by show _ = _; rw [HE.out, hsf.out hq]; simp
          clear hq
          go_wp2
          go_ret
          exact ⟨ret_bool F.out.symm, b5⟩
        · have F : Hid (sameTo ts us (k + 1) = true) := by show _ = _; rw [hsu.out, Hs.out, hq]; rfl
          clear hq
          go_wp2
          go_roundg (gk - 1)
          case measure => omega
          case rel => exact ⟨k + 1, by omega, by go_num, F, b5⟩
      · have hk : k = la := by omega
        have F : Hid (sameTs ts us = true) := by show _ = _; rw [HE.out, ← hk, Hs.out]; simp
        go_wp2
        go_ret
        exact ⟨ret_bool F.out.symm, hb⟩
  · have e1 : (((la : Nat) : Int) != (lb : Int)) = true := by simp; omega
    have F : Hid (sameTs ts us = false) := by show _ = _; rw [HE.out, beq_eq_false_iff_ne.2 hl]; rfl
    go_enter Try.func40, Try.ntmps40
    go_wp2
    go_ret
    exact ⟨ret_bool F.out.symm, Below.refl _ _⟩

set_option maxHeartbeats 400000 in
theorem samenet_any (v u : Value) (n m : NetL) (w : World) (hv : Net w v n) (hu : Net w u m) :
    Calls Try.prog 17 #[v, u] w fun e w' => e = .returned (.bool (sameN n m)) ∧ Below w.heap.size w w' := by
  obtain ⟨tv, rfl, hT⟩ := hv
  obtain ⟨tu, rfl, hU⟩ := hu
  obtain ⟨a, la, ca, rfl, hla, hma⟩ := hT.get
  obtain ⟨b, lb, cb, rfl, hlb, hmb⟩ := hU.get
  have b1 := below_new w (.cells #[.int .i64 n.places, .slice a la ca] 24)
  have b2 := below_new (w.alloc (.cells #[.int .i64 n.places, .slice a la ca] 24)) (.cells #[.int .i64 m.places, .slice b lb cb] 24)
  have b3 := below_then b1 b2
  cases q1 : (n.places == m.places)
  · have F : Hid (sameN n m = false) := by show _ = _; unfold sameN; rw [q1]; rfl
    go_enter Try.func17, Try.ntmps17
    go_wp2
    go_ret
    exact ⟨ret_bool F.out.symm, b3⟩
  · have F : Hid (sameN n m = sameTs n.trans m.trans) := by show _ = _; unfold sameN; rw [q1]; rfl
    go_enter Try.func17, Try.ntmps17
    go_wp2_with fail
    refine (equalfunc_any _ _ _ _ _ (by exact hT.below b3) (by exact hU.below b3)).mono ?_
    rintro e w2 ⟨rfl, b4⟩
    go_wp2
    go_ret
    exact ⟨ret_bool F.out.symm, below_then b3 b4⟩

end Go.Proofs.Ytffaamljogbmlaa

/- Plain facts on nets that fire: more tokens, two that change places, back again, one run behind another one. -/
namespace Go.Proofs.Ytffaamljogbmlaa
set_option linter.unusedVariables false
set_option maxRecDepth 4000

/-- What firing asks, and what it comes to. -/
def Fires (n : NetL) (m : List Int) (t : Int) (m' : List Int) : Prop := fireL n m t = (m', 0)

theorem add_at (xs ys : List Int) (j : Nat) : nth (addL xs ys) j = nth xs j + nth ys j := sum_at xs ys j
theorem sub_at (xs ys : List Int) (j : Nat) : nth (subL xs ys) j = nth xs j - nth ys j := less_at xs ys j
theorem add_length (xs ys : List Int) : (addL xs ys).length = max xs.length ys.length := zipL_length _ _ _
theorem sub_length (xs ys : List Int) : (subL xs ys).length = max xs.length ys.length := zipL_length _ _ _

theorem fire_ok {n : NetL} {m m' : List Int} {t : Int} (h : fireL n m t = (m', 0)) :
    ∃ k : Nat, t = k ∧ k < n.trans.length ∧ fitsL n m = true ∧ coversL m (tranAt n.trans k).pre = true ∧ rightL m' = true ∧ m' = addL (subL m (tranAt n.trans k).pre) (tranAt n.trans k).post := by
  unfold fireL at h
  cases hf : fitsL n m
  · simp [hf] at h
  · simp only [hf, if_true] at h
    cases hc : (decide (0 ≤ t) && decide (t < n.trans.length) && coversL m (tranAt n.trans t.toNat).pre)
    · simp [hc] at h
    · simp only [hc, if_true] at h
      simp only [Bool.and_eq_true, decide_eq_true_eq] at hc
      obtain ⟨⟨h0, h1⟩, h2⟩ := hc
      obtain ⟨k, rfl⟩ := Int.eq_ofNat_of_zero_le h0
      rw [Int.toNat_natCast] at h h2
      cases hr : rightL (addL (subL m (tranAt n.trans k).pre) (tranAt n.trans k).post)
      · simp [hr] at h
      · simp only [hr, if_true, Prod.mk.injEq, and_true] at h
        subst h
        exact ⟨k, rfl, by omega, rfl, h2, hr, rfl⟩

theorem fire_mk {n : NetL} {m : List Int} {k : Nat} (hk : k < n.trans.length) (hf : fitsL n m = true) (hc : coversL m (tranAt n.trans k).pre = true)
    (hr : rightL (addL (subL m (tranAt n.trans k).pre) (tranAt n.trans k).post) = true) : fireL n m k = (addL (subL m (tranAt n.trans k).pre) (tranAt n.trans k).post, 0) := by
  unfold fireL
  rw [hf, decide_eq_true (show (0 : Int) ≤ k by omega), decide_eq_true (show (k : Int) < n.trans.length by omega), Int.toNat_natCast, hc, hr]
  rfl

theorem fits_mk {n : NetL} {m : List Int} (hn : netOk n = true) (hl : (m.length : Int) = n.places) (hr : rightL m = true) : fitsL n m = true := by
  simp [fitsL, hn, hl, hr]

theorem tran_length {n : NetL} (hn : netOk n = true) {k : Nat} (hk : k < n.trans.length) :
    ((tranAt n.trans k).pre.length : Int) = n.places ∧ ((tranAt n.trans k).post.length : Int) = n.places := by
  have h := net_tran hn hk
  simp only [tranOk, tranHead, Bool.and_eq_true, beq_iff_eq] at h
  exact ⟨h.1.1.2, h.1.2⟩

/-- What comes of a firing is a mark of the net. -/
theorem fire_fits {n : NetL} {m m' : List Int} {t : Int} (h : fireL n m t = (m', 0)) : fitsL n m' = true := by
  obtain ⟨k, rfl, hk, hf, hc, hr, rfl⟩ := fire_ok h
  obtain ⟨hn, hl, _⟩ := fits_net hf
  obtain ⟨l1, l2⟩ := tran_length hn hk
  exact fits_mk hn (by rw [add_length, sub_length]; omega) hr

theorem fire_err {n : NetL} {m : List Int} {t : Int} (h : (fireL n m t).2 ≠ 0) : (fireL n m t).1 = [] := by
  unfold fireL at h ⊢
  split at h
  · split at h
    · split at h
      · exact absurd rfl h
      · rename_i h1 h2 h3; simp [h1, h2, h3]
    · rename_i h1 h2; simp [h1, h2]
  · rename_i h1; simp [h1]

theorem run_err {n : NetL} (seq : List Int) : ∀ {m : List Int}, (runL n m seq).2 ≠ 0 → (runL n m seq).1 = [] := by
  induction seq with
  | nil =>
    intro m h
    unfold runL at h ⊢
    split at h
    · exact absurd rfl h
    · rename_i h1; simp [h1]
  | cons t ts ih =>
    intro m h
    unfold runL at h ⊢
    cases hf : fitsL n m
    · simp
    · simp only [hf, if_true] at h ⊢
      cases hq : ((fireL n m t).2 == 0)
      · simp
      · simp only [hq, if_true] at h ⊢
        exact ih h

/-- A run that can be done, step by step. -/
theorem run_cons {n : NetL} {m m' : List Int} {t : Int} {ts : List Int} : runL n m (t :: ts) = (m', 0) ↔ ∃ x, fireL n m t = (x, 0) ∧ runL n x ts = (m', 0) := by
  constructor
  · intro h
    unfold runL at h
    cases hf : fitsL n m
    · simp [hf] at h
    · simp only [hf, if_true] at h
      cases hq : ((fireL n m t).2 == 0)
      · simp only [hq] at h
        have : (fireL n m t).2 = 0 := by simpa using congrArg Prod.snd h
        simp [this] at hq
      · simp only [hq, if_true] at h
        exact ⟨(fireL n m t).1, Prod.ext rfl (by simpa using hq), h⟩
  · rintro ⟨x, h1, h2⟩
    obtain ⟨_, _, _, hf, _⟩ := fire_ok h1
    unfold runL
    simp [hf, h1, h2]

theorem run_nil {n : NetL} {m m' : List Int} : runL n m [] = (m', 0) ↔ fitsL n m = true ∧ m' = m := by
  unfold runL
  cases hf : fitsL n m
  · simp
  · simp [eq_comm]

theorem run_fits {n : NetL} (seq : List Int) : ∀ {m m' : List Int}, runL n m seq = (m', 0) → fitsL n m = true ∧ fitsL n m' = true := by
  induction seq with
  | nil => intro m m' h; obtain ⟨h1, rfl⟩ := run_nil.1 h; exact ⟨h1, h1⟩
  | cons t ts ih =>
    intro m m' h
    obtain ⟨x, h1, h2⟩ := run_cons.1 h
    obtain ⟨_, _, _, hf, _⟩ := fire_ok h1
    exact ⟨hf, (ih h2).2⟩

theorem eq_of_at {xs ys : List Int} (hl : xs.length = ys.length) (h : ∀ j, nth xs j = nth ys j) : xs = ys := eq_of_nth xs ys hl fun j _ => h j

/-! With more. -/

theorem post_le {n : NetL} (hn : netOk n = true) {k : Nat} (hk : k < n.trans.length) (j : Nat) :
    0 ≤ nth (tranAt n.trans k).pre j ∧ nth (tranAt n.trans k).pre j ≤ 9 ∧ 0 ≤ nth (tranAt n.trans k).post j ∧ nth (tranAt n.trans k).post j ≤ 9 := by
  have h := net_tran hn hk
  simp only [tranOk, Bool.and_eq_true, List.all_append] at h
  have one : ∀ xs : List Int, xs.all weightOk = true → 0 ≤ nth xs j ∧ nth xs j ≤ 9 := by
    intro xs hx
    by_cases hj : j < xs.length
    · have := List.all_eq_true.1 hx _ (List.getElem_mem hj)
      simp only [weightOk, Bool.and_eq_true, decide_eq_true_eq] at this
      simp only [nth, List.getD, List.getElem?_eq_getElem hj, Option.getD_some]
      omega
    · rw [nth_past xs j (by omega)]; omega
  have h1 := one _ h.2.1
  have h2 := one _ h.2.2
  omega

theorem fire_more {n : NetL} {m m' d : List Int} {t : Int} (h : fireL n m t = (m', 0)) (hl : d.length = m.length) (h0 : ∀ j, 0 ≤ nth d j) (hb : ∀ j, nth m j + nth d j + 9 ≤ 1000000) :
    fireL n (addL m d) t = (addL m' d, 0) ∧ (∀ j, nth m' j ≤ nth m j + 9) ∧ m'.length = m.length := by
  obtain ⟨k, rfl, hk, hf, hc, hr, rfl⟩ := fire_ok h
  obtain ⟨hn, hlen, hm⟩ := fits_net hf
  obtain ⟨l1, l2⟩ := tran_length hn hk
  rw [rightL_iff] at hm hr
  rw [coversL_iff] at hc
  have hp := post_le hn hk
  have hlen2 : ∀ xs ys : List Int, (addL xs ys).length = max xs.length ys.length := add_length
  have hf' : fitsL n (addL m d) = true := fits_mk hn (by rw [add_length]; omega) ((rightL_iff _).2 fun j => by
    have := hm j; have := h0 j; have := hb j; rw [add_at]; omega)
  have hc' : coversL (addL m d) (tranAt n.trans k).pre = true := (coversL_iff _ _).2 fun j => by
    have := hc j; have := h0 j; rw [add_at]; omega
  have e : addL (subL (addL m d) (tranAt n.trans k).pre) (tranAt n.trans k).post = addL (addL (subL m (tranAt n.trans k).pre) (tranAt n.trans k).post) d := by
    refine eq_of_at (by simp only [add_length, sub_length]; omega) fun j => ?_
    simp only [add_at, sub_at]; omega
  refine ⟨?_, fun j => by have := hp j; have := hc j; rw [add_at, sub_at]; omega, by rw [add_length, sub_length]; omega⟩
  rw [fire_mk hk hf' hc' (by
    rw [e, rightL_iff]
    intro j
    have := hr j; have := h0 j; have := hb j; have := hp j
    simp only [add_at, sub_at] at *
    omega), e]

theorem run_more {n : NetL} (seq : List Int) : ∀ {m m' d : List Int}, runL n m seq = (m', 0) → d.length = m.length → (∀ j, 0 ≤ nth d j) → (∀ j, nth m j + nth d j + 9 * seq.length ≤ 1000000) →
    runL n (addL m d) seq = (addL m' d, 0) ∧ (∀ j, nth m' j ≤ nth m j + 9 * seq.length) ∧ m'.length = m.length := by
  induction seq with
  | nil =>
    intro m m' d h hl h0 hb
    obtain ⟨hf, rfl⟩ := run_nil.1 h
    obtain ⟨hn, hlen, hm⟩ := fits_net hf
    refine ⟨run_nil.2 ⟨fits_mk hn (by rw [add_length]; omega) ((rightL_iff _).2 fun j => ?_), rfl⟩, fun j => by simp, rfl⟩
    have := (rightL_iff _).1 hm j; have := h0 j; have := hb j
    rw [add_at]
    simp only [List.length_nil] at *
    omega
  | cons t ts ih =>
    intro m m' d h hl h0 hb
    obtain ⟨x, h1, h2⟩ := run_cons.1 h
    simp only [List.length_cons] at hb ⊢
    obtain ⟨g1, g2, g3⟩ := fire_more h1 hl h0 (fun j => by have := hb j; omega)
    obtain ⟨k1, k2, k3⟩ := ih h2 (by omega) h0 (fun j => by have := hb j; have := g2 j; omega)
    exact ⟨run_cons.2 ⟨_, g1, k1⟩, fun j => by have := k2 j; have := g2 j; omega, by omega⟩

/-! Two that change places. -/

theorem fire_two {n : NetL} {m : List Int} {t u : Nat} (hn : netOk n = true) (ht : t < n.trans.length) (hu : u < n.trans.length) (hl : (m.length : Int) = n.places) (hm : rightL m = true) (hb : ∀ j, nth m j ≤ 900000)
    (hc : ∀ j, nth (tranAt n.trans t).pre j + nth (tranAt n.trans u).pre j ≤ nth m j) :
    ∃ z, runL n m [(t : Int), (u : Int)] = (z, 0) ∧ z.length = m.length ∧ ∀ j, nth z j = nth m j - nth (tranAt n.trans t).pre j + nth (tranAt n.trans t).post j - nth (tranAt n.trans u).pre j + nth (tranAt n.trans u).post j := by
  have pt := post_le hn ht
  have pu := post_le hn hu
  obtain ⟨l1, l2⟩ := tran_length hn ht
  obtain ⟨l3, l4⟩ := tran_length hn hu
  have hm' := (rightL_iff _).1 hm
  have f1 := fire_mk (m := m) ht (fits_mk hn hl hm) ((coversL_iff _ _).2 fun j => by have := hc j; have := pu j; omega) ((rightL_iff _).2 fun j => by
    have := hc j; have := pt j; have := pu j; have := hb j; have := hm' j; rw [add_at, sub_at]; omega)
  have ff := fire_fits f1
  have f2 := fire_mk hu ff ((coversL_iff _ _).2 fun j => by have := hc j; have := pt j; rw [add_at, sub_at]; omega) ((rightL_iff _).2 fun j => by
    have := hc j; have := pt j; have := pu j; have := hb j; have := hm' j; simp only [add_at, sub_at]; omega)
  refine ⟨_, run_cons.2 ⟨_, f1, run_cons.2 ⟨_, f2, run_nil.2 ⟨fire_fits f2, rfl⟩⟩⟩, by simp only [add_length, sub_length]; omega, fun j => by simp only [add_at, sub_at]⟩

theorem fire_swap {n : NetL} {m : List Int} {t u : Nat} (hn : netOk n = true) (ht : t < n.trans.length) (hu : u < n.trans.length) (hl : (m.length : Int) = n.places) (hm : rightL m = true) (hb : ∀ j, nth m j ≤ 900000)
    (hc : ∀ j, nth (tranAt n.trans t).pre j + nth (tranAt n.trans u).pre j ≤ nth m j) :
    ∃ z, runL n m [(t : Int), (u : Int)] = (z, 0) ∧ runL n m [(u : Int), (t : Int)] = (z, 0) := by
  obtain ⟨z, h1, h2, h3⟩ := fire_two hn ht hu hl hm hb hc
  obtain ⟨y, k1, k2, k3⟩ := fire_two hn hu ht hl hm hb (fun j => by have := hc j; omega)
  have e : y = z := eq_of_at (by omega) fun j => by rw [h3 j, k3 j]; omega
  exact ⟨z, h1, e ▸ k1⟩

/-! Back again. -/

theorem runL_cons (n : NetL) (m : List Int) (t : Int) (ts : List Int) : runL n m (t :: ts) = if fitsL n m then (if (fireL n m t).2 == 0 then runL n (fireL n m t).1 ts else ([], (fireL n m t).2)) else ([], 2) := rfl

theorem run_append {n : NetL} (a : List Int) : ∀ {m : List Int} (b : List Int), runL n m (a ++ b) = if (runL n m a).2 == 0 then runL n (runL n m a).1 b else ([], (runL n m a).2) := by
  induction a with
  | nil =>
    intro m b
    cases hf : fitsL n m
    · have e : runL n m [] = ([], 2) := by simp [runL, hf]
      rw [e, List.nil_append]
      cases b <;> simp [runL, hf]
    · have e : runL n m [] = (m, 0) := by simp [runL, hf]
      rw [e]; rfl
  | cons t ts ih =>
    intro m b
    rw [List.cons_append, runL_cons, runL_cons]
    cases hf : fitsL n m
    · simp
    · simp only [if_true]
      cases hq : ((fireL n m t).2 == 0)
      · simp [hq]
      · simp only [if_true]
        exact ih b

theorem turn_turn (t : TranL) : turnT (turnT t) = t := rfl
theorem turn_ok (n : NetL) (h : netOk n = true) : netOk (turnL n) = true := by
  simp only [netOk, headOk, Bool.and_eq_true, decide_eq_true_eq] at h ⊢
  refine ⟨⟨h.1.1, by simp [turnL]; exact h.1.2⟩, ?_⟩
  rw [List.all_eq_true] at h ⊢
  intro t ht
  obtain ⟨s, hs, rfl⟩ := List.mem_map.1 ht
  have := h.2 s hs
  simp only [tranOk, tranHead, turnT, turnL, Bool.and_eq_true, List.all_append] at this ⊢
  exact ⟨⟨⟨this.1.1.1, this.1.2⟩, this.1.1.2⟩, this.2.2, this.2.1⟩

theorem fire_back {n : NetL} {m m' : List Int} {t : Int} (h : fireL n m t = (m', 0)) : fireL (turnL n) m' t = (m, 0) := by
  have hf' := fire_fits h
  obtain ⟨k, rfl, hk, hf, hc, hr, rfl⟩ := fire_ok h
  obtain ⟨hn, hlen, hm⟩ := fits_net hf
  obtain ⟨l1, l2⟩ := tran_length hn hk
  have hc' := (coversL_iff _ _).1 hc
  have ea : tranAt (turnL n).trans k = turnT (tranAt n.trans k) := turn_at _ _ hk
  have e : addL (subL (addL (subL m (tranAt n.trans k).pre) (tranAt n.trans k).post) (tranAt n.trans k).post) (tranAt n.trans k).pre = m := by
    refine eq_of_at (by simp only [add_length, sub_length]; omega) fun j => ?_
    simp only [add_at, sub_at]; omega
  have hft : fitsL (turnL n) (addL (subL m (tranAt n.trans k).pre) (tranAt n.trans k).post) = true := by
    obtain ⟨_, q1, q2⟩ := fits_net hf'
    exact fits_mk (turn_ok n hn) q1 q2
  have := fire_mk (n := turnL n) (k := k) (by simpa [turnL] using hk) hft (by
    rw [ea, coversL_iff]; intro j; have := hc' j; simp only [turnT, add_at, sub_at]; omega) (by
    rw [ea]; show rightL (addL (subL _ (tranAt n.trans k).post) (tranAt n.trans k).pre) = true; rw [e]; exact hm)
  rw [this, ea]
  show (addL (subL _ (tranAt n.trans k).post) (tranAt n.trans k).pre, (0 : Int)) = _
  rw [e]

theorem run_back {n : NetL} (seq : List Int) : ∀ {m x : List Int}, runL n m seq = (x, 0) → runL (turnL n) x seq.reverse = (m, 0) := by
  induction seq with
  | nil =>
    intro m x h
    obtain ⟨hf, rfl⟩ := run_nil.1 h
    obtain ⟨hn, q1, q2⟩ := fits_net hf
    exact run_nil.2 ⟨fits_mk (turn_ok n hn) q1 q2, rfl⟩
  | cons t ts ih =>
    intro m x h
    obtain ⟨y, h1, h2⟩ := run_cons.1 h
    have h3 := ih h2
    rw [List.reverse_cons, run_append, h3]
    have h4 := fire_back h1
    exact run_cons.2 ⟨_, h4, run_nil.2 ⟨fire_fits h4, rfl⟩⟩

/-! Who can, and who fires. -/

theorem can_mem (n : NetL) (m : List Int) (k : Nat) (t : Int) : t ∈ canTo n m k ↔ ∃ j : Nat, t = j ∧ j < k ∧ coversL m (tranAt n.trans j).pre = true := by
  simp only [canTo, List.mem_map, List.mem_filter, List.mem_range]
  exact ⟨fun ⟨j, ⟨h1, h2⟩, h3⟩ => ⟨j, h3.symm, h1, h2⟩, fun ⟨j, h3, h1, h2⟩ => ⟨j, ⟨h1, h2⟩, h3.symm⟩⟩

theorem can_fire {n : NetL} {m : List Int} (hf : fitsL n m = true) (t : Int) : (canTo n m n.trans.length).contains t = ((fireL n m t).2 != 3) := by
  rw [Bool.eq_iff_iff, List.contains_iff_mem, can_mem, bne_iff_ne]
  constructor
  · rintro ⟨j, rfl, hj, hc⟩
    unfold fireL
    rw [hf, decide_eq_true (show (0 : Int) ≤ j by omega), decide_eq_true (show (j : Int) < n.trans.length by omega), Int.toNat_natCast, hc]
    simp only [Bool.and_self, if_true]
    split <;> simp
  · intro h
    unfold fireL at h
    rw [hf] at h
    cases hc : (decide (0 ≤ t) && decide (t < n.trans.length) && coversL m (tranAt n.trans t.toNat).pre)
    · simp [hc] at h
    · simp only [Bool.and_eq_true, decide_eq_true_eq] at hc
      obtain ⟨⟨h0, h1⟩, h2⟩ := hc
      obtain ⟨k, rfl⟩ := Int.eq_ofNat_of_zero_le h0
      rw [Int.toNat_natCast] at h2
      exact ⟨k, rfl, by omega, h2⟩

theorem not_fits {n : NetL} {m : List Int} (hf : fitsL n m = false) (t : Int) : fireL n m t = ([], 2) := by simp [fireL, hf]

end Go.Proofs.Ytffaamljogbmlaa

/- Plain words for all marks that a net comes to. -/
namespace Go.Proofs.Ytffaamljogbmlaa
set_option linter.unusedVariables false
set_option maxRecDepth 4000

/-- An arc: from, by, to. -/
structure ArcL where
  frm : Nat
  tran : Nat
  dst : Nat

/-- All marks, and how. -/
structure SpaceL where
  marks : List (List Int)
  arcs : List ArcL

/-- Where a mark is found, if it is. -/
def findM (ms : List (List Int)) (x : List Int) : Option Nat := ms.findIdx? (· == x)
def markAt (ms : List (List Int)) (k : Nat) : List Int := ms.getD k []

theorem findM_some {ms : List (List Int)} {x : List Int} {k : Nat} (h : findM ms x = some k) : k < ms.length ∧ markAt ms k = x := by
  obtain ⟨hk, h1, _⟩ := List.findIdx?_eq_some_iff_getElem.1 h
  refine ⟨hk, ?_⟩
  rw [markAt, List.getD_eq_getElem?_getD, List.getElem?_eq_getElem hk]
  simpa using h1
theorem findM_none {ms : List (List Int)} {x : List Int} (h : findM ms x = none) : x ∉ ms := by
  intro hx
  have := List.findIdx?_eq_none_iff.1 h x hx
  simp at this
theorem markAt_mem {ms : List (List Int)} {k : Nat} (h : k < ms.length) : markAt ms k ∈ ms := by
  rw [markAt, List.getD_eq_getElem?_getD, List.getElem?_eq_getElem h]; exact List.getElem_mem h
theorem markAt_append {ms ns : List (List Int)} {k : Nat} (h : k < ms.length) : markAt (ms ++ ns) k = markAt ms k := by
  rw [markAt, markAt, List.getD_eq_getElem?_getD, List.getD_eq_getElem?_getD, List.getElem?_append_left h]
theorem markAt_last (ms : List (List Int)) (x : List Int) : markAt (ms ++ [x]) ms.length = x := by
  rw [markAt, List.getD_eq_getElem?_getD, List.getElem?_append_right (Nat.le_refl _)]; simp

/-- A transition is tried at a mark. -/
def tryT (n : NetL) (most : Nat) (k : Nat) (s : SpaceL) (t : Nat) : Option SpaceL :=
  if (fireL n (markAt s.marks k) t).2 == 3 then some s
  else if (fireL n (markAt s.marks k) t).2 == 0 then
    match findM s.marks (fireL n (markAt s.marks k) t).1 with
    | some g => some ⟨s.marks, s.arcs ++ [⟨k, t, g⟩]⟩
    | none => if s.marks.length = most then none else some ⟨s.marks ++ [(fireL n (markAt s.marks k) t).1], s.arcs ++ [⟨k, t, s.marks.length⟩]⟩
  else none

/-- The first t transitions are tried at mark k. -/
def rowTo (n : NetL) (most k : Nat) (s : SpaceL) : Nat → Option SpaceL
  | 0 => some s
  | t + 1 => (rowTo n most k s t).bind fun s' => tryT n most k s' t

/-- The first k marks are done. -/
def graphTo (n : NetL) (m : List Int) (most : Nat) : Nat → Option SpaceL
  | 0 => some ⟨[m], []⟩
  | k + 1 => (graphTo n m most k).bind fun s => if k < s.marks.length then rowTo n most k s n.trans.length else some s

def graphOk (n : NetL) (m : List Int) (most : Int) : Bool := decide (1 ≤ most) && decide (most ≤ 300) && fitsL n m
def graphL (n : NetL) (m : List Int) (most : Int) : SpaceL × Int :=
  if graphOk n m most then
    match graphTo n m most.toNat most.toNat with
    | some s => (s, 0)
    | none => (⟨[], []⟩, 4)
  else (⟨[], []⟩, 2)

/-- The first arc to a mark. -/
def firstTo (l : List ArcL) (g : Nat) : Option ArcL := l.find? fun a => a.dst == g

/-- What holds while marks are found: k marks are done, and t transitions of mark k. -/
structure Found (n : NetL) (m : List Int) (most k t : Nat) (s : SpaceL) : Prop where
  most_le : s.marks.length ≤ most
  pos : 0 < s.marks.length
  first : markAt s.marks 0 = m
  nodup : s.marks.Nodup
  fits : ∀ x ∈ s.marks, fitsL n x = true
  sound : ∀ a ∈ s.arcs, a.frm < s.marks.length ∧ a.dst < s.marks.length ∧ a.tran < n.trans.length ∧ a.frm ≤ k ∧ fireL n (markAt s.marks a.frm) a.tran = (markAt s.marks a.dst, 0)
  whole : ∀ f j, f < s.marks.length → j < n.trans.length → (f < k ∨ f = k ∧ j < t) → (fireL n (markAt s.marks f) j).2 = 3 ∨ ∃ g, (⟨f, j, g⟩ : ArcL) ∈ s.arcs
  par : ∀ g, 0 < g → g < s.marks.length → ∃ a, firstTo s.arcs g = some a ∧ a.frm < g
  mono : ∀ g h a b, 0 < g → g ≤ h → firstTo s.arcs g = some a → firstTo s.arcs h = some b → h < s.marks.length → a.frm ≤ b.frm
  early : ∀ a b, a ∈ s.arcs → firstTo s.arcs a.dst = some b → b.frm ≤ a.frm

theorem firstTo_append {l : List ArcL} {g : Nat} {a b : ArcL} (h : firstTo l g = some a) : firstTo (l ++ [b]) g = some a := by
  unfold firstTo at *; rw [List.find?_append, h]; rfl
theorem firstTo_new {l : List ArcL} {g : Nat} {b : ArcL} (h : firstTo l g = none) (hb : b.dst = g) : firstTo (l ++ [b]) g = some b := by
  unfold firstTo at *; rw [List.find?_append, h]; simp [hb]
theorem firstTo_other {l : List ArcL} {g : Nat} {b : ArcL} (hb : b.dst ≠ g) : firstTo (l ++ [b]) g = firstTo l g := by
  unfold firstTo; rw [List.find?_append]
  cases l.find? (fun a => a.dst == g) with
  | some a => rfl
  | none => simp [hb]
theorem firstTo_mem {l : List ArcL} {g : Nat} {a : ArcL} (h : firstTo l g = some a) : a ∈ l ∧ a.dst = g := by
  unfold firstTo at h
  exact ⟨List.mem_of_find?_eq_some h, by simpa using List.find?_some h⟩
theorem firstTo_none {l : List ArcL} {g : Nat} (h : ∀ a ∈ l, a.dst ≠ g) : firstTo l g = none := by
  unfold firstTo; rw [List.find?_eq_none]; intro a ha; simpa using h a ha

theorem Found.start {n : NetL} {m : List Int} {most : Nat} (hm : 1 ≤ most) (hf : fitsL n m = true) : Found n m most 0 0 ⟨[m], []⟩ where
  most_le := hm
  pos := Nat.one_pos
  first := rfl
  nodup := by simp
  fits := by simp [hf]
  sound := by simp
  whole := by intro f j h1 h2 h3; omega
  par := by intro g h1 h2; simp at h2; omega
  mono := by intro g h a b h1 h2 h3; simp [firstTo] at h3
  early := by simp

/-- One more arc, to a mark that was there. -/
theorem Found.arc {n : NetL} {m : List Int} {most k t g : Nat} {s : SpaceL} (h : Found n m most k t s) (hk : k < s.marks.length) (ht : t < n.trans.length) (hg : g < s.marks.length)
    (hf : fireL n (markAt s.marks k) t = (markAt s.marks g, 0)) : Found n m most k (t + 1) ⟨s.marks, s.arcs ++ [⟨k, t, g⟩]⟩ where
  most_le := h.most_le
  pos := h.pos
  first := h.first
  nodup := h.nodup
  fits := h.fits
  sound := by
    intro a ha
    rcases List.mem_append.1 ha with ha | ha
    · exact h.sound a ha
    · rw [List.mem_singleton] at ha; subst ha; exact ⟨hk, hg, ht, Nat.le_refl _, hf⟩
  whole := by
    intro f j h1 h2 h3
    by_cases e : f = k ∧ j = t
    · obtain ⟨rfl, rfl⟩ := e; exact .inr ⟨g, List.mem_append_right _ (List.mem_singleton.2 rfl)⟩
    · rcases h.whole f j h1 h2 (by omega) with h4 | ⟨g', h4⟩
      · exact .inl h4
      · exact .inr ⟨g', List.mem_append_left _ h4⟩
  par := by
    intro g' h1 h2
    obtain ⟨a, h3, h4⟩ := h.par g' h1 h2
    exact ⟨a, firstTo_append h3, h4⟩
  mono := by
    intro g1 g2 a b h1 h2 h3 h4 h5
    obtain ⟨a', h6, _⟩ := h.par g1 h1 (Nat.lt_of_le_of_lt h2 h5)
    obtain ⟨b', h7, _⟩ := h.par g2 (by omega) h5
    rw [firstTo_append h6] at h3
    rw [firstTo_append h7] at h4
    injection h3 with h3
    injection h4 with h4
    subst h3 h4
    exact h.mono g1 g2 _ _ h1 h2 h6 h7 h5
  early := by
    intro a b ha hb
    rcases List.mem_append.1 ha with ha | ha
    · cases he : firstTo s.arcs a.dst with
      | some c => rw [firstTo_append he] at hb; injection hb with hb; subst hb; exact h.early a _ ha he
      | none =>
        unfold firstTo at he
        rw [List.find?_eq_none] at he
        exact absurd (he a ha) (by simp)
    · rw [List.mem_singleton] at ha
      subst ha
      rcases List.mem_append.1 (firstTo_mem hb).1 with hb' | hb'
      · exact (h.sound b hb').2.2.2.1
      · rw [List.mem_singleton] at hb'; subst hb'; exact Nat.le_refl _

/-- One more arc, to a new mark. -/
theorem Found.new {n : NetL} {m x : List Int} {most k t : Nat} {s : SpaceL} (h : Found n m most k t s) (hk : k < s.marks.length) (ht : t < n.trans.length) (hx : x ∉ s.marks) (hlt : s.marks.length < most)
    (hf : fireL n (markAt s.marks k) t = (x, 0)) : Found n m most k (t + 1) ⟨s.marks ++ [x], s.arcs ++ [⟨k, t, s.marks.length⟩]⟩ where
  most_le := by simp; omega
  pos := by simp
  first := by show markAt (s.marks ++ [x]) 0 = m; rw [markAt_append h.pos]; exact h.first
  nodup := by
    show (s.marks ++ [x]).Nodup
    rw [List.nodup_append]
    exact ⟨h.nodup, by simp, fun a ha b hb e => by rw [List.mem_singleton] at hb; subst hb; subst e; exact hx ha⟩
  fits := by
    intro y hy
    rcases List.mem_append.1 hy with hy | hy
    · exact h.fits y hy
    · rw [List.mem_singleton] at hy; subst hy; exact fire_fits hf
  sound := by
    intro a ha
    have hl : (s.marks ++ [x]).length = s.marks.length + 1 := by simp
    rcases List.mem_append.1 ha with ha | ha
    · obtain ⟨h1, h2, h3, h4, h5⟩ := h.sound a ha
      show a.frm < (s.marks ++ [x]).length ∧ a.dst < (s.marks ++ [x]).length ∧ a.tran < n.trans.length ∧ a.frm ≤ k ∧ fireL n (markAt (s.marks ++ [x]) a.frm) a.tran = (markAt (s.marks ++ [x]) a.dst, 0)
      rw [markAt_append h1, markAt_append h2, hl]
      exact ⟨by omega, by omega, h3, h4, h5⟩
    · rw [List.mem_singleton] at ha
      subst ha
      show k < (s.marks ++ [x]).length ∧ s.marks.length < (s.marks ++ [x]).length ∧ t < n.trans.length ∧ k ≤ k ∧ fireL n (markAt (s.marks ++ [x]) k) t = (markAt (s.marks ++ [x]) s.marks.length, 0)
      rw [markAt_append hk, markAt_last, hl]
      exact ⟨by omega, by omega, ht, Nat.le_refl _, hf⟩
  whole := by
    intro f j h1 h2 h3
    show (fireL n (markAt (s.marks ++ [x]) f) j).2 = 3 ∨ ∃ g, _ ∈ s.arcs ++ _
    have hfl : f < s.marks.length := by omega
    rw [markAt_append hfl]
    by_cases e : f = k ∧ j = t
    · obtain ⟨rfl, rfl⟩ := e; exact .inr ⟨s.marks.length, List.mem_append_right _ (List.mem_singleton.2 rfl)⟩
    · rcases h.whole f j hfl h2 (by omega) with h4 | ⟨g', h4⟩
      · exact .inl h4
      · exact .inr ⟨g', List.mem_append_left _ h4⟩
  par := by
    intro g h1 h2
    have hl : (s.marks ++ [x]).length = s.marks.length + 1 := by simp
    by_cases hg : g < s.marks.length
    · obtain ⟨a, h3, h4⟩ := h.par g h1 hg
      exact ⟨a, firstTo_append h3, h4⟩
    · have e : g = s.marks.length := by simp only [hl] at h2; omega
      exact ⟨⟨k, t, s.marks.length⟩, firstTo_new (firstTo_none fun a ha => by have := (h.sound a ha).2.1; omega) e.symm, by show k < g; omega⟩
  mono := by
    intro g1 g2 a b h1 h2 h3 h4 h5
    have hl : (s.marks ++ [x]).length = s.marks.length + 1 := by simp
    have hno : firstTo s.arcs s.marks.length = none := firstTo_none fun a ha => by have := (h.sound a ha).2.1; omega
    by_cases hg2 : g2 < s.marks.length
    · obtain ⟨a', h6, _⟩ := h.par g1 h1 (Nat.lt_of_le_of_lt h2 hg2)
      obtain ⟨b', h7, _⟩ := h.par g2 (by omega) hg2
      rw [firstTo_append h6] at h3
      rw [firstTo_append h7] at h4
      injection h3 with h3
      injection h4 with h4
      subst h3 h4
      exact h.mono g1 g2 _ _ h1 h2 h6 h7 hg2
    · have e : g2 = s.marks.length := by simp only [hl] at h5; omega
      subst e
      rw [firstTo_new hno rfl] at h4
      injection h4 with h4
      subst h4
      rcases List.mem_append.1 (firstTo_mem h3).1 with hb' | hb'
      · exact (h.sound a hb').2.2.2.1
      · rw [List.mem_singleton] at hb'; subst hb'; exact Nat.le_refl _
  early := by
    intro a b ha hb
    rcases List.mem_append.1 ha with ha | ha
    · cases he : firstTo s.arcs a.dst with
      | some c => rw [firstTo_append he] at hb; injection hb with hb; subst hb; exact h.early a _ ha he
      | none =>
        unfold firstTo at he
        rw [List.find?_eq_none] at he
        exact absurd (he a ha) (by simp)
    · rw [List.mem_singleton] at ha
      subst ha
      rcases List.mem_append.1 (firstTo_mem hb).1 with hb' | hb'
      · exact (h.sound b hb').2.2.2.1
      · rw [List.mem_singleton] at hb'; subst hb'; exact Nat.le_refl _

end Go.Proofs.Ytffaamljogbmlaa

/- Plain facts on all marks that a net comes to. -/
namespace Go.Proofs.Ytffaamljogbmlaa
set_option linter.unusedVariables false
set_option maxRecDepth 4000

/-- What is found stays: more marks may come behind. -/
def Longer (s s' : SpaceL) : Prop := ∃ ms l, s'.marks = s.marks ++ ms ∧ s'.arcs = s.arcs ++ l
theorem Longer.refl (s : SpaceL) : Longer s s := ⟨[], [], by simp, by simp⟩
theorem Longer.trans {a b c : SpaceL} (h : Longer a b) (k : Longer b c) : Longer a c := by
  obtain ⟨m1, l1, e1, e2⟩ := h
  obtain ⟨m2, l2, e3, e4⟩ := k
  exact ⟨m1 ++ m2, l1 ++ l2, by rw [e3, e1, List.append_assoc], by rw [e4, e2, List.append_assoc]⟩
theorem Longer.le {a b : SpaceL} (h : Longer a b) : a.marks.length ≤ b.marks.length := by
  obtain ⟨m1, l1, e1, e2⟩ := h; rw [e1]; simp

theorem Found.skip {n : NetL} {m : List Int} {most k t : Nat} {s : SpaceL} (h : Found n m most k t s) (hf : (fireL n (markAt s.marks k) t).2 = 3) : Found n m most k (t + 1) s := by
  have hw : ∀ f j, f < s.marks.length → j < n.trans.length → (f < k ∨ f = k ∧ j < t + 1) → (fireL n (markAt s.marks f) j).2 = 3 ∨ ∃ g, (⟨f, j, g⟩ : ArcL) ∈ s.arcs := by
    intro f j h1 h2 h3
    by_cases e : f = k ∧ j = t
    · obtain ⟨rfl, rfl⟩ := e; exact .inl hf
    · exact h.whole f j h1 h2 (by omega)
  exact { h with whole := hw }

theorem tryT_found {n : NetL} {m : List Int} {most k t : Nat} {s s' : SpaceL} (h : Found n m most k t s) (hk : k < s.marks.length) (ht : t < n.trans.length) (e : tryT n most k s t = some s') :
    Found n m most k (t + 1) s' ∧ Longer s s' := by
  unfold tryT at e
  by_cases h3 : (fireL n (markAt s.marks k) t).2 = 3
  · rw [if_pos (by simp [h3])] at e
    injection e with e
    subst e
    exact ⟨h.skip h3, Longer.refl _⟩
  · rw [if_neg (by simp [h3])] at e
    by_cases h0 : (fireL n (markAt s.marks k) t).2 = 0
    · rw [if_pos (by simp [h0])] at e
      cases hf : findM s.marks (fireL n (markAt s.marks k) t).1 with
      | some g =>
        rw [hf] at e
        injection e with e
        subst e
        obtain ⟨hg, he⟩ := findM_some hf
        exact ⟨h.arc hk ht hg (by rw [he, ← h0]), [], [_], by simp, rfl⟩
      | none =>
        rw [hf] at e
        simp only at e
        by_cases hm : s.marks.length = most
        · rw [if_pos hm] at e; cases e
        · rw [if_neg hm] at e
          injection e with e
          subst e
          exact ⟨h.new hk ht (findM_none hf) (by have := h.most_le; omega) (by rw [← h0]), [_], [_], rfl, rfl⟩
    · rw [if_neg (by simp [h0])] at e; cases e

theorem rowTo_found {n : NetL} {m : List Int} {most k : Nat} {s : SpaceL} (h : Found n m most k 0 s) (hk : k < s.marks.length) : ∀ (t : Nat) {s' : SpaceL}, t ≤ n.trans.length → rowTo n most k s t = some s' →
    Found n m most k t s' ∧ Longer s s' := by
  intro t
  induction t with
  | zero => intro s' _ e; injection e with e; subst e; exact ⟨h, Longer.refl _⟩
  | succ t ih =>
    intro s' ht e
    simp only [rowTo, Option.bind_eq_some_iff] at e
    obtain ⟨s1, e1, e2⟩ := e
    obtain ⟨h1, l1⟩ := ih (by omega) e1
    obtain ⟨h2, l2⟩ := tryT_found h1 (Nat.lt_of_lt_of_le hk l1.le) (by omega) e2
    exact ⟨h2, l1.trans l2⟩

theorem Found.next {n : NetL} {m : List Int} {most k : Nat} {s : SpaceL} (h : Found n m most k n.trans.length s) : Found n m most (k + 1) 0 s :=
  { h with
    sound := fun a ha => by obtain ⟨h1, h2, h3, h4, h5⟩ := h.sound a ha; exact ⟨h1, h2, h3, by omega, h5⟩
    whole := fun f j h1 h2 h3 => h.whole f j h1 h2 (by omega) }
theorem Found.past {n : NetL} {m : List Int} {most k : Nat} {s : SpaceL} (h : Found n m most k 0 s) (hk : s.marks.length ≤ k) : Found n m most (k + 1) 0 s :=
  { h with
    sound := fun a ha => by obtain ⟨h1, h2, h3, h4, h5⟩ := h.sound a ha; exact ⟨h1, h2, h3, by omega, h5⟩
    whole := fun f j h1 h2 h3 => h.whole f j h1 h2 (by omega) }

theorem graphTo_found {n : NetL} {m : List Int} {most : Nat} (hm : 1 ≤ most) (hf : fitsL n m = true) : ∀ (k : Nat) {s : SpaceL}, graphTo n m most k = some s → Found n m most k 0 s := by
  intro k
  induction k with
  | zero => intro s e; injection e with e; subst e; exact Found.start hm hf
  | succ k ih =>
    intro s e
    simp only [graphTo, Option.bind_eq_some_iff] at e
    obtain ⟨s1, e1, e2⟩ := e
    have h1 := ih e1
    by_cases hk : k < s1.marks.length
    · rw [if_pos hk] at e2
      exact ((rowTo_found h1 hk _ (Nat.le_refl _) e2).1).next
    · rw [if_neg hk] at e2
      injection e2 with e2
      subst e2
      exact h1.past (by omega)

/-- All marks are found, and all firings. -/
def Whole (n : NetL) (m : List Int) (s : SpaceL) : Prop := ∃ most k, Found n m most k 0 s ∧ s.marks.length ≤ k

theorem graphL_ok {n : NetL} {m : List Int} {most : Int} {s : SpaceL} (h : graphL n m most = (s, 0)) : 1 ≤ most ∧ most ≤ 300 ∧ fitsL n m = true ∧ graphTo n m most.toNat most.toNat = some s ∧ Found n m most.toNat most.toNat 0 s := by
  unfold graphL at h
  cases ho : graphOk n m most
  · rw [ho] at h; simp at h
  · rw [ho] at h
    simp only [if_true] at h
    simp only [graphOk, Bool.and_eq_true, decide_eq_true_eq] at ho
    obtain ⟨⟨h1, h2⟩, h3⟩ := ho
    cases hg : graphTo n m most.toNat most.toNat with
    | none => rw [hg] at h; simp at h
    | some s' =>
      rw [hg] at h
      simp only [Prod.mk.injEq, and_true] at h
      subst h
      exact ⟨h1, h2, h3, rfl, graphTo_found (by omega) h3 _ hg⟩
theorem graphL_whole {n : NetL} {m : List Int} {most : Int} {s : SpaceL} (h : graphL n m most = (s, 0)) : Whole n m s := by
  obtain ⟨_, _, _, _, hF⟩ := graphL_ok h
  exact ⟨_, _, hF, hF.most_le⟩
theorem graphL_err {n : NetL} {m : List Int} {most : Int} (h : (graphL n m most).2 ≠ 0) : (graphL n m most).1 = ⟨[], []⟩ := by
  unfold graphL at *
  split
  · split
    · simp_all
    · rfl
  · rfl

/-- A firing from a mark that is there comes to one that is there; or it cannot be done. -/
theorem Whole.fire {n : NetL} {m : List Int} {s : SpaceL} (h : Whole n m s) {f : Nat} (hf : f < s.marks.length) (t : Int) :
    (fireL n (markAt s.marks f) t).2 = 3 ∨ ∃ (j : Nat) (g : Nat), t = j ∧ (⟨f, j, g⟩ : ArcL) ∈ s.arcs ∧ g < s.marks.length ∧ fireL n (markAt s.marks f) t = (markAt s.marks g, 0) := by
  obtain ⟨most, k, hF, hk⟩ := h
  by_cases ht : 0 ≤ t ∧ t < n.trans.length
  · obtain ⟨j, rfl⟩ := Int.eq_ofNat_of_zero_le ht.1
    rcases hF.whole f j hf (by omega) (by omega) with h3 | ⟨g, hg⟩
    · exact .inl h3
    · obtain ⟨_, q2, _, _, q5⟩ := hF.sound _ hg
      exact .inr ⟨j, g, rfl, hg, q2, q5⟩
  · left
    have hfit := hF.fits _ (markAt_mem hf)
    unfold fireL
    rw [hfit]
    have : (decide (0 ≤ t) && decide (t < n.trans.length)) = false := by
      rw [Bool.and_eq_false_iff, decide_eq_false_iff_not, decide_eq_false_iff_not]; omega
    rw [this]; simp

/-- Whoever is there goes nowhere else. -/
theorem Whole.run {n : NetL} {m : List Int} {s : SpaceL} (h : Whole n m s) (seq : List Int) : ∀ {f : Nat}, f < s.marks.length →
    (runL n (markAt s.marks f) seq).2 = 3 ∨ ∃ g, g < s.marks.length ∧ runL n (markAt s.marks f) seq = (markAt s.marks g, 0) := by
  induction seq with
  | nil =>
    intro f hf
    obtain ⟨most, k, hF, hk⟩ := h
    exact .inr ⟨f, hf, by rw [runL, hF.fits _ (markAt_mem hf)]; rfl⟩
  | cons t ts ih =>
    intro f hf
    have hfit : fitsL n (markAt s.marks f) = true := by obtain ⟨most, k, hF, hk⟩ := h; exact hF.fits _ (markAt_mem hf)
    rw [runL, hfit]
    rcases h.fire hf t with h3 | ⟨j, g, rfl, _, hg, e⟩
    · left; rw [h3]; simp
    · rw [e]
      simp only [BEq.rfl, if_true]
      exact ih hg
theorem Whole.here {n : NetL} {m : List Int} {s : SpaceL} (h : Whole n m s) : 0 < s.marks.length ∧ markAt s.marks 0 = m := by
  obtain ⟨most, k, hF, hk⟩ := h; exact ⟨hF.pos, hF.first⟩
theorem Whole.nodup {n : NetL} {m : List Int} {s : SpaceL} (h : Whole n m s) : s.marks.Nodup := by
  obtain ⟨most, k, hF, hk⟩ := h; exact hF.nodup
theorem markAt_inj {ms : List (List Int)} (h : ms.Nodup) {i j : Nat} (hi : i < ms.length) (hj : j < ms.length) (e : markAt ms i = markAt ms j) : i = j := by
  rw [markAt, markAt, List.getD_eq_getElem?_getD, List.getD_eq_getElem?_getD, List.getElem?_eq_getElem hi, List.getElem?_eq_getElem hj] at e
  have e' : ms[i] = ms[j] := by simpa using e
  have hp := List.pairwise_iff_getElem.1 h
  rcases Nat.lt_trichotomy i j with q | q | q
  · exact absurd e' (hp i j hi hj q)
  · exact q
  · exact absurd e'.symm (hp j i hj hi q)

/-- How far a mark is from the first one, and how it is come to. -/
def pathTo (l : List ArcL) : Nat → Nat → List Int
  | 0, _ => []
  | fuel + 1, g => if g = 0 then [] else match firstTo l g with
    | some a => pathTo l fuel a.frm ++ [(a.tran : Int)]
    | none => []
def pathL (s : SpaceL) (g : Nat) : List Int := pathTo s.arcs g g

theorem pathTo_enough {n : NetL} {m : List Int} {most k t : Nat} {s : SpaceL} (h : Found n m most k t s) : ∀ (f g : Nat), g ≤ f → g < s.marks.length → pathTo s.arcs f g = pathL s g := by
  intro f
  induction f using Nat.strongRecOn with
  | ind f ih =>
    intro g hgf hg
    unfold pathL
    cases g with
    | zero => cases f <;> rfl
    | succ g =>
      cases f with
      | zero => omega
      | succ f =>
        obtain ⟨a, h1, h2⟩ := h.par (g + 1) (by omega) hg
        simp only [pathTo, h1, Nat.add_eq_zero_iff, Nat.succ_ne_self, and_false, if_false]
        rw [ih f (by omega) a.frm (by omega) (by omega)]
        congr 1
        by_cases e : g = f
        · subst e; exact (ih g (by omega) a.frm (by omega) (by omega)).symm
        · exact (ih g (by omega) a.frm (by omega) (by omega)).symm

theorem pathL_zero (s : SpaceL) : pathL s 0 = [] := rfl
theorem pathL_step {n : NetL} {m : List Int} {most k t : Nat} {s : SpaceL} (h : Found n m most k t s) {g : Nat} (h0 : 0 < g) (hg : g < s.marks.length) {a : ArcL} (ha : firstTo s.arcs g = some a) :
    pathL s g = pathL s a.frm ++ [(a.tran : Int)] := by
  obtain ⟨a', h1, h2⟩ := h.par g h0 hg
  rw [ha] at h1
  injection h1 with h1
  subst h1
  unfold pathL
  cases g with
  | zero => omega
  | succ g =>
    simp only [pathTo, ha, Nat.add_eq_zero_iff, and_false, if_false, Nat.one_ne_zero]
    rw [pathTo_enough h g a.frm (by omega) (by omega)]
    rfl

/-- A path leads where it says. -/
theorem Whole.path {n : NetL} {m : List Int} {s : SpaceL} (h : Whole n m s) : ∀ g, g < s.marks.length → runL n m (pathL s g) = (markAt s.marks g, 0) := by
  have h' := h
  obtain ⟨most, k, hF, hk⟩ := h
  intro g
  induction g using Nat.strongRecOn with
  | ind g ih =>
    intro hg
    by_cases h0 : g = 0
    · subst h0
      rw [pathL_zero, hF.first, runL]
      have := hF.fits _ (markAt_mem hF.pos)
      rw [hF.first] at this
      rw [this]; rfl
    · obtain ⟨a, h1, h2⟩ := hF.par g (by omega) hg
      rw [pathL_step hF (by omega) hg h1, run_append, ih a.frm h2 (by omega)]
      simp only [BEq.rfl, if_true]
      obtain ⟨q1, q2, q3, q4, q5⟩ := hF.sound a (firstTo_mem h1).1
      rw [run_cons]
      refine ⟨_, q5, ?_⟩
      rw [(firstTo_mem h1).2, run_nil]
      exact ⟨hF.fits _ (markAt_mem hg), rfl⟩

theorem depth_mono {n : NetL} {m : List Int} {most k t : Nat} {s : SpaceL} (h : Found n m most k t s) : ∀ j, ∀ i, i ≤ j → j < s.marks.length → (pathL s i).length ≤ (pathL s j).length := by
  intro j
  induction j using Nat.strongRecOn with
  | ind j ih =>
    intro i hij hj
    by_cases h0 : i = 0
    · subst h0; simp [pathL_zero]
    · obtain ⟨a, h1, h2⟩ := h.par i (by omega) (by omega)
      obtain ⟨b, h3, h4⟩ := h.par j (by omega) hj
      rw [pathL_step h (by omega) (by omega) h1, pathL_step h (by omega) hj h3]
      simp only [List.length_append, List.length_singleton]
      have := ih b.frm h4 a.frm (h.mono i j a b (by omega) hij h1 h3 hj) (by omega)
      omega
theorem depth_arc {n : NetL} {m : List Int} {most k t : Nat} {s : SpaceL} (h : Found n m most k t s) {a : ArcL} (ha : a ∈ s.arcs) : (pathL s a.dst).length ≤ (pathL s a.frm).length + 1 := by
  obtain ⟨q1, q2, _, _, _⟩ := h.sound a ha
  by_cases h0 : a.dst = 0
  · rw [h0]; simp [pathL_zero]
  · obtain ⟨b, h1, h2⟩ := h.par a.dst (by omega) q2
    rw [pathL_step h (by omega) q2 h1]
    simp only [List.length_append, List.length_singleton]
    have := depth_mono h a.frm b.frm (h.early a b ha h1) q1
    omega

/-- No run that is shorter leads there. -/
theorem Whole.short {n : NetL} {m : List Int} {s : SpaceL} (h : Whole n m s) (seq : List Int) : ∀ {f g : Nat}, f < s.marks.length → g < s.marks.length → runL n (markAt s.marks f) seq = (markAt s.marks g, 0) →
    (pathL s g).length ≤ (pathL s f).length + seq.length := by
  induction seq with
  | nil =>
    intro f g hf hg e
    obtain ⟨_, e2⟩ := run_nil.1 e
    rw [markAt_inj h.nodup hg hf e2]
    simp
  | cons t ts ih =>
    intro f g hf hg e
    obtain ⟨x, e1, e2⟩ := run_cons.1 e
    rcases h.fire hf t with h3 | ⟨j, q, rfl, ha, hq, e3⟩
    · rw [e1] at h3; cases h3
    · rw [e1] at e3
      injection e3 with e3 _
      subst e3
      have h1 := ih hq hg e2
      obtain ⟨most, k, hF, hk⟩ := h
      have h2 := depth_arc hF ha
      simp only [List.length_cons] at *
      omega

end Go.Proofs.Ytffaamljogbmlaa

/- Plain facts on all marks that a net comes to: more room. -/
namespace Go.Proofs.Ytffaamljogbmlaa
set_option linter.unusedVariables false
set_option maxRecDepth 4000

theorem tryT_len {n : NetL} {most k t : Nat} {s s' : SpaceL} (e : tryT n most k s t = some s') : s.marks.length ≤ s'.marks.length := by
  unfold tryT at e
  split at e
  · injection e with e; subst e; exact Nat.le_refl _
  · split at e
    · split at e
      · injection e with e; subst e; exact Nat.le_refl _
      · split at e
        · cases e
        · injection e with e; subst e; simp
    · cases e

theorem try_cut {n : NetL} {most more k t : Nat} {s s' : SpaceL} (hl : s.marks.length ≤ more) (e : tryT n most k s t = some s') : tryT n more k s t = if s'.marks.length ≤ more then some s' else none := by
  unfold tryT at e ⊢
  split at e
  · rename_i h
    rw [if_pos h]
    injection e with e; subst e; rw [if_pos hl]
  · rename_i h
    rw [if_neg h]
    split at e
    · rename_i h2
      rw [if_pos h2]
      split at e
      · rename_i g hg
        injection e with e; subst e; rw [if_pos hl]
      · rename_i hg
        split at e
        · cases e
        · injection e with e
          subst e
          simp only [List.length_append, List.length_singleton]
          by_cases h3 : s.marks.length = more
          · rw [if_pos h3, if_neg (by omega)]
          · rw [if_neg h3, if_pos (by omega)]
    · cases e

theorem rowTo_len {n : NetL} {most k : Nat} {s : SpaceL} : ∀ (t : Nat) {s' : SpaceL}, rowTo n most k s t = some s' → s.marks.length ≤ s'.marks.length := by
  intro t
  induction t with
  | zero => intro s' e; injection e with e; subst e; exact Nat.le_refl _
  | succ t ih =>
    intro s' e
    simp only [rowTo, Option.bind_eq_some_iff] at e
    obtain ⟨s1, e1, e2⟩ := e
    exact Nat.le_trans (ih e1) (tryT_len e2)

theorem row_cut {n : NetL} {most more k : Nat} {s : SpaceL} (hl : s.marks.length ≤ more) : ∀ (t : Nat) {s' : SpaceL}, rowTo n most k s t = some s' → rowTo n more k s t = if s'.marks.length ≤ more then some s' else none := by
  intro t
  induction t with
  | zero => intro s' e; injection e with e; subst e; rw [if_pos hl]; rfl
  | succ t ih =>
    intro s' e
    simp only [rowTo, Option.bind_eq_some_iff] at e
    obtain ⟨s1, e1, e2⟩ := e
    rw [rowTo, ih e1]
    by_cases h1 : s1.marks.length ≤ more
    · rw [if_pos h1]; exact try_cut h1 e2
    · rw [if_neg h1, if_neg (by have := tryT_len e2; omega)]; rfl

theorem graph_cut {n : NetL} {m : List Int} {most more : Nat} (h1 : 1 ≤ more) : ∀ (k : Nat) {s : SpaceL}, graphTo n m most k = some s → graphTo n m more k = if s.marks.length ≤ more then some s else none := by
  intro k
  induction k with
  | zero => intro s e; injection e with e; subst e; rw [if_pos (by simpa using h1)]; rfl
  | succ k ih =>
    intro s e
    simp only [graphTo, Option.bind_eq_some_iff] at e
    obtain ⟨s1, e1, e2⟩ := e
    rw [graphTo, ih e1]
    by_cases hk : k < s1.marks.length
    · rw [if_pos hk] at e2
      by_cases h2 : s1.marks.length ≤ more
      · rw [if_pos h2]
        simp only [Option.bind_some, if_pos hk]
        exact row_cut h2 _ e2
      · rw [if_neg h2, if_neg (by have := rowTo_len _ e2; omega)]; rfl
    · rw [if_neg hk] at e2
      injection e2 with e2
      subst e2
      by_cases h2 : s1.marks.length ≤ more
      · rw [if_pos h2]
        simp only [Option.bind_some, if_neg hk]
      · rw [if_neg h2]; rfl

theorem graph_stable {n : NetL} {m : List Int} {b k : Nat} {s : SpaceL} (e : graphTo n m b k = some s) (hk : s.marks.length ≤ k) : ∀ j, graphTo n m b (k + j) = some s := by
  intro j
  induction j with
  | zero => exact e
  | succ j ih => rw [← Nat.add_assoc, graphTo, ih]; simp only [Option.bind_some]; rw [if_neg (by omega)]
theorem graph_before {n : NetL} {m : List Int} {b : Nat} : ∀ (j k : Nat) {s : SpaceL}, graphTo n m b (k + j) = some s → ∃ s', graphTo n m b k = some s' := by
  intro j
  induction j with
  | zero => intro k s e; exact ⟨s, e⟩
  | succ j ih =>
    intro k s e
    rw [← Nat.add_assoc, graphTo, Option.bind_eq_some_iff] at e
    obtain ⟨s1, e1, _⟩ := e
    exact ih k e1

/-- More room changes nothing, where there was enough; and there is enough just if there is room for all. -/
theorem graph_room {n : NetL} {m : List Int} {most more : Int} {s : SpaceL} (h : graphL n m most = (s, 0)) (h1 : 1 ≤ more) (h2 : more ≤ 300) :
    graphL n m more = if (s.marks.length : Int) ≤ more then (s, 0) else (⟨[], []⟩, 4) := by
  obtain ⟨m1, m2, hf, hg, hF⟩ := graphL_ok h
  have hcut := graph_cut (n := n) (m := m) (more := more.toNat) (by omega) _ hg
  have hle := hF.most_le
  unfold graphL
  have hok : graphOk n m more = true := by simp only [graphOk, Bool.and_eq_true, decide_eq_true_eq]; exact ⟨⟨h1, h2⟩, hf⟩
  rw [hok]
  simp only [if_true]
  have key : graphTo n m more.toNat more.toNat = if s.marks.length ≤ more.toNat then some s else none := by
    rcases Nat.lt_or_ge more.toNat most.toNat with q | q
    · cases hx : graphTo n m more.toNat more.toNat with
      | none =>
        by_cases hl : s.marks.length ≤ more.toNat
        · rw [if_pos hl] at hcut
          have e : most.toNat = more.toNat + (most.toNat - more.toNat) := by omega
          rw [e] at hcut
          obtain ⟨s', hs'⟩ := graph_before _ _ hcut
          rw [hx] at hs'; cases hs'
        · rw [if_neg hl]
      | some s' =>
        have hF' := graphTo_found (most := more.toNat) (by omega) hf _ hx
        have hst := graph_stable hx hF'.most_le (most.toNat - more.toNat)
        rw [show more.toNat + (most.toNat - more.toNat) = most.toNat by omega, hcut] at hst
        by_cases hl : s.marks.length ≤ more.toNat
        · rw [if_pos hl] at hst ⊢; exact hst.symm
        · rw [if_neg hl] at hst; cases hst
    · rw [if_pos (by omega)] at hcut ⊢
      have := graph_stable hcut hle (more.toNat - most.toNat)
      rw [show most.toNat + (more.toNat - most.toNat) = more.toNat by omega] at this
      exact this
  rw [key]
  by_cases hl : s.marks.length ≤ more.toNat
  · rw [if_pos hl, if_pos (by omega)]
  · rw [if_neg hl, if_neg (by omega)]

/-- What Path answers. -/
def reachL (n : NetL) (m goal : List Int) (most : Int) : List Int × Int :=
  if (graphL n m most).2 == 0 then
    match findM (graphL n m most).1.marks goal with
    | some g => (pathL (graphL n m most).1 g, 0)
    | none => ([], 3)
  else ([], (graphL n m most).2)

theorem findM_at {ms : List (List Int)} (h : ms.Nodup) {k : Nat} (hk : k < ms.length) : findM ms (markAt ms k) = some k := by
  cases hf : findM ms (markAt ms k) with
  | none => exact absurd (markAt_mem hk) (findM_none hf)
  | some g =>
    obtain ⟨hg, e⟩ := findM_some hf
    rw [markAt_inj h hg hk e]

/-- Each mark is come to by its path, and by no run that is shorter. -/
theorem reach_true {n : NetL} {m : List Int} {most : Int} {s : SpaceL} (h : graphL n m most = (s, 0)) {k : Nat} (hk : k < s.marks.length) :
    ∃ p, reachL n m (markAt s.marks k) most = (p, 0) ∧ runL n m p = (markAt s.marks k, 0) ∧ ∀ seq, runL n m seq = (markAt s.marks k, 0) → p.length ≤ seq.length := by
  have hW := graphL_whole h
  refine ⟨pathL s k, ?_, hW.path k hk, fun seq hs => ?_⟩
  · unfold reachL
    rw [h]
    simp only [BEq.rfl, if_true]
    rw [findM_at hW.nodup hk]
  · have e := hW.here
    have := hW.short seq (f := 0) (g := k) e.1 hk (by rw [e.2]; exact hs)
    rw [pathL_zero] at this
    simpa using this

end Go.Proofs.Ytffaamljogbmlaa

/- Plain words for what all marks of a net stay below. -/
namespace Go.Proofs.Ytffaamljogbmlaa
set_option linter.unusedVariables false
set_option maxRecDepth 4000

/-- Has a more than b? -1 is Many. -/
def moreL (a b : Int) : Bool := (b != -1) && ((a == -1) || decide (b < a))
theorem moreL_no {a b : Int} : moreL a b = false ↔ b = -1 ∨ (a ≠ -1 ∧ a ≤ b) := by
  unfold moreL
  rw [Bool.and_eq_false_iff, Bool.or_eq_false_iff, bne_eq_false_iff_eq, decide_eq_false_iff_not, beq_eq_false_iff_ne]
  omega
theorem moreL_yes {a b : Int} : moreL a b = true ↔ b ≠ -1 ∧ (a = -1 ∨ b < a) := by
  unfold moreL
  rw [Bool.and_eq_true, Bool.or_eq_true, bne_iff_ne, decide_eq_true_eq, beq_iff_eq]

def belowTo (a b : List Int) (k : Nat) : Bool := (List.range k).all fun p => !moreL (nth a p) (nth b p)
/-- Nowhere more. -/
def belowL (a b : List Int) : Bool := belowTo a b b.length
theorem belowTo_succ (a b : List Int) (k : Nat) : belowTo a b (k + 1) = (belowTo a b k && !moreL (nth a k) (nth b k)) := by
  simp [belowTo, List.range_succ]
theorem belowTo_iff (a b : List Int) (k : Nat) : belowTo a b k = true ↔ ∀ p, p < k → moreL (nth a p) (nth b p) = false := by
  simp [belowTo, List.all_eq_true]
theorem belowL_iff (a b : List Int) : belowL a b = true ↔ ∀ p, p < b.length → moreL (nth a p) (nth b p) = false := belowTo_iff a b b.length
theorem belowTo_no {a b : List Int} {k : Nat} (hk : k < b.length) (h : moreL (nth a k) (nth b k) = true) : belowL a b = false := by
  cases e : belowL a b
  · rfl
  · rw [(belowL_iff a b).1 e k hk] at h; cases h

def mapTo (k : Nat) (f : Nat → Int) : List Int := (List.range k).map f
theorem mapTo_succ (k : Nat) (f : Nat → Int) : mapTo (k + 1) f = mapTo k f ++ [f k] := by simp [mapTo, List.range_succ]
theorem mapTo_length (k : Nat) (f : Nat → Int) : (mapTo k f).length = k := by simp [mapTo]
theorem mapTo_nth (k : Nat) (f : Nat → Int) (p : Nat) (h : p < k) : nth (mapTo k f) p = f p := by simp [mapTo, nth, List.getD, h]

/-- What firing comes to. -/
def omAt (t : TranL) (m : List Int) (p : Nat) : Int := if nth m p = -1 then -1 else nth m p - nth t.pre p + nth t.post p
def omFire (t : TranL) (m : List Int) : List Int := mapTo m.length (omAt t m)

/-- Those places where x has more than y have Many, if y is below x. -/
def raiseAt (y x : List Int) (p : Nat) : Int := if moreL (nth x p) (nth y p) then -1 else nth x p
def raise1 (y x : List Int) : List Int := if belowL y x then mapTo x.length (raiseAt y x) else x
def raiseAll (mine : List (List Int)) (x : List Int) : List Int := mine.foldl (fun x y => raise1 y x) x
def raiseN (mine : List (List Int)) (x : List Int) : Nat → List Int
  | 0 => x
  | r + 1 => raiseAll mine (raiseN mine x r)

/-- As it was, but where it has Many. -/
def Raised (x z : List Int) : Prop := z.length = x.length ∧ ∀ p, nth z p = -1 ∨ nth z p = nth x p
theorem Raised.refl (x : List Int) : Raised x x := ⟨rfl, fun _ => .inr rfl⟩
theorem Raised.trans {x y z : List Int} (h : Raised x y) (k : Raised y z) : Raised x z := by
  refine ⟨k.1.trans h.1, fun p => ?_⟩
  rcases k.2 p with e | e
  · exact .inl e
  · rw [e]; exact h.2 p
theorem raise1_raised (y x : List Int) : Raised x (raise1 y x) := by
  unfold raise1
  split
  · refine ⟨mapTo_length _ _, fun p => ?_⟩
    by_cases hp : p < x.length
    · rw [mapTo_nth _ _ _ hp, raiseAt]
      split
      · exact .inl rfl
      · exact .inr rfl
    · rw [nth_past _ p (by rw [mapTo_length]; omega), nth_past x p (by omega)]; exact .inr rfl
  · exact Raised.refl x
theorem raiseAll_raised (mine : List (List Int)) : ∀ x, Raised x (raiseAll mine x) := by
  induction mine with
  | nil => exact fun x => Raised.refl x
  | cons y r ih => exact fun x => (raise1_raised y x).trans (ih (raise1 y x))
theorem raiseN_raised (mine : List (List Int)) (x : List Int) : ∀ r, Raised x (raiseN mine x r)
  | 0 => Raised.refl x
  | r + 1 => (raiseN_raised mine x r).trans (raiseAll_raised mine _)
/-- Where nothing has Many, it is as it was. -/
theorem Raised.same {x z : List Int} (h : Raised x z) (hz : ∀ p, nth z p ≠ -1) : z = x := eq_of_at h.1 fun p => by
  rcases h.2 p with e | e
  · exact absurd e (hz p)
  · exact e

/-- Where nobody is below with less somewhere, nothing is changed. -/
theorem raise_still {mine : List (List Int)} {x : List Int} (h : ∀ y ∈ mine, belowL y x = true → ∀ p, p < x.length → moreL (nth x p) (nth y p) = false) (r : Nat) : raiseN mine x r = x := by
  have h1 : ∀ y ∈ mine, raise1 y x = x := by
    intro y hy
    unfold raise1
    split
    · rename_i hb
      refine eq_of_at (mapTo_length _ _) fun p => ?_
      by_cases hp : p < x.length
      · rw [mapTo_nth _ _ _ hp, raiseAt, h y hy hb p hp]; rfl
      · rw [nth_past _ p (by rw [mapTo_length]; omega), nth_past x p (by omega)]
    · rfl
  have h2 : raiseAll mine x = x := by
    clear h
    unfold raiseAll
    induction mine with
    | nil => rfl
    | cons y l ih => rw [List.foldl_cons, h1 y (by simp)]; exact ih fun z hz => h1 z (by simp [hz])
  induction r with
  | zero => rfl
  | succ r ih => rw [raiseN, ih, h2]

/-- A knot, with the marks that it comes of. -/
structure KnotX where
  up : Int
  tran : Int
  mark : List Int
  line : List (List Int)

/-- A knot as it is answered. -/
structure KnotL where
  up : Int
  tran : Int
  mark : List Int

def KnotX.knot (x : KnotX) : KnotL := ⟨x.up, x.tran, x.mark⟩
def KnotX.mine (x : KnotX) : List (List Int) := x.line ++ [x.mark]
def noKnot : KnotX := ⟨0, 0, [], []⟩
def knotAt (s : List KnotX) (k : Nat) : KnotX := s.getD k noKnot
theorem knotAt_append {s r : List KnotX} {k : Nat} (h : k < s.length) : knotAt (s ++ r) k = knotAt s k := by
  rw [knotAt, knotAt, List.getD_eq_getElem?_getD, List.getD_eq_getElem?_getD, List.getElem?_append_left h]
theorem knotAt_last (s : List KnotX) (x : KnotX) : knotAt (s ++ [x]) s.length = x := by
  rw [knotAt, List.getD_eq_getElem?_getD, List.getElem?_append_right (Nat.le_refl _)]; simp
theorem knotAt_get {s : List KnotX} {k : Nat} (h : k < s.length) : knotAt s k = s[k] := by
  rw [knotAt, List.getD_eq_getElem?_getD, List.getElem?_eq_getElem h]; rfl

/-- What comes of a knot by a transition. -/
def kid (n : NetL) (k t : Nat) (x : KnotX) : KnotX := ⟨k, t, raiseN x.mine (omFire (tranAt n.trans t) x.mark) (n.places.toNat + 1), x.mine⟩
def growT (n : NetL) (most k : Nat) (s : List KnotX) (t : Nat) : Option (List KnotX) :=
  if belowL (tranAt n.trans t).pre (knotAt s k).mark then (if most ≤ s.length then none else some (s ++ [kid n k t (knotAt s k)])) else some s
def growTo (n : NetL) (most k : Nat) (s : List KnotX) : Nat → Option (List KnotX)
  | 0 => some s
  | t + 1 => (growTo n most k s t).bind fun s' => growT n most k s' t
def seenK (x : KnotX) : Bool := x.line.contains x.mark
def rootK (m : List Int) : KnotX := ⟨-1, -1, m, []⟩
/-- The first k knots are done. -/
def treeTo (n : NetL) (m : List Int) (most : Nat) : Nat → Option (List KnotX)
  | 0 => some [rootK m]
  | k + 1 => (treeTo n m most k).bind fun s => if k < s.length then (if seenK (knotAt s k) then some s else growTo n most k s n.trans.length) else some s

def treeL (n : NetL) (m : List Int) (most : Int) : List KnotL × Int :=
  if graphOk n m most then
    match treeTo n m most.toNat most.toNat with
    | some s => (s.map KnotX.knot, 0)
    | none => ([], 4)
  else ([], 2)

/-- The most at a place. -/
def topL (p : Nat) (l : List KnotL) (x : Int) : Int := l.foldl (fun x k => if moreL (nth k.mark p) x then nth k.mark p else x) x
def limitL (n : NetL) (m : List Int) (p most : Int) : Int × Int :=
  if (treeL n m most).2 == 0 then (if decide (0 ≤ p) && decide (p < n.places) then (topL p.toNat (treeL n m most).1 0, 0) else (0, 3)) else (0, (treeL n m most).2)

/-- What holds while knots come: k knots are done, and t transitions of knot k. -/
structure Grown (n : NetL) (m : List Int) (most k t : Nat) (s : List KnotX) : Prop where
  most_le : s.length ≤ most
  pos : 0 < s.length
  first : knotAt s 0 = rootK m
  child : ∀ j, 0 < j → j < s.length → ∃ u t', u < j ∧ t' < n.trans.length ∧ belowL (tranAt n.trans t').pre (knotAt s u).mark = true ∧ knotAt s j = kid n u t' (knotAt s u)
  whole : ∀ f j, f < s.length → j < n.trans.length → (f < k ∨ f = k ∧ j < t) → seenK (knotAt s f) = true ∨ belowL (tranAt n.trans j).pre (knotAt s f).mark = false ∨ ∃ g, g < s.length ∧ knotAt s g = kid n f j (knotAt s f)

theorem Grown.start {n : NetL} {m : List Int} {most : Nat} (hm : 1 ≤ most) : Grown n m most 0 0 [rootK m] where
  most_le := hm
  pos := Nat.one_pos
  first := rfl
  child := by intro j h1 h2; simp at h2; omega
  whole := by intro f j h1 h2 h3; omega

theorem Grown.step {n : NetL} {m : List Int} {most k t : Nat} {s s' : List KnotX} (h : Grown n m most k t s) (hk : k < s.length) (ht : t < n.trans.length) (e : growT n most k s t = some s') :
    Grown n m most k (t + 1) s' ∧ s.length ≤ s'.length ∧ ∀ j, j < s.length → knotAt s' j = knotAt s j := by
  unfold growT at e
  split at e
  · rename_i hb
    split at e
    · cases e
    · rename_i hl
      injection e with e
      subst e
      have hlen : (s ++ [kid n k t (knotAt s k)]).length = s.length + 1 := by simp
      refine ⟨⟨by omega, by omega, by rw [knotAt_append h.pos]; exact h.first, ?_, ?_⟩, by omega, fun j hj => knotAt_append hj⟩
      · intro j h1 h2
        by_cases hj : j < s.length
        · obtain ⟨u, t', q1, q2, q3, q4⟩ := h.child j h1 hj
          exact ⟨u, t', q1, q2, by rw [knotAt_append (by omega)]; exact q3, by rw [knotAt_append hj, knotAt_append (by omega)]; exact q4⟩
        · have e : j = s.length := by omega
          subst e
          exact ⟨k, t, hk, ht, by rw [knotAt_append hk]; exact hb, by rw [knotAt_last, knotAt_append hk]⟩
      · intro f j h1 h2 h3
        have hf : f < s.length := by omega
        rw [knotAt_append hf]
        by_cases hn : f = k ∧ j = t
        · obtain ⟨rfl, rfl⟩ := hn
          exact .inr (.inr ⟨s.length, by omega, by rw [knotAt_last]⟩)
        · rcases h.whole f j hf h2 (by omega) with q | q | ⟨g, q1, q2⟩
          · exact .inl q
          · exact .inr (.inl q)
          · exact .inr (.inr ⟨g, by omega, by rw [knotAt_append q1]; exact q2⟩)
  · rename_i hb
    injection e with e
    subst e
    refine ⟨⟨h.most_le, h.pos, h.first, h.child, ?_⟩, Nat.le_refl _, fun j _ => rfl⟩
    intro f j h1 h2 h3
    by_cases hn : f = k ∧ j = t
    · obtain ⟨rfl, rfl⟩ := hn
      exact .inr (.inl (by simpa using hb))
    · exact h.whole f j h1 h2 (by omega)

theorem growTo_grown {n : NetL} {m : List Int} {most k : Nat} {s : List KnotX} (h : Grown n m most k 0 s) (hk : k < s.length) : ∀ (t : Nat) {s' : List KnotX}, t ≤ n.trans.length → growTo n most k s t = some s' →
    Grown n m most k t s' ∧ s.length ≤ s'.length ∧ ∀ j, j < s.length → knotAt s' j = knotAt s j
  | 0, s', _, e => by rw [growTo] at e; injection e with e; subst e; exact ⟨h, Nat.le_refl _, fun _ _ => rfl⟩
  | t + 1, s', ht, e => by
    rw [growTo] at e
    cases e1 : growTo n most k s t with
    | none => rw [e1] at e; cases e
    | some s1 =>
      rw [e1] at e
      obtain ⟨g1, l1, k1⟩ := growTo_grown h hk t (by omega) e1
      obtain ⟨g2, l2, k2⟩ := g1.step (Nat.lt_of_lt_of_le hk l1) (by omega) e
      exact ⟨g2, Nat.le_trans l1 l2, fun j hj => (k2 j (Nat.lt_of_lt_of_le hj l1)).trans (k1 j hj)⟩

theorem treeTo_grown {n : NetL} {m : List Int} {most : Nat} (hm : 1 ≤ most) : ∀ (k : Nat) {s : List KnotX}, treeTo n m most k = some s → Grown n m most k 0 s
  | 0, s, e => by rw [treeTo] at e; injection e with e; subst e; exact Grown.start hm
  | k + 1, s, e => by
    rw [treeTo] at e
    cases e1 : treeTo n m most k with
    | none => rw [e1] at e; cases e
    | some s1 =>
      have g1 := treeTo_grown hm k e1
      rw [e1] at e
      simp only [Option.bind_some] at e
      split at e
      · rename_i hk
        split at e
        · rename_i hs
          injection e with e
          subst e
          refine ⟨g1.most_le, g1.pos, g1.first, g1.child, ?_⟩
          intro f j h1 h2 h3
          by_cases hf : f = k
          · subst hf; exact .inl hs
          · exact g1.whole f j h1 h2 (by omega)
        · obtain ⟨g2, _, _⟩ := growTo_grown g1 hk _ (Nat.le_refl _) e
          exact ⟨g2.most_le, g2.pos, g2.first, g2.child, fun f j h1 h2 h3 => g2.whole f j h1 h2 (by omega)⟩
      · rename_i hk
        injection e with e
        subst e
        exact ⟨g1.most_le, g1.pos, g1.first, g1.child, fun f j h1 h2 h3 => g1.whole f j h1 h2 (by omega)⟩

/-- A tree that is whole. -/
structure TreeOk (n : NetL) (m : List Int) (s : List KnotX) : Prop where
  room : s.length ≤ 300
  fits : fitsL n m = true
  pos : 0 < s.length
  first : knotAt s 0 = rootK m
  child : ∀ j, 0 < j → j < s.length → ∃ u t', u < j ∧ t' < n.trans.length ∧ belowL (tranAt n.trans t').pre (knotAt s u).mark = true ∧ knotAt s j = kid n u t' (knotAt s u)
  whole : ∀ f j, f < s.length → j < n.trans.length → seenK (knotAt s f) = true ∨ belowL (tranAt n.trans j).pre (knotAt s f).mark = false ∨ ∃ g, g < s.length ∧ knotAt s g = kid n f j (knotAt s f)

theorem treeL_ok {n : NetL} {m : List Int} {most : Int} {l : List KnotL} (h : treeL n m most = (l, 0)) : ∃ s, l = s.map KnotX.knot ∧ TreeOk n m s := by
  unfold treeL at h
  split at h
  · rename_i hg
    simp only [graphOk, Bool.and_eq_true, decide_eq_true_eq] at hg
    split at h
    · rename_i s e
      simp only [Prod.mk.injEq, and_true] at h
      have g := treeTo_grown (by omega) _ e
      exact ⟨s, h.symm, by have := g.most_le; omega, hg.2, g.pos, g.first, g.child, fun f j h1 h2 => g.whole f j h1 h2 (.inl (by have := g.most_le; omega))⟩
    · simp at h
  · simp at h
theorem treeL_err {n : NetL} {m : List Int} {most : Int} (h : (treeL n m most).2 ≠ 0) : (treeL n m most).1 = [] := by
  unfold treeL at h ⊢
  split
  · rename_i hg
    rw [if_pos hg] at h
    split at h
    · simp at h
    · rfl
  · rfl
theorem treeL_code (n : NetL) (m : List Int) (most : Int) : (treeL n m most).2 = 0 ∨ (treeL n m most).2 = 2 ∨ (treeL n m most).2 = 4 := by
  unfold treeL
  split
  · split
    · exact .inl rfl
    · exact .inr (.inr rfl)
  · exact .inr (.inl rfl)

end Go.Proofs.Ytffaamljogbmlaa

/- Plain words for nets with a beginning and an end. -/
namespace Go.Proofs.Ytffaamljogbmlaa
set_option linter.unusedVariables false
set_option maxRecDepth 4000

/-- One token, at one place. -/
def startL (P i : Int) : List Int := mapTo (min P 16).toNat fun p => if (p : Int) = i then 1 else 0

theorem start_length (P i : Int) : (startL P i).length = (min P 16).toNat := mapTo_length _ _

theorem start_at (P i : Int) (p : Nat) (hp : p < (min P 16).toNat) : nth (startL P i) p = if (p : Int) = i then 1 else 0 := mapTo_nth _ _ _ hp

theorem start_bounds (P i : Int) (p : Nat) : 0 ≤ nth (startL P i) p ∧ nth (startL P i) p ≤ 1 := by
  by_cases hp : p < (min P 16).toNat
  · rw [start_at P i p hp]
    split <;> omega
  · rw [nth_past _ _ (by rw [start_length]; omega)]; omega

theorem start_right (P i : Int) : rightL (startL P i) = true := (rightL_iff _).2 fun j => by have := start_bounds P i j; omega

/-- Which places are behind a place. -/
def WayP (n : NetL) (f p : Nat) : Prop := ∀ Q : Nat → Prop, Q f → (∀ k a b, k < n.trans.length → Q a → nth (tranAt n.trans k).pre a ≠ 0 → nth (tranAt n.trans k).post b ≠ 0 → Q b) → Q p
/-- Which transitions are. -/
def WayT (n : NetL) (f k : Nat) : Prop := ∃ p, WayP n f p ∧ nth (tranAt n.trans k).pre p ≠ 0

theorem WayP.here (n : NetL) (f : Nat) : WayP n f f := fun Q h _ => h
theorem WayP.step {n : NetL} {f k a b : Nat} (h : WayP n f a) (hk : k < n.trans.length) (h1 : nth (tranAt n.trans k).pre a ≠ 0) (h2 : nth (tranAt n.trans k).post b ≠ 0) : WayP n f b :=
  fun Q q1 q2 => q2 k a b hk (h Q q1 q2) h1 h2

structure ShapeOk (n : NetL) (i o : Int) : Prop where
  ok : netOk n = true
  ne : i ≠ o
  i0 : 0 ≤ i
  i1 : i < n.places
  o0 : 0 ≤ o
  o1 : o < n.places
  p1 : ∀ p : Nat, (p : Int) < n.places → WayP n i.toNat p
  p2 : ∀ p : Nat, (p : Int) < n.places → WayP (turnL n) o.toNat p
  t1 : ∀ k, k < n.trans.length → WayT n i.toNat k
  t2 : ∀ k, k < n.trans.length → WayT (turnL n) o.toNat k
  put : ∀ k, k < n.trans.length → nth (tranAt n.trans k).post i.toNat = 0
  take : ∀ k, k < n.trans.length → nth (tranAt n.trans k).pre o.toNat = 0

/-- What is wrong. -/
structure Judged (n : NetL) (i o e : Int) : Prop where
  bad : netOk n = false → e = 2
  form : netOk n = true → ¬ ShapeOk n i o → e = 1
  right : ShapeOk n i o → e = 0

theorem Judged.unique {n : NetL} {i o e f : Int} (h : Judged n i o e) (k : Judged n i o f) : e = f := by
  cases hn : netOk n with
  | false => rw [h.bad hn, k.bad hn]
  | true =>
    by_cases hs : ShapeOk n i o
    · rw [h.right hs, k.right hs]
    · rw [h.form hn hs, k.form hn hs]

theorem Judged.of_bad {n : NetL} {i o : Int} (h : netOk n = false) : Judged n i o 2 := ⟨fun _ => rfl, fun q => (by rw [h] at q; cases q), fun q => (by have := q.ok; rw [h] at this; cases this)⟩
theorem Judged.of_form {n : NetL} {i o : Int} (h : netOk n = true) (hs : ¬ ShapeOk n i o) : Judged n i o 1 := ⟨fun q => (by rw [h] at q; cases q), fun _ _ => rfl, fun q => absurd q hs⟩
theorem Judged.of_right {n : NetL} {i o : Int} (hs : ShapeOk n i o) : Judged n i o 0 := ⟨fun q => (by have := hs.ok; rw [q] at this; cases this), fun _ q => absurd hs q, fun _ => rfl⟩
theorem Judged.zero {n : NetL} {i o : Int} (h : Judged n i o 0) : ShapeOk n i o := by
  cases hn : netOk n with
  | false => have := h.bad hn; omega
  | true =>
    by_cases hs : ShapeOk n i o
    · exact hs
    · have := h.form hn hs; omega
theorem Judged.not_zero {n : NetL} {i o e : Int} (h : Judged n i o e) (he : e ≠ 0) : ¬ ShapeOk n i o := fun hs => he (h.right hs)

theorem turn_back (n : NetL) : turnL (turnL n) = n := by
  unfold turnL
  simp only [List.map_map]
  cases n with
  | mk P ts =>
    congr 1
    have : (turnT ∘ turnT) = id := by funext t; exact turn_turn t
    rw [this, List.map_id]

theorem turn_ok_iff (n : NetL) : netOk (turnL n) = netOk n := by
  cases h : netOk n with
  | true => exact turn_ok n h
  | false =>
    cases h2 : netOk (turnL n) with
    | false => rfl
    | true =>
      have h3 := turn_ok _ h2
      rw [turn_back, h] at h3
      cases h3

theorem turn_count (n : NetL) : (turnL n).trans.length = n.trans.length := by simp [turnL]

theorem turn_tran (n : NetL) {k : Nat} (hk : k < n.trans.length) : tranAt (turnL n).trans k = turnT (tranAt n.trans k) := turn_at _ _ hk

/-- The other way round it has one, too. -/
theorem ShapeOk.turned {n : NetL} {i o : Int} (h : ShapeOk n i o) : ShapeOk (turnL n) o i where
  ok := by rw [turn_ok_iff]; exact h.ok
  ne := fun e => h.ne e.symm
  i0 := h.o0
  i1 := h.o1
  o0 := h.i0
  o1 := h.i1
  p1 := h.p2
  p2 := by rw [turn_back]; exact h.p1
  t1 := by rw [turn_count]; exact h.t2
  t2 := by rw [turn_back, turn_count]; exact h.t1
  put := by
    rw [turn_count]
    intro k hk
    rw [turn_tran n hk]
    exact h.take k hk
  take := by
    rw [turn_count]
    intro k hk
    rw [turn_tran n hk]
    exact h.put k hk

theorem Judged.turned {n : NetL} {i o e : Int} (h : Judged n i o e) : Judged (turnL n) o i e where
  bad := by rw [turn_ok_iff]; exact h.bad
  form := by
    rw [turn_ok_iff]
    exact fun q hs => h.form q fun k => hs k.turned
  right := fun hs => h.right (by have := hs.turned; rwa [turn_back] at this)

/-- With one more transition, from the end to the beginning. -/
def closeL (n : NetL) (i o : Int) : NetL := ⟨n.places, n.trans ++ [⟨0, startL n.places o, startL n.places i⟩]⟩

/-- What Close answers. -/
structure Closed (n : NetL) (i o : Int) (c : NetL) (e : Int) : Prop where
  right : ShapeOk n i o → n.trans.length < 24 → e = 0 ∧ c = closeL n i o
  full : ShapeOk n i o → ¬ n.trans.length < 24 → e = 4 ∧ c = ⟨0, []⟩
  bad : ¬ ShapeOk n i o → Judged n i o e ∧ c = ⟨0, []⟩

theorem Closed.unique {n c d : NetL} {i o e f : Int} (h : Closed n i o c e) (k : Closed n i o d f) : c = d ∧ e = f := by
  by_cases hs : ShapeOk n i o
  · by_cases hl : n.trans.length < 24
    · obtain ⟨h1, h2⟩ := h.right hs hl
      obtain ⟨k1, k2⟩ := k.right hs hl
      exact ⟨by rw [h2, k2], by rw [h1, k1]⟩
    · obtain ⟨h1, h2⟩ := h.full hs hl
      obtain ⟨k1, k2⟩ := k.full hs hl
      exact ⟨by rw [h2, k2], by rw [h1, k1]⟩
  · obtain ⟨h1, h2⟩ := h.bad hs
    obtain ⟨k1, k2⟩ := k.bad hs
    exact ⟨by rw [h2, k2], h1.unique k1⟩

theorem Closed.zero {n c : NetL} {i o : Int} (h : Closed n i o c 0) : ShapeOk n i o ∧ n.trans.length < 24 ∧ c = closeL n i o := by
  by_cases hs : ShapeOk n i o
  · by_cases hl : n.trans.length < 24
    · exact ⟨hs, hl, (h.right hs hl).2⟩
    · have := (h.full hs hl).1; omega
  · obtain ⟨h1, h2⟩ := h.bad hs
    exact absurd h1.zero hs

theorem Closed.none {n c : NetL} {i o e : Int} (h : Closed n i o c e) (he : e ≠ 0) : c = ⟨0, []⟩ := by
  by_cases hs : ShapeOk n i o
  · by_cases hl : n.trans.length < 24
    · exact absurd (h.right hs hl).1 he
    · exact (h.full hs hl).2
  · exact (h.bad hs).2

theorem head_of {n : NetL} (h : netOk n = true) : 0 ≤ n.places ∧ n.places ≤ 16 ∧ n.trans.length ≤ 24 := by
  simp only [netOk, headOk, Bool.and_eq_true, decide_eq_true_eq] at h
  exact ⟨h.1.1.1, h.1.1.2, h.1.2⟩

theorem start_len {n : NetL} (h : netOk n = true) (i : Int) : ((startL n.places i).length : Int) = n.places := by
  obtain ⟨h0, h1, _⟩ := head_of h
  rw [start_length]; omega

theorem start_fits {n : NetL} (h : netOk n = true) (i : Int) : fitsL n (startL n.places i) = true := fits_mk h (start_len h i) (start_right _ _)

theorem mem_nth {xs : List Int} {x : Int} (h : x ∈ xs) : ∃ j, j < xs.length ∧ nth xs j = x := by
  obtain ⟨j, hj, e⟩ := List.getElem_of_mem h
  exact ⟨j, hj, by simp [nth, List.getD, List.getElem?_eq_getElem hj, e]⟩

theorem start_tran {n : NetL} (h : netOk n = true) (i o : Int) : tranOk n.places ⟨0, startL n.places o, startL n.places i⟩ = true := by
  have l1 := start_len h o
  have l2 := start_len h i
  simp only [tranOk, tranHead, Bool.and_eq_true, beq_iff_eq, decide_eq_true_eq, List.all_eq_true, List.mem_append]
  refine ⟨⟨⟨⟨by omega, by omega⟩, l1⟩, l2⟩, ?_⟩
  rintro x (hx | hx)
  all_goals
    obtain ⟨j, _, rfl⟩ := mem_nth hx
    simp only [weightOk, Bool.and_eq_true, decide_eq_true_eq]
  · have := start_bounds n.places o j; omega
  · have := start_bounds n.places i j; omega

theorem close_ok {n : NetL} (h : netOk n = true) (hl : n.trans.length < 24) (i o : Int) : netOk (closeL n i o) = true := by
  obtain ⟨h0, h1, _⟩ := head_of h
  have hs := start_tran h i o
  simp only [netOk, Bool.and_eq_true] at h
  simp only [netOk, headOk, closeL, Bool.and_eq_true, List.length_append, List.length_cons, List.length_nil, List.all_append, List.all_cons, List.all_nil]
  exact ⟨⟨⟨decide_eq_true h0, decide_eq_true h1⟩, decide_eq_true (by omega)⟩, h.2, hs, trivial⟩

theorem close_count (n : NetL) (i o : Int) : (closeL n i o).trans.length = n.trans.length + 1 := by simp [closeL]

theorem close_at (n : NetL) (i o : Int) {k : Nat} (hk : k < n.trans.length) : tranAt (closeL n i o).trans k = tranAt n.trans k := by
  unfold closeL tranAt List.getD
  simp [List.getElem?_append, hk]

theorem close_last (n : NetL) (i o : Int) : tranAt (closeL n i o).trans n.trans.length = ⟨0, startL n.places o, startL n.places i⟩ := by
  unfold closeL tranAt List.getD
  simp

theorem close_fits {n : NetL} (h : netOk n = true) (hl : n.trans.length < 24) (i o : Int) (m : List Int) : fitsL (closeL n i o) m = fitsL n m := by
  unfold fitsL
  rw [close_ok h hl, h]
  rfl

theorem close_fire {n : NetL} (h : netOk n = true) (hl : n.trans.length < 24) (i o : Int) (m : List Int) {t : Int} (ht : t ≠ n.trans.length) : fireL (closeL n i o) m t = fireL n m t := by
  unfold fireL
  rw [close_fits h hl, close_count]
  have e : decide (t < ((n.trans.length + 1 : Nat) : Int)) = decide (t < (n.trans.length : Int)) := by rw [decide_eq_decide]; omega
  rw [e]
  by_cases q : 0 ≤ t ∧ t < n.trans.length
  · rw [close_at n i o (show t.toNat < n.trans.length by omega)]
  · have f : (decide (0 ≤ t) && decide (t < (n.trans.length : Int))) = false := by
      rw [Bool.and_eq_false_iff, decide_eq_false_iff_not, decide_eq_false_iff_not]
      omega
    rw [f]
    simp

theorem close_run {n : NetL} (h : netOk n = true) (hl : n.trans.length < 24) (i o : Int) (seq : List Int) : ∀ (m : List Int), (n.trans.length : Int) ∉ seq → runL (closeL n i o) m seq = runL n m seq := by
  induction seq with
  | nil => intro m _; unfold runL; rw [close_fits h hl]
  | cons t ts ih =>
    intro m hm
    simp only [List.mem_cons, not_or] at hm
    rw [runL_cons, runL_cons, close_fits h hl, close_fire h hl i o m (fun e => hm.1 e.symm), ih _ hm.2]

/-- From the end the beginning is come to by one firing. -/
theorem close_round {n : NetL} (h : netOk n = true) (hl : n.trans.length < 24) (i o : Int) : fireL (closeL n i o) (startL n.places o) (n.trans.length : Nat) = (startL n.places i, 0) := by
  have hk : n.trans.length < (closeL n i o).trans.length := by rw [close_count]; omega
  have e : addL (subL (startL n.places o) (startL n.places o)) (startL n.places i) = startL n.places i := by
    refine eq_of_at ?_ fun j => ?_
    · rw [add_length, sub_length]
      simp only [start_length]
      omega
    · rw [add_at, sub_at]; omega
  have hf : fitsL (closeL n i o) (startL n.places o) = true := by rw [close_fits h hl]; exact start_fits h o
  have := fire_mk hk hf (by rw [close_last]; exact covers_self _) (by rw [close_last]; simp only; rw [e]; exact start_right _ _)
  rw [this, close_last]
  simp only
  rw [e]

/-- What was closed has no beginning. -/
theorem close_form {n : NetL} {i o : Int} (hs : ShapeOk n i o) (hl : n.trans.length < 24) : ¬ ShapeOk (closeL n i o) i o := by
  intro q
  have h1 := q.put n.trans.length (by rw [close_count]; omega)
  rw [close_last] at h1
  simp only at h1
  obtain ⟨h0, h16, _⟩ := head_of hs.ok
  have := hs.i0
  have := hs.i1
  rw [start_at n.places i i.toNat (by omega), if_pos (by omega)] at h1
  omega

theorem close_same (n : NetL) (i o : Int) : (closeL n i o).trans.take n.trans.length = n.trans := by simp [closeL]

/-! ### at the end nothing goes on -/
theorem end_none {n : NetL} {i o : Int} (hs : ShapeOk n i o) : canTo n (startL n.places o) n.trans.length = [] := by
  rw [List.eq_nil_iff_forall_not_mem]
  intro t ht
  obtain ⟨k, rfl, hk, hc⟩ := (can_mem n _ _ _).1 ht
  obtain ⟨p, _, hp⟩ := hs.t1 k hk
  have hcp := (coversL_iff _ _).1 hc p
  have hpo : (p : Int) ≠ o := fun e => hp (by have := hs.take k hk; rw [← e, Int.toNat_natCast] at this; exact this)
  have hb := (okTok_nth (tran_right (net_tran hs.ok hk)).1 p).1
  have : nth (startL n.places o) p = 0 := by
    by_cases q : p < (min n.places 16).toNat
    · rw [start_at _ _ _ q, if_neg hpo]
    · exact nth_past _ _ (by rw [start_length]; omega)
  omega

/-- Nothing comes to the beginning again. -/
theorem run_low {n : NetL} {i o : Int} (hs : ShapeOk n i o) (seq : List Int) : ∀ {m x : List Int}, runL n m seq = (x, 0) → nth m i.toNat = 0 → nth x i.toNat = 0 := by
  induction seq with
  | nil => intro m x h h0; obtain ⟨_, rfl⟩ := run_nil.1 h; exact h0
  | cons t ts ih =>
    intro m x h h0
    obtain ⟨y, h1, h2⟩ := run_cons.1 h
    refine ih h2 ?_
    obtain ⟨k, rfl, hk, hf, hc, hr, rfl⟩ := fire_ok h1
    have h3 := (coversL_iff _ _).1 hc i.toNat
    have h4 := (okTok_nth (tran_right (net_tran hs.ok hk)).1 i.toNat).1
    rw [add_at, sub_at, hs.put k hk]
    omega

theorem run_gone {n : NetL} {i o : Int} (hs : ShapeOk n i o) {seq x : List Int} (h : runL n (startL n.places i) seq = (x, 0)) (h0 : seq ≠ []) : nth x i.toNat = 0 := by
  cases seq with
  | nil => exact absurd rfl h0
  | cons t ts =>
    obtain ⟨y, h1, h2⟩ := run_cons.1 h
    refine run_low hs ts h2 ?_
    obtain ⟨k, rfl, hk, hf, hc, hr, rfl⟩ := fire_ok h1
    obtain ⟨p, _, hp⟩ := hs.t1 k hk
    have hcp := (coversL_iff _ _).1 hc p
    have hb := (okTok_nth (tran_right (net_tran hs.ok hk)).1 p).1
    have hsb := start_bounds n.places i p
    have hpi : (p : Int) = i := by
      by_cases q : p < (min n.places 16).toNat
      · rw [start_at _ _ _ q] at hcp
        by_cases e : (p : Int) = i
        · exact e
        · rw [if_neg e] at hcp; omega
      · rw [nth_past (startL n.places i) p (by rw [start_length]; omega)] at hcp; omega
    have : i.toNat = p := by omega
    rw [add_at, sub_at, hs.put k hk, this]
    omega

end Go.Proofs.Ytffaamljogbmlaa

/- Plain words for cases: nets worked off, with work that takes its time. -/
namespace Go.Proofs.Ytffaamljogbmlaa
set_option linter.unusedVariables false
set_option maxRecDepth 4000

structure CaseL where
  mark : List Int
  busy : List Int

def noCase : CaseL := ⟨[], []⟩
def rightC (n : NetL) (c : CaseL) : Bool := fitsL n c.mark && (c.busy.length == n.trans.length) && rightL c.busy
def zerosL (k : Nat) : List Int := List.replicate k 0
theorem zeros_length (k : Nat) : (zerosL k).length = k := List.length_replicate
theorem zeros_at (k j : Nat) : nth (zerosL k) j = 0 := by
  unfold nth zerosL
  rw [List.getD_eq_getElem?_getD, List.getElem?_replicate]
  split <;> rfl
theorem zeros_right (k : Nat) : rightL (zerosL k) = true := (rightL_iff _).2 fun j => by rw [zeros_at]; omega

/-- Where it begins. -/
def beginC (n : NetL) (i : Int) : CaseL × Int :=
  if netOk n then (if 0 ≤ i ∧ i < n.places then (⟨startL n.places i, zerosL n.trans.length⟩, 0) else (noCase, 3)) else (noCase, 2)
theorem begin_bad {n : NetL} {i : Int} (h : netOk n = false) : beginC n i = (noCase, 2) := by simp [beginC, h]
theorem begin_none {n : NetL} {i : Int} (h : netOk n = true) (hi : ¬ (0 ≤ i ∧ i < n.places)) : beginC n i = (noCase, 3) := by simp [beginC, h, hi]
theorem begin_ok {n : NetL} {i : Int} (h : netOk n = true) (hi : 0 ≤ i ∧ i < n.places) : beginC n i = (⟨startL n.places i, zerosL n.trans.length⟩, 0) := by simp [beginC, h, hi]

/-- What is taken, what is given, how many more go on. -/
def takeC (t : TranL) (kind : Int) : List Int := if kind = 1 ∨ kind = 2 then t.pre else []
def giveC (t : TranL) (kind : Int) : List Int := if kind = 1 ∨ kind = 3 then t.post else if kind = 4 then t.pre else []
def moreC (kind : Int) : Int := if kind = 2 then 1 else if kind = 3 ∨ kind = 4 then -1 else 0
def outC (n : NetL) (c : CaseL) (kind : Int) (k : Nat) : CaseL :=
  ⟨addL (subL c.mark (takeC (tranAt n.trans k) kind)) (giveC (tranAt n.trans k) kind), c.busy.set k (nth c.busy k + moreC kind)⟩
def doC (n : NetL) (c : CaseL) (kind tran : Int) : CaseL × Int :=
  if rightC n c = false then (noCase, 2)
  else if kind < 1 ∨ 4 < kind then (noCase, 5)
  else if tran < 0 ∨ (n.trans.length : Int) ≤ tran then (noCase, 3)
  else if ¬ ((tranAt n.trans tran.toNat).label = 0 ↔ kind = 1) then (noCase, 1)
  else if coversL c.mark (takeC (tranAt n.trans tran.toNat) kind) = false ∨ nth c.busy tran.toNat + moreC kind < 0 then (noCase, 3)
  else if rightC n (outC n c kind tran.toNat) then (outC n c kind tran.toNat, 0) else (noCase, 4)

theorem do_range {n : NetL} {c : CaseL} {kind tran : Int} (h : rightC n c = false) : doC n c kind tran = (noCase, 2) := by simp [doC, h]
theorem do_kind {n : NetL} {c : CaseL} {kind tran : Int} (h : rightC n c = true) (hk : kind < 1 ∨ 4 < kind) : doC n c kind tran = (noCase, 5) := by simp [doC, h, hk]
theorem do_none {n : NetL} {c : CaseL} {kind tran : Int} (h : rightC n c = true) (hk : ¬ (kind < 1 ∨ 4 < kind)) (ht : tran < 0 ∨ (n.trans.length : Int) ≤ tran) : doC n c kind tran = (noCase, 3) := by
  unfold doC; rw [if_neg (by simp [h]), if_neg hk, if_pos ht]
theorem do_form {n : NetL} {c : CaseL} {kind : Int} {k : Nat} (h : rightC n c = true) (hk : ¬ (kind < 1 ∨ 4 < kind)) (ht : k < n.trans.length) (hf : ¬ ((tranAt n.trans k).label = 0 ↔ kind = 1)) : doC n c kind k = (noCase, 1) := by
  unfold doC; rw [if_neg (by simp [h]), if_neg hk, if_neg (by omega), Int.toNat_natCast, if_pos hf]
theorem do_not {n : NetL} {c : CaseL} {kind : Int} {k : Nat} (h : rightC n c = true) (hk : ¬ (kind < 1 ∨ 4 < kind)) (ht : k < n.trans.length) (hf : ((tranAt n.trans k).label = 0 ↔ kind = 1))
    (hc : coversL c.mark (takeC (tranAt n.trans k) kind) = false ∨ nth c.busy k + moreC kind < 0) : doC n c kind k = (noCase, 3) := by
  unfold doC; rw [if_neg (by simp [h]), if_neg hk, if_neg (by omega), Int.toNat_natCast, if_neg (fun q => q hf), if_pos hc]
theorem do_out {n : NetL} {c : CaseL} {kind : Int} {k : Nat} (h : rightC n c = true) (hk : ¬ (kind < 1 ∨ 4 < kind)) (ht : k < n.trans.length) (hf : ((tranAt n.trans k).label = 0 ↔ kind = 1))
    (hc : ¬ (coversL c.mark (takeC (tranAt n.trans k) kind) = false ∨ nth c.busy k + moreC kind < 0)) : doC n c kind k = if rightC n (outC n c kind k) then (outC n c kind k, 0) else (noCase, 4) := by
  unfold doC; rw [if_neg (by simp [h]), if_neg hk, if_neg (by omega), Int.toNat_natCast, if_neg (fun q => q hf), if_neg hc]

structure DoOk (n : NetL) (c : CaseL) (kind : Int) (k : Nat) (x : CaseL) : Prop where
  right : rightC n c = true
  kind1 : 1 ≤ kind
  kind4 : kind ≤ 4
  lt : k < n.trans.length
  form : (tranAt n.trans k).label = 0 ↔ kind = 1
  covers : coversL c.mark (takeC (tranAt n.trans k) kind) = true
  more : 0 ≤ nth c.busy k + moreC kind
  out : x = outC n c kind k
  right2 : rightC n x = true
theorem do_ok {n : NetL} {c x : CaseL} {kind tran : Int} : doC n c kind tran = (x, 0) ↔ ∃ k : Nat, tran = k ∧ DoOk n c kind k x := by
  constructor
  · intro h
    cases hr : rightC n c with
    | false => rw [do_range hr] at h; injection h with _ h; cases h
    | true =>
      by_cases hk : kind < 1 ∨ 4 < kind
      · rw [do_kind hr hk] at h; injection h with _ h; cases h
      · by_cases ht : tran < 0 ∨ (n.trans.length : Int) ≤ tran
        · rw [do_none hr hk ht] at h; injection h with _ h; cases h
        · obtain ⟨k, rfl⟩ := Int.eq_ofNat_of_zero_le (show 0 ≤ tran by omega)
          by_cases hf : ((tranAt n.trans k).label = 0 ↔ kind = 1)
          · by_cases hc : coversL c.mark (takeC (tranAt n.trans k) kind) = false ∨ nth c.busy k + moreC kind < 0
            · rw [do_not hr hk (by omega) hf hc] at h; injection h with _ h; cases h
            · rw [do_out hr hk (by omega) hf hc] at h
              cases hr2 : rightC n (outC n c kind k) with
              | false => rw [hr2] at h; injection h with _ h; cases h
              | true =>
                rw [hr2, if_pos rfl] at h
                injection h with h _
                exact ⟨k, rfl, hr, by omega, by omega, by omega, hf, by cases q : coversL c.mark (takeC (tranAt n.trans k) kind) <;> simp_all, by omega, h.symm, by rw [← h]; exact hr2⟩
          · rw [do_form hr hk (by omega) hf] at h; injection h with _ h; cases h
  · rintro ⟨k, rfl, h⟩
    rw [do_out h.right (by have := h.kind1; have := h.kind4; omega) h.lt h.form (by rw [h.covers]; have := h.more; simp; omega), if_pos (by rw [← h.out]; exact h.right2), h.out]

theorem do_err {n : NetL} {c : CaseL} {kind tran : Int} (h : (doC n c kind tran).2 ≠ 0) : (doC n c kind tran).1 = noCase := by
  unfold doC at h ⊢
  repeat' split
  all_goals first | rfl | skip
  simp_all

theorem rightC_iff {n : NetL} {c : CaseL} : rightC n c = true ↔ fitsL n c.mark = true ∧ c.busy.length = n.trans.length ∧ rightL c.busy = true := by
  unfold rightC; simp [Bool.and_eq_true, and_assoc]

theorem sub_nil (m : List Int) : subL m [] = m := eq_of_at (by rw [sub_length]; simp) fun j => by rw [sub_at]; simp [nth]
theorem add_nil (m : List Int) : addL m [] = m := eq_of_at (by rw [add_length]; simp) fun j => by rw [add_at]; simp [nth]
theorem nth_set' (xs : List Int) (i : Nat) (x : Int) (p : Nat) (hi : i < xs.length) : nth (xs.set i x) p = if p = i then x else nth xs p := by
  unfold nth
  rw [List.getD_eq_getElem?_getD, List.getD_eq_getElem?_getD, List.getElem?_set]
  by_cases e : i = p
  · subst e; simp [hi]
  · rw [if_neg e, if_neg (fun q => e q.symm)]
theorem set_back (xs : List Int) (i : Nat) (x : Int) (hi : i < xs.length) : (xs.set i x).set i (nth xs i) = xs := eq_of_at (by simp) fun j => by
  rw [nth_set' _ _ _ _ (by simpa using hi), nth_set' _ _ _ _ hi]
  split
  · rename_i e; rw [e]
  · rfl

/-- What was begun and given back is as if it had not been. -/
theorem case_undo {n : NetL} {c x : CaseL} {t : Int} (h : doC n c 2 t = (x, 0)) : doC n x 4 t = (c, 0) := by
  replace h := do_ok.1 h
  obtain ⟨k, rfl, h⟩ := h
  obtain ⟨hf, hl, hr⟩ := rightC_iff.1 h.right
  obtain ⟨hn, hm, _⟩ := fits_net hf
  have hpl := (tran_length hn h.lt).1
  have ht : takeC (tranAt n.trans k) 2 = (tranAt n.trans k).pre := by simp [takeC]
  have hg : giveC (tranAt n.trans k) 2 = [] := by simp [giveC]
  have ht4 : takeC (tranAt n.trans k) 4 = [] := by simp [takeC]
  have hg4 : giveC (tranAt n.trans k) 4 = (tranAt n.trans k).pre := by simp [giveC]
  have hb := (rightL_iff _).1 hr k
  have e : outC n x 4 k = c := by
    rw [h.out]
    unfold outC
    rw [ht, hg, ht4, hg4, sub_nil, add_nil]
    cases c with
    | mk m b =>
      congr 1
      · refine eq_of_at ?_ fun j => ?_
        · show (addL (subL m _) _).length = m.length
          replace hm : (m.length : Int) = n.places := hm
          rw [add_length, sub_length]; omega
        · show nth (addL (subL m _) _) j = nth m j
          rw [add_at, sub_at]; omega
      · show (b.set k (nth b k + moreC 2)).set k (nth (b.set k (nth b k + moreC 2)) k + moreC 4) = b
        rw [nth_set' _ _ _ _ (by rw [show b.length = _ from hl]; exact h.lt), if_pos rfl, show nth b k + moreC 2 + moreC 4 = nth b k by simp [moreC]; try omega]
        exact set_back _ _ _ (by rw [show b.length = _ from hl]; exact h.lt)
  refine do_ok.2 ⟨k, rfl, h.right2, by omega, by omega, h.lt, ?_, ?_, ?_, e.symm, h.right⟩
  · have := h.form; constructor
    · intro q; have := this.1 q; omega
    · intro q; omega
  · rw [ht4, h.out]
    exact (coversL_iff _ _).2 fun j => by
      have := (rightL_iff _).1 (fits_net (rightC_iff.1 h.right2).1).2.2 j
      rw [h.out] at this
      simp [nth] at this ⊢
      omega
  · rw [h.out]
    show 0 ≤ nth (c.busy.set k _) k + moreC 4
    rw [nth_set' _ _ _ _ (by rw [hl]; exact h.lt), if_pos rfl]
    simp [moreC]; omega

/-- Begun and ended at once it is a firing. -/
theorem case_once {n : NetL} {c x : CaseL} {t : Int} (h : doC n c 2 t = (x, 0)) :
    (∃ m, fireL n c.mark t = (m, 0) ∧ doC n x 3 t = (⟨m, c.busy⟩, 0)) ∨ ((fireL n c.mark t).2 = 4 ∧ (doC n x 3 t).2 = 4) := by
  replace h := do_ok.1 h
  obtain ⟨k, rfl, h⟩ := h
  obtain ⟨hf, hl, hr⟩ := rightC_iff.1 h.right
  obtain ⟨hn, hm, hmr⟩ := fits_net hf
  obtain ⟨hpl, hql⟩ := tran_length hn h.lt
  have ht : takeC (tranAt n.trans k) 2 = (tranAt n.trans k).pre := by simp [takeC]
  have hg : giveC (tranAt n.trans k) 2 = [] := by simp [giveC]
  have ht3 : takeC (tranAt n.trans k) 3 = [] := by simp [takeC]
  have hg3 : giveC (tranAt n.trans k) 3 = (tranAt n.trans k).post := by simp [giveC]
  have hb := (rightL_iff _).1 hr k
  have hcov := h.covers
  rw [ht] at hcov
  have e : outC n x 3 k = ⟨addL (subL c.mark (tranAt n.trans k).pre) (tranAt n.trans k).post, c.busy⟩ := by
    rw [h.out]
    unfold outC
    rw [ht, hg, ht3, hg3, sub_nil, add_nil]
    congr 1
    show (c.busy.set k (nth c.busy k + moreC 2)).set k (nth (c.busy.set k (nth c.busy k + moreC 2)) k + moreC 3) = c.busy
    rw [nth_set' _ _ _ _ (by rw [hl]; exact h.lt), if_pos rfl, show nth c.busy k + moreC 2 + moreC 3 = nth c.busy k by simp [moreC]; try omega]
    exact set_back _ _ _ (by rw [hl]; exact h.lt)
  have hfm : (tranAt n.trans k).label = 0 ↔ (3 : Int) = 1 := by
    have := h.form; constructor
    · intro q; have := this.1 q; omega
    · intro q; omega
  have hnc : ¬ (coversL x.mark (takeC (tranAt n.trans k) 3) = false ∨ nth x.busy k + moreC 3 < 0) := by
    rw [ht3]
    rintro (q | q)
    · have : coversL x.mark [] = true := (coversL_iff _ _).2 fun j => by
        have := (rightL_iff _).1 (fits_net (rightC_iff.1 h.right2).1).2.2 j
        simp [nth] at this ⊢
        omega
      rw [this] at q; cases q
    · rw [h.out] at q
      have q : nth (c.busy.set k (nth c.busy k + moreC 2)) k + moreC 3 < 0 := q
      rw [nth_set' _ _ _ _ (by rw [hl]; exact h.lt), if_pos rfl] at q
      simp [moreC] at q; omega
  have hd := do_out h.right2 (kind := 3) (by omega) h.lt hfm hnc
  rw [e] at hd
  cases hr2 : rightL (addL (subL c.mark (tranAt n.trans k).pre) (tranAt n.trans k).post) with
  | true =>
    refine .inl ⟨_, fire_mk h.lt hf hcov hr2, ?_⟩
    rw [hd, if_pos]
    exact rightC_iff.2 ⟨fits_mk hn (by rw [add_length, sub_length]; omega) hr2, hl, hr⟩
  | false =>
    refine .inr ⟨?_, ?_⟩
    · unfold fireL
      rw [hf, decide_eq_true (show (0 : Int) ≤ k by omega), decide_eq_true (show (k : Int) < n.trans.length by have := h.lt; omega), Int.toNat_natCast, hcov, hr2]
      rfl
    · rw [hd, if_neg]
      intro q
      obtain ⟨q1, _, _⟩ := rightC_iff.1 q
      have := (fits_net q1).2.2
      rw [show (CaseL.mk (addL (subL c.mark (tranAt n.trans k).pre) (tranAt n.trans k).post) c.busy).mark = addL (subL c.mark (tranAt n.trans k).pre) (tranAt n.trans k).post from rfl, hr2] at this
      cases this

/-- One thing behind the other; what has an error changes nothing. -/
def playC (n : NetL) : CaseL → List (Int × Int) → CaseL × List Int
  | c, [] => (c, [])
  | c, o :: os => ((playC n (if (doC n c o.1 o.2).2 = 0 then (doC n c o.1 o.2).1 else c) os).1, (doC n c o.1 o.2).2 :: (playC n (if (doC n c o.1 o.2).2 = 0 then (doC n c o.1 o.2).1 else c) os).2)
def stepC (n : NetL) (c : CaseL) (o : Int × Int) : CaseL := if (doC n c o.1 o.2).2 = 0 then (doC n c o.1 o.2).1 else c
theorem play_snoc (n : NetL) : ∀ (os : List (Int × Int)) (c : CaseL) (o : Int × Int), playC n c (os ++ [o]) = (stepC n (playC n c os).1 o, (playC n c os).2 ++ [(doC n (playC n c os).1 o.1 o.2).2])
  | [], c, o => rfl
  | p :: os, c, o => by
    have := play_snoc n os (stepC n c p) o
    show ((playC n (stepC n c p) (os ++ [o])).1, _ :: (playC n (stepC n c p) (os ++ [o])).2) = _
    rw [this]; rfl
theorem play_length (n : NetL) : ∀ (os : List (Int × Int)) (c : CaseL), (playC n c os).2.length = os.length
  | [], _ => rfl
  | p :: os, c => by
    show ((doC n c p.1 p.2).2 :: (playC n (stepC n c p) os).2).length = _
    rw [List.length_cons, play_length n os, List.length_cons]
theorem step_right {n : NetL} {c : CaseL} (h : rightC n c = true) (o : Int × Int) : rightC n (stepC n c o) = true := by
  unfold stepC
  split
  · rename_i e
    obtain ⟨k, _, hk⟩ := do_ok.1 (show doC n c o.1 o.2 = ((doC n c o.1 o.2).1, 0) from Prod.ext rfl e)
    exact hk.right2
  · exact h
theorem play_right {n : NetL} : ∀ (os : List (Int × Int)) {c : CaseL}, rightC n c = true → rightC n (playC n c os).1 = true
  | [], _, h => h
  | p :: os, c, h => by
    show rightC n (playC n (stepC n c p) os).1 = true
    exact play_right os (step_right h p)
theorem begin_right {n : NetL} {i : Int} (h : (beginC n i).2 = 0) : rightC n (beginC n i).1 = true ∧ netOk n = true ∧ 0 ≤ i ∧ i < n.places := by
  cases hn : netOk n with
  | false => rw [begin_bad hn] at h; cases h
  | true =>
    by_cases hi : 0 ≤ i ∧ i < n.places
    · rw [begin_ok hn hi]
      refine ⟨rightC_iff.2 ⟨fits_mk hn ?_ (start_right _ _), zeros_length _, zeros_right _⟩, rfl, hi⟩
      rw [start_length]
      unfold netOk headOk at hn
      simp only [Bool.and_eq_true, decide_eq_true_eq] at hn
      omega
    · rw [begin_none hn hi] at h; cases h
def playAll (n : NetL) (i : Int) (os : List (Int × Int)) : CaseL × List Int × Int :=
  if (beginC n i).2 = 0 then ((playC n (beginC n i).1 os).1, (playC n (beginC n i).1 os).2, 0) else (noCase, [], (beginC n i).2)
theorem begin_err {n : NetL} {i : Int} (h : (beginC n i).2 ≠ 0) : (beginC n i).1 = noCase := by
  unfold beginC at h ⊢
  repeat' split
  all_goals first | rfl | skip
  simp_all

end Go.Proofs.Ytffaamljogbmlaa

/- What is done in a case, by firing, adding and taking away: plainly. -/
namespace Go.Proofs.Ytffaamljogbmlaa
set_option linter.unusedVariables false
set_option maxRecDepth 4000

def onceL (len k : Nat) : List Int := (zerosL len).set k 1
theorem once_length (len k : Nat) : (onceL len k).length = len := by unfold onceL; rw [List.length_set, zeros_length]
theorem once_at {len k : Nat} (h : k < len) (j : Nat) : nth (onceL len k) j = if j = k then 1 else 0 := by
  unfold onceL
  rw [nth_set' _ _ _ _ (by rw [zeros_length]; exact h), zeros_at]
theorem once_right {len k : Nat} (h : k < len) : rightL (onceL len k) = true := (rightL_iff _).2 fun j => by rw [once_at h]; split <;> omega
theorem add_once {b : List Int} {k : Nat} (h : k < b.length) : addL b (onceL b.length k) = b.set k (nth b k + 1) := eq_of_at (by rw [add_length, once_length, List.length_set]; omega) fun j => by
  rw [add_at, once_at h, nth_set' _ _ _ _ h]
  split
  · rename_i e; rw [e]
  · omega
theorem sub_once {b : List Int} {k : Nat} (h : k < b.length) : subL b (onceL b.length k) = b.set k (nth b k + -1) := eq_of_at (by rw [sub_length, once_length, List.length_set]; omega) fun j => by
  rw [sub_at, once_at h, nth_set' _ _ _ _ h]
  split
  · rename_i e; rw [e]; omega
  · omega

theorem do_skip {n : NetL} {c : CaseL} {k : Nat} (h : rightC n c = true) (hk : k < n.trans.length) (hl : (tranAt n.trans k).label = 0) :
    doC n c 1 k = if (fireL n c.mark k).2 = 0 then (⟨(fireL n c.mark k).1, c.busy⟩, 0) else (noCase, (fireL n c.mark k).2) := by
  obtain ⟨hf, hb, hr⟩ := rightC_iff.1 h
  obtain ⟨hn, hm, hmr⟩ := fits_net hf
  obtain ⟨hpl, hql⟩ := tran_length hn hk
  have hb0 := (rightL_iff _).1 hr k
  have ht : takeC (tranAt n.trans k) 1 = (tranAt n.trans k).pre := by simp [takeC]
  have hg : giveC (tranAt n.trans k) 1 = (tranAt n.trans k).post := by simp [giveC]
  have hm1 : moreC 1 = 0 := by simp [moreC]
  have E0 : fireL n c.mark k = (if coversL c.mark (tranAt n.trans k).pre then
    (if rightL (addL (subL c.mark (tranAt n.trans k).pre) (tranAt n.trans k).post) then (addL (subL c.mark (tranAt n.trans k).pre) (tranAt n.trans k).post, 0) else ([], 4)) else ([], 3)) := by
    rw [fireL, hf, decide_eq_true (show (0 : Int) ≤ k by omega), decide_eq_true (show (k : Int) < n.trans.length by omega), Int.toNat_natCast]; simp
  cases hc : coversL c.mark (tranAt n.trans k).pre with
  | false =>
    rw [E0, hc, do_not h (by omega) hk (by simp [hl]) (.inl (by rw [ht]; exact hc))]; rfl
  | true =>
    have hout : outC n c 1 k = ⟨addL (subL c.mark (tranAt n.trans k).pre) (tranAt n.trans k).post, c.busy⟩ := by
      unfold outC
      rw [ht, hg, hm1, Int.add_zero]
      congr 1
      exact eq_of_at (by simp) fun j => by rw [nth_set' _ _ _ _ (by omega)]; split <;> simp_all
    rw [do_out h (by omega) hk (by simp [hl]) (by rw [ht, hc, hm1]; simp; omega), hout, E0, hc]
    cases hr2 : rightL (addL (subL c.mark (tranAt n.trans k).pre) (tranAt n.trans k).post) with
    | true =>
      have hx : rightC n ⟨addL (subL c.mark (tranAt n.trans k).pre) (tranAt n.trans k).post, c.busy⟩ = true := rightC_iff.2 ⟨fits_mk hn (by show ((addL _ _).length : Int) = _; rw [add_length, sub_length]; omega) hr2, hb, hr⟩
      rw [if_pos hx]; rfl
    | false =>
      rw [if_neg]
      · rfl
      · intro q
        have q := (fits_net (rightC_iff.1 q).1).2.2
        have q : rightL (addL (subL c.mark (tranAt n.trans k).pre) (tranAt n.trans k).post) = true := q
        rw [hr2] at q; cases q

theorem do_begin {n : NetL} {c : CaseL} {k : Nat} (h : rightC n c = true) (hk : k < n.trans.length) (hl : (tranAt n.trans k).label ≠ 0) :
    doC n c 2 k = if (minusL c.mark (tranAt n.trans k).pre).2 = 0 then (if (plusL c.busy (onceL n.trans.length k)).2 = 0 then (⟨(minusL c.mark (tranAt n.trans k).pre).1, (plusL c.busy (onceL n.trans.length k)).1⟩, 0) else (noCase, (plusL c.busy (onceL n.trans.length k)).2)) else (noCase, (minusL c.mark (tranAt n.trans k).pre).2) := by
  obtain ⟨hf, hb, hr⟩ := rightC_iff.1 h
  obtain ⟨hn, hm, hmr⟩ := fits_net hf
  obtain ⟨hpl, hql⟩ := tran_length hn hk
  obtain ⟨hrp, hrq⟩ := tran_right (net_tran hn hk)
  have hb0 := (rightL_iff _).1 hr k
  have hkb : k < c.busy.length := by omega
  have ht : takeC (tranAt n.trans k) 2 = (tranAt n.trans k).pre := by simp [takeC]
  have hg : giveC (tranAt n.trans k) 2 = [] := by simp [giveC]
  have hm1 : moreC 2 = 1 := by simp [moreC]
  cases hc : coversL c.mark (tranAt n.trans k).pre with
  | false => rw [minusL_none hmr hrp hc, do_not h (by omega) hk (by simp [hl]) (.inl (by rw [ht]; exact hc))]; rfl
  | true =>
    have hrs : rightL (subL c.mark (tranAt n.trans k).pre) = true := by rw [subL, right_minus hmr hrp]; exact hc
    have e1 : minusL c.mark (tranAt n.trans k).pre = (subL c.mark (tranAt n.trans k).pre, 0) := minusL_ok hmr hrp hc
    have hout : outC n c 2 k = ⟨subL c.mark (tranAt n.trans k).pre, addL c.busy (onceL n.trans.length k)⟩ := by
      unfold outC
      rw [ht, hg, hm1, add_nil, ← hb, add_once hkb]
    rw [do_out h (by omega) hk (by simp [hl]) (by rw [ht, hc, hm1]; simp; omega), hout, e1]
    cases hr2 : rightL (addL c.busy (onceL n.trans.length k)) with
    | true =>
      have hx : rightC n ⟨subL c.mark (tranAt n.trans k).pre, addL c.busy (onceL n.trans.length k)⟩ = true := rightC_iff.2 ⟨fits_mk hn (by show ((subL _ _).length : Int) = _; rw [sub_length]; omega) hrs, by show (addL _ _).length = _; rw [add_length, once_length]; omega, hr2⟩
      rw [if_pos hx, plusL_ok hr (once_right hk) hr2]; rfl
    | false =>
      rw [if_neg, plusL_full hr (once_right hk) hr2]
      · rfl
      · intro q
        have q := (rightC_iff.1 q).2.2
        have q : rightL (addL c.busy (onceL n.trans.length k)) = true := q
        rw [hr2] at q; cases q

theorem do_leave {n : NetL} {c : CaseL} {k : Nat} {kd : Int} (h : rightC n c = true) (hk : k < n.trans.length) (hl : (tranAt n.trans k).label ≠ 0) (hkd : kd = 3 ∨ kd = 4) {P : List Int} (hP : P = if kd = 3 then (tranAt n.trans k).post else (tranAt n.trans k).pre) :
    doC n c kd k = if (minusL c.busy (onceL n.trans.length k)).2 = 0 then (if (plusL c.mark P).2 = 0 then (⟨(plusL c.mark P).1, (minusL c.busy (onceL n.trans.length k)).1⟩, 0) else (noCase, (plusL c.mark P).2)) else (noCase, (minusL c.busy (onceL n.trans.length k)).2) := by
  obtain ⟨hf, hb, hr⟩ := rightC_iff.1 h
  obtain ⟨hn, hm, hmr⟩ := fits_net hf
  obtain ⟨hpl, hql⟩ := tran_length hn hk
  obtain ⟨hrp, hrq⟩ := tran_right (net_tran hn hk)
  have hb0 := (rightL_iff _).1 hr
  have hkb : k < c.busy.length := by omega
  have ht : takeC (tranAt n.trans k) kd = [] := by unfold takeC; rw [if_neg (by omega)]
  have hg : giveC (tranAt n.trans k) kd = P := by
    rw [hP]; unfold giveC
    rcases hkd with rfl | rfl
    · rw [if_pos (.inr rfl), if_pos rfl]
    · rw [if_neg (by omega), if_pos rfl, if_neg (by omega)]
  have hm1 : moreC kd = -1 := by unfold moreC; rw [if_neg (by omega), if_pos hkd]
  have hPr : rightL P = true := by rw [hP]; split; exact hrq; exact hrp
  have hPl : (P.length : Int) = n.places := by rw [hP]; split <;> omega
  have hform : (tranAt n.trans k).label = 0 ↔ kd = 1 := ⟨fun q => absurd q hl, fun q => by omega⟩
  have hc0 : coversL c.mark [] = true := (coversL_iff _ _).2 fun j => by have := (rightL_iff _).1 hmr j; simp [nth] at this ⊢; omega
  by_cases hx : nth c.busy k = 0
  · have hcv : coversL c.busy (onceL n.trans.length k) = false := by
      cases q : coversL c.busy (onceL n.trans.length k) with
      | false => rfl
      | true => have := (coversL_iff _ _).1 q k; rw [once_at hk, if_pos rfl] at this; omega
    rw [minusL_none hr (once_right hk) hcv, do_not h (by omega) hk hform (.inr (by rw [hm1]; omega))]; rfl
  · have hcv : coversL c.busy (onceL n.trans.length k) = true := (coversL_iff _ _).2 fun j => by
      have := hb0 j; have := hb0 k
      rw [once_at hk]; split
      · rename_i e; rw [e]; omega
      · omega
    have hrs : rightL (subL c.busy (onceL n.trans.length k)) = true := by rw [subL, right_minus hr (once_right hk)]; exact hcv
    have e1 : minusL c.busy (onceL n.trans.length k) = (subL c.busy (onceL n.trans.length k), 0) := minusL_ok hr (once_right hk) hcv
    have hout : outC n c kd k = ⟨addL c.mark P, subL c.busy (onceL n.trans.length k)⟩ := by
      unfold outC
      rw [ht, hg, hm1, sub_nil, ← hb, sub_once hkb]
    rw [do_out h (by omega) hk hform (by rw [ht, hc0, hm1]; have := hb0 k; simp; omega), hout, e1]
    cases hr2 : rightL (addL c.mark P) with
    | true =>
      have hx : rightC n ⟨addL c.mark P, subL c.busy (onceL n.trans.length k)⟩ = true := rightC_iff.2 ⟨fits_mk hn (by show ((addL _ _).length : Int) = _; rw [add_length]; omega) hr2, by show (subL _ _).length = _; rw [sub_length, once_length]; omega, hrs⟩
      rw [if_pos hx, plusL_ok hmr hPr hr2]; rfl
    | false =>
      rw [if_neg, plusL_full hmr hPr hr2]
      · rfl
      · intro q
        have q := (fits_net (rightC_iff.1 q).1).2.2
        have q : rightL (addL c.mark P) = true := q
        rw [hr2] at q; cases q

end Go.Proofs.Ytffaamljogbmlaa
