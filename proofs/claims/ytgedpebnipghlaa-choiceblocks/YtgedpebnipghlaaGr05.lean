import Derived.Test.YtgedpebnipghlaaGr00
import Derived.Test.YtgedpebnipghlaaGr03
import Derived.Deep.DeepCutAuto
import Derived.Test.YtgedpebnipghlaaGr04
import Derived.Deep.RegionHeld3
import Derived.BigQuiet
/- The answers of the document itself for nets. -/
namespace Go.Proofs.Ytgedpebnipghlaa
open Go.RowKit
set_option linter.unusedVariables false
set_option maxRecDepth 4000

def weightOk (x : Int) : Bool := decide (0 ≤ x) && decide (x ≤ 9)
def tranHead (p : Int) (t : TranL) : Bool := decide (0 ≤ t.label) && decide (t.label ≤ 26) && ((t.pre.length : Int) == p) && ((t.post.length : Int) == p)
def tranOk (p : Int) (t : TranL) : Bool := tranHead p t && (t.pre ++ t.post).all weightOk
def headOk (n : NetL) : Bool := decide (0 ≤ n.places) && decide (n.places ≤ 16) && decide (n.trans.length ≤ 24)
def okTo (n : NetL) (k : Nat) : Bool := headOk n && (n.trans.take k).all (tranOk n.places)
def netOk (n : NetL) : Bool := headOk n && n.trans.all (tranOk n.places)
def wrongL (n : NetL) : Int := if netOk n then 0 else 2

theorem okTo_succ (n : NetL) (k : Nat) (h : k < n.trans.length) : okTo n (k + 1) = (okTo n k && tranOk n.places (tranAt n.trans k)) := by
  unfold okTo
  rw [List.take_succ_eq_append_getElem h, List.all_append]
  simp [tranAt, List.getD, List.getElem?_eq_getElem h, Bool.and_assoc]
theorem okTo_all (n : NetL) (k : Nat) (h : n.trans.length ≤ k) : okTo n k = netOk n := by
  unfold okTo netOk; rw [List.take_of_length_le h]


/-- All of the first j are weights. -/
def weighTo (zs : List Int) (j : Nat) : Bool := (zs.take j).all weightOk
theorem weighTo_succ (zs : List Int) (j : Nat) (h : j < zs.length) : weighTo zs (j + 1) = (weighTo zs j && weightOk (nth zs j)) := by
  unfold weighTo
  rw [List.take_succ_eq_append_getElem h, List.all_append]
  simp [nth, List.getD, List.getElem?_eq_getElem h]
theorem weighTo_all (zs : List Int) (j : Nat) (h : zs.length ≤ j) : weighTo zs j = zs.all weightOk := by
  unfold weighTo; rw [List.take_of_length_le h]

set_option maxHeartbeats 1000000 in
theorem bwrong_any (v : Value) (n : NetL) (w : World) (hv : Net w v n) (hsm : SmallNet n) :
    Calls Try.prog 25 #[v] w fun e w' => e = .returned (.int .i64 (wrongL n)) ∧ Below w.heap.size w w' := by
  obtain ⟨tv, rfl, hT⟩ := hv
  have b1 := below_new w (.cells #[.int .i64 n.places, tv] 24)
  have hT1 := hT.below b1
  have hbx := box2_new w (.int .i64 n.places) tv 24
  obtain ⟨a, len, cap, rfl, hlen, hmx, hsh, hr⟩ := hT
  have Hsm : Hid (SmallNet n) := hsm
  clear hsm hr
  go_enter Try.func25, Try.ntmps25
  go_upto_region 1 with fail
  go_cut [3] (fun o wc => o = .bool (headOk n) ∧ Below w.heap.size w wc ∧ Trans wc (.slice a len cap) n.trans ∧ Box2 wc w.heap.size (.int .i64 n.places) (.slice a len cap))
  case first =>
    go_wp2_with fail
    all_goals go_meet
    all_goals refine ⟨?_, b1, hT1, hbx⟩
    all_goals simp [headOk, *]
    all_goals omega
  case rest =>
    clear b1 hT1 hbx
    obtain ⟨rfl, b1, hT1, hbx⟩ := hcut
    obtain ⟨w0, rfl⟩ : ∃ w0, w0 = wc := ⟨_, rfl⟩
    have hbx0 := hbx
    obtain ⟨hx0, hx1, hx2⟩ := hbx
    go_wp2_with fail
    clear hx0 hx1 hx2
    go_loopg [3, 25] len (fun g o i wr => ∃ k : Nat, k + g = len ∧ i = .int .i64 k ∧ o = .bool (okTo n k) ∧ Below w0.heap.size w0 wr)
    case atStart => exact ⟨0, by omega, rfl, by simp [okTo], Below.refl _ _⟩
    case round =>
      obtain ⟨k, hkg, rfl, rfl, hb⟩ := hrel
      have hT2 := hT1.below hb
      have hb2 := hbx0.below hb
      by_cases hkn : k < len
      · obtain ⟨b, off, c1, c2, rfl, hblt, h0, h1, h2, i1, i2⟩ := hT2.at hkn
        have j1 := i1
        have j2 := i2
        obtain ⟨a1, l1, p1, rfl, hl1, hm1, hs1, hr1⟩ := i1
        obtain ⟨a2, l2, p2, rfl, hl2, hm2, hs2, hr2⟩ := i2
        obtain ⟨hx0, hx1, hx2⟩ := hb2
        have Hok : Hid _ := okTo_succ n k (by omega)
        have Hth : Hid (tranHead n.places (tranAt n.trans k) = (decide (0 ≤ (tranAt n.trans k).label) && decide ((tranAt n.trans k).label ≤ 26) && ((l1 : Int) == n.places) && ((l2 : Int) == n.places))) := by
          show _ = _; unfold tranHead; rw [hl1, hl2]
        clear hr1 hr2 hT2
        have hsmt := Hsm.out k (by omega)
        generalize tranAt n.trans k = t at *
        generalize okTo n k = okk at *
        go_upto_region 5 with fail
        go_cut [3] (fun o wd => o = .bool (okk && tranHead n.places t) ∧ wd = wr.alloc (.cells #[.int .i64 t.label, .slice a1 l1 p1, .slice a2 l2 p2] 44))
        case first =>
          cases okk
          · go_wp2_with fail
            go_meet
            exact ⟨rfl, rfl⟩
          by_cases q1 : 0 ≤ t.label
          case neg =>
            have F : Hid (tranHead n.places t = false) := by show _ = _; rw [Hth.out]; rw [decide_eq_false q1]; rfl
            go_wp2_with fail
            go_meet
            exact ⟨by rw [F.out]; rfl, rfl⟩
          by_cases q2 : t.label ≤ 26
          case neg =>
            have F : Hid (tranHead n.places t = false) := by show _ = _; rw [Hth.out]; rw [decide_eq_false q2]; simp
            go_wp2_with fail
            go_meet
            exact ⟨by rw [F.out]; rfl, rfl⟩
          cases q3 : ((l1 : Int) == n.places)
          case false =>
            have F : Hid (tranHead n.places t = false) := by show _ = _; rw [Hth.out]; rw [q3]; simp
            go_wp2_with fail
            go_meet
            exact ⟨by rw [F.out]; rfl, rfl⟩
          cases q4 : ((l2 : Int) == n.places)
          case false =>
            have F : Hid (tranHead n.places t = false) := by show _ = _; rw [Hth.out]; rw [q4]; simp
            go_wp2_with fail
            go_meet
            exact ⟨by rw [F.out]; rfl, rfl⟩
          case true =>
            have F : Hid (tranHead n.places t = true) := by show _ = _; rw [Hth.out]; rw [q3, q4, decide_eq_true q1, decide_eq_true q2]; rfl
            go_wp2_with fail
            go_meet
            exact ⟨by rw [F.out]; rfl, rfl⟩
        case rest =>
          obtain ⟨rfl, hwd⟩ := hcut
          obtain ⟨wd, rfl⟩ : ∃ wd, wd = wc := ⟨_, rfl⟩
          have e1 := below_new wr (.cells #[.int .i64 t.label, .slice a1 l1 p1, .slice a2 l2 p2] 44)
          have hbd : Below wr.heap.size wr wd := by rw [hwd]; exact e1
          have hc1 : wd.cell? ⟨wr.heap.size, 1, none⟩ = some (.slice a1 l1 p1) := by rw [hwd, World.cell?_alloc_at _ _ _ _ rfl]; rfl
          have hc2 : wd.cell? ⟨wr.heap.size, 2, none⟩ = some (.slice a2 l2 p2) := by rw [hwd, World.cell?_alloc_at _ _ _ _ rfl]; rfl
          clear e1 hwd h0 h1 h2
          have j1 := j1.below hbd
          have j2 := j2.below hbd
          have Hok2 : Hid (okTo n (k + 1) = ((okk && tranHead n.places t) && (t.pre ++ t.post).all weightOk)) := by
            show _ = _; rw [Hok.out, tranOk, Bool.and_assoc]
          obtain ⟨okA, HA⟩ : ∃ okA, Hid ((okk && tranHead n.places t) = okA) := ⟨_, rfl⟩
          rw [HA.out] at Hok2
          rw [HA.out]
          clear Hok HA
          go_wp2_with fail
          refine (concat_any _ [t.pre, t.post] _ (by exact lists_lit2 wd _ _ _ _ _ _ j1 j2 rfl) (by simpa using hsmt)).mono ?_
          rintro e w2 ⟨r, rfl, hR, hbe⟩
          have hbw : Below w0.heap.size w0 w2 := (below_then hb (below_then hbd (below_then (below_new _ _) hbe)))
          have hR2 : Ints w2 r (t.pre ++ t.post) := by simpa using hR
          clear hR hbe hbd hc1 hc2 j1 j2 hb hx0 hx1 hx2
          generalize t.pre ++ t.post = zs at *
          obtain ⟨ar, lr, cr, rfl, hlr, hmr, hsr, hrr⟩ := hR2
          go_wp2_with fail
          go_loop [3, 63] (fun o i => ∃ j : Nat, j ≤ lr ∧ i = .int .i64 j ∧ o = .bool (okA && weighTo zs j)) (fun _ i => lr - (intOf i).toNat)
          case atStart => exact ⟨0, Nat.zero_le _, rfl, by simp [weighTo]⟩
          case round =>
            obtain ⟨j, hj, rfl, rfl⟩ := hrel
            by_cases hjn : j < lr
            · obtain ⟨bq, oq, rfl, hbq, hcq⟩ := hrr j (by omega)
              have hst := weighTo_succ zs j (by omega)
              cases hA : (okA && weighTo zs j)
              · have Hs : Hid ((okA && weighTo zs (j + 1)) = false) := by show _ = _; rw [hst, ← Bool.and_assoc, hA]; rfl
                clear hst hA hrr
                go_wp2
                go_round
                case rel => exact ⟨j + 1, by omega, by go_num, by rw [Hs.out]⟩
                case measure => simp [intOf]; omega
              · have Hs : Hid ((okA && weighTo zs (j + 1)) = weightOk (nth zs j)) := by show _ = _; rw [hst, ← Bool.and_assoc, hA]; rfl
                clear hst hA hrr
                by_cases q1 : 0 ≤ nth zs j
                · by_cases q2 : nth zs j ≤ 9
                  · go_wp2
                    go_round
                    case rel => exact ⟨j + 1, by omega, by go_num, by rw [Hs.out]; simp [weightOk, q1, q2]⟩
                    case measure => simp [intOf]; omega
                  · go_wp2
                    go_round
                    case rel => exact ⟨j + 1, by omega, by go_num, by rw [Hs.out]; simp [weightOk]; omega⟩
                    case measure => simp [intOf]; omega
                · go_wp2
                  go_round
                  case rel => exact ⟨j + 1, by omega, by go_num, by rw [Hs.out]; simp [weightOk]; omega⟩
                  case measure => simp [intOf]; omega
            · have Hw : Hid (okTo n (k + 1) = (okA && weighTo zs j)) := by show _ = _; rw [Hok2.out, weighTo_all zs j (by omega)]
              clear hrr
              go_wp2
              go_roundg (gk - 1)
              case measure => omega
              case rel => exact ⟨k + 1, by omega, by go_num, by rw [Hw.out], hbw⟩
      · have hfin := okTo_all n k (by omega)
        rw [hfin]
        clear hfin hT2 hb2
        cases hno : netOk n
        · have Hw : Hid (wrongL n = 2) := by show _ = _; simp [wrongL, hno]
          clear hno
          go_wp2
          go_ret
          exact ⟨ret_int Hw.out.symm, below_then b1 hb⟩
        · have Hw : Hid (wrongL n = 0) := by show _ = _; simp [wrongL, hno]
          clear hno
          go_wp2
          go_ret
          exact ⟨ret_int Hw.out.symm, below_then b1 hb⟩

end Go.Proofs.Ytgedpebnipghlaa

/- The answers of the document itself for nets: which fit, who can. -/
namespace Go.Proofs.Ytgedpebnipghlaa
open Go.RowKit
set_option linter.unusedVariables false
set_option maxRecDepth 4000

/-- A net, and a mark of it. -/
def fitsL (n : NetL) (m : List Int) : Bool := netOk n && ((m.length : Int) == n.places) && rightL m

theorem wrongL_ok {n : NetL} (h : netOk n = true) : wrongL n = 0 := by simp [wrongL, h]
theorem wrongL_not {n : NetL} (h : netOk n = false) : wrongL n = 2 := by simp [wrongL, h]

/-- Whose tokens are there, of the first k. -/
def canTo (n : NetL) (m : List Int) (k : Nat) : List Int := ((List.range k).filter fun t => coversL m (tranAt n.trans t).pre).map fun t => ((t : Nat) : Int)
theorem canTo_yes (n : NetL) (m : List Int) (k : Nat) (h : coversL m (tranAt n.trans k).pre = true) : canTo n m (k + 1) = canTo n m k ++ [(k : Int)] := by
  simp [canTo, List.range_succ, List.filter_append, h]
theorem canTo_no (n : NetL) (m : List Int) (k : Nat) (h : coversL m (tranAt n.trans k).pre = false) : canTo n m (k + 1) = canTo n m k := by
  simp [canTo, List.range_succ, List.filter_append, h]
theorem canTo_le (n : NetL) (m : List Int) (k : Nat) : (canTo n m k).length ≤ k := by
  simp only [canTo, List.length_map]
  exact Nat.le_trans (List.length_filter_le _ _) (by simp)

/-- Who can. -/
def canL (n : NetL) (m : List Int) : List Int × Int := if fitsL n m then (canTo n m n.trans.length, 0) else ([], 2)
theorem canL_yes {n : NetL} {m : List Int} (h : fitsL n m = true) : canL n m = (canTo n m n.trans.length, 0) := by simp [canL, h]
theorem canL_no {n : NetL} {m : List Int} (h : fitsL n m = false) : canL n m = ([], 2) := by simp [canL, h]

end Go.Proofs.Ytgedpebnipghlaa

/- The answers of the document itself for nets: one fires. -/
namespace Go.Proofs.Ytgedpebnipghlaa
open Go.RowKit
set_option linter.unusedVariables false
set_option maxRecDepth 4000

def addL (xs ys : List Int) : List Int := zipL (fun x1 x2 => x1 + x2) xs ys
def subL (xs ys : List Int) : List Int := zipL (fun x1 x2 => x1 - x2) xs ys

/-- One fires. -/
def fireL (n : NetL) (m : List Int) (t : Int) : List Int × Int :=
  if fitsL n m then
    (if decide (0 ≤ t) && decide (t < n.trans.length) && coversL m (tranAt n.trans t.toNat).pre then
      (if rightL (addL (subL m (tranAt n.trans t.toNat).pre) (tranAt n.trans t.toNat).post) then (addL (subL m (tranAt n.trans t.toNat).pre) (tranAt n.trans t.toNat).post, 0) else ([], 4))
    else ([], 3))
  else ([], 2)

theorem fits_net {n : NetL} {m : List Int} (h : fitsL n m = true) : netOk n = true ∧ (m.length : Int) = n.places ∧ rightL m = true := by
  simp only [fitsL, Bool.and_eq_true, beq_iff_eq] at h
  exact ⟨h.1.1, h.1.2, h.2⟩
theorem net_tran {n : NetL} (h : netOk n = true) {k : Nat} (hk : k < n.trans.length) : tranOk n.places (tranAt n.trans k) = true := by
  simp only [netOk, Bool.and_eq_true] at h
  have := List.all_eq_true.1 h.2 _ (List.getElem_mem hk)
  simpa [tranAt, List.getD, List.getElem?_eq_getElem hk] using this
theorem weights_right {xs : List Int} (h : xs.all weightOk = true) : rightL xs = true := by
  rw [rightL_iff]
  intro j
  by_cases hj : j < xs.length
  · have := List.all_eq_true.1 h _ (List.getElem_mem hj)
    simp only [weightOk, Bool.and_eq_true, decide_eq_true_eq] at this
    simp only [nth, List.getD, List.getElem?_eq_getElem hj, Option.getD_some]
    omega
  · rw [nth_past xs j (by omega)]; omega
theorem tran_right {p : Int} {t : TranL} (h : tranOk p t = true) : rightL t.pre = true ∧ rightL t.post = true := by
  simp only [tranOk, Bool.and_eq_true, List.all_append] at h
  exact ⟨weights_right h.2.1, weights_right h.2.2⟩

end Go.Proofs.Ytgedpebnipghlaa

/- The answers of the document itself for nets: one behind the other. -/
namespace Go.Proofs.Ytgedpebnipghlaa
open Go.RowKit
set_option linter.unusedVariables false
set_option maxRecDepth 4000

/-- One behind the other. -/
def runL (n : NetL) : List Int → List Int → List Int × Int
  | m, [] => if fitsL n m then (m, 0) else ([], 2)
  | m, t :: ts => if fitsL n m then (if (fireL n m t).2 == 0 then runL n (fireL n m t).1 ts else ([], (fireL n m t).2)) else ([], 2)

end Go.Proofs.Ytgedpebnipghlaa

/- The answers of the document itself for nets: the other way round. -/
namespace Go.Proofs.Ytgedpebnipghlaa
open Go.RowKit
set_option linter.unusedVariables false
set_option maxRecDepth 4000

def turnT (t : TranL) : TranL := ⟨t.label, t.post, t.pre⟩
def turnL (n : NetL) : NetL := ⟨n.places, n.trans.map turnT⟩
theorem turn_at (ts : List TranL) (j : Nat) (h : j < ts.length) : tranAt (ts.map turnT) j = turnT (tranAt ts j) := by
  simp [tranAt, List.getD, List.getElem?_map, List.getElem?_eq_getElem h]

/-- The first of them, turned, as cells. -/
def TurnedTo (w : World) (ts : List TranL) (tv : List (Int × Value × Value)) : Prop :=
  ∀ j (hj : j < tv.length), tv[j].1 = (tranAt ts j).label ∧ Ints w tv[j].2.1 (tranAt ts j).post ∧ Ints w tv[j].2.2 (tranAt ts j).pre
theorem TurnedTo.nil (w : World) (ts : List TranL) : TurnedTo w ts [] := fun j hj => absurd hj (by simp)
theorem TurnedTo.snoc {w : World} {ts : List TranL} {tv : List (Int × Value × Value)} (h : TurnedTo w ts tv) {l : Int} {c1 c2 : Value}
    (hl : l = (tranAt ts tv.length).label) (h1 : Ints w c1 (tranAt ts tv.length).post) (h2 : Ints w c2 (tranAt ts tv.length).pre) : TurnedTo w ts (tv ++ [(l, c1, c2)]) := by
  intro j hj
  by_cases hjl : j < tv.length
  · rw [List.getElem_append_left hjl]; exact h j hjl
  · have e : j = tv.length := by simp at hj; omega
    subst e
    rw [List.getElem_append_right (Nat.le_refl _)]
    simp only [Nat.sub_self, List.getElem_cons_zero]
    exact ⟨hl, h1, h2⟩

end Go.Proofs.Ytgedpebnipghlaa

/- Whether two nets are the same, as the document itself asks it. -/
namespace Go.Proofs.Ytgedpebnipghlaa
open Go.RowKit
set_option linter.unusedVariables false
set_option maxRecDepth 4000

def sameT (t u : TranL) : Bool := (t.label == u.label) && (t.pre == u.pre) && (t.post == u.post)
def sameTo (ts us : List TranL) (k : Nat) : Bool := (List.range k).all fun j => sameT (tranAt ts j) (tranAt us j)
def sameTs (ts us : List TranL) : Bool := (ts.length == us.length) && sameTo ts us ts.length
def sameN (n m : NetL) : Bool := (n.places == m.places) && sameTs n.trans m.trans

theorem sameTo_succ (ts us : List TranL) (k : Nat) : sameTo ts us (k + 1) = (sameTo ts us k && sameT (tranAt ts k) (tranAt us k)) := by
  unfold sameTo; rw [List.range_succ, List.all_append]; simp
theorem sameTo_false (ts us : List TranL) (n k : Nat) (h : k < n) (hf : sameT (tranAt ts k) (tranAt us k) = false) : sameTo ts us n = false := by
  unfold sameTo; rw [List.all_eq_false]; exact ⟨k, by simpa using h, by simp [hf]⟩

theorem Trans.get {w : World} {v : Value} {ts : List TranL} (h : Trans w v ts) : ∃ a len cap, v = .slice a len cap ∧ ts.length = len ∧ len ≤ 2513169434916 := by
  obtain ⟨a, len, cap, e, hl, hm, _, _⟩ := h; exact ⟨a, len, cap, e, hl, hm⟩

end Go.Proofs.Ytgedpebnipghlaa

/- Plain facts on nets that fire: more tokens, two that change places, back again, one run behind another one. -/
namespace Go.Proofs.Ytgedpebnipghlaa
set_option linter.unusedVariables false
set_option maxRecDepth 4000

/-- What firing asks, and what it comes to. -/
def Fires (n : NetL) (m : List Int) (t : Int) (m' : List Int) : Prop := fireL n m t = (m', 0)

theorem add_at (xs ys : List Int) (j : Nat) : nth (addL xs ys) j = nth xs j + nth ys j := sum_at xs ys j
theorem sub_at (xs ys : List Int) (j : Nat) : nth (subL xs ys) j = nth xs j - nth ys j := less_at xs ys j
theorem add_length (xs ys : List Int) : (addL xs ys).length = max xs.length ys.length := zipL_length _ _ _
theorem sub_length (xs ys : List Int) : (subL xs ys).length = max xs.length ys.length := zipL_length _ _ _

theorem fire_ok {n : NetL} {m m' : List Int} {t : Int} (h : fireL n m t = (m', 0)) :
    ∃ k : Nat, t = k ∧ k < n.trans.length ∧ fitsL n m = true ∧ coversL m (tranAt n.trans k).pre = true ∧ rightL m' = true ∧ m' = addL (subL m (tranAt n.trans k).pre) (tranAt n.trans k).post := by
  unfold fireL at h
  cases hf : fitsL n m
  · simp [hf] at h
  · simp only [hf, if_true] at h
    cases hc : (decide (0 ≤ t) && decide (t < n.trans.length) && coversL m (tranAt n.trans t.toNat).pre)
    · simp [hc] at h
    · simp only [hc, if_true] at h
      simp only [Bool.and_eq_true, decide_eq_true_eq] at hc
      obtain ⟨⟨h0, h1⟩, h2⟩ := hc
      obtain ⟨k, rfl⟩ := Int.eq_ofNat_of_zero_le h0
      rw [Int.toNat_natCast] at h h2
      cases hr : rightL (addL (subL m (tranAt n.trans k).pre) (tranAt n.trans k).post)
      · simp [hr] at h
      · simp only [hr, if_true, Prod.mk.injEq, and_true] at h
        subst h
        exact ⟨k, rfl, by omega, rfl, h2, hr, rfl⟩

theorem fire_mk {n : NetL} {m : List Int} {k : Nat} (hk : k < n.trans.length) (hf : fitsL n m = true) (hc : coversL m (tranAt n.trans k).pre = true)
    (hr : rightL (addL (subL m (tranAt n.trans k).pre) (tranAt n.trans k).post) = true) : fireL n m k = (addL (subL m (tranAt n.trans k).pre) (tranAt n.trans k).post, 0) := by
  unfold fireL
  rw [hf, decide_eq_true (show (0 : Int) ≤ k by omega), decide_eq_true (show (k : Int) < n.trans.length by omega), Int.toNat_natCast, hc, hr]
  rfl

theorem fits_mk {n : NetL} {m : List Int} (hn : netOk n = true) (hl : (m.length : Int) = n.places) (hr : rightL m = true) : fitsL n m = true := by
  simp [fitsL, hn, hl, hr]

theorem tran_length {n : NetL} (hn : netOk n = true) {k : Nat} (hk : k < n.trans.length) :
    ((tranAt n.trans k).pre.length : Int) = n.places ∧ ((tranAt n.trans k).post.length : Int) = n.places := by
  have h := net_tran hn hk
  simp only [tranOk, tranHead, Bool.and_eq_true, beq_iff_eq] at h
  exact ⟨h.1.1.2, h.1.2⟩

/-- What comes of a firing is a mark of the net. -/
theorem fire_fits {n : NetL} {m m' : List Int} {t : Int} (h : fireL n m t = (m', 0)) : fitsL n m' = true := by
  obtain ⟨k, rfl, hk, hf, hc, hr, rfl⟩ := fire_ok h
  obtain ⟨hn, hl, _⟩ := fits_net hf
  obtain ⟨l1, l2⟩ := tran_length hn hk
  exact fits_mk hn (by rw [add_length, sub_length]; omega) hr

theorem fire_err {n : NetL} {m : List Int} {t : Int} (h : (fireL n m t).2 ≠ 0) : (fireL n m t).1 = [] := by
  unfold fireL at h ⊢
  split at h
  · split at h
    · split at h
      · exact absurd rfl h
      · rename_i h1 h2 h3; simp [h1, h2, h3]
    · rename_i h1 h2; simp [h1, h2]
  · rename_i h1; simp [h1]

theorem run_err {n : NetL} (seq : List Int) : ∀ {m : List Int}, (runL n m seq).2 ≠ 0 → (runL n m seq).1 = [] := by
  induction seq with
  | nil =>
    intro m h
    unfold runL at h ⊢
    split at h
    · exact absurd rfl h
    · rename_i h1; simp [h1]
  | cons t ts ih =>
    intro m h
    unfold runL at h ⊢
    cases hf : fitsL n m
    · simp
    · simp only [hf, if_true] at h ⊢
      cases hq : ((fireL n m t).2 == 0)
      · simp
      · simp only [hq, if_true] at h ⊢
        exact ih h

/-- A run that can be done, step by step. -/
theorem run_cons {n : NetL} {m m' : List Int} {t : Int} {ts : List Int} : runL n m (t :: ts) = (m', 0) ↔ ∃ x, fireL n m t = (x, 0) ∧ runL n x ts = (m', 0) := by
  constructor
  · intro h
    unfold runL at h
    cases hf : fitsL n m
    · simp [hf] at h
    · simp only [hf, if_true] at h
      cases hq : ((fireL n m t).2 == 0)
      · simp only [hq] at h
        have : (fireL n m t).2 = 0 := by simpa using congrArg Prod.snd h
        simp [this] at hq
      · simp only [hq, if_true] at h
        exact ⟨(fireL n m t).1, Prod.ext rfl (by simpa using hq), h⟩
  · rintro ⟨x, h1, h2⟩
    obtain ⟨_, _, _, hf, _⟩ := fire_ok h1
    unfold runL
    simp [hf, h1, h2]

theorem run_nil {n : NetL} {m m' : List Int} : runL n m [] = (m', 0) ↔ fitsL n m = true ∧ m' = m := by
  unfold runL
  cases hf : fitsL n m
  · simp
  · simp [eq_comm]

theorem run_fits {n : NetL} (seq : List Int) : ∀ {m m' : List Int}, runL n m seq = (m', 0) → fitsL n m = true ∧ fitsL n m' = true := by
  induction seq with
  | nil => intro m m' h; obtain ⟨h1, rfl⟩ := run_nil.1 h; exact ⟨h1, h1⟩
  | cons t ts ih =>
    intro m m' h
    obtain ⟨x, h1, h2⟩ := run_cons.1 h
    obtain ⟨_, _, _, hf, _⟩ := fire_ok h1
    exact ⟨hf, (ih h2).2⟩

theorem eq_of_at {xs ys : List Int} (hl : xs.length = ys.length) (h : ∀ j, nth xs j = nth ys j) : xs = ys := eq_of_nth xs ys hl fun j _ => h j

/-! With more. -/

theorem post_le {n : NetL} (hn : netOk n = true) {k : Nat} (hk : k < n.trans.length) (j : Nat) :
    0 ≤ nth (tranAt n.trans k).pre j ∧ nth (tranAt n.trans k).pre j ≤ 9 ∧ 0 ≤ nth (tranAt n.trans k).post j ∧ nth (tranAt n.trans k).post j ≤ 9 := by
  have h := net_tran hn hk
  simp only [tranOk, Bool.and_eq_true, List.all_append] at h
  have one : ∀ xs : List Int, xs.all weightOk = true → 0 ≤ nth xs j ∧ nth xs j ≤ 9 := by
    intro xs hx
    by_cases hj : j < xs.length
    · have := List.all_eq_true.1 hx _ (List.getElem_mem hj)
      simp only [weightOk, Bool.and_eq_true, decide_eq_true_eq] at this
      simp only [nth, List.getD, List.getElem?_eq_getElem hj, Option.getD_some]
      omega
    · rw [nth_past xs j (by omega)]; omega
  have h1 := one _ h.2.1
  have h2 := one _ h.2.2
  omega

theorem fire_more {n : NetL} {m m' d : List Int} {t : Int} (h : fireL n m t = (m', 0)) (hl : d.length = m.length) (h0 : ∀ j, 0 ≤ nth d j) (hb : ∀ j, nth m j + nth d j + 9 ≤ 1000000) :
    fireL n (addL m d) t = (addL m' d, 0) ∧ (∀ j, nth m' j ≤ nth m j + 9) ∧ m'.length = m.length := by
  obtain ⟨k, rfl, hk, hf, hc, hr, rfl⟩ := fire_ok h
  obtain ⟨hn, hlen, hm⟩ := fits_net hf
  obtain ⟨l1, l2⟩ := tran_length hn hk
  rw [rightL_iff] at hm hr
  rw [coversL_iff] at hc
  have hp := post_le hn hk
  have hlen2 : ∀ xs ys : List Int, (addL xs ys).length = max xs.length ys.length := add_length
  have hf' : fitsL n (addL m d) = true := fits_mk hn (by rw [add_length]; omega) ((rightL_iff _).2 fun j => by
    have := hm j; have := h0 j; have := hb j; rw [add_at]; omega)
  have hc' : coversL (addL m d) (tranAt n.trans k).pre = true := (coversL_iff _ _).2 fun j => by
    have := hc j; have := h0 j; rw [add_at]; omega
  have e : addL (subL (addL m d) (tranAt n.trans k).pre) (tranAt n.trans k).post = addL (addL (subL m (tranAt n.trans k).pre) (tranAt n.trans k).post) d := by
    refine eq_of_at (by simp only [add_length, sub_length]; omega) fun j => ?_
    simp only [add_at, sub_at]; omega
  refine ⟨?_, fun j => by have := hp j; have := hc j; rw [add_at, sub_at]; omega, by rw [add_length, sub_length]; omega⟩
  rw [fire_mk hk hf' hc' (by
    rw [e, rightL_iff]
    intro j
    have := hr j; have := h0 j; have := hb j; have := hp j
    simp only [add_at, sub_at] at *
    omega), e]

theorem run_more {n : NetL} (seq : List Int) : ∀ {m m' d : List Int}, runL n m seq = (m', 0) → d.length = m.length → (∀ j, 0 ≤ nth d j) → (∀ j, nth m j + nth d j + 9 * seq.length ≤ 1000000) →
    runL n (addL m d) seq = (addL m' d, 0) ∧ (∀ j, nth m' j ≤ nth m j + 9 * seq.length) ∧ m'.length = m.length := by
  induction seq with
  | nil =>
    intro m m' d h hl h0 hb
    obtain ⟨hf, rfl⟩ := run_nil.1 h
    obtain ⟨hn, hlen, hm⟩ := fits_net hf
    refine ⟨run_nil.2 ⟨fits_mk hn (by rw [add_length]; omega) ((rightL_iff _).2 fun j => ?_), rfl⟩, fun j => by simp, rfl⟩
    have := (rightL_iff _).1 hm j; have := h0 j; have := hb j
    rw [add_at]
    simp only [List.length_nil] at *
    omega
  | cons t ts ih =>
    intro m m' d h hl h0 hb
    obtain ⟨x, h1, h2⟩ := run_cons.1 h
    simp only [List.length_cons] at hb ⊢
    obtain ⟨g1, g2, g3⟩ := fire_more h1 hl h0 (fun j => by have := hb j; omega)
    obtain ⟨k1, k2, k3⟩ := ih h2 (by omega) h0 (fun j => by have := hb j; have := g2 j; omega)
    exact ⟨run_cons.2 ⟨_, g1, k1⟩, fun j => by have := k2 j; have := g2 j; omega, by omega⟩

/-! Two that change places. -/

theorem fire_two {n : NetL} {m : List Int} {t u : Nat} (hn : netOk n = true) (ht : t < n.trans.length) (hu : u < n.trans.length) (hl : (m.length : Int) = n.places) (hm : rightL m = true) (hb : ∀ j, nth m j ≤ 900000)
    (hc : ∀ j, nth (tranAt n.trans t).pre j + nth (tranAt n.trans u).pre j ≤ nth m j) :
    ∃ z, runL n m [(t : Int), (u : Int)] = (z, 0) ∧ z.length = m.length ∧ ∀ j, nth z j = nth m j - nth (tranAt n.trans t).pre j + nth (tranAt n.trans t).post j - nth (tranAt n.trans u).pre j + nth (tranAt n.trans u).post j := by
  have pt := post_le hn ht
  have pu := post_le hn hu
  obtain ⟨l1, l2⟩ := tran_length hn ht
  obtain ⟨l3, l4⟩ := tran_length hn hu
  have hm' := (rightL_iff _).1 hm
  have f1 := fire_mk (m := m) ht (fits_mk hn hl hm) ((coversL_iff _ _).2 fun j => by have := hc j; have := pu j; omega) ((rightL_iff _).2 fun j => by
    have := hc j; have := pt j; have := pu j; have := hb j; have := hm' j; rw [add_at, sub_at]; omega)
  have ff := fire_fits f1
  have f2 := fire_mk hu ff ((coversL_iff _ _).2 fun j => by have := hc j; have := pt j; rw [add_at, sub_at]; omega) ((rightL_iff _).2 fun j => by
    have := hc j; have := pt j; have := pu j; have := hb j; have := hm' j; simp only [add_at, sub_at]; omega)
  refine ⟨_, run_cons.2 ⟨_, f1, run_cons.2 ⟨_, f2, run_nil.2 ⟨fire_fits f2, rfl⟩⟩⟩, by simp only [add_length, sub_length]; omega, fun j => by simp only [add_at, sub_at]⟩

theorem fire_swap {n : NetL} {m : List Int} {t u : Nat} (hn : netOk n = true) (ht : t < n.trans.length) (hu : u < n.trans.length) (hl : (m.length : Int) = n.places) (hm : rightL m = true) (hb : ∀ j, nth m j ≤ 900000)
    (hc : ∀ j, nth (tranAt n.trans t).pre j + nth (tranAt n.trans u).pre j ≤ nth m j) :
    ∃ z, runL n m [(t : Int), (u : Int)] = (z, 0) ∧ runL n m [(u : Int), (t : Int)] = (z, 0) := by
  obtain ⟨z, h1, h2, h3⟩ := fire_two hn ht hu hl hm hb hc
  obtain ⟨y, k1, k2, k3⟩ := fire_two hn hu ht hl hm hb (fun j => by have := hc j; omega)
  have e : y = z := eq_of_at (by omega) fun j => by rw [h3 j, k3 j]; omega
  exact ⟨z, h1, e ▸ k1⟩

/-! Back again. -/

theorem runL_cons (n : NetL) (m : List Int) (t : Int) (ts : List Int) : runL n m (t :: ts) = if fitsL n m then (if (fireL n m t).2 == 0 then runL n (fireL n m t).1 ts else ([], (fireL n m t).2)) else ([], 2) := rfl

theorem run_append {n : NetL} (a : List Int) : ∀ {m : List Int} (b : List Int), runL n m (a ++ b) = if (runL n m a).2 == 0 then runL n (runL n m a).1 b else ([], (runL n m a).2) := by
  induction a with
  | nil =>
    intro m b
    cases hf : fitsL n m
    · have e : runL n m [] = ([], 2) := by simp [runL, hf]
      rw [e, List.nil_append]
      cases b <;> simp [runL, hf]
    · have e : runL n m [] = (m, 0) := by simp [runL, hf]
      rw [e]; rfl
  | cons t ts ih =>
    intro m b
    rw [List.cons_append, runL_cons, runL_cons]
    cases hf : fitsL n m
    · simp
    · simp only [if_true]
      cases hq : ((fireL n m t).2 == 0)
      · simp [hq]
      · simp only [if_true]
        exact ih b

theorem turn_turn (t : TranL) : turnT (turnT t) = t := rfl
theorem turn_ok (n : NetL) (h : netOk n = true) : netOk (turnL n) = true := by
  simp only [netOk, headOk, Bool.and_eq_true, decide_eq_true_eq] at h ⊢
  refine ⟨⟨h.1.1, by simp [turnL]; exact h.1.2⟩, ?_⟩
  rw [List.all_eq_true] at h ⊢
  intro t ht
  obtain ⟨s, hs, rfl⟩ := List.mem_map.1 ht
  have := h.2 s hs
  simp only [tranOk, tranHead, turnT, turnL, Bool.and_eq_true, List.all_append] at this ⊢
  exact ⟨⟨⟨this.1.1.1, this.1.2⟩, this.1.1.2⟩, this.2.2, this.2.1⟩

theorem fire_back {n : NetL} {m m' : List Int} {t : Int} (h : fireL n m t = (m', 0)) : fireL (turnL n) m' t = (m, 0) := by
  have hf' := fire_fits h
  obtain ⟨k, rfl, hk, hf, hc, hr, rfl⟩ := fire_ok h
  obtain ⟨hn, hlen, hm⟩ := fits_net hf
  obtain ⟨l1, l2⟩ := tran_length hn hk
  have hc' := (coversL_iff _ _).1 hc
  have ea : tranAt (turnL n).trans k = turnT (tranAt n.trans k) := turn_at _ _ hk
  have e : addL (subL (addL (subL m (tranAt n.trans k).pre) (tranAt n.trans k).post) (tranAt n.trans k).post) (tranAt n.trans k).pre = m := by
    refine eq_of_at (by simp only [add_length, sub_length]; omega) fun j => ?_
    simp only [add_at, sub_at]; omega
  have hft : fitsL (turnL n) (addL (subL m (tranAt n.trans k).pre) (tranAt n.trans k).post) = true := by
    obtain ⟨_, q1, q2⟩ := fits_net hf'
    exact fits_mk (turn_ok n hn) q1 q2
  have := fire_mk (n := turnL n) (k := k) (by simpa [turnL] using hk) hft (by
    rw [ea, coversL_iff]; intro j; have := hc' j; simp only [turnT, add_at, sub_at]; omega) (by
    rw [ea]; show rightL (addL (subL _ (tranAt n.trans k).post) (tranAt n.trans k).pre) = true; rw [e]; exact hm)
  rw [this, ea]
  show (addL (subL _ (tranAt n.trans k).post) (tranAt n.trans k).pre, (0 : Int)) = _
  rw [e]

theorem run_back {n : NetL} (seq : List Int) : ∀ {m x : List Int}, runL n m seq = (x, 0) → runL (turnL n) x seq.reverse = (m, 0) := by
  induction seq with
  | nil =>
    intro m x h
    obtain ⟨hf, rfl⟩ := run_nil.1 h
    obtain ⟨hn, q1, q2⟩ := fits_net hf
    exact run_nil.2 ⟨fits_mk (turn_ok n hn) q1 q2, rfl⟩
  | cons t ts ih =>
    intro m x h
    obtain ⟨y, h1, h2⟩ := run_cons.1 h
    have h3 := ih h2
    rw [List.reverse_cons, run_append, h3]
    have h4 := fire_back h1
    exact run_cons.2 ⟨_, h4, run_nil.2 ⟨fire_fits h4, rfl⟩⟩

/-! Who can, and who fires. -/

theorem can_mem (n : NetL) (m : List Int) (k : Nat) (t : Int) : t ∈ canTo n m k ↔ ∃ j : Nat, t = j ∧ j < k ∧ coversL m (tranAt n.trans j).pre = true := by
  simp only [canTo, List.mem_map, List.mem_filter, List.mem_range]
  exact ⟨fun ⟨j, ⟨h1, h2⟩, h3⟩ => ⟨j, h3.symm, h1, h2⟩, fun ⟨j, h3, h1, h2⟩ => ⟨j, ⟨h1, h2⟩, h3.symm⟩⟩

theorem can_fire {n : NetL} {m : List Int} (hf : fitsL n m = true) (t : Int) : (canTo n m n.trans.length).contains t = ((fireL n m t).2 != 3) := by
  rw [Bool.eq_iff_iff, List.contains_iff_mem, can_mem, bne_iff_ne]
  constructor
  · rintro ⟨j, rfl, hj, hc⟩
    unfold fireL
    rw [hf, decide_eq_true (show (0 : Int) ≤ j by omega), decide_eq_true (show (j : Int) < n.trans.length by omega), Int.toNat_natCast, hc]
    simp only [Bool.and_self, if_true]
    split <;> simp
  · intro h
    unfold fireL at h
    rw [hf] at h
    cases hc : (decide (0 ≤ t) && decide (t < n.trans.length) && coversL m (tranAt n.trans t.toNat).pre)
    · simp [hc] at h
    · simp only [Bool.and_eq_true, decide_eq_true_eq] at hc
      obtain ⟨⟨h0, h1⟩, h2⟩ := hc
      obtain ⟨k, rfl⟩ := Int.eq_ofNat_of_zero_le h0
      rw [Int.toNat_natCast] at h2
      exact ⟨k, rfl, by omega, h2⟩

theorem not_fits {n : NetL} {m : List Int} (hf : fitsL n m = false) (t : Int) : fireL n m t = ([], 2) := by simp [fireL, hf]

end Go.Proofs.Ytgedpebnipghlaa

/- Plain words for choices: who shares a place with whom, who is led to whom, and the parts that this makes. -/
namespace Go.Proofs.Ytgedpebnipghlaa
set_option linter.unusedVariables false
set_option maxRecDepth 4000

/-- Both take from one place. -/
def Shares (n : NetL) (i j : Nat) : Prop := ∃ p, 0 < nth (tranAt n.trans i).pre p ∧ 0 < nth (tranAt n.trans j).pre p
theorem Shares.symm {n : NetL} {i j : Nat} (h : Shares n i j) : Shares n j i := by obtain ⟨p, h1, h2⟩ := h; exact ⟨p, h2, h1⟩

/-- The net is right, and who shares a place shares all. -/
def FreeN (n : NetL) : Prop := netOk n = true ∧ ∀ i j, i < n.trans.length → j < n.trans.length → Shares n i j → (tranAt n.trans i).pre = (tranAt n.trans j).pre

/-- From one to the next, as often as it takes. -/
def Led (n : NetL) (a b : Nat) : Prop := ∀ Q : Nat → Prop, Q a → (∀ x y, x < n.trans.length → y < n.trans.length → Q x → Shares n x y → Q y) → Q b
theorem Led.here (n : NetL) (a : Nat) : Led n a a := fun _ h _ => h
theorem Led.step {n : NetL} {a b c : Nat} (h : Led n a b) (hb : b < n.trans.length) (hc : c < n.trans.length) (hs : Shares n b c) : Led n a c := fun Q h1 h2 => h2 b c hb hc (h Q h1 h2) hs
theorem Led.trans {n : NetL} {a b c : Nat} (h : Led n a b) (k : Led n b c) : Led n a c := k (fun x => Led n a x) h fun x y hx hy h1 hs => h1.step hx hy hs
theorem Led.symm {n : NetL} {a b : Nat} (h : Led n a b) : Led n b a := h (fun x => Led n x a) (Led.here n a) fun x y hx hy h1 hs => ((Led.here n y).step hy hx hs.symm).trans h1

theorem led_pre {n : NetL} (hf : FreeN n) {a b : Nat} (h : Led n a b) : (tranAt n.trans a).pre = (tranAt n.trans b).pre :=
  h (fun x => (tranAt n.trans a).pre = (tranAt n.trans x).pre) rfl fun x y hx hy h1 hs => h1.trans (hf.2 x y hx hy hs)

/-- In a number of steps. -/
def StepsN (n : NetL) : Nat → Nat → Nat → Prop
  | 0, a, b => a = b
  | k + 1, a, b => ∃ c, c < n.trans.length ∧ Shares n a c ∧ StepsN n k c b
theorem stepsN_snoc {n : NetL} {c d : Nat} (hd : d < n.trans.length) (hs : Shares n c d) : ∀ {k a}, StepsN n k a c → StepsN n (k + 1) a d
  | 0, a, h => ⟨d, hd, by rw [show a = c from h]; exact hs, rfl⟩
  | k + 1, a, h => by obtain ⟨x, hx, h1, h2⟩ := h; exact ⟨x, hx, h1, stepsN_snoc hd hs h2⟩
theorem led_stepsN {n : NetL} {a b : Nat} (h : Led n a b) : ∃ k, StepsN n k a b :=
  h (fun x => ∃ k, StepsN n k a x) ⟨0, rfl⟩ fun x y hx hy ⟨k, h1⟩ hs => ⟨k + 1, stepsN_snoc hy hs h1⟩

theorem cntF_le_of {f g : Nat → Bool} : ∀ (n : Nat), (∀ j, f j = true → g j = true) → cntF g n ≤ cntF f n
  | 0, _ => Nat.le_refl _
  | n + 1, h => by
    have := cntF_le_of n h
    simp only [cntF]
    cases hf : f n with
    | true => rw [h n hf]; simpa using this
    | false => cases g n <;> simp <;> omega
theorem cntF_lt_of {f g : Nat → Bool} {y : Nat} (h : ∀ j, f j = true → g j = true) (hf : f y = false) (hg : g y = true) : ∀ (n : Nat), y < n → cntF g n < cntF f n
  | 0, hy => absurd hy (Nat.not_lt_zero _)
  | n + 1, hy => by
    simp only [cntF]
    by_cases e : y = n
    · subst e
      have := cntF_le_of (f := f) (g := g) y h
      rw [hf, hg]; simp; omega
    · have := cntF_lt_of h hf hg n (by omega)
      cases hfn : f n with
      | true => rw [h n hfn]; simpa using this
      | false => cases g n <;> simp <;> omega

/-- A test that tells who is no further than so many steps. -/
def NearB (n : NetL) (b : Nat) (f : Nat → Nat → Bool) : Prop := ∀ k x, f k x = true ↔ ∃ j, j ≤ k ∧ StepsN n j x b
theorem near_some (n : NetL) (b : Nat) : ∃ f, NearB n b f := by
  classical
  exact ⟨fun k x => decide (∃ j, j ≤ k ∧ StepsN n j x b), fun k x => decide_eq_true_iff⟩

theorem near_new {n : NetL} {b k : Nat} {f : Nat → Nat → Bool} (hf : NearB n b f) : ∀ {m x : Nat}, x < n.trans.length → StepsN n m x b → f k x = false → ∃ y, y < n.trans.length ∧ f (k + 1) y = true ∧ f k y = false
  | 0, x, hx, h, hn => by
    have : f k x = true := (hf _ _).2 ⟨0, Nat.zero_le _, h⟩
    rw [hn] at this; cases this
  | m + 1, x, hx, h, hn => by
    obtain ⟨c, hc, hs, h2⟩ := h
    cases hk : f k c with
    | true =>
      obtain ⟨j, hj, h3⟩ := (hf _ _).1 hk
      exact ⟨x, hx, (hf _ _).2 ⟨j + 1, by omega, c, hc, hs, h3⟩, hn⟩
    | false => exact near_new hf hc h2 hk

theorem near_count {n : NetL} {b : Nat} {f : Nat → Nat → Bool} (hf : NearB n b f) (hb : b < n.trans.length) : ∀ (k : Nat) {m x : Nat}, x < n.trans.length → StepsN n m x b → f k x = false → cntF (f k) n.trans.length + k + 1 ≤ n.trans.length
  | 0, m, x, hx, h, hn => by
    have h0 : f 0 b = true := (hf _ _).2 ⟨0, Nat.le_refl _, rfl⟩
    have := cntF_lt_of (f := fun _ => false) (g := f 0) (y := b) (fun _ h => by cases h) rfl h0 n.trans.length hb
    have := cntF_le (fun _ => false) n.trans.length
    omega
  | k + 1, m, x, hx, h, hn => by
    have hk : f k x = false := by
      cases hk : f k x with
      | false => rfl
      | true =>
        obtain ⟨j, hj, h3⟩ := (hf _ _).1 hk
        rw [(hf _ _).2 ⟨j, by omega, h3⟩] at hn
        cases hn
    obtain ⟨y, hy, h1, h2⟩ := near_new hf hx h hk
    have := cntF_lt_of (f := f k) (g := f (k + 1)) (y := y) (fun j hj => by obtain ⟨i, hi, h3⟩ := (hf _ _).1 hj; exact (hf _ _).2 ⟨i, by omega, h3⟩) h2 h1 n.trans.length hy
    have := near_count hf hb k hx h hk
    omega

/-- No more steps than there are transitions. -/
theorem led_short {n : NetL} {a b : Nat} (ha : a < n.trans.length) (hb : b < n.trans.length) (h : Led n a b) : ∃ k, k ≤ n.trans.length ∧ StepsN n k a b := by
  obtain ⟨m, hm⟩ := led_stepsN h
  obtain ⟨f, hf⟩ := near_some n b
  cases hk : f n.trans.length a with
  | true => exact (hf _ _).1 hk
  | false => have := near_count hf hb _ ha hm hk; omega

/-- All transitions, in parts. -/
structure PartsOk (n : NetL) (ls : List (List Int)) : Prop where
  bad : netOk n = false → ls = []
  ne : ∀ l ∈ ls, l ≠ []
  up : ∀ l ∈ ls, l.Pairwise (· < ·)
  first : ls.Pairwise (fun a b => a.headD 0 < b.headD 0)
  mem : ∀ l ∈ ls, ∀ t ∈ l, 0 ≤ t ∧ t.toNat < n.trans.length ∧ ∀ u : Nat, u < n.trans.length → ((u : Int) ∈ l ↔ Led n t.toNat u)
  all : netOk n = true → ∀ k, k < n.trans.length → ∃ l ∈ ls, (k : Int) ∈ l

theorem key_unique {α : Type} (f : α → Int) : ∀ {xs ys : List α}, xs.Pairwise (fun a b => f a < f b) → ys.Pairwise (fun a b => f a < f b) → (∀ t, t ∈ xs ↔ t ∈ ys) → xs = ys
  | [], [], _, _, _ => rfl
  | [], y :: ys, _, _, h => absurd ((h y).2 (by simp)) (by simp)
  | x :: xs, [], _, _, h => absurd ((h x).1 (by simp)) (by simp)
  | x :: xs, y :: ys, hx, hy, h => by
    have hx1 := List.pairwise_cons.1 hx
    have hy1 := List.pairwise_cons.1 hy
    have e : x = y := by
      rcases List.mem_cons.1 ((h x).1 (by simp)) with e | e
      · exact e
      · rcases List.mem_cons.1 ((h y).2 (by simp)) with e2 | e2
        · exact e2.symm
        · have := hx1.1 y e2; have := hy1.1 x e; omega
    subst e
    rw [key_unique f hx1.2 hy1.2 fun t => ?_]
    constructor
    · intro ht
      rcases List.mem_cons.1 ((h t).1 (List.mem_cons_of_mem _ ht)) with e | e
      · subst e; have := hx1.1 t ht; omega
      · exact e
    · intro ht
      rcases List.mem_cons.1 ((h t).2 (List.mem_cons_of_mem _ ht)) with e | e
      · subst e; have := hy1.1 t ht; omega
      · exact e

theorem PartsOk.sub {n : NetL} {ls ks : List (List Int)} (h : PartsOk n ls) (k : PartsOk n ks) (hn : netOk n = true) {l : List Int} (hl : l ∈ ls) : l ∈ ks := by
  obtain ⟨t, r, e⟩ := List.exists_cons_of_ne_nil (h.ne l hl)
  obtain ⟨h0, h1, h2⟩ := h.mem l hl t (by rw [e]; simp)
  obtain ⟨m, hm, ht⟩ := k.all hn t.toNat h1
  rw [Int.toNat_of_nonneg h0] at ht
  obtain ⟨_, _, k2⟩ := k.mem m hm t ht
  have : l = m := up_unique (h.up l hl) (k.up m hm) fun u => by
    constructor
    · intro hu
      obtain ⟨u0, u1, _⟩ := h.mem l hl u hu
      rw [← Int.toNat_of_nonneg u0] at hu ⊢
      exact (k2 _ u1).2 ((h2 _ u1).1 hu)
    · intro hu
      obtain ⟨u0, u1, _⟩ := k.mem m hm u hu
      rw [← Int.toNat_of_nonneg u0] at hu ⊢
      exact (h2 _ u1).2 ((k2 _ u1).1 hu)
  rw [this]; exact hm

/-- There is one way to part them. -/
theorem PartsOk.unique {n : NetL} {ls ks : List (List Int)} (h : PartsOk n ls) (k : PartsOk n ks) : ls = ks := by
  cases hn : netOk n with
  | false => rw [h.bad hn, k.bad hn]
  | true => exact key_unique (fun l => l.headD 0) h.first k.first fun l => ⟨h.sub k hn, k.sub h hn⟩

/-- Those with one head, rising. -/
def withHead (h : Nat → Int) (a : Int) (m : Nat) : List Int := ((List.range m).filter fun i => h i == a).map fun i : Nat => (i : Int)
theorem withHead_zero (h : Nat → Int) (a : Int) : withHead h a 0 = [] := rfl
theorem withHead_yes (h : Nat → Int) (a : Int) (m : Nat) (e : h m = a) : withHead h a (m + 1) = withHead h a m ++ [(m : Int)] := by simp [withHead, List.range_succ, e]
theorem withHead_no (h : Nat → Int) (a : Int) (m : Nat) (e : h m ≠ a) : withHead h a (m + 1) = withHead h a m := by simp [withHead, List.range_succ, e]
theorem withHead_le (h : Nat → Int) (a : Int) (m : Nat) : (withHead h a m).length ≤ m := by
  unfold withHead
  rw [List.length_map]
  exact Nat.le_trans (List.length_filter_le _ _) (by simp)
theorem withHead_mem (h : Nat → Int) (a : Int) (m : Nat) (t : Int) : t ∈ withHead h a m ↔ ∃ i : Nat, t = i ∧ i < m ∧ h i = a := by
  unfold withHead
  simp only [List.mem_map, List.mem_filter, List.mem_range, beq_iff_eq]
  constructor
  · rintro ⟨i, ⟨h1, h2⟩, rfl⟩; exact ⟨i, rfl, h1, h2⟩
  · rintro ⟨i, rfl, h1, h2⟩; exact ⟨i, ⟨h1, h2⟩, rfl⟩
theorem withHead_up (h : Nat → Int) (a : Int) (m : Nat) : (withHead h a m).Pairwise (· < ·) := by
  unfold withHead
  rw [List.pairwise_map]
  exact List.Pairwise.imp_of_mem (fun _ _ h => by omega) (List.Pairwise.filter _ List.pairwise_lt_range)

/-- The parts, head by head, without the empty ones. -/
def heads (h : Nat → Int) (m : Nat) : Nat → List (List Int)
  | 0 => []
  | a + 1 => heads h m a ++ (if withHead h a m = [] then [] else [withHead h a m])
theorem heads_none {h : Nat → Int} {m a : Nat} (e : withHead h a m = []) : heads h m (a + 1) = heads h m a := by simp [heads, e]
theorem heads_some {h : Nat → Int} {m a : Nat} (e : withHead h a m ≠ []) : heads h m (a + 1) = heads h m a ++ [withHead h a m] := by simp [heads, e]
theorem heads_le (h : Nat → Int) (m : Nat) : ∀ a, (heads h m a).length ≤ a
  | 0 => Nat.le_refl _
  | a + 1 => by
    have := heads_le h m a
    simp only [heads, List.length_append]
    split <;> simp <;> omega
theorem heads_mem {h : Nat → Int} {m : Nat} {l : List Int} : ∀ {a : Nat}, l ∈ heads h m a ↔ ∃ b, b < a ∧ l = withHead h b m ∧ l ≠ []
  | 0 => by simp [heads]
  | a + 1 => by
    by_cases e : withHead h a m = []
    · rw [heads_none e, heads_mem]
      constructor
      · rintro ⟨b, h1, h2⟩; exact ⟨b, by omega, h2⟩
      · rintro ⟨b, h1, h2, h3⟩
        refine ⟨b, ?_, h2, h3⟩
        rcases Nat.lt_or_ge b a with h4 | h4
        · exact h4
        · obtain rfl : b = a := by omega
          rw [h2] at h3; exact absurd e h3
    · rw [heads_some e, List.mem_append, heads_mem, List.mem_singleton]
      constructor
      · rintro (⟨b, h1, h2⟩ | h1)
        · exact ⟨b, by omega, h2⟩
        · exact ⟨a, by omega, h1, by rw [h1]; exact e⟩
      · rintro ⟨b, h1, h2, h3⟩
        rcases Nat.lt_or_ge b a with h4 | h4
        · exact .inl ⟨b, h4, h2, h3⟩
        · obtain rfl : b = a := by omega
          exact .inr h2

/-- What is known of heads behind so many rounds: each is one that it is led to, and not above whoever is within so many steps. -/
structure HeadOk (n : NetL) (h : Nat → Int) : Prop where
  low : ∀ i, i < n.trans.length → 0 ≤ h i ∧ h i ≤ i
  led : ∀ i, i < n.trans.length → Led n i (h i).toNat
def Below1 (n : NetL) (r : Nat) (h : Nat → Int) (i : Nat) : Prop := ∀ k x, k ≤ r → StepsN n k i x → h i ≤ x
/-- In the midst of a round: these are through, and of this one so many were looked at. -/
structure HeadMid (n : NetL) (r i j : Nat) (h : Nat → Int) : Prop where
  ok : HeadOk n h
  old : ∀ a, a < n.trans.length → Below1 n r h a
  past : ∀ a, a < i → a < n.trans.length → Below1 n (r + 1) h a
  seen : ∀ c, c < j → c < n.trans.length → Shares n i c → ∀ k x, k ≤ r → StepsN n k c x → h i ≤ x

theorem head_first (n : NetL) (h : Nat → Int) (e : ∀ i, i < n.trans.length → h i = i) : HeadMid n 0 0 0 h where
  ok := ⟨fun i hi => by rw [e i hi]; omega, fun i hi => by rw [e i hi]; exact Led.here n i⟩
  old := fun a ha k x hk hs => by
    obtain rfl : k = 0 := by omega
    rw [e a ha, show a = x from hs]; exact Int.le_refl _
  past := fun a h => absurd h (Nat.not_lt_zero _)
  seen := fun c h => absurd h (Nat.not_lt_zero _)

def setH (h : Nat → Int) (i : Nat) (x : Int) : Nat → Int := fun a => if a = i then x else h a

theorem HeadMid.skip {n : NetL} {r i j : Nat} {h : Nat → Int} (H : HeadMid n r i j h) (hs : ¬ Shares n i j) : HeadMid n r i (j + 1) h :=
  ⟨H.ok, H.old, H.past, fun c hc hl hs' k x hk h1 => by
    rcases Nat.lt_or_ge c j with h2 | h2
    · exact H.seen c h2 hl hs' k x hk h1
    · obtain rfl : c = j := by omega
      exact absurd hs' hs⟩

theorem HeadMid.put {n : NetL} {r i j : Nat} {h : Nat → Int} (H : HeadMid n r i j h) (hi : i < n.trans.length) (hj : j < n.trans.length) (hs : Shares n i j) : HeadMid n r i (j + 1) (setH h i (min (h i) (h j))) := by
  have hle : ∀ a, setH h i (min (h i) (h j)) a ≤ h a := by
    intro a; unfold setH; split
    · rename_i e; subst e; exact Int.min_le_left _ _
    · exact Int.le_refl _
  refine ⟨⟨fun a ha => ?_, fun a ha => ?_⟩, fun a ha k x hk h1 => Int.le_trans (hle a) (H.old a ha k x hk h1), fun a h0 ha k x hk h1 => Int.le_trans (hle a) (H.past a h0 ha k x hk h1), fun c hc hl hs' k x hk h1 => ?_⟩
  · have := H.ok.low a ha
    refine ⟨?_, Int.le_trans (hle a) this.2⟩
    unfold setH; split
    · have := H.ok.low i hi; have := H.ok.low j hj; omega
    · exact this.1
  · unfold setH; split
    · rename_i e; subst e
      rcases Int.le_total (h a) (h j) with h1 | h1
      · rw [Int.min_eq_left h1]; exact H.ok.led a ha
      · rw [Int.min_eq_right h1]; exact ((Led.here n a).step ha hj hs).trans (H.ok.led j hj)
    · exact H.ok.led a ha
  · rcases Nat.lt_or_ge c j with h2 | h2
    · exact Int.le_trans (hle i) (H.seen c h2 hl hs' k x hk h1)
    · obtain rfl : c = j := by omega
      have h3 := H.old c hl k x hk h1
      refine Int.le_trans ?_ h3
      unfold setH; rw [if_pos rfl]; exact Int.min_le_right _ _

theorem HeadMid.row {n : NetL} {r i : Nat} {h : Nat → Int} (H : HeadMid n r i n.trans.length h) (hi : i < n.trans.length) : HeadMid n r (i + 1) 0 h := by
  refine ⟨H.ok, H.old, fun a h0 ha k x hk h1 => ?_, fun c hc => absurd hc (Nat.not_lt_zero _)⟩
  rcases Nat.lt_or_ge a i with h2 | h2
  · exact H.past a h2 ha k x hk h1
  · obtain rfl : a = i := by omega
    cases k with
    | zero => exact H.old a ha 0 x (Nat.zero_le _) h1
    | succ k =>
      obtain ⟨c, hc, hs, h3⟩ := h1
      exact H.seen c hc hc hs k x (by omega) h3

theorem HeadMid.round {n : NetL} {r : Nat} {h : Nat → Int} (H : HeadMid n r n.trans.length 0 h) : HeadMid n (r + 1) 0 0 h :=
  ⟨H.ok, fun a ha => H.past a ha ha, fun a h => absurd h (Nat.not_lt_zero _), fun c h => absurd h (Nat.not_lt_zero _)⟩

theorem head_same {n : NetL} {h : Nat → Int} (H : HeadMid n n.trans.length 0 0 h) {i j : Nat} (hi : i < n.trans.length) (hj : j < n.trans.length) : h i = h j ↔ Led n i j := by
  have lt : ∀ a, a < n.trans.length → (h a).toNat < n.trans.length := fun a ha => by have := H.ok.low a ha; omega
  have low : ∀ a b, a < n.trans.length → b < n.trans.length → Led n a b → h a ≤ b := fun a b ha hb hl => by
    obtain ⟨k, hk, hs⟩ := led_short ha hb hl
    exact H.old a ha k b hk hs
  constructor
  · intro e
    have h1 := H.ok.led i hi
    rw [e] at h1
    exact h1.trans (H.ok.led j hj).symm
  · intro hl
    have h1 := low i _ hi (lt j hj) (hl.trans (H.ok.led j hj))
    have h2 := low j _ hj (lt i hi) (hl.symm.trans (H.ok.led i hi))
    have := H.ok.low i hi
    have := H.ok.low j hj
    omega

theorem heads_parts {n : NetL} {h : Nat → Int} (hn : netOk n = true) (H : HeadMid n n.trans.length 0 0 h) : PartsOk n (heads h n.trans.length n.trans.length) := by
  have hh : ∀ a, a < n.trans.length → h (h a).toNat = h a ∧ (h a).toNat < n.trans.length := fun a ha => by
    have := H.ok.low a ha
    have hl : (h a).toNat < n.trans.length := by omega
    exact ⟨((head_same H hl ha).2 (H.ok.led a ha).symm), hl⟩
  have hd : ∀ b : Nat, withHead h b n.trans.length ≠ [] → (withHead h b n.trans.length).headD 0 = (b : Int) := fun b hne => by
    obtain ⟨t, r, e⟩ := List.exists_cons_of_ne_nil hne
    obtain ⟨i, rfl, hi, hb⟩ := (withHead_mem h b _ t).1 (by rw [e]; simp)
    have hm : (b : Int) ∈ withHead h b n.trans.length := by
      obtain ⟨h1, h2⟩ := hh i hi
      rw [hb] at h1 h2
      exact (withHead_mem h b _ b).2 ⟨b, rfl, by simpa using h2, by simpa using h1⟩
    have hup := withHead_up h b n.trans.length
    rw [e] at hm hup ⊢
    have := H.ok.low i hi
    rcases List.mem_cons.1 hm with h3 | h3
    · exact h3.symm
    · have := (List.pairwise_cons.1 hup).1 _ h3
      omega
  refine ⟨fun hb => (by rw [hn] at hb; cases hb), fun l hl => ?_, fun l hl => ?_, ?_, fun l hl t ht => ?_, fun _ k hk => ?_⟩
  · obtain ⟨b, _, _, h3⟩ := heads_mem.1 hl; exact h3
  · obtain ⟨b, _, rfl, _⟩ := heads_mem.1 hl; exact withHead_up _ _ _
  · have : ∀ a, (heads h n.trans.length a).Pairwise (fun a b => a.headD 0 < b.headD 0) := by
      intro a
      induction a with
      | zero => exact List.Pairwise.nil
      | succ a ih =>
        by_cases e : withHead h a n.trans.length = []
        · rw [heads_none e]; exact ih
        · rw [heads_some e, List.pairwise_append]
          refine ⟨ih, List.pairwise_singleton _ _, fun x hx y hy => ?_⟩
          obtain ⟨b, h1, h2, h3⟩ := heads_mem.1 hx
          obtain rfl := List.mem_singleton.1 hy
          rw [h2] at h3 ⊢
          rw [hd b h3, hd a e]; omega
    exact this _
  · obtain ⟨b, _, rfl, _⟩ := heads_mem.1 hl
    obtain ⟨i, rfl, hi, hb⟩ := (withHead_mem h b _ t).1 ht
    refine ⟨by omega, by simpa using hi, fun u hu => ?_⟩
    rw [withHead_mem]
    have hs := head_same H hi hu
    constructor
    · rintro ⟨j, e, hj, h2⟩
      obtain rfl : u = j := by omega
      exact hs.1 (hb.trans h2.symm)
    · intro hl
      exact ⟨u, rfl, hu, by rw [← hb]; exact (hs.2 hl).symm⟩
  · obtain ⟨h1, h2⟩ := hh k hk
    have hl := H.ok.low k hk
    have hm : (k : Int) ∈ withHead h ((h k).toNat : Int) n.trans.length := (withHead_mem _ _ _ _).2 ⟨k, rfl, hk, by omega⟩
    exact ⟨_, heads_mem.2 ⟨(h k).toNat, h2, rfl, fun e => by rw [e] at hm; cases hm⟩, hm⟩

theorem parts_bad {n : NetL} (h : netOk n = false) : PartsOk n [] :=
  ⟨fun _ => rfl, fun l hl => (by cases hl), fun l hl => (by cases hl), List.Pairwise.nil, fun l hl => (by cases hl), fun hn => (by rw [h] at hn; cases hn)⟩

end Go.Proofs.Ytgedpebnipghlaa

/- The document's own answers for choices: who shares a place with whom. -/
namespace Go.Proofs.Ytgedpebnipghlaa
open Go.RowKit
set_option linter.unusedVariables false
set_option maxRecDepth 4000

/-- Of the first so many places none is shared. -/
def NotTo (n : NetL) (i j k : Nat) : Prop := ∀ p, p < k → ¬ (0 < nth (tranAt n.trans i).pre p ∧ 0 < nth (tranAt n.trans j).pre p)
theorem notTo_succ {n : NetL} {i j k : Nat} (h : NotTo n i j k) (hn : ¬ (0 < nth (tranAt n.trans i).pre k ∧ 0 < nth (tranAt n.trans j).pre k)) : NotTo n i j (k + 1) := by
  intro p hp
  rcases Nat.lt_or_ge p k with h1 | h1
  · exact h p h1
  · obtain rfl : p = k := by omega
    exact hn
theorem net_places {n : NetL} (hn : netOk n = true) : ∃ P : Nat, n.places = (P : Int) ∧ P ≤ 16 := by
  unfold netOk headOk at hn
  simp only [Bool.and_eq_true, decide_eq_true_eq] at hn
  exact ⟨n.places.toNat, by omega, by omega⟩
theorem net_weight {n : NetL} (hn : netOk n = true) {k : Nat} (hk : k < n.trans.length) (p : Nat) : 0 ≤ nth (tranAt n.trans k).pre p ∧ nth (tranAt n.trans k).pre p ≤ 9 := by
  by_cases hp : p < (tranAt n.trans k).pre.length
  · have h := net_tran hn hk
    unfold tranOk at h
    simp only [Bool.and_eq_true, List.all_eq_true, List.mem_append] at h
    have h2 := h.2 (nth (tranAt n.trans k).pre p) (.inl (by unfold nth; rw [List.getD_eq_getElem?_getD, List.getElem?_eq_getElem hp]; exact List.getElem_mem _))
    unfold weightOk at h2
    simp only [Bool.and_eq_true, decide_eq_true_eq] at h2
    exact h2
  · rw [nth_past _ _ (by omega)]; omega
theorem notTo_all {n : NetL} (hn : netOk n = true) {i j P : Nat} (hi : i < n.trans.length) (hP : n.places = (P : Int)) (h : NotTo n i j P) : ¬ Shares n i j := by
  rintro ⟨p, h1, h2⟩
  rcases Nat.lt_or_ge p P with h3 | h3
  · exact h p h3 ⟨h1, h2⟩
  · have := (tran_length hn hi).1
    rw [nth_past _ _ (by omega)] at h1
    omega

set_option maxHeartbeats 1000000 in
theorem nshare_any (v : Value) (n : NetL) (i j : Nat) (w : World) (hv : Net w v n) (hn : netOk n = true) (hi : i < n.trans.length) (hj : j < n.trans.length) :
    Calls Try.prog 26 #[v, .int .i64 (i : Int), .int .i64 (j : Int)] w fun e w' => ∃ b, e = .returned (.bool b) ∧ (b = true ↔ Shares n i j) ∧ Below w.heap.size w w' := by
  obtain ⟨tv, rfl, hT⟩ := hv
  obtain ⟨P, hP, hP16⟩ := net_places hn
  have Hall : Hid (NotTo n i j P → ¬ Shares n i j) := notTo_all hn hi hP
  have Hwi : Hid _ := net_weight hn hi
  have Hwj : Hid _ := net_weight hn hj
  have HLi : Hid ((tranAt n.trans i).pre.length = P) := by have := (tran_length hn hi).1; show _ = _; omega
  have HLj : Hid ((tranAt n.trans j).pre.length = P) := by have := (tran_length hn hj).1; show _ = _; omega
  rw [hP]
  have c := below_new w (.cells #[.int .i64 (P : Int), tv] 24)
  have hbx := box2_new w (.int .i64 (P : Int)) tv 24
  replace hT := hT.below c
  obtain ⟨w0, Hw0⟩ : ∃ w0, Hid (w.alloc (.cells #[.int .i64 (P : Int), tv] 24) = w0) := ⟨_, rfl⟩
  rw [Hw0.out] at c hbx hT
  obtain ⟨a, len, cap, rfl, hlen, hmx, hsh, _⟩ := id hT
  rw [hlen] at hi hj
  clear hlen hP hn hsh
  go_enter Try.func26, Try.ntmps26
  go_upto_region 1 with fail
  rw [Hw0.out]
  clear Hw0
  obtain ⟨x0, x1, x2⟩ := id hbx
  go_wp2_with fail
  clear x0 x1 x2
  go_loopg [10] P (fun gk i' wr => ∃ k : Nat, k + gk = P ∧ i' = .int .i64 (k : Int) ∧ Hid (NotTo n i j k) ∧ Below w0.heap.size w0 wr)
  case atStart => exact ⟨0, by omega, rfl, fun p hp => absurd hp (Nat.not_lt_zero _), Below.refl _ _⟩
  case round =>
    obtain ⟨k, hkg, rfl, HN, hb⟩ := hrel
    by_cases hk : k < P
    · obtain ⟨x0, x1, x2⟩ := hbx.below hb
      obtain ⟨bt, ot, p1, q1, rfl, hlt, h0, h1, h2, i1, _⟩ := (hT.below hb).at hi
      obtain ⟨bt', ot', p2, q2, e, _, g0, g1, g2, i2, _⟩ := (hT.below hb).at hj
      injection e with e
      injection e with e1 e2
      subst e1 e2
      obtain ⟨a1, l1, c1, rfl, hl1, _, _, _⟩ := id i1
      obtain ⟨a2, l2, c2, rfl, hl2, _, _, _⟩ := id i2
      obtain rfl : l1 = P := by rw [← hl1]; exact HLi.out
      obtain rfl : l2 = l1 := by rw [← hl2]; exact HLj.out
      obtain ⟨b1, o1, rfl, _, cX⟩ := ints_atL i1 hk
      obtain ⟨b2, o2, rfl, _, cY⟩ := ints_atL i2 hk
      have Wx := Hwi.out k
      have Wy := Hwj.out k
      have HS : Hid (¬ (0 < nth (tranAt n.trans i).pre k ∧ 0 < nth (tranAt n.trans j).pre k) → NotTo n i j (k + 1)) := notTo_succ HN.out
      have HY : Hid (0 < nth (tranAt n.trans i).pre k ∧ 0 < nth (tranAt n.trans j).pre k → Shares n i j) := fun h => ⟨k, h⟩
      clear i1 i2 hl1 hl2 h0 h2 g0 g2 HN
      generalize nth (tranAt n.trans i).pre k = x at *
      generalize nth (tranAt n.trans j).pre k = y at *
      by_cases hx : 0 < x
      · by_cases hy : 0 < y
        · have R : Hid (Shares n i j) := HY.out ⟨hx, hy⟩
          have z1 : 0 < x * y := Int.mul_pos hx hy
          have z2 : x * y ≤ 9 * 9 := Int.mul_le_mul Wx.2 Wy.2 (by omega) (by omega)
          clear HS HY
          go_wp2_with fail
          go_quiet (fail)
          have B := below_then c (below_drewN hb nq)
          clear x0 x1 x2 h1 g1 cX cY
          go_wp2
          go_ret
          exact ⟨true, rfl, ⟨fun _ => R.out, fun _ => rfl⟩, B⟩
        · obtain rfl : y = 0 := by omega
          have R : Hid _ := HS.out (by omega)
          clear HS HY
          go_wp2_with fail
          go_quiet (fail)
          have B := below_drewN hb nq
          clear x0 x1 x2 h1 g1 cX cY
          go_wp2
          go_roundg (gk - 1)
          case measure => omega
          case rel => exact ⟨k + 1, by omega, by go_num, R, B⟩
      · obtain rfl : x = 0 := by omega
        have R : Hid _ := HS.out (by omega)
        clear HS HY
        go_wp2_with fail
        go_quiet (fail)
        have B := below_drewN hb nq
        clear x0 x1 x2 h1 g1 cX cY
        go_wp2
        go_roundg (gk - 1)
        case measure => omega
        case rel => exact ⟨k + 1, by omega, by go_num, R, B⟩
    · obtain rfl : k = P := by omega
      have R : Hid (¬ Shares n i j) := Hall.out HN.out
      have B := below_then c hb
      clear HN Hall
      go_wp2
      go_ret
      exact ⟨false, rfl, ⟨fun h => (by cases h), fun h => absurd h R.out⟩, B⟩

end Go.Proofs.Ytgedpebnipghlaa

/- Package net, as it landed: what is wrong, and which marks fit. -/
namespace Go.Proofs.Ytgedpebnipghlaa
open Go.RowKit
set_option linter.unusedVariables false
set_option maxRecDepth 4000

set_option maxHeartbeats 400000 in
theorem upTo_any (x y : Int) (w : World) :
    Calls Try.prog 35 #[.int .i64 x, .int .i64 y] w fun e w' => e = .returned (.bool (decide (0 ≤ x) && decide (x ≤ y))) ∧ w' = w := by
  by_cases h1 : 0 ≤ x <;> by_cases h2 : x ≤ y <;>
  · go_enter Try.func35, Try.ntmps35
    go_wp2
    go_ret
    exact ⟨by simp [h1, h2], rfl⟩

/-- What a transition may take or put. -/
def weighs (n : NetL) (xs : List Int) : Bool := ((xs.length : Int) == n.places) && xs.all weightOk

set_option maxHeartbeats 400000 in
theorem weights_any (v u : Value) (n : NetL) (xs : List Int) (w : World) (hv : Net w v n) (hu : Ints w u xs) :
    Calls Try.prog 36 #[v, u] w fun e w' => e = .returned (.bool (weighs n xs)) ∧ Below w.heap.size w w' := by
  obtain ⟨tv, rfl, hT⟩ := hv
  have b1 := below_new w (.cells #[.int .i64 n.places, tv] 24)
  have hu1 := hu.below b1
  have hbx := box2_new w (.int .i64 n.places) tv 24
  clear hT hu
  obtain ⟨a, len, cap, rfl, hlen, hmx, hsh, hr⟩ := hu1
  obtain ⟨x0, x1, x2⟩ := hbx
  cases hl : ((len : Int) == n.places)
  · have hl' : ((len : Int) != n.places) = true := by simpa using hl
    have F : Hid (weighs n xs = false) := by show _ = _; unfold weighs; rw [hlen, hl]; rfl
    clear hl
    go_enter Try.func36, Try.ntmps36
    go_wp2
    go_ret
    exact ⟨ret_bool F.out.symm, b1⟩
  · have hl' : ((len : Int) != n.places) = false := by simpa using hl
    have F : Hid (weighs n xs = xs.all weightOk) := by show _ = _; unfold weighs; rw [hlen, hl]; rfl
    clear hl
    go_enter Try.func36, Try.ntmps36
    go_wp2_with fail
    clear x0 x1 x2
    go_loop [14] (fun i => ∃ j : Nat, j ≤ len ∧ i = .int .i64 j ∧ Hid (weighTo xs j = true)) (fun i => len - (intOf i).toNat)
    case atStart => exact ⟨0, Nat.zero_le _, rfl, rfl⟩
    case round =>
      obtain ⟨j, hj, rfl, hw⟩ := hrel
      by_cases hjn : j < len
      · obtain ⟨b, off, rfl, hb, hc⟩ := hr j (by omega)
        have Hst : Hid _ := weighTo_succ xs j (by omega)
        have Hno : Hid (weightOk (nth xs j) = false → weighs n xs = false) := by
          intro h
          rw [F.out, List.all_eq_false]
          refine ⟨xs[j]'(by omega), List.getElem_mem _, ?_⟩
          have e : nth xs j = xs[j]'(by omega) := by simp [nth, List.getD, List.getElem?_eq_getElem (show j < xs.length by omega)]
          rw [← e, h]; simp
        clear hr
        go_wp2_with fail
        refine (upTo_any _ _ _).mono ?_
        rintro e w2 ⟨rfl, rfl⟩
        have Hwo : Hid ((decide (0 ≤ nth xs j) && decide (nth xs j ≤ 9)) = weightOk (nth xs j)) := rfl
        rw [Hwo.out]
        cases hk : weightOk (nth xs j)
        · have F2 : Hid _ := Hno.out hk
          clear Hno hk Hst
          go_wp2
          go_ret
          exact ⟨ret_bool F2.out.symm, b1⟩
        · have F2 : Hid (weighTo xs (j + 1) = true) := by show _ = _; rw [Hst.out, hw.out, hk]; rfl
          clear Hno hk Hst
          go_wp2
          go_round
          case rel => exact ⟨j + 1, by omega, by go_num, F2⟩
          case measure => simp [intOf]; omega
      · have F2 : Hid (weighs n xs = true) := by show _ = _; rw [F.out, ← weighTo_all xs j (by omega)]; exact hw.out
        go_wp2
        go_ret
        exact ⟨ret_bool F2.out.symm, b1⟩

theorem tranOk_weighs (n : NetL) (t : TranL) : tranOk n.places t = ((decide (0 ≤ t.label) && decide (t.label ≤ 26)) && weighs n t.pre && weighs n t.post) := by
  unfold tranOk tranHead weighs
  rw [List.all_append]
  cases decide (0 ≤ t.label) <;> cases decide (t.label ≤ 26) <;> cases ((t.pre.length : Int) == n.places) <;> cases ((t.post.length : Int) == n.places) <;> cases t.pre.all weightOk <;> cases t.post.all weightOk <;> rfl

theorem netOk_false_at {n : NetL} {k : Nat} (hk : k < n.trans.length) (h : tranOk n.places (tranAt n.trans k) = false) : netOk n = false := by
  unfold netOk
  rw [Bool.and_eq_false_iff]
  right
  rw [List.all_eq_false]
  refine ⟨n.trans[k], List.getElem_mem _, ?_⟩
  have e : tranAt n.trans k = n.trans[k] := by simp [tranAt, List.getD, List.getElem?_eq_getElem hk]
  rw [← e, h]; simp

set_option maxHeartbeats 1000000 in
theorem wrong_any (v : Value) (n : NetL) (w : World) (hv : Net w v n) :
    Calls Try.prog 17 #[v] w fun e w' => e = .returned (.int .i64 (wrongL n)) ∧ Below w.heap.size w w' := by
  obtain ⟨tv, rfl, hT⟩ := hv
  have b1 := below_new w (.cells #[.int .i64 n.places, tv] 24)
  have hbx := box2_new w (.int .i64 n.places) tv 24
  replace hT := hT.below b1
  obtain ⟨w0, Hw0⟩ : ∃ w0, Hid (w.alloc (.cells #[.int .i64 n.places, tv] 24) = w0) := ⟨_, rfl⟩
  rw [Hw0.out] at b1 hbx hT
  obtain ⟨a, len, cap, rfl, hlen, hmx, hsh, hr⟩ := id hT
  clear hr
  obtain ⟨x0, x1, x2⟩ := id hbx
  go_enter Try.func17, Try.ntmps17
  go_upto_region 1 with fail
  rw [Hw0.out]
  clear Hw0
  go_wp2_with fail
  refine (upTo_any _ _ _).mono ?_
  rintro e w2 ⟨rfl, rfl⟩
  cases hA : (decide (0 ≤ n.places) && decide (n.places ≤ 16))
  · have F : Hid (wrongL n = 2) := by show _ = _; simp only [wrongL, netOk, headOk, hA]; rfl
    clear hA
    go_wp2
    go_ret
    exact ⟨ret_int F.out.symm, b1⟩
  by_cases hB : len ≤ 24
  case neg =>
    have F : Hid (wrongL n = 2) := by show _ = _; simp only [wrongL, netOk, headOk, hA, hlen, decide_eq_false hB]; rfl
    clear hA
    go_wp2
    go_ret
    exact ⟨ret_int F.out.symm, b1⟩
  have F0 : Hid (okTo n 0 = true) := by show _ = _; simp only [okTo, headOk, hA, hlen, decide_eq_true hB]; rfl
  clear hA
  go_wp2_with fail
  go_loopg [18] len (fun g i wr => ∃ k : Nat, k + g = len ∧ i = .int .i64 k ∧ Hid (okTo n k = true) ∧ Below w2.heap.size w2 wr)
  case atStart => exact ⟨0, by omega, rfl, F0, Below.refl _ _⟩
  case round =>
    clear x0 x1 x2 F0
    obtain ⟨k, hkg, rfl, hok, hb⟩ := hrel
    have c := below_then b1 hb
    by_cases hkn : k < len
    · obtain ⟨b, off, c1, c2, rfl, hblt, h0, h1, h2, i1, i2⟩ := (hT.below hb).at hkn
      obtain ⟨x0, x1, x2⟩ := hbx.below hb
      have hv2 : Net wr (.agg #[.int .i64 n.places, .slice (some ⟨b, off, none⟩) len cap]) n := ⟨_, rfl, hT.below hb⟩
      obtain ⟨a1, l1, p1, rfl, _, _, _, _⟩ := id i1
      obtain ⟨a2, l2, p2, rfl, _, _, _, _⟩ := id i2
      have Hok : Hid _ := okTo_succ n k (by omega)
      have Hno : Hid (tranOk n.places (tranAt n.trans k) = false → wrongL n = 2) := fun h => wrongL_not (netOk_false_at (by omega) h)
      have Hto : Hid _ := tranOk_weighs n (tranAt n.trans k)
      have b2 := below_new wr (.cells #[.int .i64 (tranAt n.trans k).label, .slice a1 l1 p1, .slice a2 l2 p2] 44)
      generalize tranAt n.trans k = t at *
      replace hv2 := hv2.below b2
      replace i1 := i1.below b2
      replace i2 := i2.below b2
      go_wp2_with fail
      refine (upTo_any _ _ _).mono ?_
      rintro e w3 ⟨rfl, rfl⟩
      cases hA : (decide (0 ≤ t.label) && decide (t.label ≤ 26))
      · have F : Hid (wrongL n = 2) := Hno.out (by rw [Hto.out, hA]; rfl)
        clear Hno Hto Hok hA
        go_wp2
        go_ret
        exact ⟨ret_int F.out.symm, below_then c b2⟩
      go_wp2_with fail
      refine (weights_any _ _ n t.pre _ (by exact hv2) (by exact i1)).mono ?_
      rintro e w3 ⟨rfl, b3⟩
      cases hB : weighs n t.pre
      · have F : Hid (wrongL n = 2) := Hno.out (by rw [Hto.out, hA, hB]; rfl)
        clear Hno Hto Hok hA
        go_wp2
        go_ret
        exact ⟨ret_int F.out.symm, below_then c (below_then b2 b3)⟩
      have y0 : wr.heap.size < (wr.alloc (.cells #[.int .i64 t.label, .slice a1 l1 p1, .slice a2 l2 p2] 44)).heap.size := by simp
      have y2 : w3.cell? ⟨wr.heap.size, 2, none⟩ = some (.slice a2 l2 p2) := by rw [b3.cell (p := ⟨wr.heap.size, 2, none⟩) y0, World.cell?_alloc_at _ _ _ _ rfl]; rfl
      obtain ⟨z0, z1, z2⟩ := (hbx.below hb).below (below_then b2 b3)
      replace hv2 := hv2.below b3
      replace i2 := i2.below b3
      have b4 := below_then b2 b3
      clear b2 b3 x0 x1 x2 h0 h1 h2 i1 y0
      go_wp2_with fail
      refine (weights_any _ _ n t.post _ (by exact hv2) (by exact i2)).mono ?_
      rintro e w4 ⟨rfl, b3⟩
      replace b4 := below_then b4 b3
      clear y2 z0 z1 z2 hv2 i2 b3
      cases hC : weighs n t.post
      · have F : Hid (wrongL n = 2) := Hno.out (by rw [Hto.out, hA, hB, hC]; rfl)
        clear Hno Hto Hok hA
        go_wp2
        go_ret
        exact ⟨ret_int F.out.symm, below_then c b4⟩
      · have F : Hid (okTo n (k + 1) = true) := by show _ = _; rw [Hok.out, Hto.out, hok.out, hA, hB, hC]; rfl
        have R := below_then hb b4
        clear Hno Hto Hok hA b4
        go_wp2
        go_roundg (gk - 1)
        case measure => omega
        case rel => exact ⟨k + 1, by omega, by go_num, F, R⟩
    · have F : Hid (wrongL n = 0) := by show _ = _; rw [okTo_all n k (by omega)] at hok; exact wrongL_ok hok.out
      go_wp2
      go_ret
      exact ⟨ret_int F.out.symm, c⟩

set_option maxHeartbeats 400000 in
theorem marks_any (v u : Value) (n : NetL) (m : List Int) (w : World) (hv : Net w v n) (hu : Ints w u m) :
    Calls Try.prog 31 #[v, u] w fun e w' => e = .returned (.bool (fitsL n m)) ∧ Below w.heap.size w w' := by
  obtain ⟨tv, rfl, hT⟩ := hv
  have b1 := below_new w (.cells #[.int .i64 n.places, tv] 24)
  have hbx := box2_new w (.int .i64 n.places) tv 24
  have hu1 := hu.below b1
  have hv1 : Net _ _ n := ⟨tv, rfl, hT.below b1⟩
  go_enter Try.func31, Try.ntmps31
  go_wp2_with fail
  refine (wrong_any _ n _ (by exact hv1)).mono ?_
  rintro e w1 ⟨rfl, b2⟩
  have b3 := below_then b1 b2
  have hu2 := hu1.below b2
  obtain ⟨hx0, hx1, hx2⟩ := hbx.below b2
  clear b1 b2 hbx hu1 hv1
  have hu3 := hu2
  obtain ⟨a, len, cap, rfl, hlen, hmx, hsh, hr⟩ := hu2
  clear hr
  cases h1 : netOk n
  · rw [wrongL_not h1]
    have F : Hid (fitsL n m = false) := by show _ = _; simp [fitsL, h1]
    clear h1
    go_wp2
    go_ret
    exact ⟨ret_bool F.out.symm, b3⟩
  · rw [wrongL_ok h1]
    cases h2 : ((len : Int) == n.places)
    · have F : Hid (fitsL n m = false) := by show _ = _; unfold fitsL; rw [hlen, h2]; simp
      clear h1
      go_wp2
      go_ret
      exact ⟨ret_bool F.out.symm, b3⟩
    · have F : Hid (fitsL n m = rightL m) := by show _ = _; unfold fitsL; rw [h1, hlen, h2]; simp
      clear h1
      go_wp2_with fail
      refine (right_any _ m _ hu3).mono ?_
      rintro e w' ⟨rfl, rfl⟩
      go_wp2
      go_ret
      exact ⟨ret_bool F.out.symm, b3⟩

end Go.Proofs.Ytgedpebnipghlaa

/- Plain words for all marks that a net comes to. -/
namespace Go.Proofs.Ytgedpebnipghlaa
set_option linter.unusedVariables false
set_option maxRecDepth 4000

/-- An arc: from, by, to. -/
structure ArcL where
  frm : Nat
  tran : Nat
  dst : Nat

/-- All marks, and how. -/
structure SpaceL where
  marks : List (List Int)
  arcs : List ArcL

/-- Where a mark is found, if it is. -/
def findM (ms : List (List Int)) (x : List Int) : Option Nat := ms.findIdx? (· == x)
def markAt (ms : List (List Int)) (k : Nat) : List Int := ms.getD k []

theorem findM_some {ms : List (List Int)} {x : List Int} {k : Nat} (h : findM ms x = some k) : k < ms.length ∧ markAt ms k = x := by
  obtain ⟨hk, h1, _⟩ := List.findIdx?_eq_some_iff_getElem.1 h
  refine ⟨hk, ?_⟩
  rw [markAt, List.getD_eq_getElem?_getD, List.getElem?_eq_getElem hk]
  simpa using h1
theorem findM_none {ms : List (List Int)} {x : List Int} (h : findM ms x = none) : x ∉ ms := by
  intro hx
  have := List.findIdx?_eq_none_iff.1 h x hx
  simp at this
theorem markAt_mem {ms : List (List Int)} {k : Nat} (h : k < ms.length) : markAt ms k ∈ ms := by
  rw [markAt, List.getD_eq_getElem?_getD, List.getElem?_eq_getElem h]; exact List.getElem_mem h
theorem markAt_append {ms ns : List (List Int)} {k : Nat} (h : k < ms.length) : markAt (ms ++ ns) k = markAt ms k := by
  rw [markAt, markAt, List.getD_eq_getElem?_getD, List.getD_eq_getElem?_getD, List.getElem?_append_left h]
theorem markAt_last (ms : List (List Int)) (x : List Int) : markAt (ms ++ [x]) ms.length = x := by
  rw [markAt, List.getD_eq_getElem?_getD, List.getElem?_append_right (Nat.le_refl _)]; simp

/-- A transition is tried at a mark. -/
def tryT (n : NetL) (most : Nat) (k : Nat) (s : SpaceL) (t : Nat) : Option SpaceL :=
  if (fireL n (markAt s.marks k) t).2 == 3 then some s
  else if (fireL n (markAt s.marks k) t).2 == 0 then
    match findM s.marks (fireL n (markAt s.marks k) t).1 with
    | some g => some ⟨s.marks, s.arcs ++ [⟨k, t, g⟩]⟩
    | none => if s.marks.length = most then none else some ⟨s.marks ++ [(fireL n (markAt s.marks k) t).1], s.arcs ++ [⟨k, t, s.marks.length⟩]⟩
  else none

/-- The first t transitions are tried at mark k. -/
def rowTo (n : NetL) (most k : Nat) (s : SpaceL) : Nat → Option SpaceL
  | 0 => some s
  | t + 1 => (rowTo n most k s t).bind fun s' => tryT n most k s' t

/-- The first k marks are done. -/
def graphTo (n : NetL) (m : List Int) (most : Nat) : Nat → Option SpaceL
  | 0 => some ⟨[m], []⟩
  | k + 1 => (graphTo n m most k).bind fun s => if k < s.marks.length then rowTo n most k s n.trans.length else some s

def graphOk (n : NetL) (m : List Int) (most : Int) : Bool := decide (1 ≤ most) && decide (most ≤ 300) && fitsL n m
def graphL (n : NetL) (m : List Int) (most : Int) : SpaceL × Int :=
  if graphOk n m most then
    match graphTo n m most.toNat most.toNat with
    | some s => (s, 0)
    | none => (⟨[], []⟩, 4)
  else (⟨[], []⟩, 2)

/-- The first arc to a mark. -/
def firstTo (l : List ArcL) (g : Nat) : Option ArcL := l.find? fun a => a.dst == g

/-- What holds while marks are found: k marks are done, and t transitions of mark k. -/
structure Found (n : NetL) (m : List Int) (most k t : Nat) (s : SpaceL) : Prop where
  most_le : s.marks.length ≤ most
  pos : 0 < s.marks.length
  first : markAt s.marks 0 = m
  nodup : s.marks.Nodup
  fits : ∀ x ∈ s.marks, fitsL n x = true
  sound : ∀ a ∈ s.arcs, a.frm < s.marks.length ∧ a.dst < s.marks.length ∧ a.tran < n.trans.length ∧ a.frm ≤ k ∧ fireL n (markAt s.marks a.frm) a.tran = (markAt s.marks a.dst, 0)
  whole : ∀ f j, f < s.marks.length → j < n.trans.length → (f < k ∨ f = k ∧ j < t) → (fireL n (markAt s.marks f) j).2 = 3 ∨ ∃ g, (⟨f, j, g⟩ : ArcL) ∈ s.arcs
  par : ∀ g, 0 < g → g < s.marks.length → ∃ a, firstTo s.arcs g = some a ∧ a.frm < g
  mono : ∀ g h a b, 0 < g → g ≤ h → firstTo s.arcs g = some a → firstTo s.arcs h = some b → h < s.marks.length → a.frm ≤ b.frm
  early : ∀ a b, a ∈ s.arcs → firstTo s.arcs a.dst = some b → b.frm ≤ a.frm

theorem firstTo_append {l : List ArcL} {g : Nat} {a b : ArcL} (h : firstTo l g = some a) : firstTo (l ++ [b]) g = some a := by
  unfold firstTo at *; rw [List.find?_append, h]; rfl
theorem firstTo_new {l : List ArcL} {g : Nat} {b : ArcL} (h : firstTo l g = none) (hb : b.dst = g) : firstTo (l ++ [b]) g = some b := by
  unfold firstTo at *; rw [List.find?_append, h]; simp [hb]
theorem firstTo_other {l : List ArcL} {g : Nat} {b : ArcL} (hb : b.dst ≠ g) : firstTo (l ++ [b]) g = firstTo l g := by
  unfold firstTo; rw [List.find?_append]
  cases l.find? (fun a => a.dst == g) with
  | some a => rfl
  | none => simp [hb]
theorem firstTo_mem {l : List ArcL} {g : Nat} {a : ArcL} (h : firstTo l g = some a) : a ∈ l ∧ a.dst = g := by
  unfold firstTo at h
  exact ⟨List.mem_of_find?_eq_some h, by simpa using List.find?_some h⟩
theorem firstTo_none {l : List ArcL} {g : Nat} (h : ∀ a ∈ l, a.dst ≠ g) : firstTo l g = none := by
  unfold firstTo; rw [List.find?_eq_none]; intro a ha; simpa using h a ha

theorem Found.start {n : NetL} {m : List Int} {most : Nat} (hm : 1 ≤ most) (hf : fitsL n m = true) : Found n m most 0 0 ⟨[m], []⟩ where
  most_le := hm
  pos := Nat.one_pos
  first := rfl
  nodup := by simp
  fits := by simp [hf]
  sound := by simp
  whole := by intro f j h1 h2 h3; omega
  par := by intro g h1 h2; simp at h2; omega
  mono := by intro g h a b h1 h2 h3; simp [firstTo] at h3
  early := by simp

/-- One more arc, to a mark that was there. -/
theorem Found.arc {n : NetL} {m : List Int} {most k t g : Nat} {s : SpaceL} (h : Found n m most k t s) (hk : k < s.marks.length) (ht : t < n.trans.length) (hg : g < s.marks.length)
    (hf : fireL n (markAt s.marks k) t = (markAt s.marks g, 0)) : Found n m most k (t + 1) ⟨s.marks, s.arcs ++ [⟨k, t, g⟩]⟩ where
  most_le := h.most_le
  pos := h.pos
  first := h.first
  nodup := h.nodup
  fits := h.fits
  sound := by
    intro a ha
    rcases List.mem_append.1 ha with ha | ha
    · exact h.sound a ha
    · rw [List.mem_singleton] at ha; subst ha; exact ⟨hk, hg, ht, Nat.le_refl _, hf⟩
  whole := by
    intro f j h1 h2 h3
    by_cases e : f = k ∧ j = t
    · obtain ⟨rfl, rfl⟩ := e; exact .inr ⟨g, List.mem_append_right _ (List.mem_singleton.2 rfl)⟩
    · rcases h.whole f j h1 h2 (by omega) with h4 | ⟨g', h4⟩
      · exact .inl h4
      · exact .inr ⟨g', List.mem_append_left _ h4⟩
  par := by
    intro g' h1 h2
    obtain ⟨a, h3, h4⟩ := h.par g' h1 h2
    exact ⟨a, firstTo_append h3, h4⟩
  mono := by
    intro g1 g2 a b h1 h2 h3 h4 h5
    obtain ⟨a', h6, _⟩ := h.par g1 h1 (Nat.lt_of_le_of_lt h2 h5)
    obtain ⟨b', h7, _⟩ := h.par g2 (by omega) h5
    rw [firstTo_append h6] at h3
    rw [firstTo_append h7] at h4
    injection h3 with h3
    injection h4 with h4
    subst h3 h4
    exact h.mono g1 g2 _ _ h1 h2 h6 h7 h5
  early := by
    intro a b ha hb
    rcases List.mem_append.1 ha with ha | ha
    · cases he : firstTo s.arcs a.dst with
      | some c => rw [firstTo_append he] at hb; injection hb with hb; subst hb; exact h.early a _ ha he
      | none =>
        unfold firstTo at he
        rw [List.find?_eq_none] at he
        exact absurd (he a ha) (by simp)
    · rw [List.mem_singleton] at ha
      subst ha
      rcases List.mem_append.1 (firstTo_mem hb).1 with hb' | hb'
      · exact (h.sound b hb').2.2.2.1
      · rw [List.mem_singleton] at hb'; subst hb'; exact Nat.le_refl _

/-- One more arc, to a new mark. -/
theorem Found.new {n : NetL} {m x : List Int} {most k t : Nat} {s : SpaceL} (h : Found n m most k t s) (hk : k < s.marks.length) (ht : t < n.trans.length) (hx : x ∉ s.marks) (hlt : s.marks.length < most)
    (hf : fireL n (markAt s.marks k) t = (x, 0)) : Found n m most k (t + 1) ⟨s.marks ++ [x], s.arcs ++ [⟨k, t, s.marks.length⟩]⟩ where
  most_le := by simp; omega
  pos := by simp
  first := by show markAt (s.marks ++ [x]) 0 = m; rw [markAt_append h.pos]; exact h.first
  nodup := by
    show (s.marks ++ [x]).Nodup
    rw [List.nodup_append]
    exact ⟨h.nodup, by simp, fun a ha b hb e => by rw [List.mem_singleton] at hb; subst hb; subst e; exact hx ha⟩
  fits := by
    intro y hy
    rcases List.mem_append.1 hy with hy | hy
    · exact h.fits y hy
    · rw [List.mem_singleton] at hy; subst hy; exact fire_fits hf
  sound := by
    intro a ha
    have hl : (s.marks ++ [x]).length = s.marks.length + 1 := by simp
    rcases List.mem_append.1 ha with ha | ha
    · obtain ⟨h1, h2, h3, h4, h5⟩ := h.sound a ha
      show a.frm < (s.marks ++ [x]).length ∧ a.dst < (s.marks ++ [x]).length ∧ a.tran < n.trans.length ∧ a.frm ≤ k ∧ fireL n (markAt (s.marks ++ [x]) a.frm) a.tran = (markAt (s.marks ++ [x]) a.dst, 0)
      rw [markAt_append h1, markAt_append h2, hl]
      exact ⟨by omega, by omega, h3, h4, h5⟩
    · rw [List.mem_singleton] at ha
      subst ha
      show k < (s.marks ++ [x]).length ∧ s.marks.length < (s.marks ++ [x]).length ∧ t < n.trans.length ∧ k ≤ k ∧ fireL n (markAt (s.marks ++ [x]) k) t = (markAt (s.marks ++ [x]) s.marks.length, 0)
      rw [markAt_append hk, markAt_last, hl]
      exact ⟨by omega, by omega, ht, Nat.le_refl _, hf⟩
  whole := by
    intro f j h1 h2 h3
    show (fireL n (markAt (s.marks ++ [x]) f) j).2 = 3 ∨ ∃ g, _ ∈ s.arcs ++ _
    have hfl : f < s.marks.length := by omega
    rw [markAt_append hfl]
    by_cases e : f = k ∧ j = t
    · obtain ⟨rfl, rfl⟩ := e; exact .inr ⟨s.marks.length, List.mem_append_right _ (List.mem_singleton.2 rfl)⟩
    · rcases h.whole f j hfl h2 (by omega) with h4 | ⟨g', h4⟩
      · exact .inl h4
      · exact .inr ⟨g', List.mem_append_left _ h4⟩
  par := by
    intro g h1 h2
    have hl : (s.marks ++ [x]).length = s.marks.length + 1 := by simp
    by_cases hg : g < s.marks.length
    · obtain ⟨a, h3, h4⟩ := h.par g h1 hg
      exact ⟨a, firstTo_append h3, h4⟩
    · have e : g = s.marks.length := by simp only [hl] at h2; omega
      exact ⟨⟨k, t, s.marks.length⟩, firstTo_new (firstTo_none fun a ha => by have := (h.sound a ha).2.1; omega) e.symm, by show k < g; omega⟩
  mono := by
    intro g1 g2 a b h1 h2 h3 h4 h5
    have hl : (s.marks ++ [x]).length = s.marks.length + 1 := by simp
    have hno : firstTo s.arcs s.marks.length = none := firstTo_none fun a ha => by have := (h.sound a ha).2.1; omega
    by_cases hg2 : g2 < s.marks.length
    · obtain ⟨a', h6, _⟩ := h.par g1 h1 (Nat.lt_of_le_of_lt h2 hg2)
      obtain ⟨b', h7, _⟩ := h.par g2 (by omega) hg2
      rw [firstTo_append h6] at h3
      rw [firstTo_append h7] at h4
      injection h3 with h3
      injection h4 with h4
      subst h3 h4
      exact h.mono g1 g2 _ _ h1 h2 h6 h7 hg2
    · have e : g2 = s.marks.length := by simp only [hl] at h5; omega
      subst e
      rw [firstTo_new hno rfl] at h4
      injection h4 with h4
      subst h4
      rcases List.mem_append.1 (firstTo_mem h3).1 with hb' | hb'
      · exact (h.sound a hb').2.2.2.1
      · rw [List.mem_singleton] at hb'; subst hb'; exact Nat.le_refl _
  early := by
    intro a b ha hb
    rcases List.mem_append.1 ha with ha | ha
    · cases he : firstTo s.arcs a.dst with
      | some c => rw [firstTo_append he] at hb; injection hb with hb; subst hb; exact h.early a _ ha he
      | none =>
        unfold firstTo at he
        rw [List.find?_eq_none] at he
        exact absurd (he a ha) (by simp)
    · rw [List.mem_singleton] at ha
      subst ha
      rcases List.mem_append.1 (firstTo_mem hb).1 with hb' | hb'
      · exact (h.sound b hb').2.2.2.1
      · rw [List.mem_singleton] at hb'; subst hb'; exact Nat.le_refl _

end Go.Proofs.Ytgedpebnipghlaa

/- Plain facts on all marks that a net comes to. -/
namespace Go.Proofs.Ytgedpebnipghlaa
set_option linter.unusedVariables false
set_option maxRecDepth 4000

/-- What is found stays: more marks may come behind. -/
def Longer (s s' : SpaceL) : Prop := ∃ ms l, s'.marks = s.marks ++ ms ∧ s'.arcs = s.arcs ++ l
theorem Longer.refl (s : SpaceL) : Longer s s := ⟨[], [], by simp, by simp⟩
theorem Longer.trans {a b c : SpaceL} (h : Longer a b) (k : Longer b c) : Longer a c := by
  obtain ⟨m1, l1, e1, e2⟩ := h
  obtain ⟨m2, l2, e3, e4⟩ := k
  exact ⟨m1 ++ m2, l1 ++ l2, by rw [e3, e1, List.append_assoc], by rw [e4, e2, List.append_assoc]⟩
theorem Longer.le {a b : SpaceL} (h : Longer a b) : a.marks.length ≤ b.marks.length := by
  obtain ⟨m1, l1, e1, e2⟩ := h; rw [e1]; simp

theorem Found.skip {n : NetL} {m : List Int} {most k t : Nat} {s : SpaceL} (h : Found n m most k t s) (hf : (fireL n (markAt s.marks k) t).2 = 3) : Found n m most k (t + 1) s := by
  have hw : ∀ f j, f < s.marks.length → j < n.trans.length → (f < k ∨ f = k ∧ j < t + 1) → (fireL n (markAt s.marks f) j).2 = 3 ∨ ∃ g, (⟨f, j, g⟩ : ArcL) ∈ s.arcs := by
    intro f j h1 h2 h3
    by_cases e : f = k ∧ j = t
    · obtain ⟨rfl, rfl⟩ := e; exact .inl hf
    · exact h.whole f j h1 h2 (by omega)
  exact { h with whole := hw }

theorem tryT_found {n : NetL} {m : List Int} {most k t : Nat} {s s' : SpaceL} (h : Found n m most k t s) (hk : k < s.marks.length) (ht : t < n.trans.length) (e : tryT n most k s t = some s') :
    Found n m most k (t + 1) s' ∧ Longer s s' := by
  unfold tryT at e
  by_cases h3 : (fireL n (markAt s.marks k) t).2 = 3
  · rw [if_pos (by simp [h3])] at e
    injection e with e
    subst e
    exact ⟨h.skip h3, Longer.refl _⟩
  · rw [if_neg (by simp [h3])] at e
    by_cases h0 : (fireL n (markAt s.marks k) t).2 = 0
    · rw [if_pos (by simp [h0])] at e
      cases hf : findM s.marks (fireL n (markAt s.marks k) t).1 with
      | some g =>
        rw [hf] at e
        injection e with e
        subst e
        obtain ⟨hg, he⟩ := findM_some hf
        exact ⟨h.arc hk ht hg (by rw [he, ← h0]), [], [_], by simp, rfl⟩
      | none =>
        rw [hf] at e
        simp only at e
        by_cases hm : s.marks.length = most
        · rw [if_pos hm] at e; cases e
        · rw [if_neg hm] at e
          injection e with e
          subst e
          exact ⟨h.new hk ht (findM_none hf) (by have := h.most_le; omega) (by rw [← h0]), [_], [_], rfl, rfl⟩
    · rw [if_neg (by simp [h0])] at e; cases e

theorem rowTo_found {n : NetL} {m : List Int} {most k : Nat} {s : SpaceL} (h : Found n m most k 0 s) (hk : k < s.marks.length) : ∀ (t : Nat) {s' : SpaceL}, t ≤ n.trans.length → rowTo n most k s t = some s' →
    Found n m most k t s' ∧ Longer s s' := by
  intro t
  induction t with
  | zero => intro s' _ e; injection e with e; subst e; exact ⟨h, Longer.refl _⟩
  | succ t ih =>
    intro s' ht e
    simp only [rowTo, Option.bind_eq_some_iff] at e
    obtain ⟨s1, e1, e2⟩ := e
    obtain ⟨h1, l1⟩ := ih (by omega) e1
    obtain ⟨h2, l2⟩ := tryT_found h1 (Nat.lt_of_lt_of_le hk l1.le) (by omega) e2
    exact ⟨h2, l1.trans l2⟩

theorem Found.next {n : NetL} {m : List Int} {most k : Nat} {s : SpaceL} (h : Found n m most k n.trans.length s) : Found n m most (k + 1) 0 s :=
  { h with
    sound := fun a ha => by obtain ⟨h1, h2, h3, h4, h5⟩ := h.sound a ha; exact ⟨h1, h2, h3, by omega, h5⟩
    whole := fun f j h1 h2 h3 => h.whole f j h1 h2 (by omega) }
theorem Found.past {n : NetL} {m : List Int} {most k : Nat} {s : SpaceL} (h : Found n m most k 0 s) (hk : s.marks.length ≤ k) : Found n m most (k + 1) 0 s :=
  { h with
    sound := fun a ha => by obtain ⟨h1, h2, h3, h4, h5⟩ := h.sound a ha; exact ⟨h1, h2, h3, by omega, h5⟩
    whole := fun f j h1 h2 h3 => h.whole f j h1 h2 (by omega) }

theorem graphTo_found {n : NetL} {m : List Int} {most : Nat} (hm : 1 ≤ most) (hf : fitsL n m = true) : ∀ (k : Nat) {s : SpaceL}, graphTo n m most k = some s → Found n m most k 0 s := by
  intro k
  induction k with
  | zero => intro s e; injection e with e; subst e; exact Found.start hm hf
  | succ k ih =>
    intro s e
    simp only [graphTo, Option.bind_eq_some_iff] at e
    obtain ⟨s1, e1, e2⟩ := e
    have h1 := ih e1
    by_cases hk : k < s1.marks.length
    · rw [if_pos hk] at e2
      exact ((rowTo_found h1 hk _ (Nat.le_refl _) e2).1).next
    · rw [if_neg hk] at e2
      injection e2 with e2
      subst e2
      exact h1.past (by omega)

/-- All marks are found, and all firings. -/
def Whole (n : NetL) (m : List Int) (s : SpaceL) : Prop := ∃ most k, Found n m most k 0 s ∧ s.marks.length ≤ k

theorem graphL_ok {n : NetL} {m : List Int} {most : Int} {s : SpaceL} (h : graphL n m most = (s, 0)) : 1 ≤ most ∧ most ≤ 300 ∧ fitsL n m = true ∧ graphTo n m most.toNat most.toNat = some s ∧ Found n m most.toNat most.toNat 0 s := by
  unfold graphL at h
  cases ho : graphOk n m most
  · rw [ho] at h; simp at h
  · rw [ho] at h
    simp only [if_true] at h
    simp only [graphOk, Bool.and_eq_true, decide_eq_true_eq] at ho
    obtain ⟨⟨h1, h2⟩, h3⟩ := ho
    cases hg : graphTo n m most.toNat most.toNat with
    | none => rw [hg] at h; simp at h
    | some s' =>
      rw [hg] at h
      simp only [Prod.mk.injEq, and_true] at h
      subst h
      exact ⟨h1, h2, h3, rfl, graphTo_found (by omega) h3 _ hg⟩
theorem graphL_whole {n : NetL} {m : List Int} {most : Int} {s : SpaceL} (h : graphL n m most = (s, 0)) : Whole n m s := by
  obtain ⟨_, _, _, _, hF⟩ := graphL_ok h
  exact ⟨_, _, hF, hF.most_le⟩
theorem graphL_err {n : NetL} {m : List Int} {most : Int} (h : (graphL n m most).2 ≠ 0) : (graphL n m most).1 = ⟨[], []⟩ := by
  unfold graphL at *
  split
  · split
    · simp_all
    · rfl
  · rfl

/-- A firing from a mark that is there comes to one that is there; or it cannot be done. -/
theorem Whole.fire {n : NetL} {m : List Int} {s : SpaceL} (h : Whole n m s) {f : Nat} (hf : f < s.marks.length) (t : Int) :
    (fireL n (markAt s.marks f) t).2 = 3 ∨ ∃ (j : Nat) (g : Nat), t = j ∧ (⟨f, j, g⟩ : ArcL) ∈ s.arcs ∧ g < s.marks.length ∧ fireL n (markAt s.marks f) t = (markAt s.marks g, 0) := by
  obtain ⟨most, k, hF, hk⟩ := h
  by_cases ht : 0 ≤ t ∧ t < n.trans.length
  · obtain ⟨j, rfl⟩ := Int.eq_ofNat_of_zero_le ht.1
    rcases hF.whole f j hf (by omega) (by omega) with h3 | ⟨g, hg⟩
    · exact .inl h3
    · obtain ⟨_, q2, _, _, q5⟩ := hF.sound _ hg
      exact .inr ⟨j, g, rfl, hg, q2, q5⟩
  · left
    have hfit := hF.fits _ (markAt_mem hf)
    unfold fireL
    rw [hfit]
    have : (decide (0 ≤ t) && decide (t < n.trans.length)) = false := by
      rw [Bool.and_eq_false_iff, decide_eq_false_iff_not, decide_eq_false_iff_not]; omega
    rw [this]; simp

/-- Whoever is there goes nowhere else. -/
theorem Whole.run {n : NetL} {m : List Int} {s : SpaceL} (h : Whole n m s) (seq : List Int) : ∀ {f : Nat}, f < s.marks.length →
    (runL n (markAt s.marks f) seq).2 = 3 ∨ ∃ g, g < s.marks.length ∧ runL n (markAt s.marks f) seq = (markAt s.marks g, 0) := by
  induction seq with
  | nil =>
    intro f hf
    obtain ⟨most, k, hF, hk⟩ := h
    exact .inr ⟨f, hf, by rw [runL, hF.fits _ (markAt_mem hf)]; rfl⟩
  | cons t ts ih =>
    intro f hf
    have hfit : fitsL n (markAt s.marks f) = true := by obtain ⟨most, k, hF, hk⟩ := h; exact hF.fits _ (markAt_mem hf)
    rw [runL, hfit]
    rcases h.fire hf t with h3 | ⟨j, g, rfl, _, hg, e⟩
    · left; rw [h3]; simp
    · rw [e]
      simp only [BEq.rfl, if_true]
      exact ih hg
theorem Whole.here {n : NetL} {m : List Int} {s : SpaceL} (h : Whole n m s) : 0 < s.marks.length ∧ markAt s.marks 0 = m := by
  obtain ⟨most, k, hF, hk⟩ := h; exact ⟨hF.pos, hF.first⟩
theorem Whole.nodup {n : NetL} {m : List Int} {s : SpaceL} (h : Whole n m s) : s.marks.Nodup := by
  obtain ⟨most, k, hF, hk⟩ := h; exact hF.nodup
theorem markAt_inj {ms : List (List Int)} (h : ms.Nodup) {i j : Nat} (hi : i < ms.length) (hj : j < ms.length) (e : markAt ms i = markAt ms j) : i = j := by
  rw [markAt, markAt, List.getD_eq_getElem?_getD, List.getD_eq_getElem?_getD, List.getElem?_eq_getElem hi, List.getElem?_eq_getElem hj] at e
  have e' : ms[i] = ms[j] := by simpa using e
  have hp := List.pairwise_iff_getElem.1 h
  rcases Nat.lt_trichotomy i j with q | q | q
  · exact absurd e' (hp i j hi hj q)
  · exact q
  · exact absurd e'.symm (hp j i hj hi q)

/-- How far a mark is from the first one, and how it is come to. -/
def pathTo (l : List ArcL) : Nat → Nat → List Int
  | 0, _ => []
  | fuel + 1, g => if g = 0 then [] else match firstTo l g with
    | some a => pathTo l fuel a.frm ++ [(a.tran : Int)]
    | none => []
def pathL (s : SpaceL) (g : Nat) : List Int := pathTo s.arcs g g

theorem pathTo_enough {n : NetL} {m : List Int} {most k t : Nat} {s : SpaceL} (h : Found n m most k t s) : ∀ (f g : Nat), g ≤ f → g < s.marks.length → pathTo s.arcs f g = pathL s g := by
  intro f
  induction f using Nat.strongRecOn with
  | ind f ih =>
    intro g hgf hg
    unfold pathL
    cases g with
    | zero => cases f <;> rfl
    | succ g =>
      cases f with
      | zero => omega
      | succ f =>
        obtain ⟨a, h1, h2⟩ := h.par (g + 1) (by omega) hg
        simp only [pathTo, h1, Nat.add_eq_zero_iff, Nat.succ_ne_self, and_false, if_false]
        rw [ih f (by omega) a.frm (by omega) (by omega)]
        congr 1
        by_cases e : g = f
        · subst e; exact (ih g (by omega) a.frm (by omega) (by omega)).symm
        · exact (ih g (by omega) a.frm (by omega) (by omega)).symm

theorem pathL_zero (s : SpaceL) : pathL s 0 = [] := rfl
theorem pathL_step {n : NetL} {m : List Int} {most k t : Nat} {s : SpaceL} (h : Found n m most k t s) {g : Nat} (h0 : 0 < g) (hg : g < s.marks.length) {a : ArcL} (ha : firstTo s.arcs g = some a) :
    pathL s g = pathL s a.frm ++ [(a.tran : Int)] := by
  obtain ⟨a', h1, h2⟩ := h.par g h0 hg
  rw [ha] at h1
  injection h1 with h1
  subst h1
  unfold pathL
  cases g with
  | zero => omega
  | succ g =>
    simp only [pathTo, ha, Nat.add_eq_zero_iff, and_false, if_false, Nat.one_ne_zero]
    rw [pathTo_enough h g a.frm (by omega) (by omega)]
    rfl

/-- A path leads where it says. -/
theorem Whole.path {n : NetL} {m : List Int} {s : SpaceL} (h : Whole n m s) : ∀ g, g < s.marks.length → runL n m (pathL s g) = (markAt s.marks g, 0) := by
  have h' := h
  obtain ⟨most, k, hF, hk⟩ := h
  intro g
  induction g using Nat.strongRecOn with
  | ind g ih =>
    intro hg
    by_cases h0 : g = 0
    · subst h0
      rw [pathL_zero, hF.first, runL]
      have := hF.fits _ (markAt_mem hF.pos)
      rw [hF.first] at this
      rw [this]; rfl
    · obtain ⟨a, h1, h2⟩ := hF.par g (by omega) hg
      rw [pathL_step hF (by omega) hg h1, run_append, ih a.frm h2 (by omega)]
      simp only [BEq.rfl, if_true]
      obtain ⟨q1, q2, q3, q4, q5⟩ := hF.sound a (firstTo_mem h1).1
      rw [run_cons]
      refine ⟨_, q5, ?_⟩
      rw [(firstTo_mem h1).2, run_nil]
      exact ⟨hF.fits _ (markAt_mem hg), rfl⟩

theorem depth_mono {n : NetL} {m : List Int} {most k t : Nat} {s : SpaceL} (h : Found n m most k t s) : ∀ j, ∀ i, i ≤ j → j < s.marks.length → (pathL s i).length ≤ (pathL s j).length := by
  intro j
  induction j using Nat.strongRecOn with
  | ind j ih =>
    intro i hij hj
    by_cases h0 : i = 0
    · subst h0; simp [pathL_zero]
    · obtain ⟨a, h1, h2⟩ := h.par i (by omega) (by omega)
      obtain ⟨b, h3, h4⟩ := h.par j (by omega) hj
      rw [pathL_step h (by omega) (by omega) h1, pathL_step h (by omega) hj h3]
      simp only [List.length_append, List.length_singleton]
      have := ih b.frm h4 a.frm (h.mono i j a b (by omega) hij h1 h3 hj) (by omega)
      omega
theorem depth_arc {n : NetL} {m : List Int} {most k t : Nat} {s : SpaceL} (h : Found n m most k t s) {a : ArcL} (ha : a ∈ s.arcs) : (pathL s a.dst).length ≤ (pathL s a.frm).length + 1 := by
  obtain ⟨q1, q2, _, _, _⟩ := h.sound a ha
  by_cases h0 : a.dst = 0
  · rw [h0]; simp [pathL_zero]
  · obtain ⟨b, h1, h2⟩ := h.par a.dst (by omega) q2
    rw [pathL_step h (by omega) q2 h1]
    simp only [List.length_append, List.length_singleton]
    have := depth_mono h a.frm b.frm (h.early a b ha h1) q1
    omega

/-- No run that is shorter leads there. -/
theorem Whole.short {n : NetL} {m : List Int} {s : SpaceL} (h : Whole n m s) (seq : List Int) : ∀ {f g : Nat}, f < s.marks.length → g < s.marks.length → runL n (markAt s.marks f) seq = (markAt s.marks g, 0) →
    (pathL s g).length ≤ (pathL s f).length + seq.length := by
  induction seq with
  | nil =>
    intro f g hf hg e
    obtain ⟨_, e2⟩ := run_nil.1 e
    rw [markAt_inj h.nodup hg hf e2]
    simp
  | cons t ts ih =>
    intro f g hf hg e
    obtain ⟨x, e1, e2⟩ := run_cons.1 e
    rcases h.fire hf t with h3 | ⟨j, q, rfl, ha, hq, e3⟩
    · rw [e1] at h3; cases h3
    · rw [e1] at e3
      injection e3 with e3 _
      subst e3
      have h1 := ih hq hg e2
      obtain ⟨most, k, hF, hk⟩ := h
      have h2 := depth_arc hF ha
      simp only [List.length_cons] at *
      omega

end Go.Proofs.Ytgedpebnipghlaa

/- Plain facts on all marks that a net comes to: more room. -/
namespace Go.Proofs.Ytgedpebnipghlaa
set_option linter.unusedVariables false
set_option maxRecDepth 4000

theorem tryT_len {n : NetL} {most k t : Nat} {s s' : SpaceL} (e : tryT n most k s t = some s') : s.marks.length ≤ s'.marks.length := by
  unfold tryT at e
  split at e
  · injection e with e; subst e; exact Nat.le_refl _
  · split at e
    · split at e
      · injection e with e; subst e; exact Nat.le_refl _
      · split at e
        · cases e
        · injection e with e; subst e; simp
    · cases e

theorem try_cut {n : NetL} {most more k t : Nat} {s s' : SpaceL} (hl : s.marks.length ≤ more) (e : tryT n most k s t = some s') : tryT n more k s t = if s'.marks.length ≤ more then some s' else none := by
  unfold tryT at e ⊢
  split at e
  · rename_i h
    rw [if_pos h]
    injection e with e; subst e; rw [if_pos hl]
  · rename_i h
    rw [if_neg h]
    split at e
    · rename_i h2
      rw [if_pos h2]
      split at e
      · rename_i g hg
        injection e with e; subst e; rw [if_pos hl]
      · rename_i hg
        split at e
        · cases e
        · injection e with e
          subst e
          simp only [List.length_append, List.length_singleton]
          by_cases h3 : s.marks.length = more
          · rw [if_pos h3, if_neg (by omega)]
          · rw [if_neg h3, if_pos (by omega)]
    · cases e

theorem rowTo_len {n : NetL} {most k : Nat} {s : SpaceL} : ∀ (t : Nat) {s' : SpaceL}, rowTo n most k s t = some s' → s.marks.length ≤ s'.marks.length := by
  intro t
  induction t with
  | zero => intro s' e; injection e with e; subst e; exact Nat.le_refl _
  | succ t ih =>
    intro s' e
    simp only [rowTo, Option.bind_eq_some_iff] at e
    obtain ⟨s1, e1, e2⟩ := e
    exact Nat.le_trans (ih e1) (tryT_len e2)

theorem row_cut {n : NetL} {most more k : Nat} {s : SpaceL} (hl : s.marks.length ≤ more) : ∀ (t : Nat) {s' : SpaceL}, rowTo n most k s t = some s' → rowTo n more k s t = if s'.marks.length ≤ more then some s' else none := by
  intro t
  induction t with
  | zero => intro s' e; injection e with e; subst e; rw [if_pos hl]; rfl
  | succ t ih =>
    intro s' e
    simp only [rowTo, Option.bind_eq_some_iff] at e
    obtain ⟨s1, e1, e2⟩ := e
    rw [rowTo, ih e1]
    by_cases h1 : s1.marks.length ≤ more
    · rw [if_pos h1]; exact try_cut h1 e2
    · rw [if_neg h1, if_neg (by have := tryT_len e2; omega)]; rfl

theorem graph_cut {n : NetL} {m : List Int} {most more : Nat} (h1 : 1 ≤ more) : ∀ (k : Nat) {s : SpaceL}, graphTo n m most k = some s → graphTo n m more k = if s.marks.length ≤ more then some s else none := by
  intro k
  induction k with
  | zero => intro s e; injection e with e; subst e; rw [if_pos (by simpa using h1)]; rfl
  | succ k ih =>
    intro s e
    simp only [graphTo, Option.bind_eq_some_iff] at e
    obtain ⟨s1, e1, e2⟩ := e
    rw [graphTo, ih e1]
    by_cases hk : k < s1.marks.length
    · rw [if_pos hk] at e2
      by_cases h2 : s1.marks.length ≤ more
      · rw [if_pos h2]
        simp only [Option.bind_some, if_pos hk]
        exact row_cut h2 _ e2
      · rw [if_neg h2, if_neg (by have := rowTo_len _ e2; omega)]; rfl
    · rw [if_neg hk] at e2
      injection e2 with e2
      subst e2
      by_cases h2 : s1.marks.length ≤ more
      · rw [if_pos h2]
        simp only [Option.bind_some, if_neg hk]
      · rw [if_neg h2]; rfl

theorem graph_stable {n : NetL} {m : List Int} {b k : Nat} {s : SpaceL} (e : graphTo n m b k = some s) (hk : s.marks.length ≤ k) : ∀ j, graphTo n m b (k + j) = some s := by
  intro j
  induction j with
  | zero => exact e
  | succ j ih => rw [← Nat.add_assoc, graphTo, ih]; simp only [Option.bind_some]; rw [if_neg (by omega)]
theorem graph_before {n : NetL} {m : List Int} {b : Nat} : ∀ (j k : Nat) {s : SpaceL}, graphTo n m b (k + j) = some s → ∃ s', graphTo n m b k = some s' := by
  intro j
  induction j with
  | zero => intro k s e; exact ⟨s, e⟩
  | succ j ih =>
    intro k s e
    rw [← Nat.add_assoc, graphTo, Option.bind_eq_some_iff] at e
    obtain ⟨s1, e1, _⟩ := e
    exact ih k e1

/-- More room changes nothing, where there was enough; and there is enough just if there is room for all. -/
theorem graph_room {n : NetL} {m : List Int} {most more : Int} {s : SpaceL} (h : graphL n m most = (s, 0)) (h1 : 1 ≤ more) (h2 : more ≤ 300) :
    graphL n m more = if (s.marks.length : Int) ≤ more then (s, 0) else (⟨[], []⟩, 4) := by
  obtain ⟨m1, m2, hf, hg, hF⟩ := graphL_ok h
  have hcut := graph_cut (n := n) (m := m) (more := more.toNat) (by omega) _ hg
  have hle := hF.most_le
  unfold graphL
  have hok : graphOk n m more = true := by simp only [graphOk, Bool.and_eq_true, decide_eq_true_eq]; exact ⟨⟨h1, h2⟩, hf⟩
  rw [hok]
  simp only [if_true]
  have key : graphTo n m more.toNat more.toNat = if s.marks.length ≤ more.toNat then some s else none := by
    rcases Nat.lt_or_ge more.toNat most.toNat with q | q
    · cases hx : graphTo n m more.toNat more.toNat with
      | none =>
        by_cases hl : s.marks.length ≤ more.toNat
        · rw [if_pos hl] at hcut
          have e : most.toNat = more.toNat + (most.toNat - more.toNat) := by omega
          rw [e] at hcut
          obtain ⟨s', hs'⟩ := graph_before _ _ hcut
          rw [hx] at hs'; cases hs'
        · rw [if_neg hl]
      | some s' =>
        have hF' := graphTo_found (most := more.toNat) (by omega) hf _ hx
        have hst := graph_stable hx hF'.most_le (most.toNat - more.toNat)
        rw [show more.toNat + (most.toNat - more.toNat) = most.toNat by omega, hcut] at hst
        by_cases hl : s.marks.length ≤ more.toNat
        · rw [if_pos hl] at hst ⊢; exact hst.symm
        · rw [if_neg hl] at hst; cases hst
    · rw [if_pos (by omega)] at hcut ⊢
      have := graph_stable hcut hle (more.toNat - most.toNat)
      rw [show most.toNat + (more.toNat - most.toNat) = more.toNat by omega] at this
      exact this
  rw [key]
  by_cases hl : s.marks.length ≤ more.toNat
  · rw [if_pos hl, if_pos (by omega)]
  · rw [if_neg hl, if_neg (by omega)]

/-- What Path answers. -/
def reachL (n : NetL) (m goal : List Int) (most : Int) : List Int × Int :=
  if (graphL n m most).2 == 0 then
    match findM (graphL n m most).1.marks goal with
    | some g => (pathL (graphL n m most).1 g, 0)
    | none => ([], 3)
  else ([], (graphL n m most).2)

theorem findM_at {ms : List (List Int)} (h : ms.Nodup) {k : Nat} (hk : k < ms.length) : findM ms (markAt ms k) = some k := by
  cases hf : findM ms (markAt ms k) with
  | none => exact absurd (markAt_mem hk) (findM_none hf)
  | some g =>
    obtain ⟨hg, e⟩ := findM_some hf
    rw [markAt_inj h hg hk e]

/-- Each mark is come to by its path, and by no run that is shorter. -/
theorem reach_true {n : NetL} {m : List Int} {most : Int} {s : SpaceL} (h : graphL n m most = (s, 0)) {k : Nat} (hk : k < s.marks.length) :
    ∃ p, reachL n m (markAt s.marks k) most = (p, 0) ∧ runL n m p = (markAt s.marks k, 0) ∧ ∀ seq, runL n m seq = (markAt s.marks k, 0) → p.length ≤ seq.length := by
  have hW := graphL_whole h
  refine ⟨pathL s k, ?_, hW.path k hk, fun seq hs => ?_⟩
  · unfold reachL
    rw [h]
    simp only [BEq.rfl, if_true]
    rw [findM_at hW.nodup hk]
  · have e := hW.here
    have := hW.short seq (f := 0) (g := k) e.1 hk (by rw [e.2]; exact hs)
    rw [pathL_zero] at this
    simpa using this

end Go.Proofs.Ytgedpebnipghlaa

/- Plain words for what a space holds in memory. -/
namespace Go.Proofs.Ytgedpebnipghlaa
open Go.RowKit
set_option linter.unusedVariables false
set_option maxRecDepth 4000

/-- A slice of arcs: three numbers each. -/
def Arcs (w : World) (v : Value) (l : List (Int × Int × Int)) : Prop :=
  ∃ a len cap, v = .slice a len cap ∧ l.length = len ∧ len ≤ 5864062014805 ∧ Shape a len cap ∧
    ∀ j (hj : j < l.length), ∃ b off, a = some ⟨b, off, none⟩ ∧ b < w.heap.size ∧ w.cell? ⟨b, off + j * 3, none⟩ = some (.int .i64 l[j].1) ∧
      w.cell? ⟨b, off + j * 3 + 1, none⟩ = some (.int .i64 l[j].2.1) ∧ w.cell? ⟨b, off + j * 3 + 2, none⟩ = some (.int .i64 l[j].2.2)

theorem Arcs.below {w w' : World} {v : Value} {l : List (Int × Int × Int)} (h : Arcs w v l) (hb : Below w.heap.size w w') : Arcs w' v l := by
  obtain ⟨a, len, cap, e, hl, hm, hs, hr⟩ := h
  refine ⟨a, len, cap, e, hl, hm, hs, fun j hj => ?_⟩
  obtain ⟨b, off, ha, hlt, h0, h1, h2⟩ := hr j hj
  exact ⟨b, off, ha, Nat.lt_of_lt_of_le hlt hb.size, by rw [hb.cell (p := ⟨b, _, none⟩) hlt]; exact h0, by rw [hb.cell (p := ⟨b, _, none⟩) hlt]; exact h1, by rw [hb.cell (p := ⟨b, _, none⟩) hlt]; exact h2⟩

theorem Arcs.at {w : World} {a : Option Addr} {len cap : Nat} {l : List (Int × Int × Int)} (h : Arcs w (.slice a len cap) l) {k : Nat} (hk : k < l.length) :
    ∃ b off, a = some ⟨b, off, none⟩ ∧ b < w.heap.size ∧ w.cell? ⟨b, off + k * 3, none⟩ = some (.int .i64 l[k].1) ∧
      w.cell? ⟨b, off + k * 3 + 1, none⟩ = some (.int .i64 l[k].2.1) ∧ w.cell? ⟨b, off + k * 3 + 2, none⟩ = some (.int .i64 l[k].2.2) := by
  obtain ⟨a', len', cap', e, hl, hm, hs, hr⟩ := h
  injection e with e1 e2 e3
  subst e1 e2 e3
  exact hr k hk
theorem Arcs.slice {w : World} {v : Value} {l : List (Int × Int × Int)} (h : Arcs w v l) : ∃ a cap, v = .slice a l.length cap ∧ l.length ≤ 5864062014805 := by
  obtain ⟨a, len, cap, e, hl, hm, hs, hr⟩ := h
  exact ⟨a, cap, by rw [e, hl], by omega⟩

theorem Lists.at {w : World} {a : Option Addr} {len cap : Nat} {ls : List (List Int)} (h : Lists w (.slice a len cap) ls) {k : Nat} (hk : k < len) :
    ∃ b off u, a = some ⟨b, off, none⟩ ∧ b < w.heap.size ∧ w.cell? ⟨b, off + k, none⟩ = some u ∧ Ints w u (markAt ls k) := by
  obtain ⟨a', len', cap', e, hl, hm, hs, hr⟩ := h
  injection e with e1 e2 e3
  subst e1 e2 e3
  exact hr k (by omega)
theorem Lists.slice {w : World} {v : Value} {ls : List (List Int)} (h : Lists w v ls) : ∃ a cap, v = .slice a ls.length cap ∧ ls.length ≤ 17592186044416 ∧ Shape a ls.length cap := by
  obtain ⟨a, len, cap, e, hl, hm, hs, hr⟩ := h
  subst hl
  exact ⟨a, cap, e, hm, hs⟩

def arcZ (a : ArcL) : Int × Int × Int := (a.frm, a.tran, a.dst)

/-- A value that is this space. -/
def Space (w : World) (v : Value) (s : SpaceL) : Prop := ∃ mv av, v = .agg #[mv, av] ∧ Lists w mv s.marks ∧ Arcs w av (s.arcs.map arcZ)

theorem Space.below {w w' : World} {v : Value} {s : SpaceL} (h : Space w v s) (hb : Below w.heap.size w w') : Space w' v s := by
  obtain ⟨mv, av, e, h1, h2⟩ := h
  exact ⟨mv, av, e, h1.below hb, h2.below hb⟩

/-- What a call answers that explores, or tells what is wrong. -/
def GivesS (w : World) (p : SpaceL × Int) (e : Ending) (w' : World) : Prop := ∃ r, e = .returned (.tuple #[r, .int .i64 p.2]) ∧ Space w' r p.1 ∧ Below w.heap.size w w'

theorem graphL_code (n : NetL) (m : List Int) (most : Int) : (graphL n m most).2 = 0 ∨ (graphL n m most).2 = 2 ∨ (graphL n m most).2 = 4 := by
  unfold graphL
  split
  · split
    · exact .inl rfl
    · exact .inr (.inr rfl)
  · exact .inr (.inl rfl)

end Go.Proofs.Ytgedpebnipghlaa

/- Two spaces that are the same are told so. -/
namespace Go.Proofs.Ytgedpebnipghlaa
open Go.RowKit
set_option linter.unusedVariables false
set_option maxRecDepth 4000

theorem samelists1_any (v u : Value) (xs ys : List Int) (w : World) (hv : Ints w v xs) (hu : Ints w u ys) :
    Calls Try.prog 28 #[v, u] w fun e w' => e = .returned (.bool (xs == ys)) ∧ Below w.heap.size w w' := by
  go_enter Try.func28, Try.ntmps28
  go_wp2_with fail
  refine (equal_b _ _ xs ys _ (by exact hv) (by exact hu)).mono ?_
  rintro e w1 ⟨rfl, b⟩
  go_wp2
  go_ret
  exact ⟨rfl, b⟩

set_option maxHeartbeats 1000000 in
theorem eqlists_same (v u : Value) (ls : List (List Int)) (w : World) (hv : Lists w v ls) (hu : Lists w u ls) :
    Calls Try.prog 27 #[v, u, .func (.func 28) #[] #[]] w fun e w' => e = .returned (.bool true) ∧ Below w.heap.size w w' := by
  obtain ⟨a, ca, rfl, hla, _⟩ := hv.slice
  obtain ⟨b, cb, rfl, hlb, _⟩ := hu.slice
  generalize hlen : ls.length = len at *
  have e1 : (((len : Nat) : Int) != (len : Int)) = false := by simp
  have q26 := Try.call28
  go_enter Try.func27, Try.ntmps27
  go_wp2_with fail
  go_loopg [17] len (fun g i wr => ∃ k : Nat, k + g = len ∧ i = .int .i64 k ∧ Below w.heap.size w wr)
  case atStart => exact ⟨0, by omega, rfl, Below.refl _ _⟩
  case round =>
    obtain ⟨k, hkg, rfl, hb⟩ := hrel
    by_cases hkn : k < len
    · obtain ⟨b1, o1, u1, rfl, _, c1, i1⟩ := (hv.below hb).at hkn
      obtain ⟨b2, o2, u2, rfl, _, c2, i2⟩ := (hu.below hb).at hkn
      go_wp2_with fail
      refine (samelists1_any _ _ _ _ _ (by exact i1) (by exact i2)).mono ?_
      rintro e w2 ⟨rfl, b'⟩
      rw [beq_self_eq_true]
      have R := below_then hb b'
      clear b' hb i1 i2 c1 c2
      go_wp2
      go_roundg (gk - 1)
      case measure => omega
      case rel => exact ⟨k + 1, by omega, by go_num, R⟩
    · go_wp2
      go_ret
      exact ⟨rfl, hb⟩

theorem samelists_same (v u : Value) (ls : List (List Int)) (w : World) (hv : Lists w v ls) (hu : Lists w u ls) :
    Calls Try.prog 10 #[v, u] w fun e w' => e = .returned (.bool true) ∧ Below w.heap.size w w' := by
  go_enter Try.func10, Try.ntmps10
  go_wp2_with fail
  refine (eqlists_same _ _ ls _ (by exact hv) (by exact hu)).mono ?_
  rintro e w1 ⟨rfl, b⟩
  go_wp2
  go_ret
  exact ⟨rfl, b⟩

end Go.Proofs.Ytgedpebnipghlaa

/- Where a search breaks off; how many can be different. -/
namespace Go.Proofs.Ytgedpebnipghlaa
set_option linter.unusedVariables false
set_option maxRecDepth 4000

theorem row_broke {n : NetL} {m : List Int} {most k : Nat} {s : SpaceL} (h : Found n m most k 0 s) (hk : k < s.marks.length) : ∀ (t : Nat), t ≤ n.trans.length → rowTo n most k s t = none →
    ∃ j s', j < n.trans.length ∧ Found n m most k j s' ∧ k < s'.marks.length ∧ tryT n most k s' j = none
  | 0, _, e => by simp [rowTo] at e
  | t + 1, ht, e => by
    rw [rowTo] at e
    cases e1 : rowTo n most k s t with
    | none => exact row_broke h hk t (by omega) e1
    | some s1 =>
      rw [e1] at e
      obtain ⟨g1, l1⟩ := rowTo_found h hk t (by omega) e1
      exact ⟨t, s1, by omega, g1, Nat.lt_of_lt_of_le hk l1.le, e⟩
theorem graph_broke {n : NetL} {m : List Int} {most : Nat} (hm : 1 ≤ most) (hf : fitsL n m = true) : ∀ (k : Nat), graphTo n m most k = none →
    ∃ f j s', j < n.trans.length ∧ Found n m most f j s' ∧ f < s'.marks.length ∧ tryT n most f s' j = none
  | 0, e => by simp [graphTo] at e
  | k + 1, e => by
    rw [graphTo] at e
    cases e1 : graphTo n m most k with
    | none => exact graph_broke hm hf k e1
    | some s1 =>
      rw [e1] at e
      simp only [Option.bind_some] at e
      split at e
      · rename_i hk
        obtain ⟨j, s', q1, q2, q3, q4⟩ := row_broke (graphTo_found hm hf k e1) hk _ (Nat.le_refl _) e
        exact ⟨k, j, s', q1, q2, q3, q4⟩
      · cases e

theorem nodup_sub {l1 : List (List Int)} : ∀ {l2 : List (List Int)}, l1.Nodup → (∀ x ∈ l1, x ∈ l2) → l1.length ≤ l2.length := by
  induction l1 with
  | nil => intro l2 _ _; simp
  | cons a l ih =>
    intro l2 hn hs
    rw [List.nodup_cons] at hn
    have ha := hs a (by simp)
    have := ih (l2 := l2.erase a) hn.2 fun x hx => (List.mem_erase_of_ne (fun (e : x = a) => hn.1 (e ▸ hx))).2 (hs x (by simp [hx]))
    rw [List.length_erase_of_mem ha] at this
    have := List.length_pos_of_mem ha
    simp; omega

theorem graphOk_300 {n : NetL} {m : List Int} (hf : fitsL n m = true) : graphOk n m 300 = true := by simp [graphOk, hf]

end Go.Proofs.Ytgedpebnipghlaa
