/- The answers of the document itself for nets. -/
import Derived.Test.YteeogdihaajicaaDoorNetBase
import Derived.Test.YteeogdihaajicaaDoorBoxes
import Derived.Test.YteeogdihaajicaaDoorSlices1
import Derived.Test.YteeogdihaajicaaDoorMark2
import Derived.Deep.DeepCutAuto
namespace Go.Proofs.YteeogdihaajicaaDoor
open Go.RowKit
set_option linter.unusedVariables false
set_option maxRecDepth 4000

def weightOk (x : Int) : Bool := decide (0 ≤ x) && decide (x ≤ 9)
def tranHead (p : Int) (t : TranL) : Bool := decide (0 ≤ t.label) && decide (t.label ≤ 26) && ((t.pre.length : Int) == p) && ((t.post.length : Int) == p)
def tranOk (p : Int) (t : TranL) : Bool := tranHead p t && (t.pre ++ t.post).all weightOk
def headOk (n : NetL) : Bool := decide (0 ≤ n.places) && decide (n.places ≤ 16) && decide (n.trans.length ≤ 24)
def okTo (n : NetL) (k : Nat) : Bool := headOk n && (n.trans.take k).all (tranOk n.places)
def netOk (n : NetL) : Bool := headOk n && n.trans.all (tranOk n.places)
def wrongL (n : NetL) : Int := if netOk n then 0 else 2

theorem okTo_succ (n : NetL) (k : Nat) (h : k < n.trans.length) : okTo n (k + 1) = (okTo n k && tranOk n.places (tranAt n.trans k)) := by
  unfold okTo
  rw [List.take_succ_eq_append_getElem h, List.all_append]
  simp [tranAt, List.getD, List.getElem?_eq_getElem h, Bool.and_assoc]
theorem okTo_all (n : NetL) (k : Nat) (h : n.trans.length ≤ k) : okTo n k = netOk n := by
  unfold okTo netOk; rw [List.take_of_length_le h]


/-- All of the first j are weights. -/
def weighTo (zs : List Int) (j : Nat) : Bool := (zs.take j).all weightOk
theorem weighTo_succ (zs : List Int) (j : Nat) (h : j < zs.length) : weighTo zs (j + 1) = (weighTo zs j && weightOk (nth zs j)) := by
  unfold weighTo
  rw [List.take_succ_eq_append_getElem h, List.all_append]
  simp [nth, List.getD, List.getElem?_eq_getElem h]
theorem weighTo_all (zs : List Int) (j : Nat) (h : zs.length ≤ j) : weighTo zs j = zs.all weightOk := by
  unfold weighTo; rw [List.take_of_length_le h]

set_option maxHeartbeats 1000000 in
theorem bwrong_any (v : Value) (n : NetL) (w : World) (hv : Net w v n) (hsm : SmallNet n) :
    Calls Tryd.prog 19 #[v] w fun e w' => e = .returned (.int .i64 (wrongL n)) ∧ Below w.heap.size w w' := by
  obtain ⟨tv, rfl, hT⟩ := hv
  have b1 := below_new w (.cells #[.int .i64 n.places, tv] 24)
  have hT1 := hT.below b1
  have hbx := box2_new w (.int .i64 n.places) tv 24
  obtain ⟨a, len, cap, rfl, hlen, hmx, hsh, hr⟩ := hT
  have Hsm : Hid (SmallNet n) := hsm
  clear hsm hr
  go_enter Tryd.func19, Tryd.ntmps19
  go_upto_region 1 with fail
  go_cut [3] (fun o wc => o = .bool (headOk n) ∧ Below w.heap.size w wc ∧ Trans wc (.slice a len cap) n.trans ∧ Box2 wc w.heap.size (.int .i64 n.places) (.slice a len cap))
  case first =>
    go_wp2_with fail
    all_goals go_meet
    all_goals refine ⟨?_, b1, hT1, hbx⟩
    all_goals simp [headOk, *]
    all_goals omega
  case rest =>
    clear b1 hT1 hbx
    obtain ⟨rfl, b1, hT1, hbx⟩ := hcut
    obtain ⟨w0, rfl⟩ : ∃ w0, w0 = wc := ⟨_, rfl⟩
    have hbx0 := hbx
    obtain ⟨hx0, hx1, hx2⟩ := hbx
    go_wp2_with fail
    clear hx0 hx1 hx2
    go_loopg [3, 25] len (fun g o i wr => ∃ k : Nat, k + g = len ∧ i = .int .i64 k ∧ o = .bool (okTo n k) ∧ Below w0.heap.size w0 wr)
    case atStart => exact ⟨0, by omega, rfl, by simp [okTo], Below.refl _ _⟩
    case round =>
      obtain ⟨k, hkg, rfl, rfl, hb⟩ := hrel
      have hT2 := hT1.below hb
      have hb2 := hbx0.below hb
      by_cases hkn : k < len
      · obtain ⟨b, off, c1, c2, rfl, hblt, h0, h1, h2, i1, i2⟩ := hT2.at hkn
        have j1 := i1
        have j2 := i2
        obtain ⟨a1, l1, p1, rfl, hl1, hm1, hs1, hr1⟩ := i1
        obtain ⟨a2, l2, p2, rfl, hl2, hm2, hs2, hr2⟩ := i2
        obtain ⟨hx0, hx1, hx2⟩ := hb2
        have Hok : Hid _ := okTo_succ n k (by omega)
        have Hth : Hid (tranHead n.places (tranAt n.trans k) = (decide (0 ≤ (tranAt n.trans k).label) && decide ((tranAt n.trans k).label ≤ 26) && ((l1 : Int) == n.places) && ((l2 : Int) == n.places))) := by
          show _ = _; unfold tranHead; rw [hl1, hl2]
        clear hr1 hr2 hT2
        have hsmt := Hsm.out k (by omega)
        generalize tranAt n.trans k = t at *
        generalize okTo n k = okk at *
        go_upto_region 5 with fail
        go_cut [3] (fun o wd => o = .bool (okk && tranHead n.places t) ∧ wd = wr.alloc (.cells #[.int .i64 t.label, .slice a1 l1 p1, .slice a2 l2 p2] 43))
        case first =>
          cases okk
          · go_wp2_with fail
            go_meet
            exact ⟨rfl, rfl⟩
          by_cases q1 : 0 ≤ t.label
          case neg =>
            have F : Hid (tranHead n.places t = false) := by show _ = _; rw [Hth.out]; rw [decide_eq_false q1]; rfl
            go_wp2_with fail
            go_meet
            exact ⟨by rw [F.out]; rfl, rfl⟩
          by_cases q2 : t.label ≤ 26
          case neg =>
            have F : Hid (tranHead n.places t = false) := by show _ = _; rw [Hth.out]; rw [decide_eq_false q2]; simp
            go_wp2_with fail
            go_meet
            exact ⟨by rw [F.out]; rfl, rfl⟩
          cases q3 : ((l1 : Int) == n.places)
          case false =>
            have F : Hid (tranHead n.places t = false) := by show _ = _; rw [Hth.out]; rw [q3]; simp
            go_wp2_with fail
            go_meet
            exact ⟨by rw [F.out]; rfl, rfl⟩
          cases q4 : ((l2 : Int) == n.places)
          case false =>
            have F : Hid (tranHead n.places t = false) := by show _ = _; rw [Hth.out]; rw [q4]; simp
            go_wp2_with fail
            go_meet
            exact ⟨by rw [F.out]; rfl, rfl⟩
          case true =>
            have F : Hid (tranHead n.places t = true) := by show _ = _; rw [Hth.out]; rw [q3, q4, decide_eq_true q1, decide_eq_true q2]; rfl
            go_wp2_with fail
            go_meet
            exact ⟨by rw [F.out]; rfl, rfl⟩
        case rest =>
          obtain ⟨rfl, hwd⟩ := hcut
          obtain ⟨wd, rfl⟩ : ∃ wd, wd = wc := ⟨_, rfl⟩
          have e1 := below_new wr (.cells #[.int .i64 t.label, .slice a1 l1 p1, .slice a2 l2 p2] 43)
          have hbd : Below wr.heap.size wr wd := by rw [hwd]; exact e1
          have hc1 : wd.cell? ⟨wr.heap.size, 1, none⟩ = some (.slice a1 l1 p1) := by rw [hwd, World.cell?_alloc_at _ _ _ _ rfl]; rfl
          have hc2 : wd.cell? ⟨wr.heap.size, 2, none⟩ = some (.slice a2 l2 p2) := by rw [hwd, World.cell?_alloc_at _ _ _ _ rfl]; rfl
          clear e1 hwd h0 h1 h2
          have j1 := j1.below hbd
          have j2 := j2.below hbd
          have Hok2 : Hid (okTo n (k + 1) = ((okk && tranHead n.places t) && (t.pre ++ t.post).all weightOk)) := by
            show _ = _; rw [Hok.out, tranOk, Bool.and_assoc]
          obtain ⟨okA, HA⟩ : ∃ okA, Hid ((okk && tranHead n.places t) = okA) := ⟨_, rfl⟩
          rw [HA.out] at Hok2
          rw [HA.out]
          clear Hok HA
          go_wp2_with fail
          refine (concat_any _ [t.pre, t.post] _ (by exact lists_lit2 wd _ _ _ _ _ _ j1 j2 rfl) (by simpa using hsmt)).mono ?_
          rintro e w2 ⟨r, rfl, hR, hbe⟩
          have hbw : Below w0.heap.size w0 w2 := (below_then hb (below_then hbd (below_then (below_new _ _) hbe)))
          have hR2 : Ints w2 r (t.pre ++ t.post) := by simpa using hR
          clear hR hbe hbd hc1 hc2 j1 j2 hb hx0 hx1 hx2
          generalize t.pre ++ t.post = zs at *
          obtain ⟨ar, lr, cr, rfl, hlr, hmr, hsr, hrr⟩ := hR2
          go_wp2_with fail
          go_loop [3, 63] (fun o i => ∃ j : Nat, j ≤ lr ∧ i = .int .i64 j ∧ o = .bool (okA && weighTo zs j)) (fun _ i => lr - (intOf i).toNat)
          case atStart => exact ⟨0, Nat.zero_le _, rfl, by simp [weighTo]⟩
          case round =>
            obtain ⟨j, hj, rfl, rfl⟩ := hrel
            by_cases hjn : j < lr
            · obtain ⟨bq, oq, rfl, hbq, hcq⟩ := hrr j (by omega)
              have hst := weighTo_succ zs j (by omega)
              cases hA : (okA && weighTo zs j)
              · have Hs : Hid ((okA && weighTo zs (j + 1)) = false) := by show _ = _; rw [hst, ← Bool.and_assoc, hA]; rfl
                clear hst hA hrr
                go_wp2
                go_round
                case rel => exact ⟨j + 1, by omega, by go_num, by rw [Hs.out]⟩
                case measure => simp [intOf]; omega
              · have Hs : Hid ((okA && weighTo zs (j + 1)) = weightOk (nth zs j)) := by show _ = _; rw [hst, ← Bool.and_assoc, hA]; rfl
                clear hst hA hrr
                by_cases q1 : 0 ≤ nth zs j
                · by_cases q2 : nth zs j ≤ 9
                  · go_wp2
                    go_round
                    case rel => exact ⟨j + 1, by omega, by go_num, by rw [Hs.out]; simp [weightOk, q1, q2]⟩
                    case measure => simp [intOf]; omega
                  · go_wp2
                    go_round
                    case rel => exact ⟨j + 1, by omega, by go_num, by rw [Hs.out]; simp [weightOk]; omega⟩
                    case measure => simp [intOf]; omega
                · go_wp2
                  go_round
                  case rel => exact ⟨j + 1, by omega, by go_num, by rw [Hs.out]; simp [weightOk]; omega⟩
                  case measure => simp [intOf]; omega
            · have Hw : Hid (okTo n (k + 1) = (okA && weighTo zs j)) := by show _ = _; rw [Hok2.out, weighTo_all zs j (by omega)]
              clear hrr
              go_wp2
              go_roundg (gk - 1)
              case measure => omega
              case rel => exact ⟨k + 1, by omega, by go_num, by rw [Hw.out], hbw⟩
      · have hfin := okTo_all n k (by omega)
        rw [hfin]
        clear hfin hT2 hb2
        cases hno : netOk n
        · have Hw : Hid (wrongL n = 2) := by show _ = _; simp [wrongL, hno]
          clear hno
          go_wp2
          go_ret
          exact ⟨ret_int Hw.out.symm, below_then b1 hb⟩
        · have Hw : Hid (wrongL n = 0) := by show _ = _; simp [wrongL, hno]
          clear hno
          go_wp2
          go_ret
          exact ⟨ret_int Hw.out.symm, below_then b1 hb⟩

end Go.Proofs.YteeogdihaajicaaDoor
