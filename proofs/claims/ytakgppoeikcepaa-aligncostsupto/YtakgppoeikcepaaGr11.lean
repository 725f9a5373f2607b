import Derived.Test.YtakgppoeikcepaaGr06
import Derived.Test.YtakgppoeikcepaaGr04
/- The answers of the document itself for shape: what is behind a place, walked. -/
namespace Go.Proofs.Ytakgppoeikcepaa
open Go.RowKit
set_option linter.unusedVariables false
set_option maxRecDepth 4000

/-- A row of yes and no. -/
def BoolsV (w : World) (v : Value) (n : Nat) (f : Nat → Bool) : Prop := ∃ B, v = .slice (some ⟨B, 0, none⟩) n n ∧ B < w.heap.size ∧ ∀ j, j < n → w.cell? ⟨B, j, none⟩ = some (.bool (f j))
theorem BoolsV.below {w w' : World} {v : Value} {n : Nat} {f : Nat → Bool} (h : BoolsV w v n f) (hb : Below w.heap.size w w') : BoolsV w' v n f := by
  obtain ⟨B, e, hlt, hc⟩ := h
  exact ⟨B, e, Nat.lt_of_lt_of_le hlt hb.size, fun j hj => (hb.cell (p := ⟨B, j, none⟩) hlt).trans (hc j hj)⟩

theorem lead_succ (ps : Nat → Bool) (w : List Int) (b : Bool) (j : Nat) : leadTo ps w b (j + 1) = (leadTo ps w b j || (ps j && decide (0 < nth w j))) := rfl
theorem feed_at (ps : Nat → Bool) (w : List Int) (b : Bool) (j : Nat) : feedTo ps w b (j + 1) j = (ps j || (b && decide (0 < nth w j))) := by unfold feedTo; simp
theorem feed_other (ps : Nat → Bool) (w : List Int) (b : Bool) (j q : Nat) (h : q ≠ j) : feedTo ps w b (j + 1) q = feedTo ps w b j q := by
  unfold feedTo
  have : decide (q < j + 1) = decide (q < j) := by rw [decide_eq_decide]; omega
  rw [this]
theorem feed_self (ps : Nat → Bool) (w : List Int) (b : Bool) (j : Nat) : feedTo ps w b j j = ps j := by unfold feedTo; simp
theorem feed_zero (ps : Nat → Bool) (w : List Int) (b : Bool) : feedTo ps w b 0 = ps := by funext q; simp [feedTo]
theorem set_self (ts : Nat → Bool) (k : Nat) : setAt ts k (ts k) = ts := by funext j; unfold setAt; split <;> simp_all
theorem set_same (ts : Nat → Bool) (k : Nat) (b : Bool) : setAt ts k b k = b := by unfold setAt; simp
theorem set_diff (ts : Nat → Bool) (k j : Nat) (b c : Bool) (h : j ≠ k) : setAt ts k b j = setAt ts k c j := by unfold setAt; simp [h]

set_option maxRecDepth 8000 in
set_option maxHeartbeats 4000000 in
theorem hways_any (v : Value) (n : NetL) (f : Nat) (w : World) (hv : Net w v n) (hn : netOk n = true) (hf : (f : Int) < n.places) :
    Calls Try.prog 55 #[v, .int .i64 (f : Int)] w fun e w' => ∃ a b, e = .returned (.tuple #[a, b]) ∧ (BoolsV w' a n.places.toNat (waysL n f).ps ∧ BoolsV w' b n.trans.length (waysL n f).ts) ∧ Below w.heap.size w w' := by
  obtain ⟨tv, rfl, hT⟩ := hv
  obtain ⟨h0, h16, h24⟩ := head_of hn
  obtain ⟨P, hP⟩ := Int.eq_ofNat_of_zero_le h0
  obtain ⟨w0, Hw0⟩ : ∃ w0, Hid (w.alloc (.cells #[.int .i64 n.places, tv] 24) = w0) := ⟨_, rfl⟩
  have c : Below w.heap.size w w0 := by rw [← Hw0.out]; exact below_new _ _
  have hbx : Box2 w0 w.heap.size (.int .i64 n.places) tv := by rw [← Hw0.out]; exact box2_new w _ tv 24
  replace hT := hT.below c
  have HPr : Hid (n.places = (P : Int)) := hP
  have hPn : n.places.toNat = P := by omega
  have HLn : Hid (∀ k, k < n.trans.length → (tranAt n.trans k).pre.length = P ∧ (tranAt n.trans k).post.length = P) := fun k hk => by have := tran_length hn hk; omega
  rw [hPn]
  rw [hP] at hbx Hw0 h16 hf ⊢
  clear hn h0 hP
  obtain ⟨a, T, cap, rfl, hlen, hmx, hsh, _⟩ := id hT
  rw [hlen] at HLn h24 ⊢
  have HW : Hid (waysL n f = waysTo n f (P + T)) := by show _ = _; unfold waysL; rw [hPn, hlen]
  have HR : Hid (∀ r, waysTo n f (r + 1) = roundWay n (waysTo n f r) T) := fun r => by show roundWay n _ n.trans.length = _; rw [hlen]
  have HTr : Hid (∀ s k, roundWay n s (k + 1) = ⟨feedTo (roundWay n s k).ps (tranAt n.trans k).post (leadTo (roundWay n s k).ps (tranAt n.trans k).pre ((roundWay n s k).ts k) P) P, setAt (roundWay n s k).ts k (leadTo (roundWay n s k).ps (tranAt n.trans k).pre ((roundWay n s k).ts k) P)⟩) := fun s k => by
    show tranWay n (roundWay n s k) k = _
    unfold tranWay
    rw [hPn]
  rw [HW.out]
  clear hPn
  have hd : Below w0.heap.size w0 w0.drew := (Below.refl _ _).drew
  obtain ⟨wa, ha1, ha2, ha3, ha4⟩ := make_flags w0.drew P (by omega)
  obtain ⟨wb, hb1, hb2, hb3, hb4⟩ := make_flags wa T (by omega)
  obtain ⟨wc', hc1, hc2, hc3, hc4⟩ := make_flags w0.drew T (by omega)
  obtain ⟨wd, hd1, hd2, hd3, hd4⟩ := make_flags wc' P (by omega)
  obtain ⟨x0, x1, x2⟩ := id hbx
  have y1 : w0.drew.cell? ⟨w.heap.size, 0, none⟩ = some (.int .i64 (P : Int)) := by simpa using x1
  have y2 : w0.drew.cell? ⟨w.heap.size, 1, none⟩ = some (.slice a T cap) := by simpa using x2
  have y1a := (ha2.cell (p := ⟨w.heap.size, 0, none⟩) x0).trans y1
  have y2a := (ha2.cell (p := ⟨w.heap.size, 1, none⟩) x0).trans y2
  have y1c := (hc2.cell (p := ⟨w.heap.size, 0, none⟩) x0).trans y1
  have y2c := (hc2.cell (p := ⟨w.heap.size, 1, none⟩) x0).trans y2
  have es : w0.drew.heap.size = w0.heap.size := rfl
  rw [es] at ha1 ha2 ha3 ha4 hc1 hc2 hc3 hc4
  have A1 : Hid (∃ B1 B2, (.slice (some ⟨w0.heap.size, 0, none⟩) P P : Value) = .slice (some ⟨B1, 0, none⟩) P P ∧ (.slice (some ⟨wa.heap.size, 0, none⟩) T T : Value) = .slice (some ⟨B2, 0, none⟩) T T ∧ B1 ≠ B2 ∧ w0.heap.size ≤ B1 ∧ w0.heap.size ≤ B2 ∧ WaysAt w0 B1 B2 P T wb ⟨fun _ => false, fun _ => false⟩) :=
    ⟨_, _, rfl, rfl, by omega, Nat.le_refl _, by omega, ha4.below hb2, hb4, below_then (below_then hd ha2) hb2⟩
  have A2 : Hid (∃ B1 B2, (.slice (some ⟨wc'.heap.size, 0, none⟩) P P : Value) = .slice (some ⟨B1, 0, none⟩) P P ∧ (.slice (some ⟨w0.heap.size, 0, none⟩) T T : Value) = .slice (some ⟨B2, 0, none⟩) T T ∧ B1 ≠ B2 ∧ w0.heap.size ≤ B1 ∧ w0.heap.size ≤ B2 ∧ WaysAt w0 B1 B2 P T wd ⟨fun _ => false, fun _ => false⟩) :=
    ⟨_, _, rfl, rfl, by omega, by omega, Nat.le_refl _, hd4, hc4.below hd2, below_then (below_then hd hc2) hd2⟩
  clear ha2 ha3 ha4 hb2 hb3 hb4 hc2 hc3 hc4 hd2 hd3 hd4
  go_enter Try.func55, Try.ntmps55
  go_upto_region 1 with fail
  rw [Hw0.out]
  clear Hw0
  go_cut [6, 7] (fun p q wc => ∃ B1 B2, p = .slice (some ⟨B1, 0, none⟩) P P ∧ q = .slice (some ⟨B2, 0, none⟩) T T ∧ B1 ≠ B2 ∧ w0.heap.size ≤ B1 ∧ w0.heap.size ≤ B2 ∧ WaysAt w0 B1 B2 P T wc ⟨fun _ => false, fun _ => false⟩)
  case first =>
    go_region
    all_goals
      clear y1 y2 y1a y2a y1c y2c ha1 hb1 hc1 hd1
      go_wp2_with fail
      go_meet
      first | exact A1.out | exact A2.out
  case rest =>
    clear A1 A2 y1 y2 y1a y2a y1c y2c ha1 hb1 hc1 hd1 x0 x1 x2
    obtain ⟨B1, B2, rfl, rfl, hne, hB1, hB2, hA⟩ := hcut
    obtain ⟨w1, rfl⟩ : ∃ w1, w1 = wc := ⟨_, rfl⟩
    have hPt : f < P := by omega
    have hS : Hid (WaysAt w0 B1 B2 P T (w1.setCell ⟨B1, f, none⟩ (.bool true)) (waysTo n f 0)) :=
      hA.putP (g := fun q => decide (q = f)) hne hB1 hPt (decide_eq_true rfl) (fun j hj => decide_eq_false hj)
    have g1 := hA.ps.cells f hPt
    have g2 := hA.ps.frozen f hPt
    have hbx1 := hbx.below hA.below
    have hbx2 : Box2 (w1.setCell ⟨B1, f, none⟩ (.bool true)) w.heap.size (.int .i64 (P : Int)) (.slice a T cap) := by
      have := (hbx.below hS.out.below)
      exact this
    obtain ⟨w2, Hw2⟩ : ∃ w2, Hid (w1.setCell ⟨B1, f, none⟩ (.bool true) = w2) := ⟨_, rfl⟩
    rw [Hw2.out] at hS hbx2
    obtain ⟨z0, z1, z2⟩ := id hbx2
    go_upto_region 3 with fail
    rw [Hw2.out]
    clear Hw2 g1 g2 hA hbx1
    go_wp2_with fail
    clear z0 z1 z2 hbx2
    go_loopg [28] (P + T) (fun g i wr => ∃ r : Nat, r + g = P + T ∧ i = .int .i64 r ∧ WaysAt w0 B1 B2 P T wr (waysTo n f r))
    case atStart => exact ⟨0, by omega, rfl, hS.out⟩
    case round =>
      clear hS
      obtain ⟨r, hrg, rfl, hA⟩ := hrel
      obtain ⟨G, hGk⟩ : ∃ G, G = gk := ⟨_, rfl⟩
      obtain ⟨WR, hWR⟩ : ∃ WR, WR = wr := ⟨_, rfl⟩
      subst hGk hWR
      have Hr : Hid _ := HR.out r
      obtain ⟨s, Hs⟩ : ∃ s, Hid (waysTo n f r = s) := ⟨_, rfl⟩
      rw [Hs.out] at hA Hr
      by_cases hrn : r < P + T
      · have hbxr := hbx.below hA.below
        obtain ⟨z0, z1, z2⟩ := id hbxr
        go_wp2_with fail
        clear z0 z1 z2 hbxr
        have A0 : Hid (WaysAt w0 B1 B2 P T WR (roundWay n s 0)) := hA
        go_loopg [33] T (fun g i wr => ∃ k : Nat, k + g = T ∧ i = .int .i64 k ∧ WaysAt w0 B1 B2 P T wr (roundWay n s k))
        case atStart => exact ⟨0, by omega, rfl, A0.out⟩
        case round =>
          clear A0 hA
          obtain ⟨k, hkg, rfl, hA⟩ := hrel
          obtain ⟨G2, hGk2⟩ : ∃ G2, G2 = gk := ⟨_, rfl⟩
          obtain ⟨W, hW⟩ : ∃ W, W = wr := ⟨_, rfl⟩
          subst hGk2 hW
          by_cases hkn : k < T
          · obtain ⟨b, off, c1, c2, rfl, hblt, h0, h1, h2, i1, i2⟩ := hT.at hkn
            obtain ⟨a1, l1, p1, rfl, hl1, _, _, hr1⟩ := i1
            obtain ⟨a2, l2, p2, rfl, hl2, _, _, hr2⟩ := i2
            obtain ⟨q1, q2⟩ := HLn.out k hkn
            obtain rfl : P = l1 := by omega
            obtain rfl : P = l2 := by omega
            have HT2 : Hid _ := HTr.out s k
            obtain ⟨u, Hu⟩ : ∃ u, Hid (roundWay n s k = u) := ⟨_, rfl⟩
            rw [Hu.out] at hA HT2
            clear Hu
            replace h0 := (hA.below.cell (p := ⟨b, off + k * 3, none⟩) hblt).trans h0
            replace h1 := (hA.below.cell (p := ⟨b, off + k * 3 + 1, none⟩) hblt).trans h1
            replace h2 := (hA.below.cell (p := ⟨b, off + k * 3 + 2, none⟩) hblt).trans h2
            generalize tranAt n.trans k = t at *
            have hBW1 := hA.ps.lt
            have hBW2 := hA.ts.lt
            obtain ⟨wt, Hwt⟩ : ∃ wt, Hid (W.alloc (.cells #[.int .i64 t.label, .slice a1 P p1, .slice a2 P p2] 37) = wt) := ⟨_, rfl⟩
            have hbn := below_new W (.cells #[.int .i64 t.label, .slice a1 P p1, .slice a2 P p2] 37)
            have hbx3 := box3_new W (.int .i64 t.label) (.slice a1 P p1) (.slice a2 P p2) 37
            rw [Hwt.out] at hbn hbx3
            have E0 : Hid (WaysAt w0 B1 B2 P T wt ⟨u.ps, setAt u.ts k (leadTo u.ps t.pre (u.ts k) 0)⟩) := by
              show WaysAt _ _ _ _ _ _ _
              have e : setAt u.ts k (leadTo u.ps t.pre (u.ts k) 0) = u.ts := set_self _ _
              rw [e]
              exact hA.to hbn
            go_upto_region 8 with fail
            rw [Hwt.out]
            clear Hwt h0 h1 h2 hA hbn
            go_wp2_with fail
            go_loopg [40] P (fun g i wr => ∃ j : Nat, j + g = P ∧ i = .int .i64 j ∧ WaysAt w0 B1 B2 P T wr ⟨u.ps, setAt u.ts k (leadTo u.ps t.pre (u.ts k) j)⟩ ∧ Box3 wr W.heap.size (.int .i64 t.label) (.slice a1 P p1) (.slice a2 P p2))
            case atStart => exact ⟨0, by omega, rfl, E0.out, hbx3⟩
            case round =>
              clear E0 hbx3
              obtain ⟨j, hjg, rfl, hA, hbx3⟩ := hrel
              by_cases hjn : j < P
              · obtain ⟨b1, o1, rfl, hb1, hc1⟩ := hr1 j (by omega)
                replace hc1 := (hA.below.cell (p := ⟨b1, o1 + j, none⟩) hb1).trans hc1
                have d1 := hA.ps.cells j hjn
                have d2 : wr.cell? ⟨B2, k, none⟩ = some (.bool (leadTo u.ps t.pre (u.ts k) j)) := by rw [hA.ts.cells k hkn]; exact congrArg (fun x => some (Value.bool x)) (set_same _ _ _)
                have d3 := hA.ts.frozen k hkn
                have Hl : Hid _ := lead_succ u.ps t.pre (u.ts k) j
                have HP2 : Hid (∀ x, leadTo u.ps t.pre (u.ts k) (j + 1) = x → WaysAt w0 B1 B2 P T (wr.setCell ⟨B2, k, none⟩ (.bool x)) ⟨u.ps, setAt u.ts k (leadTo u.ps t.pre (u.ts k) (j + 1))⟩ ∧ Box3 (wr.setCell ⟨B2, k, none⟩ (.bool x)) W.heap.size (.int .i64 t.label) (.slice (some ⟨b1, o1, none⟩) P p1) (.slice a2 P p2)) := fun x hx =>
                  ⟨hA.putT hne hB2 hkn (by rw [set_same]; exact hx) (fun j hj => set_diff _ _ _ _ _ hj), box3_other hbx3 (by show B2 ≠ _; omega)⟩
                obtain ⟨y0, y1, y2, y3⟩ := hbx3
                clear hA
                generalize nth t.pre j = x at *
                have d1 : wr.cell? ⟨B1, j, none⟩ = some (.bool (u.ps j)) := d1
                generalize u.ps j = pj at *
                generalize leadTo u.ps t.pre (u.ts k) j = bk at *
                cases bk
                · cases pj
                  · obtain ⟨R1, R2⟩ := HP2.out false (by rw [Hl.out]; rfl)
                    have R1 : Hid _ := R1
                    clear Hl HP2
                    go_wp2_with fail
                    go_roundg (gk - 1)
                    case measure => omega
                    case rel => exact ⟨j + 1, by omega, by go_num, R1.out, R2⟩
                  · by_cases hx : 0 < x
                    · obtain ⟨R1, R2⟩ := HP2.out true (by rw [Hl.out, decide_eq_true hx]; rfl)
                      have R1 : Hid _ := R1
                      clear Hl HP2
                      go_wp2_with fail
                      go_roundg (gk - 1)
                      case measure => omega
                      case rel => exact ⟨j + 1, by omega, by go_num, R1.out, R2⟩
                    · obtain ⟨R1, R2⟩ := HP2.out false (by rw [Hl.out, decide_eq_false hx]; rfl)
                      have R1 : Hid _ := R1
                      have hxd : decide (0 < x) = false := decide_eq_false hx
                      clear Hl HP2 hx
                      go_wp2_with fail
                      go_roundg (gk - 1)
                      case measure => omega
                      case rel => exact ⟨j + 1, by omega, by go_num, R1.out, R2⟩
                · obtain ⟨R1, R2⟩ := HP2.out true (by rw [Hl.out]; rfl)
                  have R1 : Hid _ := R1
                  clear Hl HP2
                  go_wp2_with fail
                  go_roundg (gk - 1)
                  case measure => omega
                  case rel => exact ⟨j + 1, by omega, by go_num, R1.out, R2⟩
              · obtain rfl : j = P := by omega
                obtain ⟨bk, Hbk⟩ : ∃ bk, Hid (leadTo u.ps t.pre (u.ts k) j = bk) := ⟨_, rfl⟩
                rw [Hbk.out] at hA HT2
                have E1 : Hid (WaysAt w0 B1 B2 j T wr ⟨feedTo u.ps t.post bk 0, setAt u.ts k bk⟩) := by show WaysAt _ _ _ _ _ _ _; rw [feed_zero]; exact hA
                clear hA Hbk
                go_wp2_with fail
                go_loopg [67] j (fun g i wr => ∃ q : Nat, q + g = j ∧ i = .int .i64 q ∧ WaysAt w0 B1 B2 j T wr ⟨feedTo u.ps t.post bk q, setAt u.ts k bk⟩ ∧ Box3 wr W.heap.size (.int .i64 t.label) (.slice a1 j p1) (.slice a2 j p2))
                case atStart => exact ⟨0, by omega, rfl, E1.out, hbx3⟩
                case round =>
                  clear E1 hbx3
                  obtain ⟨q, hqg, rfl, hA, hbx3⟩ := hrel
                  by_cases hqn : q < j
                  · obtain ⟨b1, o1, rfl, hb1, hc1⟩ := hr2 q (by omega)
                    replace hc1 := (hA.below.cell (p := ⟨b1, o1 + q, none⟩) hb1).trans hc1
                    have d1 : wr.cell? ⟨B1, q, none⟩ = some (.bool (u.ps q)) := by rw [hA.ps.cells q hqn]; exact congrArg (fun x => some (Value.bool x)) (feed_self _ _ _ _)
                    have d2 : wr.cell? ⟨B2, k, none⟩ = some (.bool bk) := by rw [hA.ts.cells k hkn]; exact congrArg (fun x => some (Value.bool x)) (set_same _ _ _)
                    have d3 := hA.ps.frozen q hqn
                    have Hl : Hid _ := feed_at u.ps t.post bk q
                    have HP2 : Hid (∀ x, feedTo u.ps t.post bk (q + 1) q = x → WaysAt w0 B1 B2 j T (wr.setCell ⟨B1, q, none⟩ (.bool x)) ⟨feedTo u.ps t.post bk (q + 1), setAt u.ts k bk⟩ ∧ Box3 (wr.setCell ⟨B1, q, none⟩ (.bool x)) W.heap.size (.int .i64 t.label) (.slice a1 j p1) (.slice (some ⟨b1, o1, none⟩) j p2)) := fun x hx =>
                      ⟨hA.putP hne hB1 hqn hx (fun i hi => feed_other _ _ _ _ _ hi), box3_other hbx3 (by show B1 ≠ _; omega)⟩
                    obtain ⟨y0, y1, y2, y3⟩ := hbx3
                    clear hA
                    generalize nth t.post q = x at *
                    generalize u.ps q = pj at *
                    cases pj
                    · cases bk
                      · obtain ⟨R1, R2⟩ := HP2.out false (by rw [Hl.out]; rfl)
                        have R1 : Hid _ := R1
                        clear Hl HP2
                        go_wp2_with fail
                        go_roundg (gk - 1)
                        case measure => omega
                        case rel => exact ⟨q + 1, by omega, by go_num, R1.out, R2⟩
                      · by_cases hx : 0 < x
                        · obtain ⟨R1, R2⟩ := HP2.out true (by rw [Hl.out, decide_eq_true hx]; rfl)
                          have R1 : Hid _ := R1
                          clear Hl HP2
                          go_wp2_with fail
                          go_roundg (gk - 1)
                          case measure => omega
                          case rel => exact ⟨q + 1, by omega, by go_num, R1.out, R2⟩
                        · obtain ⟨R1, R2⟩ := HP2.out false (by rw [Hl.out, decide_eq_false hx]; rfl)
                          have R1 : Hid _ := R1
                          have hxd : decide (0 < x) = false := decide_eq_false hx
                          clear Hl HP2 hx
                          go_wp2_with fail
                          go_roundg (gk - 1)
                          case measure => omega
                          case rel => exact ⟨q + 1, by omega, by go_num, R1.out, R2⟩
                    · obtain ⟨R1, R2⟩ := HP2.out true (by rw [Hl.out]; rfl)
                      have R1 : Hid _ := R1
                      clear Hl HP2
                      go_wp2_with fail
                      go_roundg (gk - 1)
                      case measure => omega
                      case rel => exact ⟨q + 1, by omega, by go_num, R1.out, R2⟩
                  · obtain rfl : q = j := by omega
                    rw [← HT2.out] at hA
                    clear HT2
                    go_wp2_with fail
                    go_roundg (G2 - 1)
                    case measure => omega
                    case rel => exact ⟨k + 1, by omega, by go_num, hA⟩
          · obtain rfl : k = T := by omega
            rw [← Hr.out] at hA
            go_wp2_with fail
            go_roundg (G - 1)
            case measure => omega
            case rel => exact ⟨r + 1, by omega, by go_num, hA⟩
      · obtain rfl : r = P + T := by omega
        go_wp2
        go_ret2
        exact ⟨_, _, rfl, ⟨⟨B1, rfl, hA.ps.lt, by rw [Hs.out]; exact hA.ps.cells⟩, ⟨B2, rfl, hA.ts.lt, by rw [Hs.out]; exact hA.ts.cells⟩⟩, c.trans (hA.below.mono c.size)⟩

end Go.Proofs.Ytakgppoeikcepaa

/- The answers of the document itself for shape: what is wrong. -/
namespace Go.Proofs.Ytakgppoeikcepaa
open Go.RowKit
set_option linter.unusedVariables false
set_option maxRecDepth 4000

/-- What the reckoning has to tell. -/
theorem shape_iff {n : NetL} {i o : Nat} (hn : netOk n = true) (hi : (i : Int) < n.places) (ho : (o : Int) < n.places) (hne : (i : Int) ≠ o) :
    ShapeOk n i o ↔ (∀ p, p < n.places.toNat → (waysL n i).ps p = true ∧ (waysL (turnL n) o).ps p = true) ∧ (∀ k, k < n.trans.length → ((waysL n i).ts k = true ∧ (waysL (turnL n) o).ts k = true) ∧ nth (tranAt n.trans k).post i = 0 ∧ nth (tranAt n.trans k).pre o = 0) := by
  obtain ⟨a1, a2⟩ := ways_iff hn hi
  obtain ⟨b1, b2⟩ := ways_iff (n := turnL n) (by rw [turn_ok_iff]; exact hn) (f := o) ho
  rw [turn_count] at b2
  constructor
  · intro h
    refine ⟨fun p hp => ⟨(a1 p).2 ?_, (b1 p).2 ?_⟩, fun k hk => ⟨⟨(a2 k hk).2 ?_, (b2 k hk).2 ?_⟩, ?_, ?_⟩⟩
    · have := h.p1 p (by omega); simpa using this
    · have := h.p2 p (by omega); simpa using this
    · have := h.t1 k hk; simpa using this
    · have := h.t2 k hk; simpa using this
    · have := h.put k hk; simpa using this
    · have := h.take k hk; simpa using this
  · rintro ⟨h1, h2⟩
    refine ⟨hn, hne, by omega, hi, by omega, ho, fun p hp => ?_, fun p hp => ?_, fun k hk => ?_, fun k hk => ?_, fun k hk => ?_, fun k hk => ?_⟩
    · rw [Int.toNat_natCast]; exact (a1 p).1 (h1 p (by omega)).1
    · rw [Int.toNat_natCast]; exact (b1 p).1 (h1 p (by omega)).2
    · rw [Int.toNat_natCast]; exact (a2 k hk).1 (h2 k hk).1.1
    · rw [Int.toNat_natCast]; exact (b2 k hk).1 (h2 k hk).1.2
    · rw [Int.toNat_natCast]; exact (h2 k hk).2.1
    · rw [Int.toNat_natCast]; exact (h2 k hk).2.2

theorem below_le {n : Nat} {Q : Nat → Prop} {k : Nat} (h : ∀ j, j < k → Q j) (hk : Q k) : ∀ j, j < k + 1 → Q j := by
  intro j hj
  by_cases e : j = k
  · subst e; exact hk
  · exact h j (by omega)

/-- Is one of the two no place, or are both one? -/
def sameOrOut (P i o : Int) : Bool := decide (i = o ∨ i < 0 ∨ o < 0 ∨ P ≤ i ∨ P ≤ o)

set_option maxRecDepth 8000 in
set_option maxHeartbeats 4000000 in
theorem hwrong_any (v : Value) (n : NetL) (i o : Int) (w : World) (hv : Net w v n) (hsm : SmallNet n) :
    Calls Try.prog 32 #[v, .int .i64 i, .int .i64 o] w fun e w' => ∃ d, e = .returned (.int .i64 d) ∧ Judged n i o d ∧ Below w.heap.size w w' := by
  obtain ⟨tv, rfl, hT⟩ := hv
  obtain ⟨w0, Hw0⟩ : ∃ w0, Hid (w.alloc (.cells #[.int .i64 n.places, tv] 24) = w0) := ⟨_, rfl⟩
  have c : Below w.heap.size w w0 := by rw [← Hw0.out]; exact below_new _ _
  have hbx : Box2 w0 w.heap.size (.int .i64 n.places) tv := by rw [← Hw0.out]; exact box2_new w _ tv 24
  have hv : Net w0 (.agg #[.int .i64 n.places, tv]) n := ⟨_, rfl, hT.below c⟩
  clear hT
  obtain ⟨x0, x1, x2⟩ := id hbx
  go_enter Try.func32, Try.ntmps32
  go_upto_region 1 with fail
  rw [Hw0.out]
  clear Hw0
  go_wp2_with fail
  clear x0 x1 x2
  refine (bwrong_any _ n _ (by exact hv) hsm).mono ?_
  rintro e w1 ⟨rfl, b⟩
  replace hbx := hbx.below b
  replace hv := hv.below b
  replace c := below_then c b
  clear b
  cases hok : netOk n
  · rw [wrongL_not hok]
    go_wp2
    go_ret
    exact ⟨_, rfl, Judged.of_bad hok, c⟩
  · rw [wrongL_ok hok]
    obtain ⟨x0, x1, x2⟩ := id hbx
    obtain ⟨P, HP⟩ : ∃ P, Hid (n.places = P) := ⟨_, rfl⟩
    rw [HP.out] at x1
    go_upto_region 3 with fail
    go_cut [33] (fun a wc => a = .bool (sameOrOut P i o) ∧ wc = w1)
    case first =>
      clear hv hbx hok HP
      rcases Int.lt_trichotomy i o with h | h | h
      · by_cases h1 : i < 0
        · have F : Hid (sameOrOut P i o = true) := decide_eq_true (by omega)
          go_wp2_with fail
          go_meet
          exact ⟨by rw [F.out], rfl⟩
        · by_cases h2 : P ≤ o
          · have F : Hid (sameOrOut P i o = true) := decide_eq_true (by omega)
            have e1 : ¬ i = o := by omega
            go_wp2_with fail
            go_meet
            exact ⟨by rw [F.out], rfl⟩
          · have F : Hid (sameOrOut P i o = false) := decide_eq_false (by omega)
            have e1 : ¬ i = o := by omega
            go_wp2_with fail
            go_meet
            exact ⟨by rw [F.out]; simp [e1], rfl⟩
      · subst h
        have F : Hid (sameOrOut P i i = true) := decide_eq_true (.inl rfl)
        go_wp2_with fail
        go_meet
        exact ⟨by rw [F.out], rfl⟩
      · by_cases h1 : o < 0
        · have F : Hid (sameOrOut P i o = true) := decide_eq_true (by omega)
          have e1 : ¬ i = o := by omega
          go_wp2_with fail
          go_meet
          exact ⟨by rw [F.out], rfl⟩
        · by_cases h2 : P ≤ i
          · have F : Hid (sameOrOut P i o = true) := decide_eq_true (by omega)
            have e1 : ¬ i = o := by omega
            go_wp2_with fail
            go_meet
            exact ⟨by rw [F.out], rfl⟩
          · have F : Hid (sameOrOut P i o = false) := decide_eq_false (by omega)
            have e1 : ¬ i = o := by omega
            go_wp2_with fail
            go_meet
            exact ⟨by rw [F.out]; simp [e1], rfl⟩
    case rest =>
      clear x0 x1 x2
      obtain ⟨rfl, rfl⟩ := hcut
      obtain ⟨w1, rfl⟩ : ∃ w1, w1 = wc := ⟨_, rfl⟩
      cases hso : sameOrOut P i o
      · have hso' := of_decide_eq_false hso
        clear hso
        obtain ⟨fi, rfl⟩ : ∃ k : Nat, i = k := Int.eq_ofNat_of_zero_le (by omega)
        obtain ⟨fo, rfl⟩ : ∃ k : Nat, o = k := Int.eq_ofNat_of_zero_le (by omega)
        have hi : (fi : Int) < n.places := by have := HP.out; omega
        have ho : (fo : Int) < n.places := by have := HP.out; omega
        have HSh : Hid _ := shape_iff hok hi ho (by omega)
        obtain ⟨P0, P16, T24⟩ := head_of hok
        obtain ⟨N, HN⟩ : ∃ N : Nat, Hid (n.places = N) := ⟨n.places.toNat, by show _ = _; omega⟩
        have hNn : n.places.toNat = N := by have := HN.out; omega
        have HLn : Hid (∀ k, k < n.trans.length → (tranAt n.trans k).pre.length = N ∧ (tranAt n.trans k).post.length = N) := fun k hk => by have := tran_length hok hk; omega
        have hiN : fi < N := by have := HN.out; omega
        have hoN : fo < N := by have := HN.out; omega
        have hN16 : N ≤ 16 := by have := HN.out; omega
        clear hso'
        obtain ⟨x0, x1, x2⟩ := id hbx
        go_wp2_with fail
        clear x0 x1 x2
        refine (hways_any _ n fi _ (by exact hv) hok hi).mono ?_
        rintro e w2 ⟨av, bv, rfl, ⟨hA1, hA2⟩, b⟩
        replace hbx := hbx.below b
        replace hv := hv.below b
        replace c := below_then c b
        clear b
        obtain ⟨x0, x1, x2⟩ := id hbx
        go_wp2_with fail
        clear x0 x1 x2
        refine (bturned_any _ n _ (by exact hv)).mono ?_
        rintro e w3 ⟨r, rfl, hr, b⟩
        replace hbx := hbx.below b
        replace hv := hv.below b
        replace hA1 := hA1.below b
        replace hA2 := hA2.below b
        replace c := below_then c b
        clear b
        go_wp2_with fail
        refine (hways_any r (turnL n) fo _ hr (by rw [turn_ok_iff]; exact hok) ho).mono ?_
        rintro e w4 ⟨cv, dv, rfl, ⟨hC1, hC2⟩, b⟩
        replace hbx := hbx.below b
        replace hv := hv.below b
        replace hA1 := hA1.below b
        replace hA2 := hA2.below b
        replace c := below_then c b
        clear b hr
        rw [turn_count] at hC2
        replace hC1 : BoolsV w4 cv n.places.toNat (waysL (turnL n) fo).ps := hC1
        rw [hNn] at hA1 hC1 HSh
        have hJ1 : Hid (¬ ShapeOk n fi fo → Judged n fi fo 1) := fun q => Judged.of_form hok q
        have hJ0 : Hid (ShapeOk n fi fo → Judged n fi fo 0) := Judged.of_right
        obtain ⟨tv2, e, hT⟩ := hv
        obtain rfl : tv = tv2 := by injection e with e; simpa using e
        clear e
        obtain ⟨ta, T, tcap, rfl, hTl, _, _, _⟩ := id hT
        rw [hTl] at hA2 hC2 HSh HLn
        generalize (waysL n fi).ps = ap at *
        generalize (waysL n fi).ts = at' at *
        generalize (waysL (turnL n) fo).ps = cp at *
        generalize (waysL (turnL n) fo).ts = ct at *
        rw [HN.out] at hbx
        obtain ⟨BA, rfl, lA, cA⟩ := hA1
        obtain ⟨BB, rfl, lB, cB⟩ := hA2
        obtain ⟨BC, rfl, lC, cC⟩ := hC1
        obtain ⟨BD, rfl, lD, cD⟩ := hC2
        have HT : Hid (Trans w4 (.slice ta T tcap) n.trans) := hT
        obtain ⟨x0, x1, x2⟩ := id hbx
        go_wp2_with fail
        clear x1
        go_loop [49] (fun a => ∃ k : Nat, k ≤ N ∧ a = .int .i64 k ∧ Hid (∀ p, p < k → ap p = true ∧ cp p = true)) (fun a => N - (intOf a).toNat)
        case atStart => exact ⟨0, Nat.zero_le _, rfl, fun j hj => absurd hj (Nat.not_lt_zero _)⟩
        case round =>
          obtain ⟨k, hk, rfl, hQ⟩ := hrel
          by_cases hkn : k < N
          · have d1 := cA k hkn
            have d2 := cC k hkn
            have Hno : Hid (¬ (ap k = true ∧ cp k = true) → ¬ ShapeOk n fi fo) := fun q h => q ((HSh.out.1 h).1 k hkn)
            have Hst : Hid (ap k = true ∧ cp k = true → ∀ p, p < k + 1 → ap p = true ∧ cp p = true) := fun q => below_le (n := 0) hQ.out q
            clear hQ HSh cA cB cC cD
            generalize ap k = x at *
            generalize cp k = y at *
            cases x
            · have J := hJ1.out (Hno.out (by simp))
              clear Hno Hst hJ1 hJ0
              go_wp2
              go_ret
              exact ⟨_, rfl, J, c⟩
            · cases y
              · have J := hJ1.out (Hno.out (by simp))
                clear Hno Hst hJ1 hJ0
                go_wp2
                go_ret
                exact ⟨_, rfl, J, c⟩
              · have R : Hid _ := Hst.out ⟨rfl, rfl⟩
                clear Hno Hst hJ1 hJ0
                go_wp2
                go_round
                case rel => exact ⟨k + 1, by omega, by go_num, R⟩
                case measure => simp [intOf]; omega
          · obtain rfl : k = N := by omega
            go_wp2_with fail
            clear x0 x2 lA lC cA cC hT hbx
            have hQ1 := hQ
            go_loopw [68] (fun a wr => ∃ j : Nat, j ≤ T ∧ a = .int .i64 j ∧ Hid (∀ q, q < j → (at' q = true ∧ ct q = true) ∧ nth (tranAt n.trans q).post fi = 0 ∧ nth (tranAt n.trans q).pre fo = 0) ∧ Below w4.heap.size w4 wr) (fun a _ => T - (intOf a).toNat)
            case atStart => exact ⟨0, Nat.zero_le _, rfl, fun j hj => absurd hj (Nat.not_lt_zero _), Below.refl _ _⟩
            case round =>
              obtain ⟨j, hj, rfl, hR, hbr⟩ := hrel
              by_cases hjn : j < T
              · obtain ⟨b, off, c1, c2, rfl, hblt, h0, h1, h2, i1, i2⟩ := (Trans.below HT.out hbr).at hjn
                obtain ⟨a1, l1, p1, rfl, hl1, _, _, hr1⟩ := i1
                obtain ⟨a2, l2, p2, rfl, hl2, _, _, hr2⟩ := i2
                obtain ⟨q1, q2⟩ := HLn.out j hjn
                obtain rfl : k = l1 := by omega
                obtain rfl : k = l2 := by omega
                obtain ⟨b1, o1, rfl, hb1, hc1⟩ := hr1 fo (by omega)
                obtain ⟨b2, o2, rfl, hb2, hc2⟩ := hr2 fi (by omega)
                have d1 := (hbr.cell (p := ⟨BB, j, none⟩) lB).trans (cB j hjn)
                have d2 := (hbr.cell (p := ⟨BD, j, none⟩) lD).trans (cD j hjn)
                have Hno : Hid (¬ ((at' j = true ∧ ct j = true) ∧ nth (tranAt n.trans j).post fi = 0 ∧ nth (tranAt n.trans j).pre fo = 0) → ¬ ShapeOk n fi fo) := fun q h => q ((HSh.out.1 h).2 j hjn)
                have Hst : Hid ((at' j = true ∧ ct j = true) ∧ nth (tranAt n.trans j).post fi = 0 ∧ nth (tranAt n.trans j).pre fo = 0 → ∀ q, q < j + 1 → (at' q = true ∧ ct q = true) ∧ nth (tranAt n.trans q).post fi = 0 ∧ nth (tranAt n.trans q).pre fo = 0) := fun q => below_le (n := 0) hR.out q
                clear hR HSh cB cD hr1 hr2 HLn hQ hQ1
                generalize tranAt n.trans j = t at *
                obtain ⟨wt, Hwt⟩ : ∃ wt, Hid (wr.alloc (.cells #[.int .i64 t.label, .slice (some ⟨b1, o1, none⟩) k p1, .slice (some ⟨b2, o2, none⟩) k p2] 37) = wt) := ⟨_, rfl⟩
                have hbn := below_new wr (.cells #[.int .i64 t.label, .slice (some ⟨b1, o1, none⟩) k p1, .slice (some ⟨b2, o2, none⟩) k p2] 37)
                have hbx3 := box3_new wr (.int .i64 t.label) (.slice (some ⟨b1, o1, none⟩) k p1) (.slice (some ⟨b2, o2, none⟩) k p2) 37
                rw [Hwt.out] at hbn hbx3
                replace hc1 := (hbn.cell (p := ⟨b1, o1 + fo, none⟩) hb1).trans hc1
                replace hc2 := (hbn.cell (p := ⟨b2, o2 + fi, none⟩) hb2).trans hc2
                replace d1 := (hbn.cell (p := ⟨BB, j, none⟩) (Nat.lt_of_lt_of_le lB hbr.size)).trans d1
                replace d2 := (hbn.cell (p := ⟨BD, j, none⟩) (Nat.lt_of_lt_of_le lD hbr.size)).trans d2
                have hbr2 := below_then hbr hbn
                obtain ⟨y0, y1, y2, y3⟩ := hbx3
                go_upto_region 16 with fail
                rw [Hwt.out]
                clear Hwt h0 h1 h2 hbn
                generalize nth t.post fi = x at *
                generalize nth t.pre fo = y at *
                generalize at' j = s1 at *
                generalize ct j = s2 at *
                cases s1
                · have J := hJ1.out (Hno.out (by simp))
                  clear Hno Hst hJ1 hJ0
                  go_wp2
                  go_ret
                  exact ⟨_, rfl, J, below_then c hbr2⟩
                · cases s2
                  · have J := hJ1.out (Hno.out (by simp))
                    clear Hno Hst hJ1 hJ0
                    go_wp2
                    go_ret
                    exact ⟨_, rfl, J, below_then c hbr2⟩
                  · by_cases hx : x = 0
                    · by_cases hy : y = 0
                      · have R : Hid _ := Hst.out ⟨⟨rfl, rfl⟩, hx, hy⟩
                        clear Hno Hst hJ1 hJ0
                        subst hx hy
                        go_wp2
                        go_roundw
                        case rel => exact ⟨j + 1, by omega, by go_num, R, hbr2⟩
                        case measure => simp [intOf]; omega
                      · have J := hJ1.out (Hno.out (fun q => hy q.2.2))
                        have hyb : (y != 0) = true := by simpa using hy
                        clear Hno Hst hJ1 hJ0
                        subst hx
                        go_wp2
                        go_ret
                        exact ⟨_, rfl, J, below_then c hbr2⟩
                    · have J := hJ1.out (Hno.out (fun q => hx q.2.1))
                      have hxb : (x != 0) = true := by simpa using hx
                      clear Hno Hst hJ1 hJ0
                      go_wp2
                      go_ret
                      exact ⟨_, rfl, J, below_then c hbr2⟩
              · obtain rfl : j = T := by omega
                have J := hJ0.out (HSh.out.2 ⟨hQ1.out, hR.out⟩)
                go_wp2
                go_ret
                exact ⟨_, rfl, J, below_then c hbr⟩
      · have hso' := of_decide_eq_true hso
        have hJ : Hid (Judged n i o 1) := Judged.of_form hok (fun q => by have := HP.out; have := q.ne; have := q.i0; have := q.i1; have := q.o0; have := q.o1; omega)
        clear hso hso' HP
        go_wp2
        go_ret
        exact ⟨_, rfl, hJ.out, c⟩

end Go.Proofs.Ytakgppoeikcepaa
