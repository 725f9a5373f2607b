/- The document's own answers for choices: the parts. -/
import Derived.Test.YtgedpebnipghlaaChoiceRef1
import Derived.Test.YtgedpebnipghlaaListsOut
import Derived.Test.YtgedpebnipghlaaRowAt
import Derived.BigRegion
namespace Go.Proofs.Ytgedpebnipghlaa
open Go.RowKit
set_option linter.unusedVariables false
set_option linter.unusedSimpArgs false
set_option maxRecDepth 4000

def firstH (k : Nat) : Nat → Int := fun j => if j < k then (j : Int) else 0
theorem firstH_put {k j : Nat} (h : j ≠ k) : firstH (k + 1) j = firstH k j := by unfold firstH; by_cases e : j < k
                                                                                 · rw [if_pos e, if_pos (by omega)]
                                                                                 · rw [if_neg e, if_neg (by omega)]

set_option maxHeartbeats 8000000 in
theorem nclusters_any (v : Value) (n : NetL) (w : World) (hv : Net w v n) (hsm : SmallNet n) :
    Calls Try.prog 12 #[v] w fun e w' => ∃ r ls, e = .returned r ∧ PartsOk n ls ∧ Lists w' r ls ∧ Below w.heap.size w w' := by
  obtain ⟨tv, rfl, hT⟩ := hv
  have c := below_new w (.cells #[.int .i64 n.places, tv] 24)
  have hbx := box2_new w (.int .i64 n.places) tv 24
  have hv : Net _ (.agg #[.int .i64 n.places, tv]) n := ⟨_, rfl, hT.below c⟩
  clear hT
  go_enter Try.func12, Try.ntmps12
  go_wp2_with fail
  refine (bwrong_any _ n _ (by exact hv) hsm).mono ?_
  rintro e w1 ⟨rfl, b1⟩
  replace c := below_then c b1
  replace hbx := hbx.below b1
  replace hv := hv.below b1
  clear b1
  cases hn : netOk n
  · rw [wrongL_not hn]
    have R : Hid (PartsOk n []) := parts_bad hn
    clear hn
    go_wp2
    go_ret
    exact ⟨_, [], rfl, R.out, ⟨none, 0, 0, rfl, rfl, by omega, ⟨by omega, by omega, fun _ => rfl⟩, fun j hj => absurd hj (by simp)⟩, c⟩
  · rw [wrongL_ok hn]
    have Hn : Hid (netOk n = true) := hn
    obtain ⟨tv', e, hT⟩ := id hv
    obtain rfl : tv = tv' := by injection e with e; simp at e; exact e
    clear e
    obtain ⟨a, len, cap, rfl, hlen, hmx, hsh, _⟩ := id hT
    have hcap : len ≤ cap := hsh.1
    have hcap2 : cap ≤ 9223372036854775807 := hsh.2.1
    have hl24 : len ≤ 24 := by
      unfold netOk headOk at hn
      simp only [Bool.and_eq_true, decide_eq_true_eq] at hn
      omega
    have Hlen : Hid (n.trans.length = len) := hlen
    have HP : Hid (∀ h, HeadMid n len 0 0 h → PartsOk n (heads h len len)) := fun h H => by
      have := heads_parts Hn.out (h := h) (by rw [Hlen.out]; exact H)
      rw [Hlen.out] at this; exact this
    clear hsh hlen hn hT
    obtain ⟨Bn, HB⟩ : ∃ B, Hid (w.heap.size = B) := ⟨_, rfl⟩
    rw [HB.out] at hbx
    rw [HB.out]
    obtain ⟨w2, hmk, hR0⟩ := make_intsZ w1 len (len : Int) rfl (by omega)
    obtain ⟨x0, x1, x2⟩ := id hbx
    go_wp2_with fail
    clear x0 x1 x2 hmk
    obtain ⟨B, HBB⟩ : ∃ B, Hid (w1.heap.size = B) := ⟨_, rfl⟩
    rw [HBB.out] at hR0
    rw [HBB.out]
    have hR1 : RowAt B w1 w2 len (firstH 0) := hR0.same fun j _ => by unfold firstH; simp
    clear hR0
    go_loopg [21] len (fun gk i' wr => ∃ k : Nat, k + gk = len ∧ i' = .int .i64 (k : Int) ∧ RowAt B w1 wr len (firstH k))
    case atStart => exact ⟨0, by omega, rfl, hR1⟩
    case round =>
      clear hR1
      obtain ⟨k, hkg, rfl, hR⟩ := hrel
      by_cases hk : k < len
      · have cc := hR.cells k hk
        have cf := hR.frozen k hk
        have R : Hid (RowAt B w1 (wr.setCell ⟨B, k, none⟩ (.int .i64 (k : Int))) len (firstH (k + 1))) := hR.put hk (by unfold firstH; rw [if_pos (by omega)]) fun j _ hj => firstH_put hj
        clear hR
        go_wp2
        go_roundg (gk - 1)
        case measure => omega
        case rel => exact ⟨k + 1, by omega, by go_num, R.out⟩
      · obtain rfl : k = len := by omega
        have H0 : Hid (HeadMid n 0 0 0 (firstH k)) := head_first n _ fun i hi => by unfold firstH; rw [if_pos (by rw [← Hlen.out]; exact hi)]
        go_wp2_with fail
        go_loopg [31] k (fun gk r' wr => ∃ (r : Nat) (h : Nat → Int), r + gk = k ∧ r' = .int .i64 (r : Int) ∧ RowAt B w1 wr k h ∧ Hid (HeadMid n r 0 0 h))
        case atStart => exact ⟨0, _, by omega, rfl, hR, H0⟩
        case round =>
          clear hR H0
          obtain ⟨r, h, hrg, rfl, hR, HM⟩ := hrel
          obtain ⟨g1, rfl⟩ : ∃ g1, g1 = gk := ⟨_, rfl⟩
          by_cases hrn : r < k
          · go_wp2_with fail
            go_loopg [35] k (fun gk i' wr => ∃ (i : Nat) (h : Nat → Int), i + gk = k ∧ i' = .int .i64 (i : Int) ∧ RowAt B w1 wr k h ∧ Hid (HeadMid n r i 0 h))
            case atStart => exact ⟨0, h, by omega, rfl, hR, HM⟩
            case round =>
              clear hR HM h
              obtain ⟨i, h, hig, rfl, hR, HM⟩ := hrel
              obtain ⟨g2, rfl⟩ : ∃ g2, g2 = gk := ⟨_, rfl⟩
              by_cases hin : i < k
              · go_wp2_with fail
                go_loopg [40] k (fun gk j' wr => ∃ (j : Nat) (h : Nat → Int), j + gk = k ∧ j' = .int .i64 (j : Int) ∧ RowAt B w1 wr k h ∧ Hid (HeadMid n r i j h))
                case atStart => exact ⟨0, h, by omega, rfl, hR, HM⟩
                case round =>
                  clear hR HM h
                  obtain ⟨j, h, hjg, rfl, hR, HM⟩ := hrel
                  by_cases hjn : j < k
                  · have hbw : Below w1.heap.size w1 wr := by rw [HBB.out]; exact hR.below
                    obtain ⟨x0, x1, x2⟩ := hbx.below hbw
                    have hi : i < n.trans.length := by rw [Hlen.out]; exact hin
                    have hj : j < n.trans.length := by rw [Hlen.out]; exact hjn
                    go_wp2_with fail
                    refine (nshare_any _ n i j wr (by exact hv.below hbw) Hn.out hi hj).mono ?_
                    rintro e w3 ⟨b, rfl, hbs, b3⟩
                    replace hR := hR.to b3
                    clear b3 x0 x1 x2 hbw
                    cases b
                    · have R : Hid _ := HM.out.skip (fun q => by have := hbs.2 q; cases this)
                      clear hbs HM
                      go_wp2
                      go_roundg (gk - 1)
                      case measure => omega
                      case rel => exact ⟨j + 1, h, by omega, by go_num, hR, R⟩
                    · have R : Hid _ := HM.out.put hi hj (hbs.1 (by first | rfl | trivial))
                      have cI := hR.cells i hin
                      have cJ := hR.cells j hjn
                      have cF := hR.frozen i hin
                      have HR : Hid (∀ z, z = min (h i) (h j) → RowAt B w1 (w3.setCell ⟨B, i, none⟩ (.int .i64 z)).drew k (setH h i (min (h i) (h j)))) := fun z hz => by
                        have bd : Below (w3.setCell ⟨B, i, none⟩ (.int .i64 z)).heap.size (w3.setCell ⟨B, i, none⟩ (.int .i64 z)) (w3.setCell ⟨B, i, none⟩ (.int .i64 z)).drew := (Below.refl _ _).drew
                        exact (hR.put hin (by unfold setH; rw [if_pos rfl, hz]) fun q _ hq => by unfold setH; rw [if_neg hq]).to bd
                      clear hbs HM hR
                      obtain ⟨x, Hx⟩ : ∃ x, Hid (h i = x) := ⟨_, rfl⟩
                      obtain ⟨y, Hy⟩ : ∃ y, Hid (h j = y) := ⟨_, rfl⟩
                      rw [Hx.out] at cI
                      rw [Hy.out] at cJ
                      rcases Int.lt_trichotomy x y with hxy | hxy | hxy
                      · have R2 : Hid _ := HR.out x (by rw [Hx.out, Hy.out]; omega)
                        go_wp2_with fail
                        go_region
                        go_wp2
                        go_roundg (gk - 1)
                        case measure => omega
                        case rel => exact ⟨j + 1, _, by omega, by go_num, R2.out, R⟩
                      · subst hxy
                        have R2 : Hid _ := HR.out x (by rw [Hx.out, Hy.out]; omega)
                        go_wp2_with fail
                        go_region
                        go_wp2
                        go_roundg (gk - 1)
                        case measure => omega
                        case rel => exact ⟨j + 1, _, by omega, by go_num, R2.out, R⟩
                      · have R2 : Hid _ := HR.out y (by rw [Hx.out, Hy.out]; omega)
                        go_wp2_with fail
                        go_region
                        go_wp2
                        go_roundg (gk - 1)
                        case measure => omega
                        case rel => exact ⟨j + 1, _, by omega, by go_num, R2.out, R⟩
                  · obtain rfl : j = k := by omega
                    have R : Hid (HeadMid n r (i + 1) 0 h) := HeadMid.row (by rw [Hlen.out]; exact HM.out) (by rw [Hlen.out]; exact hin)
                    clear HM
                    go_wp2
                    go_roundg (g2 - 1)
                    case measure => omega
                    case rel => exact ⟨i + 1, h, by omega, by go_num, hR, R⟩
              · obtain rfl : i = k := by omega
                have R : Hid (HeadMid n (r + 1) 0 0 h) := HeadMid.round (by rw [Hlen.out]; exact HM.out)
                clear HM
                go_wp2
                go_roundg (g1 - 1)
                case measure => omega
                case rel => exact ⟨r + 1, h, by omega, by go_num, hR, R⟩
          · obtain rfl : r = k := by omega
            have HQ : Hid (PartsOk n (heads h r r)) := HP.out h HM.out
            clear HM HP
            obtain ⟨W0, HW0⟩ : ∃ W0, Hid (wr = W0) := ⟨_, rfl⟩
            rw [HW0.out] at hR
            rw [HW0.out]
            clear HW0
            have L0 : LsOut W0.heap.size W0 W0 (.slice none 0 0) [] := LsOut.start _ (Below.refl _ _) (Nat.le_refl _)
            go_wp2_with fail
            go_loopg [7, 64] r (fun gk o a' wr => ∃ (a : Nat) (cs : List (Value × List Int)), a + gk = r ∧ a' = .int .i64 (a : Int) ∧ LsOut W0.heap.size W0 wr o cs ∧ Hid (cs.map (·.2) = heads h r a))
            case atStart => exact ⟨0, [], by omega, rfl, L0, rfl⟩
            case round =>
              clear L0
              obtain ⟨a, cs, hag, rfl, hL, HC⟩ := hrel
              obtain ⟨g1, rfl⟩ : ∃ g1, g1 = gk := ⟨_, rfl⟩
              have hRa := hR.to hL.below
              obtain ⟨oa, ol, oc, rfl⟩ := hL.slice
              have Hcl : Hid (cs.length ≤ 24) := by
                have h1 := heads_le h r a
                have h2 := congrArg List.length HC.out
                rw [List.length_map] at h2
                show _ ≤ _
                omega
              by_cases han : a < r
              · have HNo : Hid (withHead h a r = [] → heads h r (a + 1) = heads h r a) := fun q => heads_none q
                have HYe : Hid (withHead h a r ≠ [] → heads h r (a + 1) = heads h r a ++ [withHead h a r]) := fun q => heads_some q
                obtain ⟨wS, HwS⟩ : ∃ wS, Hid (wr = wS) := ⟨_, rfl⟩
                rw [HwS.out] at hRa hL
                rw [HwS.out]
                clear HwS
                go_wp2_with fail
                go_loopg [9, 69] r (fun gk l m' wr => ∃ m : Nat, m + gk = r ∧ m' = .int .i64 (m : Int) ∧ Own wS.heap.size wS wr l (withHead h a m))
                case atStart => exact ⟨0, by omega, rfl, Own.nil _⟩
                case round =>
                  obtain ⟨m, hmg, rfl, hO⟩ := hrel
                  by_cases hmn : m < r
                  · have cm := (hRa.to hO.2.1).cells m hmn
                    have Hy : Hid (h m = (a : Int) → withHead h a (m + 1) = withHead h a m ++ [(m : Int)]) := withHead_yes h a m
                    have Hno : Hid (h m ≠ (a : Int) → withHead h a (m + 1) = withHead h a m) := withHead_no h a m
                    have hwl := withHead_le h a m
                    obtain ⟨x, Hx⟩ : ∃ x, Hid (h m = x) := ⟨_, rfl⟩
                    rw [Hx.out] at cm Hy Hno
                    clear Hx
                    by_cases hx : x = (a : Int)
                    · have R : Hid _ := Hy.out hx
                      subst hx
                      obtain ⟨la, ll, lc, rfl⟩ := hO.slice
                      clear Hy Hno
                      go_wp2_with (at_builtin; refine wp_append_int rfl _ _ rfl wS.heap.size wS _ _ _ (m : Int) hO rfl rfl (by omega) ?_; intro v' w5 hO5)
                      go_roundg (gk - 1)
                      case measure => omega
                      case rel => exact ⟨m + 1, by omega, by go_num, by rw [R.out]; exact hO5⟩
                    · have R : Hid _ := Hno.out hx
                      clear Hy Hno
                      go_wp2
                      go_roundg (gk - 1)
                      case measure => omega
                      case rel => exact ⟨m + 1, by omega, by go_num, by rw [R.out]; exact hO⟩
                  · obtain rfl : m = r := by omega
                    have hwl := withHead_le h a m
                    have hI := hO.ints (by omega)
                    obtain ⟨la, ll, lc, rfl, hll, _⟩ := id hI
                    have hL2 := hL.to hO.2.1
                    have hon := (hO.on (by omega)).weaken (D' := fun k => W0.heap.size ≤ k ∧ some k ≠ (Value.slice oa ol oc).ownBlock) (fun k _ hk => ⟨Nat.le_trans hL.size hk, fun q => by
                      have := (ownsRow_lt hL.own q.symm).2
                      omega⟩)
                    by_cases h0 : ll = 0
                    · subst h0
                      have R : Hid _ := HNo.out (List.length_eq_zero_iff.1 hll)
                      clear HNo HYe hon hI hO hL
                      go_wp2
                      go_roundg (g1 - 1)
                      case measure => omega
                      case rel => exact ⟨a + 1, cs, by omega, by go_num, hL2, HC.out.trans R.out.symm⟩
                    · have R : Hid _ := HYe.out (fun q => by rw [q] at hll; exact h0 hll.symm)
                      have hcl := Hcl.out
                      clear HNo HYe hI hO hL hll hwl Hcl
                      go_wp2_with (at_builtin; refine wp_append_ls rfl _ _ rfl W0.heap.size W0 _ _ cs _ _ _ _ hL2 hon rfl rfl (by omega) ?_; intro v' w5 hO5 hB5)
                      go_roundg (g1 - 1)
                      case measure => omega
                      case rel => exact ⟨a + 1, _, by omega, by go_num, hO5, (by rw [R.out, List.map_append, HC.out]; rfl)⟩
              · obtain rfl : a = r := by omega
                have hLs := hL.lists (by have := Hcl.out; omega)
                rw [HC.out] at hLs
                have bw : Below w1.heap.size w1 W0 := by rw [HBB.out]; exact hR.below
                have B2 := below_then c (below_then bw hL.below)
                clear hR hRa hL
                go_wp2
                go_ret
                exact ⟨_, _, rfl, HQ.out, hLs, B2⟩

end Go.Proofs.Ytgedpebnipghlaa
