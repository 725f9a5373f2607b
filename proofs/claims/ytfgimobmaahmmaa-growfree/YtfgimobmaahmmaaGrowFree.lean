/- The law GrowFree, walked. -/
import Derived.Test.YtfgimobmaahmmaaGrowSafe
namespace Go.Proofs.Ytfgimobmaahmmaa
open Go.RowKit
set_option linter.unusedVariables false
set_option linter.unusedSimpArgs false
set_option maxRecDepth 4000

/-- Of what is grown: how many places, how long each list is, and that who shares a place shares all. -/
theorem grown_free {b : BlockL} (h : (growL b).2 = 0) : ∃ P : Nat, (growL b).1.places = (P : Int) ∧ P ≤ 16 ∧ (∀ k, k < (growL b).1.trans.length → (tranAt (growL b).1.trans k).pre.length = P) ∧
    ∀ i j p, i < (growL b).1.trans.length → j < (growL b).1.trans.length → 0 < nth (tranAt (growL b).1.trans i).pre p → 0 < nth (tranAt (growL b).1.trans j).pre p → (tranAt (growL b).1.trans i).pre = (tranAt (growL b).1.trans j).pre := by
  rcases growL_cases b with ⟨h1, _⟩ | ⟨e, hw, hf⟩
  · exact absurd h h1
  · obtain ⟨St, hO⟩ := grown_one (wrong_zero.1 hw) hf
    rw [e]
    refine ⟨(grownB b).places, rfl, hf.1, fun k hk => ?_, fun i j p hi hj h1 h2 => ?_⟩
    · rw [net_count] at hk; rw [net_tran_at hk]; exact weight_length _ _
    · rw [net_count] at hi hj; exact hO.free hi hj h1 h2

theorem ints_len {w : World} {a : Option Addr} {l c : Nat} {xs : List Int} (h : Ints w (.slice a l c) xs) : xs.length = l := by
  obtain ⟨a', l', c', e, h, _⟩ := h
  injection e with _ e2 _
  rw [h, e2]

set_option maxHeartbeats 4000000 in
theorem growFree_walk (v0 : Value) (b : BlockL) (w : World) (hv : BlockV w v0 b) :
    Calls Try.prog 6 #[v0] w fun e w' => e = .returned (.bool true) ∧ Below w.heap.size w w' := by
  obtain ⟨a, len0, cap, e0⟩ : ∃ a l c, v0 = .agg #[.int .i64 b.kind, .int .i64 b.label, .slice a l c] := by obtain ⟨kv, e, hK⟩ := blockV_iff.1 hv; obtain ⟨a, c, e2, _⟩ := hK.slice; exact ⟨a, _, c, by rw [e, e2]⟩
  subst e0
  have c := below_new w (.cells #[.int .i64 b.kind, .int .i64 b.label, .slice a len0 cap] 24)
  have hbx := box3_new w (.int .i64 b.kind) (.int .i64 b.label) (.slice a len0 cap) 24
  replace hv := hv.below c
  obtain ⟨w0, Hw0⟩ : ∃ w0, Hid (w.alloc (.cells #[.int .i64 b.kind, .int .i64 b.label, .slice a len0 cap] 24) = w0) := ⟨_, rfl⟩
  rw [Hw0.out] at c hbx hv
  go_enter Try.func6, Try.ntmps6
  go_upto_region 1 with fail
  rw [Hw0.out]
  clear Hw0
  go_wp2_with fail
  refine (alive11_any w0).mono ?_
  rintro e w1 ⟨rfl, b1⟩
  replace c := below_then c b1
  replace hv := hv.below b1
  obtain ⟨x0, x1, x2, x3⟩ := hbx.below b1
  clear b1 hbx
  go_wp2_with fail
  refine (grow_grow _ b w1 (by exact hv)).mono ?_
  rintro e w2 ⟨r, rfl, hN, b2⟩
  replace c := below_then c b2
  obtain ⟨tv, rfl, hT⟩ := hN
  obtain ⟨at_, len, ct_, rfl, hlen, hmx, hsh, _⟩ := id hT
  have HF : Hid _ := grown_free (b := b)
  obtain ⟨n, Hn⟩ : ∃ n, Hid ((growL b).1 = n) := ⟨_, rfl⟩
  obtain ⟨E, HEE⟩ : ∃ E, Hid ((growL b).2 = E) := ⟨_, rfl⟩
  rw [Hn.out] at hT HF hlen ⊢
  rw [HEE.out] at HF ⊢
  have hcap : len ≤ ct_ := hsh.1
  have hcap2 : ct_ ≤ 9223372036854775807 := hsh.2.1
  rw [hlen] at HF
  have bn := below_new w2 (.cells #[.int .i64 n.places, .slice at_ len ct_] 27)
  have hx := box2_new w2 (.int .i64 n.places) (.slice at_ len ct_) 27
  replace hT := hT.below bn
  replace c := below_then c bn
  obtain ⟨w3, Hw3⟩ : ∃ w3, Hid (w2.alloc (.cells #[.int .i64 n.places, .slice at_ len ct_] 27) = w3) := ⟨_, rfl⟩
  rw [Hw3.out] at hx hT c
  clear x0 x1 x2 x3 hv b2 bn hsh
  go_upto_region 4 with fail
  rw [Hw3.out]
  clear Hw3
  by_cases hE : E = 0
  · subst hE
    obtain ⟨P, hP, hP16, hlens, hfree⟩ := HF.out (by trivial)
    rw [hP] at hx ⊢
    clear hP
    have Hlens : Hid _ := hlens
    have Hfree : Hid _ := hfree
    have Hc : Hid _ := c
    have Hlen : Hid _ := hlen
    clear HF hlens hfree c hlen
    obtain ⟨x0, x1, x2⟩ := id hx
    go_wp2_with fail
    clear x0 x1 x2
    go_loopg [22] len (fun gk i wr => ∃ k : Nat, k + gk = len ∧ i = .int .i64 k ∧ Below w3.heap.size w3 wr)
    case atStart => exact ⟨0, by omega, rfl, Below.refl _ _⟩
    case round =>
      obtain ⟨k, hkg, rfl, hb⟩ := hrel
      obtain ⟨g1, rfl⟩ : ∃ g1, g1 = gk := ⟨_, rfl⟩
      by_cases hk : k < len
      · obtain ⟨bt, ot, p1, q1, rfl, hlt, h0, h1, h2, i1, j1⟩ := (hT.below hb).at hk
        obtain ⟨a1, l1, cp1, rfl, hl1, _, _, _⟩ := id i1
        obtain ⟨a2, l2, cp2, rfl⟩ : ∃ a l c, q1 = .slice a l c := by obtain ⟨a, l, c, e, _⟩ := j1; exact ⟨a, l, c, e⟩
        have hl1 : l1 = P := by rw [← hl1]; exact Hlens.out k hk
        subst hl1
        have hbn := below_new wr (.cells #[.int .i64 (tranAt n.trans k).label, .slice a1 l1 cp1, .slice a2 l2 cp2] 48)
        have hx3 := box3_new wr (.int .i64 (tranAt n.trans k).label) (.slice a1 l1 cp1) (.slice a2 l2 cp2) 48
        obtain ⟨w4, Hw4⟩ : ∃ w4, Hid (wr.alloc (.cells #[.int .i64 (tranAt n.trans k).label, .slice a1 l1 cp1, .slice a2 l2 cp2] 48) = w4) := ⟨_, rfl⟩
        rw [Hw4.out] at hbn hx3
        replace i1 := i1.below hbn
        have hb4 := below_then hb hbn
        go_upto_region 9 with fail
        rw [Hw4.out]
        clear Hw4 h0 h1 h2 hbn hb j1
        obtain ⟨x0, x1, x2⟩ := hx.below hb4
        have hkc : k ≤ ct_ := by omega
        go_wp2_with fail
        clear x0 x1 x2
        obtain ⟨w, Hww⟩ : ∃ w', Hid (wr = w') := ⟨_, rfl⟩
        rw [Hww.out] at hx3
        rw [Hww.out]
        clear Hww
        go_loopg [32] k (fun gk i wr => ∃ j : Nat, j + gk = k ∧ i = .int .i64 j ∧ Below w4.heap.size w4 wr)
        case atStart => exact ⟨0, by omega, rfl, Below.refl _ _⟩
        case round =>
          obtain ⟨j, hjg, rfl, hbj⟩ := hrel
          obtain ⟨g2, rfl⟩ : ∃ g2, g2 = gk := ⟨_, rfl⟩
          by_cases hj : j < k
          · have hjl : j < len := by omega
            have hbj3 := below_then hb4 hbj
            obtain ⟨bt', ot', p2, q2, e, hlt2, g0, g1, g2, i2, j2⟩ := (hT.below hbj3).at hjl
            injection e with e
            injection e with e1 e2
            subst e1 e2
            obtain ⟨a3, l3, cp3, rfl, hl3, _, _, _⟩ := id i2
            obtain ⟨a4, l4, cp4, rfl⟩ : ∃ a l c, q2 = .slice a l c := by obtain ⟨a, l, c, e, _⟩ := j2; exact ⟨a, l, c, e⟩
            have hl3 : l3 = l1 := by rw [← hl3]; exact Hlens.out j hjl
            subst hl3
            have hbn := below_new wr (.cells #[.int .i64 (tranAt n.trans j).label, .slice a3 l3 cp3, .slice a4 l4 cp4] 48)
            have hx5 := box3_new wr (.int .i64 (tranAt n.trans j).label) (.slice a3 l3 cp3) (.slice a4 l4 cp4) 48
            have hbj5 := below_then hbj hbn
            have hx0 := hx.below (below_then hb4 hbj5)
            have hx1 := hx3.below hbj5
            replace i2 := i2.below hbn
            have i3 := i1.below hbj5
            obtain ⟨w5, Hw5⟩ : ∃ w5, Hid (wr.alloc (.cells #[.int .i64 (tranAt n.trans j).label, .slice a3 l3 cp3, .slice a4 l4 cp4] 48) = w5) := ⟨_, rfl⟩
            rw [Hw5.out] at hbj5 hx5 i2 i3 hx0 hx1
            go_upto_region 12 with fail
            rw [Hw5.out]
            clear Hw5 g0 g1 g2 hbn j2 hbj hbj3
            obtain ⟨x0, x1, x2⟩ := hx0
            have Hfr : Hid _ := fun p => Hfree.out k j p hk hjl
            have Hbj5 : Hid _ := hbj5
            generalize (tranAt n.trans k).pre = X at *
            generalize (tranAt n.trans j).pre = Y at *
            have hX : Hid (X.length = l3) := ints_len i3
            have hY : Hid (Y.length = l3) := ints_len i2
            obtain ⟨m, Hmm⟩ : ∃ w', Hid (wr = w') := ⟨_, rfl⟩
            rw [Hmm.out] at hx5
            rw [Hmm.out]
            clear Hmm
            go_wp2_with fail
            clear x0 x1 x2
            go_loopg [38] l3 (fun gk i wr => ∃ p : Nat, p + gk = l3 ∧ i = .int .i64 p ∧ Below w5.heap.size w5 wr)
            case atStart => exact ⟨0, by omega, rfl, Below.refl _ _⟩
            case round =>
              obtain ⟨p, hpg, rfl, hbp⟩ := hrel
              by_cases hp : p < l3
              · have iX := i3.below hbp
                have iY := i2.below hbp
                obtain ⟨bX, oX, rfl, _, ltX, cX⟩ := ints_cell iX (j := p) (by rw [hX.out]; exact hp)
                obtain ⟨bY, oY, rfl, _, ltY, cY⟩ := ints_cell iY (j := p) (by rw [hY.out]; exact hp)
                obtain ⟨y0, y1, y2, y3⟩ := hx1.below hbp
                obtain ⟨z0, z1, z2, z3⟩ := hx5.below hbp
                have Hf := Hfr.out p
                obtain ⟨xp, Hxp⟩ : ∃ xp, Hid (nth X p = xp) := ⟨_, rfl⟩
                obtain ⟨yp, Hyp⟩ : ∃ yp, Hid (nth Y p = yp) := ⟨_, rfl⟩
                rw [Hxp.out] at cX Hf
                rw [Hyp.out] at cY Hf
                by_cases h1 : 0 < xp
                · by_cases h2 : 0 < yp
                  · have e := Hf h1 h2
                    subst e
                    go_wp2_with fail
                    refine (equal_b _ _ X X _ iX iY).mono ?_
                    rintro e w6 ⟨rfl, b6⟩
                    rw [beq_self_eq_true]
                    have R := below_then hbp b6
                    clear Hf y0 y1 y2 y3 z0 z1 z2 z3 cX cY iX iY b6 hbp h1 h2
                    go_wp2
                    go_roundg (gk - 1)
                    case measure => omega
                    case rel => exact ⟨p + 1, by omega, by go_num, R⟩
                  · have h2' : decide (0 < yp) = false := decide_eq_false h2
                    clear Hf iX iY h2
                    go_wp2
                    go_roundg (gk - 1)
                    case measure => omega
                    case rel => exact ⟨p + 1, by omega, by go_num, hbp⟩
                · have h1' : decide (0 < xp) = false := decide_eq_false h1
                  clear Hf iX iY h1
                  go_wp2
                  go_roundg (gk - 1)
                  case measure => omega
                  case rel => exact ⟨p + 1, by omega, by go_num, hbp⟩
              · have R := below_then Hbj5.out hbp
                clear hbp
                go_wp2
                go_roundg (g2 - 1)
                case measure => omega
                case rel => exact ⟨j + 1, by omega, by go_num, R⟩
          · have R := below_then hb4 hbj
            clear hbj
            go_wp2
            go_roundg (g1 - 1)
            case measure => omega
            case rel => exact ⟨k + 1, by omega, by go_num, R⟩
      · have R := below_then Hc.out hb
        clear hb
        go_wp2
        go_ret
        exact ⟨rfl, R⟩
  · have hE' : (E != 0) = true := by simpa using hE
    clear hT hx HF
    go_wp2
    go_ret
    exact ⟨rfl, c⟩

end Go.Proofs.Ytfgimobmaahmmaa
