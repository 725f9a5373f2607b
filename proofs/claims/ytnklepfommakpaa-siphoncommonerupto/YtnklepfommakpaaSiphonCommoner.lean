/- The law SiphonCommoner, walked: it answers true, and writes nothing that was there. -/
import Derived.Test.YtnklepfommakpaaAlive6
import Derived.Test.YtnklepfommakpaaSiph1
namespace Go.Proofs.Ytnklepfommakpaa
open Go.RowKit
set_option linter.unusedVariables false

theorem wrap64_small {x : Int} (h1 : -9223372036854775808 ≤ x) (h2 : x ≤ 9223372036854775807) : wrap64 x = x := by
  unfold wrap64
  omega

theorem wrap_i64 {a : Int} (h1 : -9223372036854775808 ≤ a) (h2 : a ≤ 9223372036854775807) : IntKind.i64.wrap a = a := by
  simp only [IntKind.wrap_i64]; omega
theorem bits_and_i64_nat (a b : Nat) (ha : a < 9223372036854775808) (hb : b < 9223372036854775808) : bits .and .i64 (a : Int) (b : Int) = ((a &&& b : Nat) : Int) := by
  have hx : a &&& b < 2 ^ 63 := Nat.and_lt_two_pow _ (by omega)
  have h1 : (BitVec.ofInt 64 (a : Int)).toNat = a := by
    rw [BitVec.ofInt_natCast, BitVec.toNat_ofNat]; exact Nat.mod_eq_of_lt (by omega)
  have h2 : (BitVec.ofInt 64 (b : Int)).toNat = b := by
    rw [BitVec.ofInt_natCast, BitVec.toNat_ofNat]; exact Nat.mod_eq_of_lt (by omega)
  show IntKind.i64.wrap ((BitVec.ofInt 64 (a : Int) &&& BitVec.ofInt 64 (b : Int)).toNat : Int) = _
  rw [BitVec.toNat_and, h1, h2]
  exact wrap_i64 (by omega) (by omega)
theorem bit_at (s k : Nat) (h : s < 9223372036854775808) : bits .and .i64 ((s : Int) / 2 ^ k) 1 = if s.testBit k then 1 else 0 := by
  have e1 : (s : Int) / 2 ^ k = ((s / 2 ^ k : Nat) : Int) := by simp
  have h2 : s / 2 ^ k ≤ s := Nat.div_le_self _ _
  rw [e1]
  have e2 := bits_and_i64_nat (s / 2 ^ k) 1 (by omega) (by omega)
  rw [show ((1 : Nat) : Int) = 1 from rfl] at e2
  rw [e2, Nat.and_one_is_mod, Nat.testBit_eq_decide_div_mod_eq]
  by_cases q : s / 2 ^ k % 2 = 1
  · simp [q]
  · have : s / 2 ^ k % 2 = 0 := by omega
    simp [this]

def bitsTo (s k : Nat) : List Int := bitsL k s
theorem bits_yes {s k : Nat} (h : s.testBit k = true) : bitsTo s (k + 1) = bitsTo s k ++ [(k : Int)] := by
  simp [bitsTo, bitsL, List.range_succ, List.filter_append, h]
theorem bits_no {s k : Nat} (h : s.testBit k = false) : bitsTo s (k + 1) = bitsTo s k := by
  simp [bitsTo, bitsL, List.range_succ, List.filter_append, h]
theorem bits_le (s k : Nat) : (bitsTo s k).length ≤ k := by
  simp only [bitsTo, bitsL, List.length_map]
  exact Nat.le_trans (List.length_filter_le _ _) (by simp)

set_option maxRecDepth 4000 in
set_option maxHeartbeats 2000000 in
theorem siphonCommoner_walk (v u sv : Value) (n : NetL) (m seq : List Int) (w : World) (hv : Net w v n) (hu : Ints w u m) (hs : Ints w sv seq)
    (hbn : BulkNet n) (hbm : m.length ≤ 1048576) (hbs : seq.length ≤ 1048576) :
    Calls Try.prog 8 #[v, u, sv] w fun e w' => e = .returned (.bool true) ∧ Below w.heap.size w w' := by
  obtain ⟨tv, rfl, hT⟩ := hv
  have c := below_new w (.cells #[.int .i64 n.places, tv] 24)
  have hbx := box2_new w (.int .i64 n.places) tv 24
  have hv : Net _ (.agg #[.int .i64 n.places, tv]) n := ⟨_, rfl, hT.below c⟩
  replace hu := hu.below c
  replace hs := hs.below c
  have Hbn : Hid _ := hbn
  clear hT hbn hbm hbs
  go_enter Try.func8, Try.ntmps8
  go_wp2_with fail
  refine (alive6_any _).mono ?_
  rintro e w1 ⟨rfl, b⟩
  replace hv := hv.below b
  replace hu := hu.below b
  replace hs := hs.below b
  replace hbx := hbx.below b
  replace c := below_then c b
  clear b
  obtain ⟨x0, x1, x2⟩ := id hbx
  go_wp2_with fail
  refine (ordinary_any _ n _ (by exact hv) (fun k hk => by have := Hbn.out.2 k hk; omega)).mono ?_
  rintro e w2 ⟨o, rfl, ho, b⟩
  replace hv := hv.below b
  replace hu := hu.below b
  replace hs := hs.below b
  replace hbx := hbx.below b
  replace c := below_then c b
  clear b x0 x1 x2 Hbn
  cases o
  · go_wp2
    go_ret
    exact ⟨rfl, c⟩
  have HO : Hid _ := ho rfl
  clear ho
  obtain ⟨x0, x1, x2⟩ := id hbx
  obtain ⟨am, lm, cm, rfl, hlm, hmm, hsm, hrm⟩ := id hu
  by_cases h8 : 8 < n.places
  · go_wp2
    go_ret
    exact ⟨rfl, c⟩
  by_cases hlp : (lm : Int) = n.places
  · have hP : n.places = lm := hlp.symm
    have HP : Hid _ := hP
    have HMP : Hid (m.length = n.places.toNat) := by show _ = _; omega
    rw [hP] at x1 hbx hv h8 ⊢
    have hcmp : ((lm : Int) != (lm : Int)) = false := by simp
    have hl8 : lm ≤ 8 := by omega
    clear hlp hP h8
    have hpow : 2 ^ lm ≤ 256 := Nat.le_trans (Nat.pow_le_pow_right (by omega) hl8) (by decide)
    have hpos : 1 ≤ 2 ^ lm := Nat.one_le_two_pow
    obtain ⟨T, hT⟩ : ∃ T, 2 ^ lm = T := ⟨_, rfl⟩
    have HT : Hid (2 ^ lm = T) := hT
    rw [hT] at hpow hpos
    have hw : wrap64 ((2 : Int) ^ lm) = (T : Int) := by
      have e : (2 : Int) ^ lm = ((2 ^ lm : Nat) : Int) := by rw [Int.natCast_pow]; rfl
      rw [e, hT]
      exact wrap64_small (by omega) (by omega)
    clear hT
    go_wp2_with fail
    clear x0 x1 x2
    go_loopg [7] (T - 1) (fun g i wr => ∃ s : Nat, s + g = T ∧ 1 ≤ s ∧ i = .int .i64 s ∧ Hid (∀ s', 0 < s' → s' < s → siphL n (bitsL lm s') = true → bareL m (mostL (turnL n) (bitsL lm s')) = false) ∧ Below w2.heap.size w2 wr)
    case atStart => exact ⟨1, by omega, by omega, rfl, fun s' h1 h2 => by omega, Below.refl _ _⟩
    case round =>
      obtain ⟨s, hsg, hs1, rfl, HB, hb⟩ := hrel
      obtain ⟨x0, x1, x2⟩ := hbx.below hb
      obtain ⟨G, hGk⟩ : ∃ G, G = gk := ⟨_, rfl⟩
      obtain ⟨WR, hWRk⟩ : ∃ WR, WR = wr := ⟨_, rfl⟩
      subst hGk hWRk
      by_cases hst : s < T
      · go_wp2_with fail
        clear x0 x1 x2
        rw [hw]
        go_loopg [8, 40] lm (fun g o i wr => ∃ k : Nat, k + g = lm ∧ i = .int .i64 k ∧ Own WR.heap.size WR wr o (bitsTo s k))
        case atStart => exact ⟨0, by omega, rfl, Own.nil _⟩
        case round =>
          obtain ⟨k, hkg, rfl, hO⟩ := hrel
          by_cases hkl : k < lm
          · have hle := bits_le s k
            have hbit := bit_at s k (by omega)
            cases hq : s.testBit k
            · rw [hq] at hbit
              simp only [Bool.false_eq_true, if_false] at hbit
              have R := hO
              rw [← bits_no hq] at R
              clear hO hq
              go_wp2
              go_roundg (gk - 1)
              case measure => omega
              case rel => exact ⟨k + 1, by omega, by go_num, R⟩
            · rw [hq] at hbit
              simp only [if_true] at hbit
              have Hy : Hid _ := bits_yes hq
              clear hq
              go_wp2_with (at_builtin; refine wp_append_int rfl _ _ rfl WR.heap.size WR _ _ _ (k : Int) hO rfl rfl (by omega) ?_; intro v' w5 hO5)
              have R : Own WR.heap.size WR w5 v' (bitsTo s (k + 1)) := by rw [Hy.out]; exact hO5
              clear hO hO5 Hy
              go_wp2
              go_roundg (gk - 1)
              case measure => omega
              case rel => exact ⟨k + 1, by omega, by go_num, R⟩
          · have ek : k = lm := by omega
            subst ek
            have hle := bits_le s k
            have hI := hO.ints (by omega)
            have hb2 := hO.2.1
            have hbb := below_then hb hb2
            obtain ⟨x0, x1, x2⟩ := hbx.below hbb
            have hvb := hv.below hbb
            have hub := hu.below hbb
            have HBs : Hid (∀ b, (siphL n (bitsTo s k) = true → bareL m (mostL (turnL n) (bitsTo s k)) = false) → b = s + 1 → ∀ s', 0 < s' → s' < b → siphL n (bitsL k s') = true → bareL m (mostL (turnL n) (bitsL k s')) = false) := by
              intro b h e s' h1 h2
              by_cases q : s' = s
              · subst q; exact h
              · exact HB.out s' h1 (by omega)
            clear hO HB
            generalize bitsTo s k = l at *
            go_wp2_with fail
            refine (siphon_siphon _ _ n l _ (by exact hvb) (by exact hI)).mono ?_
            rintro e w5 ⟨rfl, b5⟩
            replace hvb := hvb.below b5
            replace hub := hub.below b5
            replace hI := hI.below b5
            replace hbb := below_then hbb b5
            clear x0 x1 x2 b5
            cases hsi : siphL n l
            · have R : Hid _ := HBs.out (s + 1) (by rw [hsi]; intro h; cases h) rfl
              clear HBs hsi hvb hub hI
              go_wp2
              go_roundg (G - 1)
              case measure => omega
              case rel => exact ⟨s + 1, by omega, by omega, by go_num, R, hbb⟩
            · obtain ⟨x0, x1, x2⟩ := hbx.below hbb
              go_wp2_with fail
              refine (siphon_mosttrap _ _ n l _ (by exact hvb) (by exact hI)).mono ?_
              rintro e w6 ⟨r6, rfl, hr6, b6⟩
              replace hub := hub.below b6
              replace hbb := below_then hbb b6
              clear x0 x1 x2 b6
              go_wp2_with fail
              refine (bare_any _ _ m _ _ (by exact hub) (by exact hr6)).mono ?_
              rintro e w7 ⟨rfl, rfl⟩
              cases hba : bareL m (mostL (turnL n) l)
              · have R : Hid _ := HBs.out (s + 1) (fun _ => hba) rfl
                clear HBs hsi hba hvb hub hI hr6
                go_wp2
                go_roundg (G - 1)
                case measure => omega
                case rel => exact ⟨s + 1, by omega, by omega, by go_num, R, hbb⟩
              · have R := below_then c hbb
                clear HBs
                go_wp2
                go_ret
                exact ⟨rfl, R⟩
      · have es : s = T := by omega
        have HC : Hid (∀ x, runL n m seq = (x, 0) → canTo n x n.trans.length ≠ []) := by
          intro x hx
          refine commoner HO.out HMP.out (fun s' h1 h2 => ?_) hx
          rw [hlm] at h2 ⊢
          exact HB.out s' h1 (by rw [es, ← HT.out]; exact h2)
        have hvb := hv.below hb
        have hub := hu.below hb
        have hsb := hs.below hb
        clear HB
        go_wp2_with fail
        refine (net_run n seq _ _ _ m _ (by exact hvb) (by exact hub) (by exact hsb)).mono ?_
        rintro e w5 ⟨r5, rfl, hr5, b5⟩
        have HFx : Hid (∀ x, runL n m seq = (x, 0) → fitsL n x = true) := fun x hx => (run_fits seq hx).2
        replace hvb := hvb.below b5
        replace hb := below_then hb b5
        clear x0 x1 x2 b5 hub hsb
        generalize runL n m seq = q at *
        obtain ⟨x, cd⟩ := q
        simp only at hr5 ⊢
        by_cases h0 : cd = 0
        · subst h0
          have HC2 : Hid _ := HC.out x rfl
          have HF2 : Hid _ := HFx.out x rfl
          obtain ⟨x0, x1, x2⟩ := hbx.below hb
          clear HC HFx
          go_wp2_with fail
          refine (net_enabled _ _ n x _ (by exact hvb) (by exact hr5)).mono ?_
          rintro e w6 ⟨r6, rfl, hr6, b6⟩
          rw [canL_yes HF2.out] at hr6
          simp only at hr6
          simp only [canL_yes HF2.out]
          have R := below_then c (below_then hb b6)
          have hpos2 : 0 < (canTo n x n.trans.length).length := List.length_pos_iff.2 HC2.out
          obtain ⟨a6, l6, c6, rfl, hl6, _, _, _⟩ := id hr6
          have hl6' : 0 < l6 := by omega
          clear x0 x1 x2 hr6
          go_wp2
          go_ret
          exact ⟨rfl, R⟩
        · have hne : (cd != 0) = true := by simpa using h0
          have R := below_then c hb
          clear HC HFx
          go_wp2
          go_ret
          exact ⟨rfl, R⟩
  · have hcmp : ((lm : Int) != n.places) = true := by simpa using hlp
    go_wp2
    go_ret
    exact ⟨rfl, c⟩

end Go.Proofs.Ytnklepfommakpaa
