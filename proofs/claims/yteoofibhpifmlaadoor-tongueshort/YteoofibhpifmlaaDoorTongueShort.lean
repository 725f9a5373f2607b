/- TongueShort: what Least, Words and Has tell goes together. -/
import Derived.Test.YteoofibhpifmlaaDoorAlive12
namespace Go.Proofs.YteoofibhpifmlaaDoor
open Go.RowKit
set_option linter.unusedVariables false
set_option linter.unusedSimpArgs false
set_option maxRecDepth 4000

theorem lists_first {w : World} {a : Option Addr} {l c : Nat} {ls : List (List Int)} (h : Lists w (.slice a l c) ls) (hl : 0 < l) : ∃ b off a1 l1 c1, a = some ⟨b, off, none⟩ ∧ w.cell? ⟨b, off, none⟩ = some (.slice a1 l1 c1) ∧ (ls.getD 0 []).length = l1 := by
  obtain ⟨a', l', c', e, h1, h2, h3, h4⟩ := h
  injection e with e1 e2 e3
  subst e1 e2 e3
  obtain ⟨b, off, u, ha, hlt, hc, a1, l1, c1, rfl, hl1, _⟩ := h4 0 (by omega)
  exact ⟨b, off, a1, l1, c1, ha, by simpa using hc, hl1⟩
theorem lists_len {w : World} {a : Option Addr} {l c : Nat} {ls : List (List Int)} (h : Lists w (.slice a l c) ls) : ls.length = l ∧ l ≤ c ∧ c ≤ 9223372036854775807 := by
  obtain ⟨a', l', c', e, h1, h2, h3, h4⟩ := h
  injection e with e1 e2 e3
  subst e1 e2 e3
  exact ⟨h1, h3.1, h3.2.1⟩

set_option maxHeartbeats 4000000 in
theorem tongueShort_walk (v q : Value) (n : NetL) (i o most : Int) (ws : List Int) (w : World) (hv : Net w v n) (hq : Ints w q ws) (hTab : Tab w) :
    Calls Tryd.prog 5 #[v, .int .i64 i, .int .i64 o, .int .i64 most, q] w fun e w' => e = .returned (.bool true) ∧ Below w.heap.size w w' := by
  obtain ⟨tv, rfl, hT⟩ := hv
  have c := below_new w (.cells #[.int .i64 n.places, tv] 24)
  have hbx := box2_new w (.int .i64 n.places) tv 24
  have hv : Net (w.alloc (.cells #[.int .i64 n.places, tv] 24)) (.agg #[.int .i64 n.places, tv]) n := ⟨_, rfl, hT.below c⟩
  obtain ⟨w0, Hw0⟩ : ∃ w0, Hid (w.alloc (.cells #[.int .i64 n.places, tv] 24) = w0) := ⟨_, rfl⟩
  rw [Hw0.out] at c hbx hv
  replace hq := hq.below c
  clear hT
  obtain ⟨aq, lq, cq, rfl, hlq, _⟩ := id hq
  have Hlq : Hid _ := hlq
  clear hlq
  go_enter Tryd.func5, Tryd.ntmps5
  go_upto_region 1 with fail
  rw [Hw0.out]
  clear Hw0
  go_wp2_with fail
  refine (alive12_any _ (hTab.below c)).mono ?_
  rintro e w1 ⟨rfl, b1⟩
  replace hbx := hbx.below b1
  replace hv := hv.below b1
  replace c := below_then c b1
  replace hq := hq.below b1
  clear b1
  obtain ⟨x0, x1, x2⟩ := id hbx
  go_wp2_with fail
  clear x0 x1 x2
  refine (tongue_least _ n i o _ (by exact hv)).mono ?_
  rintro e w2 ⟨k, d, rfl, hL, b2⟩
  have HL : Hid _ := hL
  replace hbx := hbx.below b2
  replace hv := hv.below b2
  replace c := below_then c b2
  replace hq := hq.below b2
  clear b2 hL
  obtain ⟨x0, x1, x2⟩ := id hbx
  go_wp2_with fail
  clear x0 x1 x2
  refine (tongue_words _ n i o most _ (by exact hv) (hTab.below c)).mono ?_
  rintro e w3 ⟨r, l, d2, rfl, ⟨hR, hW⟩, b3⟩
  have HW : Hid _ := hW
  obtain ⟨al, ll, cl, rfl, _⟩ := id hR
  replace hbx := hbx.below b3
  replace hv := hv.below b3
  replace c := below_then c b3
  replace hq := hq.below b3
  clear b3 hW
  obtain ⟨x0, x1, x2⟩ := id hbx
  go_wp2_with fail
  clear x0 x1 x2
  refine (tongue_has _ _ n i o ws _ (by exact hv) (by exact hq) (hTab.below c)).mono ?_
  rintro e w4 ⟨b, d3, rfl, hH, b4⟩
  have HH : Hid _ := hH
  replace hR := hR.below b4
  replace c := below_then c b4
  clear b4 hv hbx hq hH
  obtain ⟨hll, hcl1, hcl2⟩ := lists_len hR
  have Hll : Hid _ := hll
  clear hll
  by_cases h3 : d = 3
  · subst h3
    obtain ⟨rfl, rfl, hz⟩ := ask_none HL.out HW.out HH.out
    rw [Hll.out] at hz
    clear HL HW HH Hll
    by_cases hd2 : d2 = 0
    · subst hd2
      obtain rfl := hz rfl
      go_wp2
      go_ret
      exact ⟨rfl, c⟩
    · have hd2' : (d2 != 0) = true := by simpa using hd2
      clear hz hd2
      go_wp2
      go_ret
      exact ⟨rfl, c⟩
  · have h3' : (d == 3) = false := by simpa using h3
    by_cases hd : d = 0
    · subst hd
      obtain ⟨hb, hz⟩ := ask_some HL.out HW.out HH.out
      rw [Hll.out] at hz
      rw [Hlq.out] at hb
      clear HL HW HH Hll Hlq h3 h3'
      by_cases hd2 : d2 = 0
      · subst hd2
        obtain ⟨hz1, hz2⟩ := hz rfl
        clear hz
        by_cases hl0 : 0 < ll
        · have g1 : decide ((ll : Int) > 0) = true := by simpa using hl0
          have g2 : decide (k ≤ most) = true := by simpa using hz1.1 hl0
          have g3 : ((ll : Int) == 0) = false := by simp; omega
          obtain ⟨b9, o9, a1, l1, c1, rfl, hc9, hlen⟩ := lists_first hR hl0
          have hk := hz2 (by omega)
          rw [hlen] at hk
          subst hk
          clear hz1 hz2 hlen
          cases b with
          | false =>
            go_wp2
            go_ret
            exact ⟨rfl, c⟩
          | true =>
            have g4 : (l1 : Int) ≤ (lq : Int) := hb rfl
            have g5 : l1 ≤ lq := by omega
            clear hb
            go_wp2
            go_ret
            exact ⟨rfl, c⟩
        · obtain rfl : ll = 0 := by omega
          have g2 : decide (k ≤ most) = false := by rw [decide_eq_false_iff_not]; intro h; exact hl0 (hz1.2 h)
          clear hz1 hz2
          cases b with
          | false =>
            go_wp2
            go_ret
            exact ⟨rfl, c⟩
          | true =>
            have g4 : decide ((lq : Int) ≥ k) = true := by simpa using hb rfl
            clear hb
            go_wp2
            go_ret
            exact ⟨rfl, c⟩
      · have hd2' : (d2 != 0) = true := by simpa using hd2
        clear hz hd2
        cases b with
        | false =>
          go_wp2
          go_ret
          exact ⟨rfl, c⟩
        | true =>
          have g4 : decide ((lq : Int) ≥ k) = true := by simpa using hb rfl
          clear hb
          go_wp2
          go_ret
          exact ⟨rfl, c⟩
    · obtain rfl := ask_fault HL.out hd h3 HH.out
      have hd' : (d3 != 0) = true := by simpa using hd
      have hd4 : (d3 == d3) = true := by simp
      clear HL HW HH hd h3
      go_wp2
      go_ret
      exact ⟨rfl, c⟩

end Go.Proofs.YteoofibhpifmlaaDoor
