/- Where nobody can fire, the empty places are a siphon; Commoner. -/
import Derived.Test.YtnklepfommakpaaSiphBase
namespace Go.Proofs.Ytnklepfommakpaa
set_option linter.unusedVariables false

/-- All weights are 0 or 1, and each transition takes something. -/
def ordT (t : TranL) : Prop := (∀ p, nth t.pre p ≤ 1) ∧ (∀ p, nth t.post p ≤ 1) ∧ ∃ p, nth t.pre p ≠ 0
structure OrdN (n : NetL) : Prop where
  ok : netOk n = true
  some : 0 < n.trans.length
  all : ∀ k, k < n.trans.length → ordT (tranAt n.trans k)

/-- The places without tokens, rising. -/
def noneL (m : List Int) : List Int := ((List.range m.length).filter fun p => nth m p == 0).map fun p : Nat => (p : Int)
theorem mem_none {m : List Int} {p : Int} : p ∈ noneL m ↔ 0 ≤ p ∧ p < m.length ∧ nth m p.toNat = 0 := by
  unfold noneL
  rw [List.mem_map]
  constructor
  · rintro ⟨a, ha, rfl⟩
    rw [List.mem_filter, List.mem_range] at ha
    exact ⟨by omega, by omega, by simpa using ha.2⟩
  · rintro ⟨h1, h2, h3⟩
    exact ⟨p.toNat, by rw [List.mem_filter, List.mem_range]; exact ⟨by omega, by simpa using h3⟩, by omega⟩

theorem dead_siph {n : NetL} {m : List Int} (hf : fitsL n m = true) (ho : OrdN n) (hd : canTo n m n.trans.length = []) : noneL m ≠ [] ∧ siphL n (noneL m) = true := by
  obtain ⟨hn, hl, hr⟩ := fits_net hf
  have key : ∀ k, k < n.trans.length → ∃ p : Nat, (p : Int) ∈ noneL m ∧ nth (tranAt n.trans k).pre p ≠ 0 := by
    intro k hk
    have hc : coversL m (tranAt n.trans k).pre = false := by
      cases hc : coversL m (tranAt n.trans k).pre with
      | false => rfl
      | true =>
        have : (k : Int) ∈ canTo n m n.trans.length := (can_mem n m _ _).2 ⟨k, rfl, hk, hc⟩
        rw [hd] at this
        simp at this
    have hnc : ¬ ∀ j, nth (tranAt n.trans k).pre j ≤ nth m j := fun h => by rw [(coversL_iff _ _).2 h] at hc; cases hc
    obtain ⟨p, hp⟩ := Classical.not_forall.1 hnc
    have h1 := (ho.all k hk).1 p
    have h2 := (okTok_nth hr p).1
    have hpl : p < m.length := by
      rcases Nat.lt_or_ge p (tranAt n.trans k).pre.length with q | q
      · have := (tran_length hn hk).1; omega
      · rw [nth_past _ _ q] at hp; omega
    exact ⟨p, mem_none.2 ⟨by omega, by omega, by rw [Int.toNat_natCast]; omega⟩, by omega⟩
  constructor
  · obtain ⟨p, hp, _⟩ := key 0 ho.some
    intro e
    rw [e] at hp
    simp at hp
  · refine siph_mk (placesL_iff.2 ⟨hn, fun p hp => ?_⟩) fun t ht _ => ?_
    · have := mem_none.1 hp; omega
    · obtain ⟨k, hk, rfl⟩ := List.getElem_of_mem ht
      have e : tranAt n.trans k = n.trans[k] := by simp [tranAt, List.getD, List.getElem?_eq_getElem hk]
      obtain ⟨p, hp, h0⟩ := key k hk
      rw [e] at h0
      exact anyAt_of hp h0

/-- The places whose bits are set, rising. -/
def bitsL (P s : Nat) : List Int := ((List.range P).filter fun p => s.testBit p).map fun p : Nat => (p : Int)
def maskTo (f : Nat → Bool) : Nat → Nat
  | 0 => 0
  | P + 1 => 2 ^ P * (if f P then 1 else 0) + maskTo f P
theorem mask_lt (f : Nat → Bool) (P : Nat) : maskTo f P < 2 ^ P := by
  induction P with
  | zero => simp [maskTo]
  | succ P ih => unfold maskTo; rw [Nat.pow_succ]; split <;> omega
theorem mask_bit (f : Nat → Bool) : ∀ (P p : Nat), (maskTo f P).testBit p = (decide (p < P) && f p) := by
  intro P
  induction P with
  | zero => intro p; simp [maskTo]
  | succ P ih =>
    intro p
    unfold maskTo
    have hlt := mask_lt f P
    cases hf : f P with
    | false =>
      simp only [Bool.false_eq_true, if_false, Nat.mul_zero, Nat.zero_add]
      rw [ih p]
      by_cases e : p = P
      · subst e; simp [hf]
      · by_cases h : p < P
        · simp [h, Nat.lt_succ_of_lt h]
        · simp [h, show ¬ p < P + 1 by omega]
    | true =>
      simp only [if_true, Nat.mul_one]
      by_cases e : p = P
      · subst e
        rw [Nat.testBit_two_pow_add_eq, ih p]
        simp [hf]
      · by_cases h : p < P
        · rw [Nat.testBit_two_pow_add_gt h, ih p]; simp [h, Nat.lt_succ_of_lt h]
        · have h2 : 2 ^ P + maskTo f P < 2 ^ p := by
            have : 2 ^ (P + 1) ≤ 2 ^ p := Nat.pow_le_pow_right (by omega) (by omega)
            rw [Nat.pow_succ] at this
            omega
          rw [Nat.testBit_lt_two_pow h2]
          simp [show ¬ p < P + 1 by omega]
theorem bits_mask (f : Nat → Bool) (P : Nat) : bitsL P (maskTo f P) = ((List.range P).filter f).map fun p : Nat => (p : Int) := by
  unfold bitsL
  congr 1
  apply List.filter_congr
  intro p hp
  rw [mask_bit]
  simp [List.mem_range.1 hp]
theorem none_bits (m : List Int) (h : noneL m ≠ []) : ∃ s, 0 < s ∧ s < 2 ^ m.length ∧ bitsL m.length s = noneL m := by
  refine ⟨maskTo (fun p => nth m p == 0) m.length, ?_, mask_lt _ _, bits_mask _ _⟩
  rcases Nat.eq_zero_or_pos (maskTo (fun p => nth m p == 0) m.length) with e | e
  · exfalso
    have h2 := bits_mask (fun p => nth m p == 0) m.length
    rw [e] at h2
    apply h
    unfold noneL
    rw [← h2]
    simp [bitsL]
  · exact e

/-- COMMONER. -/
theorem commoner {n : NetL} {m x seq : List Int} (ho : OrdN n) (hm : m.length = n.places.toNat) (hc : ∀ s, 0 < s → s < 2 ^ m.length → siphL n (bitsL m.length s) = true → bareL m (mostL (turnL n) (bitsL m.length s)) = false)
    (hr : runL n m seq = (x, 0)) : canTo n x n.trans.length ≠ [] := by
  intro hd
  have hf := (run_fits seq hr).2
  obtain ⟨h1, h2⟩ := dead_siph hf ho hd
  have hxl : x.length = m.length := by have := (fits_net hf).2.1; omega
  obtain ⟨s, s1, s2, s3⟩ := none_bits x h1
  rw [hxl] at s2 s3
  rw [← s3] at h2
  have h3 := hc s s1 s2 h2
  have hp : placesL (turnL n) (bitsL m.length s) = true := by rw [turn_places]; exact siph_places h2
  have h4 := run_marked (most_siph hp) seq hr h3
  obtain ⟨p, q1, q2, q3, q4⟩ := bareL_iff.1 h4
  have q5 := most_in _ _ p q1
  rw [s3] at q5
  have := (mem_none.1 q5).2.2
  omega

end Go.Proofs.Ytnklepfommakpaa
