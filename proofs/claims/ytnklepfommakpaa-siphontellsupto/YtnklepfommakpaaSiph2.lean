/- The answers of the document itself for siphon: whether places are one. -/
import Derived.Test.YtnklepfommakpaaSiphBase2
import Derived.Test.YtnklepfommakpaaNet1
import Derived.Test.YtnklepfommakpaaSlices1
namespace Go.Proofs.Ytnklepfommakpaa
open Go.RowKit
set_option linter.unusedVariables false

def bareAt (m l : List Int) (k : Nat) : Prop := ∀ j, j < k → ¬ (0 ≤ nth l j ∧ nth l j < m.length ∧ nth m (nth l j).toNat ≠ 0)
theorem bareAt_all {m l : List Int} (h : bareAt m l l.length) : anyAt m l = false := by
  cases hb : anyAt m l with
  | false => rfl
  | true =>
    exfalso
    obtain ⟨p, h1, h2⟩ := anyAt_iff.1 hb
    obtain ⟨j, hj, e⟩ := List.getElem_of_mem h1
    refine h j hj ?_
    have : nth l j = p := by simp [nth, List.getD, List.getElem?_eq_getElem hj, e]
    rw [this]; exact h2
theorem bareAt_no {m l : List Int} {j : Nat} (hj : j < l.length) (h : 0 ≤ nth l j ∧ nth l j < m.length ∧ nth m (nth l j).toNat ≠ 0) : anyAt m l = true := by
  have e : nth l j = l[j] := by simp [nth, List.getD, List.getElem?_eq_getElem hj]
  exact anyAt_iff.2 ⟨nth l j, by rw [e]; exact List.getElem_mem hj, h⟩
theorem bareAt_succ {m l : List Int} {k : Nat} (h : bareAt m l k) (hn : ¬ (0 ≤ nth l k ∧ nth l k < m.length ∧ nth m (nth l k).toNat ≠ 0)) : bareAt m l (k + 1) := by
  intro j hj
  by_cases e : j = k
  · subst e; exact hn
  · exact h j (by omega)

set_option maxHeartbeats 1000000 in
theorem fany_any (v u : Value) (m l : List Int) (w : World) (hv : Ints w v m) (hu : Ints w u l) :
    Calls Try.prog 31 #[v, u] w fun e w' => e = .returned (.bool (anyAt m l)) ∧ w' = w := by
  obtain ⟨a, la, ca, rfl, hla, hma, hsa, hra⟩ := hv
  obtain ⟨b, lb, cb, rfl, hlb, hmb, hsb, hrb⟩ := hu
  have HN : Hid (∀ j, j < lb → (0 ≤ nth l j ∧ nth l j < la ∧ nth m (nth l j).toNat ≠ 0) → anyAt m l = true) := fun j hj h => bareAt_no (j := j) (by omega) (by rw [hla]; exact h)
  have HS : Hid (∀ k, bareAt m l k → ¬ (0 ≤ nth l k ∧ nth l k < la ∧ nth m (nth l k).toNat ≠ 0) → bareAt m l (k + 1)) := fun k h hn => bareAt_succ h (by rw [hla]; exact hn)
  have HA : Hid (bareAt m l lb → anyAt m l = false) := fun h => bareAt_all (by rw [hlb]; exact h)
  go_enter Try.func31, Try.ntmps31
  go_wp2_with fail
  go_loop [9] (fun i => ∃ k : Nat, k ≤ lb ∧ i = .int .i64 k ∧ Hid (bareAt m l k)) (fun i => lb - (intOf i).toNat)
  case atStart => exact ⟨0, Nat.zero_le _, rfl, fun j hj => absurd hj (Nat.not_lt_zero _)⟩
  case round =>
    obtain ⟨k, hk, rfl, hB⟩ := hrel
    by_cases hkn : k < lb
    · obtain ⟨bb, off, rfl, hbb, hc⟩ := hrb k (by omega)
      have Hn : Hid _ := HN.out k hkn
      have Hs : Hid _ := HS.out k hB.out
      clear hrb HN HS HA hB
      generalize nth l k = p at *
      by_cases h0 : p < 0
      · have R : Hid _ := Hs.out (by omega)
        clear Hn Hs hra
        go_wp2
        go_round
        case rel => exact ⟨k + 1, by omega, by go_num, R⟩
        case measure => simp [intOf]; omega
      · by_cases h1 : (la : Int) ≤ p
        · have R : Hid _ := Hs.out (by omega)
          clear Hn Hs hra
          go_wp2
          go_round
          case rel => exact ⟨k + 1, by omega, by go_num, R⟩
          case measure => simp [intOf]; omega
        · obtain ⟨q, rfl⟩ := Int.eq_ofNat_of_zero_le (show 0 ≤ p by omega)
          obtain ⟨ba, offa, rfl, hba, hca⟩ := hra q (by omega)
          rw [Int.toNat_natCast] at Hn Hs
          clear hra
          have hql : q < la := by omega
          generalize nth m q = x at *
          by_cases h2 : x ≠ 0
          · have R : Hid _ := Hn.out ⟨by omega, by omega, h2⟩
            clear Hn Hs
            go_wp2
            go_ret
            exact ⟨ret_bool R.out.symm, rfl⟩
          · have R : Hid _ := Hs.out (by omega)
            clear Hn Hs
            go_wp2
            go_round
            case rel => exact ⟨k + 1, by omega, by go_num, R⟩
            case measure => simp [intOf]; omega
    · have e : k = lb := by omega
      have R : Hid (anyAt m l = false) := HA.out (by rw [← e]; exact hB.out)
      go_wp2
      go_ret
      exact ⟨ret_bool R.out.symm, rfl⟩

def inTo2 (n : NetL) (l : List Int) (k : Nat) : Bool := netOk n && (l.take k).all fun p => decide (0 ≤ p) && decide (p < n.places)
theorem inTo2_succ {n : NetL} {l : List Int} {k : Nat} (hk : k < l.length) : inTo2 n l (k + 1) = (inTo2 n l k && (decide (0 ≤ nth l k) && decide (nth l k < n.places))) := by
  unfold inTo2
  rw [List.take_succ_eq_append_getElem hk, List.all_append]
  simp [nth, List.getD, List.getElem?_eq_getElem hk, Bool.and_assoc]
theorem inTo2_all {n : NetL} {l : List Int} {k : Nat} (hk : k = l.length) : inTo2 n l k = placesL n l := by unfold inTo2 placesL; rw [List.take_of_length_le (by omega)]
theorem inTo2_zero (n : NetL) (l : List Int) : inTo2 n l 0 = (wrongL n == 0) := by
  unfold inTo2 wrongL
  cases netOk n <;> simp

set_option maxHeartbeats 1000000 in
theorem fplaces_any (v u : Value) (n : NetL) (l : List Int) (w : World) (hv : Net w v n) (hu : Ints w u l) (hsm : SmallNet n) :
    Calls Try.prog 30 #[v, u] w fun e w' => e = .returned (.bool (placesL n l)) ∧ Below w.heap.size w w' := by
  obtain ⟨tv, rfl, hT⟩ := hv
  have c := below_new w (.cells #[.int .i64 n.places, tv] 24)
  have hbx := box2_new w (.int .i64 n.places) tv 24
  have hv : Net _ (.agg #[.int .i64 n.places, tv]) n := ⟨_, rfl, hT.below c⟩
  replace hu := hu.below c
  clear hT
  obtain ⟨ans, E⟩ : ∃ ans, Hid (placesL n l = ans) := ⟨_, rfl⟩
  rw [E.out]
  go_enter Try.func30, Try.ntmps30
  go_wp2_with fail
  refine (bwrong_any _ n _ (by exact hv) hsm).mono ?_
  rintro e w1 ⟨rfl, b⟩
  replace hu := hu.below b
  replace hbx := hbx.below b
  replace c := below_then c b
  clear b hv
  obtain ⟨x0, x1, x2⟩ := id hbx
  obtain ⟨a, ll, ca, rfl, hll, hml, _, hrl⟩ := hu
  have Hz : Hid (inTo2 n l 0 = (wrongL n == 0)) := inTo2_zero n l
  go_wp2_with fail
  go_loop [5, 13] (fun o i => ∃ k : Nat, k ≤ ll ∧ i = .int .i64 k ∧ o = .bool (inTo2 n l k)) (fun _ i => ll - (intOf i).toNat)
  case atStart => exact ⟨0, Nat.zero_le _, rfl, by rw [Hz.out]⟩
  case round =>
    obtain ⟨k, hk, rfl, rfl⟩ := hrel
    by_cases hkn : k < ll
    · obtain ⟨bb, off, rfl, hbb, hc⟩ := hrl k (by omega)
      have Hs : Hid _ := inTo2_succ (n := n) (l := l) (k := k) (by omega)
      clear hrl Hz
      generalize nth l k = p at *
      generalize inTo2 n l k = ok at *
      cases ok
      · have R : Hid (inTo2 n l (k + 1) = false) := Hs.out
        clear Hs
        go_wp2
        go_round
        case rel => exact ⟨k + 1, by omega, by go_num, by rw [R.out]⟩
        case measure => simp [intOf]; omega
      · by_cases h0 : 0 ≤ p
        · have R : Hid (inTo2 n l (k + 1) = decide (p < n.places)) := by have := Hs.out; rw [decide_eq_true h0] at this; exact this
          clear Hs
          go_wp2
          go_round
          case rel => exact ⟨k + 1, by omega, by go_num, by rw [R.out]⟩
          case measure => simp [intOf]; omega
        · have R : Hid (inTo2 n l (k + 1) = false) := by have := Hs.out; rw [decide_eq_false h0] at this; exact this
          clear Hs
          go_wp2
          go_round
          case rel => exact ⟨k + 1, by omega, by go_num, by rw [R.out]⟩
          case measure => simp [intOf]; omega
    · have F : Hid (inTo2 n l k = ans) := by rw [← E.out]; exact inTo2_all (by omega)
      rw [F.out]
      clear F Hz hrl
      go_wp2
      go_ret
      exact ⟨rfl, c⟩

def siphTo (n : NetL) (l : List Int) (k : Nat) : Bool := placesL n l && (n.trans.take k).all (siphT l)
theorem siphTo_succ {n : NetL} {l : List Int} {k : Nat} (hk : k < n.trans.length) : siphTo n l (k + 1) = (siphTo n l k && siphT l (tranAt n.trans k)) := by
  unfold siphTo
  rw [List.take_succ_eq_append_getElem hk, List.all_append]
  simp [tranAt, List.getD, List.getElem?_eq_getElem hk, Bool.and_assoc]
theorem siphTo_all {n : NetL} {l : List Int} {k : Nat} (hk : k = n.trans.length) : siphTo n l k = siphL n l := by unfold siphTo siphL; rw [List.take_of_length_le (by omega)]
theorem siphTo_zero (n : NetL) (l : List Int) : siphTo n l 0 = placesL n l := by unfold siphTo; simp

set_option maxHeartbeats 1000000 in
theorem fsiphon_any (v u : Value) (n : NetL) (l : List Int) (w : World) (hv : Net w v n) (hu : Ints w u l) (hsm : SmallNet n) :
    Calls Try.prog 11 #[v, u] w fun e w' => e = .returned (.bool (siphL n l)) ∧ Below w.heap.size w w' := by
  obtain ⟨tv, rfl, hT⟩ := hv
  have c := below_new w (.cells #[.int .i64 n.places, tv] 24)
  have hbx := box2_new w (.int .i64 n.places) tv 24
  have hv : Net _ (.agg #[.int .i64 n.places, tv]) n := ⟨_, rfl, hT.below c⟩
  replace hu := hu.below c
  replace hT := hT.below c
  obtain ⟨ans, E⟩ : ∃ ans, Hid (siphL n l = ans) := ⟨_, rfl⟩
  rw [E.out]
  go_enter Try.func11, Try.ntmps11
  go_wp2_with fail
  refine (fplaces_any _ _ n l _ (by exact hv) (by exact hu) hsm).mono ?_
  rintro e w1 ⟨rfl, b⟩
  replace hu := hu.below b
  replace hT := hT.below b
  replace hbx := hbx.below b
  replace c := below_then c b
  clear b hv
  obtain ⟨x0, x1, x2⟩ := id hbx
  obtain ⟨a, len, cap, rfl, hlen, hmx, hsh, _⟩ := id hT
  have Hz : Hid (siphTo n l 0 = placesL n l) := siphTo_zero n l
  go_wp2_with fail
  clear x0 x1 x2
  go_loopg [5, 14] len (fun g o i wr => ∃ k : Nat, k + g = len ∧ i = .int .i64 k ∧ o = .bool (siphTo n l k) ∧ Below w1.heap.size w1 wr)
  case atStart => exact ⟨0, by omega, rfl, by rw [Hz.out], Below.refl _ _⟩
  case round =>
    obtain ⟨k, hkg, rfl, rfl, hb⟩ := hrel
    by_cases hkn : k < len
    · obtain ⟨b, off, c1, c2, rfl, hblt, h0, h1, h2, i1, i2⟩ := (hT.below hb).at hkn
      have hu3 := hu.below hb
      have Hs : Hid _ := siphTo_succ (n := n) (l := l) (k := k) (by omega)
      obtain ⟨a1, l1, p1, rfl, _, _, _, _⟩ := id i1
      obtain ⟨a2, l2, p2, rfl, _, _, _, _⟩ := id i2
      have hbn := below_new wr (.cells #[.int .i64 (tranAt n.trans k).label, .slice a1 l1 p1, .slice a2 l2 p2] 45)
      generalize tranAt n.trans k = t at *
      generalize siphTo n l k = ok at *
      have R := below_then hb hbn
      have j1 := i1.below hbn
      have j2 := i2.below hbn
      have ju := hu3.below hbn
      cases ok
      · have HF : Hid (siphTo n l (k + 1) = false) := Hs.out
        clear Hs Hz j1 j2 ju i1 i2 hb hbn hu3
        go_wp2
        go_roundg (gk - 1)
        case measure => omega
        case rel => exact ⟨k + 1, by omega, by go_num, by rw [HF.out], R⟩
      replace Hs : Hid (siphTo n l (k + 1) = (!anyAt t.post l || anyAt t.pre l)) := Hs.out
      clear Hz
      have hx3 := box3_new wr (.int .i64 t.label) (.slice a1 l1 p1) (.slice a2 l2 p2) 45
      obtain ⟨wt, Hwt⟩ : ∃ wt, Hid (wr.alloc (.cells #[.int .i64 t.label, .slice a1 l1 p1, .slice a2 l2 p2] 45) = wt) := ⟨_, rfl⟩
      rw [Hwt.out] at R j1 j2 ju hx3
      go_upto_region 5 with fail
      rw [Hwt.out]
      clear Hwt i1 i2 hb hbn hu3 h0 h1 h2
      obtain ⟨z0, z1, z2, z3⟩ := hx3
      go_wp2_with fail
      refine (fany_any _ _ t.post l _ (by exact j2) (by exact ju)).mono ?_
      rintro e w3 ⟨rfl, rfl⟩
      cases hp : anyAt t.post l
      · have HF : Hid (siphTo n l (k + 1) = true) := by have := Hs.out; rw [hp] at this; exact this
        clear Hs hp j1 j2 ju
        go_wp2
        go_roundg (gk - 1)
        case measure => omega
        case rel => exact ⟨k + 1, by omega, by go_num, by rw [HF.out], R⟩
      · have HF : Hid (siphTo n l (k + 1) = anyAt t.pre l) := by have := Hs.out; rw [hp] at this; exact this
        clear Hs hp j2
        go_wp2_with fail
        refine (fany_any _ _ t.pre l _ (by exact j1) (by exact ju)).mono ?_
        rintro e w4 ⟨rfl, rfl⟩
        clear j1 ju
        go_wp2
        go_roundg (gk - 1)
        case measure => omega
        case rel => exact ⟨k + 1, by omega, by go_num, by rw [HF.out], R⟩
    · have F : Hid (siphTo n l k = ans) := by rw [← E.out]; exact siphTo_all (by omega)
      rw [F.out]
      have R := below_then c hb
      clear F Hz hb
      go_wp2
      go_ret
      exact ⟨rfl, R⟩

end Go.Proofs.Ytnklepfommakpaa
