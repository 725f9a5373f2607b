/- The document's own answers for choices: who shares a place with whom. -/
import Derived.Test.YtgedpebnipghlaaChoiceBase
import Derived.Test.YtgedpebnipghlaaTongInts
import Derived.Test.YtgedpebnipghlaaNet2
import Derived.BigQuiet
namespace Go.Proofs.Ytgedpebnipghlaa
open Go.RowKit
set_option linter.unusedVariables false
set_option maxRecDepth 4000

/-- Of the first so many places none is shared. -/
def NotTo (n : NetL) (i j k : Nat) : Prop := ∀ p, p < k → ¬ (0 < nth (tranAt n.trans i).pre p ∧ 0 < nth (tranAt n.trans j).pre p)
theorem notTo_succ {n : NetL} {i j k : Nat} (h : NotTo n i j k) (hn : ¬ (0 < nth (tranAt n.trans i).pre k ∧ 0 < nth (tranAt n.trans j).pre k)) : NotTo n i j (k + 1) := by
  intro p hp
  rcases Nat.lt_or_ge p k with h1 | h1
  · exact h p h1
  · obtain rfl : p = k := by omega
    exact hn
theorem net_places {n : NetL} (hn : netOk n = true) : ∃ P : Nat, n.places = (P : Int) ∧ P ≤ 16 := by
  unfold netOk headOk at hn
  simp only [Bool.and_eq_true, decide_eq_true_eq] at hn
  exact ⟨n.places.toNat, by omega, by omega⟩
theorem net_weight {n : NetL} (hn : netOk n = true) {k : Nat} (hk : k < n.trans.length) (p : Nat) : 0 ≤ nth (tranAt n.trans k).pre p ∧ nth (tranAt n.trans k).pre p ≤ 9 := by
  by_cases hp : p < (tranAt n.trans k).pre.length
  · have h := net_tran hn hk
    unfold tranOk at h
    simp only [Bool.and_eq_true, List.all_eq_true, List.mem_append] at h
    have h2 := h.2 (nth (tranAt n.trans k).pre p) (.inl (by unfold nth; rw [List.getD_eq_getElem?_getD, List.getElem?_eq_getElem hp]; exact List.getElem_mem _))
    unfold weightOk at h2
    simp only [Bool.and_eq_true, decide_eq_true_eq] at h2
    exact h2
  · rw [nth_past _ _ (by omega)]; omega
theorem notTo_all {n : NetL} (hn : netOk n = true) {i j P : Nat} (hi : i < n.trans.length) (hP : n.places = (P : Int)) (h : NotTo n i j P) : ¬ Shares n i j := by
  rintro ⟨p, h1, h2⟩
  rcases Nat.lt_or_ge p P with h3 | h3
  · exact h p h3 ⟨h1, h2⟩
  · have := (tran_length hn hi).1
    rw [nth_past _ _ (by omega)] at h1
    omega

set_option maxHeartbeats 1000000 in
theorem nshare_any (v : Value) (n : NetL) (i j : Nat) (w : World) (hv : Net w v n) (hn : netOk n = true) (hi : i < n.trans.length) (hj : j < n.trans.length) :
    Calls Try.prog 26 #[v, .int .i64 (i : Int), .int .i64 (j : Int)] w fun e w' => ∃ b, e = .returned (.bool b) ∧ (b = true ↔ Shares n i j) ∧ Below w.heap.size w w' := by
  obtain ⟨tv, rfl, hT⟩ := hv
  obtain ⟨P, hP, hP16⟩ := net_places hn
  have Hall : Hid (NotTo n i j P → ¬ Shares n i j) := notTo_all hn hi hP
  have Hwi : Hid _ := net_weight hn hi
  have Hwj : Hid _ := net_weight hn hj
  have HLi : Hid ((tranAt n.trans i).pre.length = P) := by have := (tran_length hn hi).1; show _ = _; omega
  have HLj : Hid ((tranAt n.trans j).pre.length = P) := by have := (tran_length hn hj).1; show _ = _; omega
  rw [hP]
  have c := below_new w (.cells #[.int .i64 (P : Int), tv] 24)
  have hbx := box2_new w (.int .i64 (P : Int)) tv 24
  replace hT := hT.below c
  obtain ⟨w0, Hw0⟩ : ∃ w0, Hid (w.alloc (.cells #[.int .i64 (P : Int), tv] 24) = w0) := ⟨_, rfl⟩
  rw [Hw0.out] at c hbx hT
  obtain ⟨a, len, cap, rfl, hlen, hmx, hsh, _⟩ := id hT
  rw [hlen] at hi hj
  clear hlen hP hn hsh
  go_enter Try.func26, Try.ntmps26
  go_upto_region 1 with fail
  rw [Hw0.out]
  clear Hw0
  obtain ⟨x0, x1, x2⟩ := id hbx
  go_wp2_with fail
  clear x0 x1 x2
  go_loopg [10] P (fun gk i' wr => ∃ k : Nat, k + gk = P ∧ i' = .int .i64 (k : Int) ∧ Hid (NotTo n i j k) ∧ Below w0.heap.size w0 wr)
  case atStart => exact ⟨0, by omega, rfl, fun p hp => absurd hp (Nat.not_lt_zero _), Below.refl _ _⟩
  case round =>
    obtain ⟨k, hkg, rfl, HN, hb⟩ := hrel
    by_cases hk : k < P
    · obtain ⟨x0, x1, x2⟩ := hbx.below hb
      obtain ⟨bt, ot, p1, q1, rfl, hlt, h0, h1, h2, i1, _⟩ := (hT.below hb).at hi
      obtain ⟨bt', ot', p2, q2, e, _, g0, g1, g2, i2, _⟩ := (hT.below hb).at hj
      injection e with e
      injection e with e1 e2
      subst e1 e2
      obtain ⟨a1, l1, c1, rfl, hl1, _, _, _⟩ := id i1
      obtain ⟨a2, l2, c2, rfl, hl2, _, _, _⟩ := id i2
      obtain rfl : l1 = P := by rw [← hl1]; exact HLi.out
      obtain rfl : l2 = l1 := by rw [← hl2]; exact HLj.out
      obtain ⟨b1, o1, rfl, _, cX⟩ := ints_atL i1 hk
      obtain ⟨b2, o2, rfl, _, cY⟩ := ints_atL i2 hk
      have Wx := Hwi.out k
      have Wy := Hwj.out k
      have HS : Hid (¬ (0 < nth (tranAt n.trans i).pre k ∧ 0 < nth (tranAt n.trans j).pre k) → NotTo n i j (k + 1)) := notTo_succ HN.out
      have HY : Hid (0 < nth (tranAt n.trans i).pre k ∧ 0 < nth (tranAt n.trans j).pre k → Shares n i j) := fun h => ⟨k, h⟩
      clear i1 i2 hl1 hl2 h0 h2 g0 g2 HN
      generalize nth (tranAt n.trans i).pre k = x at *
      generalize nth (tranAt n.trans j).pre k = y at *
      by_cases hx : 0 < x
      · by_cases hy : 0 < y
        · have R : Hid (Shares n i j) := HY.out ⟨hx, hy⟩
          have z1 : 0 < x * y := Int.mul_pos hx hy
          have z2 : x * y ≤ 9 * 9 := Int.mul_le_mul Wx.2 Wy.2 (by omega) (by omega)
          clear HS HY
          go_wp2_with fail
          go_quiet (fail)
          have B := below_then c (below_drewN hb nq)
          clear x0 x1 x2 h1 g1 cX cY
          go_wp2
          go_ret
          exact ⟨true, rfl, ⟨fun _ => R.out, fun _ => rfl⟩, B⟩
        · obtain rfl : y = 0 := by omega
          have R : Hid _ := HS.out (by omega)
          clear HS HY
          go_wp2_with fail
          go_quiet (fail)
          have B := below_drewN hb nq
          clear x0 x1 x2 h1 g1 cX cY
          go_wp2
          go_roundg (gk - 1)
          case measure => omega
          case rel => exact ⟨k + 1, by omega, by go_num, R, B⟩
      · obtain rfl : x = 0 := by omega
        have R : Hid _ := HS.out (by omega)
        clear HS HY
        go_wp2_with fail
        go_quiet (fail)
        have B := below_drewN hb nq
        clear x0 x1 x2 h1 g1 cX cY
        go_wp2
        go_roundg (gk - 1)
        case measure => omega
        case rel => exact ⟨k + 1, by omega, by go_num, R, B⟩
    · obtain rfl : k = P := by omega
      have R : Hid (¬ Shares n i j) := Hall.out HN.out
      have B := below_then c hb
      clear HN Hall
      go_wp2
      go_ret
      exact ⟨false, rfl, ⟨fun h => (by cases h), fun h => absurd h R.out⟩, B⟩

end Go.Proofs.Ytgedpebnipghlaa
