/- Package journal as it landed: turned bits, sums, what fits. -/
import Derived.Test.YteohpkicbkhpjaaJournMem
import Derived.BigRegion
namespace Go.Proofs.Yteohpkicbkhpjaa
open Go.RowKit
set_option linter.unusedVariables false
set_option linter.unusedSimpArgs false
set_option maxRecDepth 4000

theorem rot_bits0 {x : Int} (hx : isByte x) : rotI x 0 = bits BinOp.or IntKind.u8 x (x / 256) := by
  have key : ∀ n, n < 256 → rotI ((n : Nat) : Int) 0 = bits BinOp.or IntKind.u8 (n : Int) ((n : Int) / 256) := by decide +kernel
  obtain ⟨n, rfl⟩ := Int.eq_ofNat_of_zero_le hx.1
  exact key n (by have := hx.2; omega)
theorem rot_bits1 {x : Int} (hx : isByte x) : rotI x 1 = bits BinOp.or IntKind.u8 (x * 2 % 256) (x / 128) := by
  have key : ∀ n, n < 256 → rotI ((n : Nat) : Int) 1 = bits BinOp.or IntKind.u8 ((n : Int) * 2 % 256) ((n : Int) / 128) := by decide +kernel
  obtain ⟨n, rfl⟩ := Int.eq_ofNat_of_zero_le hx.1
  exact key n (by have := hx.2; omega)
theorem rot_bits2 {x : Int} (hx : isByte x) : rotI x 2 = bits BinOp.or IntKind.u8 (x * 4 % 256) (x / 64) := by
  have key : ∀ n, n < 256 → rotI ((n : Nat) : Int) 2 = bits BinOp.or IntKind.u8 ((n : Int) * 4 % 256) ((n : Int) / 64) := by decide +kernel
  obtain ⟨n, rfl⟩ := Int.eq_ofNat_of_zero_le hx.1
  exact key n (by have := hx.2; omega)
theorem rot_bits3 {x : Int} (hx : isByte x) : rotI x 3 = bits BinOp.or IntKind.u8 (x * 8 % 256) (x / 32) := by
  have key : ∀ n, n < 256 → rotI ((n : Nat) : Int) 3 = bits BinOp.or IntKind.u8 ((n : Int) * 8 % 256) ((n : Int) / 32) := by decide +kernel
  obtain ⟨n, rfl⟩ := Int.eq_ofNat_of_zero_le hx.1
  exact key n (by have := hx.2; omega)
theorem rot_bits4 {x : Int} (hx : isByte x) : rotI x 4 = bits BinOp.or IntKind.u8 (x * 16 % 256) (x / 16) := by
  have key : ∀ n, n < 256 → rotI ((n : Nat) : Int) 4 = bits BinOp.or IntKind.u8 ((n : Int) * 16 % 256) ((n : Int) / 16) := by decide +kernel
  obtain ⟨n, rfl⟩ := Int.eq_ofNat_of_zero_le hx.1
  exact key n (by have := hx.2; omega)
theorem rot_bits5 {x : Int} (hx : isByte x) : rotI x 5 = bits BinOp.or IntKind.u8 (x * 32 % 256) (x / 8) := by
  have key : ∀ n, n < 256 → rotI ((n : Nat) : Int) 5 = bits BinOp.or IntKind.u8 ((n : Int) * 32 % 256) ((n : Int) / 8) := by decide +kernel
  obtain ⟨n, rfl⟩ := Int.eq_ofNat_of_zero_le hx.1
  exact key n (by have := hx.2; omega)
theorem rot_bits6 {x : Int} (hx : isByte x) : rotI x 6 = bits BinOp.or IntKind.u8 (x * 64 % 256) (x / 4) := by
  have key : ∀ n, n < 256 → rotI ((n : Nat) : Int) 6 = bits BinOp.or IntKind.u8 ((n : Int) * 64 % 256) ((n : Int) / 4) := by decide +kernel
  obtain ⟨n, rfl⟩ := Int.eq_ofNat_of_zero_le hx.1
  exact key n (by have := hx.2; omega)
theorem rot_bits7 {x : Int} (hx : isByte x) : rotI x 7 = bits BinOp.or IntKind.u8 (x * 128 % 256) (x / 2) := by
  have key : ∀ n, n < 256 → rotI ((n : Nat) : Int) 7 = bits BinOp.or IntKind.u8 ((n : Int) * 128 % 256) ((n : Int) / 2) := by decide +kernel
  obtain ⟨n, rfl⟩ := Int.eq_ofNat_of_zero_le hx.1
  exact key n (by have := hx.2; omega)

set_option maxHeartbeats 2000000 in
theorem rotate_any (x : Int) (k : Nat) (w : World) (hx : isByte x) (hk : k < 8) :
    Calls Try.prog 19 #[.int .u8 x, .int .i64 (k : Int)] w fun e w' => e = .returned (.int .u8 (rotI x k)) ∧ w' = w := by
  obtain ⟨h0, h1⟩ := id hx
  have hcase : k = 0 ∨ k = 1 ∨ k = 2 ∨ k = 3 ∨ k = 4 ∨ k = 5 ∨ k = 6 ∨ k = 7 := by omega
  go_enter Try.func19, Try.ntmps19
  rcases hcase with rfl | rfl | rfl | rfl | rfl | rfl | rfl | rfl
  · have hb : bits BinOp.and IntKind.u64 0 7 = 0 := by decide
    have R : Hid _ := rot_bits0 hx
    go_wp2
    go_ret
    exact ⟨ret_int R.out.symm, rfl⟩
  · have hb : bits BinOp.and IntKind.u64 1 7 = 1 := by decide
    have R : Hid _ := rot_bits1 hx
    go_wp2
    go_ret
    exact ⟨ret_int R.out.symm, rfl⟩
  · have hb : bits BinOp.and IntKind.u64 2 7 = 2 := by decide
    have R : Hid _ := rot_bits2 hx
    go_wp2
    go_ret
    exact ⟨ret_int R.out.symm, rfl⟩
  · have hb : bits BinOp.and IntKind.u64 3 7 = 3 := by decide
    have R : Hid _ := rot_bits3 hx
    go_wp2
    go_ret
    exact ⟨ret_int R.out.symm, rfl⟩
  · have hb : bits BinOp.and IntKind.u64 4 7 = 4 := by decide
    have R : Hid _ := rot_bits4 hx
    go_wp2
    go_ret
    exact ⟨ret_int R.out.symm, rfl⟩
  · have hb : bits BinOp.and IntKind.u64 5 7 = 5 := by decide
    have R : Hid _ := rot_bits5 hx
    go_wp2
    go_ret
    exact ⟨ret_int R.out.symm, rfl⟩
  · have hb : bits BinOp.and IntKind.u64 6 7 = 6 := by decide
    have R : Hid _ := rot_bits6 hx
    go_wp2
    go_ret
    exact ⟨ret_int R.out.symm, rfl⟩
  · have hb : bits BinOp.and IntKind.u64 7 7 = 7 := by decide
    have R : Hid _ := rot_bits7 hx
    go_wp2
    go_ret
    exact ⟨ret_int R.out.symm, rfl⟩

theorem within_any (x m : Int) (w : World) : Calls Try.prog 18 #[.int .i64 x, .int .i64 m] w fun e w' => e = .returned (.bool (inB x m)) ∧ w' = w := by
  go_enter Try.func18, Try.ntmps18
  by_cases h : 0 ≤ x
  · have h' : decide (0 ≤ x) = true := decide_eq_true h
    have R : Hid (inB x m = decide (x ≤ m)) := by show _ = _; simp [inB, h]
    go_wp2
    go_ret
    exact ⟨ret_bool R.out.symm, rfl⟩
  · have h' : decide (0 ≤ x) = false := decide_eq_false h
    have R : Hid (inB x m = false) := by show _ = _; simp [inB, h]
    go_wp2
    go_ret
    exact ⟨ret_bool R.out.symm, rfl⟩

theorem fits_any (o : DOp) (w : World) : Calls Try.prog 14 #[dopW o] w fun e w' => e = .returned (.bool (fitsO o)) ∧ Below w.heap.size w w' := by
  have b1 := below_new w (.cells (dopA o) 23)
  have hB := boxJ_new w o
  unfold dopW
  obtain ⟨wa, Hwa⟩ : ∃ v, Hid (w.alloc (.cells (dopA o) 23) = v) := ⟨_, rfl⟩
  rw [Hwa.out] at b1 hB
  obtain ⟨c0, c1, c2, c3, c4⟩ := hB.cells
  have E : Hid (fitsO o = (inB o.kind 255 && inB o.user 255 && inB o.tran 255 && inB o.hand 255 && inB o.item 65535)) := rfl
  obtain ⟨k0, H0⟩ : ∃ b, Hid (inB o.kind 255 = b) := ⟨_, rfl⟩
  obtain ⟨k1, H1⟩ : ∃ b, Hid (inB o.user 255 = b) := ⟨_, rfl⟩
  obtain ⟨k2, H2⟩ : ∃ b, Hid (inB o.tran 255 = b) := ⟨_, rfl⟩
  obtain ⟨k3, H3⟩ : ∃ b, Hid (inB o.hand 255 = b) := ⟨_, rfl⟩
  obtain ⟨k4, H4⟩ : ∃ b, Hid (inB o.item 65535 = b) := ⟨_, rfl⟩
  rw [H0.out, H1.out, H2.out, H3.out, H4.out] at E
  rw [E.out]
  clear E hB
  go_enter Try.func14, Try.ntmps14
  go_upto_region 1 with fail
  rw [Hwa.out]
  clear Hwa
  go_wp2_with fail
  refine (within_any o.kind 255 wa).mono ?_
  rintro e _ ⟨rfl, rfl⟩
  rw [H0.out]
  clear H0
  cases k0
  · go_wp2
    go_ret
    exact ⟨rfl, b1⟩
  go_wp2_with fail
  refine (within_any o.user 255 _).mono ?_
  rintro e _ ⟨rfl, rfl⟩
  rw [H1.out]
  clear H1
  cases k1
  · go_wp2
    go_ret
    exact ⟨rfl, b1⟩
  go_wp2_with fail
  refine (within_any o.tran 255 _).mono ?_
  rintro e _ ⟨rfl, rfl⟩
  rw [H2.out]
  clear H2
  cases k2
  · go_wp2
    go_ret
    exact ⟨rfl, b1⟩
  go_wp2_with fail
  refine (within_any o.hand 255 _).mono ?_
  rintro e _ ⟨rfl, rfl⟩
  rw [H3.out]
  clear H3
  cases k3
  · go_wp2
    go_ret
    exact ⟨rfl, b1⟩
  go_wp2_with fail
  refine (within_any o.item 65535 _).mono ?_
  rintro e _ ⟨rfl, rfl⟩
  rw [H4.out]
  clear H4
  cases k4
  · go_wp2
    go_ret
    exact ⟨rfl, b1⟩
  · go_wp2
    go_ret
    exact ⟨rfl, b1⟩

theorem xor_bits {x y : Int} (hx : isByte x) (hy : isByte y) : bits BinOp.xor IntKind.u8 x y = xorI x y := by
  obtain ⟨n, rfl⟩ := Int.eq_ofNat_of_zero_le hx.1
  obtain ⟨m, rfl⟩ := Int.eq_ofNat_of_zero_le hy.1
  have hn : n < 256 := by have := hx.2; omega
  have hm : m < 256 := by have := hy.2; omega
  have hxm := Nat.xor_lt_two_pow (n := 8) (x := n) (y := m) hn hm
  have e1 : (BitVec.ofInt 8 (n : Int)).toNat = n := by simp [BitVec.toNat_ofInt]; omega
  have e2 : (BitVec.ofInt 8 (m : Int)).toNat = m := by simp [BitVec.toNat_ofInt]; omega
  show IntKind.wrap IntKind.u8 (((BitVec.ofInt 8 (n : Int)) ^^^ (BitVec.ofInt 8 (m : Int))).toNat : Nat) = _
  rw [BitVec.toNat_xor, e1, e2]
  show _ = ((n ^^^ m : Nat) : Int)
  unfold IntKind.wrap
  simp [IntKind.bits, IntKind.signed]
  omega

set_option maxHeartbeats 1000000 in
theorem sum_any (v : Value) (xs : List Int) (w : World) (hv : BytesV w v xs) (hl : xs.length ≤ 8) :
    Calls Try.prog 15 #[v] w fun e w' => e = .returned (.int .u8 (sumJ xs xs.length)) ∧ w' = w := by
  obtain ⟨a, cap, rfl, _, hsh⟩ := hv.slice
  have HB : Hid (∀ j, isByte (nth xs j)) := fun j => hv.byte j
  obtain ⟨n, Hn⟩ : ∃ n, Hid (xs.length = n) := ⟨_, rfl⟩
  rw [Hn.out] at hv hsh hl ⊢
  go_enter Try.func15, Try.ntmps15
  go_wp2_with fail
  go_loopg [3, 8] n (fun gk sm ix wr => ∃ k : Nat, k + gk = n ∧ ix = .int .i64 k ∧ sm = .int .u8 (sumJ xs k) ∧ wr = w)
  case atStart => exact ⟨0, by omega, rfl, rfl, rfl⟩
  case round =>
    obtain ⟨k, hkg, rfl, rfl, rfl⟩ := hrel
    by_cases hkn : k < n
    · obtain ⟨b, off, rfl, _, hc⟩ := hv.at hkn
      have hx := HB.out k
      have hS : isByte (sumJ xs k) := sumJ_byte HB.out (by omega)
      have hR : isByte (rotI (nth xs k) k) := rotI_byte hx (by omega)
      have HN : Hid (sumJ xs (k + 1) = xorI (sumJ xs k) (rotI (nth xs k) k)) := rfl
      obtain ⟨S, HS⟩ : ∃ S, Hid (sumJ xs k = S) := ⟨_, rfl⟩
      obtain ⟨x, Hx⟩ : ∃ S, Hid (nth xs k = S) := ⟨_, rfl⟩
      rw [HS.out] at HN hS ⊢
      rw [Hx.out] at HN hx hR hc
      go_wp2_with fail
      refine (rotate_any x k _ hx (by omega)).mono ?_
      rintro e _ ⟨rfl, rfl⟩
      obtain ⟨r, Hr⟩ : ∃ S, Hid (rotI x k = S) := ⟨_, rfl⟩
      rw [Hr.out] at HN hR ⊢
      have hX : Hid (bits BinOp.xor IntKind.u8 S r = xorI S r) := xor_bits hS hR
      obtain ⟨q1, q2⟩ := hS
      obtain ⟨q3, q4⟩ := hR
      go_wp2
      go_roundg (gk - 1)
      case measure => omega
      case rel => exact ⟨k + 1, by omega, by go_num, by rw [HN.out, hX.out], rfl⟩
    · obtain rfl : k = n := by omega
      go_wp2
      go_ret
      exact ⟨rfl, rfl⟩

end Go.Proofs.Yteohpkicbkhpjaa
