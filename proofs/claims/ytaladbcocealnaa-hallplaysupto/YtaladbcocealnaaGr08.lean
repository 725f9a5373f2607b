import Derived.Test.YtaladbcocealnaaGr07
import Derived.BigRegion
/- Package journal as it landed: turned bits, sums, what fits. -/
namespace Go.Proofs.Ytaladbcocealnaa
open Go.RowKit
set_option linter.unusedVariables false
set_option linter.unusedSimpArgs false
set_option maxRecDepth 4000

theorem rot_bits0 {x : Int} (hx : isByte x) : rotI x 0 = bits BinOp.or IntKind.u8 x (x / 256) := by
  have key : ∀ n, n < 256 → rotI ((n : Nat) : Int) 0 = bits BinOp.or IntKind.u8 (n : Int) ((n : Int) / 256) := by decide +kernel
  obtain ⟨n, rfl⟩ := Int.eq_ofNat_of_zero_le hx.1
  exact key n (by have := hx.2; omega)
theorem rot_bits1 {x : Int} (hx : isByte x) : rotI x 1 = bits BinOp.or IntKind.u8 (x * 2 % 256) (x / 128) := by
  have key : ∀ n, n < 256 → rotI ((n : Nat) : Int) 1 = bits BinOp.or IntKind.u8 ((n : Int) * 2 % 256) ((n : Int) / 128) := by decide +kernel
  obtain ⟨n, rfl⟩ := Int.eq_ofNat_of_zero_le hx.1
  exact key n (by have := hx.2; omega)
theorem rot_bits2 {x : Int} (hx : isByte x) : rotI x 2 = bits BinOp.or IntKind.u8 (x * 4 % 256) (x / 64) := by
  have key : ∀ n, n < 256 → rotI ((n : Nat) : Int) 2 = bits BinOp.or IntKind.u8 ((n : Int) * 4 % 256) ((n : Int) / 64) := by decide +kernel
  obtain ⟨n, rfl⟩ := Int.eq_ofNat_of_zero_le hx.1
  exact key n (by have := hx.2; omega)
theorem rot_bits3 {x : Int} (hx : isByte x) : rotI x 3 = bits BinOp.or IntKind.u8 (x * 8 % 256) (x / 32) := by
  have key : ∀ n, n < 256 → rotI ((n : Nat) : Int) 3 = bits BinOp.or IntKind.u8 ((n : Int) * 8 % 256) ((n : Int) / 32) := by decide +kernel
  obtain ⟨n, rfl⟩ := Int.eq_ofNat_of_zero_le hx.1
  exact key n (by have := hx.2; omega)
theorem rot_bits4 {x : Int} (hx : isByte x) : rotI x 4 = bits BinOp.or IntKind.u8 (x * 16 % 256) (x / 16) := by
  have key : ∀ n, n < 256 → rotI ((n : Nat) : Int) 4 = bits BinOp.or IntKind.u8 ((n : Int) * 16 % 256) ((n : Int) / 16) := by decide +kernel
  obtain ⟨n, rfl⟩ := Int.eq_ofNat_of_zero_le hx.1
  exact key n (by have := hx.2; omega)
theorem rot_bits5 {x : Int} (hx : isByte x) : rotI x 5 = bits BinOp.or IntKind.u8 (x * 32 % 256) (x / 8) := by
  have key : ∀ n, n < 256 → rotI ((n : Nat) : Int) 5 = bits BinOp.or IntKind.u8 ((n : Int) * 32 % 256) ((n : Int) / 8) := by decide +kernel
  obtain ⟨n, rfl⟩ := Int.eq_ofNat_of_zero_le hx.1
  exact key n (by have := hx.2; omega)
theorem rot_bits6 {x : Int} (hx : isByte x) : rotI x 6 = bits BinOp.or IntKind.u8 (x * 64 % 256) (x / 4) := by
  have key : ∀ n, n < 256 → rotI ((n : Nat) : Int) 6 = bits BinOp.or IntKind.u8 ((n : Int) * 64 % 256) ((n : Int) / 4) := by decide +kernel
  obtain ⟨n, rfl⟩ := Int.eq_ofNat_of_zero_le hx.1
  exact key n (by have := hx.2; omega)
theorem rot_bits7 {x : Int} (hx : isByte x) : rotI x 7 = bits BinOp.or IntKind.u8 (x * 128 % 256) (x / 2) := by
  have key : ∀ n, n < 256 → rotI ((n : Nat) : Int) 7 = bits BinOp.or IntKind.u8 ((n : Int) * 128 % 256) ((n : Int) / 2) := by decide +kernel
  obtain ⟨n, rfl⟩ := Int.eq_ofNat_of_zero_le hx.1
  exact key n (by have := hx.2; omega)

set_option maxHeartbeats 2000000 in
theorem rotate_any (x : Int) (k : Nat) (w : World) (hx : isByte x) (hk : k < 8) :
    Calls Try.prog 73 #[.int .u8 x, .int .i64 (k : Int)] w fun e w' => e = .returned (.int .u8 (rotI x k)) ∧ w' = w := by
  obtain ⟨h0, h1⟩ := id hx
  have hcase : k = 0 ∨ k = 1 ∨ k = 2 ∨ k = 3 ∨ k = 4 ∨ k = 5 ∨ k = 6 ∨ k = 7 := by omega
  go_enter Try.func73, Try.ntmps73
  rcases hcase with rfl | rfl | rfl | rfl | rfl | rfl | rfl | rfl
  · have hb : bits BinOp.and IntKind.u64 0 7 = 0 := by decide
    have R : Hid _ := rot_bits0 hx
    go_wp2
    go_ret
    exact ⟨ret_int R.out.symm, rfl⟩
  · have hb : bits BinOp.and IntKind.u64 1 7 = 1 := by decide
    have R : Hid _ := rot_bits1 hx
    go_wp2
    go_ret
    exact ⟨ret_int R.out.symm, rfl⟩
  · have hb : bits BinOp.and IntKind.u64 2 7 = 2 := by decide
    have R : Hid _ := rot_bits2 hx
    go_wp2
    go_ret
    exact ⟨ret_int R.out.symm, rfl⟩
  · have hb : bits BinOp.and IntKind.u64 3 7 = 3 := by decide
    have R : Hid _ := rot_bits3 hx
    go_wp2
    go_ret
    exact ⟨ret_int R.out.symm, rfl⟩
  · have hb : bits BinOp.and IntKind.u64 4 7 = 4 := by decide
    have R : Hid _ := rot_bits4 hx
    go_wp2
    go_ret
    exact ⟨ret_int R.out.symm, rfl⟩
  · have hb : bits BinOp.and IntKind.u64 5 7 = 5 := by decide
    have R : Hid _ := rot_bits5 hx
    go_wp2
    go_ret
    exact ⟨ret_int R.out.symm, rfl⟩
  · have hb : bits BinOp.and IntKind.u64 6 7 = 6 := by decide
    have R : Hid _ := rot_bits6 hx
    go_wp2
    go_ret
    exact ⟨ret_int R.out.symm, rfl⟩
  · have hb : bits BinOp.and IntKind.u64 7 7 = 7 := by decide
    have R : Hid _ := rot_bits7 hx
    go_wp2
    go_ret
    exact ⟨ret_int R.out.symm, rfl⟩

theorem within_any (x m : Int) (w : World) : Calls Try.prog 72 #[.int .i64 x, .int .i64 m] w fun e w' => e = .returned (.bool (inB x m)) ∧ w' = w := by
  go_enter Try.func72, Try.ntmps72
  by_cases h : 0 ≤ x
  · have h' : decide (0 ≤ x) = true := decide_eq_true h
    have R : Hid (inB x m = decide (x ≤ m)) := by show _ = _; simp [inB, h]
    go_wp2
    go_ret
    exact ⟨ret_bool R.out.symm, rfl⟩
  · have h' : decide (0 ≤ x) = false := decide_eq_false h
    have R : Hid (inB x m = false) := by show _ = _; simp [inB, h]
    go_wp2
    go_ret
    exact ⟨ret_bool R.out.symm, rfl⟩

theorem fits_any (o : DOp) (w : World) : Calls Try.prog 61 #[dopW o] w fun e w' => e = .returned (.bool (fitsO o)) ∧ Below w.heap.size w w' := by
  have b1 := below_new w (.cells (dopA o) 45)
  have hB := boxJ_new w o
  unfold dopW
  obtain ⟨wa, Hwa⟩ : ∃ v, Hid (w.alloc (.cells (dopA o) 45) = v) := ⟨_, rfl⟩
  rw [Hwa.out] at b1 hB
  obtain ⟨c0, c1, c2, c3, c4⟩ := hB.cells
  have E : Hid (fitsO o = (inB o.kind 255 && inB o.user 255 && inB o.tran 255 && inB o.hand 255 && inB o.item 65535)) := rfl
  obtain ⟨k0, H0⟩ : ∃ b, Hid (inB o.kind 255 = b) := ⟨_, rfl⟩
  obtain ⟨k1, H1⟩ : ∃ b, Hid (inB o.user 255 = b) := ⟨_, rfl⟩
  obtain ⟨k2, H2⟩ : ∃ b, Hid (inB o.tran 255 = b) := ⟨_, rfl⟩
  obtain ⟨k3, H3⟩ : ∃ b, Hid (inB o.hand 255 = b) := ⟨_, rfl⟩
  obtain ⟨k4, H4⟩ : ∃ b, Hid (inB o.item 65535 = b) := ⟨_, rfl⟩
  rw [H0.out, H1.out, H2.out, H3.out, H4.out] at E
  rw [E.out]
  clear E hB
  go_enter Try.func61, Try.ntmps61
  go_upto_region 1 with fail
  rw [Hwa.out]
  clear Hwa
  go_wp2_with fail
  refine (within_any o.kind 255 wa).mono ?_
  rintro e _ ⟨rfl, rfl⟩
  rw [H0.out]
  clear H0
  cases k0
  · go_wp2
    go_ret
    exact ⟨rfl, b1⟩
  go_wp2_with fail
  refine (within_any o.user 255 _).mono ?_
  rintro e _ ⟨rfl, rfl⟩
  rw [H1.out]
  clear H1
  cases k1
  · go_wp2
    go_ret
    exact ⟨rfl, b1⟩
  go_wp2_with fail
  refine (within_any o.tran 255 _).mono ?_
  rintro e _ ⟨rfl, rfl⟩
  rw [H2.out]
  clear H2
  cases k2
  · go_wp2
    go_ret
    exact ⟨rfl, b1⟩
  go_wp2_with fail
  refine (within_any o.hand 255 _).mono ?_
  rintro e _ ⟨rfl, rfl⟩
  rw [H3.out]
  clear H3
  cases k3
  · go_wp2
    go_ret
    exact ⟨rfl, b1⟩
  go_wp2_with fail
  refine (within_any o.item 65535 _).mono ?_
  rintro e _ ⟨rfl, rfl⟩
  rw [H4.out]
  clear H4
  cases k4
  · go_wp2
    go_ret
    exact ⟨rfl, b1⟩
  · go_wp2
    go_ret
    exact ⟨rfl, b1⟩

theorem xor_bits {x y : Int} (hx : isByte x) (hy : isByte y) : bits BinOp.xor IntKind.u8 x y = xorI x y := by
  obtain ⟨n, rfl⟩ := Int.eq_ofNat_of_zero_le hx.1
  obtain ⟨m, rfl⟩ := Int.eq_ofNat_of_zero_le hy.1
  have hn : n < 256 := by have := hx.2; omega
  have hm : m < 256 := by have := hy.2; omega
  have hxm := Nat.xor_lt_two_pow (n := 8) (x := n) (y := m) hn hm
  have e1 : (BitVec.ofInt 8 (n : Int)).toNat = n := by simp [BitVec.toNat_ofInt]; omega
  have e2 : (BitVec.ofInt 8 (m : Int)).toNat = m := by simp [BitVec.toNat_ofInt]; omega
  show IntKind.wrap IntKind.u8 (((BitVec.ofInt 8 (n : Int)) ^^^ (BitVec.ofInt 8 (m : Int))).toNat : Nat) = _
  rw [BitVec.toNat_xor, e1, e2]
  show _ = ((n ^^^ m : Nat) : Int)
  unfold IntKind.wrap
  simp [IntKind.bits, IntKind.signed]
  omega

set_option maxHeartbeats 1000000 in
theorem sum_any (v : Value) (xs : List Int) (w : World) (hv : BytesV w v xs) (hl : xs.length ≤ 8) :
    Calls Try.prog 62 #[v] w fun e w' => e = .returned (.int .u8 (sumJ xs xs.length)) ∧ w' = w := by
  obtain ⟨a, cap, rfl, _, hsh⟩ := hv.slice
  have HB : Hid (∀ j, isByte (nth xs j)) := fun j => hv.byte j
  obtain ⟨n, Hn⟩ : ∃ n, Hid (xs.length = n) := ⟨_, rfl⟩
  rw [Hn.out] at hv hsh hl ⊢
  go_enter Try.func62, Try.ntmps62
  go_wp2_with fail
  go_loopg [3, 8] n (fun gk sm ix wr => ∃ k : Nat, k + gk = n ∧ ix = .int .i64 k ∧ sm = .int .u8 (sumJ xs k) ∧ wr = w)
  case atStart => exact ⟨0, by omega, rfl, rfl, rfl⟩
  case round =>
    obtain ⟨k, hkg, rfl, rfl, rfl⟩ := hrel
    by_cases hkn : k < n
    · obtain ⟨b, off, rfl, _, hc⟩ := hv.at hkn
      have hx := HB.out k
      have hS : isByte (sumJ xs k) := sumJ_byte HB.out (by omega)
      have hR : isByte (rotI (nth xs k) k) := rotI_byte hx (by omega)
      have HN : Hid (sumJ xs (k + 1) = xorI (sumJ xs k) (rotI (nth xs k) k)) := rfl
      obtain ⟨S, HS⟩ : ∃ S, Hid (sumJ xs k = S) := ⟨_, rfl⟩
      obtain ⟨x, Hx⟩ : ∃ S, Hid (nth xs k = S) := ⟨_, rfl⟩
      rw [HS.out] at HN hS ⊢
      rw [Hx.out] at HN hx hR hc
      go_wp2_with fail
      refine (rotate_any x k _ hx (by omega)).mono ?_
      rintro e _ ⟨rfl, rfl⟩
      obtain ⟨r, Hr⟩ : ∃ S, Hid (rotI x k = S) := ⟨_, rfl⟩
      rw [Hr.out] at HN hR ⊢
      have hX : Hid (bits BinOp.xor IntKind.u8 S r = xorI S r) := xor_bits hS hR
      obtain ⟨q1, q2⟩ := hS
      obtain ⟨q3, q4⟩ := hR
      go_wp2
      go_roundg (gk - 1)
      case measure => omega
      case rel => exact ⟨k + 1, by omega, by go_num, by rw [HN.out, hX.out], rfl⟩
    · obtain rfl : k = n := by omega
      go_wp2
      go_ret
      exact ⟨rfl, rfl⟩

end Go.Proofs.Ytaladbcocealnaa

/- Package journal as it landed: what is written of a thing that was done; what seven bytes were written of. -/
namespace Go.Proofs.Ytaladbcocealnaa
open Go.RowKit
set_option linter.unusedVariables false
set_option linter.unusedSimpArgs false
set_option maxRecDepth 4000

set_option maxHeartbeats 2000000 in
theorem journal_write (o : DOp) (w : World) :
    Calls Try.prog 47 #[dopW o] w fun e w' => ∃ r, e = .returned (.tuple #[r, .int .i64 (writeJ o).2]) ∧ OwnU w.heap.size w w' r (writeJ o).1 := by
  have b1 := below_new w (.cells (dopA o) 45)
  have hB := boxJ_new w o
  unfold dopW
  obtain ⟨wa, Hwa⟩ : ∃ v, Hid (w.alloc (.cells (dopA o) 45) = v) := ⟨_, rfl⟩
  rw [Hwa.out] at b1 hB
  obtain ⟨c0, c1, c2, c3, c4⟩ := hB.cells
  go_enter Try.func47, Try.ntmps47
  go_upto_region 1 with fail
  rw [Hwa.out]
  clear Hwa
  go_wp2_with fail
  refine (fits_any o wa).mono ?_
  rintro e w1 ⟨rfl, b⟩
  replace hB := hB.below b
  replace b1 := below_then b1 b
  clear c0 c1 c2 c3 c4 b
  cases hf : fitsO o
  · have E : Hid (writeJ o = ([], 2)) := by show _ = _; simp [writeJ, hf]
    clear hf hB
    go_wp2
    go_ret2
    exact ⟨.slice none 0 0, by rw [E.out]; rfl, by rw [E.out]; exact ⟨World.ownsRow_nil _ _ _ _, b1, b1.size⟩⟩
  · have E : Hid (writeJ o = (seven o, 0)) := by show _ = _; simp [writeJ, hf]
    have H6 : Hid (∀ j, isByte (nth (six o) j)) := six_byte hf
    obtain ⟨⟨k0, k1⟩, ⟨u0, u1⟩, ⟨t0, t1⟩, ⟨h0, h1⟩, i0, i1⟩ := (fits_iff o).1 hf
    obtain ⟨c0, c1, c2, c3, c4⟩ := hB.cells
    have b2 := below_new w1 (.cells #[.int .u8 o.kind, .int .u8 o.user, .int .u8 o.tran, .int .u8 o.hand, .int .u8 (o.item / 256), .int .u8 (o.item % 256), .int .u8 0] 5)
    have hR := heap_new_j w1 (.cells #[.int .u8 o.kind, .int .u8 o.user, .int .u8 o.tran, .int .u8 o.hand, .int .u8 (o.item / 256), .int .u8 (o.item % 256), .int .u8 0] 5)
    obtain ⟨w2, Hw2⟩ : ∃ v, Hid (w1.alloc (.cells #[.int .u8 o.kind, .int .u8 o.user, .int .u8 o.tran, .int .u8 o.hand, .int .u8 (o.item / 256), .int .u8 (o.item % 256), .int .u8 0] 5) = v) := ⟨_, rfl⟩
    obtain ⟨B, HBl⟩ : ∃ B, Hid (w1.heap.size = B) := ⟨_, rfl⟩
    rw [Hw2.out] at b2 hR
    have hwB : w.heap.size ≤ B := by rw [← HBl.out]; exact b1.size
    rw [HBl.out] at hR
    go_upto_region 4 with fail
    rw [Hw2.out, HBl.out]
    replace b1 := below_then b1 b2
    clear Hw2 HBl hB c0 c1 c2 c3 c4 b2 k0 k1 u0 u1 t0 t1 h0 h1 i0 i1
    have hlt : B < w2.heap.size := (Array.getElem?_eq_some_iff.1 hR).1
    have hV : BytesV w2 (.slice (some ⟨B, 0, none⟩) 6 7) (six o) := by
      refine ⟨_, _, _, rfl, rfl, by omega, ⟨by omega, by omega, fun h => by cases h⟩, H6.out, fun j hj => ⟨B, 0, rfl, hlt, ?_⟩⟩
      have hj6 : j < 6 := hj
      rw [Nat.zero_add]
      match j, hj6 with
      | 0, _ => simp [World.cell?, hR, six, nth]
      | 1, _ => simp [World.cell?, hR, six, nth]
      | 2, _ => simp [World.cell?, hR, six, nth]
      | 3, _ => simp [World.cell?, hR, six, nth]
      | 4, _ => simp [World.cell?, hR, six, nth]
      | 5, _ => simp [World.cell?, hR, six, nth]
    have cB : w2.cell? ⟨B, 6, none⟩ = some (.int .u8 0) := by simp [World.cell?, hR]
    have fB : w2.frozen? ⟨B, 6, none⟩ = false := by simp [World.frozen?, hR]
    go_wp2_with fail
    refine (sum_any _ (six o) w2 (by exact hV) (by show 6 ≤ 8; omega)).mono ?_
    rintro e w3 ⟨rfl, rfl⟩
    have hs6 : sumJ (six o) (six o).length = sumJ (six o) 6 := rfl
    rw [hs6]
    have Hs7 : Hid (seven o = [o.kind, o.user, o.tran, o.hand, o.item / 256, o.item % 256, sumJ (six o) 6]) := rfl
    obtain ⟨s, Hs⟩ : ∃ s, Hid (sumJ (six o) 6 = s) := ⟨_, rfl⟩
    rw [Hs.out] at Hs7 ⊢
    have R : OwnU w.heap.size w (w3.setCell ⟨B, 6, none⟩ (.int .u8 s)) (.slice (some ⟨B, 0, none⟩) 7 7) (seven o) := by
      rw [Hs7.out]
      refine ⟨⟨rfl, .inr ⟨B, 7, #[.int .u8 o.kind, .int .u8 o.user, .int .u8 o.tran, .int .u8 o.hand, .int .u8 (o.item / 256), .int .u8 (o.item % 256), .int .u8 s], rfl, hwB, ?_, by simp, by unfold maxLen; omega, rfl, rfl⟩⟩, b1.setCell (p := ⟨B, 6, none⟩) hwB _, ?_⟩
      · show (w3.heap.modify B _)[B]? = _
        obtain ⟨h1, h2⟩ := Array.getElem?_eq_some_iff.1 hR
        rw [Array.getElem?_eq_getElem (by rw [Array.size_modify]; exact h1), Array.getElem_modify_self, h2]
        rfl
      · have := b1.size; simp [World.setCell]; omega
    clear hV hR H6 hs6 Hs Hs7
    go_wp2
    go_ret2
    exact ⟨.slice (some ⟨B, 0, none⟩) 7 7, by rw [E.out]; rfl, by rw [E.out]; exact R⟩

theorem or_bits {x y : Int} (hx : isByte x) (hy : isByte y) : bits BinOp.or IntKind.i64 (x * 256) y = x * 256 + y := by
  obtain ⟨n, rfl⟩ := Int.eq_ofNat_of_zero_le hx.1
  obtain ⟨m, rfl⟩ := Int.eq_ofNat_of_zero_le hy.1
  have hn : n < 256 := by have := hx.2; omega
  have hm : m < 256 := by have := hy.2; omega
  have e1 : (BitVec.ofInt 64 ((n : Int) * 256)).toNat = 2 ^ 8 * n := by simp [BitVec.toNat_ofInt]; omega
  have e2 : (BitVec.ofInt 64 (m : Int)).toNat = m := by simp [BitVec.toNat_ofInt]; omega
  show IntKind.wrap IntKind.i64 (((BitVec.ofInt 64 ((n : Int) * 256)) ||| (BitVec.ofInt 64 (m : Int))).toNat : Nat) = _
  rw [BitVec.toNat_or, e1, e2, ← Nat.two_pow_add_eq_or_of_lt hm]
  unfold IntKind.wrap
  simp [IntKind.bits, IntKind.signed]
  omega
theorem setCell_blk {w : World} {g : Nat} {cur : Array Value} {e : TypeId} (h : w.heap[g]? = some (.cells cur e (0, 0))) (off : Nat) (u : Value) : (w.setCell ⟨g, off, none⟩ u).heap[g]? = some (.cells (cur.setIfInBounds off u) e (0, 0)) := by
  show (w.heap.modify g _)[g]? = _
  obtain ⟨h1, h2⟩ := Array.getElem?_eq_some_iff.1 h
  rw [Array.getElem?_eq_getElem (by rw [Array.size_modify]; exact h1), Array.getElem_modify_self, h2]
  rfl
theorem results_dop {fn : Func} {p : Tmp} {tmps : Array Value} {w : World} {b : Nat} {o : DOp} (h : fn.results = #[.cell p 45]) (hp : tmps.getD p undef = .pointer (some ⟨b, 0, none⟩)) (hB : BoxJ w b o) :
    (results fn tmps).run Try.prog w = .ok (dopW o) w := by
  obtain ⟨h1, h2, h3, h4, h5⟩ := hB.cells
  have e : (results fn tmps).run Try.prog w = ((asAddr (tmps.getD p undef)).run Try.prog w).andThen fun a w₁ => (loadVar 45 a).run Try.prog w₁ := by
    simp only [results, h]
    simp [Sem.run_bind, Result.andThen]
  rw [e, hp]
  simp [asAddr, go_sem, h1, h2, h3, h4, h5, dopW, dopA]

set_option maxHeartbeats 4000000 in
theorem op_any (v : Value) (xs : List Int) (w : World) (hv : BytesV w v xs) (hl : 7 ≤ xs.length) :
    Calls Try.prog 63 #[v] w fun e w' => e = .returned (dopW (opJ xs)) ∧ Below w.heap.size w w' := by
  obtain ⟨a, cap, rfl, _, hsh⟩ := hv.slice
  obtain ⟨n, Hn⟩ : ∃ n, Hid (xs.length = n) := ⟨_, rfl⟩
  rw [Hn.out] at hv hsh hl ⊢
  have hy := fun j => hv.byte j
  obtain ⟨b, off, rfl, hb, c0⟩ := hv.at (k := 0) (by omega)
  have key : ∀ k, k < n → w.cell? ⟨b, off + k, none⟩ = some (.int .u8 (nth xs k)) := fun k hk => by
    obtain ⟨b', off', e, _, hc⟩ := hv.at hk
    injection e with e
    injection e with e1 e2
    subst e1 e2
    exact hc
  have b1 := below_new w (.cells (dopA ⟨0, 0, 0, 0, 0⟩) 45)
  have hB := boxJ_new w ⟨0, 0, 0, 0, 0⟩
  obtain ⟨w0, Hw0⟩ : ∃ v, Hid (w.alloc (.cells #[.int .i64 0, .int .i64 0, .int .i64 0, .int .i64 0, .int .i64 0] 45) = v) := ⟨_, rfl⟩
  have e0 : w.alloc (.cells (dopA ⟨0, 0, 0, 0, 0⟩) 45) = w0 := Hw0.out
  rw [e0] at b1 hB
  clear e0
  have d0 := (b1.cell (p := ⟨b, off + 0, none⟩) hb).trans (key 0 (by omega))
  have d1 := (b1.cell (p := ⟨b, off + 1, none⟩) hb).trans (key 1 (by omega))
  have d2 := (b1.cell (p := ⟨b, off + 2, none⟩) hb).trans (key 2 (by omega))
  have d3 := (b1.cell (p := ⟨b, off + 3, none⟩) hb).trans (key 3 (by omega))
  have d4 := (b1.cell (p := ⟨b, off + 4, none⟩) hb).trans (key 4 (by omega))
  have d5 := (b1.cell (p := ⟨b, off + 5, none⟩) hb).trans (key 5 (by omega))
  rw [Nat.add_zero] at d0
  have HO : Hid (bits BinOp.or IntKind.i64 (nth xs 4 * 256) (nth xs 5) = nth xs 4 * 256 + nth xs 5) := or_bits (hy 4) (hy 5)
  have HJ : Hid (opJ xs = ⟨nth xs 0, nth xs 1, nth xs 2, nth xs 4 * 256 + nth xs 5, nth xs 3⟩) := rfl
  have y4 := hy 4
  obtain ⟨y0, Hy0⟩ : ∃ y, Hid (nth xs 0 = y) := ⟨_, rfl⟩
  obtain ⟨y1, Hy1⟩ : ∃ y, Hid (nth xs 1 = y) := ⟨_, rfl⟩
  obtain ⟨y2, Hy2⟩ : ∃ y, Hid (nth xs 2 = y) := ⟨_, rfl⟩
  obtain ⟨y3, Hy3⟩ : ∃ y, Hid (nth xs 3 = y) := ⟨_, rfl⟩
  obtain ⟨y4', Hy4⟩ : ∃ y, Hid (nth xs 4 = y) := ⟨_, rfl⟩
  obtain ⟨y5, Hy5⟩ : ∃ y, Hid (nth xs 5 = y) := ⟨_, rfl⟩
  rw [Hy4.out] at y4
  rw [Hy4.out, Hy5.out] at HO
  rw [Hy0.out, Hy1.out, Hy2.out, Hy3.out, Hy4.out, Hy5.out] at HJ
  rw [Hy0.out] at d0
  rw [Hy1.out] at d1
  rw [Hy2.out] at d2
  rw [Hy3.out] at d3
  rw [Hy4.out] at d4
  rw [Hy5.out] at d5
  have q0 := hy 0; have q1 := hy 1; have q2 := hy 2; have q3 := hy 3; have q5 := hy 5
  rw [Hy0.out] at q0
  rw [Hy1.out] at q1
  rw [Hy2.out] at q2
  rw [Hy3.out] at q3
  rw [Hy5.out] at q5
  obtain ⟨p0, p0'⟩ := q0
  obtain ⟨p1, p1'⟩ := q1
  obtain ⟨p2, p2'⟩ := q2
  obtain ⟨p3, p3'⟩ := q3
  obtain ⟨p4, p4'⟩ := y4
  obtain ⟨p5, p5'⟩ := q5
  have hneb : b ≠ w.heap.size := by omega
  have e4 := hB.lt
  unfold BoxJ at hB
  have f0 : w0.frozen? ⟨w.heap.size, 0, none⟩ = false := by simp [World.frozen?, hB]
  have f1 : w0.frozen? ⟨w.heap.size, 1, none⟩ = false := by simp [World.frozen?, hB]
  have f2 : w0.frozen? ⟨w.heap.size, 2, none⟩ = false := by simp [World.frozen?, hB]
  have f3 : w0.frozen? ⟨w.heap.size, 3, none⟩ = false := by simp [World.frozen?, hB]
  have f4 : w0.frozen? ⟨w.heap.size, 4, none⟩ = false := by simp [World.frozen?, hB]
  have z0 : w0.cell? ⟨w.heap.size, 0, none⟩ = some (.int .i64 0) := by simp [World.cell?, hB, dopA]
  have z1 : w0.cell? ⟨w.heap.size, 1, none⟩ = some (.int .i64 0) := by simp [World.cell?, hB, dopA]
  have z2 : w0.cell? ⟨w.heap.size, 2, none⟩ = some (.int .i64 0) := by simp [World.cell?, hB, dopA]
  have z3 : w0.cell? ⟨w.heap.size, 3, none⟩ = some (.int .i64 0) := by simp [World.cell?, hB, dopA]
  have z4 : w0.cell? ⟨w.heap.size, 4, none⟩ = some (.int .i64 0) := by simp [World.cell?, hB, dopA]
  have HB : Hid _ := hB
  clear hB hy c0 key hv Hy0 Hy1 Hy2 Hy3 Hy4 Hy5
  go_enter Try.func63, Try.ntmps63
  go_upto_region 1 with fail
  rw [Hw0.out]
  clear Hw0
  go_region
  have h1 := setCell_blk HB.out 0 (.int .i64 y0)
  have h2 := setCell_blk h1 1 (.int .i64 y1)
  have h3 := setCell_blk h2 2 (.int .i64 y2)
  have h4 := setCell_blk h3 3 (.int .i64 (bits BinOp.or IntKind.i64 (y4' * 256) y5))
  have h5 := setCell_blk h4 4 (.int .i64 y3)
  have R1 : Below w.heap.size w (((((w0.setCell ⟨w.heap.size, 0, none⟩ (.int .i64 y0)).setCell ⟨w.heap.size, 1, none⟩ (.int .i64 y1)).setCell ⟨w.heap.size, 2, none⟩ (.int .i64 y2)).setCell ⟨w.heap.size, 3, none⟩ (.int .i64 (bits BinOp.or IntKind.i64 (y4' * 256) y5))).setCell ⟨w.heap.size, 4, none⟩ (.int .i64 y3)).drew :=
    (((((b1.setCell (p := ⟨w.heap.size, 0, none⟩) (Nat.le_refl _) _).setCell (p := ⟨w.heap.size, 1, none⟩) (Nat.le_refl _) _).setCell (p := ⟨w.heap.size, 2, none⟩) (Nat.le_refl _) _).setCell (p := ⟨w.heap.size, 3, none⟩) (Nat.le_refl _) _).setCell (p := ⟨w.heap.size, 4, none⟩) (Nat.le_refl _) _).drew
  obtain ⟨W, HW⟩ : ∃ v, Hid ((((((w0.setCell ⟨w.heap.size, 0, none⟩ (.int .i64 y0)).setCell ⟨w.heap.size, 1, none⟩ (.int .i64 y1)).setCell ⟨w.heap.size, 2, none⟩ (.int .i64 y2)).setCell ⟨w.heap.size, 3, none⟩ (.int .i64 (bits BinOp.or IntKind.i64 (y4' * 256) y5))).setCell ⟨w.heap.size, 4, none⟩ (.int .i64 y3)).drew = v) := ⟨_, rfl⟩
  have hBW : BoxJ W w.heap.size (opJ xs) := by
    rw [HJ.out, ← HO.out, ← HW.out]
    exact h5
  rw [HW.out] at R1 ⊢
  clear h1 h2 h3 h4 h5 HW HB f0 f1 f2 f3 f4 z0 z1 z2 z3 z4 d0 d1 d2 d3 d4 d5
  go_wp2
  exact bodyPost_ret (v := dopW (opJ xs)) (results_dop rfl rfl hBW) rfl ⟨rfl, R1⟩

end Go.Proofs.Ytaladbcocealnaa
