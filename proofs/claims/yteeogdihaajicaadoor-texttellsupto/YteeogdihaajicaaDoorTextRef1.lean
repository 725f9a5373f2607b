/- The document's own texts: printed. -/
import Derived.Test.YteeogdihaajicaaDoorTextDev5
namespace Go.Proofs.YteeogdihaajicaaDoor
open Go.RowKit
set_option linter.unusedVariables false
set_option linter.unusedSimpArgs false
set_option maxRecDepth 4000

abbrev lettersB2 : ByteArray := ⟨#[97, 98, 99, 100, 101, 102, 103, 104, 105, 106, 107, 108, 109, 110, 111, 112, 113, 114, 115, 116, 117, 118, 119, 120, 121, 122]⟩
theorem letters_cut2_fin : ∀ i : Fin 26, (lettersB2.extract i.val (i.val + 1)).data.toList = [letterT ((i.val : Int) + 1)] := by decide +kernel
theorem letters_slice2 {L : Int} (h : 0 < L ∧ L ≤ 26) (w : World) : (Instr.slice 9 (.string lettersB2) (some (.int .i64 (L - 1))) (some (.int .i64 L)) none).run Tryd.prog w = .ok (.string (bs [letterT L])) w := by
  have hz : lettersB2.size = 26 := by decide +kernel
  rw [run_slice_string (P := Tryd.prog) w 9 lettersB2 .i64 .i64 (L - 1) L Tryd.underlying9 (by omega) (by omega) (by rw [hz]; omega)]
  have := letters_cut2_fin ⟨(L - 1).toNat, by omega⟩
  have e : lettersB2.extract (L - 1).toNat L.toNat = bs [letterT L] := by
    rw [← bs_of (lettersB2.extract (L - 1).toNat L.toNat), show L.toNat = (L - 1).toNat + 1 by omega, this]
    congr 2
    show letterT ((((L - 1).toNat : Nat) : Int) + 1) = _
    rw [show (((L - 1).toNat : Nat) : Int) + 1 = L by omega]
  rw [e]

/-- What stands so far: the letter, the first side, both. -/
def partT (t : TranL) (k : Nat) : Bytes := letterT t.label :: ((if 1 ≤ k then [32, 58] ++ sideT 0 t.pre else []) ++ (if 2 ≤ k then [32, 62] ++ sideT 0 t.post else []))
theorem part_last (t : TranL) : partT t 2 = lineT t := by unfold partT lineT; simp
theorem part_len {P : Nat} {t : TranL} (h : TranOk P t) (hP : P ≤ 16) (k : Nat) : (partT t k).length ≤ 200 := by
  have h1 := side_len 0 t.pre (by have := h.pre.1; omega) h.pre.2
  have h2 := side_len 0 t.post (by have := h.post.1; omega) h.post.2
  have := h.pre.1
  have := h.post.1
  unfold partT
  split <;> split <;> simp <;> omega
theorem part_next0 (t : TranL) : partT t 0 ++ [32, 58] ++ sideT 0 t.pre = partT t 1 := by unfold partT; simp
theorem part_next1 (t : TranL) : partT t 1 ++ [32, 62] ++ sideT 0 t.post = partT t 2 := by unfold partT; simp

set_option maxHeartbeats 8000000 in
theorem oline_any (pv qv : Value) (t : TranL) (P : Nat) (w : World) (i1 : Ints w pv t.pre) (i2 : Ints w qv t.post) (hTo : TranOk P t) (hP : P ≤ 16) :
    Calls Tryd.prog 20 #[.agg #[.int .i64 t.label, pv, qv]] w fun e w' => e = .returned (.string (bs (lineT t ++ [10]))) ∧ Below w.heap.size w w' := by
  obtain ⟨pa, pl, pc, rfl, hpl, _⟩ := id i1
  obtain ⟨qa, ql, qc, rfl, hql, _⟩ := id i2
  have Hpl : Hid (t.pre.length = pl) := hpl
  have Hql : Hid (t.post.length = ql) := hql
  have HTo : Hid (TranOk P t) := hTo
  have HPl : Hid (∀ k, (partT t k).length ≤ 200) := part_len hTo hP
  have hlab := hTo.lab
  obtain ⟨L, HL⟩ : ∃ L, Hid (t.label = L) := ⟨_, rfl⟩
  rw [HL.out] at hlab
  rw [HL.out]
  clear hpl hql hTo
  have bA := below_new w (.cells #[.int .i64 L, .slice pa pl pc, .slice qa ql qc] 43)
  have hy := box3_new w (.int .i64 L) (.slice pa pl pc) (.slice qa ql qc) 43
  obtain ⟨w0, H0⟩ : ∃ u, Hid (w.alloc (.cells #[.int .i64 L, .slice pa pl pc, .slice qa ql qc] 43) = u) := ⟨_, rfl⟩
  obtain ⟨Y, HY⟩ : ∃ z, Hid (w.heap.size = z) := ⟨_, rfl⟩
  rw [H0.out, HY.out] at hy
  rw [H0.out] at bA
  obtain ⟨_, z0, z1, z2⟩ := id hy
  have hp0 : Hid (partT t 0 = [letterT L]) := by show _ = _; unfold partT; rw [HL.out]; rfl
  go_enter Tryd.func20, Tryd.ntmps20
  go_upto_region 1 with fail
  rw [H0.out, HY.out]
  have bB := below_new w0 (.cells #[.slice pa pl pc, .slice qa ql qc] 41)
  have hbx := box2_new w0 (.slice pa pl pc) (.slice qa ql qc) 41
  obtain ⟨w1, H1⟩ : ∃ u, Hid (w0.alloc (.cells #[.slice pa pl pc, .slice qa ql qc] 41) = u) := ⟨_, rfl⟩
  obtain ⟨X, HX⟩ : ∃ z, Hid (w0.heap.size = z) := ⟨_, rfl⟩
  rw [H1.out, HX.out] at hbx
  rw [H1.out] at bB
  have c1 := below_then bA bB
  by_cases h0 : 0 < L
  · have n0 : decide (L > 0) = true := by rw [decide_eq_true_eq]; exact h0
    have wL : IntKind.i64.wrap (L - 1) = L - 1 := Go.IntWalk.i64_in _ ⟨by omega, by omega⟩
    have hSl := fun w => letters_slice2 ⟨h0, hlab.2⟩ w
    rw [← hp0.out] at hSl
    go_upto_region 5 with fail
    rw [H1.out, HX.out]
    clear hSl n0 wL z0 z1 z2
    obtain ⟨T0, HT0⟩ := hideEx (partT t 0)
    rw [HT0.out]
    go_loopg [3, 23] 2 (fun gk r3 r23 wr => ∃ k : Nat, k + gk = 2 ∧ r23 = .int .i64 (k : Int) ∧ r3 = .string (bs (partT t k)) ∧ Below w1.heap.size w1 wr)
    case atStart => exact ⟨0, by omega, rfl, by rw [HT0.out], Below.refl _ _⟩
    case round =>
      obtain ⟨k, hg, rfl, rfl, br⟩ := hrel
      obtain ⟨g1, rfl⟩ : ∃ z, z = gk := ⟨_, rfl⟩
      have hbr := hbx.below br
      obtain ⟨_, y0, y1⟩ := id hbr
      clear hbr
      by_cases hk2 : k < 2
      · rcases (show k = 0 ∨ k = 1 by omega) with rfl | rfl
        · rw [show (((0 : Nat)) : Int) = 0 from rfl]
          have hlo := HTo.out.pre.2
          have hll : t.pre.length ≤ 16 := by have := HTo.out.pre.1; omega
          have hAl0 := HPl.out 0
          obtain ⟨A, HA⟩ := hideEx (partT t 0)
          rw [HA.out] at hAl0
          rw [HA.out]
          have eS := bs_add1 (a := A) (b := [32, 58]) (s := ⟨#[32, 58]⟩) rfl (by simp; omega)
          have HN : Hid (A ++ [32, 58] ++ sideT 0 t.pre = partT t 1) := by show _ = _; rw [← HA.out]; exact part_next0 t
          obtain ⟨A1, HA1⟩ := hideEx (A ++ [32, 58])
          have hA1 : A1.length ≤ 202 := by rw [← HA1.out]; simp; omega
          rw [HA1.out] at eS HN
          go_upto_region 9 with fail
          have bC := below_new wr (.cells #[.string ⟨#[32, 58]⟩, .string ⟨#[32, 62]⟩] 9)
          obtain ⟨w2, H2⟩ : ∃ u, Hid (wr.alloc (.cells #[.string ⟨#[32, 58]⟩, .string ⟨#[32, 62]⟩] 9) = u) := ⟨_, rfl⟩
          rw [H2.out] at bC
          rw [H2.out]
          have br2 := below_then br bC
          have hRow := ints_row ((i1.below c1).below br2)
          clear eS bC y0 y1
          go_loopg [3, 36] pl (fun gk r3 r36 wr2 => ∃ j : Nat, j + gk = pl ∧ r36 = .int .i64 (j : Int) ∧ r3 = .string (bs (A1 ++ sideT 0 (t.pre.take j))) ∧ wr2 = w2)
          case atStart => exact ⟨0, by omega, rfl, by simp [sideT], rfl⟩
          case round =>
            obtain ⟨j, hgj, rfl, rfl, rfl⟩ := hrel
            obtain ⟨g2, rfl⟩ : ∃ z, z = gk := ⟨_, rfl⟩
            by_cases hj : j < pl
            · have hjl : j < t.pre.length := by rw [Hpl.out]; exact hj
              obtain ⟨b, off, rfl, hb, q0⟩ := hRow j hjl
              have hx := hlo (nth t.pre j) (by unfold nth; rw [List.getD_eq_getElem?_getD, List.getElem?_eq_getElem hjl]; exact List.getElem_mem hjl)
              have HT : Hid (A1 ++ sideT 0 (t.pre.take (j + 1)) = A1 ++ sideT 0 (t.pre.take j) ++ oneT (nth t.pre j) j) := by show _ = _; rw [take_side hjl]; simp
              obtain ⟨x, HX9⟩ : ∃ z, Hid (nth t.pre j = z) := ⟨_, rfl⟩
              have hDl : (A1 ++ sideT 0 (t.pre.take j)).length ≤ 400 := by
                have := side_len 0 (t.pre.take j) (by rw [List.length_take]; omega) fun y hy => hlo y (List.mem_of_mem_take hy)
                rw [List.length_take] at this
                simp
                omega
              obtain ⟨D, HD⟩ := hideEx (A1 ++ sideT 0 (t.pre.take j))
              obtain ⟨E, HE⟩ := hideEx (A1 ++ sideT 0 (t.pre.take (j + 1)))
              rw [HX9.out] at q0 hx HT
              rw [HD.out, HE.out] at HT
              rw [HD.out] at hDl
              rw [HD.out]
              have hI1 := fun w => itoa_small x w hx.1 (by omega)
              have hI2 := fun w => itoa_small (j : Int) w (by omega) (by have := Hpl.out; omega)
              have hl1 := itoa_len hx.1 (by omega)
              have hl2 := itoa_len (n := (j : Int)) (by omega) (by have := Hpl.out; omega)
              by_cases h0 : x = 0
              · have R : Hid (D = E) := by rw [HT.out, h0, oneT_zero, List.append_nil]; rfl
                have n9 : decide (x > 0) = false := by rw [decide_eq_false_iff_not]; omega
                clear h0 hDl
                go_wp2_with fail
                go_roundg (g2 - 1)
                case measure => omega
                case rel => exact ⟨j + 1, by omega, by go_num, by rw [HE.out, R.out], rfl⟩
              · have n9 : decide (x > 0) = true := by rw [decide_eq_true_eq]; omega
                by_cases h1 : 1 < x
                · have n8 : decide (x > 1) = true := by rw [decide_eq_true_eq]; exact h1
                  have R : Hid (D ++ [32] ++ (Lib.itoa x ++ [42]) ++ Lib.itoa (j : Int) = E) := by
                    show _ = _
                    rw [HT.out, oneT_pos (by omega), tok_more h1]
                    simp
                  have e1 := bs_add1 (a := D) bs_32.symm (by simp; omega)
                  have e2 := bs_add1 (a := Lib.itoa x) bs_42.symm (by simp; omega)
                  have e3 := bs_add (a := D ++ [32]) (b := Lib.itoa x ++ [42]) (by simp; omega)
                  have e4 := bs_add (a := D ++ [32] ++ (Lib.itoa x ++ [42])) (b := Lib.itoa (j : Int)) (by simp; omega)
                  rw [R.out] at e4
                  clear hDl hl1 hl2
                  obtain ⟨D1, HD1⟩ := hideEx (D ++ [32])
                  obtain ⟨I2, HI2⟩ := hideEx (Lib.itoa x ++ [42])
                  rw [HD1.out] at e1 e3 e4
                  rw [HI2.out] at e2 e3 e4
                  obtain ⟨D2, HD2⟩ := hideEx (D1 ++ I2)
                  rw [HD2.out] at e3 e4
                  go_wp2_with (go_at_call 17; first | (refine (hI1 _).mono ?_; rintro e w' ⟨rfl, rfl⟩) | (refine (hI2 _).mono ?_; rintro e w' ⟨rfl, rfl⟩))
                  go_roundg (g2 - 1)
                  case measure => omega
                  case rel => exact ⟨j + 1, by omega, by go_num, by rw [HE.out], rfl⟩
                · have n8 : decide (x > 1) = false := by rw [decide_eq_false_iff_not]; exact h1
                  have R : Hid (D ++ [32] ++ Lib.itoa (j : Int) = E) := by
                    show _ = _
                    obtain rfl : x = 1 := by omega
                    rw [HT.out, oneT_pos (by omega), tok_one]
                    simp
                  have e1 := bs_add1 (a := D) bs_32.symm (by simp; omega)
                  have e4 := bs_add (a := D ++ [32]) (b := Lib.itoa (j : Int)) (by simp; omega)
                  rw [R.out] at e4
                  clear hDl hl1 hl2
                  obtain ⟨D1, HD1⟩ := hideEx (D ++ [32])
                  rw [HD1.out] at e1 e4
                  go_wp2_with (go_at_call 17; refine (hI2 _).mono ?_; rintro e w' ⟨rfl, rfl⟩)
                  go_roundg (g2 - 1)
                  case measure => omega
                  case rel => exact ⟨j + 1, by omega, by go_num, by rw [HE.out], rfl⟩
            · obtain rfl : j = pl := by omega
              have R : Hid (A1 ++ sideT 0 (t.pre.take j) = partT t 1) := by show _ = _; rw [List.take_of_length_le (by rw [Hpl.out]; exact Nat.le_refl _)]; exact HN.out
              rw [R.out]
              go_wp2
              go_roundg (g1 - 1)
              case measure => omega
              case rel => exact ⟨1, by omega, by go_num, rfl, br2⟩
        · rw [show (((1 : Nat)) : Int) = 1 from rfl]
          have hlo := HTo.out.post.2
          have hll : t.post.length ≤ 16 := by have := HTo.out.post.1; omega
          have hAl0 := HPl.out 1
          obtain ⟨A, HA⟩ := hideEx (partT t 1)
          rw [HA.out] at hAl0
          rw [HA.out]
          have eS := bs_add1 (a := A) (b := [32, 62]) (s := ⟨#[32, 62]⟩) rfl (by simp; omega)
          have HN : Hid (A ++ [32, 62] ++ sideT 0 t.post = partT t 2) := by show _ = _; rw [← HA.out]; exact part_next1 t
          obtain ⟨A1, HA1⟩ := hideEx (A ++ [32, 62])
          have hA1 : A1.length ≤ 202 := by rw [← HA1.out]; simp; omega
          rw [HA1.out] at eS HN
          go_upto_region 9 with fail
          have bC := below_new wr (.cells #[.string ⟨#[32, 58]⟩, .string ⟨#[32, 62]⟩] 9)
          obtain ⟨w2, H2⟩ : ∃ u, Hid (wr.alloc (.cells #[.string ⟨#[32, 58]⟩, .string ⟨#[32, 62]⟩] 9) = u) := ⟨_, rfl⟩
          rw [H2.out] at bC
          rw [H2.out]
          have br2 := below_then br bC
          have hRow := ints_row ((i2.below c1).below br2)
          clear eS bC y0 y1
          go_loopg [3, 36] ql (fun gk r3 r36 wr2 => ∃ j : Nat, j + gk = ql ∧ r36 = .int .i64 (j : Int) ∧ r3 = .string (bs (A1 ++ sideT 0 (t.post.take j))) ∧ wr2 = w2)
          case atStart => exact ⟨0, by omega, rfl, by simp [sideT], rfl⟩
          case round =>
            obtain ⟨j, hgj, rfl, rfl, rfl⟩ := hrel
            obtain ⟨g2, rfl⟩ : ∃ z, z = gk := ⟨_, rfl⟩
            by_cases hj : j < ql
            · have hjl : j < t.post.length := by rw [Hql.out]; exact hj
              obtain ⟨b, off, rfl, hb, q0⟩ := hRow j hjl
              have hx := hlo (nth t.post j) (by unfold nth; rw [List.getD_eq_getElem?_getD, List.getElem?_eq_getElem hjl]; exact List.getElem_mem hjl)
              have HT : Hid (A1 ++ sideT 0 (t.post.take (j + 1)) = A1 ++ sideT 0 (t.post.take j) ++ oneT (nth t.post j) j) := by show _ = _; rw [take_side hjl]; simp
              obtain ⟨x, HX9⟩ : ∃ z, Hid (nth t.post j = z) := ⟨_, rfl⟩
              have hDl : (A1 ++ sideT 0 (t.post.take j)).length ≤ 400 := by
                have := side_len 0 (t.post.take j) (by rw [List.length_take]; omega) fun y hy => hlo y (List.mem_of_mem_take hy)
                rw [List.length_take] at this
                simp
                omega
              obtain ⟨D, HD⟩ := hideEx (A1 ++ sideT 0 (t.post.take j))
              obtain ⟨E, HE⟩ := hideEx (A1 ++ sideT 0 (t.post.take (j + 1)))
              rw [HX9.out] at q0 hx HT
              rw [HD.out, HE.out] at HT
              rw [HD.out] at hDl
              rw [HD.out]
              have hI1 := fun w => itoa_small x w hx.1 (by omega)
              have hI2 := fun w => itoa_small (j : Int) w (by omega) (by have := Hql.out; omega)
              have hl1 := itoa_len hx.1 (by omega)
              have hl2 := itoa_len (n := (j : Int)) (by omega) (by have := Hql.out; omega)
              by_cases h0 : x = 0
              · have R : Hid (D = E) := by rw [HT.out, h0, oneT_zero, List.append_nil]; rfl
                have n9 : decide (x > 0) = false := by rw [decide_eq_false_iff_not]; omega
                clear h0 hDl
                go_wp2_with fail
                go_roundg (g2 - 1)
                case measure => omega
                case rel => exact ⟨j + 1, by omega, by go_num, by rw [HE.out, R.out], rfl⟩
              · have n9 : decide (x > 0) = true := by rw [decide_eq_true_eq]; omega
                by_cases h1 : 1 < x
                · have n8 : decide (x > 1) = true := by rw [decide_eq_true_eq]; exact h1
                  have R : Hid (D ++ [32] ++ (Lib.itoa x ++ [42]) ++ Lib.itoa (j : Int) = E) := by
                    show _ = _
                    rw [HT.out, oneT_pos (by omega), tok_more h1]
                    simp
                  have e1 := bs_add1 (a := D) bs_32.symm (by simp; omega)
                  have e2 := bs_add1 (a := Lib.itoa x) bs_42.symm (by simp; omega)
                  have e3 := bs_add (a := D ++ [32]) (b := Lib.itoa x ++ [42]) (by simp; omega)
                  have e4 := bs_add (a := D ++ [32] ++ (Lib.itoa x ++ [42])) (b := Lib.itoa (j : Int)) (by simp; omega)
                  rw [R.out] at e4
                  clear hDl hl1 hl2
                  obtain ⟨D1, HD1⟩ := hideEx (D ++ [32])
                  obtain ⟨I2, HI2⟩ := hideEx (Lib.itoa x ++ [42])
                  rw [HD1.out] at e1 e3 e4
                  rw [HI2.out] at e2 e3 e4
                  obtain ⟨D2, HD2⟩ := hideEx (D1 ++ I2)
                  rw [HD2.out] at e3 e4
                  go_wp2_with (go_at_call 17; first | (refine (hI1 _).mono ?_; rintro e w' ⟨rfl, rfl⟩) | (refine (hI2 _).mono ?_; rintro e w' ⟨rfl, rfl⟩))
                  go_roundg (g2 - 1)
                  case measure => omega
                  case rel => exact ⟨j + 1, by omega, by go_num, by rw [HE.out], rfl⟩
                · have n8 : decide (x > 1) = false := by rw [decide_eq_false_iff_not]; exact h1
                  have R : Hid (D ++ [32] ++ Lib.itoa (j : Int) = E) := by
                    show _ = _
                    obtain rfl : x = 1 := by omega
                    rw [HT.out, oneT_pos (by omega), tok_one]
                    simp
                  have e1 := bs_add1 (a := D) bs_32.symm (by simp; omega)
                  have e4 := bs_add (a := D ++ [32]) (b := Lib.itoa (j : Int)) (by simp; omega)
                  rw [R.out] at e4
                  clear hDl hl1 hl2
                  obtain ⟨D1, HD1⟩ := hideEx (D ++ [32])
                  rw [HD1.out] at e1 e4
                  go_wp2_with (go_at_call 17; refine (hI2 _).mono ?_; rintro e w' ⟨rfl, rfl⟩)
                  go_roundg (g2 - 1)
                  case measure => omega
                  case rel => exact ⟨j + 1, by omega, by go_num, by rw [HE.out], rfl⟩
            · obtain rfl : j = ql := by omega
              have R : Hid (A1 ++ sideT 0 (t.post.take j) = partT t 2) := by show _ = _; rw [List.take_of_length_le (by rw [Hql.out]; exact Nat.le_refl _)]; exact HN.out
              rw [R.out]
              go_wp2
              go_roundg (g1 - 1)
              case measure => omega
              case rel => exact ⟨2, by omega, by go_num, rfl, br2⟩
      · obtain rfl : k = 2 := by omega
        have hL2 := HPl.out 2
        have e9 := bs_add1 (a := partT t 2) (b := [10]) (s := ⟨#[10]⟩) rfl (by simp; omega)
        rw [part_last] at e9
        rw [part_last]
        clear hL2
        go_wp2
        go_ret
        exact ⟨rfl, below_then c1 br⟩
  · have n0 : decide (L > 0) = false := by rw [decide_eq_false_iff_not]; exact h0
    have e45 : Hid ((⟨#[45]⟩ : ByteArray) = bs (partT t 0)) := by
      show _ = _
      obtain rfl : L = 0 := by omega
      rw [hp0.out]
      rfl
    go_upto_region 5 with fail
    rw [H1.out, HX.out, e45.out]
    clear n0 z0 z1 z2
    obtain ⟨T0, HT0⟩ := hideEx (partT t 0)
    rw [HT0.out]
    go_loopg [3, 23] 2 (fun gk r3 r23 wr => ∃ k : Nat, k + gk = 2 ∧ r23 = .int .i64 (k : Int) ∧ r3 = .string (bs (partT t k)) ∧ Below w1.heap.size w1 wr)
    case atStart => exact ⟨0, by omega, rfl, by rw [HT0.out], Below.refl _ _⟩
    case round =>
      obtain ⟨k, hg, rfl, rfl, br⟩ := hrel
      obtain ⟨g1, rfl⟩ : ∃ z, z = gk := ⟨_, rfl⟩
      have hbr := hbx.below br
      obtain ⟨_, y0, y1⟩ := id hbr
      clear hbr
      by_cases hk2 : k < 2
      · rcases (show k = 0 ∨ k = 1 by omega) with rfl | rfl
        · rw [show (((0 : Nat)) : Int) = 0 from rfl]
          have hlo := HTo.out.pre.2
          have hll : t.pre.length ≤ 16 := by have := HTo.out.pre.1; omega
          have hAl0 := HPl.out 0
          obtain ⟨A, HA⟩ := hideEx (partT t 0)
          rw [HA.out] at hAl0
          rw [HA.out]
          have eS := bs_add1 (a := A) (b := [32, 58]) (s := ⟨#[32, 58]⟩) rfl (by simp; omega)
          have HN : Hid (A ++ [32, 58] ++ sideT 0 t.pre = partT t 1) := by show _ = _; rw [← HA.out]; exact part_next0 t
          obtain ⟨A1, HA1⟩ := hideEx (A ++ [32, 58])
          have hA1 : A1.length ≤ 202 := by rw [← HA1.out]; simp; omega
          rw [HA1.out] at eS HN
          go_upto_region 9 with fail
          have bC := below_new wr (.cells #[.string ⟨#[32, 58]⟩, .string ⟨#[32, 62]⟩] 9)
          obtain ⟨w2, H2⟩ : ∃ u, Hid (wr.alloc (.cells #[.string ⟨#[32, 58]⟩, .string ⟨#[32, 62]⟩] 9) = u) := ⟨_, rfl⟩
          rw [H2.out] at bC
          rw [H2.out]
          have br2 := below_then br bC
          have hRow := ints_row ((i1.below c1).below br2)
          clear eS bC y0 y1
          go_loopg [3, 36] pl (fun gk r3 r36 wr2 => ∃ j : Nat, j + gk = pl ∧ r36 = .int .i64 (j : Int) ∧ r3 = .string (bs (A1 ++ sideT 0 (t.pre.take j))) ∧ wr2 = w2)
          case atStart => exact ⟨0, by omega, rfl, by simp [sideT], rfl⟩
          case round =>
            obtain ⟨j, hgj, rfl, rfl, rfl⟩ := hrel
            obtain ⟨g2, rfl⟩ : ∃ z, z = gk := ⟨_, rfl⟩
            by_cases hj : j < pl
            · have hjl : j < t.pre.length := by rw [Hpl.out]; exact hj
              obtain ⟨b, off, rfl, hb, q0⟩ := hRow j hjl
              have hx := hlo (nth t.pre j) (by unfold nth; rw [List.getD_eq_getElem?_getD, List.getElem?_eq_getElem hjl]; exact List.getElem_mem hjl)
              have HT : Hid (A1 ++ sideT 0 (t.pre.take (j + 1)) = A1 ++ sideT 0 (t.pre.take j) ++ oneT (nth t.pre j) j) := by show _ = _; rw [take_side hjl]; simp
              obtain ⟨x, HX9⟩ : ∃ z, Hid (nth t.pre j = z) := ⟨_, rfl⟩
              have hDl : (A1 ++ sideT 0 (t.pre.take j)).length ≤ 400 := by
                have := side_len 0 (t.pre.take j) (by rw [List.length_take]; omega) fun y hy => hlo y (List.mem_of_mem_take hy)
                rw [List.length_take] at this
                simp
                omega
              obtain ⟨D, HD⟩ := hideEx (A1 ++ sideT 0 (t.pre.take j))
              obtain ⟨E, HE⟩ := hideEx (A1 ++ sideT 0 (t.pre.take (j + 1)))
              rw [HX9.out] at q0 hx HT
              rw [HD.out, HE.out] at HT
              rw [HD.out] at hDl
              rw [HD.out]
              have hI1 := fun w => itoa_small x w hx.1 (by omega)
              have hI2 := fun w => itoa_small (j : Int) w (by omega) (by have := Hpl.out; omega)
              have hl1 := itoa_len hx.1 (by omega)
              have hl2 := itoa_len (n := (j : Int)) (by omega) (by have := Hpl.out; omega)
              by_cases h0 : x = 0
              · have R : Hid (D = E) := by rw [HT.out, h0, oneT_zero, List.append_nil]; rfl
                have n9 : decide (x > 0) = false := by rw [decide_eq_false_iff_not]; omega
                clear h0 hDl
                go_wp2_with fail
                go_roundg (g2 - 1)
                case measure => omega
                case rel => exact ⟨j + 1, by omega, by go_num, by rw [HE.out, R.out], rfl⟩
              · have n9 : decide (x > 0) = true := by rw [decide_eq_true_eq]; omega
                by_cases h1 : 1 < x
                · have n8 : decide (x > 1) = true := by rw [decide_eq_true_eq]; exact h1
                  have R : Hid (D ++ [32] ++ (Lib.itoa x ++ [42]) ++ Lib.itoa (j : Int) = E) := by
                    show _ = _
                    rw [HT.out, oneT_pos (by omega), tok_more h1]
                    simp
                  have e1 := bs_add1 (a := D) bs_32.symm (by simp; omega)
                  have e2 := bs_add1 (a := Lib.itoa x) bs_42.symm (by simp; omega)
                  have e3 := bs_add (a := D ++ [32]) (b := Lib.itoa x ++ [42]) (by simp; omega)
                  have e4 := bs_add (a := D ++ [32] ++ (Lib.itoa x ++ [42])) (b := Lib.itoa (j : Int)) (by simp; omega)
                  rw [R.out] at e4
                  clear hDl hl1 hl2
                  obtain ⟨D1, HD1⟩ := hideEx (D ++ [32])
                  obtain ⟨I2, HI2⟩ := hideEx (Lib.itoa x ++ [42])
                  rw [HD1.out] at e1 e3 e4
                  rw [HI2.out] at e2 e3 e4
                  obtain ⟨D2, HD2⟩ := hideEx (D1 ++ I2)
                  rw [HD2.out] at e3 e4
                  go_wp2_with (go_at_call 17; first | (refine (hI1 _).mono ?_; rintro e w' ⟨rfl, rfl⟩) | (refine (hI2 _).mono ?_; rintro e w' ⟨rfl, rfl⟩))
                  go_roundg (g2 - 1)
                  case measure => omega
                  case rel => exact ⟨j + 1, by omega, by go_num, by rw [HE.out], rfl⟩
                · have n8 : decide (x > 1) = false := by rw [decide_eq_false_iff_not]; exact h1
                  have R : Hid (D ++ [32] ++ Lib.itoa (j : Int) = E) := by
                    show _ = _
                    obtain rfl : x = 1 := by omega
                    rw [HT.out, oneT_pos (by omega), tok_one]
                    simp
                  have e1 := bs_add1 (a := D) bs_32.symm (by simp; omega)
                  have e4 := bs_add (a := D ++ [32]) (b := Lib.itoa (j : Int)) (by simp; omega)
                  rw [R.out] at e4
                  clear hDl hl1 hl2
                  obtain ⟨D1, HD1⟩ := hideEx (D ++ [32])
                  rw [HD1.out] at e1 e4
                  go_wp2_with (go_at_call 17; refine (hI2 _).mono ?_; rintro e w' ⟨rfl, rfl⟩)
                  go_roundg (g2 - 1)
                  case measure => omega
                  case rel => exact ⟨j + 1, by omega, by go_num, by rw [HE.out], rfl⟩
            · obtain rfl : j = pl := by omega
              have R : Hid (A1 ++ sideT 0 (t.pre.take j) = partT t 1) := by show _ = _; rw [List.take_of_length_le (by rw [Hpl.out]; exact Nat.le_refl _)]; exact HN.out
              rw [R.out]
              go_wp2
              go_roundg (g1 - 1)
              case measure => omega
              case rel => exact ⟨1, by omega, by go_num, rfl, br2⟩
        · rw [show (((1 : Nat)) : Int) = 1 from rfl]
          have hlo := HTo.out.post.2
          have hll : t.post.length ≤ 16 := by have := HTo.out.post.1; omega
          have hAl0 := HPl.out 1
          obtain ⟨A, HA⟩ := hideEx (partT t 1)
          rw [HA.out] at hAl0
          rw [HA.out]
          have eS := bs_add1 (a := A) (b := [32, 62]) (s := ⟨#[32, 62]⟩) rfl (by simp; omega)
          have HN : Hid (A ++ [32, 62] ++ sideT 0 t.post = partT t 2) := by show _ = _; rw [← HA.out]; exact part_next1 t
          obtain ⟨A1, HA1⟩ := hideEx (A ++ [32, 62])
          have hA1 : A1.length ≤ 202 := by rw [← HA1.out]; simp; omega
          rw [HA1.out] at eS HN
          go_upto_region 9 with fail
          have bC := below_new wr (.cells #[.string ⟨#[32, 58]⟩, .string ⟨#[32, 62]⟩] 9)
          obtain ⟨w2, H2⟩ : ∃ u, Hid (wr.alloc (.cells #[.string ⟨#[32, 58]⟩, .string ⟨#[32, 62]⟩] 9) = u) := ⟨_, rfl⟩
          rw [H2.out] at bC
          rw [H2.out]
          have br2 := below_then br bC
          have hRow := ints_row ((i2.below c1).below br2)
          clear eS bC y0 y1
          go_loopg [3, 36] ql (fun gk r3 r36 wr2 => ∃ j : Nat, j + gk = ql ∧ r36 = .int .i64 (j : Int) ∧ r3 = .string (bs (A1 ++ sideT 0 (t.post.take j))) ∧ wr2 = w2)
          case atStart => exact ⟨0, by omega, rfl, by simp [sideT], rfl⟩
          case round =>
            obtain ⟨j, hgj, rfl, rfl, rfl⟩ := hrel
            obtain ⟨g2, rfl⟩ : ∃ z, z = gk := ⟨_, rfl⟩
            by_cases hj : j < ql
            · have hjl : j < t.post.length := by rw [Hql.out]; exact hj
              obtain ⟨b, off, rfl, hb, q0⟩ := hRow j hjl
              have hx := hlo (nth t.post j) (by unfold nth; rw [List.getD_eq_getElem?_getD, List.getElem?_eq_getElem hjl]; exact List.getElem_mem hjl)
              have HT : Hid (A1 ++ sideT 0 (t.post.take (j + 1)) = A1 ++ sideT 0 (t.post.take j) ++ oneT (nth t.post j) j) := by show _ = _; rw [take_side hjl]; simp
              obtain ⟨x, HX9⟩ : ∃ z, Hid (nth t.post j = z) := ⟨_, rfl⟩
              have hDl : (A1 ++ sideT 0 (t.post.take j)).length ≤ 400 := by
                have := side_len 0 (t.post.take j) (by rw [List.length_take]; omega) fun y hy => hlo y (List.mem_of_mem_take hy)
                rw [List.length_take] at this
                simp
                omega
              obtain ⟨D, HD⟩ := hideEx (A1 ++ sideT 0 (t.post.take j))
              obtain ⟨E, HE⟩ := hideEx (A1 ++ sideT 0 (t.post.take (j + 1)))
              rw [HX9.out] at q0 hx HT
              rw [HD.out, HE.out] at HT
              rw [HD.out] at hDl
              rw [HD.out]
              have hI1 := fun w => itoa_small x w hx.1 (by omega)
              have hI2 := fun w => itoa_small (j : Int) w (by omega) (by have := Hql.out; omega)
              have hl1 := itoa_len hx.1 (by omega)
              have hl2 := itoa_len (n := (j : Int)) (by omega) (by have := Hql.out; omega)
              by_cases h0 : x = 0
              · have R : Hid (D = E) := by rw [HT.out, h0, oneT_zero, List.append_nil]; rfl
                have n9 : decide (x > 0) = false := by rw [decide_eq_false_iff_not]; omega
                clear h0 hDl
                go_wp2_with fail
                go_roundg (g2 - 1)
                case measure => omega
                case rel => exact ⟨j + 1, by omega, by go_num, by rw [HE.out, R.out], rfl⟩
              · have n9 : decide (x > 0) = true := by rw [decide_eq_true_eq]; omega
                by_cases h1 : 1 < x
                · have n8 : decide (x > 1) = true := by rw [decide_eq_true_eq]; exact h1
                  have R : Hid (D ++ [32] ++ (Lib.itoa x ++ [42]) ++ Lib.itoa (j : Int) = E) := by
                    show _ = _
                    rw [HT.out, oneT_pos (by omega), tok_more h1]
                    simp
                  have e1 := bs_add1 (a := D) bs_32.symm (by simp; omega)
                  have e2 := bs_add1 (a := Lib.itoa x) bs_42.symm (by simp; omega)
                  have e3 := bs_add (a := D ++ [32]) (b := Lib.itoa x ++ [42]) (by simp; omega)
                  have e4 := bs_add (a := D ++ [32] ++ (Lib.itoa x ++ [42])) (b := Lib.itoa (j : Int)) (by simp; omega)
                  rw [R.out] at e4
                  clear hDl hl1 hl2
                  obtain ⟨D1, HD1⟩ := hideEx (D ++ [32])
                  obtain ⟨I2, HI2⟩ := hideEx (Lib.itoa x ++ [42])
                  rw [HD1.out] at e1 e3 e4
                  rw [HI2.out] at e2 e3 e4
                  obtain ⟨D2, HD2⟩ := hideEx (D1 ++ I2)
                  rw [HD2.out] at e3 e4
                  go_wp2_with (go_at_call 17; first | (refine (hI1 _).mono ?_; rintro e w' ⟨rfl, rfl⟩) | (refine (hI2 _).mono ?_; rintro e w' ⟨rfl, rfl⟩))
                  go_roundg (g2 - 1)
                  case measure => omega
                  case rel => exact ⟨j + 1, by omega, by go_num, by rw [HE.out], rfl⟩
                · have n8 : decide (x > 1) = false := by rw [decide_eq_false_iff_not]; exact h1
                  have R : Hid (D ++ [32] ++ Lib.itoa (j : Int) = E) := by
                    show _ = _
                    obtain rfl : x = 1 := by omega
                    rw [HT.out, oneT_pos (by omega), tok_one]
                    simp
                  have e1 := bs_add1 (a := D) bs_32.symm (by simp; omega)
                  have e4 := bs_add (a := D ++ [32]) (b := Lib.itoa (j : Int)) (by simp; omega)
                  rw [R.out] at e4
                  clear hDl hl1 hl2
                  obtain ⟨D1, HD1⟩ := hideEx (D ++ [32])
                  rw [HD1.out] at e1 e4
                  go_wp2_with (go_at_call 17; refine (hI2 _).mono ?_; rintro e w' ⟨rfl, rfl⟩)
                  go_roundg (g2 - 1)
                  case measure => omega
                  case rel => exact ⟨j + 1, by omega, by go_num, by rw [HE.out], rfl⟩
            · obtain rfl : j = ql := by omega
              have R : Hid (A1 ++ sideT 0 (t.post.take j) = partT t 2) := by show _ = _; rw [List.take_of_length_le (by rw [Hql.out]; exact Nat.le_refl _)]; exact HN.out
              rw [R.out]
              go_wp2
              go_roundg (g1 - 1)
              case measure => omega
              case rel => exact ⟨2, by omega, by go_num, rfl, br2⟩
      · obtain rfl : k = 2 := by omega
        have hL2 := HPl.out 2
        have e9 := bs_add1 (a := partT t 2) (b := [10]) (s := ⟨#[10]⟩) rfl (by simp; omega)
        rw [part_last] at e9
        rw [part_last]
        clear hL2
        go_wp2
        go_ret
        exact ⟨rfl, below_then c1 br⟩

set_option maxHeartbeats 8000000 in
theorem oprint_any (v : Value) (n : NetL) (w : World) (hv : Net w v n) (hsm : SmallNet n) :
    Calls Tryd.prog 8 #[v] w fun e w' => ∃ s d, e = .returned (.tuple #[.string (bs s), .int .i64 d]) ∧ PrintIs n s d ∧ Below w.heap.size w w' := by
  obtain ⟨tv, rfl, hT⟩ := id hv
  have hbx := box2_new w (.int .i64 n.places) tv 24
  have c := below_new w (.cells #[.int .i64 n.places, tv] 24)
  obtain ⟨w0, H0⟩ : ∃ u, Hid (w.alloc (.cells #[.int .i64 n.places, tv] 24) = u) := ⟨_, rfl⟩
  rw [H0.out] at hbx c
  have Hc : Hid (Below w.heap.size w w0) := c
  clear c
  obtain ⟨_, y0, y1⟩ := id hbx
  go_enter Tryd.func8, Tryd.ntmps8
  go_upto_region 1 with fail
  rw [H0.out]
  clear H0
  go_upto_region 2 with (go_at_call 19; refine (bwrong_any _ n _ (by exact hv.below Hc.out) hsm).mono ?_; rintro e w1 ⟨rfl, b1⟩)
  unfold wrongL
  cases hok : netOk n
  · have R : Hid (PrintIs n [] 2) := .inr ⟨hok, rfl, rfl⟩
    have bz := below_then Hc.out b1
    clear hok
    go_wp2
    go_ret2
    exact ⟨[], 2, rfl, R.out, bz⟩
  · obtain ⟨P, hPn, hP, h24, hAll⟩ := net_ok_trans hok
    have HAll : Hid (∀ t ∈ n.trans, TranOk P t) := hAll
    have R : Hid (PrintIs n (textT n) 0) := .inl ⟨hok, rfl, rfl⟩
    have HTn : Hid (textT n = firstT P ++ 10 :: linesT n.trans) := by show _ = _; unfold textT; rw [hPn]
    obtain ⟨na, nl, nc, rfl, hnl, hnm, _⟩ := id hT
    have Hnl : Hid (n.trans.length = nl) := hnl
    rw [hPn] at hbx y0
    have bz := below_then Hc.out b1
    have hbx1 := hbx.below b1
    clear y0 y1 hok hAll hPn hnl
    obtain ⟨_, y0, y1⟩ := id hbx1
    have hI := fun w => itoa_small (P : Int) w (by omega) (by omega)
    have hPl := itoa_len (n := (P : Int)) (by omega) (by omega)
    have e1 := bs_add2 (a := [110, 101, 116, 32]) (b := Lib.itoa (P : Int)) (s := ⟨#[110, 101, 116, 32]⟩) rfl (by simp; omega)
    have e2 := bs_add1 (a := [110, 101, 116, 32] ++ Lib.itoa (P : Int)) (b := [10]) (s := ⟨#[10]⟩) rfl (by simp; omega)
    have H1 : Hid ([110, 101, 116, 32] ++ Lib.itoa (P : Int) ++ [10] = firstT P ++ 10 :: linesT (n.trans.take 0)) := by show _ = _; unfold firstT; simp [linesT]
    rw [H1.out] at e2
    obtain ⟨A1, HA1⟩ := hideEx ([110, 101, 116, 32] ++ Lib.itoa (P : Int))
    rw [HA1.out] at e1 e2
    go_upto_region 6 with (go_at_call 17; refine (hI _).mono ?_; rintro e w' ⟨rfl, rfl⟩)
    go_loopg [5, 21] nl (fun gk r5 r21 wr => ∃ k : Nat, k + gk = nl ∧ r21 = .int .i64 (k : Int) ∧ r5 = .string (bs (firstT P ++ 10 :: linesT (n.trans.take k))) ∧ Below w.heap.size w wr)
    case atStart => exact ⟨0, by omega, rfl, rfl, bz⟩
    case round =>
      clear bz hbx1 y0 y1 hbx e1 e2 hI
      obtain ⟨k, hg, rfl, rfl, bz⟩ := hrel
      obtain ⟨g, rfl⟩ : ∃ z, z = gk := ⟨_, rfl⟩
      by_cases hk : k < nl
      · have hkl : k < n.trans.length := by rw [Hnl.out]; exact hk
        obtain ⟨tb, tf, v1, v2, rfl, hlt, l0, l1, l2, i1, i2⟩ := (hT.below bz).at hk
        have HT : Hid (linesT (n.trans.take (k + 1)) = linesT (n.trans.take k) ++ (lineT (tranAt n.trans k) ++ [10])) := lines_take hkl
        have HTo : Hid (TranOk P (tranAt n.trans k)) := HAll.out _ (by unfold tranAt; rw [List.getD_eq_getElem?_getD, List.getElem?_eq_getElem hkl]; exact List.getElem_mem hkl)
        have hll : (linesT (n.trans.take k)).length ≤ 201 * 24 := by
          have := lines_len hP (ts := n.trans.take k) fun t ht => HAll.out t (List.mem_of_mem_take ht)
          rw [List.length_take] at this
          omega
        obtain ⟨t, Ht⟩ : ∃ t, Hid (tranAt n.trans k = t) := ⟨_, rfl⟩
        rw [Ht.out] at l0 i1 i2 HT HTo
        have htl := textL_len HTo.out hP
        have hfl := first_len hP
        obtain ⟨pa, pl, pc, rfl, _⟩ := id i1
        obtain ⟨qa, ql, qc, rfl, _⟩ := id i2
        have bA := below_new wr (.cells #[.int .i64 t.label, .slice pa pl pc, .slice qa ql qc] 43)
        have hy := box3_new wr (.int .i64 t.label) (.slice pa pl pc) (.slice qa ql qc) 43
        obtain ⟨w2, H2⟩ : ∃ u, Hid (wr.alloc (.cells #[.int .i64 t.label, .slice pa pl pc, .slice qa ql qc] 43) = u) := ⟨_, rfl⟩
        obtain ⟨Y, HY⟩ : ∃ z, Hid (wr.heap.size = z) := ⟨_, rfl⟩
        rw [H2.out, HY.out] at hy
        rw [H2.out] at bA
        have b2 := below_then bz bA
        obtain ⟨_, z0, z1, z2⟩ := id hy
        have hO := oline_any (.slice pa pl pc) (.slice qa ql qc) t P w2 (i1.below bA) (i2.below bA) HTo.out hP
        have e6 := bs_add (a := firstT P ++ 10 :: linesT (n.trans.take k)) (b := lineT t ++ [10]) (by simp; omega)
        have HE : Hid (firstT P ++ 10 :: linesT (n.trans.take k) ++ (lineT t ++ [10]) = firstT P ++ 10 :: linesT (n.trans.take (k + 1))) := by show _ = _; rw [HT.out]; simp
        rw [HE.out] at e6
        obtain ⟨D5, HD5⟩ := hideEx (lineT t ++ [10])
        rw [HD5.out] at e6 hO
        obtain ⟨A, HA⟩ := hideEx (firstT P ++ 10 :: linesT (n.trans.take k))
        obtain ⟨A', HA'⟩ := hideEx (firstT P ++ 10 :: linesT (n.trans.take (k + 1)))
        rw [HA.out, HA'.out] at e6
        rw [HA.out]
        clear hy bA hll htl hfl
        go_upto_region 8 with fail
        rw [H2.out, HY.out]
        go_wp2_with (go_at_call 20; refine hO.mono ?_; rintro e w3 ⟨rfl, b3⟩)
        go_roundg (g - 1)
        case measure => omega
        case rel => exact ⟨k + 1, by omega, by go_num, by rw [HA'.out], below_then b2 b3⟩
      · obtain rfl : k = nl := by omega
        have HE : Hid (firstT P ++ 10 :: linesT (n.trans.take k) = textT n) := by show _ = _; rw [HTn.out, List.take_of_length_le (by rw [Hnl.out]; exact Nat.le_refl _)]
        rw [HE.out]
        obtain ⟨A, HA⟩ := hideEx (textT n)
        rw [HA.out] at R ⊢
        go_wp2
        go_ret2
        exact ⟨A, 0, rfl, R.out, bz⟩

end Go.Proofs.YteeogdihaajicaaDoor
