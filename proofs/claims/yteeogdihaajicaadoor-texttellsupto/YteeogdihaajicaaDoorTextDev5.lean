/- Package text: Print. -/
import Derived.Test.YteeogdihaajicaaDoorStrBase
import Derived.Test.YteeogdihaajicaaDoorNetDev
import Derived.Deep.QuietTactic
import Derived.BigQuiet
import Derived.BigRegion
namespace Go.Proofs.YteeogdihaajicaaDoor
open Go.RowKit
set_option linter.unusedVariables false
set_option linter.unusedSimpArgs false
set_option maxRecDepth 4000

theorem take_side {l : List Int} {k : Nat} (h : k < l.length) : sideT 0 (l.take (k + 1)) = sideT 0 (l.take k) ++ oneT (nth l k) k := by
  rw [List.take_succ_eq_append_getElem h, side_append, List.length_take, show min k l.length = k by omega, Nat.zero_add, side_cons]
  have : nth l k = l[k] := by unfold nth; rw [List.getD_eq_getElem?_getD, List.getElem?_eq_getElem h]; rfl
  rw [this]
  show sideT 0 (l.take k) ++ (oneT l[k] k ++ []) = _
  rw [List.append_nil]
theorem itoa_len_fin : ∀ i : Fin 100, (Lib.itoa (i.val : Int)).length ≤ 2 := by
  intro i
  rw [itoa_nat]
  by_cases h : i.val < 10
  · rw [Lib.decDigits_one h]; simp
  · rw [Lib.decDigits_two h i.isLt]; simp
theorem itoa_len {n : Int} (h0 : 0 ≤ n) (h1 : n < 100) : (Lib.itoa n).length ≤ 2 := by
  have := itoa_len_fin ⟨n.toNat, by omega⟩
  rwa [show (((⟨n.toNat, by omega⟩ : Fin 100).val : Nat) : Int) = n by show ((n.toNat : Nat) : Int) = n; omega] at this
theorem side_len : ∀ (p : Nat) (l : List Int), p + l.length ≤ 16 → (∀ y ∈ l, 0 ≤ y ∧ y ≤ 9) → (sideT p l).length ≤ 6 * l.length
  | _, [], _, _ => Nat.zero_le _
  | p, w :: l, hp, h => by
    have h1 := side_len (p + 1) l (by simp at hp; omega) fun y hy => h y (by simp [hy])
    have h2 := h w (by simp)
    have h3 : (oneT w p).length ≤ 6 := by
      unfold oneT
      split
      · have a1 := itoa_len h2.1 (by omega)
        have a2 := itoa_len (n := (p : Int)) (by omega) (by simp at hp; omega)
        unfold tokT
        split
        · simp; omega
        · simp; omega
      · simp
    rw [side_cons, List.length_append, List.length_cons]
    omega
theorem bs_32 : (⟨#[32]⟩ : ByteArray) = bs [32] := rfl
theorem bs_42 : (⟨#[42]⟩ : ByteArray) = bs [42] := rfl

set_option maxHeartbeats 4000000 in
theorem written_any (u : Value) (l : List Int) (w : World) (hu : Ints w u l) (hl : l.length ≤ 16) (ho : ∀ x ∈ l, 0 ≤ x ∧ x ≤ 9) :
    Calls Tryd.prog 18 #[u] w fun e w' => e = .returned (.string (bs (sideT 0 l))) ∧ w' = w := by
  obtain ⟨ta, tl, tc, rfl, htl, htm, _, hRow⟩ := hu
  have Htl : Hid (l.length = tl) := htl
  clear htl
  go_enter Tryd.func18, Tryd.ntmps18
  go_wp2_with fail
  go_loopg [3, 8] tl (fun gk r3 r8 wr => ∃ k : Nat, k + gk = tl ∧ r8 = .int .i64 (k : Int) ∧ r3 = .string (bs (sideT 0 (l.take k))) ∧ wr = w)
  case atStart => exact ⟨0, by omega, rfl, rfl, rfl⟩
  case round =>
    obtain ⟨k, hg, rfl, rfl, rfl⟩ := hrel
    obtain ⟨g, rfl⟩ : ∃ z, z = gk := ⟨_, rfl⟩
    by_cases hk : k < tl
    · have hkl : k < l.length := by rw [Htl.out]; exact hk
      obtain ⟨b, off, rfl, hb, c0⟩ := hRow k hkl
      have hx := ho (nth l k) (by unfold nth; rw [List.getD_eq_getElem?_getD, List.getElem?_eq_getElem hkl]; exact List.getElem_mem hkl)
      have HT : Hid (sideT 0 (l.take (k + 1)) = sideT 0 (l.take k) ++ oneT (nth l k) k) := take_side hkl
      obtain ⟨x, HX⟩ : ∃ z, Hid (nth l k = z) := ⟨_, rfl⟩
      obtain ⟨A, HA⟩ : ∃ z, Hid (sideT 0 (l.take k) = z) := ⟨_, rfl⟩
      rw [HX.out] at c0 hx HT
      rw [HA.out] at HT ⊢
      have hI1 := fun w => itoa_small x w hx.1 (by omega)
      have hI2 := fun w => itoa_small (k : Int) w (by omega) (by omega)
      have hAl : A.length ≤ 96 ∧ (Lib.itoa x).length ≤ 2 ∧ (Lib.itoa (k : Int)).length ≤ 2 := by
        refine ⟨?_, itoa_len hx.1 (by omega), itoa_len (by omega) (by omega)⟩
        rw [← HA.out]
        have := side_len 0 (l.take k) (by rw [List.length_take]; omega) fun y hy => ho y (List.mem_of_mem_take hy)
        rw [List.length_take] at this
        omega
      have hl16 : tl ≤ 16 := by rw [← Htl.out]; exact hl
      by_cases h0 : x = 0
      · have R : Hid (bs A = bs (sideT 0 (l.take (k + 1)))) := by rw [HT.out, h0, oneT_zero, List.append_nil]; rfl
        subst h0
        go_wp2_with fail
        go_roundg (g - 1)
        case measure => omega
        case rel => exact ⟨k + 1, by omega, by go_num, by rw [R.out], rfl⟩
      · have n0 : (x == 0) = false := by rw [beq_eq_false_iff_ne]; exact h0
        by_cases h1 : 1 < x
        · have n1 : decide (x > 1) = true := by rw [decide_eq_true_eq]; exact h1
          have R : Hid (A ++ [32] ++ (Lib.itoa x ++ [42]) ++ Lib.itoa (k : Int) = sideT 0 (l.take (k + 1))) := by
            show _ = _
            rw [HT.out, oneT_pos (by omega), tok_more h1]
            simp
          have e1 := bs_add1 (a := A) bs_32.symm (by simp; omega)
          have e2 := bs_add1 (a := Lib.itoa x) bs_42.symm (by simp; omega)
          have e3 := bs_add (a := A ++ [32]) (b := Lib.itoa x ++ [42]) (by simp; omega)
          have e4 := bs_add (a := A ++ [32] ++ (Lib.itoa x ++ [42])) (b := Lib.itoa (k : Int)) (by simp; omega)
          rw [R.out] at e4
          clear hAl
          obtain ⟨A1, HA1⟩ := hideEx (A ++ [32])
          obtain ⟨I2, HI2⟩ := hideEx (Lib.itoa x ++ [42])
          rw [HA1.out] at e1 e3 e4
          rw [HI2.out] at e2 e3 e4
          obtain ⟨A2, HA2⟩ := hideEx (A1 ++ I2)
          rw [HA2.out] at e3 e4
          go_wp2_with (go_at_call 17; first | (refine (hI1 _).mono ?_; rintro e w' ⟨rfl, rfl⟩) | (refine (hI2 _).mono ?_; rintro e w' ⟨rfl, rfl⟩))
          go_roundg (g - 1)
          case measure => omega
          case rel => exact ⟨k + 1, by omega, by go_num, rfl, rfl⟩
        · have n1 : decide (x > 1) = false := by rw [decide_eq_false_iff_not]; exact h1
          have R : Hid (A ++ [32] ++ Lib.itoa (k : Int) = sideT 0 (l.take (k + 1))) := by
            show _ = _
            obtain rfl : x = 1 := by omega
            rw [HT.out, oneT_pos (by omega), tok_one]
            simp
          have e1 := bs_add1 (a := A) bs_32.symm (by simp; omega)
          have e4 := bs_add (a := A ++ [32]) (b := Lib.itoa (k : Int)) (by simp; omega)
          rw [R.out] at e4
          clear hAl
          obtain ⟨A1, HA1⟩ := hideEx (A ++ [32])
          rw [HA1.out] at e1 e4
          go_wp2_with (go_at_call 17; refine (hI2 _).mono ?_; rintro e w' ⟨rfl, rfl⟩)
          go_roundg (g - 1)
          case measure => omega
          case rel => exact ⟨k + 1, by omega, by go_num, rfl, rfl⟩
    · obtain rfl : k = tl := by omega
      have R : Hid (sideT 0 (l.take k) = sideT 0 l) := by show _ = _; rw [List.take_of_length_le (by rw [Htl.out]; exact Nat.le_refl _)]
      rw [R.out]
      go_wp2
      go_ret
      exact ⟨rfl, rfl⟩


theorem textL_len {P : Nat} {t : TranL} (h : TranOk P t) (hP : P ≤ 16) : (lineT t).length ≤ 200 := by
  have h1 := side_len 0 t.pre (by have := h.pre.1; omega) h.pre.2
  have h2 := side_len 0 t.post (by have := h.post.1; omega) h.post.2
  have := h.pre.1
  have := h.post.1
  unfold lineT
  simp
  omega
theorem lines_len {P : Nat} (hP : P ≤ 16) : ∀ {ts : List TranL}, (∀ t ∈ ts, TranOk P t) → (linesT ts).length ≤ 201 * ts.length
  | [], _ => Nat.zero_le _
  | t :: ts, h => by
    have h1 := lines_len hP (ts := ts) fun x hx => h x (by simp [hx])
    have h2 := textL_len (h t (by simp)) hP
    show (lineT t ++ 10 :: linesT ts).length ≤ _
    simp
    omega
theorem net_ok_trans {n : NetL} (h : netOk n = true) : ∃ P : Nat, n.places = (P : Int) ∧ P ≤ 16 ∧ n.trans.length ≤ 24 ∧ ∀ t ∈ n.trans, TranOk P t := by
  unfold netOk headOk at h
  simp only [Bool.and_eq_true, decide_eq_true_eq, List.all_eq_true] at h
  obtain ⟨⟨⟨h1, h2⟩, h3⟩, h4⟩ := h
  exact ⟨n.places.toNat, by omega, by omega, h3, fun t ht => (tranOk_iff _ t).1 (by rw [show ((n.places.toNat : Nat) : Int) = n.places by omega]; exact h4 t ht)⟩
theorem lines_take {ts : List TranL} {k : Nat} (h : k < ts.length) : linesT (ts.take (k + 1)) = linesT (ts.take k) ++ (lineT (tranAt ts k) ++ [10]) := by
  rw [List.take_succ_eq_append_getElem h]
  have e : tranAt ts k = ts[k] := by unfold tranAt; rw [List.getD_eq_getElem?_getD, List.getElem?_eq_getElem h]; rfl
  rw [e]
  have : ∀ a b : List TranL, linesT (a ++ b) = linesT a ++ linesT b := by
    intro a
    induction a with
    | nil => intro b; rfl
    | cons t a ih =>
      intro b
      show lineT t ++ 10 :: linesT (a ++ b) = lineT t ++ 10 :: linesT a ++ linesT b
      rw [ih b]
      simp
  rw [this]
  rfl

theorem first_len {P : Nat} (hP : P ≤ 16) : (firstT (P : Int)).length ≤ 6 := by
  have := itoa_len (n := (P : Int)) (by omega) (by omega)
  unfold firstT
  simp
  omega
abbrev lettersB : ByteArray := ⟨#[45, 97, 98, 99, 100, 101, 102, 103, 104, 105, 106, 107, 108, 109, 110, 111, 112, 113, 114, 115, 116, 117, 118, 119, 120, 121, 122]⟩
theorem letters_cut_fin : ∀ i : Fin 27, (lettersB.extract i.val (i.val + 1)).data.toList = [letterT (i.val : Int)] := by decide +kernel
theorem letters_slice {L : Int} (h : 0 ≤ L ∧ L ≤ 26) (w : World) : (Instr.slice 9 (.string lettersB) (some (.int .i64 L)) (some (.int .i64 (L + 1))) none).run Tryd.prog w = .ok (.string (bs [letterT L])) w := by
  have hz : lettersB.size = 27 := by decide +kernel
  rw [run_slice_string (P := Tryd.prog) w 9 lettersB .i64 .i64 L (L + 1) Tryd.underlying9 (by omega) (by omega) (by rw [hz]; omega)]
  have := letters_cut_fin ⟨L.toNat, by omega⟩
  have e : lettersB.extract L.toNat (L + 1).toNat = bs [letterT L] := by
    rw [← bs_of (lettersB.extract L.toNat (L + 1).toNat), show (L + 1).toNat = L.toNat + 1 by omega, this]
    congr 2
    show letterT ((L.toNat : Nat) : Int) = _
    rw [show ((L.toNat : Nat) : Int) = L by omega]
  rw [e]

/-- What a printer of nets answers. -/
def PrintIs (n : NetL) (s : Bytes) (d : Int) : Prop := (netOk n = true ∧ s = textT n ∧ d = 0) ∨ (netOk n = false ∧ s = [] ∧ d = 2)
theorem PrintIs.one {n : NetL} {s t : Bytes} {d e : Int} (h : PrintIs n s d) (k : PrintIs n t e) : s = t ∧ d = e := by
  rcases h with ⟨h1, h2, h3⟩ | ⟨h1, h2, h3⟩ <;> rcases k with ⟨k1, k2, k3⟩ | ⟨k1, k2, k3⟩
  · exact ⟨by rw [h2, k2], by omega⟩
  · rw [h1] at k1; cases k1
  · rw [h1] at k1; cases k1
  · exact ⟨by rw [h2, k2], by omega⟩

set_option maxHeartbeats 8000000 in
theorem print_any (v : Value) (n : NetL) (w : World) (hv : Net w v n) :
    Calls Tryd.prog 7 #[v] w fun e w' => ∃ s d, e = .returned (.tuple #[.string (bs s), .int .i64 d]) ∧ PrintIs n s d ∧ Below w.heap.size w w' := by
  obtain ⟨tv, rfl, hT⟩ := id hv
  have hbx := box2_new w (.int .i64 n.places) tv 24
  have c := below_new w (.cells #[.int .i64 n.places, tv] 24)
  obtain ⟨w0, H0⟩ : ∃ u, Hid (w.alloc (.cells #[.int .i64 n.places, tv] 24) = u) := ⟨_, rfl⟩
  rw [H0.out] at hbx c
  have Hc : Hid (Below w.heap.size w w0) := c
  clear c
  obtain ⟨_, y0, y1⟩ := id hbx
  go_enter Tryd.func7, Tryd.ntmps7
  go_upto_region 1 with fail
  rw [H0.out]
  clear H0
  go_upto_region 2 with (go_at_call 13; refine (net_wrong _ n _ (by exact hv.below Hc.out)).mono ?_; rintro e w1 ⟨rfl, b1⟩)
  unfold wrongL
  cases hok : netOk n
  · have R : Hid (PrintIs n [] 2) := .inr ⟨hok, rfl, rfl⟩
    have bz := below_then Hc.out b1
    clear hok
    go_wp2
    go_ret2
    exact ⟨[], 2, rfl, R.out, bz⟩
  · obtain ⟨P, hPn, hP, h24, hAll⟩ := net_ok_trans hok
    have HAll : Hid (∀ t ∈ n.trans, TranOk P t) := hAll
    have R : Hid (PrintIs n (textT n) 0) := .inl ⟨hok, rfl, rfl⟩
    have HTn : Hid (textT n = firstT P ++ 10 :: linesT n.trans) := by show _ = _; unfold textT; rw [hPn]
    obtain ⟨na, nl, nc, rfl, hnl, hnm, _⟩ := id hT
    have Hnl : Hid (n.trans.length = nl) := hnl
    rw [hPn] at hbx y0
    have bz := below_then Hc.out b1
    have hbx1 := hbx.below b1
    have hT1 := hT.below bz
    clear y0 y1 hok hAll hPn hnl
    obtain ⟨_, y0, y1⟩ := id hbx1
    have hI := fun w => itoa_small (P : Int) w (by omega) (by omega)
    have hPl := itoa_len (n := (P : Int)) (by omega) (by omega)
    have e1 := bs_add2 (a := [110, 101, 116, 32]) (b := Lib.itoa (P : Int)) (s := ⟨#[110, 101, 116, 32]⟩) rfl (by simp; omega)
    have e2 := bs_add1 (a := [110, 101, 116, 32] ++ Lib.itoa (P : Int)) (b := [10]) (s := ⟨#[10]⟩) rfl (by simp; omega)
    have H1 : Hid ([110, 101, 116, 32] ++ Lib.itoa (P : Int) ++ [10] = firstT P ++ 10 :: linesT (n.trans.take 0)) := by show _ = _; unfold firstT; simp [linesT]
    rw [H1.out] at e2
    obtain ⟨A1, HA1⟩ := hideEx ([110, 101, 116, 32] ++ Lib.itoa (P : Int))
    rw [HA1.out] at e1 e2
    go_upto_region 6 with (go_at_call 17; refine (hI _).mono ?_; rintro e w' ⟨rfl, rfl⟩)
    go_loopg [5, 21] nl (fun gk r5 r21 wr => ∃ k : Nat, k + gk = nl ∧ r21 = .int .i64 (k : Int) ∧ r5 = .string (bs (firstT P ++ 10 :: linesT (n.trans.take k))) ∧ Below w.heap.size w wr)
    case atStart => exact ⟨0, by omega, rfl, rfl, bz⟩
    case round =>
      clear bz hT1 hbx1 y0 y1 hbx e1 e2 hI
      obtain ⟨k, hg, rfl, rfl, bz⟩ := hrel
      obtain ⟨g, rfl⟩ : ∃ z, z = gk := ⟨_, rfl⟩
      by_cases hk : k < nl
      · have hkl : k < n.trans.length := by rw [Hnl.out]; exact hk
        obtain ⟨tb, tf, v1, v2, rfl, hlt, l0, l1, l2, i1, i2⟩ := (hT.below bz).at hk
        have HT : Hid (linesT (n.trans.take (k + 1)) = linesT (n.trans.take k) ++ (lineT (tranAt n.trans k) ++ [10])) := lines_take hkl
        have HTo : Hid (TranOk P (tranAt n.trans k)) := HAll.out _ (by unfold tranAt; rw [List.getD_eq_getElem?_getD, List.getElem?_eq_getElem hkl]; exact List.getElem_mem hkl)
        have hll : (linesT (n.trans.take k)).length ≤ 201 * 24 := by
          have := lines_len hP (ts := n.trans.take k) fun t ht => HAll.out t (List.mem_of_mem_take ht)
          rw [List.length_take] at this
          omega
        obtain ⟨t, Ht⟩ : ∃ t, Hid (tranAt n.trans k = t) := ⟨_, rfl⟩
        rw [Ht.out] at l0 i1 i2 HT HTo
        have hlab := HTo.out.lab
        have htl := textL_len HTo.out hP
        obtain ⟨pa, pl, pc, rfl, _⟩ := id i1
        obtain ⟨qa, ql, qc, rfl, _⟩ := id i2
        have bA := below_new wr (.cells #[.int .i64 t.label, .slice pa pl pc, .slice qa ql qc] 43)
        have hy := box3_new wr (.int .i64 t.label) (.slice pa pl pc) (.slice qa ql qc) 43
        obtain ⟨w2, H2⟩ : ∃ u, Hid (wr.alloc (.cells #[.int .i64 t.label, .slice pa pl pc, .slice qa ql qc] 43) = u) := ⟨_, rfl⟩
        obtain ⟨Y, HY⟩ : ∃ z, Hid (wr.heap.size = z) := ⟨_, rfl⟩
        rw [H2.out, HY.out] at hy
        rw [H2.out] at bA
        have I1 : Hid (Ints wr (.slice pa pl pc) t.pre) := i1
        have I2 : Hid (Ints wr (.slice qa ql qc) t.post) := i2
        have hW1 := fun q => written_any _ t.pre (w2.drewN q) ((i1.below bA).drewN q) (by have := HTo.out.pre.1; omega) HTo.out.pre.2
        have hW2 := fun q => written_any _ t.post (w2.drewN q) ((i2.below bA).drewN q) (by have := HTo.out.post.1; omega) HTo.out.post.2
        have b2 := below_then bz bA
        obtain ⟨_, z0, z1, z2⟩ := id hy
        obtain ⟨L, HL⟩ : ∃ L, Hid (t.label = L) := ⟨_, rfl⟩
        rw [HL.out] at l0 z0 hlab H2
        have wL : IntKind.i64.wrap (L + 1) = L + 1 := Go.IntWalk.i64_in _ ⟨by omega, by omega⟩
        go_upto_region 8 with fail
        rw [H2.out, HY.out]
        clear hy i1 i2 l0 l1 l2 hlt HY
        have hSl := fun w => letters_slice hlab w
        have htp := side_len 0 t.pre (by have := HTo.out.pre.1; omega) HTo.out.pre.2
        have htq := side_len 0 t.post (by have := HTo.out.post.1; omega) HTo.out.post.2
        have hp1 := HTo.out.pre.1
        have hp2 := HTo.out.post.1
        have hfl := first_len hP
        have HLn : Hid ([letterT L] ++ [32, 58] ++ sideT 0 t.pre ++ [32, 62] ++ sideT 0 t.post = lineT t) := by show _ = _; unfold lineT; rw [HL.out]; simp
        have e1 := bs_add1 (a := [letterT L]) (b := [32, 58]) (s := ⟨#[32, 58]⟩) rfl (by simp)
        have e2 := bs_add (a := [letterT L] ++ [32, 58]) (b := sideT 0 t.pre) (by simp; omega)
        have e3 := bs_add1 (a := [letterT L] ++ [32, 58] ++ sideT 0 t.pre) (b := [32, 62]) (s := ⟨#[32, 62]⟩) rfl (by simp; omega)
        have e4 := bs_add (a := [letterT L] ++ [32, 58] ++ sideT 0 t.pre ++ [32, 62]) (b := sideT 0 t.post) (by simp; omega)
        have e5 := bs_add1 (a := lineT t) (b := [10]) (s := ⟨#[10]⟩) rfl (by simp; omega)
        have e6 := bs_add (a := firstT P ++ 10 :: linesT (n.trans.take k)) (b := lineT t ++ [10]) (by simp; omega)
        have HE : Hid (firstT P ++ 10 :: linesT (n.trans.take k) ++ (lineT t ++ [10]) = firstT P ++ 10 :: linesT (n.trans.take (k + 1))) := by show _ = _; rw [HT.out]; simp
        rw [HE.out] at e6
        rw [HLn.out] at e4
        obtain ⟨D0, HD0⟩ := hideEx [letterT L]
        rw [HD0.out] at e1 e2 e3 e4 hSl
        obtain ⟨D1, HD1⟩ := hideEx (D0 ++ [32, 58])
        rw [HD1.out] at e1 e2 e3 e4
        obtain ⟨D2, HD2⟩ := hideEx (D1 ++ sideT 0 t.pre)
        rw [HD2.out] at e2 e3 e4
        obtain ⟨D3, HD3⟩ := hideEx (D2 ++ [32, 62])
        rw [HD3.out] at e3 e4
        obtain ⟨D4, HD4⟩ := hideEx (lineT t)
        rw [HD4.out] at e4 e5 e6
        obtain ⟨D5, HD5⟩ := hideEx (D4 ++ [10])
        rw [HD5.out] at e5 e6
        obtain ⟨A, HA⟩ := hideEx (firstT P ++ 10 :: linesT (n.trans.take k))
        obtain ⟨A', HA'⟩ := hideEx (firstT P ++ 10 :: linesT (n.trans.take (k + 1)))
        rw [HA.out, HA'.out] at e6
        rw [HA.out]
        obtain ⟨S1, HS1⟩ := hideEx (sideT 0 t.pre)
        obtain ⟨S2, HS2⟩ := hideEx (sideT 0 t.post)
        rw [HS1.out] at e2 hW1
        rw [HS2.out] at e4 hW2
        have hWa : ∀ w', Below w2.heap.size w2 w' → Calls Tryd.prog 18 #[.slice pa pl pc] w' fun e w'' => e = .returned (.string (bs S1)) ∧ w'' = w' := fun w' hb => by
          rw [← HS1.out]; exact written_any _ t.pre w' ((I1.out.below bA).below hb) (by omega) HTo.out.pre.2
        have hWb : ∀ w', Below w2.heap.size w2 w' → Calls Tryd.prog 18 #[.slice qa ql qc] w' fun e w'' => e = .returned (.string (bs S2)) ∧ w'' = w' := fun w' hb => by
          rw [← HS2.out]; exact written_any _ t.post w' ((I2.out.below bA).below hb) (by omega) HTo.out.post.2
        clear hW1 hW2 htp htq hp1 hp2 hfl hll htl
        refine wp_region_held_drew (S := (fun w' => w'.cell? ⟨Y, 0, none⟩ = some (.int .i64 L) ∧ w'.cell? ⟨Y, 1, none⟩ = some (.slice pa pl pc) ∧ w'.cell? ⟨Y, 2, none⟩ = some (.slice qa ql qc))) (by kernel_rfl) ⟨z0, z1, z2⟩ (fun hH => ?_)
        refine wpAnyH_take (i := 0) (v := .string (bs A)) rfl (by kernel_rfl) (by kernel_rfl) (by kernel_rfl) (fun _ _ _ h => h) (.inl ⟨by rfl, fun _ _ => rfl⟩) hH ?_
        simp only [List.getElem_toArray, List.getElem_cons_succ, List.getElem_cons_zero, Act.put, List.setIfInBounds_toArray, List.set_cons_zero, List.set_cons_succ]
        refine wpAnyH_take (i := 1) (v := .pointer (some ⟨Y, 0, none⟩)) rfl (by kernel_rfl) (by kernel_rfl) (by kernel_rfl) (fun _ _ _ h => h) (.inl ⟨by rfl, fun w' hS' => by first | (go_simp; done) | (go_simp; rfl) | (go_simp; intro h; omega) | (go_simp; omega)⟩) hH ?_
        simp only [List.getElem_toArray, List.getElem_cons_succ, List.getElem_cons_zero, Act.put, List.setIfInBounds_toArray, List.set_cons_zero, List.set_cons_succ]
        refine wpAnyH_take (i := 2) (v := .int .i64 L) rfl (by kernel_rfl) (by kernel_rfl) (by kernel_rfl) (fun _ _ _ h => h) (.inl ⟨by rfl, fun w' hS' => by obtain ⟨s0, s1, s2⟩ := hS'; go_simp⟩) hH ?_
        simp only [List.getElem_toArray, List.getElem_cons_succ, List.getElem_cons_zero, Act.put, List.setIfInBounds_toArray, List.set_cons_zero, List.set_cons_succ]
        refine wpAnyH_take (i := 3) (v := .pointer (some ⟨Y, 0, none⟩)) rfl (by kernel_rfl) (by kernel_rfl) (by kernel_rfl) (fun _ _ _ h => h) (.inl ⟨by rfl, fun w' hS' => by first | (go_simp; done) | (go_simp; rfl) | (go_simp; intro h; omega) | (go_simp; omega)⟩) hH ?_
        simp only [List.getElem_toArray, List.getElem_cons_succ, List.getElem_cons_zero, Act.put, List.setIfInBounds_toArray, List.set_cons_zero, List.set_cons_succ]
        refine wpAnyH_take (i := 4) (v := .int .i64 L) rfl (by kernel_rfl) (by kernel_rfl) (by kernel_rfl) (fun _ _ _ h => h) (.inl ⟨by rfl, fun w' hS' => by obtain ⟨s0, s1, s2⟩ := hS'; go_simp⟩) hH ?_
        simp only [List.getElem_toArray, List.getElem_cons_succ, List.getElem_cons_zero, Act.put, List.setIfInBounds_toArray, List.set_cons_zero, List.set_cons_succ]
        refine wpAnyH_take (i := 5) (v := .int .i64 (L + 1)) rfl (by kernel_rfl) (by kernel_rfl) (by kernel_rfl) (fun _ _ _ h => h) (.inl ⟨by rfl, fun w' hS' => by first | (go_simp; done) | (go_simp; rfl) | (go_simp; intro h; omega) | (go_simp; omega)⟩) hH ?_
        simp only [List.getElem_toArray, List.getElem_cons_succ, List.getElem_cons_zero, Act.put, List.setIfInBounds_toArray, List.set_cons_zero, List.set_cons_succ]
        refine wpAnyH_take (i := 6) (v := .string (bs D0)) rfl (by kernel_rfl) (by kernel_rfl) (by kernel_rfl) (fun _ _ _ h => h) (.inl ⟨by rfl, fun w' hS' => by first | (go_simp; done) | (go_simp; rfl) | (go_simp; intro h; omega) | (go_simp; omega)⟩) hH ?_
        simp only [List.getElem_toArray, List.getElem_cons_succ, List.getElem_cons_zero, Act.put, List.setIfInBounds_toArray, List.set_cons_zero, List.set_cons_succ]
        refine wpAnyH_take (i := 7) (v := .string (bs D1)) rfl (by kernel_rfl) (by kernel_rfl) (by kernel_rfl) (fun _ _ _ h => h) (.inl ⟨by rfl, fun w' hS' => by first | (go_simp; done) | (go_simp; rfl) | (go_simp; intro h; omega) | (go_simp; omega)⟩) hH ?_
        simp only [List.getElem_toArray, List.getElem_cons_succ, List.getElem_cons_zero, Act.put, List.setIfInBounds_toArray, List.set_cons_zero, List.set_cons_succ]
        refine wpAnyH_take (i := 8) (v := .pointer (some ⟨Y, 1, none⟩)) rfl (by kernel_rfl) (by kernel_rfl) (by kernel_rfl) (fun _ _ _ h => h) (.inl ⟨by rfl, fun w' hS' => by first | (go_simp; done) | (go_simp; rfl) | (go_simp; intro h; omega) | (go_simp; omega)⟩) hH ?_
        simp only [List.getElem_toArray, List.getElem_cons_succ, List.getElem_cons_zero, Act.put, List.setIfInBounds_toArray, List.set_cons_zero, List.set_cons_succ]
        refine wpAnyH_take (i := 9) (v := .slice pa pl pc) rfl (by kernel_rfl) (by kernel_rfl) (by kernel_rfl) (fun _ _ _ h => h) (.inl ⟨by rfl, fun w' hS' => by obtain ⟨s0, s1, s2⟩ := hS'; go_simp⟩) hH ?_
        simp only [List.getElem_toArray, List.getElem_cons_succ, List.getElem_cons_zero, Act.put, List.setIfInBounds_toArray, List.set_cons_zero, List.set_cons_succ]
        refine wpAnyH_take (i := 13) (v := .pointer (some ⟨Y, 2, none⟩)) rfl (by kernel_rfl) (by kernel_rfl) (by kernel_rfl) (fun _ _ _ h => h) (.inl ⟨by rfl, fun w' hS' => by first | (go_simp; done) | (go_simp; rfl) | (go_simp; intro h; omega) | (go_simp; omega)⟩) hH ?_
        simp only [List.getElem_toArray, List.getElem_cons_succ, List.getElem_cons_zero, Act.put, List.setIfInBounds_toArray, List.set_cons_zero, List.set_cons_succ]
        refine wpAnyH_take (i := 14) (v := .slice qa ql qc) rfl (by kernel_rfl) (by kernel_rfl) (by kernel_rfl) (fun _ _ _ h => h) (.inl ⟨by rfl, fun w' hS' => by obtain ⟨s0, s1, s2⟩ := hS'; go_simp⟩) hH ?_
        simp only [List.getElem_toArray, List.getElem_cons_succ, List.getElem_cons_zero, Act.put, List.setIfInBounds_toArray, List.set_cons_zero, List.set_cons_succ]
        refine wpAnyH_ready (rs := [10]) (by kernel_rfl) (by simp) ?_
        refine AllReadyH.cons rfl (fun K hK => ?_) AllReadyH.nil
        simp only [List.getElem_toArray, List.getElem_cons_succ, List.getElem_cons_zero]
        rw [if_pos (by rfl)]
        go_wp2_with (go_at_call 18; refine (hWa _ (below_drewN (Below.refl _ _) _)).mono ?_; rintro e w5 ⟨rfl, rfl⟩)
        refine hK.out _ _ ⟨z0, z1, z2⟩ (fun hH => ?_)
        clear hK
        refine wpAnyH_take (i := 11) (v := .string (bs D2)) rfl (by kernel_rfl) (by kernel_rfl) (by kernel_rfl) (fun _ _ _ h => h) (.inl ⟨by rfl, fun w' hS' => by first | (go_simp; done) | (go_simp; rfl) | (go_simp; intro h; omega) | (go_simp; omega)⟩) hH ?_
        simp only [List.getElem_toArray, List.getElem_cons_succ, List.getElem_cons_zero, Act.put, List.setIfInBounds_toArray, List.set_cons_zero, List.set_cons_succ]
        refine wpAnyH_take (i := 12) (v := .string (bs D3)) rfl (by kernel_rfl) (by kernel_rfl) (by kernel_rfl) (fun _ _ _ h => h) (.inl ⟨by rfl, fun w' hS' => by first | (go_simp; done) | (go_simp; rfl) | (go_simp; intro h; omega) | (go_simp; omega)⟩) hH ?_
        simp only [List.getElem_toArray, List.getElem_cons_succ, List.getElem_cons_zero, Act.put, List.setIfInBounds_toArray, List.set_cons_zero, List.set_cons_succ]
        refine wpAnyH_ready (rs := [15]) (by kernel_rfl) (by simp) ?_
        refine AllReadyH.cons rfl (fun K hK => ?_) AllReadyH.nil
        simp only [List.getElem_toArray, List.getElem_cons_succ, List.getElem_cons_zero]
        rw [if_pos (by rfl)]
        go_wp2_with (go_at_call 18; refine (hWb _ (below_drewN (Below.refl _ _) _)).mono ?_; rintro e w6 ⟨rfl, rfl⟩)
        refine hK.out _ _ ⟨z0, z1, z2⟩ (fun hH => ?_)
        clear hK
        refine wpAnyH_take (i := 16) (v := .string (bs D4)) rfl (by kernel_rfl) (by kernel_rfl) (by kernel_rfl) (fun _ _ _ h => h) (.inl ⟨by rfl, fun w' hS' => by first | (go_simp; done) | (go_simp; rfl) | (go_simp; intro h; omega) | (go_simp; omega)⟩) hH ?_
        simp only [List.getElem_toArray, List.getElem_cons_succ, List.getElem_cons_zero, Act.put, List.setIfInBounds_toArray, List.set_cons_zero, List.set_cons_succ]
        refine wpAnyH_take (i := 17) (v := .string (bs D5)) rfl (by kernel_rfl) (by kernel_rfl) (by kernel_rfl) (fun _ _ _ h => h) (.inl ⟨by rfl, fun w' hS' => by first | (go_simp; done) | (go_simp; rfl) | (go_simp; intro h; omega) | (go_simp; omega)⟩) hH ?_
        simp only [List.getElem_toArray, List.getElem_cons_succ, List.getElem_cons_zero, Act.put, List.setIfInBounds_toArray, List.set_cons_zero, List.set_cons_succ]
        refine wpAnyH_take (i := 18) (v := (.string (bs A'))) rfl (by kernel_rfl) (by kernel_rfl) (by kernel_rfl) (fun _ _ _ h => h) (.inl ⟨by rfl, fun w' hS' => by first | (go_simp; done) | (go_simp; rfl) | (go_simp; intro h; omega) | (go_simp; omega)⟩) hH ?_
        simp only [List.getElem_toArray, List.getElem_cons_succ, List.getElem_cons_zero, Act.put, List.setIfInBounds_toArray, List.set_cons_zero, List.set_cons_succ]
        refine wpAnyH_take (i := 19) (v := (.string (bs A'))) rfl (by kernel_rfl) (by kernel_rfl) (by kernel_rfl) (fun _ _ _ h => h) (.inl ⟨by rfl, fun _ _ => rfl⟩) hH ?_
        simp only [List.getElem_toArray, List.getElem_cons_succ, List.getElem_cons_zero, Act.put, List.setIfInBounds_toArray, List.set_cons_zero, List.set_cons_succ]
        refine wpAnyH_done (by kernel_rfl) ?_ _
        clear hH e1 e2 e3 e4 e5 e6 hSl
        have b9 := below_drewN (Below.refl w2.heap.size w2)
        go_wp2
        go_roundg (g - 1)
        case measure => omega
        case rel => exact ⟨k + 1, by omega, by go_num, by rw [HA'.out], below_then b2 (b9 _)⟩
      · obtain rfl : k = nl := by omega
        have HE : Hid (firstT P ++ 10 :: linesT (n.trans.take k) = textT n) := by show _ = _; rw [HTn.out, List.take_of_length_le (by rw [Hnl.out]; exact Nat.le_refl _)]
        rw [HE.out]
        obtain ⟨A, HA⟩ := hideEx (textT n)
        rw [HA.out] at R ⊢
        go_wp2
        go_ret2
        exact ⟨A, 0, rfl, R.out, bz⟩

end Go.Proofs.YteeogdihaajicaaDoor
