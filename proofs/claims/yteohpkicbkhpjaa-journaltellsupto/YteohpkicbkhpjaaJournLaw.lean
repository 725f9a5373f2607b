/- What the laws on the journal ask: all of some written, one behind the other; whether two lists are the same; the small trial. -/
import Derived.Test.YteohpkicbkhpjaaJournDev3
namespace Go.Proofs.Yteohpkicbkhpjaa
open Go.RowKit
set_option linter.unusedVariables false
set_option linter.unusedSimpArgs false
set_option maxRecDepth 4000

theorem DOpsV.take {w : World} {a : Option Addr} {len cap n : Nat} {l : List DOp} (h : DOpsV w (.slice a len cap) l) (hn : n ≤ len) : DOpsV w (.slice a n cap) (l.take n) := by
  obtain ⟨a', len', cap', e, hl, hm, ⟨s1, s2, s3⟩, hr⟩ := h
  injection e with e1 e2 e3
  subst e1 e2 e3
  refine ⟨a, n, cap, rfl, by rw [List.length_take]; omega, by omega, ⟨by omega, s2, s3⟩, fun j hj => ?_⟩
  rw [List.length_take] at hj
  rw [dop_take (by omega)]
  exact hr j (by omega)

set_option maxHeartbeats 1000000 in
theorem eqdops_same (v u : Value) (l : List DOp) (w : World) (hv : DOpsV w v l) (hu : DOpsV w u l) :
    Calls Try.prog 11 #[v, u] w fun e w' => e = .returned (.bool true) ∧ Below w.heap.size w w' := by
  obtain ⟨a, ca, rfl, hla, _⟩ := hv.slice
  obtain ⟨b, cb, rfl, hlb, _⟩ := hu.slice
  obtain ⟨len, hlen⟩ : ∃ len, len = l.length := ⟨_, rfl⟩
  rw [← hlen] at hv hu hla hlb ⊢
  have e1 : (((len : Nat) : Int) != (len : Int)) = false := by simp
  go_enter Try.func11, Try.ntmps11
  go_wp2_with fail
  go_loopg [13] len (fun g i wr => ∃ k : Nat, k + g = len ∧ i = .int .i64 k ∧ Below w.heap.size w wr)
  case atStart => exact ⟨0, by omega, rfl, Below.refl _ _⟩
  case round =>
    obtain ⟨k, hkg, rfl, hb⟩ := hrel
    by_cases hkn : k < len
    · obtain ⟨b1, o1, rfl, _, c0, c1, c2, c3, c4⟩ := (hv.below hb).at hkn
      obtain ⟨b2, o2, rfl, _, d0, d1, d2, d3, d4⟩ := (hu.below hb).at hkn
      generalize dopAt l k = x at *
      obtain ⟨x1, x2, x3, x4, x5⟩ := x
      simp only at c0 c1 c2 c3 c4 d0 d1 d2 d3 d4
      have f1 : (x1 == x1) = true := by simp
      have f2 : (x2 == x2) = true := by simp
      have f3 : (x3 == x3) = true := by simp
      have f4 : (x4 == x4) = true := by simp
      have f5 : (x5 == x5) = true := by simp
      go_wp2_with fail
      go_quiet (fail)
      have R := below_drewN hb nq
      clear c0 c1 c2 c3 c4 d0 d1 d2 d3 d4
      go_wp2
      go_roundg (gk - 1)
      case measure => omega
      case rel => exact ⟨k + 1, by omega, by go_num, R⟩
    · go_wp2
      go_ret
      exact ⟨rfl, hb⟩

theorem dtake_succ {l : List DOp} {k : Nat} (hk : k < l.length) : l.take (k + 1) = l.take k ++ [dopAt l k] := by
  rw [List.take_add_one]
  simp [dopAt, List.getD, List.getElem?_eq_getElem hk]

/-- What 'written' answers. -/
def WrittenV (w : World) (l : List DOp) (e : Ending) (w' : World) : Prop :=
  (AllFit l ∧ ∃ r, e = .returned (.tuple #[r, .bool true]) ∧ OwnU w.heap.size w w' r (writtenL l)) ∨ (¬ AllFit l ∧ e = .returned (.tuple #[.slice none 0 0, .bool false]) ∧ Below w.heap.size w w')

set_option maxHeartbeats 2000000 in
theorem written_any (v : Value) (l : List DOp) (w : World) (hv : DOpsV w v l) : Calls Try.prog 13 #[v] w (WrittenV w l) := by
  obtain ⟨a, ca, rfl, hla, _⟩ := hv.slice
  obtain ⟨len, Hlen⟩ : ∃ len, Hid (l.length = len) := ⟨_, rfl⟩
  rw [Hlen.out] at hv hla ⊢
  go_enter Try.func13, Try.ntmps13
  go_upto_region 3 with fail
  go_loopg [4, 11] len (fun g ov i wr => ∃ k : Nat, k + g = len ∧ i = .int .i64 k ∧ OwnU w.heap.size w wr ov (writtenL (l.take k)) ∧ Hid (∀ j, j < k → fitsO (dopAt l j) = true))
  case atStart => exact ⟨0, by omega, rfl, OwnU.nil _, fun j hj => absurd hj (Nat.not_lt_zero _)⟩
  case round =>
    obtain ⟨k, hkg, rfl, hO, HF⟩ := hrel
    obtain ⟨oa, oc, rfl⟩ := hO.slice
    obtain ⟨ol, Hol⟩ : ∃ n, Hid ((writtenL (l.take k)).length = n) := ⟨_, rfl⟩
    have hO' : OwnU w.heap.size w wr (.slice oa ol oc) (writtenL (l.take k)) := by rw [← Hol.out]; exact hO
    rw [Hol.out]
    clear hO
    by_cases hkn : k < len
    · have Hkl : Hid (k < l.length) := by show k < l.length; rw [Hlen.out]; exact hkn
      have Hsn : Hid (writtenL (l.take (k + 1)) = writtenL (l.take k) ++ seven (dopAt l k)) := by show _ = _; rw [dtake_succ Hkl.out, written_snoc]
      have hol : (writtenL (l.take k)).length = 7 * k := by rw [written_length, List.length_take, Hlen.out]; omega
      have Hol2 : Hid (ol = 7 * k) := by show _ = _; rw [← Hol.out, hol]
      clear hol
      obtain ⟨b1, o1, rfl, hb1, c0, c1, c2, c3, c4⟩ := (hv.below hO'.2.1).at hkn
      obtain ⟨d, Hd⟩ : ∃ d, Hid (dopAt l k = d) := ⟨_, rfl⟩
      rw [Hd.out] at c0 c1 c2 c3 c4 Hsn
      have bb := below_new wr (.cells (dopA d) 23)
      have hB := boxJ_new wr d
      obtain ⟨wj, Hwj⟩ : ∃ v, Hid (wr.alloc (.cells #[.int .i64 d.kind, .int .i64 d.user, .int .i64 d.tran, .int .i64 d.item, .int .i64 d.hand] 23) = v) := ⟨_, rfl⟩
      have e0 : wr.alloc (.cells (dopA d) 23) = wj := Hwj.out
      rw [e0] at bb hB
      clear e0
      obtain ⟨Bj, HBj⟩ : ∃ B, Hid (wr.heap.size = B) := ⟨_, rfl⟩
      rw [HBj.out] at hB
      go_upto_region 5 with fail
      rw [Hwj.out, HBj.out]
      clear Hwj HBj c0 c1 c2 c3 c4
      obtain ⟨q0, q1, q2, q3, q4⟩ := hB.cells
      go_wp2_with fail
      refine (journal_write d wj).mono ?_
      rintro e w2 ⟨r, rfl, hOr⟩
      have b2 := hOr.2.1
      have hO2 := (hO'.trans bb).trans b2
      clear hO' q0 q1 q2 q3 q4 hB
      cases hf : fitsO d
      · have E : writeJ d = ([], 2) := by simp [writeJ, hf]
        rw [E] at hOr ⊢
        have HNot : Hid (¬ AllFit l) := fun q => by have := q k Hkl.out; rw [Hd.out, hf] at this; cases this
        obtain ⟨ra, rc, rfl⟩ := hOr.slice
        simp only [List.length_nil]
        clear E hOr hf HF
        go_wp2
        go_ret2
        exact .inr ⟨HNot.out, rfl, hO2.2.1⟩
      · have E : writeJ d = (seven d, 0) := by simp [writeJ, hf]
        rw [E] at hOr ⊢
        have hBy : BytesV w2 r (seven d) := hOr.bytes (by rw [seven_length]; omega) (seven_byte hf)
        obtain ⟨ra, rc, rfl⟩ := hOr.slice
        have es : (seven d).length = 7 := rfl
        rw [es] at hBy ⊢
        obtain ⟨rb, ro, rfl, _, _⟩ := hBy.at (k := 0) (by omega)
        have HF2 : Hid (∀ j, j < k + 1 → fitsO (dopAt l j) = true) := fun j hj => by
          by_cases e : j = k
          · subst e; rw [Hd.out]; exact hf
          · exact HF.out j (by omega)
        have hlb : (writtenL (l.take k)).length + (seven d).length ≤ 24629060462187 := by rw [Hol.out, seven_length]; have := Hol2.out; omega
        simp only
        clear E hOr hf HF es b2 bb
        go_wp2_with (at_builtin; refine wp_append_bytes rfl _ _ rfl w.heap.size w w2 _ ⟨rb, ro, none⟩ 7 rc (writtenL (l.take k)) (seven d) hO2 rfl rfl hBy hlb ?_; intro v' w6 hO6)
        go_roundg (gk - 1)
        case measure => omega
        case rel => exact ⟨k + 1, by omega, by go_num, by rw [Hsn.out]; exact hO6, HF2⟩
    · obtain rfl : k = len := by omega
      have HA : Hid (AllFit l) := fun j hj => HF.out j (by rw [← Hlen.out]; exact hj)
      have hO3 : OwnU w.heap.size w wr (.slice oa ol oc) (writtenL l) := by
        have := hO'
        rw [List.take_of_length_le (by rw [Hlen.out]; exact Nat.le_refl _)] at this
        exact this
      clear HF hO'
      go_wp2
      go_ret2
      exact .inl ⟨HA.out, _, rfl, hO3⟩

def op18 : DOp := ⟨2, 0, 0, 300, 0⟩
theorem fit18 : fitsO op18 = true := by decide
theorem read18 {l : List DOp} {e : Int} (h : ReadOk (seven op18 ++ [1, 2]) l e) : l = [op18] ∧ e = 0 := by
  refine h.unique ⟨by decide, fun j hj => ?_, .inl ⟨rfl, by decide⟩⟩
  obtain rfl : j = 0 := by simp at hj; omega
  have hb : blk (seven op18 ++ [1, 2]) 0 = seven op18 := rfl
  exact ⟨good_of hb, by rw [hb, op_seven fit18]; rfl⟩

set_option maxHeartbeats 2000000 in
theorem alive18_any (w : World) : Calls Try.prog 12 #[] w fun e w' => e = .returned (.bool true) ∧ Below w.heap.size w w' := by
  go_enter Try.func12, Try.ntmps12
  go_wp2_with fail
  refine (journal_write op18 w).mono ?_
  rintro e w1 ⟨r, rfl, hOr⟩
  have E : writeJ op18 = (seven op18, 0) := by simp [writeJ, fit18]
  rw [E] at hOr ⊢
  obtain ⟨ra, rc, rfl⟩ := hOr.slice
  have es : (seven op18).length = 7 := rfl
  rw [es]
  simp only
  clear es E
  have bl := below_new w1 (.cells #[.int .u8 1, .int .u8 2] 5)
  have hV2 : BytesV (w1.alloc (.cells #[.int .u8 1, .int .u8 2] 5)) (.slice (some ⟨w1.heap.size, 0, none⟩) 2 2) [1, 2] := by
    refine ⟨_, _, _, rfl, rfl, by omega, ⟨by omega, by omega, fun h => by cases h⟩, fun j => ?_, fun j hj => ⟨w1.heap.size, 0, rfl, by simp, ?_⟩⟩
    · match j with
      | 0 => exact ⟨by decide, by decide⟩
      | 1 => exact ⟨by decide, by decide⟩
      | j + 2 => rw [nth_past _ _ (by show 2 ≤ j + 2; omega)]; exact ⟨by decide, by decide⟩
    · rw [World.cell?_alloc_at _ _ _ _ rfl]
      match j, hj with
      | 0, _ => rfl
      | 1, _ => rfl
  have hO1 := hOr.trans bl
  obtain ⟨w2, Hw2⟩ : ∃ v, Hid (w1.alloc (.cells #[.int .u8 1, .int .u8 2] 5) = v) := ⟨_, rfl⟩
  obtain ⟨B, HB⟩ : ∃ v, Hid (w1.heap.size = v) := ⟨_, rfl⟩
  rw [Hw2.out] at hV2 hO1 bl
  rw [HB.out] at hV2
  clear hOr
  go_wp2_with (rw [Hw2.out, HB.out]; at_builtin; refine wp_append_bytes rfl _ _ rfl w.heap.size w w2 _ ⟨B, 0, none⟩ 2 2 (seven op18) [1, 2] hO1 rfl rfl hV2 (by decide) ?_; intro v' w6 hO6)
  have hB9 := hO6.bytes (by decide) (fun j => by
    by_cases hj : j < 7
    · rw [nth_app_left (by exact hj)]; exact seven_byte fit18 j
    · rw [nth_app_right (by exact Nat.le_of_not_lt hj)]; exact hV2.byte _)
  refine (journal_read _ (seven op18 ++ [1, 2]) w6 (by exact hB9)).mono ?_
  rintro e w7 ⟨r7, l7, d7, rfl, hO7, hR7⟩
  obtain ⟨rfl, rfl⟩ := read18 hR7
  have hD7 := hO7.dops (by decide)
  obtain ⟨a7, c7, rfl⟩ := hO7.slice
  have e7 : ([op18] : List DOp).length = 1 := rfl
  rw [e7] at hD7 ⊢
  obtain ⟨b7, o7, rfl, _, _, _, _, c3, _⟩ := hD7.at (k := 0) (by omega)
  have c3' : w7.cell? ⟨b7, o7 + 3, none⟩ = some (.int .i64 300) := by
    have e3 : (dopAt [op18] 0).item = 300 := rfl
    rw [e3] at c3
    simpa using c3
  have R := below_then hO6.2.1 hO7.2.1
  clear c3 hD7 hO7 hR7 hB9 hO6 hO1 hV2 bl Hw2 HB e7
  go_wp2
  go_ret
  exact ⟨rfl, R⟩

end Go.Proofs.Yteohpkicbkhpjaa
