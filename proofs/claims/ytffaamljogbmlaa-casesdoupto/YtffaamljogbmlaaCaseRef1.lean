/- The document's own answers for cases: whether a case is right; two that are the same; where one begins. -/
import Derived.Test.YtffaamljogbmlaaGr05
import Derived.Test.YtffaamljogbmlaaGr06
import Derived.Test.YtffaamljogbmlaaGr04
import Derived.Test.YtffaamljogbmlaaGr01
import Derived.Deep.RegionHeld3
namespace Go.Proofs.Ytffaamljogbmlaa
open Go.RowKit
set_option linter.unusedVariables false
set_option linter.unusedSimpArgs false
set_option maxRecDepth 4000

set_option maxHeartbeats 1000000 in
theorem pright_any (v u : Value) (n : NetL) (c : CaseL) (w : World) (hv : Net w v n) (hu : CaseV w u c) (hsm : SmallNet n) :
    Calls Try.prog 16 #[v, u] w fun e w' => e = .returned (.bool (rightC n c)) ∧ Below w.heap.size w w' := by
  obtain ⟨tv, rfl, hT⟩ := hv
  obtain ⟨a, l, p, a', l', p', rfl, h1, h2⟩ := hu
  have b1 := below_new w (.cells #[.int .i64 n.places, tv] 24)
  have hbx := box2_new w (.int .i64 n.places) tv 24
  obtain ⟨wa, Hwa⟩ : ∃ wa, Hid (w.alloc (.cells #[.int .i64 n.places, tv] 24) = wa) := ⟨_, rfl⟩
  have ea : wa.heap.size = w.heap.size + 1 := by rw [← Hwa.out]; simp
  rw [Hwa.out] at b1 hbx
  have b2 := below_new wa (.cells #[.slice a l p, .slice a' l' p'] 27)
  have hby := box2_new wa (.slice a l p) (.slice a' l' p') 27
  rw [ea] at hby
  obtain ⟨w0, Hw0⟩ : ∃ w0, Hid ((w.alloc (.cells #[.int .i64 n.places, tv] 24)).alloc (.cells #[.slice a l p, .slice a' l' p'] 27) = w0) := ⟨_, rfl⟩
  have hw0 : wa.alloc (.cells #[.slice a l p, .slice a' l' p'] 27) = w0 := by rw [← Hwa.out]; exact Hw0.out
  rw [hw0] at b2 hby
  replace hbx := hbx.below b2
  have c0 := below_then b1 b2
  have hv : Net w0 (.agg #[.int .i64 n.places, tv]) n := ⟨_, rfl, hT.below c0⟩
  replace h1 := h1.below c0
  replace h2 := h2.below c0
  obtain ⟨ta, len, tc, rfl, hlen, _⟩ := id hT
  have Hr : Hid (rightC n c = (fitsL n c.mark && (c.busy.length == n.trans.length) && rightL c.busy)) := rfl
  have Hl : Hid (c.busy.length = l') := len_of_ints h2
  rw [Hl.out, hlen] at Hr
  clear hT b1 b2 Hwa ea hw0 hlen
  obtain ⟨x0, x1, x2⟩ := id hbx
  obtain ⟨y0, y1, y2⟩ := id hby
  go_enter Try.func16, Try.ntmps16
  go_upto_region 1 with fail
  rw [Hw0.out]
  clear Hw0
  go_wp2_with fail
  refine (bfits_any _ _ n c.mark w0 (by exact hv) (by exact h1) hsm).mono ?_
  rintro e w1 ⟨rfl, b⟩
  replace c0 := below_then c0 b
  replace h2 := h2.below b
  replace hbx := hbx.below b
  replace hby := hby.below b
  clear b x0 x1 x2 y0 y1 y2 hv h1
  obtain ⟨x0, x1, x2⟩ := id hbx
  obtain ⟨y0, y1, y2⟩ := id hby
  cases hf : fitsL n c.mark
  · have R : Hid (rightC n c = false) := by show _ = _; rw [Hr.out, hf]; rfl
    clear hf Hr
    go_wp2
    go_ret
    exact ⟨ret_bool R.out.symm, c0⟩
  · by_cases hll : l' = len
    · subst hll
      go_wp2_with fail
      refine (aright_any _ c.busy w1 (by exact h2)).mono ?_
      rintro e w2 ⟨rfl, rfl⟩
      have R : Hid (rightC n c = rightL c.busy) := by show _ = _; rw [Hr.out, hf]; simp
      clear hf Hr
      go_wp2
      go_ret
      exact ⟨ret_bool R.out.symm, c0⟩
    · have R : Hid (rightC n c = false) := by show _ = _; rw [Hr.out, hf]; simp [hll]
      have hll' : ((l' : Int) == (len : Int)) = false := by
        rw [beq_eq_false_iff_ne]; omega
      clear hf Hr hll
      go_wp2
      go_ret
      exact ⟨ret_bool R.out.symm, c0⟩

theorem sameints_any (v u : Value) (xs ys : List Int) (w : World) (hv : Ints w v xs) (hu : Ints w u ys) :
    Calls Try.prog 36 #[v, u] w fun e w' => e = .returned (.bool (xs == ys)) ∧ Below w.heap.size w w' := by
  go_enter Try.func36, Try.ntmps36
  go_wp2_with fail
  refine (equal_b _ _ xs ys w (by exact hv) (by exact hu)).mono ?_
  rintro e w1 ⟨rfl, b⟩
  go_wp2
  go_ret
  exact ⟨rfl, b⟩

def sameC (c d : CaseL) : Bool := (c.mark == d.mark) && (c.busy == d.busy)
theorem sameC_self (c : CaseL) : sameC c c = true := by simp [sameC]

set_option maxHeartbeats 1000000 in
theorem samecase_any (v u : Value) (c d : CaseL) (w : World) (hv : CaseV w v c) (hu : CaseV w u d) :
    Calls Try.prog 14 #[v, u] w fun e w' => e = .returned (.bool (sameC c d)) ∧ Below w.heap.size w w' := by
  obtain ⟨a, l, p, a', l', p', rfl, h1, h2⟩ := hv
  obtain ⟨d1, l1, p1, d2, l2, p2, rfl, k1, k2⟩ := hu
  have b1 := below_new w (.cells #[.slice a l p, .slice a' l' p'] 27)
  have hbx := box2_new w (.slice a l p) (.slice a' l' p') 27
  obtain ⟨wa, Hwa⟩ : ∃ wa, Hid (w.alloc (.cells #[.slice a l p, .slice a' l' p'] 27) = wa) := ⟨_, rfl⟩
  have ea : wa.heap.size = w.heap.size + 1 := by rw [← Hwa.out]; simp
  rw [Hwa.out] at b1 hbx
  have b2 := below_new wa (.cells #[.slice d1 l1 p1, .slice d2 l2 p2] 27)
  have hby := box2_new wa (.slice d1 l1 p1) (.slice d2 l2 p2) 27
  rw [ea] at hby
  obtain ⟨w0, Hw0⟩ : ∃ w0, Hid ((w.alloc (.cells #[.slice a l p, .slice a' l' p'] 27)).alloc (.cells #[.slice d1 l1 p1, .slice d2 l2 p2] 27) = w0) := ⟨_, rfl⟩
  have hw0 : wa.alloc (.cells #[.slice d1 l1 p1, .slice d2 l2 p2] 27) = w0 := by rw [← Hwa.out]; exact Hw0.out
  rw [hw0] at b2 hby
  replace hbx := hbx.below b2
  have c0 := below_then b1 b2
  replace h1 := h1.below c0
  replace h2 := h2.below c0
  replace k1 := k1.below c0
  replace k2 := k2.below c0
  clear b1 b2 Hwa ea hw0
  have Hr : Hid (sameC c d = ((c.mark == d.mark) && (c.busy == d.busy))) := rfl
  obtain ⟨x0, x1, x2⟩ := id hbx
  obtain ⟨y0, y1, y2⟩ := id hby
  go_enter Try.func14, Try.ntmps14
  go_upto_region 1 with fail
  rw [Hw0.out]
  clear Hw0
  go_wp2_with fail
  refine (sameints_any _ _ c.mark d.mark w0 (by exact h1) (by exact k1)).mono ?_
  rintro e w1 ⟨rfl, b⟩
  replace c0 := below_then c0 b
  replace h2 := h2.below b
  replace k2 := k2.below b
  replace hbx := hbx.below b
  replace hby := hby.below b
  clear b x0 x1 x2 y0 y1 y2 h1 k1
  obtain ⟨x0, x1, x2⟩ := id hbx
  obtain ⟨y0, y1, y2⟩ := id hby
  cases hm : (c.mark == d.mark)
  · have R : Hid (sameC c d = false) := by show _ = _; rw [Hr.out, hm]; rfl
    clear hm Hr
    go_wp2
    go_ret
    exact ⟨ret_bool R.out.symm, c0⟩
  · go_wp2_with fail
    refine (sameints_any _ _ c.busy d.busy w1 (by exact h2) (by exact k2)).mono ?_
    rintro e w2 ⟨rfl, b⟩
    replace c0 := below_then c0 b
    have R : Hid (sameC c d = (c.busy == d.busy)) := by show _ = _; rw [Hr.out, hm]; rfl
    clear hm Hr
    go_wp2
    go_ret
    exact ⟨ret_bool R.out.symm, c0⟩

end Go.Proofs.Ytffaamljogbmlaa
