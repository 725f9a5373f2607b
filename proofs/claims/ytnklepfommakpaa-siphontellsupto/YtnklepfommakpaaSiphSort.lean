/- slices.Sorted over slices.Values, over numbers. -/
import Derived.Lib.SlKeysI
import Derived.Test.YtnklepfommakpaaSiphSeq
import Derived.Test.YtnklepfommakpaaSortLay
import Derived.Test.YtnklepfommakpaaSlices9
namespace Go.Proofs.Ytnklepfommakpaa
open Go.RowKit Go.Sort
set_option linter.unusedVariables false

theorem appendseq_any (b : Nat) (v : Value) (xs : List Int) (w : World) (hb : Box1 w b v) (hv : Ints w v xs) :
    Calls Try.prog 65 #[.slice none 0 0, .func (.func 57) #[] #[.pointer (some ⟨b, 0, none⟩)]] w fun e W' => ∃ r, e = .returned r ∧ Own w.heap.size w W' r xs :=
  (callsIn_wide (n := 5)).1 (appendseq_in 5 (by omega) b v xs w hb hv)

theorem collect_any (b : Nat) (v : Value) (xs : List Int) (w : World) (hb : Box1 w b v) (hv : Ints w v xs) :
    Calls Try.prog 55 #[.func (.func 57) #[] #[.pointer (some ⟨b, 0, none⟩)]] w fun e W' => ∃ r, e = .returned r ∧ Own w.heap.size w W' r xs := by
  go_enter Try.func55, Try.ntmps55
  go_wp2_with fail
  refine (appendseq_any b v xs w hb hv).mono ?_
  rintro e w1 ⟨r, rfl, hO⟩
  go_wp2
  go_ret
  exact ⟨r, rfl, hO⟩

/-- slices.Sort over a row of the call's own. -/
theorem sort_own (B : Nat) (w wr : World) (v : Value) (zs : List Int) (hO : Own B w wr v zs) (hl : zs.length ≤ 17592186044416) :
    Calls Try.prog 56 #[v] wr fun e w' => e = .returned (.tuple #[]) ∧ Own B w w' v (zs.mergeSort fun x y => decide (x ≤ y)) := by
  obtain ⟨hrow, hb, hB⟩ := hO
  rcases hrow.2 with ⟨rfl, hz⟩ | ⟨gb, cap, cur, rfl, hbase, hgb, r1, r2, r3, r4⟩
  · have hss : zs = [] := List.eq_nil_of_length_eq_zero hz
    subst hss
    refine (AnyM.slices_Sort_int_none sortA none 0 wr).mono ?_
    rintro e w' ⟨rfl, rfl⟩
    exact ⟨rfl, by simpa using hrow, hb, hB⟩
  · have hH : Holds encZ wr gb 0 zs.toArray := holds_of_block_i hgb (by simpa using r4)
    have hgl : gb < wr.heap.size := (Array.getElem?_eq_some_iff.1 hgb).1
    refine (AnyM.slices_Sort_int sortA gb 0 cap zs wr hH hgl (by omega)).mono ?_
    rintro e w' ⟨rfl, nn, os, rfl⟩
    have hg := grownBy_sorted_i (w := wr) (g := gb) (n := nn) (os := os) (zs.mergeSort fun x y => decide (x ≤ y)).toArray
    refine ⟨rfl, ?_, hb.grown hg (by omega) (fun j hj => by cases hj; exact hbase), Nat.le_trans hB hg.size⟩
    have h := ownsRow_sorted_i (n := nn) (os := os) (ts := zs.mergeSort fun x y => decide (x ≤ y)) (ss := zs) (by simp) hbase hgb r1 r2 r3
    simpa using h

theorem sorted_values (b : Nat) (v : Value) (xs : List Int) (w : World) (hb : Box1 w b v) (hv : Ints w v xs) :
    Calls Try.prog 35 #[.func (.func 57) #[] #[.pointer (some ⟨b, 0, none⟩)]] w fun e w' => ∃ r ys, e = .returned r ∧ Own w.heap.size w w' r ys ∧ ys.Pairwise (· ≤ ·) ∧ ys.length = xs.length ∧ ∀ t, t ∈ ys ↔ t ∈ xs := by
  have hxl : xs.length ≤ 17592186044416 := by
    obtain ⟨_, _, _, _, h1, h2, _⟩ := id hv
    omega
  go_enter Try.func35, Try.ntmps35
  go_wp2_with fail
  refine (collect_any b v xs w hb hv).mono ?_
  rintro e w1 ⟨r, rfl, hO⟩
  go_wp2_with fail
  refine (sort_own _ _ _ r xs hO hxl).mono ?_
  rintro e w2 ⟨rfl, hO2⟩
  go_wp2
  go_ret
  refine ⟨r, _, rfl, hO2, ?_, by simp, fun t => by simp⟩
  have h := List.pairwise_mergeSort (le := fun x y : Int => decide (x ≤ y)) (by intro a b c; simp; omega) (by intro a b; simp; omega) xs
  simpa using h

theorem values_any (a : Option Addr) (len cap : Nat) (w : World) :
    Calls Try.prog 36 #[.slice a len cap] w fun e w' => e = .returned (.func (.func 57) #[] #[.pointer (some ⟨w.heap.size, 0, none⟩)]) ∧ w' = w.alloc (.cells #[.slice a len cap] 25) := by
  go_enter Try.func36, Try.ntmps36
  go_wp2
  go_ret
  exact ⟨rfl, rfl⟩

end Go.Proofs.Ytnklepfommakpaa
