/- slices.Sorted over slices.Values, over numbers. -/
import Derived.Lib.SlKeysI
import Derived.Test.YtgedpebnipghlaaSiphSeq
import Derived.Test.YtgedpebnipghlaaSortLay
import Derived.Test.YtgedpebnipghlaaSlices9
namespace Go.Proofs.Ytgedpebnipghlaa
open Go.RowKit Go.Sort
set_option linter.unusedVariables false
set_option maxRecDepth 4000

/-- slices.Sort over a row of the call's own. -/
theorem sort_own (B : Nat) (w wr : World) (v : Value) (zs : List Int) (hO : Own B w wr v zs) (hl : zs.length ≤ 17592186044416) :
    Calls Try.prog 19 #[v] wr fun e w' => e = .returned (.tuple #[]) ∧ Own B w w' v (zs.mergeSort fun x y => decide (x ≤ y)) := by
  obtain ⟨hrow, hb, hB⟩ := hO
  rcases hrow.2 with ⟨rfl, hz⟩ | ⟨gb, cap, cur, rfl, hbase, hgb, r1, r2, r3, r4⟩
  · have hss : zs = [] := List.eq_nil_of_length_eq_zero hz
    subst hss
    refine (AnyM.slices_Sort_int_none sortA none 0 wr).mono ?_
    rintro e w' ⟨rfl, rfl⟩
    exact ⟨rfl, by simpa using hrow, hb, hB⟩
  · have hH : Holds encZ wr gb 0 zs.toArray := holds_of_block_i hgb (by simpa using r4)
    have hgl : gb < wr.heap.size := (Array.getElem?_eq_some_iff.1 hgb).1
    refine (AnyM.slices_Sort_int sortA gb 0 cap zs wr hH hgl (by omega)).mono ?_
    rintro e w' ⟨rfl, nn, os, rfl⟩
    have hg := grownBy_sorted_i (w := wr) (g := gb) (n := nn) (os := os) (zs.mergeSort fun x y => decide (x ≤ y)).toArray
    refine ⟨rfl, ?_, hb.grown hg (by omega) (fun j hj => by cases hj; exact hbase), Nat.le_trans hB hg.size⟩
    have h := ownsRow_sorted_i (n := nn) (os := os) (ts := zs.mergeSort fun x y => decide (x ≤ y)) (ss := zs) (by simp) hbase hgb r1 r2 r3
    simpa using h

end Go.Proofs.Ytgedpebnipghlaa
