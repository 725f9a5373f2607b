/- The document's own journal: what is read. -/
import Derived.Test.YteohpkicbkhpjaaJournRef
namespace Go.Proofs.Yteohpkicbkhpjaa
open Go.RowKit
set_option linter.unusedVariables false
set_option linter.unusedSimpArgs false
set_option maxRecDepth 4000

theorem strJ_data (xs : List Int) : (strJ xs).data.toList = xs.map fun n => UInt8.ofNat n.toNat := by
  have key : ∀ (xs : List Int) (s : ByteArray), (xs.foldl (fun r n => r.push (UInt8.ofNat n.toNat)) s).data.toList = s.data.toList ++ xs.map fun n => UInt8.ofNat n.toNat := by
    intro xs
    induction xs with
    | nil => intro s; simp
    | cons x xs ih => intro s; rw [List.foldl_cons, ih]; simp [ByteArray.push]
  have := key xs ByteArray.empty
  simpa [strJ] using this
theorem strJ_inj {xs ys : List Int} (hx : ∀ j, isByte (nth xs j)) (hy : ∀ j, isByte (nth ys j)) (h : strJ xs = strJ ys) : xs = ys := by
  have e : xs.map (fun n => UInt8.ofNat n.toNat) = ys.map fun n => UInt8.ofNat n.toNat := by rw [← strJ_data, ← strJ_data, h]
  have hl : xs.length = ys.length := by simpa using congrArg List.length e
  refine List.ext_getElem hl fun i h1 h2 => ?_
  have e2 : UInt8.ofNat (xs[i]).toNat = UInt8.ofNat (ys[i]).toNat := by
    have := congrArg (fun l => l[i]?) e
    simpa [List.getElem?_eq_getElem h1, List.getElem?_eq_getElem h2] using this
  have a1 := hx i
  have a2 := hy i
  have n1 : nth xs i = xs[i] := by simp [nth, List.getD, List.getElem?_eq_getElem h1]
  have n2 : nth ys i = ys[i] := by simp [nth, List.getD, List.getElem?_eq_getElem h2]
  rw [n1] at a1
  rw [n2] at a2
  have e3 := congrArg UInt8.toNat e2
  simp only [UInt8.toNat_ofNat'] at e3
  obtain ⟨p1, p2⟩ := a1
  obtain ⟨p3, p4⟩ := a2
  omega
theorem blk_zero {xs : List Int} (h : 7 ≤ xs.length) : blk xs 0 = xs.take 7 := list7 (blk_length _ _) (by rw [List.length_take]; omega) fun j hj => by rw [blk_at _ _ _ hj, nth_take hj, Nat.mul_zero, Nat.zero_add]
theorem good_iff {xs : List Int} (h : 7 ≤ xs.length) (hb : ∀ j, isByte (nth xs j)) : goodB xs 0 ↔ seven (opJ xs) = xs.take 7 := by
  have e : opJ xs = opJ (blk xs 0) := by have := blk_op xs 0; rw [Nat.mul_zero, List.drop_zero] at this; exact this
  rw [← blk_zero h, e]
  constructor
  · intro hg
    refine seven_op (blk_length _ _) (bytes7 (blk_length _ _) fun i hi => by rw [blk_at _ _ _ hi]; exact hb _) ?_
    rw [blk_at _ _ _ (by omega)]
    exact hg
  · intro hs
    exact good_of hs.symm
theorem blk_next (xs : List Int) (j : Nat) : blk (xs.drop 7) j = blk xs (j + 1) := list7 (blk_length _ _) (blk_length _ _) fun i hi => by rw [blk_at _ _ _ hi, blk_at _ _ _ hi, nth_drop]; congr 1; omega
theorem good_next (xs : List Int) (j : Nat) : goodB (xs.drop 7) j ↔ goodB xs (j + 1) := by
  unfold goodB
  rw [blk_next, nth_drop, show 7 + (7 * j + 6) = 7 * (j + 1) + 6 by omega]
theorem ReadOk.cons {xs : List Int} {l : List DOp} {d : Int} (h : ReadOk (xs.drop 7) l d) (h7 : 7 ≤ xs.length) (hg : goodB xs 0) : ReadOk xs (opJ xs :: l) d := by
  have hr := h.room
  rw [List.length_drop] at hr
  refine ⟨by rw [List.length_cons]; omega, fun j hj => ?_, ?_⟩
  · match j, hj with
    | 0, _ =>
      refine ⟨hg, ?_⟩
      have := blk_op xs 0
      rw [Nat.mul_zero, List.drop_zero] at this
      exact this
    | j + 1, hj =>
      obtain ⟨g1, g2⟩ := h.good j (by simpa using hj)
      refine ⟨(good_next xs j).1 g1, ?_⟩
      rw [blk_next] at g2
      exact g2
  · rcases h.stop with ⟨h1, h2⟩ | ⟨h1, h2, h3⟩
    · rw [List.length_drop] at h2
      exact .inl ⟨h1, by rw [List.length_cons]; omega⟩
    · rw [List.length_drop] at h2
      exact .inr ⟨h1, by rw [List.length_cons]; omega, fun q => h3 ((good_next xs l.length).2 (by simpa using q))⟩

end Go.Proofs.Yteohpkicbkhpjaa
