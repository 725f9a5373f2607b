import Derived.Test.YtlknegihhcdhbaaRows
import Derived.Test.YtlknegihhcdhbaaGr00
import Derived.ProofKit
import Derived.OpenShut
import Derived.ShutString
import Derived.ChangeOld
import Derived.SizedLaws
import Derived.Lib.SmallJoins
import Derived.Deep.Strs
import Derived.Deep.Slices
import Derived.Test.YtlknegihhcdhbaaGr03
import Derived.Test.YtlknegihhcdhbaaGr05
/- A slice of ints that came in, read as a list. -/
namespace Go.Proofs.Ytlknegihhcdhbaa
open Go.ChangeShapes Go.WideShapes Go.ChangeAt Go.RowKit
set_option linter.unusedVariables false
set_option maxRecDepth 4000

theorem own : ownKnob Try.prog.godebug = none := by kernel_rfl
theorem laidOut : laidOutB Try.prog = true := by kernel_rfl
theorem bytes_int : Try.prog.bytesOf 3 = 8 := by kernel_rfl

theorem cell_lt {w : World} {a : Addr} {v : Value} (h : w.cell? a = some v) : a.block < w.heap.size := by
  rcases Nat.lt_or_ge a.block w.heap.size with h1 | h1
  · exact h1
  · unfold World.cell? at h
    rw [Array.getElem?_eq_none h1] at h
    simp at h

theorem ints_arg {H : Type} {enc : TypeId × Value → H} {W : World} {base : Nat} {v : Value} {d : DataW H} {p : List MemPlace}
    (hval : Value.okWide Try.prog W .any base 23 v) (h : DataW.Trod enc Try.prog W 0 (fun _ => true) true 23 v d p)
    (hsz : ∀ elems spare, d = .slice elems spare → (elems.length + spare.length) * 8 ≤ reachBytes) : ∃ xs, Ints W v xs := by
  obtain ⟨a0, len, cap, rfl⟩ := okWide_slice Try.underlying23 hval
  obtain ⟨fuel, hf⟩ := h
  rcases open_ints Try.underlying23 Try.underlying3 (by kernel_rfl) hf with ⟨hcs, _⟩ | ⟨x, l, c, zs, hcs, _, hl, hm, hz, hx, hcell, hwz⟩
  · simp [Value.cells] at hcs
    obtain ⟨rfl, rfl, rfl⟩ := hcs
    exact ⟨[], Ints.nil _⟩
  · simp [Value.cells] at hcs
    obtain ⟨rfl, rfl, rfl⟩ := hcs
    simp only [Prod.mk.injEq] at hx
    simp only [if_true] at hz
    have hs := hsz _ _ hx.1
    simp only [lits, List.length_map, List.length_take, List.length_drop, reachBytes] at hs
    refine ⟨zs.take len, x, len, cap, rfl, by simp; omega, by omega, ⟨hl, by unfold maxLen at hm; omega, fun h => by cases h⟩, fun j hj => ?_⟩
    have hj' : j < len := by simp at hj; omega
    have hc := hcell j (by omega)
    obtain ⟨b, off, spot⟩ := x
    have hspot : spot = none := by simpa [Addr.add] using World.cell?_spot (hcell 0 (by omega))
    subst hspot
    rw [add_plain] at hc
    refine ⟨b, off, rfl, ?_, ?_⟩
    · exact cell_lt hc
    · rw [hc]
      simp [nth, List.getD, hj']

end Go.Proofs.Ytlknegihhcdhbaa

/- What came in, read as lists and nets; and how much of it there is. -/
namespace Go.Proofs.Ytlknegihhcdhbaa
open Go.ChangeShapes Go.WideShapes Go.ChangeAt Go.RowKit Go.Joins Go.Deep
set_option linter.unusedVariables false
set_option maxRecDepth 4000

theorem bulk_pos {H : Type} (d : DataW H) : 1 ≤ Rows.uptoBulk d := by
  cases d with
  | lit l => cases l <;> simp [Rows.uptoBulk]
  | nil => simp [Rows.uptoBulk]
  | ptr d => simp [Rows.uptoBulk]
  | slice elems spare => simp [Rows.uptoBulk]
  | agg parts => simp [Rows.uptoBulk]
  | iface t d => simp [Rows.uptoBulk]
  | map entries => simp [Rows.uptoBulk]
  | held h => simp [Rows.uptoBulk]
theorem bulk_part {H : Type} {d : DataW H} {l : List (DataW H)} (h : d ∈ l) : Rows.uptoBulk d ≤ Rows.uptoBulkAll l := by
  induction l with
  | nil => cases h
  | cons x r ih =>
    simp only [Rows.uptoBulkAll]
    cases List.mem_cons.1 h with
    | inl e => subst e; omega
    | inr e => have := ih e; omega
theorem bulk_length {H : Type} (l : List (DataW H)) : l.length ≤ Rows.uptoBulkAll l := by
  induction l with
  | nil => simp [Rows.uptoBulkAll]
  | cons x r ih => have := bulk_pos x; simp only [Rows.uptoBulkAll, List.length_cons]; omega

theorem weights_part {H : Type} {P : Program} {e : TypeId} {d : DataW H} {l : List (DataW H)} (h : d ∈ l) {x : Nat} (hx : x ∈ d.weights P e) : x ∈ DataW.weightsAll P e l := by
  induction l with
  | nil => cases h
  | cons y r ih =>
    simp only [DataW.weightsAll, List.mem_append]
    cases List.mem_cons.1 h with
    | inl q => subst q; exact .inl hx
    | inr q => exact .inr (ih q)

/-- Nothing in it is too great for a machine. -/
def Fits {H : Type} (t : TypeId) (d : DataW H) : Prop := ∀ x ∈ d.weights Try.prog t, x ≤ reachBytes

theorem ints_read {H : Type} {enc : TypeId × Value → H} {W : World} {fuel : Nat} {c : Value} {d : DataW H} {p : List MemPlace}
    (hf : DataW.trod enc Try.prog W 0 (fun _ => true) true fuel 23 [c] = some (d, p)) (hw : Fits 23 d) : ∃ xs, Ints W c xs ∧ xs.length + 1 ≤ Rows.uptoBulk d := by
  rcases open_ints Try.underlying23 Try.underlying3 (by kernel_rfl) hf with ⟨hcs, hx⟩ | ⟨x, l, cap, zs, hcs, _, hl, hm, hz, hx, hcell, hwz⟩
  · simp only [List.cons.injEq, and_true] at hcs
    subst hcs
    simp only [Prod.mk.injEq] at hx
    obtain ⟨rfl, _⟩ := hx
    exact ⟨[], Ints.nil _, by simp [Rows.uptoBulk]⟩
  · simp only [List.cons.injEq, and_true] at hcs
    subst hcs
    simp only [Prod.mk.injEq] at hx
    obtain ⟨rfl, _⟩ := hx
    simp only [if_true] at hz
    have hs := hw ((zs.take l).length * 8 + (zs.drop l).length * 8) (by
      simp only [DataW.weights, Try.underlying23, List.mem_cons]
      left
      rw [bytes_int]
      simp only [lits, List.length_map]
      omega)
    simp only [List.length_take, List.length_drop, reachBytes] at hs
    have hb := bulk_length (H := H) (lits .i64 (zs.take l))
    refine ⟨zs.take l, ⟨x, l, cap, rfl, by simp; omega, by omega, ⟨hl, by unfold maxLen at hm; omega, fun h => by cases h⟩, fun j hj => ?_⟩, ?_⟩
    · have hj' : j < l := by simp at hj; omega
      have hc := hcell j (by omega)
      obtain ⟨b, off, spot⟩ := x
      have hspot : spot = none := by simpa [Addr.add] using World.cell?_spot (hcell 0 (by omega))
      subst hspot
      rw [addr_add] at hc
      exact ⟨b, off, rfl, cell_lt hc, by rw [hc]; simp [nth, List.getD, hj']⟩
    · simp only [Rows.uptoBulk]
      simp only [lits, List.length_map] at hb
      simp only [lits] at hb ⊢
      omega

theorem ints_arg2 {H : Type} {enc : TypeId × Value → H} {W : World} {base : Nat} {v : Value} {d : DataW H} {p : List MemPlace}
    (hval : Value.okWide Try.prog W .any base 23 v) (h : DataW.Trod enc Try.prog W 0 (fun _ => true) true 23 v d p) (hw : Fits 23 d) : ∃ xs, Ints W v xs ∧ xs.length + 1 ≤ Rows.uptoBulk d := by
  obtain ⟨a0, len, cap, rfl⟩ := okWide_slice Try.underlying23 hval
  obtain ⟨fuel, hf⟩ := h
  exact ints_read (by simpa [Value.cells] using hf) hw

theorem ints_readw {H : Type} {enc : TypeId × Value → H} {W : World} {fuel : Nat} {c : Value} {d : DataW H} {p : List MemPlace}
    (hf : DataW.trod enc Try.prog W 0 (fun _ => true) true fuel 23 [c] = some (d, p)) (hw : Fits 23 d) : ∃ xs, Ints W c xs ∧ xs.length + 1 ≤ Rows.uptoBulk d ∧ ∀ z ∈ xs, (Lit.int .i64 z).wf = true := by
  rcases open_ints Try.underlying23 Try.underlying3 (by kernel_rfl) hf with ⟨hcs, hx⟩ | ⟨x, l, cap, zs, hcs, _, hl, hm, hz, hx, hcell, hwz⟩
  · simp only [List.cons.injEq, and_true] at hcs
    subst hcs
    simp only [Prod.mk.injEq] at hx
    obtain ⟨rfl, _⟩ := hx
    exact ⟨[], Ints.nil _, by simp [Rows.uptoBulk], by simp⟩
  · simp only [List.cons.injEq, and_true] at hcs
    subst hcs
    simp only [Prod.mk.injEq] at hx
    obtain ⟨rfl, _⟩ := hx
    simp only [if_true] at hz
    have hs := hw ((zs.take l).length * 8 + (zs.drop l).length * 8) (by
      simp only [DataW.weights, Try.underlying23, List.mem_cons]
      left
      rw [bytes_int]
      simp only [lits, List.length_map]
      omega)
    simp only [List.length_take, List.length_drop, reachBytes] at hs
    have hb := bulk_length (H := H) (lits .i64 (zs.take l))
    refine ⟨zs.take l, ⟨x, l, cap, rfl, by simp; omega, by omega, ⟨hl, by unfold maxLen at hm; omega, fun h => by cases h⟩, fun j hj => ?_⟩, ?_, fun z hz => hwz z (List.mem_of_mem_take hz)⟩
    · have hj' : j < l := by simp at hj; omega
      have hc := hcell j (by omega)
      obtain ⟨b, off, spot⟩ := x
      have hspot : spot = none := by simpa [Addr.add] using World.cell?_spot (hcell 0 (by omega))
      subst hspot
      rw [addr_add] at hc
      exact ⟨b, off, rfl, cell_lt hc, by rw [hc]; simp [nth, List.getD, hj']⟩
    · simp only [Rows.uptoBulk]
      simp only [lits, List.length_map] at hb
      simp only [lits] at hb ⊢
      omega

theorem ints_arg3 {H : Type} {enc : TypeId × Value → H} {W : World} {base : Nat} {v : Value} {d : DataW H} {p : List MemPlace}
    (hval : Value.okWide Try.prog W .any base 23 v) (h : DataW.Trod enc Try.prog W 0 (fun _ => true) true 23 v d p) (hw : Fits 23 d) : ∃ xs, Ints W v xs ∧ xs.length + 1 ≤ Rows.uptoBulk d ∧ ∀ z ∈ xs, (Lit.int .i64 z).wf = true := by
  obtain ⟨a0, len, cap, rfl⟩ := okWide_slice Try.underlying23 hval
  obtain ⟨fuel, hf⟩ := h
  exact ints_readw (by simpa [Value.cells] using hf) hw

theorem int_arg {H : Type} {enc : TypeId × Value → H} {W : World} {base : Nat} {v : Value} {d : DataW H} {p : List MemPlace}
    (hval : Value.okWide Try.prog W .any base 3 v) (h : DataW.Trod enc Try.prog W 0 (fun _ => true) true 3 v d p) : ∃ x, v = .int .i64 x ∧ 1 ≤ Rows.uptoBulk d := by
  obtain ⟨x, rfl, rfl, rfl, _⟩ := open_int Try.underlying3 hval h
  exact ⟨x, rfl, bulk_pos _⟩

theorem cells3 {w : World} {a : Addr} {cs : List Value} (h : w.cells? 0 a 3 = some cs) : ∃ c0 c1 c2, cs = [c0, c1, c2] ∧ w.cell? (a.add 0) = some c0 ∧ w.cell? (a.add 1) = some c1 ∧ w.cell? (a.add 2) = some c2 := by
  simp only [World.cells?, Nat.zero_le, if_true] at h
  simp only [show List.range 3 = [0, 1, 2] from rfl, List.mapM_cons, List.mapM_nil] at h
  cases h0 : w.cell? (a.add 0) with
  | none => simp [h0] at h
  | some c0 =>
    cases h1 : w.cell? (a.add 1) with
    | none => simp [h0, h1] at h
    | some c1 =>
      cases h2 : w.cell? (a.add 2) with
      | none => simp [h0, h1, h2] at h
      | some c2 =>
        simp [h0, h1, h2] at h
        exact ⟨c0, c1, c2, h.symm, rfl, rfl, rfl⟩

theorem cells_int : Try.prog.cellsOf 3 = 1 := by kernel_rfl

theorem cells_ints : Try.prog.cellsOf 23 = 1 := by kernel_rfl

theorem tranAt_range (len : Nat) (T : Nat → TranL) (j : Nat) (h : j < len) : tranAt ((List.range len).map T) j = T j := by
  simp [tranAt, List.getD, List.getElem?_map, List.getElem?_range h]

end Go.Proofs.Ytlknegihhcdhbaa

/- A space that came in. -/
namespace Go.Proofs.Ytlknegihhcdhbaa
open Go.ChangeShapes Go.WideShapes Go.ChangeAt Go.RowKit Go.Joins Go.Deep
set_option linter.unusedVariables false
set_option maxRecDepth 4000

theorem cells_lists : Try.prog.cellsOf 22 = 1 := by kernel_rfl

theorem bytes_ints : Try.prog.bytesOf 23 = 24 := by kernel_rfl

theorem cells1 {w : World} {a : Addr} {cs : List Value} (h : w.cells? 0 a 1 = some cs) : ∃ c0, cs = [c0] ∧ w.cell? (a.add 0) = some c0 := by
  simp only [World.cells?, Nat.zero_le, if_true] at h
  simp only [show List.range 1 = [0] from rfl, List.mapM_cons, List.mapM_nil] at h
  cases h0 : w.cell? (a.add 0) with
  | none => simp [h0] at h
  | some c0 =>
    simp [h0] at h
    exact ⟨c0, h.symm, rfl⟩

theorem getElem_range {α : Type} (len : Nat) (T : Nat → α) (j : Nat) (h : j < ((List.range len).map T).length) : ((List.range len).map T)[j] = T j := by simp

theorem markAt_range (len : Nat) (T : Nat → List Int) (j : Nat) (h : j < len) : markAt ((List.range len).map T) j = T j := by
  simp [markAt, List.getD, List.getElem?_map, List.getElem?_range h]

theorem lists_read {H : Type} {enc : TypeId × Value → H} {W : World} {fuel : Nat} {c : Value} {d : DataW H} {p : List MemPlace}
    (hf : DataW.trod enc Try.prog W 0 (fun _ => true) true fuel 22 [c] = some (d, p)) (hw : Fits 22 d) :
    ∃ ls, (Lists W c ls ∧ ls.length ≤ 5864062014805) ∧ ls.length + 1 ≤ Rows.uptoBulk d ∧ ∀ k, k < ls.length → (markAt ls k).length + 1 ≤ Rows.uptoBulk d := by
  rcases open_slice Try.underlying22 hf with ⟨hcs, hx⟩ | ⟨a, len, cap, m, n, D, Pl, hcs, _, hl, hm, hmm, hx, hel⟩
  · simp only [List.cons.injEq, and_true] at hcs
    subst hcs
    simp only [Prod.mk.injEq] at hx
    obtain ⟨rfl, _⟩ := hx
    exact ⟨[], ⟨⟨none, 0, 0, rfl, rfl, by omega, ⟨by omega, by omega, fun _ => rfl⟩, fun j hj => absurd hj (by simp)⟩, by simp⟩, by simp [Rows.uptoBulk], fun k hk => absurd hk (by simp)⟩
  · simp only [List.cons.injEq, and_true] at hcs
    subst hcs
    simp only [Prod.mk.injEq] at hx
    obtain ⟨rfl, _⟩ := hx
    simp only [if_true] at hmm
    obtain rfl : cap = m := hmm.symm
    have hs := hw ((len + (cap - len)) * 24) (by
      simp only [DataW.weights, Try.underlying22, List.mem_cons]
      left
      rw [bytes_ints]
      simp)
    simp only [reachBytes] at hs
    have hone : ∀ i, i < len → ∃ x : List Int, (∃ b off u, a = ⟨b, off, none⟩ ∧ b < W.heap.size ∧ W.cell? ⟨b, off + i, none⟩ = some u ∧ Ints W u x) ∧ x.length + 1 ≤ Rows.uptoBulk (D i) := by
      intro i hi
      obtain ⟨cs', hc, ht⟩ := hel i (by omega)
      rw [cells_ints, Nat.mul_one] at hc
      obtain ⟨c0, rfl, k0⟩ := cells1 hc
      have hmem : D i ∈ (List.range len).map D := List.mem_map.2 ⟨i, by simpa using hi, rfl⟩
      obtain ⟨x, hx, hb⟩ := ints_read ht (fun x hx => hw x (by
        simp only [DataW.weights, Try.underlying22, List.mem_cons, List.mem_append]
        exact .inr (.inl (weights_part hmem hx))))
      have z0 : ∃ c0', W.cell? (a.add 0) = some c0' := by
        obtain ⟨j0, hj0⟩ : ∃ j0, j0 = 0 := ⟨_, rfl⟩
        obtain ⟨cs0, hc0, _⟩ := hel j0 (by omega)
        rw [cells_ints] at hc0
        rw [hj0, Nat.zero_mul] at hc0
        have ha : a.add 0 = a := by simp [Addr.add]
        rw [ha] at hc0
        obtain ⟨x0, _, y0⟩ := cells1 hc0
        exact ⟨x0, y0⟩
      obtain ⟨c0', z0⟩ := z0
      obtain ⟨b, off, spot⟩ := a
      have hspot : spot = none := by simpa [Addr.add] using World.cell?_spot z0
      subst hspot
      rw [addr_add, addr_add] at k0
      exact ⟨x, ⟨b, off, c0, rfl, cell_lt k0, by simpa using k0, hx⟩, hb⟩
    haveI : Inhabited (List Int) := ⟨[]⟩
    obtain ⟨T, hT⟩ := choose_lt hone
    have hb1 := bulk_length (H := H) ((List.range len).map D)
    simp only [List.length_map, List.length_range] at hb1
    refine ⟨(List.range len).map T, ⟨⟨some a, len, cap, rfl, by simp, by omega, ⟨hl, by unfold maxLen at hm; omega, fun h => by cases h⟩, fun j hj => ?_⟩, by simp; omega⟩, ?_, fun k hk => ?_⟩
    · have hj' : j < len := by simpa using hj
      obtain ⟨⟨b, off, u, ha, h1, h2, h3⟩, _⟩ := hT j hj'
      refine ⟨b, off, u, by rw [ha], h1, h2, ?_⟩
      rw [← markAt_range len T j hj'] at h3
      exact h3
    · simp only [Rows.uptoBulk, List.length_map, List.length_range]; omega
    · have hk' : k < len := by simpa using hk
      rw [markAt_range len T k hk']
      have h1 := (hT k hk').2
      have h2 : Rows.uptoBulk (D k) ≤ Rows.uptoBulkAll ((List.range len).map D) := bulk_part (List.mem_map.2 ⟨k, by simpa using hk', rfl⟩)
      simp only [Rows.uptoBulk]
      omega

end Go.Proofs.Ytlknegihhcdhbaa

/- Lists that came in; things to do at a desk that came in. -/
namespace Go.Proofs.Ytlknegihhcdhbaa
open Go.ChangeShapes Go.WideShapes Go.ChangeAt Go.RowKit Go.Joins Go.Deep
set_option linter.unusedVariables false
set_option maxRecDepth 4000

theorem lists_arg {H : Type} {enc : TypeId × Value → H} {W : World} {base : Nat} {v : Value} {d : DataW H} {p : List MemPlace}
    (hval : Value.okWide Try.prog W .any base 22 v) (h : DataW.Trod enc Try.prog W 0 (fun _ => true) true 22 v d p) (hw : Fits 22 d) : ∃ ls, Lists W v ls ∧ ls.length + 1 ≤ Rows.uptoBulk d := by
  obtain ⟨a0, len, cap, rfl⟩ := okWide_slice Try.underlying22 hval
  obtain ⟨fuel, hf⟩ := h
  obtain ⟨ls, ⟨h1, _⟩, h2, _⟩ := lists_read (by simpa [Value.cells] using hf) hw
  exact ⟨ls, h1, h2⟩

theorem cells5 {w : World} {a : Addr} {cs : List Value} (h : w.cells? 0 a 5 = some cs) : ∃ c0 c1 c2 c3 c4, cs = [c0, c1, c2, c3, c4] ∧ w.cell? (a.add 0) = some c0 ∧ w.cell? (a.add 1) = some c1 ∧ w.cell? (a.add 2) = some c2 ∧ w.cell? (a.add 3) = some c3 ∧ w.cell? (a.add 4) = some c4 := by
  simp only [World.cells?, Nat.zero_le, if_true] at h
  simp only [show List.range 5 = [0, 1, 2, 3, 4] from rfl, List.mapM_cons, List.mapM_nil] at h
  cases h0 : w.cell? (a.add 0) with
  | none => simp [h0] at h
  | some c0 =>
    cases h1 : w.cell? (a.add 1) with
    | none => simp [h0, h1] at h
    | some c1 =>
      cases h2 : w.cell? (a.add 2) with
      | none => simp [h0, h1, h2] at h
      | some c2 =>
        cases h3 : w.cell? (a.add 3) with
        | none => simp [h0, h1, h2, h3] at h
        | some c3 =>
          cases h4 : w.cell? (a.add 4) with
          | none => simp [h0, h1, h2, h3, h4] at h
          | some c4 =>
            simp [h0, h1, h2, h3, h4] at h
            exact ⟨c0, c1, c2, c3, c4, h.symm, rfl, rfl, rfl, rfl, rfl⟩

theorem trod_struct5 {H : Type} {enc : TypeId × Value → H} {P : Program} {w : World} {base : Nat} {spare : Nat → Bool} {held : Bool} {t : TypeId} {f0 f1 f2 f3 f4 : Field} {fuel : Nat} {cs : List Value} {x : DataW H × List MemPlace} (ht : P.underlying t = some (.struct #[f0, f1, f2, f3, f4])) (h : DataW.trod enc P w base spare held fuel t cs = some x) :
    ∃ y0 y1 y2 y3 y4 n, DataW.trod enc P w base spare held n f0.type ((cs.drop f0.offset).take (P.cellsOf f0.type)) = some y0 ∧ DataW.trod enc P w base spare held n f1.type ((cs.drop f1.offset).take (P.cellsOf f1.type)) = some y1 ∧ DataW.trod enc P w base spare held n f2.type ((cs.drop f2.offset).take (P.cellsOf f2.type)) = some y2 ∧
      DataW.trod enc P w base spare held n f3.type ((cs.drop f3.offset).take (P.cellsOf f3.type)) = some y3 ∧ DataW.trod enc P w base spare held n f4.type ((cs.drop f4.offset).take (P.cellsOf f4.type)) = some y4 := by
  obtain ⟨xs, n, _, rfl, hl, hlen, hf⟩ := DataW.trod_struct ht h
  match xs, hlen with
  | [y0, y1, y2, y3, y4], _ => exact ⟨y0, y1, y2, y3, y4, n, by simpa using hf 0 f0 rfl, by simpa using hf 1 f1 rfl, by simpa using hf 2 f2 rfl, by simpa using hf 3 f3 rfl, by simpa using hf 4 f4 rfl⟩

theorem dopAt_range (len : Nat) (T : Nat → DOp) (j : Nat) (h : j < len) : dopAt ((List.range len).map T) j = T j := by
  simp [dopAt, List.getD, List.getElem?_map, List.getElem?_range h]

end Go.Proofs.Ytlknegihhcdhbaa
