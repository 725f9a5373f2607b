/- A case that came in; things to do in a case that came in. -/
import Derived.Test.YtffaamljogbmlaaGr01
import Derived.Test.YtffaamljogbmlaaGr05
namespace Go.Proofs.Ytffaamljogbmlaa
open Go.ChangeShapes Go.WideShapes Go.ChangeAt Go.RowKit Go.Joins Go.Deep
set_option linter.unusedVariables false
set_option maxRecDepth 4000

theorem cells_case : Try.prog.cellsOf 27 = 2 := by kernel_rfl

theorem case_read {H : Type} {enc : TypeId × Value → H} {W : World} {base : Nat} {v : Value} {d : DataW H} {p : List MemPlace}
    (hval : Value.okWide Try.prog W .any base 27 v) (h : DataW.Trod enc Try.prog W 0 (fun _ => true) true 27 v d p) (hw : Fits 27 d) :
    ∃ c, CaseV W v c ∧ c.mark.length + c.busy.length + 1 ≤ Rows.uptoBulk d := by
  obtain ⟨c0, c1, y0, y1, n, rfl, rfl, _, h0, h1⟩ := open_agg2 Try.underlying27 (by kernel_rfl) cells_case hval h
  obtain ⟨xs, hx, b0⟩ := ints_read h0 (fun x hx => hw x (by
    simp only [DataW.weights, Try.underlying27, DataW.weightsEach, List.map_cons, List.mem_append]
    exact .inl hx))
  obtain ⟨ys, hy, b1⟩ := ints_read h1 (fun x hx => hw x (by
    simp only [DataW.weights, Try.underlying27, DataW.weightsEach, List.map_cons, List.mem_append]
    exact .inr (.inl hx)))
  exact ⟨⟨xs, ys⟩, CaseV.mk' hx hy, by simp only [Rows.uptoBulk, Rows.uptoBulkAll]; omega⟩

theorem cells_op : Try.prog.cellsOf 29 = 2 := by kernel_rfl

theorem op_read {H : Type} {enc : TypeId × Value → H} {W : World} {base : Nat} {v : Value} {d : DataW H} {p : List MemPlace}
    (hval : Value.okWide Try.prog W .any base 29 v) (h : DataW.Trod enc Try.prog W 0 (fun _ => true) true 29 v d p) :
    ∃ k t : Int, v = .agg #[.int .i64 k, .int .i64 t] := by
  obtain ⟨c0, c1, y0, y1, n, rfl, rfl, _, h0, h1⟩ := open_agg2 Try.underlying29 (by kernel_rfl) cells_op hval h
  obtain ⟨l0, e0, _, _⟩ := DataW.trod_int Try.underlying3 h0
  obtain ⟨l1, e1, _, _⟩ := DataW.trod_int Try.underlying3 h1
  simp only [List.cons.injEq, and_true] at e0 e1
  exact ⟨l0, l1, by rw [e0, e1]⟩

theorem bytes_op : Try.prog.bytesOf 29 = 16 := by kernel_rfl

theorem cells2 {w : World} {a : Addr} {cs : List Value} (h : w.cells? 0 a 2 = some cs) : ∃ c0 c1, cs = [c0, c1] ∧ w.cell? (a.add 0) = some c0 ∧ w.cell? (a.add 1) = some c1 := by
  simp only [World.cells?, Nat.zero_le, if_true] at h
  simp only [show List.range 2 = [0, 1] from rfl, List.mapM_cons, List.mapM_nil] at h
  cases h0 : w.cell? (a.add 0) with
  | none => simp [h0] at h
  | some c0 =>
    cases h1 : w.cell? (a.add 1) with
    | none => simp [h0, h1] at h
    | some c1 =>
      simp [h0, h1] at h
      exact ⟨c0, c1, h.symm, rfl, rfl⟩

theorem op_one {H : Type} {enc : TypeId × Value → H} {W : World} {fuel : Nat} {c0 c1 : Value} {d : DataW H} {p : List MemPlace}
    (hf : DataW.trod enc Try.prog W 0 (fun _ => true) true fuel 29 [c0, c1] = some (d, p)) : ∃ x : Int × Int, c0 = .int .i64 x.1 ∧ c1 = .int .i64 x.2 := by
  obtain ⟨y0, y1, n, hx, _, h0, h1⟩ := trod_struct2 Try.underlying29 hf
  simp only [cells_int, List.drop_zero, List.take_succ_cons, List.take_zero, List.drop_succ_cons] at h0 h1
  obtain ⟨l0, e0, _, _⟩ := DataW.trod_int Try.underlying3 h0
  obtain ⟨l1, e1, _, _⟩ := DataW.trod_int Try.underlying3 h1
  simp only [List.cons.injEq, and_true] at e0 e1
  exact ⟨(l0, l1), e0, e1⟩

theorem opAt_range (len : Nat) (T : Nat → Int × Int) (j : Nat) (h : j < len) : opAt ((List.range len).map T) j = T j := by
  simp [opAt, List.getD, List.getElem?_map, List.getElem?_range h]

theorem ops_read {H : Type} {enc : TypeId × Value → H} {W : World} {base : Nat} {c : Value} {d : DataW H} {p : List MemPlace}
    (hval : Value.okWide Try.prog W .any base 40 c) (h : DataW.Trod enc Try.prog W 0 (fun _ => true) true 40 c d p) (hw : Fits 40 d) :
    ∃ l, OpsV W c l ∧ l.length + 1 ≤ Rows.uptoBulk d := by
  obtain ⟨a0, len0, cap0, rfl⟩ := okWide_slice Try.underlying40 hval
  obtain ⟨fuel, hf⟩ := h
  replace hf : DataW.trod enc Try.prog W 0 (fun _ => true) true fuel 40 [.slice a0 len0 cap0] = some (d, p) := by simpa [Value.cells] using hf
  rcases open_slice Try.underlying40 hf with ⟨hcs, hx⟩ | ⟨a, len, cap, m, n, D, Pl, hcs, _, hl, hm, hmm, hx, hel⟩
  · simp only [List.cons.injEq, and_true] at hcs
    rw [hcs]
    simp only [Prod.mk.injEq] at hx
    obtain ⟨rfl, _⟩ := hx
    exact ⟨[], ⟨none, 0, 0, rfl, rfl, by omega, ⟨by omega, by omega, fun _ => rfl⟩, fun j hj => absurd hj (by simp)⟩, by simp [Rows.uptoBulk]⟩
  · simp only [List.cons.injEq, and_true] at hcs
    rw [hcs]
    simp only [Prod.mk.injEq] at hx
    obtain ⟨rfl, _⟩ := hx
    simp only [if_true] at hmm
    obtain rfl : cap = m := hmm.symm
    have hs := hw ((len + (cap - len)) * 16) (by
      simp only [DataW.weights, Try.underlying40, List.mem_cons]
      left
      rw [bytes_op]
      simp)
    simp only [reachBytes] at hs
    have hone : ∀ i, i < len → ∃ x : Int × Int, ∃ b off, a = ⟨b, off, none⟩ ∧ b < W.heap.size ∧ W.cell? ⟨b, off + i * 2, none⟩ = some (.int .i64 x.1) ∧ W.cell? ⟨b, off + i * 2 + 1, none⟩ = some (.int .i64 x.2) := by
      intro i hi
      obtain ⟨cs', hc, ht⟩ := hel i (by omega)
      rw [cells_op] at hc
      obtain ⟨c0, c1, rfl, k0, k1⟩ := cells2 hc
      obtain ⟨x, e0, e1⟩ := op_one ht
      have z0 : ∃ c0', W.cell? (a.add 0) = some c0' := by
        obtain ⟨j0, hj0⟩ : ∃ j0, j0 = 0 := ⟨_, rfl⟩
        obtain ⟨cs0, hc0, _⟩ := hel j0 (by omega)
        rw [cells_op] at hc0
        rw [hj0, Nat.zero_mul] at hc0
        have ha : a.add 0 = a := by simp [Addr.add]
        rw [ha] at hc0
        obtain ⟨x0, x1, _, y0, _⟩ := cells2 hc0
        exact ⟨x0, y0⟩
      obtain ⟨c0', z0⟩ := z0
      obtain ⟨b, off, spot⟩ := a
      have hspot : spot = none := by simpa [Addr.add] using World.cell?_spot z0
      subst hspot
      rw [addr_add, addr_add] at k0 k1
      exact ⟨x, b, off, rfl, cell_lt k0, by rw [← e0]; simpa using k0, by rw [← e1]; simpa using k1⟩
    haveI : Inhabited (Int × Int) := ⟨(0, 0)⟩
    obtain ⟨T, hT⟩ := choose_lt hone
    have hb1 := bulk_length (H := H) ((List.range len).map D)
    simp only [List.length_map, List.length_range] at hb1
    refine ⟨(List.range len).map T, ⟨some a, len, cap, rfl, by simp, by omega, ⟨hl, by unfold maxLen at hm; omega, fun h => by cases h⟩, fun j hj => ?_⟩, ?_⟩
    · have hj' : j < len := by simpa using hj
      rw [opAt_range len T j hj']
      obtain ⟨b, off, ha, r⟩ := hT j hj'
      exact ⟨b, off, by rw [ha], r⟩
    · simp only [Rows.uptoBulk, List.length_map, List.length_range]; omega

end Go.Proofs.Ytffaamljogbmlaa
