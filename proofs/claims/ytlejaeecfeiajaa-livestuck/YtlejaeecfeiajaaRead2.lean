/- A space that came in. -/
import Derived.Test.YtlejaeecfeiajaaRead
import Derived.Test.YtlejaeecfeiajaaLiveMem
namespace Go.Proofs.Ytlejaeecfeiajaa
open Go.ChangeShapes Go.WideShapes Go.ChangeAt Go.RowKit Go.Joins Go.Deep
set_option linter.unusedVariables false
set_option maxRecDepth 4000

theorem cells_arc : Try.prog.cellsOf 44 = 3 := by kernel_rfl
theorem cells_arcs : Try.prog.cellsOf 23 = 1 := by kernel_rfl
theorem cells_lists : Try.prog.cellsOf 22 = 1 := by kernel_rfl
theorem cells_space : Try.prog.cellsOf 25 = 2 := by kernel_rfl
theorem bytes_arc : Try.prog.bytesOf 44 = 24 := by kernel_rfl
theorem bytes_ints : Try.prog.bytesOf 28 = 24 := by kernel_rfl

theorem cells1 {w : World} {a : Addr} {cs : List Value} (h : w.cells? 0 a 1 = some cs) : ∃ c0, cs = [c0] ∧ w.cell? (a.add 0) = some c0 := by
  simp only [World.cells?, Nat.zero_le, if_true] at h
  simp only [show List.range 1 = [0] from rfl, List.mapM_cons, List.mapM_nil] at h
  cases h0 : w.cell? (a.add 0) with
  | none => simp [h0] at h
  | some c0 =>
    simp [h0] at h
    exact ⟨c0, h.symm, rfl⟩

theorem arc_one {H : Type} {enc : TypeId × Value → H} {W : World} {fuel : Nat} {c0 c1 c2 : Value} {d : DataW H} {p : List MemPlace}
    (hf : DataW.trod enc Try.prog W 0 (fun _ => true) true fuel 44 [c0, c1, c2] = some (d, p)) : ∃ x : Int × Int × Int, c0 = .int .i64 x.1 ∧ c1 = .int .i64 x.2.1 ∧ c2 = .int .i64 x.2.2 := by
  obtain ⟨y0, y1, y2, n, hx, _, h0, h1, h2⟩ := trod_struct3 Try.underlying44 hf
  simp only [cells_int, List.drop_zero, List.take_succ_cons, List.take_zero, List.drop_succ_cons] at h0 h1 h2
  obtain ⟨l0, e0, _, _⟩ := DataW.trod_int Try.underlying3 h0
  obtain ⟨l1, e1, _, _⟩ := DataW.trod_int Try.underlying3 h1
  obtain ⟨l2, e2, _, _⟩ := DataW.trod_int Try.underlying3 h2
  simp only [List.cons.injEq, and_true] at e0 e1 e2
  exact ⟨(l0, l1, l2), e0, e1, e2⟩

theorem getElem_range {α : Type} (len : Nat) (T : Nat → α) (j : Nat) (h : j < ((List.range len).map T).length) : ((List.range len).map T)[j] = T j := by simp

theorem arcs_read {H : Type} {enc : TypeId × Value → H} {W : World} {fuel : Nat} {c : Value} {d : DataW H} {p : List MemPlace}
    (hf : DataW.trod enc Try.prog W 0 (fun _ => true) true fuel 23 [c] = some (d, p)) (hw : Fits 23 d) :
    ∃ l, Arcs W c l ∧ l.length + 1 ≤ Rows.uptoBulk d := by
  rcases open_slice Try.underlying23 hf with ⟨hcs, hx⟩ | ⟨a, len, cap, m, n, D, Pl, hcs, _, hl, hm, hmm, hx, hel⟩
  · simp only [List.cons.injEq, and_true] at hcs
    subst hcs
    simp only [Prod.mk.injEq] at hx
    obtain ⟨rfl, _⟩ := hx
    exact ⟨[], ⟨none, 0, 0, rfl, rfl, by omega, ⟨by omega, by omega, fun _ => rfl⟩, fun j hj => absurd hj (by simp)⟩, by simp [Rows.uptoBulk]⟩
  · simp only [List.cons.injEq, and_true] at hcs
    subst hcs
    simp only [Prod.mk.injEq] at hx
    obtain ⟨rfl, _⟩ := hx
    simp only [if_true] at hmm
    obtain rfl : cap = m := hmm.symm
    have hs := hw ((len + (cap - len)) * 24) (by
      simp only [DataW.weights, Try.underlying23, List.mem_cons]
      left
      rw [bytes_arc]
      simp)
    simp only [reachBytes] at hs
    have hone : ∀ i, i < len → ∃ x : Int × Int × Int, ∃ b off, a = ⟨b, off, none⟩ ∧ b < W.heap.size ∧ W.cell? ⟨b, off + i * 3, none⟩ = some (.int .i64 x.1) ∧ W.cell? ⟨b, off + i * 3 + 1, none⟩ = some (.int .i64 x.2.1) ∧ W.cell? ⟨b, off + i * 3 + 2, none⟩ = some (.int .i64 x.2.2) := by
      intro i hi
      obtain ⟨cs', hc, ht⟩ := hel i (by omega)
      rw [cells_arc] at hc
      obtain ⟨c0, c1, c2, rfl, k0, k1, k2⟩ := cells3 hc
      obtain ⟨x, e0, e1, e2⟩ := arc_one ht
      have z0 : ∃ c0', W.cell? (a.add 0) = some c0' := by
        obtain ⟨j0, hj0⟩ : ∃ j0, j0 = 0 := ⟨_, rfl⟩
        obtain ⟨cs0, hc0, _⟩ := hel j0 (by omega)
        rw [cells_arc] at hc0
        rw [hj0, Nat.zero_mul] at hc0
        have ha : a.add 0 = a := by simp [Addr.add]
        rw [ha] at hc0
        obtain ⟨x0, x1, x2, _, y0, _, _⟩ := cells3 hc0
        exact ⟨x0, y0⟩
      obtain ⟨c0', z0⟩ := z0
      obtain ⟨b, off, spot⟩ := a
      have hspot : spot = none := by simpa [Addr.add] using World.cell?_spot z0
      subst hspot
      rw [addr_add, addr_add] at k0 k1 k2
      exact ⟨x, b, off, rfl, cell_lt k0, by rw [← e0]; simpa using k0, by rw [← e1]; simpa using k1, by rw [← e2]; simpa using k2⟩
    haveI : Inhabited (Int × Int × Int) := ⟨(0, 0, 0)⟩
    obtain ⟨T, hT⟩ := choose_lt hone
    have hb1 := bulk_length (H := H) ((List.range len).map D)
    simp only [List.length_map, List.length_range] at hb1
    refine ⟨(List.range len).map T, ⟨some a, len, cap, rfl, by simp, by omega, ⟨hl, by unfold maxLen at hm; omega, fun h => by cases h⟩, fun j hj => ?_⟩, ?_⟩
    · have hj' : j < len := by simpa using hj
      rw [getElem_range len T j hj]
      obtain ⟨b, off, ha, r⟩ := hT j hj'
      exact ⟨b, off, by rw [ha], r⟩
    · simp only [Rows.uptoBulk, List.length_map, List.length_range]; omega

theorem markAt_range (len : Nat) (T : Nat → List Int) (j : Nat) (h : j < len) : markAt ((List.range len).map T) j = T j := by
  simp [markAt, List.getD, List.getElem?_map, List.getElem?_range h]

theorem lists_read {H : Type} {enc : TypeId × Value → H} {W : World} {fuel : Nat} {c : Value} {d : DataW H} {p : List MemPlace}
    (hf : DataW.trod enc Try.prog W 0 (fun _ => true) true fuel 22 [c] = some (d, p)) (hw : Fits 22 d) :
    ∃ ls, (Lists W c ls ∧ ls.length ≤ 5864062014805) ∧ ls.length + 1 ≤ Rows.uptoBulk d ∧ ∀ k, k < ls.length → (markAt ls k).length + 1 ≤ Rows.uptoBulk d := by
  rcases open_slice Try.underlying22 hf with ⟨hcs, hx⟩ | ⟨a, len, cap, m, n, D, Pl, hcs, _, hl, hm, hmm, hx, hel⟩
  · simp only [List.cons.injEq, and_true] at hcs
    subst hcs
    simp only [Prod.mk.injEq] at hx
    obtain ⟨rfl, _⟩ := hx
    exact ⟨[], ⟨⟨none, 0, 0, rfl, rfl, by omega, ⟨by omega, by omega, fun _ => rfl⟩, fun j hj => absurd hj (by simp)⟩, by simp⟩, by simp [Rows.uptoBulk], fun k hk => absurd hk (by simp)⟩
  · simp only [List.cons.injEq, and_true] at hcs
    subst hcs
    simp only [Prod.mk.injEq] at hx
    obtain ⟨rfl, _⟩ := hx
    simp only [if_true] at hmm
    obtain rfl : cap = m := hmm.symm
    have hs := hw ((len + (cap - len)) * 24) (by
      simp only [DataW.weights, Try.underlying22, List.mem_cons]
      left
      rw [bytes_ints]
      simp)
    simp only [reachBytes] at hs
    have hone : ∀ i, i < len → ∃ x : List Int, (∃ b off u, a = ⟨b, off, none⟩ ∧ b < W.heap.size ∧ W.cell? ⟨b, off + i, none⟩ = some u ∧ Ints W u x) ∧ x.length + 1 ≤ Rows.uptoBulk (D i) := by
      intro i hi
      obtain ⟨cs', hc, ht⟩ := hel i (by omega)
      rw [cells_ints, Nat.mul_one] at hc
      obtain ⟨c0, rfl, k0⟩ := cells1 hc
      have hmem : D i ∈ (List.range len).map D := List.mem_map.2 ⟨i, by simpa using hi, rfl⟩
      obtain ⟨x, hx, hb⟩ := ints_read ht (fun x hx => hw x (by
        simp only [DataW.weights, Try.underlying22, List.mem_cons, List.mem_append]
        exact .inr (.inl (weights_part hmem hx))))
      have z0 : ∃ c0', W.cell? (a.add 0) = some c0' := by
        obtain ⟨j0, hj0⟩ : ∃ j0, j0 = 0 := ⟨_, rfl⟩
        obtain ⟨cs0, hc0, _⟩ := hel j0 (by omega)
        rw [cells_ints] at hc0
        rw [hj0, Nat.zero_mul] at hc0
        have ha : a.add 0 = a := by simp [Addr.add]
        rw [ha] at hc0
        obtain ⟨x0, _, y0⟩ := cells1 hc0
        exact ⟨x0, y0⟩
      obtain ⟨c0', z0⟩ := z0
      obtain ⟨b, off, spot⟩ := a
      have hspot : spot = none := by simpa [Addr.add] using World.cell?_spot z0
      subst hspot
      rw [addr_add, addr_add] at k0
      exact ⟨x, ⟨b, off, c0, rfl, cell_lt k0, by simpa using k0, hx⟩, hb⟩
    haveI : Inhabited (List Int) := ⟨[]⟩
    obtain ⟨T, hT⟩ := choose_lt hone
    have hb1 := bulk_length (H := H) ((List.range len).map D)
    simp only [List.length_map, List.length_range] at hb1
    refine ⟨(List.range len).map T, ⟨⟨some a, len, cap, rfl, by simp, by omega, ⟨hl, by unfold maxLen at hm; omega, fun h => by cases h⟩, fun j hj => ?_⟩, by simp; omega⟩, ?_, fun k hk => ?_⟩
    · have hj' : j < len := by simpa using hj
      obtain ⟨⟨b, off, u, ha, h1, h2, h3⟩, _⟩ := hT j hj'
      refine ⟨b, off, u, by rw [ha], h1, h2, ?_⟩
      rw [← markAt_range len T j hj'] at h3
      exact h3
    · simp only [Rows.uptoBulk, List.length_map, List.length_range]; omega
    · have hk' : k < len := by simpa using hk
      rw [markAt_range len T k hk']
      have h1 := (hT k hk').2
      have h2 : Rows.uptoBulk (D k) ≤ Rows.uptoBulkAll ((List.range len).map D) := bulk_part (List.mem_map.2 ⟨k, by simpa using hk', rfl⟩)
      simp only [Rows.uptoBulk]
      omega

theorem space_read {H : Type} {enc : TypeId × Value → H} {W : World} {base : Nat} {v : Value} {d : DataW H} {p : List MemPlace}
    (hval : Value.okWide Try.prog W .any base 25 v) (h : DataW.Trod enc Try.prog W 0 (fun _ => true) true 25 v d p) (hw : Fits 25 d) :
    ∃ s, SpaceV W v s ∧ s.marks.length + 1 ≤ Rows.uptoBulk d ∧ s.arcs.length + 1 ≤ Rows.uptoBulk d ∧ ∀ k, k < s.marks.length → (markAt s.marks k).length + 1 ≤ Rows.uptoBulk d := by
  obtain ⟨c0, c1, y0, y1, n, rfl, rfl, _, h0, h1⟩ := open_agg2 Try.underlying25 (by kernel_rfl) cells_space hval h
  obtain ⟨ls, ⟨hls, hlN⟩, b1, b2⟩ := lists_read h0 (fun x hx => hw x (by
    simp only [DataW.weights, Try.underlying25, DataW.weightsEach, List.map_cons, List.mem_append]
    exact .inl hx))
  obtain ⟨l, hl, b3⟩ := arcs_read h1 (fun x hx => hw x (by
    simp only [DataW.weights, Try.underlying25, DataW.weightsEach, List.map_cons, List.mem_append]
    exact .inr (.inl hx)))
  have p0 := bulk_pos y0.1
  have p1 := bulk_pos y1.1
  refine ⟨⟨ls, l⟩, ⟨hlN, _, _, rfl, hls, hl⟩, ?_, ?_, fun k hk => ?_⟩
  · simp only [Rows.uptoBulk, Rows.uptoBulkAll]; omega
  · simp only [Rows.uptoBulk, Rows.uptoBulkAll]; omega
  · have := b2 k hk
    simp only [Rows.uptoBulk, Rows.uptoBulkAll]; omega

end Go.Proofs.Ytlejaeecfeiajaa
