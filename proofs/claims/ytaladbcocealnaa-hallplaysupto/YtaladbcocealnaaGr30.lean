import Derived.Test.YtaladbcocealnaaGr01
import Derived.Test.YtaladbcocealnaaGr05
import Derived.Test.YtaladbcocealnaaGr27
import Derived.Test.YtaladbcocealnaaGr29
import Derived.Deep.CondSized
/- A space that came in. -/
namespace Go.Proofs.Ytaladbcocealnaa
open Go.ChangeShapes Go.WideShapes Go.ChangeAt Go.RowKit Go.Joins Go.Deep
set_option linter.unusedVariables false
set_option maxRecDepth 4000

theorem cells_lists : Try.prog.cellsOf 25 = 1 := by kernel_rfl

theorem bytes_ints : Try.prog.bytesOf 27 = 24 := by kernel_rfl

theorem cells1 {w : World} {a : Addr} {cs : List Value} (h : w.cells? 0 a 1 = some cs) : ∃ c0, cs = [c0] ∧ w.cell? (a.add 0) = some c0 := by
  simp only [World.cells?, Nat.zero_le, if_true] at h
  simp only [show List.range 1 = [0] from rfl, List.mapM_cons, List.mapM_nil] at h
  cases h0 : w.cell? (a.add 0) with
  | none => simp [h0] at h
  | some c0 =>
    simp [h0] at h
    exact ⟨c0, h.symm, rfl⟩

theorem getElem_range {α : Type} (len : Nat) (T : Nat → α) (j : Nat) (h : j < ((List.range len).map T).length) : ((List.range len).map T)[j] = T j := by simp

theorem markAt_range (len : Nat) (T : Nat → List Int) (j : Nat) (h : j < len) : markAt ((List.range len).map T) j = T j := by
  simp [markAt, List.getD, List.getElem?_map, List.getElem?_range h]

theorem lists_read {H : Type} {enc : TypeId × Value → H} {W : World} {fuel : Nat} {c : Value} {d : DataW H} {p : List MemPlace}
    (hf : DataW.trod enc Try.prog W 0 (fun _ => true) true fuel 25 [c] = some (d, p)) (hw : Fits 25 d) :
    ∃ ls, (Lists W c ls ∧ ls.length ≤ 5864062014805) ∧ ls.length + 1 ≤ Rows.uptoBulk d ∧ ∀ k, k < ls.length → (markAt ls k).length + 1 ≤ Rows.uptoBulk d := by
  rcases open_slice Try.underlying25 hf with ⟨hcs, hx⟩ | ⟨a, len, cap, m, n, D, Pl, hcs, _, hl, hm, hmm, hx, hel⟩
  · simp only [List.cons.injEq, and_true] at hcs
    subst hcs
    simp only [Prod.mk.injEq] at hx
    obtain ⟨rfl, _⟩ := hx
    exact ⟨[], ⟨⟨none, 0, 0, rfl, rfl, by omega, ⟨by omega, by omega, fun _ => rfl⟩, fun j hj => absurd hj (by simp)⟩, by simp⟩, by simp [Rows.uptoBulk], fun k hk => absurd hk (by simp)⟩
  · simp only [List.cons.injEq, and_true] at hcs
    subst hcs
    simp only [Prod.mk.injEq] at hx
    obtain ⟨rfl, _⟩ := hx
    simp only [if_true] at hmm
    obtain rfl : cap = m := hmm.symm
    have hs := hw ((len + (cap - len)) * 24) (by
      simp only [DataW.weights, Try.underlying25, List.mem_cons]
      left
      rw [bytes_ints]
      simp)
    simp only [reachBytes] at hs
    have hone : ∀ i, i < len → ∃ x : List Int, (∃ b off u, a = ⟨b, off, none⟩ ∧ b < W.heap.size ∧ W.cell? ⟨b, off + i, none⟩ = some u ∧ Ints W u x) ∧ x.length + 1 ≤ Rows.uptoBulk (D i) := by
      intro i hi
      obtain ⟨cs', hc, ht⟩ := hel i (by omega)
      rw [cells_ints, Nat.mul_one] at hc
      obtain ⟨c0, rfl, k0⟩ := cells1 hc
      have hmem : D i ∈ (List.range len).map D := List.mem_map.2 ⟨i, by simpa using hi, rfl⟩
      obtain ⟨x, hx, hb⟩ := ints_read ht (fun x hx => hw x (by
        simp only [DataW.weights, Try.underlying25, List.mem_cons, List.mem_append]
        exact .inr (.inl (weights_part hmem hx))))
      have z0 : ∃ c0', W.cell? (a.add 0) = some c0' := by
        obtain ⟨j0, hj0⟩ : ∃ j0, j0 = 0 := ⟨_, rfl⟩
        obtain ⟨cs0, hc0, _⟩ := hel j0 (by omega)
        rw [cells_ints] at hc0
        rw [hj0, Nat.zero_mul] at hc0
        have ha : a.add 0 = a := by simp [Addr.add]
        rw [ha] at hc0
        obtain ⟨x0, _, y0⟩ := cells1 hc0
        exact ⟨x0, y0⟩
      obtain ⟨c0', z0⟩ := z0
      obtain ⟨b, off, spot⟩ := a
      have hspot : spot = none := by simpa [Addr.add] using World.cell?_spot z0
      subst hspot
      rw [addr_add, addr_add] at k0
      exact ⟨x, ⟨b, off, c0, rfl, cell_lt k0, by simpa using k0, hx⟩, hb⟩
    haveI : Inhabited (List Int) := ⟨[]⟩
    obtain ⟨T, hT⟩ := choose_lt hone
    have hb1 := bulk_length (H := H) ((List.range len).map D)
    simp only [List.length_map, List.length_range] at hb1
    refine ⟨(List.range len).map T, ⟨⟨some a, len, cap, rfl, by simp, by omega, ⟨hl, by unfold maxLen at hm; omega, fun h => by cases h⟩, fun j hj => ?_⟩, by simp; omega⟩, ?_, fun k hk => ?_⟩
    · have hj' : j < len := by simpa using hj
      obtain ⟨⟨b, off, u, ha, h1, h2, h3⟩, _⟩ := hT j hj'
      refine ⟨b, off, u, by rw [ha], h1, h2, ?_⟩
      rw [← markAt_range len T j hj'] at h3
      exact h3
    · simp only [Rows.uptoBulk, List.length_map, List.length_range]; omega
    · have hk' : k < len := by simpa using hk
      rw [markAt_range len T k hk']
      have h1 := (hT k hk').2
      have h2 : Rows.uptoBulk (D k) ≤ Rows.uptoBulkAll ((List.range len).map D) := bulk_part (List.mem_map.2 ⟨k, by simpa using hk', rfl⟩)
      simp only [Rows.uptoBulk]
      omega

end Go.Proofs.Ytaladbcocealnaa

/- Lists that came in; things to do at a desk that came in. -/
namespace Go.Proofs.Ytaladbcocealnaa
open Go.ChangeShapes Go.WideShapes Go.ChangeAt Go.RowKit Go.Joins Go.Deep
set_option linter.unusedVariables false
set_option maxRecDepth 4000

theorem lists_arg {H : Type} {enc : TypeId × Value → H} {W : World} {base : Nat} {v : Value} {d : DataW H} {p : List MemPlace}
    (hval : Value.okWide Try.prog W .any base 25 v) (h : DataW.Trod enc Try.prog W 0 (fun _ => true) true 25 v d p) (hw : Fits 25 d) : ∃ ls, Lists W v ls ∧ ls.length + 1 ≤ Rows.uptoBulk d := by
  obtain ⟨a0, len, cap, rfl⟩ := okWide_slice Try.underlying25 hval
  obtain ⟨fuel, hf⟩ := h
  obtain ⟨ls, ⟨h1, _⟩, h2, _⟩ := lists_read (by simpa [Value.cells] using hf) hw
  exact ⟨ls, h1, h2⟩

theorem cells_dop : Try.prog.cellsOf 45 = 5 := by kernel_rfl
theorem bytes_dop : Try.prog.bytesOf 45 = 40 := by kernel_rfl

theorem cells5 {w : World} {a : Addr} {cs : List Value} (h : w.cells? 0 a 5 = some cs) : ∃ c0 c1 c2 c3 c4, cs = [c0, c1, c2, c3, c4] ∧ w.cell? (a.add 0) = some c0 ∧ w.cell? (a.add 1) = some c1 ∧ w.cell? (a.add 2) = some c2 ∧ w.cell? (a.add 3) = some c3 ∧ w.cell? (a.add 4) = some c4 := by
  simp only [World.cells?, Nat.zero_le, if_true] at h
  simp only [show List.range 5 = [0, 1, 2, 3, 4] from rfl, List.mapM_cons, List.mapM_nil] at h
  cases h0 : w.cell? (a.add 0) with
  | none => simp [h0] at h
  | some c0 =>
    cases h1 : w.cell? (a.add 1) with
    | none => simp [h0, h1] at h
    | some c1 =>
      cases h2 : w.cell? (a.add 2) with
      | none => simp [h0, h1, h2] at h
      | some c2 =>
        cases h3 : w.cell? (a.add 3) with
        | none => simp [h0, h1, h2, h3] at h
        | some c3 =>
          cases h4 : w.cell? (a.add 4) with
          | none => simp [h0, h1, h2, h3, h4] at h
          | some c4 =>
            simp [h0, h1, h2, h3, h4] at h
            exact ⟨c0, c1, c2, c3, c4, h.symm, rfl, rfl, rfl, rfl, rfl⟩

theorem trod_struct5 {H : Type} {enc : TypeId × Value → H} {P : Program} {w : World} {base : Nat} {spare : Nat → Bool} {held : Bool} {t : TypeId} {f0 f1 f2 f3 f4 : Field} {fuel : Nat} {cs : List Value} {x : DataW H × List MemPlace} (ht : P.underlying t = some (.struct #[f0, f1, f2, f3, f4])) (h : DataW.trod enc P w base spare held fuel t cs = some x) :
    ∃ y0 y1 y2 y3 y4 n, DataW.trod enc P w base spare held n f0.type ((cs.drop f0.offset).take (P.cellsOf f0.type)) = some y0 ∧ DataW.trod enc P w base spare held n f1.type ((cs.drop f1.offset).take (P.cellsOf f1.type)) = some y1 ∧ DataW.trod enc P w base spare held n f2.type ((cs.drop f2.offset).take (P.cellsOf f2.type)) = some y2 ∧
      DataW.trod enc P w base spare held n f3.type ((cs.drop f3.offset).take (P.cellsOf f3.type)) = some y3 ∧ DataW.trod enc P w base spare held n f4.type ((cs.drop f4.offset).take (P.cellsOf f4.type)) = some y4 := by
  obtain ⟨xs, n, _, rfl, hl, hlen, hf⟩ := DataW.trod_struct ht h
  match xs, hlen with
  | [y0, y1, y2, y3, y4], _ => exact ⟨y0, y1, y2, y3, y4, n, by simpa using hf 0 f0 rfl, by simpa using hf 1 f1 rfl, by simpa using hf 2 f2 rfl, by simpa using hf 3 f3 rfl, by simpa using hf 4 f4 rfl⟩

theorem dop_one {H : Type} {enc : TypeId × Value → H} {W : World} {fuel : Nat} {c0 c1 c2 c3 c4 : Value} {d : DataW H} {p : List MemPlace}
    (hf : DataW.trod enc Try.prog W 0 (fun _ => true) true fuel 45 [c0, c1, c2, c3, c4] = some (d, p)) : ∃ x : DOp, c0 = .int .i64 x.kind ∧ c1 = .int .i64 x.user ∧ c2 = .int .i64 x.tran ∧ c3 = .int .i64 x.item ∧ c4 = .int .i64 x.hand := by
  obtain ⟨y0, y1, y2, y3, y4, n, h0, h1, h2, h3, h4⟩ := trod_struct5 Try.underlying45 hf
  simp only [cells_int, List.drop_zero, List.take_succ_cons, List.take_zero, List.drop_succ_cons] at h0 h1 h2 h3 h4
  obtain ⟨l0, e0, _, _⟩ := DataW.trod_int Try.underlying3 h0
  obtain ⟨l1, e1, _, _⟩ := DataW.trod_int Try.underlying3 h1
  obtain ⟨l2, e2, _, _⟩ := DataW.trod_int Try.underlying3 h2
  obtain ⟨l3, e3, _, _⟩ := DataW.trod_int Try.underlying3 h3
  obtain ⟨l4, e4, _, _⟩ := DataW.trod_int Try.underlying3 h4
  simp only [List.cons.injEq, and_true] at e0 e1 e2 e3 e4
  exact ⟨⟨l0, l1, l2, l3, l4⟩, e0, e1, e2, e3, e4⟩

theorem dopAt_range (len : Nat) (T : Nat → DOp) (j : Nat) (h : j < len) : dopAt ((List.range len).map T) j = T j := by
  simp [dopAt, List.getD, List.getElem?_map, List.getElem?_range h]

theorem dops_read {H : Type} {enc : TypeId × Value → H} {W : World} {base : Nat} {c : Value} {d : DataW H} {p : List MemPlace}
    (hval : Value.okWide Try.prog W .any base 52 c) (h : DataW.Trod enc Try.prog W 0 (fun _ => true) true 52 c d p) (hw : Fits 52 d) :
    ∃ l, DOpsV W c l ∧ l.length + 1 ≤ Rows.uptoBulk d := by
  obtain ⟨a0, len0, cap0, rfl⟩ := okWide_slice Try.underlying52 hval
  obtain ⟨fuel, hf⟩ := h
  replace hf : DataW.trod enc Try.prog W 0 (fun _ => true) true fuel 52 [.slice a0 len0 cap0] = some (d, p) := by simpa [Value.cells] using hf
  rcases open_slice Try.underlying52 hf with ⟨hcs, hx⟩ | ⟨a, len, cap, m, n, D, Pl, hcs, _, hl, hm, hmm, hx, hel⟩
  · simp only [List.cons.injEq, and_true] at hcs
    rw [hcs]
    simp only [Prod.mk.injEq] at hx
    obtain ⟨rfl, _⟩ := hx
    exact ⟨[], ⟨none, 0, 0, rfl, rfl, by omega, ⟨by omega, by omega, fun _ => rfl⟩, fun j hj => absurd hj (by simp)⟩, by simp [Rows.uptoBulk]⟩
  · simp only [List.cons.injEq, and_true] at hcs
    rw [hcs]
    simp only [Prod.mk.injEq] at hx
    obtain ⟨rfl, _⟩ := hx
    simp only [if_true] at hmm
    obtain rfl : cap = m := hmm.symm
    have hs := hw ((len + (cap - len)) * 40) (by
      simp only [DataW.weights, Try.underlying52, List.mem_cons]
      left
      rw [bytes_dop]
      simp)
    simp only [reachBytes] at hs
    have hone : ∀ i, i < len → ∃ x : DOp, ∃ b off, a = ⟨b, off, none⟩ ∧ b < W.heap.size ∧ W.cell? ⟨b, off + i * 5, none⟩ = some (.int .i64 x.kind) ∧ W.cell? ⟨b, off + i * 5 + 1, none⟩ = some (.int .i64 x.user) ∧ W.cell? ⟨b, off + i * 5 + 2, none⟩ = some (.int .i64 x.tran) ∧ W.cell? ⟨b, off + i * 5 + 3, none⟩ = some (.int .i64 x.item) ∧ W.cell? ⟨b, off + i * 5 + 4, none⟩ = some (.int .i64 x.hand) := by
      intro i hi
      obtain ⟨cs', hc, ht⟩ := hel i (by omega)
      rw [cells_dop] at hc
      obtain ⟨c0, c1, c2, c3, c4, rfl, k0, k1, k2, k3, k4⟩ := cells5 hc
      obtain ⟨x, e0, e1, e2, e3, e4⟩ := dop_one ht
      have z0 : ∃ c0', W.cell? (a.add 0) = some c0' := by
        obtain ⟨j0, hj0⟩ : ∃ j0, j0 = 0 := ⟨_, rfl⟩
        obtain ⟨cs0, hc0, _⟩ := hel j0 (by omega)
        rw [cells_dop] at hc0
        rw [hj0, Nat.zero_mul] at hc0
        have ha : a.add 0 = a := by simp [Addr.add]
        rw [ha] at hc0
        obtain ⟨x0, _, _, _, _, _, y0, _⟩ := cells5 hc0
        exact ⟨x0, y0⟩
      obtain ⟨c0', z0⟩ := z0
      obtain ⟨b, off, spot⟩ := a
      have hspot : spot = none := by simpa [Addr.add] using World.cell?_spot z0
      subst hspot
      rw [addr_add, addr_add] at k0 k1 k2 k3 k4
      exact ⟨x, b, off, rfl, cell_lt k0, by rw [← e0]; simpa using k0, by rw [← e1]; simpa using k1, by rw [← e2]; simpa using k2, by rw [← e3]; simpa using k3, by rw [← e4]; simpa using k4⟩
    haveI : Inhabited DOp := ⟨noDOp⟩
    obtain ⟨T, hT⟩ := choose_lt hone
    have hb1 := bulk_length (H := H) ((List.range len).map D)
    simp only [List.length_map, List.length_range] at hb1
    refine ⟨(List.range len).map T, ⟨some a, len, cap, rfl, by simp, by omega, ⟨hl, by unfold maxLen at hm; omega, fun h => by cases h⟩, fun j hj => ?_⟩, ?_⟩
    · have hj' : j < len := by simpa using hj
      rw [dopAt_range len T j hj']
      obtain ⟨b, off, ha, r⟩ := hT j hj'
      exact ⟨b, off, by rw [ha], r⟩
    · simp only [Rows.uptoBulk, List.length_map, List.length_range]; omega

end Go.Proofs.Ytaladbcocealnaa

/- Things that happen in a hall that came in. -/
namespace Go.Proofs.Ytaladbcocealnaa
open Go.ChangeShapes Go.WideShapes Go.ChangeAt Go.RowKit Go.Joins Go.Deep
set_option linter.unusedVariables false
set_option maxRecDepth 4000

theorem cells_hop : Try.prog.cellsOf 47 = 7 := by kernel_rfl

theorem bytes_hop : Try.prog.bytesOf 47 = 56 := by kernel_rfl

theorem cells7 {w : World} {a : Addr} {cs : List Value} (h : w.cells? 0 a 7 = some cs) : ∃ c0 c1 c2 c3 c4 c5 c6, cs = [c0, c1, c2, c3, c4, c5, c6] ∧ w.cell? (a.add 0) = some c0 ∧ w.cell? (a.add 1) = some c1 ∧ w.cell? (a.add 2) = some c2 ∧ w.cell? (a.add 3) = some c3 ∧ w.cell? (a.add 4) = some c4 ∧ w.cell? (a.add 5) = some c5 ∧ w.cell? (a.add 6) = some c6 := by
  simp only [World.cells?, Nat.zero_le, if_true] at h
  simp only [show List.range 7 = [0, 1, 2, 3, 4, 5, 6] from rfl, List.mapM_cons, List.mapM_nil] at h
  cases h0 : w.cell? (a.add 0) with
  | none => simp [h0] at h
  | some c0 =>
      cases h1 : w.cell? (a.add 1) with
      | none => simp [h0, h1] at h
      | some c1 =>
          cases h2 : w.cell? (a.add 2) with
          | none => simp [h0, h1, h2] at h
          | some c2 =>
              cases h3 : w.cell? (a.add 3) with
              | none => simp [h0, h1, h2, h3] at h
              | some c3 =>
                  cases h4 : w.cell? (a.add 4) with
                  | none => simp [h0, h1, h2, h3, h4] at h
                  | some c4 =>
                      cases h5 : w.cell? (a.add 5) with
                      | none => simp [h0, h1, h2, h3, h4, h5] at h
                      | some c5 =>
                          cases h6 : w.cell? (a.add 6) with
                          | none => simp [h0, h1, h2, h3, h4, h5, h6] at h
                          | some c6 =>
                              simp [h0, h1, h2, h3, h4, h5, h6] at h
                              exact ⟨c0, c1, c2, c3, c4, c5, c6, h.symm, rfl, rfl, rfl, rfl, rfl, rfl, rfl⟩

theorem hop_one {H : Type} {enc : TypeId × Value → H} {W : World} {fuel : Nat} {c0 c1 c2 c3 c4 c5 c6 : Value} {d : DataW H} {p : List MemPlace}
    (hf : DataW.trod enc Try.prog W 0 (fun _ => true) true fuel 47 [c0, c1, c2, c3, c4, c5, c6] = some (d, p)) : ∃ x : HOp, #[c0, c1, c2, c3, c4, c5, c6] = hopA x := by
  obtain ⟨y0, y1, y2, n, _, _, h0, h1, h2⟩ := trod_struct3 Try.underlying47 hf
  simp only [cells_int, cells_dop, List.drop_zero, List.take_succ_cons, List.take_zero, List.drop_succ_cons] at h0 h1 h2
  obtain ⟨l0, e0, _, _⟩ := DataW.trod_int Try.underlying3 h0
  obtain ⟨l1, e1, _, _⟩ := DataW.trod_int Try.underlying3 h1
  obtain ⟨d2, p2⟩ := y2
  obtain ⟨x, f0, f1, f2, f3, f4⟩ := dop_one h2
  simp only [List.cons.injEq, and_true] at e0 e1
  exact ⟨⟨l0, l1, x⟩, by rw [e0, e1, f0, f1, f2, f3, f4]; rfl⟩

theorem hopAt_range (len : Nat) (T : Nat → HOp) (j : Nat) (h : j < len) : hopAt ((List.range len).map T) j = T j := by
  simp [hopAt, List.getD, List.getElem?_map, List.getElem?_range h]

theorem hops_read {H : Type} {enc : TypeId × Value → H} {W : World} {base : Nat} {c : Value} {d : DataW H} {p : List MemPlace}
    (hval : Value.okWide Try.prog W .any base 26 c) (h : DataW.Trod enc Try.prog W 0 (fun _ => true) true 26 c d p) (hw : Fits 26 d) :
    ∃ l, HOpsV W c l ∧ l.length + 1 ≤ Rows.uptoBulk d ∧ l.length ≤ 2513169434843 := by
  obtain ⟨a0, len0, cap0, rfl⟩ := okWide_slice Try.underlying26 hval
  obtain ⟨fuel, hf⟩ := h
  replace hf : DataW.trod enc Try.prog W 0 (fun _ => true) true fuel 26 [.slice a0 len0 cap0] = some (d, p) := by simpa [Value.cells] using hf
  rcases open_slice Try.underlying26 hf with ⟨hcs, hx⟩ | ⟨a, len, cap, m, n, D, Pl, hcs, _, hl, hm, hmm, hx, hel⟩
  · simp only [List.cons.injEq, and_true] at hcs
    rw [hcs]
    simp only [Prod.mk.injEq] at hx
    obtain ⟨rfl, _⟩ := hx
    exact ⟨[], CellsV.nil _ _ _, by simp [Rows.uptoBulk], by simp⟩
  · simp only [List.cons.injEq, and_true] at hcs
    rw [hcs]
    simp only [Prod.mk.injEq] at hx
    obtain ⟨rfl, _⟩ := hx
    simp only [if_true] at hmm
    obtain rfl : cap = m := hmm.symm
    have hs := hw ((len + (cap - len)) * 56) (by
      simp only [DataW.weights, Try.underlying26, List.mem_cons]
      left
      rw [bytes_hop]
      simp)
    simp only [reachBytes] at hs
    have hone : ∀ i, i < len → ∃ x : HOp, ∃ b off, a = ⟨b, off, none⟩ ∧ b < W.heap.size ∧ ∀ m u, (hopA x)[m]? = some u → W.cell? ⟨b, off + (i * 7 + m), none⟩ = some u := by
      intro i hi
      obtain ⟨cs', hc, ht⟩ := hel i (by omega)
      rw [cells_hop] at hc
      obtain ⟨c0, c1, c2, c3, c4, c5, c6, rfl, k0, k1, k2, k3, k4, k5, k6⟩ := cells7 hc
      obtain ⟨x, ex⟩ := hop_one ht
      have z0 : ∃ c0', W.cell? (a.add 0) = some c0' := by
        obtain ⟨j0, hj0⟩ : ∃ j0, j0 = 0 := ⟨_, rfl⟩
        obtain ⟨cs0, hc0, _⟩ := hel j0 (by omega)
        rw [cells_hop] at hc0
        rw [hj0, Nat.zero_mul] at hc0
        have ha : a.add 0 = a := by simp [Addr.add]
        rw [ha] at hc0
        obtain ⟨x0, _, _, _, _, _, _, _, y0, _⟩ := cells7 hc0
        exact ⟨x0, y0⟩
      obtain ⟨c0', z0⟩ := z0
      obtain ⟨b, off, spot⟩ := a
      have hspot : spot = none := by simpa [Addr.add] using World.cell?_spot z0
      subst hspot
      rw [addr_add, addr_add] at k0 k1 k2 k3 k4 k5 k6
      refine ⟨x, b, off, rfl, cell_lt k0, fun m u hm => ?_⟩
      rw [← ex] at hm
      match m, hm with
      | 0, hm => simp at hm; subst hm; simpa using k0
      | 1, hm => simp at hm; subst hm; simpa [Nat.add_assoc] using k1
      | 2, hm => simp at hm; subst hm; simpa [Nat.add_assoc] using k2
      | 3, hm => simp at hm; subst hm; simpa [Nat.add_assoc] using k3
      | 4, hm => simp at hm; subst hm; simpa [Nat.add_assoc] using k4
      | 5, hm => simp at hm; subst hm; simpa [Nat.add_assoc] using k5
      | 6, hm => simp at hm; subst hm; simpa [Nat.add_assoc] using k6
      | m + 7, hm => simp at hm
    haveI : Inhabited HOp := ⟨noHOp⟩
    obtain ⟨T, hT⟩ := choose_lt hone
    have hb1 := bulk_length (H := H) ((List.range len).map D)
    simp only [List.length_map, List.length_range] at hb1
    have hlen : ((List.range len).map T).length = len := by simp
    refine ⟨(List.range len).map T, ?_, ?_, by rw [hlen]; omega⟩
    · unfold HOpsV
      rw [hlen]
      refine ⟨some a, cap, rfl, by rw [hopCells_length, hlen], by omega, ⟨hl, by unfold maxLen at hm; omega, fun h => by cases h⟩, hopCells_one _, fun j u hj => ?_⟩
      have hjl : j < len * 7 := by
        rcases Nat.lt_or_ge j (len * 7) with q | q
        · exact q
        · rw [List.getElem?_eq_none (by rw [hopCells_length, hlen]; exact q)] at hj; cases hj
      have e : j = j / 7 * 7 + j % 7 := by omega
      obtain ⟨b, off, ha, hlt, r⟩ := hT (j / 7) (by omega)
      rw [e, hopCells_at _ _ _ (by rw [hlen]; omega) (by omega), hopAt_range len T _ (by omega)] at hj
      exact ⟨b, off, by rw [ha], hlt, by rw [e]; exact r _ u hj⟩
    · simp only [Rows.uptoBulk, List.length_map, List.length_range]; omega

end Go.Proofs.Ytaladbcocealnaa

/- A number that came in: a word's. -/
namespace Go.Proofs.Ytaladbcocealnaa
open Go.ChangeShapes Go.WideShapes Go.ChangeAt Go.RowKit Go.Joins Go.Deep
set_option linter.unusedVariables false
set_option maxRecDepth 4000

theorem int_argw {H : Type} {enc : TypeId × Value → H} {W : World} {base : Nat} {v : Value} {d : DataW H} {p : List MemPlace}
    (hval : Value.okWide Try.prog W .any base 3 v) (h : DataW.Trod enc Try.prog W 0 (fun _ => true) true 3 v d p) : ∃ x, v = .int .i64 x ∧ 1 ≤ Rows.uptoBulk d ∧ (-9223372036854775808 ≤ x ∧ x ≤ 9223372036854775807) := by
  obtain ⟨x, rfl, rfl, rfl, hw⟩ := open_int Try.underlying3 hval h
  simp [Lit.wf, IntKind.min, IntKind.max, IntKind.signed, IntKind.bits] at hw
  exact ⟨x, rfl, bulk_pos _, by omega⟩

end Go.Proofs.Ytaladbcocealnaa

/- Things that happen in a hall that came in, each number a word's. -/
namespace Go.Proofs.Ytaladbcocealnaa
open Go.ChangeShapes Go.WideShapes Go.ChangeAt Go.RowKit Go.Joins Go.Deep
set_option linter.unusedVariables false
set_option maxRecDepth 4000

theorem hopw_one {H : Type} {enc : TypeId × Value → H} {W : World} {fuel : Nat} {c0 c1 c2 c3 c4 c5 c6 : Value} {d : DataW H} {p : List MemPlace}
    (hf : DataW.trod enc Try.prog W 0 (fun _ => true) true fuel 47 [c0, c1, c2, c3, c4, c5, c6] = some (d, p)) : ∃ x : HOp, #[c0, c1, c2, c3, c4, c5, c6] = hopA x ∧ (-9223372036854775808 ≤ x.keep ∧ x.keep ≤ 9223372036854775807) := by
  obtain ⟨y0, y1, y2, n, _, _, h0, h1, h2⟩ := trod_struct3 Try.underlying47 hf
  simp only [cells_int, cells_dop, List.drop_zero, List.take_succ_cons, List.take_zero, List.drop_succ_cons] at h0 h1 h2
  obtain ⟨l0, e0, _, _⟩ := DataW.trod_int Try.underlying3 h0
  obtain ⟨l1, e1, _, hw⟩ := DataW.trod_int Try.underlying3 h1
  simp [Lit.wf, IntKind.min, IntKind.max, IntKind.signed, IntKind.bits] at hw
  obtain ⟨d2, p2⟩ := y2
  obtain ⟨x, f0, f1, f2, f3, f4⟩ := dop_one h2
  simp only [List.cons.injEq, and_true] at e0 e1
  exact ⟨⟨l0, l1, x⟩, by rw [e0, e1, f0, f1, f2, f3, f4]; rfl, by show -9223372036854775808 ≤ l1 ∧ l1 ≤ 9223372036854775807; omega⟩

theorem hopsw_read {H : Type} {enc : TypeId × Value → H} {W : World} {base : Nat} {c : Value} {d : DataW H} {p : List MemPlace}
    (hval : Value.okWide Try.prog W .any base 26 c) (h : DataW.Trod enc Try.prog W 0 (fun _ => true) true 26 c d p) (hw : Fits 26 d) :
    ∃ l, HOpsV W c l ∧ l.length + 1 ≤ Rows.uptoBulk d ∧ l.length ≤ 2513169434843 ∧ ∀ k, k < l.length → -9223372036854775808 ≤ (hopAt l k).keep ∧ (hopAt l k).keep ≤ 9223372036854775807 := by
  obtain ⟨a0, len0, cap0, rfl⟩ := okWide_slice Try.underlying26 hval
  obtain ⟨fuel, hf⟩ := h
  replace hf : DataW.trod enc Try.prog W 0 (fun _ => true) true fuel 26 [.slice a0 len0 cap0] = some (d, p) := by simpa [Value.cells] using hf
  rcases open_slice Try.underlying26 hf with ⟨hcs, hx⟩ | ⟨a, len, cap, m, n, D, Pl, hcs, _, hl, hm, hmm, hx, hel⟩
  · simp only [List.cons.injEq, and_true] at hcs
    rw [hcs]
    simp only [Prod.mk.injEq] at hx
    obtain ⟨rfl, _⟩ := hx
    exact ⟨[], CellsV.nil _ _ _, by simp [Rows.uptoBulk], by simp, fun k hk => absurd hk (by simp)⟩
  · simp only [List.cons.injEq, and_true] at hcs
    rw [hcs]
    simp only [Prod.mk.injEq] at hx
    obtain ⟨rfl, _⟩ := hx
    simp only [if_true] at hmm
    obtain rfl : cap = m := hmm.symm
    have hs := hw ((len + (cap - len)) * 56) (by
      simp only [DataW.weights, Try.underlying26, List.mem_cons]
      left
      rw [bytes_hop]
      simp)
    simp only [reachBytes] at hs
    have hone : ∀ i, i < len → ∃ x : HOp, (-9223372036854775808 ≤ x.keep ∧ x.keep ≤ 9223372036854775807) ∧ ∃ b off, a = ⟨b, off, none⟩ ∧ b < W.heap.size ∧ ∀ m u, (hopA x)[m]? = some u → W.cell? ⟨b, off + (i * 7 + m), none⟩ = some u := by
      intro i hi
      obtain ⟨cs', hc, ht⟩ := hel i (by omega)
      rw [cells_hop] at hc
      obtain ⟨c0, c1, c2, c3, c4, c5, c6, rfl, k0, k1, k2, k3, k4, k5, k6⟩ := cells7 hc
      obtain ⟨x, ex, hwx⟩ := hopw_one ht
      have z0 : ∃ c0', W.cell? (a.add 0) = some c0' := by
        obtain ⟨j0, hj0⟩ : ∃ j0, j0 = 0 := ⟨_, rfl⟩
        obtain ⟨cs0, hc0, _⟩ := hel j0 (by omega)
        rw [cells_hop] at hc0
        rw [hj0, Nat.zero_mul] at hc0
        have ha : a.add 0 = a := by simp [Addr.add]
        rw [ha] at hc0
        obtain ⟨x0, _, _, _, _, _, _, _, y0, _⟩ := cells7 hc0
        exact ⟨x0, y0⟩
      obtain ⟨c0', z0⟩ := z0
      obtain ⟨b, off, spot⟩ := a
      have hspot : spot = none := by simpa [Addr.add] using World.cell?_spot z0
      subst hspot
      rw [addr_add, addr_add] at k0 k1 k2 k3 k4 k5 k6
      refine ⟨x, hwx, b, off, rfl, cell_lt k0, fun m u hm => ?_⟩
      rw [← ex] at hm
      match m, hm with
      | 0, hm => simp at hm; subst hm; simpa using k0
      | 1, hm => simp at hm; subst hm; simpa [Nat.add_assoc] using k1
      | 2, hm => simp at hm; subst hm; simpa [Nat.add_assoc] using k2
      | 3, hm => simp at hm; subst hm; simpa [Nat.add_assoc] using k3
      | 4, hm => simp at hm; subst hm; simpa [Nat.add_assoc] using k4
      | 5, hm => simp at hm; subst hm; simpa [Nat.add_assoc] using k5
      | 6, hm => simp at hm; subst hm; simpa [Nat.add_assoc] using k6
      | m + 7, hm => simp at hm
    haveI : Inhabited HOp := ⟨noHOp⟩
    obtain ⟨T, hT⟩ := choose_lt hone
    have hb1 := bulk_length (H := H) ((List.range len).map D)
    simp only [List.length_map, List.length_range] at hb1
    have hlen : ((List.range len).map T).length = len := by simp
    refine ⟨(List.range len).map T, ?_, ?_, by rw [hlen]; omega, fun k hk => by rw [hopAt_range len T k (by rw [hlen] at hk; exact hk)]; exact (hT k (by rw [hlen] at hk; exact hk)).1⟩
    · unfold HOpsV
      rw [hlen]
      refine ⟨some a, cap, rfl, by rw [hopCells_length, hlen], by omega, ⟨hl, by unfold maxLen at hm; omega, fun h => by cases h⟩, hopCells_one _, fun j u hj => ?_⟩
      have hjl : j < len * 7 := by
        rcases Nat.lt_or_ge j (len * 7) with q | q
        · exact q
        · rw [List.getElem?_eq_none (by rw [hopCells_length, hlen]; exact q)] at hj; cases hj
      have e : j = j / 7 * 7 + j % 7 := by omega
      obtain ⟨_, b, off, ha, hlt, r⟩ := hT (j / 7) (by omega)
      rw [e, hopCells_at _ _ _ (by rw [hlen]; omega) (by omega), hopAt_range len T _ (by omega)] at hj
      exact ⟨b, off, by rw [ha], hlt, by rw [e]; exact r _ u hj⟩
    · simp only [Rows.uptoBulk, List.length_map, List.length_range]; omega

end Go.Proofs.Ytaladbcocealnaa

/- For every input the law HallPlays of package tokenhalllaw answers true, and every argument reads as it did before. It holds where the arguments are together of bulk at most 1048576, as the statement says. -/
namespace Go.Proofs.Ytaladbcocealnaa
open Go.ChangeShapes Go.WideShapes Go.ChangeAt Go.RowKit
set_option linter.unusedVariables false
set_option maxRecDepth 4000

theorem hallPlays_contract (H : Type) (enc : TypeId × Value → H) (W : World) (base : Nat) (args : Array Value) (ds gs : List (DataW H)) (before : List MemPlace)
    (hval : ∀ (j : Nat) t v, Try.f3.params[j]? = some t → args[j]? = some v → Value.okWide Try.prog W .any base t v)
    (hW : DataW.Whole enc Try.prog Try.f3.params.toList Rows.hallPlaysSpec.vars false W args.toList ds gs before)
    (hk : Rows.uptoSmall H (ds ++ gs) = true)
    (hsz : (DataW.weightsEach Try.prog (Try.f3.params.toList ++ Rows.hallPlaysSpec.plain.varTypes Try.prog) (ds ++ gs)).all (· ≤ reachBytes) = true) :
    Calls Try.prog 3 args W fun e W' => ∃ v, e = .returned v ∧ Rows.hallPlaysSpec.post enc Try.prog Try.f3 false true false false W args v W' := by
  have hW' := hW
  obtain ⟨p, q, hA0, hV, rfl, hfz, hnd⟩ := hW
  have hA : DataW.TrodAll enc Try.prog W 0 (fun _ => true) true Try.f3.params.toList args.toList ds p := hA0
  rw [Try.params3] at hA hval hsz
  obtain ⟨v0, vs0, d0, ds0, p0, q0, hargs, rfl, rfl, h0, r0⟩ := trodAll_cons hA
  obtain ⟨v1, vs1, d1, ds1, p1, q1, rfl, rfl, rfl, h1, r1⟩ := trodAll_cons r0
  obtain ⟨v2, vs2, d2, ds2, p2, q2, rfl, rfl, rfl, h2, r2⟩ := trodAll_cons r1
  obtain ⟨v3, vs3, d3, ds3, p3, q3, rfl, rfl, rfl, h3, r3⟩ := trodAll_cons r2
  obtain ⟨rfl, rfl, rfl⟩ := trodAll_nil r3
  obtain rfl : args = #[v0, v1, v2, v3] := by cases args; simp_all
  obtain ⟨rfl, rfl⟩ := trodVars_none hV
  have hbulk : Rows.uptoBulkAll _ ≤ 1048576 := of_decide_eq_true hk
  simp only [List.append_nil, Rows.uptoBulkAll] at hbulk
  have lt0 : ∀ x ∈ p0, x.block < W.heap.size := by obtain ⟨m, hm⟩ := h0; exact DataW.trod_lt m _ _ _ hm
  obtain ⟨x0, i0, b0, c0⟩ := net_read (hval 0 24 v0 rfl rfl) h0 (fun x hx => of_decide_eq_true (List.all_eq_true.1 hsz _ (DataW.weights_mem_each (j := 0) (t := 24) (d := d0) rfl rfl x hx)))
  have lt1 : ∀ x ∈ p1, x.block < W.heap.size := by obtain ⟨m, hm⟩ := h1; exact DataW.trod_lt m _ _ _ hm
  obtain ⟨x1, rfl, b1⟩ := int_arg (hval 1 3 v1 rfl rfl) h1
  have lt2 : ∀ x ∈ p2, x.block < W.heap.size := by obtain ⟨m, hm⟩ := h2; exact DataW.trod_lt m _ _ _ hm
  obtain ⟨x2, i2, b2⟩ := lists_arg (hval 2 25 v2 rfl rfl) h2 (fun x hx => of_decide_eq_true (List.all_eq_true.1 hsz _ (DataW.weights_mem_each (j := 2) (t := 25) (d := d2) rfl rfl x hx)))
  have lt3 : ∀ x ∈ p3, x.block < W.heap.size := by obtain ⟨m, hm⟩ := h3; exact DataW.trod_lt m _ _ _ hm
  obtain ⟨x3, i3, b3, m3, f3⟩ := hopsw_read (hval 3 26 v3 rfl rfl) h3 (fun x hx => of_decide_eq_true (List.all_eq_true.1 hsz _ (DataW.weights_mem_each (j := 3) (t := 26) (d := d3) rfl rfl x hx)))
  clear hA0
  refine (hallPlays_walk v0 v2 v3 x0 x1 x2 x3 W i0 i2 i3 ⟨by omega, fun k hk => by have := c0 k hk; omega⟩ (by omega) f3).mono fun e W' ⟨he, bel⟩ => ?_
  subst he
  exact ⟨_, rfl, _, _, _, [], _, [], hW', trodAll_mk1 (shut_bool Try.underlying4 _), (trodAll_cons_mk (Below.trod laidOut (by kernel_rfl) (of_decide_eq_true (by kernel_rfl)) h0 bel lt0) (trodAll_cons_mk (Below.trod laidOut (by kernel_rfl) (of_decide_eq_true (by kernel_rfl)) h1 bel lt1) (trodAll_cons_mk (Below.trod laidOut (by kernel_rfl) (of_decide_eq_true (by kernel_rfl)) h2 bel lt2) (trodAll_cons_mk (Below.trod laidOut (by kernel_rfl) (of_decide_eq_true (by kernel_rfl)) h3 bel lt3) trodAll_mk0)))), rfl, bel.frame _, fun h => by cases h⟩

set_option maxRecDepth 100000 in
theorem hallPlays_lifted (os : Os) (started : os.Started) (H : Type) (enc : TypeId × Value → H) (F : Stop.Interp) :
    ReturnsInHanded {} Try.checked os 3 .any ((Rows.OpenSpec.upto Rows.hallPlaysSpec).pre6 enc Try.prog Try.f3 Rows.hallPlaysUptoRow.domain false) (((Rows.OpenSpec.upto Rows.hallPlaysSpec).at F).post enc Try.prog Try.f3 false true false false) := by
  refine returnsInHanded_of_cond_sized (C := Try.checked) (s := Rows.OpenSpec.upto Rows.hallPlaysSpec) (k := Rows.uptoSmall) rfl own started (by kernel_rfl) Try.func3
    (OpenSpec.witness (enc := enc) (C := Try.checked) (s := Rows.OpenSpec.upto Rows.hallPlaysSpec) (k := Rows.uptoSmall) rfl false ⟨#[], #[.agg #[.int .i64 0, .slice none 0 0], .int .i64 0, .slice none 0 0, .slice none 0 0], []⟩ 8 (by kernel_rfl) (by kernel_rfl) (by kernel_rfl)
      (x := ([.agg [.lit (.int .i64 0), .nil], .lit (.int .i64 0), .nil, .nil], [], [])) (by kernel_rfl) rfl (by kernel_rfl)) ?_
  intro W base args ds gs before hval hW _ hk hsz _
  exact hallPlays_contract H enc W base args ds gs before hval hW hk hsz

theorem hallPlays_holds : Rows.HallPlaysUptoSaid :=
  OpenClaim.holds_of_cond 3 Try.f3 rfl rfl rfl rfl rfl rfl rfl ⟨rfl, rfl, rfl, rfl, rfl⟩ rfl rfl rfl rfl rfl (by kernel_rfl) Try.func3 (by kernel_rfl)
    (of_decide_eq_true (by kernel_rfl)) (by unfold Func.isWrapper; first | (rw [if_pos (by decide +kernel)]; kernel_rfl) | (rw [if_neg (by decide +kernel)]; exact ⟨rfl, rfl⟩))
    (fun os started H enc _ F => hallPlays_lifted os started H enc F)

#print axioms hallPlays_holds

end Go.Proofs.Ytaladbcocealnaa
