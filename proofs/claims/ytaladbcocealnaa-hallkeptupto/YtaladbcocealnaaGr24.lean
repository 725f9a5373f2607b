import Derived.Test.YtaladbcocealnaaGr19
import Derived.Test.YtaladbcocealnaaGr22
/- Things that happen in a hall that came in. -/
namespace Go.Proofs.Ytaladbcocealnaa
open Go.ChangeShapes Go.WideShapes Go.ChangeAt Go.RowKit Go.Joins Go.Deep
set_option linter.unusedVariables false
set_option maxRecDepth 4000

theorem cells_hop : Try.prog.cellsOf 47 = 7 := by kernel_rfl

theorem bytes_hop : Try.prog.bytesOf 47 = 56 := by kernel_rfl

theorem cells7 {w : World} {a : Addr} {cs : List Value} (h : w.cells? 0 a 7 = some cs) : ∃ c0 c1 c2 c3 c4 c5 c6, cs = [c0, c1, c2, c3, c4, c5, c6] ∧ w.cell? (a.add 0) = some c0 ∧ w.cell? (a.add 1) = some c1 ∧ w.cell? (a.add 2) = some c2 ∧ w.cell? (a.add 3) = some c3 ∧ w.cell? (a.add 4) = some c4 ∧ w.cell? (a.add 5) = some c5 ∧ w.cell? (a.add 6) = some c6 := by
  simp only [World.cells?, Nat.zero_le, if_true] at h
  simp only [show List.range 7 = [0, 1, 2, 3, 4, 5, 6] from rfl, List.mapM_cons, List.mapM_nil] at h
  cases h0 : w.cell? (a.add 0) with
  | none => simp [h0] at h
  | some c0 =>
      cases h1 : w.cell? (a.add 1) with
      | none => simp [h0, h1] at h
      | some c1 =>
          cases h2 : w.cell? (a.add 2) with
          | none => simp [h0, h1, h2] at h
          | some c2 =>
              cases h3 : w.cell? (a.add 3) with
              | none => simp [h0, h1, h2, h3] at h
              | some c3 =>
                  cases h4 : w.cell? (a.add 4) with
                  | none => simp [h0, h1, h2, h3, h4] at h
                  | some c4 =>
                      cases h5 : w.cell? (a.add 5) with
                      | none => simp [h0, h1, h2, h3, h4, h5] at h
                      | some c5 =>
                          cases h6 : w.cell? (a.add 6) with
                          | none => simp [h0, h1, h2, h3, h4, h5, h6] at h
                          | some c6 =>
                              simp [h0, h1, h2, h3, h4, h5, h6] at h
                              exact ⟨c0, c1, c2, c3, c4, c5, c6, h.symm, rfl, rfl, rfl, rfl, rfl, rfl, rfl⟩

theorem hop_one {H : Type} {enc : TypeId × Value → H} {W : World} {fuel : Nat} {c0 c1 c2 c3 c4 c5 c6 : Value} {d : DataW H} {p : List MemPlace}
    (hf : DataW.trod enc Try.prog W 0 (fun _ => true) true fuel 47 [c0, c1, c2, c3, c4, c5, c6] = some (d, p)) : ∃ x : HOp, #[c0, c1, c2, c3, c4, c5, c6] = hopA x := by
  obtain ⟨y0, y1, y2, n, _, _, h0, h1, h2⟩ := trod_struct3 Try.underlying47 hf
  simp only [cells_int, cells_dop, List.drop_zero, List.take_succ_cons, List.take_zero, List.drop_succ_cons] at h0 h1 h2
  obtain ⟨l0, e0, _, _⟩ := DataW.trod_int Try.underlying3 h0
  obtain ⟨l1, e1, _, _⟩ := DataW.trod_int Try.underlying3 h1
  obtain ⟨d2, p2⟩ := y2
  obtain ⟨x, f0, f1, f2, f3, f4⟩ := dop_one h2
  simp only [List.cons.injEq, and_true] at e0 e1
  exact ⟨⟨l0, l1, x⟩, by rw [e0, e1, f0, f1, f2, f3, f4]; rfl⟩

theorem hopAt_range (len : Nat) (T : Nat → HOp) (j : Nat) (h : j < len) : hopAt ((List.range len).map T) j = T j := by
  simp [hopAt, List.getD, List.getElem?_map, List.getElem?_range h]

theorem hops_read {H : Type} {enc : TypeId × Value → H} {W : World} {base : Nat} {c : Value} {d : DataW H} {p : List MemPlace}
    (hval : Value.okWide Try.prog W .any base 26 c) (h : DataW.Trod enc Try.prog W 0 (fun _ => true) true 26 c d p) (hw : Fits 26 d) :
    ∃ l, HOpsV W c l ∧ l.length + 1 ≤ Rows.uptoBulk d ∧ l.length ≤ 2513169434843 := by
  obtain ⟨a0, len0, cap0, rfl⟩ := okWide_slice Try.underlying26 hval
  obtain ⟨fuel, hf⟩ := h
  replace hf : DataW.trod enc Try.prog W 0 (fun _ => true) true fuel 26 [.slice a0 len0 cap0] = some (d, p) := by simpa [Value.cells] using hf
  rcases open_slice Try.underlying26 hf with ⟨hcs, hx⟩ | ⟨a, len, cap, m, n, D, Pl, hcs, _, hl, hm, hmm, hx, hel⟩
  · simp only [List.cons.injEq, and_true] at hcs
    rw [hcs]
    simp only [Prod.mk.injEq] at hx
    obtain ⟨rfl, _⟩ := hx
    exact ⟨[], CellsV.nil _ _ _, by simp [Rows.uptoBulk], by simp⟩
  · simp only [List.cons.injEq, and_true] at hcs
    rw [hcs]
    simp only [Prod.mk.injEq] at hx
    obtain ⟨rfl, _⟩ := hx
    simp only [if_true] at hmm
    obtain rfl : cap = m := hmm.symm
    have hs := hw ((len + (cap - len)) * 56) (by
      simp only [DataW.weights, Try.underlying26, List.mem_cons]
      left
      rw [bytes_hop]
      simp)
    simp only [reachBytes] at hs
    have hone : ∀ i, i < len → ∃ x : HOp, ∃ b off, a = ⟨b, off, none⟩ ∧ b < W.heap.size ∧ ∀ m u, (hopA x)[m]? = some u → W.cell? ⟨b, off + (i * 7 + m), none⟩ = some u := by
      intro i hi
      obtain ⟨cs', hc, ht⟩ := hel i (by omega)
      rw [cells_hop] at hc
      obtain ⟨c0, c1, c2, c3, c4, c5, c6, rfl, k0, k1, k2, k3, k4, k5, k6⟩ := cells7 hc
      obtain ⟨x, ex⟩ := hop_one ht
      have z0 : ∃ c0', W.cell? (a.add 0) = some c0' := by
        obtain ⟨j0, hj0⟩ : ∃ j0, j0 = 0 := ⟨_, rfl⟩
        obtain ⟨cs0, hc0, _⟩ := hel j0 (by omega)
        rw [cells_hop] at hc0
        rw [hj0, Nat.zero_mul] at hc0
        have ha : a.add 0 = a := by simp [Addr.add]
        rw [ha] at hc0
        obtain ⟨x0, _, _, _, _, _, _, _, y0, _⟩ := cells7 hc0
        exact ⟨x0, y0⟩
      obtain ⟨c0', z0⟩ := z0
      obtain ⟨b, off, spot⟩ := a
      have hspot : spot = none := by simpa [Addr.add] using World.cell?_spot z0
      subst hspot
      rw [addr_add, addr_add] at k0 k1 k2 k3 k4 k5 k6
      refine ⟨x, b, off, rfl, cell_lt k0, fun m u hm => ?_⟩
      rw [← ex] at hm
      match m, hm with
      | 0, hm => simp at hm; subst hm; simpa using k0
      | 1, hm => simp at hm; subst hm; simpa [Nat.add_assoc] using k1
      | 2, hm => simp at hm; subst hm; simpa [Nat.add_assoc] using k2
      | 3, hm => simp at hm; subst hm; simpa [Nat.add_assoc] using k3
      | 4, hm => simp at hm; subst hm; simpa [Nat.add_assoc] using k4
      | 5, hm => simp at hm; subst hm; simpa [Nat.add_assoc] using k5
      | 6, hm => simp at hm; subst hm; simpa [Nat.add_assoc] using k6
      | m + 7, hm => simp at hm
    haveI : Inhabited HOp := ⟨noHOp⟩
    obtain ⟨T, hT⟩ := choose_lt hone
    have hb1 := bulk_length (H := H) ((List.range len).map D)
    simp only [List.length_map, List.length_range] at hb1
    have hlen : ((List.range len).map T).length = len := by simp
    refine ⟨(List.range len).map T, ?_, ?_, by rw [hlen]; omega⟩
    · unfold HOpsV
      rw [hlen]
      refine ⟨some a, cap, rfl, by rw [hopCells_length, hlen], by omega, ⟨hl, by unfold maxLen at hm; omega, fun h => by cases h⟩, hopCells_one _, fun j u hj => ?_⟩
      have hjl : j < len * 7 := by
        rcases Nat.lt_or_ge j (len * 7) with q | q
        · exact q
        · rw [List.getElem?_eq_none (by rw [hopCells_length, hlen]; exact q)] at hj; cases hj
      have e : j = j / 7 * 7 + j % 7 := by omega
      obtain ⟨b, off, ha, hlt, r⟩ := hT (j / 7) (by omega)
      rw [e, hopCells_at _ _ _ (by rw [hlen]; omega) (by omega), hopAt_range len T _ (by omega)] at hj
      exact ⟨b, off, by rw [ha], hlt, by rw [e]; exact r _ u hj⟩
    · simp only [Rows.uptoBulk, List.length_map, List.length_range]; omega

end Go.Proofs.Ytaladbcocealnaa

/- A number that came in: a word's. -/
namespace Go.Proofs.Ytaladbcocealnaa
open Go.ChangeShapes Go.WideShapes Go.ChangeAt Go.RowKit Go.Joins Go.Deep
set_option linter.unusedVariables false
set_option maxRecDepth 4000

theorem int_argw {H : Type} {enc : TypeId × Value → H} {W : World} {base : Nat} {v : Value} {d : DataW H} {p : List MemPlace}
    (hval : Value.okWide Try.prog W .any base 3 v) (h : DataW.Trod enc Try.prog W 0 (fun _ => true) true 3 v d p) : ∃ x, v = .int .i64 x ∧ 1 ≤ Rows.uptoBulk d ∧ (-9223372036854775808 ≤ x ∧ x ≤ 9223372036854775807) := by
  obtain ⟨x, rfl, rfl, rfl, hw⟩ := open_int Try.underlying3 hval h
  simp [Lit.wf, IntKind.min, IntKind.max, IntKind.signed, IntKind.bits] at hw
  exact ⟨x, rfl, bulk_pos _, by omega⟩

end Go.Proofs.Ytaladbcocealnaa
