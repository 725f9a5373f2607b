/- Bytes, and a thing to do at a desk, that came in. -/
import Derived.Test.YteohpkicbkhpjaaRead4
import Derived.Test.YteohpkicbkhpjaaJournMem
namespace Go.Proofs.Yteohpkicbkhpjaa
open Go.ChangeShapes Go.WideShapes Go.ChangeAt Go.RowKit Go.Joins Go.Deep
set_option linter.unusedVariables false
set_option linter.unusedSimpArgs false
set_option maxRecDepth 4000

theorem wf_byte {x : Int} (h : (Lit.int .u8 x).wf = true) : isByte x := by
  simp only [Lit.wf, IntKind.min, IntKind.max, IntKind.bits, IntKind.signed, Bool.and_eq_true, decide_eq_true_eq] at h
  exact ⟨by simpa using h.1, by have := h.2; simp at this; omega⟩
theorem byte_arg {H : Type} {enc : TypeId × Value → H} {W : World} {base : Nat} {v : Value} {d : DataW H} {p : List MemPlace}
    (hval : Value.okWide Try.prog W .any base 5 v) (h : DataW.Trod enc Try.prog W 0 (fun _ => true) true 5 v d p) : ∃ x, v = .int .u8 x ∧ 1 ≤ Rows.uptoBulk d ∧ isByte x := by
  obtain ⟨x, rfl, rfl, rfl, hw⟩ := open_int Try.underlying5 hval h
  exact ⟨x, rfl, bulk_pos _, wf_byte hw⟩

theorem bytes_u8 : Try.prog.bytesOf 5 = 1 := by kernel_rfl
theorem bytes_arg {H : Type} {enc : TypeId × Value → H} {W : World} {base : Nat} {v : Value} {d : DataW H} {p : List MemPlace}
    (hval : Value.okWide Try.prog W .any base 24 v) (h : DataW.Trod enc Try.prog W 0 (fun _ => true) true 24 v d p) (hw : Fits 24 d) :
    ∃ xs, (xs.length ≤ 24629060462187 → BytesV W v xs) ∧ xs.length + 1 ≤ Rows.uptoBulk d := by
  obtain ⟨a0, len, cap, rfl⟩ := okWide_slice Try.underlying24 hval
  obtain ⟨fuel, hf⟩ := h
  replace hf : DataW.trod enc Try.prog W 0 (fun _ => true) true fuel 24 [.slice a0 len cap] = some (d, p) := by simpa [Value.cells] using hf
  rcases open_ints Try.underlying24 Try.underlying5 (by kernel_rfl) hf with ⟨hcs, hx⟩ | ⟨x, l, cap, zs, hcs, _, hl, hm, hz, hx, hcell, hwz⟩
  · simp only [List.cons.injEq, and_true] at hcs
    rw [hcs]
    simp only [Prod.mk.injEq] at hx
    obtain ⟨rfl, _⟩ := hx
    exact ⟨[], fun _ => BytesV.nil _, by simp [Rows.uptoBulk]⟩
  · simp only [List.cons.injEq, and_true] at hcs
    rw [hcs]
    simp only [Prod.mk.injEq] at hx
    obtain ⟨rfl, _⟩ := hx
    simp only [if_true] at hz
    have hb := bulk_length (H := H) (lits .u8 (zs.take l))
    have hlt : (zs.take l).length = l := by rw [List.length_take]; omega
    refine ⟨zs.take l, fun hlen => ⟨x, l, cap, rfl, hlt, by omega, ⟨hl, by unfold maxLen at hm; omega, fun h => by cases h⟩, fun j => ?_, fun j hj => ?_⟩, ?_⟩
    · by_cases hj : j < l
      · have e : nth (zs.take l) j = zs[j]'(by omega) := by simp [nth, List.getD, hj, List.getElem?_eq_getElem (show j < zs.length by omega)]
        rw [e]
        exact wf_byte (hwz _ (List.getElem_mem _))
      · rw [nth_past _ _ (by omega)]; exact ⟨by decide, by decide⟩
    · have hj' : j < l := by omega
      have hc := hcell j (by omega)
      obtain ⟨b, off, spot⟩ := x
      have hspot : spot = none := by simpa [Addr.add] using World.cell?_spot (hcell 0 (by omega))
      subst hspot
      rw [add_plain] at hc
      refine ⟨b, off, rfl, cell_lt hc, ?_⟩
      rw [hc]
      simp [nth, List.getD, hj']
    · simp only [lits, List.length_map] at hb
      simp only [Rows.uptoBulk]
      simp only [lits] at *
      omega

theorem dop_arg {H : Type} {enc : TypeId × Value → H} {W : World} {base : Nat} {v : Value} {d : DataW H} {p : List MemPlace}
    (hval : Value.okWide Try.prog W .any base 23 v) (h : DataW.Trod enc Try.prog W 0 (fun _ => true) true 23 v d p) : ∃ x : DOp, v = dopW x := by
  obtain ⟨cs, rfl, hsz⟩ := okWide_struct Try.underlying23 hval
  have h5 : cs.size = 5 := hsz.trans cells_dop
  obtain ⟨c0, c1, c2, c3, c4, rfl⟩ : ∃ c0 c1 c2 c3 c4, cs = #[c0, c1, c2, c3, c4] := by
    obtain ⟨l⟩ := cs
    match l, h5 with
    | [c0, c1, c2, c3, c4], _ => exact ⟨c0, c1, c2, c3, c4, rfl⟩
  obtain ⟨fuel, hf⟩ := h
  obtain ⟨x, rfl, rfl, rfl, rfl, rfl⟩ := dop_one (by simpa [Value.cells] using hf)
  exact ⟨x, rfl⟩

end Go.Proofs.Yteohpkicbkhpjaa
