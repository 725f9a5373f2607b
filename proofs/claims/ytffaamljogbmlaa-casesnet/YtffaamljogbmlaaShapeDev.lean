/- Package shape as it landed: what is wrong; closing a net. -/
import Derived.Test.YtffaamljogbmlaaGr12
import Derived.Test.YtffaamljogbmlaaGr11
namespace Go.Proofs.Ytffaamljogbmlaa
open Go.RowKit
set_option linter.unusedVariables false
set_option maxRecDepth 4000

theorem shape_start (v : Value) (n : NetL) (i : Int) (w : World) (hv : Net w v n) :
    Calls Try.prog 27 #[v, .int .i64 i] w fun e w' => ∃ r, e = .returned r ∧ Ints w' r (startL n.places i) ∧ Below w.heap.size w w' := by
  refine (shape_start_own v n i w hv).mono ?_
  rintro e w' ⟨r, rfl, hr, b⟩
  exact ⟨r, rfl, hr.now, b⟩

theorem endsBad_no {n : NetL} (hn : netOk n = true) {i o : Nat} : n.trans.any (endsBad i o) = false ↔ ∀ k, k < n.trans.length → nth (tranAt n.trans k).post i = 0 ∧ nth (tranAt n.trans k).pre o = 0 := by
  constructor
  · intro h k hk
    have h1 : endsBad i o (tranAt n.trans k) = false := by
      rw [List.any_eq_false] at h
      have := h (tranAt n.trans k) (by rw [tranAt_get hk]; exact List.getElem_mem _)
      simpa using this
    have r := tran_right (net_tran hn hk)
    have p1 := (okTok_nth r.1 o).1
    have p2 := (okTok_nth r.2 i).1
    simp only [endsBad, Bool.or_eq_false_iff, decide_eq_false_iff_not] at h1
    omega
  · intro h
    refine anyT_not fun j hj => ?_
    obtain ⟨h1, h2⟩ := h j hj
    simp [endsBad, h1, h2]

theorem shape_ends_iff {n : NetL} (hn : netOk n = true) (i o : Int) : ShapeOk n i o ↔ endsL n i o = true ∧ Between n i.toNat o.toNat := by
  have ht := turn_ok n hn
  unfold Between
  rw [onWay_all hn, onWay_all ht, turn_count]
  constructor
  · intro h
    refine ⟨?_, ⟨h.p1, h.t1⟩, h.p2, h.t2⟩
    have := (endsBad_no hn (i := i.toNat) (o := o.toNat)).2 fun k hk => ⟨h.put k hk, h.take k hk⟩
    simp [endsL, isPlace, this, h.i0, h.i1, h.o0, h.o1, h.ne]
  · rintro ⟨h1, ⟨h2, h3⟩, h4, h5⟩
    simp only [endsL, isPlace, Bool.and_eq_true, decide_eq_true_eq, Bool.not_eq_true', decide_eq_false_iff_not] at h1
    obtain ⟨⟨a1, a2⟩, ⟨a3, a4⟩, a5, a6⟩ := h1
    have := (endsBad_no hn).1 a6
    exact ⟨hn, a5, a1, a2, a3, a4, h2, h4, h3, h5, fun k hk => (this k hk).1, fun k hk => (this k hk).2⟩

/-- The loads of the answer's transitions: they are not taken first, for the same statement stores there. -/
abbrev closeLoad : Op := Op.load 22 (Operand.tmp 35)
abbrev lastLoad : Op := Op.load 22 (Operand.tmp 50)

theorem close_turned (n : NetL) (i o : Int) {k : Nat} (hk : k < n.trans.length) : tranAt (turnL (closeL n i o)).trans k = turnT (tranAt n.trans k) := by
  rw [turn_tran _ (by rw [close_count]; omega), close_at n i o hk]
theorem close_turned_last (n : NetL) (i o : Int) : tranAt (turnL (closeL n i o)).trans n.trans.length = turnT ⟨0, startL n.places o, startL n.places i⟩ := by
  rw [turn_tran _ (by rw [close_count]; omega), close_last]

end Go.Proofs.Ytffaamljogbmlaa
