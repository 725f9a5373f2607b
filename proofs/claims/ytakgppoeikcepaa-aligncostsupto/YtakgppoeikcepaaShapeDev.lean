/- Package shape as it landed: what is wrong; closing a net. -/
import Derived.Test.YtakgppoeikcepaaGr14
import Derived.Test.YtakgppoeikcepaaGr13
namespace Go.Proofs.Ytakgppoeikcepaa
open Go.RowKit
set_option linter.unusedVariables false
set_option maxRecDepth 4000

theorem shape_start (v : Value) (n : NetL) (i : Int) (w : World) (hv : Net w v n) :
    Calls Try.prog 10 #[v, .int .i64 i] w fun e w' => ∃ r, e = .returned r ∧ Ints w' r (startL n.places i) ∧ Below w.heap.size w w' := by
  refine (shape_start_own v n i w hv).mono ?_
  rintro e w' ⟨r, rfl, hr, b⟩
  exact ⟨r, rfl, hr.now, b⟩

theorem endsBad_no {n : NetL} (hn : netOk n = true) {i o : Nat} : n.trans.any (endsBad i o) = false ↔ ∀ k, k < n.trans.length → nth (tranAt n.trans k).post i = 0 ∧ nth (tranAt n.trans k).pre o = 0 := by
  constructor
  · intro h k hk
    have h1 : endsBad i o (tranAt n.trans k) = false := by
      rw [List.any_eq_false] at h
      have := h (tranAt n.trans k) (by rw [tranAt_get hk]; exact List.getElem_mem _)
      simpa using this
    have r := tran_right (net_tran hn hk)
    have p1 := (okTok_nth r.1 o).1
    have p2 := (okTok_nth r.2 i).1
    simp only [endsBad, Bool.or_eq_false_iff, decide_eq_false_iff_not] at h1
    omega
  · intro h
    refine anyT_not fun j hj => ?_
    obtain ⟨h1, h2⟩ := h j hj
    simp [endsBad, h1, h2]

theorem shape_ends_iff {n : NetL} (hn : netOk n = true) (i o : Int) : ShapeOk n i o ↔ endsL n i o = true ∧ Between n i.toNat o.toNat := by
  have ht := turn_ok n hn
  unfold Between
  rw [onWay_all hn, onWay_all ht, turn_count]
  constructor
  · intro h
    refine ⟨?_, ⟨h.p1, h.t1⟩, h.p2, h.t2⟩
    have := (endsBad_no hn (i := i.toNat) (o := o.toNat)).2 fun k hk => ⟨h.put k hk, h.take k hk⟩
    simp [endsL, isPlace, this, h.i0, h.i1, h.o0, h.o1, h.ne]
  · rintro ⟨h1, ⟨h2, h3⟩, h4, h5⟩
    simp only [endsL, isPlace, Bool.and_eq_true, decide_eq_true_eq, Bool.not_eq_true', decide_eq_false_iff_not] at h1
    obtain ⟨⟨a1, a2⟩, ⟨a3, a4⟩, a5, a6⟩ := h1
    have := (endsBad_no hn).1 a6
    exact ⟨hn, a5, a1, a2, a3, a4, h2, h4, h3, h5, fun k hk => (this k hk).1, fun k hk => (this k hk).2⟩

set_option maxHeartbeats 1000000 in
theorem shape_wrong (v : Value) (n : NetL) (i o : Int) (w : World) (hv : Net w v n) :
    Calls Try.prog 14 #[v, .int .i64 i, .int .i64 o] w fun e w' => ∃ d, e = .returned (.int .i64 d) ∧ Judged n i o d ∧ Below w.heap.size w w' := by
  obtain ⟨tv, rfl, hT⟩ := id hv
  obtain ⟨a, len, cap, rfl, hlen, hmx, hsh, hr⟩ := id hT
  clear hr hT
  have b1 := below_new w (.cells #[.int .i64 n.places, .slice a len cap] 24)
  have hbx := box2_new w (.int .i64 n.places) (.slice a len cap) 24
  obtain ⟨w1, Hw1⟩ : ∃ w1, Hid (w.alloc (.cells #[.int .i64 n.places, .slice a len cap] 24) = w1) := ⟨_, rfl⟩
  rw [Hw1.out] at b1 hbx
  replace hv := hv.below b1
  obtain ⟨x0, x1, x2⟩ := id hbx
  go_enter Try.func14, Try.ntmps14
  go_upto_region 1 with fail
  rw [Hw1.out]
  clear Hw1
  go_wp2_with fail
  refine (net_wrong _ n _ (by exact hv)).mono ?_
  rintro e w2 ⟨rfl, b⟩
  have B := below_then b1 b
  replace hbx := hbx.below b
  replace hv := hv.below b
  clear b b1 x0 x1 x2
  cases hn : netOk n
  · rw [wrongL_not hn]
    have J : Hid _ := Judged.of_bad (i := i) (o := o) hn
    go_wp2
    go_ret
    exact ⟨2, rfl, J.out, B⟩
  · rw [wrongL_ok hn]
    obtain ⟨x0, x1, x2⟩ := id hbx
    have HI : Hid _ := shape_ends_iff hn i o
    go_wp2_with fail
    refine (ends_any _ n hn i o _ (by exact hv)).mono ?_
    rintro e w3 ⟨rfl, b⟩
    replace B := below_then B b
    replace hbx := hbx.below b
    replace hv := hv.below b
    clear b x0 x1 x2
    obtain ⟨x0, x1, x2⟩ := id hbx
    cases he : endsL n i o
    · have J : Hid (Judged n i o 1) := Judged.of_form hn fun h => by have := (HI.out.1 h).1; rw [he] at this; cases this
      clear HI
      go_wp2
      go_ret
      exact ⟨1, rfl, J.out, B⟩
    · have hp : 0 ≤ i ∧ i < n.places ∧ 0 ≤ o ∧ o < n.places := by
        simp only [endsL, isPlace, Bool.and_eq_true, decide_eq_true_eq] at he
        exact ⟨he.1.1, he.1.2, he.2.1.1, he.2.1.2⟩
      obtain ⟨ki, rfl⟩ : ∃ k : Nat, i = k := ⟨i.toNat, by omega⟩
      obtain ⟨ko, rfl⟩ : ∃ k : Nat, o = k := ⟨o.toNat, by omega⟩
      simp only [Int.toNat_natCast] at HI
      go_wp2_with fail
      refine (between_any _ n hn ki ko hp.2.1 hp.2.2.2 _ (by exact hv)).mono ?_
      rintro e w4 ⟨q, rfl, hq, b⟩
      replace B := below_then B b
      clear b x0 x1 x2 hbx hv hp
      cases q
      · have J : Hid (Judged n ki ko 1) := Judged.of_form hn fun h => by have := hq.2 (HI.out.1 h).2; cases this
        clear HI hq
        go_wp2
        go_ret
        exact ⟨1, rfl, J.out, B⟩
      · have J : Hid (Judged n ki ko 0) := Judged.of_right (HI.out.2 ⟨he, hq.1 rfl⟩)
        clear HI hq
        go_wp2
        go_ret
        exact ⟨0, rfl, J.out, B⟩

/-- The loads of the answer's transitions: they are not taken first, for the same statement stores there. -/
abbrev closeLoad : Op := Op.load 22 (Operand.tmp 35)
abbrev lastLoad : Op := Op.load 22 (Operand.tmp 50)

theorem close_turned (n : NetL) (i o : Int) {k : Nat} (hk : k < n.trans.length) : tranAt (turnL (closeL n i o)).trans k = turnT (tranAt n.trans k) := by
  rw [turn_tran _ (by rw [close_count]; omega), close_at n i o hk]
theorem close_turned_last (n : NetL) (i o : Int) : tranAt (turnL (closeL n i o)).trans n.trans.length = turnT ⟨0, startL n.places o, startL n.places i⟩ := by
  rw [turn_tran _ (by rw [close_count]; omega), close_last]

end Go.Proofs.Ytakgppoeikcepaa
