/- The answers of the document itself for shape: what is wrong. -/
import Derived.Test.YteoofibhpifmlaaDoorShape3
import Derived.Test.YteoofibhpifmlaaDoorNetBoth
namespace Go.Proofs.YteoofibhpifmlaaDoor
open Go.RowKit
set_option linter.unusedVariables false
set_option maxRecDepth 4000

/-- What the reckoning has to tell. -/
theorem shape_iff {n : NetL} {i o : Nat} (hn : netOk n = true) (hi : (i : Int) < n.places) (ho : (o : Int) < n.places) (hne : (i : Int) ≠ o) :
    ShapeOk n i o ↔ (∀ p, p < n.places.toNat → (waysL n i).ps p = true ∧ (waysL (turnL n) o).ps p = true) ∧ (∀ k, k < n.trans.length → ((waysL n i).ts k = true ∧ (waysL (turnL n) o).ts k = true) ∧ nth (tranAt n.trans k).post i = 0 ∧ nth (tranAt n.trans k).pre o = 0) := by
  obtain ⟨a1, a2⟩ := ways_iff hn hi
  obtain ⟨b1, b2⟩ := ways_iff (n := turnL n) (by rw [turn_ok_iff]; exact hn) (f := o) ho
  rw [turn_count] at b2
  constructor
  · intro h
    refine ⟨fun p hp => ⟨(a1 p).2 ?_, (b1 p).2 ?_⟩, fun k hk => ⟨⟨(a2 k hk).2 ?_, (b2 k hk).2 ?_⟩, ?_, ?_⟩⟩
    · have := h.p1 p (by omega); simpa using this
    · have := h.p2 p (by omega); simpa using this
    · have := h.t1 k hk; simpa using this
    · have := h.t2 k hk; simpa using this
    · have := h.put k hk; simpa using this
    · have := h.take k hk; simpa using this
  · rintro ⟨h1, h2⟩
    refine ⟨hn, hne, by omega, hi, by omega, ho, fun p hp => ?_, fun p hp => ?_, fun k hk => ?_, fun k hk => ?_, fun k hk => ?_, fun k hk => ?_⟩
    · rw [Int.toNat_natCast]; exact (a1 p).1 (h1 p (by omega)).1
    · rw [Int.toNat_natCast]; exact (b1 p).1 (h1 p (by omega)).2
    · rw [Int.toNat_natCast]; exact (a2 k hk).1 (h2 k hk).1.1
    · rw [Int.toNat_natCast]; exact (b2 k hk).1 (h2 k hk).1.2
    · rw [Int.toNat_natCast]; exact (h2 k hk).2.1
    · rw [Int.toNat_natCast]; exact (h2 k hk).2.2

theorem below_le {n : Nat} {Q : Nat → Prop} {k : Nat} (h : ∀ j, j < k → Q j) (hk : Q k) : ∀ j, j < k + 1 → Q j := by
  intro j hj
  by_cases e : j = k
  · subst e; exact hk
  · exact h j (by omega)

/-- Is one of the two no place, or are both one? -/
def sameOrOut (P i o : Int) : Bool := decide (i = o ∨ i < 0 ∨ o < 0 ∨ P ≤ i ∨ P ≤ o)

set_option maxRecDepth 8000 in
set_option maxHeartbeats 4000000 in
theorem hwrong_any (v : Value) (n : NetL) (i o : Int) (w : World) (hv : Net w v n) (hsm : SmallNet n) :
    Calls Tryd.prog 36 #[v, .int .i64 i, .int .i64 o] w fun e w' => ∃ d, e = .returned (.int .i64 d) ∧ Judged n i o d ∧ Below w.heap.size w w' := by
  obtain ⟨tv, rfl, hT⟩ := hv
  obtain ⟨w0, Hw0⟩ : ∃ w0, Hid (w.alloc (.cells #[.int .i64 n.places, tv] 24) = w0) := ⟨_, rfl⟩
  have c : Below w.heap.size w w0 := by rw [← Hw0.out]; exact below_new _ _
  have hbx : Box2 w0 w.heap.size (.int .i64 n.places) tv := by rw [← Hw0.out]; exact box2_new w _ tv 24
  have hv : Net w0 (.agg #[.int .i64 n.places, tv]) n := ⟨_, rfl, hT.below c⟩
  clear hT
  obtain ⟨x0, x1, x2⟩ := id hbx
  go_enter Tryd.func36, Tryd.ntmps36
  go_upto_region 1 with fail
  rw [Hw0.out]
  clear Hw0
  go_wp2_with fail
  clear x0 x1 x2
  refine (bwrong_any _ n _ (by exact hv) hsm).mono ?_
  rintro e w1 ⟨rfl, b⟩
  replace hbx := hbx.below b
  replace hv := hv.below b
  replace c := below_then c b
  clear b
  cases hok : netOk n
  · rw [wrongL_not hok]
    go_wp2
    go_ret
    exact ⟨_, rfl, Judged.of_bad hok, c⟩
  · rw [wrongL_ok hok]
    obtain ⟨x0, x1, x2⟩ := id hbx
    obtain ⟨P, HP⟩ : ∃ P, Hid (n.places = P) := ⟨_, rfl⟩
    rw [HP.out] at x1
    go_upto_region 3 with fail
    go_cut [33] (fun a wc => a = .bool (sameOrOut P i o) ∧ wc = w1)
    case first =>
      clear hv hbx hok HP
      rcases Int.lt_trichotomy i o with h | h | h
      · by_cases h1 : i < 0
        · have F : Hid (sameOrOut P i o = true) := decide_eq_true (by omega)
          go_wp2_with fail
          go_meet
          exact ⟨by rw [F.out], rfl⟩
        · by_cases h2 : P ≤ o
          · have F : Hid (sameOrOut P i o = true) := decide_eq_true (by omega)
            have e1 : ¬ i = o := by omega
            go_wp2_with fail
            go_meet
            exact ⟨by rw [F.out], rfl⟩
          · have F : Hid (sameOrOut P i o = false) := decide_eq_false (by omega)
            have e1 : ¬ i = o := by omega
            go_wp2_with fail
            go_meet
            exact ⟨by rw [F.out]; simp [e1], rfl⟩
      · subst h
        have F : Hid (sameOrOut P i i = true) := decide_eq_true (.inl rfl)
        go_wp2_with fail
        go_meet
        exact ⟨by rw [F.out], rfl⟩
      · by_cases h1 : o < 0
        · have F : Hid (sameOrOut P i o = true) := decide_eq_true (by omega)
          have e1 : ¬ i = o := by omega
          go_wp2_with fail
          go_meet
          exact ⟨by rw [F.out], rfl⟩
        · by_cases h2 : P ≤ i
          · have F : Hid (sameOrOut P i o = true) := decide_eq_true (by omega)
            have e1 : ¬ i = o := by omega
            go_wp2_with fail
            go_meet
            exact ⟨by rw [F.out], rfl⟩
          · have F : Hid (sameOrOut P i o = false) := decide_eq_false (by omega)
            have e1 : ¬ i = o := by omega
            go_wp2_with fail
            go_meet
            exact ⟨by rw [F.out]; simp [e1], rfl⟩
    case rest =>
      clear x0 x1 x2
      obtain ⟨rfl, rfl⟩ := hcut
      obtain ⟨w1, rfl⟩ : ∃ w1, w1 = wc := ⟨_, rfl⟩
      cases hso : sameOrOut P i o
      · have hso' := of_decide_eq_false hso
        clear hso
        obtain ⟨fi, rfl⟩ : ∃ k : Nat, i = k := Int.eq_ofNat_of_zero_le (by omega)
        obtain ⟨fo, rfl⟩ : ∃ k : Nat, o = k := Int.eq_ofNat_of_zero_le (by omega)
        have hi : (fi : Int) < n.places := by have := HP.out; omega
        have ho : (fo : Int) < n.places := by have := HP.out; omega
        have HSh : Hid _ := shape_iff hok hi ho (by omega)
        obtain ⟨P0, P16, T24⟩ := head_of hok
        obtain ⟨N, HN⟩ : ∃ N : Nat, Hid (n.places = N) := ⟨n.places.toNat, by show _ = _; omega⟩
        have hNn : n.places.toNat = N := by have := HN.out; omega
        have HLn : Hid (∀ k, k < n.trans.length → (tranAt n.trans k).pre.length = N ∧ (tranAt n.trans k).post.length = N) := fun k hk => by have := tran_length hok hk; omega
        have hiN : fi < N := by have := HN.out; omega
        have hoN : fo < N := by have := HN.out; omega
        have hN16 : N ≤ 16 := by have := HN.out; omega
        clear hso'
        obtain ⟨x0, x1, x2⟩ := id hbx
        go_wp2_with fail
        clear x0 x1 x2
        refine (hways_any _ n fi _ (by exact hv) hok hi).mono ?_
        rintro e w2 ⟨av, bv, rfl, ⟨hA1, hA2⟩, b⟩
        replace hbx := hbx.below b
        replace hv := hv.below b
        replace c := below_then c b
        clear b
        obtain ⟨x0, x1, x2⟩ := id hbx
        go_wp2_with fail
        clear x0 x1 x2
        refine (bturned_any _ n _ (by exact hv)).mono ?_
        rintro e w3 ⟨r, rfl, hr, b⟩
        replace hbx := hbx.below b
        replace hv := hv.below b
        replace hA1 := hA1.below b
        replace hA2 := hA2.below b
        replace c := below_then c b
        clear b
        go_wp2_with fail
        refine (hways_any r (turnL n) fo _ hr (by rw [turn_ok_iff]; exact hok) ho).mono ?_
        rintro e w4 ⟨cv, dv, rfl, ⟨hC1, hC2⟩, b⟩
        replace hbx := hbx.below b
        replace hv := hv.below b
        replace hA1 := hA1.below b
        replace hA2 := hA2.below b
        replace c := below_then c b
        clear b hr
        rw [turn_count] at hC2
        replace hC1 : BoolsV w4 cv n.places.toNat (waysL (turnL n) fo).ps := hC1
        rw [hNn] at hA1 hC1 HSh
        have hJ1 : Hid (¬ ShapeOk n fi fo → Judged n fi fo 1) := fun q => Judged.of_form hok q
        have hJ0 : Hid (ShapeOk n fi fo → Judged n fi fo 0) := Judged.of_right
        obtain ⟨tv2, e, hT⟩ := hv
        obtain rfl : tv = tv2 := by injection e with e; simpa using e
        clear e
        obtain ⟨ta, T, tcap, rfl, hTl, _, _, _⟩ := id hT
        rw [hTl] at hA2 hC2 HSh HLn
        generalize (waysL n fi).ps = ap at *
        generalize (waysL n fi).ts = at' at *
        generalize (waysL (turnL n) fo).ps = cp at *
        generalize (waysL (turnL n) fo).ts = ct at *
        rw [HN.out] at hbx
        obtain ⟨BA, rfl, lA, cA⟩ := hA1
        obtain ⟨BB, rfl, lB, cB⟩ := hA2
        obtain ⟨BC, rfl, lC, cC⟩ := hC1
        obtain ⟨BD, rfl, lD, cD⟩ := hC2
        have HT : Hid (Trans w4 (.slice ta T tcap) n.trans) := hT
        obtain ⟨x0, x1, x2⟩ := id hbx
        go_wp2_with fail
        clear x1
        go_loop [49] (fun a => ∃ k : Nat, k ≤ N ∧ a = .int .i64 k ∧ Hid (∀ p, p < k → ap p = true ∧ cp p = true)) (fun a => N - (intOf a).toNat)
        case atStart => exact ⟨0, Nat.zero_le _, rfl, fun j hj => absurd hj (Nat.not_lt_zero _)⟩
        case round =>
          obtain ⟨k, hk, rfl, hQ⟩ := hrel
          by_cases hkn : k < N
          · have d1 := cA k hkn
            have d2 := cC k hkn
            have Hno : Hid (¬ (ap k = true ∧ cp k = true) → ¬ ShapeOk n fi fo) := fun q h => q ((HSh.out.1 h).1 k hkn)
            have Hst : Hid (ap k = true ∧ cp k = true → ∀ p, p < k + 1 → ap p = true ∧ cp p = true) := fun q => below_le (n := 0) hQ.out q
            clear hQ HSh cA cB cC cD
            generalize ap k = x at *
            generalize cp k = y at *
            cases x
            · have J := hJ1.out (Hno.out (by simp))
              clear Hno Hst hJ1 hJ0
              go_wp2
              go_ret
              exact ⟨_, rfl, J, c⟩
            · cases y
              · have J := hJ1.out (Hno.out (by simp))
                clear Hno Hst hJ1 hJ0
                go_wp2
                go_ret
                exact ⟨_, rfl, J, c⟩
              · have R : Hid _ := Hst.out ⟨rfl, rfl⟩
                clear Hno Hst hJ1 hJ0
                go_wp2
                go_round
                case rel => exact ⟨k + 1, by omega, by go_num, R⟩
                case measure => simp [intOf]; omega
          · obtain rfl : k = N := by omega
            go_wp2_with fail
            clear x0 x2 lA lC cA cC hT hbx
            have hQ1 := hQ
            go_loopw [68] (fun a wr => ∃ j : Nat, j ≤ T ∧ a = .int .i64 j ∧ Hid (∀ q, q < j → (at' q = true ∧ ct q = true) ∧ nth (tranAt n.trans q).post fi = 0 ∧ nth (tranAt n.trans q).pre fo = 0) ∧ Below w4.heap.size w4 wr) (fun a _ => T - (intOf a).toNat)
            case atStart => exact ⟨0, Nat.zero_le _, rfl, fun j hj => absurd hj (Nat.not_lt_zero _), Below.refl _ _⟩
            case round =>
              obtain ⟨j, hj, rfl, hR, hbr⟩ := hrel
              by_cases hjn : j < T
              · obtain ⟨b, off, c1, c2, rfl, hblt, h0, h1, h2, i1, i2⟩ := (Trans.below HT.out hbr).at hjn
                obtain ⟨a1, l1, p1, rfl, hl1, _, _, hr1⟩ := i1
                obtain ⟨a2, l2, p2, rfl, hl2, _, _, hr2⟩ := i2
                obtain ⟨q1, q2⟩ := HLn.out j hjn
                obtain rfl : k = l1 := by omega
                obtain rfl : k = l2 := by omega
                obtain ⟨b1, o1, rfl, hb1, hc1⟩ := hr1 fo (by omega)
                obtain ⟨b2, o2, rfl, hb2, hc2⟩ := hr2 fi (by omega)
                have d1 := (hbr.cell (p := ⟨BB, j, none⟩) lB).trans (cB j hjn)
                have d2 := (hbr.cell (p := ⟨BD, j, none⟩) lD).trans (cD j hjn)
                have Hno : Hid (¬ ((at' j = true ∧ ct j = true) ∧ nth (tranAt n.trans j).post fi = 0 ∧ nth (tranAt n.trans j).pre fo = 0) → ¬ ShapeOk n fi fo) := fun q h => q ((HSh.out.1 h).2 j hjn)
                have Hst : Hid ((at' j = true ∧ ct j = true) ∧ nth (tranAt n.trans j).post fi = 0 ∧ nth (tranAt n.trans j).pre fo = 0 → ∀ q, q < j + 1 → (at' q = true ∧ ct q = true) ∧ nth (tranAt n.trans q).post fi = 0 ∧ nth (tranAt n.trans q).pre fo = 0) := fun q => below_le (n := 0) hR.out q
                clear hR HSh cB cD hr1 hr2 HLn hQ hQ1
                generalize tranAt n.trans j = t at *
                obtain ⟨wt, Hwt⟩ : ∃ wt, Hid (wr.alloc (.cells #[.int .i64 t.label, .slice (some ⟨b1, o1, none⟩) k p1, .slice (some ⟨b2, o2, none⟩) k p2] 37) = wt) := ⟨_, rfl⟩
                have hbn := below_new wr (.cells #[.int .i64 t.label, .slice (some ⟨b1, o1, none⟩) k p1, .slice (some ⟨b2, o2, none⟩) k p2] 37)
                have hbx3 := box3_new wr (.int .i64 t.label) (.slice (some ⟨b1, o1, none⟩) k p1) (.slice (some ⟨b2, o2, none⟩) k p2) 37
                rw [Hwt.out] at hbn hbx3
                replace hc1 := (hbn.cell (p := ⟨b1, o1 + fo, none⟩) hb1).trans hc1
                replace hc2 := (hbn.cell (p := ⟨b2, o2 + fi, none⟩) hb2).trans hc2
                replace d1 := (hbn.cell (p := ⟨BB, j, none⟩) (Nat.lt_of_lt_of_le lB hbr.size)).trans d1
                replace d2 := (hbn.cell (p := ⟨BD, j, none⟩) (Nat.lt_of_lt_of_le lD hbr.size)).trans d2
                have hbr2 := below_then hbr hbn
                obtain ⟨y0, y1, y2, y3⟩ := hbx3
                go_upto_region 16 with fail
                rw [Hwt.out]
                clear Hwt h0 h1 h2 hbn
                generalize nth t.post fi = x at *
                generalize nth t.pre fo = y at *
                generalize at' j = s1 at *
                generalize ct j = s2 at *
                cases s1
                · have J := hJ1.out (Hno.out (by simp))
                  clear Hno Hst hJ1 hJ0
                  go_wp2
                  go_ret
                  exact ⟨_, rfl, J, below_then c hbr2⟩
                · cases s2
                  · have J := hJ1.out (Hno.out (by simp))
                    clear Hno Hst hJ1 hJ0
                    go_wp2
                    go_ret
                    exact ⟨_, rfl, J, below_then c hbr2⟩
                  · by_cases hx : x = 0
                    · by_cases hy : y = 0
                      · have R : Hid _ := Hst.out ⟨⟨rfl, rfl⟩, hx, hy⟩
                        clear Hno Hst hJ1 hJ0
                        subst hx hy
                        go_wp2
                        go_roundw
                        case rel => exact ⟨j + 1, by omega, by go_num, R, hbr2⟩
                        case measure => simp [intOf]; omega
                      · have J := hJ1.out (Hno.out (fun q => hy q.2.2))
                        have hyb : (y != 0) = true := by simpa using hy
                        clear Hno Hst hJ1 hJ0
                        subst hx
                        go_wp2
                        go_ret
                        exact ⟨_, rfl, J, below_then c hbr2⟩
                    · have J := hJ1.out (Hno.out (fun q => hx q.2.1))
                      have hxb : (x != 0) = true := by simpa using hx
                      clear Hno Hst hJ1 hJ0
                      go_wp2
                      go_ret
                      exact ⟨_, rfl, J, below_then c hbr2⟩
              · obtain rfl : j = T := by omega
                have J := hJ0.out (HSh.out.2 ⟨hQ1.out, hR.out⟩)
                go_wp2
                go_ret
                exact ⟨_, rfl, J, below_then c hbr⟩
      · have hso' := of_decide_eq_true hso
        have hJ : Hid (Judged n i o 1) := Judged.of_form hok (fun q => by have := HP.out; have := q.ne; have := q.i0; have := q.i1; have := q.o0; have := q.o1; omega)
        clear hso hso' HP
        go_wp2
        go_ret
        exact ⟨_, rfl, hJ.out, c⟩

end Go.Proofs.YteoofibhpifmlaaDoor
