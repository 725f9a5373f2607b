import Derived.Test.YtffaamljogbmlaaGr13
import Derived.Test.YtffaamljogbmlaaGr15
import Derived.Test.YtffaamljogbmlaaGr05
/- Package cases as it landed: Do. (Made by tools/gen_casedev3.py.) -/
namespace Go.Proofs.Ytffaamljogbmlaa
open Go.RowKit
set_option linter.unusedVariables false
set_option linter.unusedSimpArgs false
set_option maxRecDepth 4000

theorem skipping_any (tv : Value) (n : NetL) (w : World) : Calls Try.prog 57 #[.agg #[.int .i64 n.places, tv]] w fun e w' => ∃ bn, e = .returned (.func (.func 67) #[] #[.pointer (some ⟨bn, 0, none⟩)]) ∧ Box2 w' bn (.int .i64 n.places) tv ∧ Below w.heap.size w w' := by
  have b1 := below_new w (.cells #[.int .i64 n.places, tv] 24)
  have hbx := box2_new w (.int .i64 n.places) tv 24
  obtain ⟨w0, Hw0⟩ : ∃ w0, Hid (w.alloc (.cells #[.int .i64 n.places, tv] 24) = w0) := ⟨_, rfl⟩
  rw [Hw0.out] at b1 hbx
  have hmf : ∀ (fn : Fn) (first cap : Array Value) (w : World), (Instr.makeFunc fn first cap).run Try.prog w = .ok (.func fn first cap) w := fun _ _ _ _ => rfl
  go_enter Try.func57, Try.ntmps57
  go_upto_region 1 with fail
  rw [Hw0.out]
  go_wp2
  go_ret
  exact ⟨_, rfl, hbx, b1⟩

theorem beginning_any (tv : Value) (n : NetL) (w : World) : Calls Try.prog 58 #[.agg #[.int .i64 n.places, tv]] w fun e w' => ∃ bn, e = .returned (.func (.func 68) #[] #[.pointer (some ⟨bn, 0, none⟩)]) ∧ Box2 w' bn (.int .i64 n.places) tv ∧ Below w.heap.size w w' := by
  have b1 := below_new w (.cells #[.int .i64 n.places, tv] 24)
  have hbx := box2_new w (.int .i64 n.places) tv 24
  obtain ⟨w0, Hw0⟩ : ∃ w0, Hid (w.alloc (.cells #[.int .i64 n.places, tv] 24) = w0) := ⟨_, rfl⟩
  rw [Hw0.out] at b1 hbx
  have hmf : ∀ (fn : Fn) (first cap : Array Value) (w : World), (Instr.makeFunc fn first cap).run Try.prog w = .ok (.func fn first cap) w := fun _ _ _ _ => rfl
  go_enter Try.func58, Try.ntmps58
  go_upto_region 1 with fail
  rw [Hw0.out]
  go_wp2
  go_ret
  exact ⟨_, rfl, hbx, b1⟩

theorem leaving_any (tv : Value) (G : Nat) (n : NetL) (w : World) : Calls Try.prog 59 #[.agg #[.int .i64 n.places, tv], .func (.func G) #[] #[]] w fun e w' => ∃ bn bp, e = .returned (.func (.func 70) #[] #[.pointer (some ⟨bn, 0, none⟩), .pointer (some ⟨bp, 0, none⟩)]) ∧ Box2 w' bn (.int .i64 n.places) tv ∧ bp < w'.heap.size ∧ w'.cell? ⟨bp, 0, none⟩ = some (.func (.func G) #[] #[]) ∧ Below w.heap.size w w' := by
  have b1 := below_new w (.cells #[.int .i64 n.places, tv] 24)
  have hbx := box2_new w (.int .i64 n.places) tv 24
  have b2 := below_new (w.alloc (.cells #[.int .i64 n.places, tv] 24)) (.cells #[.func (.func G) #[] #[]] 79)
  have hb2 := box1_new (w.alloc (.cells #[.int .i64 n.places, tv] 24)) (.func (.func G) #[] #[]) 79
  obtain ⟨w0, Hw0⟩ : ∃ w0, Hid ((w.alloc (.cells #[.int .i64 n.places, tv] 24)).alloc (.cells #[.func (.func G) #[] #[]] 79) = w0) := ⟨_, rfl⟩
  rw [Hw0.out] at b2 hb2
  replace hbx := hbx.below b2
  have c := below_then b1 b2
  have hsz : (w.alloc (.cells #[.int .i64 n.places, tv] 24)).heap.size = w.heap.size + 1 := by simp
  rw [hsz] at hb2
  clear hsz b1 b2
  have hmf : ∀ (fn : Fn) (first cap : Array Value) (w : World), (Instr.makeFunc fn first cap).run Try.prog w = .ok (.func fn first cap) w := fun _ _ _ _ => rfl
  go_enter Try.func59, Try.ntmps59
  go_upto_region 1 with fail
  rw [Hw0.out]
  go_wp2
  go_ret
  exact ⟨_, _, rfl, hbx, hb2.1, hb2.2, c⟩

theorem workof_1 (tv : Value) (n : NetL) (w : World) : Calls Try.prog 49 #[.agg #[.int .i64 n.places, tv], .int .i64 1] w fun e w' => ∃ bn, e = .returned (.func (.func 67) #[] #[.pointer (some ⟨bn, 0, none⟩)]) ∧ Box2 w' bn (.int .i64 n.places) tv ∧ Below w.heap.size w w' := by
  have b1 := below_new w (.cells #[.int .i64 n.places, tv] 24)
  have hbx := box2_new w (.int .i64 n.places) tv 24
  obtain ⟨w0, Hw0⟩ : ∃ w0, Hid (w.alloc (.cells #[.int .i64 n.places, tv] 24) = w0) := ⟨_, rfl⟩
  rw [Hw0.out] at b1 hbx
  obtain ⟨x0, x1, x2⟩ := id hbx
  go_enter Try.func49, Try.ntmps49
  go_upto_region 1 with fail
  rw [Hw0.out]
  clear Hw0
  go_wp2_with fail
  refine (skipping_any tv n w0).mono ?_
  rintro e w1 ⟨bn, rfl, hbN, b⟩
  replace b1 := below_then b1 b
  go_wp2
  go_ret
  exact ⟨bn, rfl, hbN, b1⟩

theorem workof_2 (tv : Value) (n : NetL) (w : World) : Calls Try.prog 49 #[.agg #[.int .i64 n.places, tv], .int .i64 2] w fun e w' => ∃ bn, e = .returned (.func (.func 68) #[] #[.pointer (some ⟨bn, 0, none⟩)]) ∧ Box2 w' bn (.int .i64 n.places) tv ∧ Below w.heap.size w w' := by
  have b1 := below_new w (.cells #[.int .i64 n.places, tv] 24)
  have hbx := box2_new w (.int .i64 n.places) tv 24
  obtain ⟨w0, Hw0⟩ : ∃ w0, Hid (w.alloc (.cells #[.int .i64 n.places, tv] 24) = w0) := ⟨_, rfl⟩
  rw [Hw0.out] at b1 hbx
  obtain ⟨x0, x1, x2⟩ := id hbx
  go_enter Try.func49, Try.ntmps49
  go_upto_region 1 with fail
  rw [Hw0.out]
  clear Hw0
  go_wp2_with fail
  refine (beginning_any tv n w0).mono ?_
  rintro e w1 ⟨bn, rfl, hbN, b⟩
  replace b1 := below_then b1 b
  go_wp2
  go_ret
  exact ⟨bn, rfl, hbN, b1⟩

theorem workof_3 (tv : Value) (n : NetL) (w : World) : Calls Try.prog 49 #[.agg #[.int .i64 n.places, tv], .int .i64 3] w fun e w' => ∃ bn bp, e = .returned (.func (.func 70) #[] #[.pointer (some ⟨bn, 0, none⟩), .pointer (some ⟨bp, 0, none⟩)]) ∧ Box2 w' bn (.int .i64 n.places) tv ∧ bp < w'.heap.size ∧ w'.cell? ⟨bp, 0, none⟩ = some (.func (.func 60) #[] #[]) ∧ Below w.heap.size w w' := by
  have b1 := below_new w (.cells #[.int .i64 n.places, tv] 24)
  have hbx := box2_new w (.int .i64 n.places) tv 24
  obtain ⟨w0, Hw0⟩ : ∃ w0, Hid (w.alloc (.cells #[.int .i64 n.places, tv] 24) = w0) := ⟨_, rfl⟩
  rw [Hw0.out] at b1 hbx
  obtain ⟨x0, x1, x2⟩ := id hbx
  go_enter Try.func49, Try.ntmps49
  go_upto_region 1 with fail
  rw [Hw0.out]
  clear Hw0
  go_wp2_with fail
  refine (leaving_any tv 60 n w0).mono ?_
  rintro e w1 ⟨bn, bp, rfl, hbN, hpl, hp0, b⟩
  replace b1 := below_then b1 b
  go_wp2
  go_ret
  exact ⟨bn, bp, rfl, hbN, hpl, hp0, b1⟩

theorem workof_4 (tv : Value) (n : NetL) (w : World) : Calls Try.prog 49 #[.agg #[.int .i64 n.places, tv], .int .i64 4] w fun e w' => ∃ bn bp, e = .returned (.func (.func 70) #[] #[.pointer (some ⟨bn, 0, none⟩), .pointer (some ⟨bp, 0, none⟩)]) ∧ Box2 w' bn (.int .i64 n.places) tv ∧ bp < w'.heap.size ∧ w'.cell? ⟨bp, 0, none⟩ = some (.func (.func 61) #[] #[]) ∧ Below w.heap.size w w' := by
  have b1 := below_new w (.cells #[.int .i64 n.places, tv] 24)
  have hbx := box2_new w (.int .i64 n.places) tv 24
  obtain ⟨w0, Hw0⟩ : ∃ w0, Hid (w.alloc (.cells #[.int .i64 n.places, tv] 24) = w0) := ⟨_, rfl⟩
  rw [Hw0.out] at b1 hbx
  obtain ⟨x0, x1, x2⟩ := id hbx
  go_enter Try.func49, Try.ntmps49
  go_upto_region 1 with fail
  rw [Hw0.out]
  clear Hw0
  go_wp2_with fail
  refine (leaving_any tv 61 n w0).mono ?_
  rintro e w1 ⟨bn, bp, rfl, hbN, hpl, hp0, b⟩
  replace b1 := below_then b1 b
  go_wp2
  go_ret
  exact ⟨bn, bp, rfl, hbN, hpl, hp0, b1⟩

theorem workof_none (tv : Value) (n : NetL) (kd : Int) (w : World) (hk : kd < 1 ∨ 4 < kd) : Calls Try.prog 49 #[.agg #[.int .i64 n.places, tv], .int .i64 kd] w fun e w' => e = .returned .nilFunc ∧ Below w.heap.size w w' := by
  have h1 : (kd == 1) = false := by rw [beq_eq_false_iff_ne]; omega
  have h2 : (kd == 2) = false := by rw [beq_eq_false_iff_ne]; omega
  have h3 : (kd == 3) = false := by rw [beq_eq_false_iff_ne]; omega
  have h4 : (kd == 4) = false := by rw [beq_eq_false_iff_ne]; omega
  clear hk
  have b1 := below_new w (.cells #[.int .i64 n.places, tv] 24)
  have hbx := box2_new w (.int .i64 n.places) tv 24
  obtain ⟨w0, Hw0⟩ : ∃ w0, Hid (w.alloc (.cells #[.int .i64 n.places, tv] 24) = w0) := ⟨_, rfl⟩
  rw [Hw0.out] at b1 hbx
  obtain ⟨x0, x1, x2⟩ := id hbx
  go_enter Try.func49, Try.ntmps49
  go_upto_region 1 with fail
  rw [Hw0.out]
  clear Hw0
  go_wp2
  go_ret
  exact ⟨rfl, b1⟩

set_option maxHeartbeats 4000000 in
theorem done_1 (v u : Value) (n : NetL) (c : CaseL) (t : Int) (w : World) (hv : Net w v n) (hu : CaseV w u c) (hr : rightC n c = true) :
    Calls Try.prog 31 #[v, u, .agg #[.int .i64 1, .int .i64 t]] w fun e w' => GivesCF w (doC n c 1 t) e w' := by
  obtain ⟨tv, rfl, hT⟩ := hv
  obtain ⟨a, l, p, a', l', p', rfl, h1, h2⟩ := hu
  obtain ⟨ta, len, tc, rfl, hlen, hmx, _⟩ := id hT
  obtain ⟨w0, Hw0, hbn, hbc, hbo, hR, c0⟩ := do_boxes w (.int .i64 n.places) (.slice ta len tc) (.slice a l p) (.slice a' l' p') (.int .i64 1) (.int .i64 t)
  have HL : Hid (n.trans.length = len) := hlen
  have Hr : Hid (rightC n c = true) := hr
  replace hT := hT.below c0
  replace h1 := h1.below c0
  replace h2 := h2.below c0
  clear hlen hr
  obtain ⟨x0, x1, x2⟩ := id hbn
  obtain ⟨y0, y1, y2⟩ := id hbc
  obtain ⟨o0, o1, o2⟩ := id hbo
  have hq : ∀ (w : World) (fn : Fn) (x y : Array Value), (binOp .eql 70 (.func fn x y) .nilFunc).run Try.prog w = .ok (.bool false) w := fun w fn x y => by kernel_rfl
  have hq0 : ∀ (w : World), (binOp .eql 70 .nilFunc .nilFunc).run Try.prog w = .ok (.bool true) w := fun w => by kernel_rfl
  go_enter Try.func31, Try.ntmps31
  go_upto_region 1 with fail
  rw [Hw0.out]
  clear Hw0
  go_wp2_with fail
  refine (workof_1 (.slice ta len tc) n w0).mono ?_
  rintro e w1 ⟨bn, rfl, hbN, b⟩
  replace c0 := below_then c0 b
  replace h1 := h1.below b
  replace h2 := h2.below b
  replace hT := hT.below b
  replace hbn := hbn.below b
  replace hbc := hbc.below b
  replace hbo := hbo.below b
  replace hR := hR.below b
  clear b x0 x1 x2 y0 y1 y2 o0 o1 o2
  obtain ⟨x0, x1, x2⟩ := id hbn
  obtain ⟨y0, y1, y2⟩ := id hbc
  obtain ⟨o0, o1, o2⟩ := id hbo
  have Hk : Hid (¬ (((1 : Int)) < 1 ∨ 4 < ((1 : Int)))) := by show ¬ _; omega
  by_cases ht0 : t < 0
  · have E : Hid (doC n c 1 t = (noCase, 3)) := do_none Hr.out Hk.out (.inl ht0)
    obtain ⟨q1, q2, q3, q4, q5⟩ := hR.facts
    obtain ⟨W2, HW2⟩ : ∃ W2, Hid ((w1.setCell ⟨w.heap.size + 1 + 1 + 1, 0, none⟩ (.slice none 0 0)).setCell ⟨w.heap.size + 1 + 1 + 1, 1, none⟩ (.slice none 0 0) = W2) := ⟨_, rfl⟩
    obtain ⟨z1, z2, z3, z4⟩ := hR.fill c0 (by omega) HW2.out (Ints.nil _) (Ints.nil _)
    go_wp2
    rw [HW2.out]
    exact bodyPost_ret (v := .tuple #[.agg #[.slice none 0 0, .slice none 0 0], .int .i64 3]) (results_case rfl rfl rfl z1 z2) rfl (givesCF_of E.out z3 (CaseFrom.none _) z4)
  · obtain ⟨k, rfl⟩ := Int.eq_ofNat_of_zero_le (show 0 ≤ t by omega)
    have ht0' : decide ((k : Int) < 0) = false := decide_eq_false (by omega)
    clear ht0
    by_cases hk : k < len
    · obtain ⟨tb, tf, d1, d2, rfl, hblt, t0, t1, t2, i1, i2⟩ := hT.at hk
      have HK : Hid (k < n.trans.length) := by show _ < _; rw [HL.out]; exact hk
      obtain ⟨L, HLb⟩ : ∃ L, Hid ((tranAt n.trans k).label = L) := ⟨_, rfl⟩
      rw [HLb.out] at t0
      go_upto_region 6 with fail
      go_quiet (fail)
      have b := below_drewN (Below.refl w1.heap.size w1) nq
      obtain ⟨w2, H2⟩ : ∃ w2, Hid (w1.drewN nq = w2) := ⟨_, rfl⟩
      rw [H2.out] at b ⊢
      clear H2 t0 t1 t2 i1 i2 hblt
      replace c0 := below_then c0 b
      replace h1 := h1.below b
      replace h2 := h2.below b
      replace hT := hT.below b
      replace hbn := hbn.below b
      replace hbc := hbc.below b
      replace hbo := hbo.below b
      replace hR := hR.below b
      replace hbN := hbN.below b
      clear b x0 x1 x2 y0 y1 y2 o0 o1 o2
      obtain ⟨x0, x1, x2⟩ := id hbn
      obtain ⟨y0, y1, y2⟩ := id hbc
      obtain ⟨o0, o1, o2⟩ := id hbo
      by_cases hL : L = 0
      · subst hL
        have hL : (0 : Int) = 0 := rfl
        go_wp2_with fail
        refine (work_skip _ _ bn n c k w2 hbN hT (by exact ⟨_, _, _, _, _, _, rfl, h1, h2⟩) Hr.out HK.out (by rw [HLb.out])).mono ?_
        rintro e w3 ⟨r, rfl, hC, hCF, b⟩
        replace hCF := hCF.mono c0.size
        obtain ⟨ra, rl, rc, ra2, rl2, rc2, rfl, hI, hI2⟩ := hC
        replace c0 := below_then c0 b
        replace hR := hR.below b
        clear b x0 x1 x2 y0 y1 y2 o0 o1 o2 h1 h2 hT hbn hbc hbo
        obtain ⟨q1, q2, q3, q4, q5⟩ := hR.facts
        obtain ⟨W2, HW2⟩ : ∃ W2, Hid ((w3.setCell ⟨w.heap.size + 1 + 1 + 1, 0, none⟩ (.slice ra rl rc)).setCell ⟨w.heap.size + 1 + 1 + 1, 1, none⟩ (.slice ra2 rl2 rc2) = W2) := ⟨_, rfl⟩
        obtain ⟨z1, z2, z3, z4⟩ := hR.fill c0 (by omega) HW2.out hI hI2
        go_wp2
        rw [HW2.out]
        exact bodyPost_ret (v := .tuple #[.agg #[.slice ra rl rc, .slice ra2 rl2 rc2], .int .i64 (doC n c 1 k).2]) (results_case rfl rfl rfl z1 z2) rfl ⟨_, rfl, z3, hCF, z4⟩
      · have hL1 : (L == 0) = false := by simpa using hL
        rw [hL1]
        have E : Hid (doC n c 1 k = (noCase, 1)) := do_form Hr.out Hk.out HK.out (by rw [HLb.out]; simp [hL])
        obtain ⟨q1, q2, q3, q4, q5⟩ := hR.facts
        obtain ⟨W2, HW2⟩ : ∃ W2, Hid ((w2.setCell ⟨w.heap.size + 1 + 1 + 1, 0, none⟩ (.slice none 0 0)).setCell ⟨w.heap.size + 1 + 1 + 1, 1, none⟩ (.slice none 0 0) = W2) := ⟨_, rfl⟩
        obtain ⟨z1, z2, z3, z4⟩ := hR.fill c0 (by omega) HW2.out (Ints.nil _) (Ints.nil _)
        go_wp2
        rw [HW2.out]
        exact bodyPost_ret (v := .tuple #[.agg #[.slice none 0 0, .slice none 0 0], .int .i64 1]) (results_case rfl rfl rfl z1 z2) rfl (givesCF_of E.out z3 (CaseFrom.none _) z4)
    · have htl : (len : Int) ≤ (k : Int) := by omega
      have E : Hid (doC n c 1 k = (noCase, 3)) := do_none Hr.out Hk.out (.inr (by rw [HL.out]; exact htl))
      obtain ⟨q1, q2, q3, q4, q5⟩ := hR.facts
      obtain ⟨W2, HW2⟩ : ∃ W2, Hid ((w1.setCell ⟨w.heap.size + 1 + 1 + 1, 0, none⟩ (.slice none 0 0)).setCell ⟨w.heap.size + 1 + 1 + 1, 1, none⟩ (.slice none 0 0) = W2) := ⟨_, rfl⟩
      obtain ⟨z1, z2, z3, z4⟩ := hR.fill c0 (by omega) HW2.out (Ints.nil _) (Ints.nil _)
      go_wp2
      rw [HW2.out]
      exact bodyPost_ret (v := .tuple #[.agg #[.slice none 0 0, .slice none 0 0], .int .i64 3]) (results_case rfl rfl rfl z1 z2) rfl (givesCF_of E.out z3 (CaseFrom.none _) z4)

set_option maxHeartbeats 4000000 in
theorem done_2 (v u : Value) (n : NetL) (c : CaseL) (t : Int) (w : World) (hv : Net w v n) (hu : CaseV w u c) (hr : rightC n c = true) :
    Calls Try.prog 31 #[v, u, .agg #[.int .i64 2, .int .i64 t]] w fun e w' => GivesCF w (doC n c 2 t) e w' := by
  obtain ⟨tv, rfl, hT⟩ := hv
  obtain ⟨a, l, p, a', l', p', rfl, h1, h2⟩ := hu
  obtain ⟨ta, len, tc, rfl, hlen, hmx, _⟩ := id hT
  obtain ⟨w0, Hw0, hbn, hbc, hbo, hR, c0⟩ := do_boxes w (.int .i64 n.places) (.slice ta len tc) (.slice a l p) (.slice a' l' p') (.int .i64 2) (.int .i64 t)
  have HL : Hid (n.trans.length = len) := hlen
  have Hr : Hid (rightC n c = true) := hr
  replace hT := hT.below c0
  replace h1 := h1.below c0
  replace h2 := h2.below c0
  clear hlen hr
  obtain ⟨x0, x1, x2⟩ := id hbn
  obtain ⟨y0, y1, y2⟩ := id hbc
  obtain ⟨o0, o1, o2⟩ := id hbo
  have hq : ∀ (w : World) (fn : Fn) (x y : Array Value), (binOp .eql 70 (.func fn x y) .nilFunc).run Try.prog w = .ok (.bool false) w := fun w fn x y => by kernel_rfl
  have hq0 : ∀ (w : World), (binOp .eql 70 .nilFunc .nilFunc).run Try.prog w = .ok (.bool true) w := fun w => by kernel_rfl
  go_enter Try.func31, Try.ntmps31
  go_upto_region 1 with fail
  rw [Hw0.out]
  clear Hw0
  go_wp2_with fail
  refine (workof_2 (.slice ta len tc) n w0).mono ?_
  rintro e w1 ⟨bn, rfl, hbN, b⟩
  replace c0 := below_then c0 b
  replace h1 := h1.below b
  replace h2 := h2.below b
  replace hT := hT.below b
  replace hbn := hbn.below b
  replace hbc := hbc.below b
  replace hbo := hbo.below b
  replace hR := hR.below b
  clear b x0 x1 x2 y0 y1 y2 o0 o1 o2
  obtain ⟨x0, x1, x2⟩ := id hbn
  obtain ⟨y0, y1, y2⟩ := id hbc
  obtain ⟨o0, o1, o2⟩ := id hbo
  have Hk : Hid (¬ (((2 : Int)) < 1 ∨ 4 < ((2 : Int)))) := by show ¬ _; omega
  by_cases ht0 : t < 0
  · have E : Hid (doC n c 2 t = (noCase, 3)) := do_none Hr.out Hk.out (.inl ht0)
    obtain ⟨q1, q2, q3, q4, q5⟩ := hR.facts
    obtain ⟨W2, HW2⟩ : ∃ W2, Hid ((w1.setCell ⟨w.heap.size + 1 + 1 + 1, 0, none⟩ (.slice none 0 0)).setCell ⟨w.heap.size + 1 + 1 + 1, 1, none⟩ (.slice none 0 0) = W2) := ⟨_, rfl⟩
    obtain ⟨z1, z2, z3, z4⟩ := hR.fill c0 (by omega) HW2.out (Ints.nil _) (Ints.nil _)
    go_wp2
    rw [HW2.out]
    exact bodyPost_ret (v := .tuple #[.agg #[.slice none 0 0, .slice none 0 0], .int .i64 3]) (results_case rfl rfl rfl z1 z2) rfl (givesCF_of E.out z3 (CaseFrom.none _) z4)
  · obtain ⟨k, rfl⟩ := Int.eq_ofNat_of_zero_le (show 0 ≤ t by omega)
    have ht0' : decide ((k : Int) < 0) = false := decide_eq_false (by omega)
    clear ht0
    by_cases hk : k < len
    · obtain ⟨tb, tf, d1, d2, rfl, hblt, t0, t1, t2, i1, i2⟩ := hT.at hk
      have HK : Hid (k < n.trans.length) := by show _ < _; rw [HL.out]; exact hk
      obtain ⟨L, HLb⟩ : ∃ L, Hid ((tranAt n.trans k).label = L) := ⟨_, rfl⟩
      rw [HLb.out] at t0
      go_upto_region 6 with fail
      go_quiet (fail)
      have b := below_drewN (Below.refl w1.heap.size w1) nq
      obtain ⟨w2, H2⟩ : ∃ w2, Hid (w1.drewN nq = w2) := ⟨_, rfl⟩
      rw [H2.out] at b ⊢
      clear H2 t0 t1 t2 i1 i2 hblt
      replace c0 := below_then c0 b
      replace h1 := h1.below b
      replace h2 := h2.below b
      replace hT := hT.below b
      replace hbn := hbn.below b
      replace hbc := hbc.below b
      replace hbo := hbo.below b
      replace hR := hR.below b
      replace hbN := hbN.below b
      clear b x0 x1 x2 y0 y1 y2 o0 o1 o2
      obtain ⟨x0, x1, x2⟩ := id hbn
      obtain ⟨y0, y1, y2⟩ := id hbc
      obtain ⟨o0, o1, o2⟩ := id hbo
      by_cases hL : L = 0
      · subst hL
        have E : Hid (doC n c 2 k = (noCase, 1)) := do_form Hr.out Hk.out HK.out (by rw [HLb.out]; simp)
        obtain ⟨q1, q2, q3, q4, q5⟩ := hR.facts
        obtain ⟨W2, HW2⟩ : ∃ W2, Hid ((w2.setCell ⟨w.heap.size + 1 + 1 + 1, 0, none⟩ (.slice none 0 0)).setCell ⟨w.heap.size + 1 + 1 + 1, 1, none⟩ (.slice none 0 0) = W2) := ⟨_, rfl⟩
        obtain ⟨z1, z2, z3, z4⟩ := hR.fill c0 (by omega) HW2.out (Ints.nil _) (Ints.nil _)
        go_wp2
        rw [HW2.out]
        exact bodyPost_ret (v := .tuple #[.agg #[.slice none 0 0, .slice none 0 0], .int .i64 1]) (results_case rfl rfl rfl z1 z2) rfl (givesCF_of E.out z3 (CaseFrom.none _) z4)
      · have hL1 : (L == 0) = false := by simpa using hL
        rw [hL1]
        go_wp2_with fail
        refine (work_begin _ _ bn n c k w2 hbN hT (by exact ⟨_, _, _, _, _, _, rfl, h1, h2⟩) Hr.out HK.out (by rw [HLb.out]; exact hL)).mono ?_
        rintro e w3 ⟨r, rfl, hC, hCF, b⟩
        replace hCF := hCF.mono c0.size
        obtain ⟨ra, rl, rc, ra2, rl2, rc2, rfl, hI, hI2⟩ := hC
        replace c0 := below_then c0 b
        replace hR := hR.below b
        clear b x0 x1 x2 y0 y1 y2 o0 o1 o2 h1 h2 hT hbn hbc hbo
        obtain ⟨q1, q2, q3, q4, q5⟩ := hR.facts
        obtain ⟨W2, HW2⟩ : ∃ W2, Hid ((w3.setCell ⟨w.heap.size + 1 + 1 + 1, 0, none⟩ (.slice ra rl rc)).setCell ⟨w.heap.size + 1 + 1 + 1, 1, none⟩ (.slice ra2 rl2 rc2) = W2) := ⟨_, rfl⟩
        obtain ⟨z1, z2, z3, z4⟩ := hR.fill c0 (by omega) HW2.out hI hI2
        go_wp2
        rw [HW2.out]
        exact bodyPost_ret (v := .tuple #[.agg #[.slice ra rl rc, .slice ra2 rl2 rc2], .int .i64 (doC n c 2 k).2]) (results_case rfl rfl rfl z1 z2) rfl ⟨_, rfl, z3, hCF, z4⟩
    · have htl : (len : Int) ≤ (k : Int) := by omega
      have E : Hid (doC n c 2 k = (noCase, 3)) := do_none Hr.out Hk.out (.inr (by rw [HL.out]; exact htl))
      obtain ⟨q1, q2, q3, q4, q5⟩ := hR.facts
      obtain ⟨W2, HW2⟩ : ∃ W2, Hid ((w1.setCell ⟨w.heap.size + 1 + 1 + 1, 0, none⟩ (.slice none 0 0)).setCell ⟨w.heap.size + 1 + 1 + 1, 1, none⟩ (.slice none 0 0) = W2) := ⟨_, rfl⟩
      obtain ⟨z1, z2, z3, z4⟩ := hR.fill c0 (by omega) HW2.out (Ints.nil _) (Ints.nil _)
      go_wp2
      rw [HW2.out]
      exact bodyPost_ret (v := .tuple #[.agg #[.slice none 0 0, .slice none 0 0], .int .i64 3]) (results_case rfl rfl rfl z1 z2) rfl (givesCF_of E.out z3 (CaseFrom.none _) z4)

set_option maxHeartbeats 4000000 in
theorem done_3 (v u : Value) (n : NetL) (c : CaseL) (t : Int) (w : World) (hv : Net w v n) (hu : CaseV w u c) (hr : rightC n c = true) :
    Calls Try.prog 31 #[v, u, .agg #[.int .i64 3, .int .i64 t]] w fun e w' => GivesCF w (doC n c 3 t) e w' := by
  obtain ⟨tv, rfl, hT⟩ := hv
  obtain ⟨a, l, p, a', l', p', rfl, h1, h2⟩ := hu
  obtain ⟨ta, len, tc, rfl, hlen, hmx, _⟩ := id hT
  obtain ⟨w0, Hw0, hbn, hbc, hbo, hR, c0⟩ := do_boxes w (.int .i64 n.places) (.slice ta len tc) (.slice a l p) (.slice a' l' p') (.int .i64 3) (.int .i64 t)
  have HL : Hid (n.trans.length = len) := hlen
  have Hr : Hid (rightC n c = true) := hr
  replace hT := hT.below c0
  replace h1 := h1.below c0
  replace h2 := h2.below c0
  clear hlen hr
  obtain ⟨x0, x1, x2⟩ := id hbn
  obtain ⟨y0, y1, y2⟩ := id hbc
  obtain ⟨o0, o1, o2⟩ := id hbo
  have hq : ∀ (w : World) (fn : Fn) (x y : Array Value), (binOp .eql 70 (.func fn x y) .nilFunc).run Try.prog w = .ok (.bool false) w := fun w fn x y => by kernel_rfl
  have hq0 : ∀ (w : World), (binOp .eql 70 .nilFunc .nilFunc).run Try.prog w = .ok (.bool true) w := fun w => by kernel_rfl
  go_enter Try.func31, Try.ntmps31
  go_upto_region 1 with fail
  rw [Hw0.out]
  clear Hw0
  go_wp2_with fail
  refine (workof_3 (.slice ta len tc) n w0).mono ?_
  rintro e w1 ⟨bn, bp, rfl, hbN, hpl, hp0, b⟩
  replace c0 := below_then c0 b
  replace h1 := h1.below b
  replace h2 := h2.below b
  replace hT := hT.below b
  replace hbn := hbn.below b
  replace hbc := hbc.below b
  replace hbo := hbo.below b
  replace hR := hR.below b
  clear b x0 x1 x2 y0 y1 y2 o0 o1 o2
  obtain ⟨x0, x1, x2⟩ := id hbn
  obtain ⟨y0, y1, y2⟩ := id hbc
  obtain ⟨o0, o1, o2⟩ := id hbo
  have Hk : Hid (¬ (((3 : Int)) < 1 ∨ 4 < ((3 : Int)))) := by show ¬ _; omega
  by_cases ht0 : t < 0
  · have E : Hid (doC n c 3 t = (noCase, 3)) := do_none Hr.out Hk.out (.inl ht0)
    obtain ⟨q1, q2, q3, q4, q5⟩ := hR.facts
    obtain ⟨W2, HW2⟩ : ∃ W2, Hid ((w1.setCell ⟨w.heap.size + 1 + 1 + 1, 0, none⟩ (.slice none 0 0)).setCell ⟨w.heap.size + 1 + 1 + 1, 1, none⟩ (.slice none 0 0) = W2) := ⟨_, rfl⟩
    obtain ⟨z1, z2, z3, z4⟩ := hR.fill c0 (by omega) HW2.out (Ints.nil _) (Ints.nil _)
    go_wp2
    rw [HW2.out]
    exact bodyPost_ret (v := .tuple #[.agg #[.slice none 0 0, .slice none 0 0], .int .i64 3]) (results_case rfl rfl rfl z1 z2) rfl (givesCF_of E.out z3 (CaseFrom.none _) z4)
  · obtain ⟨k, rfl⟩ := Int.eq_ofNat_of_zero_le (show 0 ≤ t by omega)
    have ht0' : decide ((k : Int) < 0) = false := decide_eq_false (by omega)
    clear ht0
    by_cases hk : k < len
    · obtain ⟨tb, tf, d1, d2, rfl, hblt, t0, t1, t2, i1, i2⟩ := hT.at hk
      have HK : Hid (k < n.trans.length) := by show _ < _; rw [HL.out]; exact hk
      obtain ⟨L, HLb⟩ : ∃ L, Hid ((tranAt n.trans k).label = L) := ⟨_, rfl⟩
      rw [HLb.out] at t0
      go_upto_region 6 with fail
      go_quiet (fail)
      have b := below_drewN (Below.refl w1.heap.size w1) nq
      obtain ⟨w2, H2⟩ : ∃ w2, Hid (w1.drewN nq = w2) := ⟨_, rfl⟩
      rw [H2.out] at b ⊢
      clear H2 t0 t1 t2 i1 i2 hblt
      replace c0 := below_then c0 b
      replace h1 := h1.below b
      replace h2 := h2.below b
      replace hT := hT.below b
      replace hbn := hbn.below b
      replace hbc := hbc.below b
      replace hbo := hbo.below b
      replace hR := hR.below b
      replace hbN := hbN.below b
      replace hp0 := (b.cell (p := ⟨bp, _, none⟩) hpl).trans hp0
      replace hpl := Nat.lt_of_lt_of_le hpl b.size
      clear b x0 x1 x2 y0 y1 y2 o0 o1 o2
      obtain ⟨x0, x1, x2⟩ := id hbn
      obtain ⟨y0, y1, y2⟩ := id hbc
      obtain ⟨o0, o1, o2⟩ := id hbo
      by_cases hL : L = 0
      · subst hL
        have E : Hid (doC n c 3 k = (noCase, 1)) := do_form Hr.out Hk.out HK.out (by rw [HLb.out]; simp)
        obtain ⟨q1, q2, q3, q4, q5⟩ := hR.facts
        obtain ⟨W2, HW2⟩ : ∃ W2, Hid ((w2.setCell ⟨w.heap.size + 1 + 1 + 1, 0, none⟩ (.slice none 0 0)).setCell ⟨w.heap.size + 1 + 1 + 1, 1, none⟩ (.slice none 0 0) = W2) := ⟨_, rfl⟩
        obtain ⟨z1, z2, z3, z4⟩ := hR.fill c0 (by omega) HW2.out (Ints.nil _) (Ints.nil _)
        go_wp2
        rw [HW2.out]
        exact bodyPost_ret (v := .tuple #[.agg #[.slice none 0 0, .slice none 0 0], .int .i64 1]) (results_case rfl rfl rfl z1 z2) rfl (givesCF_of E.out z3 (CaseFrom.none _) z4)
      · have hL1 : (L == 0) = false := by simpa using hL
        rw [hL1]
        go_wp2_with fail
        refine (work_leave3 _ _ bn bp n c k w2 hbN hpl hp0 hT (by exact ⟨_, _, _, _, _, _, rfl, h1, h2⟩) Hr.out HK.out (by rw [HLb.out]; exact hL)).mono ?_
        rintro e w3 ⟨r, rfl, hC, hCF, b⟩
        replace hCF := hCF.mono c0.size
        obtain ⟨ra, rl, rc, ra2, rl2, rc2, rfl, hI, hI2⟩ := hC
        replace c0 := below_then c0 b
        replace hR := hR.below b
        clear b x0 x1 x2 y0 y1 y2 o0 o1 o2 h1 h2 hT hbn hbc hbo
        obtain ⟨q1, q2, q3, q4, q5⟩ := hR.facts
        obtain ⟨W2, HW2⟩ : ∃ W2, Hid ((w3.setCell ⟨w.heap.size + 1 + 1 + 1, 0, none⟩ (.slice ra rl rc)).setCell ⟨w.heap.size + 1 + 1 + 1, 1, none⟩ (.slice ra2 rl2 rc2) = W2) := ⟨_, rfl⟩
        obtain ⟨z1, z2, z3, z4⟩ := hR.fill c0 (by omega) HW2.out hI hI2
        go_wp2
        rw [HW2.out]
        exact bodyPost_ret (v := .tuple #[.agg #[.slice ra rl rc, .slice ra2 rl2 rc2], .int .i64 (doC n c 3 k).2]) (results_case rfl rfl rfl z1 z2) rfl ⟨_, rfl, z3, hCF, z4⟩
    · have htl : (len : Int) ≤ (k : Int) := by omega
      have E : Hid (doC n c 3 k = (noCase, 3)) := do_none Hr.out Hk.out (.inr (by rw [HL.out]; exact htl))
      obtain ⟨q1, q2, q3, q4, q5⟩ := hR.facts
      obtain ⟨W2, HW2⟩ : ∃ W2, Hid ((w1.setCell ⟨w.heap.size + 1 + 1 + 1, 0, none⟩ (.slice none 0 0)).setCell ⟨w.heap.size + 1 + 1 + 1, 1, none⟩ (.slice none 0 0) = W2) := ⟨_, rfl⟩
      obtain ⟨z1, z2, z3, z4⟩ := hR.fill c0 (by omega) HW2.out (Ints.nil _) (Ints.nil _)
      go_wp2
      rw [HW2.out]
      exact bodyPost_ret (v := .tuple #[.agg #[.slice none 0 0, .slice none 0 0], .int .i64 3]) (results_case rfl rfl rfl z1 z2) rfl (givesCF_of E.out z3 (CaseFrom.none _) z4)

set_option maxHeartbeats 4000000 in
theorem done_4 (v u : Value) (n : NetL) (c : CaseL) (t : Int) (w : World) (hv : Net w v n) (hu : CaseV w u c) (hr : rightC n c = true) :
    Calls Try.prog 31 #[v, u, .agg #[.int .i64 4, .int .i64 t]] w fun e w' => GivesCF w (doC n c 4 t) e w' := by
  obtain ⟨tv, rfl, hT⟩ := hv
  obtain ⟨a, l, p, a', l', p', rfl, h1, h2⟩ := hu
  obtain ⟨ta, len, tc, rfl, hlen, hmx, _⟩ := id hT
  obtain ⟨w0, Hw0, hbn, hbc, hbo, hR, c0⟩ := do_boxes w (.int .i64 n.places) (.slice ta len tc) (.slice a l p) (.slice a' l' p') (.int .i64 4) (.int .i64 t)
  have HL : Hid (n.trans.length = len) := hlen
  have Hr : Hid (rightC n c = true) := hr
  replace hT := hT.below c0
  replace h1 := h1.below c0
  replace h2 := h2.below c0
  clear hlen hr
  obtain ⟨x0, x1, x2⟩ := id hbn
  obtain ⟨y0, y1, y2⟩ := id hbc
  obtain ⟨o0, o1, o2⟩ := id hbo
  have hq : ∀ (w : World) (fn : Fn) (x y : Array Value), (binOp .eql 70 (.func fn x y) .nilFunc).run Try.prog w = .ok (.bool false) w := fun w fn x y => by kernel_rfl
  have hq0 : ∀ (w : World), (binOp .eql 70 .nilFunc .nilFunc).run Try.prog w = .ok (.bool true) w := fun w => by kernel_rfl
  go_enter Try.func31, Try.ntmps31
  go_upto_region 1 with fail
  rw [Hw0.out]
  clear Hw0
  go_wp2_with fail
  refine (workof_4 (.slice ta len tc) n w0).mono ?_
  rintro e w1 ⟨bn, bp, rfl, hbN, hpl, hp0, b⟩
  replace c0 := below_then c0 b
  replace h1 := h1.below b
  replace h2 := h2.below b
  replace hT := hT.below b
  replace hbn := hbn.below b
  replace hbc := hbc.below b
  replace hbo := hbo.below b
  replace hR := hR.below b
  clear b x0 x1 x2 y0 y1 y2 o0 o1 o2
  obtain ⟨x0, x1, x2⟩ := id hbn
  obtain ⟨y0, y1, y2⟩ := id hbc
  obtain ⟨o0, o1, o2⟩ := id hbo
  have Hk : Hid (¬ (((4 : Int)) < 1 ∨ 4 < ((4 : Int)))) := by show ¬ _; omega
  by_cases ht0 : t < 0
  · have E : Hid (doC n c 4 t = (noCase, 3)) := do_none Hr.out Hk.out (.inl ht0)
    obtain ⟨q1, q2, q3, q4, q5⟩ := hR.facts
    obtain ⟨W2, HW2⟩ : ∃ W2, Hid ((w1.setCell ⟨w.heap.size + 1 + 1 + 1, 0, none⟩ (.slice none 0 0)).setCell ⟨w.heap.size + 1 + 1 + 1, 1, none⟩ (.slice none 0 0) = W2) := ⟨_, rfl⟩
    obtain ⟨z1, z2, z3, z4⟩ := hR.fill c0 (by omega) HW2.out (Ints.nil _) (Ints.nil _)
    go_wp2
    rw [HW2.out]
    exact bodyPost_ret (v := .tuple #[.agg #[.slice none 0 0, .slice none 0 0], .int .i64 3]) (results_case rfl rfl rfl z1 z2) rfl (givesCF_of E.out z3 (CaseFrom.none _) z4)
  · obtain ⟨k, rfl⟩ := Int.eq_ofNat_of_zero_le (show 0 ≤ t by omega)
    have ht0' : decide ((k : Int) < 0) = false := decide_eq_false (by omega)
    clear ht0
    by_cases hk : k < len
    · obtain ⟨tb, tf, d1, d2, rfl, hblt, t0, t1, t2, i1, i2⟩ := hT.at hk
      have HK : Hid (k < n.trans.length) := by show _ < _; rw [HL.out]; exact hk
      obtain ⟨L, HLb⟩ : ∃ L, Hid ((tranAt n.trans k).label = L) := ⟨_, rfl⟩
      rw [HLb.out] at t0
      go_upto_region 6 with fail
      go_quiet (fail)
      have b := below_drewN (Below.refl w1.heap.size w1) nq
      obtain ⟨w2, H2⟩ : ∃ w2, Hid (w1.drewN nq = w2) := ⟨_, rfl⟩
      rw [H2.out] at b ⊢
      clear H2 t0 t1 t2 i1 i2 hblt
      replace c0 := below_then c0 b
      replace h1 := h1.below b
      replace h2 := h2.below b
      replace hT := hT.below b
      replace hbn := hbn.below b
      replace hbc := hbc.below b
      replace hbo := hbo.below b
      replace hR := hR.below b
      replace hbN := hbN.below b
      replace hp0 := (b.cell (p := ⟨bp, _, none⟩) hpl).trans hp0
      replace hpl := Nat.lt_of_lt_of_le hpl b.size
      clear b x0 x1 x2 y0 y1 y2 o0 o1 o2
      obtain ⟨x0, x1, x2⟩ := id hbn
      obtain ⟨y0, y1, y2⟩ := id hbc
      obtain ⟨o0, o1, o2⟩ := id hbo
      by_cases hL : L = 0
      · subst hL
        have E : Hid (doC n c 4 k = (noCase, 1)) := do_form Hr.out Hk.out HK.out (by rw [HLb.out]; simp)
        obtain ⟨q1, q2, q3, q4, q5⟩ := hR.facts
        obtain ⟨W2, HW2⟩ : ∃ W2, Hid ((w2.setCell ⟨w.heap.size + 1 + 1 + 1, 0, none⟩ (.slice none 0 0)).setCell ⟨w.heap.size + 1 + 1 + 1, 1, none⟩ (.slice none 0 0) = W2) := ⟨_, rfl⟩
        obtain ⟨z1, z2, z3, z4⟩ := hR.fill c0 (by omega) HW2.out (Ints.nil _) (Ints.nil _)
        go_wp2
        rw [HW2.out]
        exact bodyPost_ret (v := .tuple #[.agg #[.slice none 0 0, .slice none 0 0], .int .i64 1]) (results_case rfl rfl rfl z1 z2) rfl (givesCF_of E.out z3 (CaseFrom.none _) z4)
      · have hL1 : (L == 0) = false := by simpa using hL
        rw [hL1]
        go_wp2_with fail
        refine (work_leave4 _ _ bn bp n c k w2 hbN hpl hp0 hT (by exact ⟨_, _, _, _, _, _, rfl, h1, h2⟩) Hr.out HK.out (by rw [HLb.out]; exact hL)).mono ?_
        rintro e w3 ⟨r, rfl, hC, hCF, b⟩
        replace hCF := hCF.mono c0.size
        obtain ⟨ra, rl, rc, ra2, rl2, rc2, rfl, hI, hI2⟩ := hC
        replace c0 := below_then c0 b
        replace hR := hR.below b
        clear b x0 x1 x2 y0 y1 y2 o0 o1 o2 h1 h2 hT hbn hbc hbo
        obtain ⟨q1, q2, q3, q4, q5⟩ := hR.facts
        obtain ⟨W2, HW2⟩ : ∃ W2, Hid ((w3.setCell ⟨w.heap.size + 1 + 1 + 1, 0, none⟩ (.slice ra rl rc)).setCell ⟨w.heap.size + 1 + 1 + 1, 1, none⟩ (.slice ra2 rl2 rc2) = W2) := ⟨_, rfl⟩
        obtain ⟨z1, z2, z3, z4⟩ := hR.fill c0 (by omega) HW2.out hI hI2
        go_wp2
        rw [HW2.out]
        exact bodyPost_ret (v := .tuple #[.agg #[.slice ra rl rc, .slice ra2 rl2 rc2], .int .i64 (doC n c 4 k).2]) (results_case rfl rfl rfl z1 z2) rfl ⟨_, rfl, z3, hCF, z4⟩
    · have htl : (len : Int) ≤ (k : Int) := by omega
      have E : Hid (doC n c 4 k = (noCase, 3)) := do_none Hr.out Hk.out (.inr (by rw [HL.out]; exact htl))
      obtain ⟨q1, q2, q3, q4, q5⟩ := hR.facts
      obtain ⟨W2, HW2⟩ : ∃ W2, Hid ((w1.setCell ⟨w.heap.size + 1 + 1 + 1, 0, none⟩ (.slice none 0 0)).setCell ⟨w.heap.size + 1 + 1 + 1, 1, none⟩ (.slice none 0 0) = W2) := ⟨_, rfl⟩
      obtain ⟨z1, z2, z3, z4⟩ := hR.fill c0 (by omega) HW2.out (Ints.nil _) (Ints.nil _)
      go_wp2
      rw [HW2.out]
      exact bodyPost_ret (v := .tuple #[.agg #[.slice none 0 0, .slice none 0 0], .int .i64 3]) (results_case rfl rfl rfl z1 z2) rfl (givesCF_of E.out z3 (CaseFrom.none _) z4)

set_option maxHeartbeats 1000000 in
theorem done_none (v u : Value) (n : NetL) (c : CaseL) (kd t : Int) (w : World) (hv : Net w v n) (hu : CaseV w u c) (hr : rightC n c = true) (hk : kd < 1 ∨ 4 < kd) :
    Calls Try.prog 31 #[v, u, .agg #[.int .i64 kd, .int .i64 t]] w fun e w' => GivesCF w (doC n c kd t) e w' := by
  obtain ⟨tv, rfl, hT⟩ := hv
  obtain ⟨a, l, p, a', l', p', rfl, h1, h2⟩ := hu
  obtain ⟨ta, len, tc, rfl, hlen, hmx, _⟩ := id hT
  obtain ⟨w0, Hw0, hbn, hbc, hbo, hR, c0⟩ := do_boxes w (.int .i64 n.places) (.slice ta len tc) (.slice a l p) (.slice a' l' p') (.int .i64 kd) (.int .i64 t)
  have HL : Hid (n.trans.length = len) := hlen
  have Hr : Hid (rightC n c = true) := hr
  replace hT := hT.below c0
  replace h1 := h1.below c0
  replace h2 := h2.below c0
  clear hlen hr
  obtain ⟨x0, x1, x2⟩ := id hbn
  obtain ⟨y0, y1, y2⟩ := id hbc
  obtain ⟨o0, o1, o2⟩ := id hbo
  have hq : ∀ (w : World) (fn : Fn) (x y : Array Value), (binOp .eql 70 (.func fn x y) .nilFunc).run Try.prog w = .ok (.bool false) w := fun w fn x y => by kernel_rfl
  have hq0 : ∀ (w : World), (binOp .eql 70 .nilFunc .nilFunc).run Try.prog w = .ok (.bool true) w := fun w => by kernel_rfl
  go_enter Try.func31, Try.ntmps31
  go_upto_region 1 with fail
  rw [Hw0.out]
  clear Hw0
  go_wp2_with fail
  refine (workof_none (.slice ta len tc) n kd w0 hk).mono ?_
  rintro e w1 ⟨rfl, b⟩
  replace c0 := below_then c0 b
  replace h1 := h1.below b
  replace h2 := h2.below b
  replace hT := hT.below b
  replace hbn := hbn.below b
  replace hbc := hbc.below b
  replace hbo := hbo.below b
  replace hR := hR.below b
  clear b x0 x1 x2 y0 y1 y2 o0 o1 o2
  obtain ⟨x0, x1, x2⟩ := id hbn
  obtain ⟨y0, y1, y2⟩ := id hbc
  obtain ⟨o0, o1, o2⟩ := id hbo
  have E : Hid (doC n c kd t = (noCase, 5)) := do_kind Hr.out hk
  obtain ⟨q1, q2, q3, q4, q5⟩ := hR.facts
  obtain ⟨W2, HW2⟩ : ∃ W2, Hid ((w1.setCell ⟨w.heap.size + 1 + 1 + 1, 0, none⟩ (.slice none 0 0)).setCell ⟨w.heap.size + 1 + 1 + 1, 1, none⟩ (.slice none 0 0) = W2) := ⟨_, rfl⟩
  obtain ⟨z1, z2, z3, z4⟩ := hR.fill c0 (by omega) HW2.out (Ints.nil _) (Ints.nil _)
  go_wp2
  rw [HW2.out]
  exact bodyPost_ret (v := .tuple #[.agg #[.slice none 0 0, .slice none 0 0], .int .i64 5]) (results_case rfl rfl rfl z1 z2) rfl (givesCF_of E.out z3 (CaseFrom.none _) z4)

theorem done_any (v u : Value) (n : NetL) (c : CaseL) (kd t : Int) (w : World) (hv : Net w v n) (hu : CaseV w u c) (hr : rightC n c = true) :
    Calls Try.prog 31 #[v, u, .agg #[.int .i64 kd, .int .i64 t]] w fun e w' => GivesCF w (doC n c kd t) e w' := by
  by_cases hk : kd < 1 ∨ 4 < kd
  · exact done_none v u n c kd t w hv hu hr hk
  · obtain rfl | rfl | rfl | rfl : kd = 1 ∨ kd = 2 ∨ kd = 3 ∨ kd = 4 := by omega
    · exact done_1 v u n c t w hv hu hr
    · exact done_2 v u n c t w hv hu hr
    · exact done_3 v u n c t w hv hu hr
    · exact done_4 v u n c t w hv hu hr

set_option maxHeartbeats 2000000 in
theorem cases_do_own (v u : Value) (n : NetL) (c : CaseL) (kind t : Int) (w : World) (hv : Net w v n) (hu : CaseV w u c) : Calls Try.prog 10 #[v, u, .agg #[.int .i64 kind, .int .i64 t]] w fun e w' => GivesCF w (doC n c kind t) e w' := by
  obtain ⟨tv, rfl, hT⟩ := hv
  obtain ⟨a, l, p, a', l', p', rfl, h1, h2⟩ := hu
  obtain ⟨w0, Hw0, hbn, hbc, hbo, hR, c0⟩ := do_boxes w (.int .i64 n.places) tv (.slice a l p) (.slice a' l' p') (.int .i64 kind) (.int .i64 t)
  have hv : Net w0 (.agg #[.int .i64 n.places, tv]) n := ⟨_, rfl, hT.below c0⟩
  replace h1 := h1.below c0
  replace h2 := h2.below c0
  clear hT
  obtain ⟨x0, x1, x2⟩ := id hbn
  obtain ⟨y0, y1, y2⟩ := id hbc
  obtain ⟨o0, o1, o2⟩ := id hbo
  go_enter Try.func10, Try.ntmps10
  go_upto_region 1 with fail
  rw [Hw0.out]
  clear Hw0
  go_wp2_with fail
  refine (cases_right _ _ n c w0 (by exact hv) (by exact ⟨_, _, _, _, _, _, rfl, h1, h2⟩)).mono ?_
  rintro e w1 ⟨rfl, b⟩
  replace hv := hv.below b
  replace c0 := below_then c0 b
  replace h1 := h1.below b
  replace h2 := h2.below b
  replace hbn := hbn.below b
  replace hbc := hbc.below b
  replace hbo := hbo.below b
  replace hR := hR.below b
  clear b x0 x1 x2 y0 y1 y2 o0 o1 o2
  obtain ⟨x0, x1, x2⟩ := id hbn
  obtain ⟨y0, y1, y2⟩ := id hbc
  obtain ⟨o0, o1, o2⟩ := id hbo
  cases hr : rightC n c
  · have E : Hid (doC n c kind t = (noCase, 2)) := do_range hr
    obtain ⟨q1, q2, q3, q4, q5⟩ := hR.facts
    obtain ⟨W2, HW2⟩ : ∃ W2, Hid ((w1.setCell ⟨w.heap.size + 1 + 1 + 1, 0, none⟩ (.slice none 0 0)).setCell ⟨w.heap.size + 1 + 1 + 1, 1, none⟩ (.slice none 0 0) = W2) := ⟨_, rfl⟩
    obtain ⟨z1, z2, z3, z4⟩ := hR.fill c0 (by omega) HW2.out (Ints.nil _) (Ints.nil _)
    go_wp2
    rw [HW2.out]
    exact bodyPost_ret (v := .tuple #[.agg #[.slice none 0 0, .slice none 0 0], .int .i64 2]) (results_case rfl rfl rfl z1 z2) rfl (givesCF_of E.out z3 (CaseFrom.none _) z4)
  · go_wp2_with fail
    refine (done_any _ _ n c kind t w1 (by exact hv) (by exact ⟨_, _, _, _, _, _, rfl, h1, h2⟩) hr).mono ?_
    rintro e w3 ⟨r, rfl, hC, hCF, b⟩
    replace hCF := hCF.mono c0.size
    obtain ⟨ra, rl, rc, ra2, rl2, rc2, rfl, hI, hI2⟩ := hC
    replace c0 := below_then c0 b
    replace hR := hR.below b
    clear b x0 x1 x2 y0 y1 y2 o0 o1 o2 h1 h2 hv hbn hbc hbo
    obtain ⟨q1, q2, q3, q4, q5⟩ := hR.facts
    obtain ⟨W2, HW2⟩ : ∃ W2, Hid ((w3.setCell ⟨w.heap.size + 1 + 1 + 1, 0, none⟩ (.slice ra rl rc)).setCell ⟨w.heap.size + 1 + 1 + 1, 1, none⟩ (.slice ra2 rl2 rc2) = W2) := ⟨_, rfl⟩
    obtain ⟨z1, z2, z3, z4⟩ := hR.fill c0 (by omega) HW2.out hI hI2
    go_wp2
    rw [HW2.out]
    exact bodyPost_ret (v := .tuple #[.agg #[.slice ra rl rc, .slice ra2 rl2 rc2], .int .i64 (doC n c kind t).2]) (results_case rfl rfl rfl z1 z2) rfl ⟨_, rfl, z3, hCF, z4⟩

theorem cases_do (v u : Value) (n : NetL) (c : CaseL) (kind t : Int) (w : World) (hv : Net w v n) (hu : CaseV w u c) : Calls Try.prog 10 #[v, u, .agg #[.int .i64 kind, .int .i64 t]] w fun e w' => GivesC w (doC n c kind t) e w' := (cases_do_own v u n c kind t w hv hu).mono fun _ _ h => h.gives

end Go.Proofs.Ytffaamljogbmlaa

/- Package cases as it landed: Play. -/
namespace Go.Proofs.Ytffaamljogbmlaa
open Go.RowKit
set_option linter.unusedVariables false
set_option linter.unusedSimpArgs false
set_option maxRecDepth 4000

theorem boxesNR (w : World) (x y : Value) : ∃ w0, Hid ((w.alloc (.cells #[x, y] 24)).alloc (.cells #[.slice none 0 0, .slice none 0 0] 27) = w0) ∧ Box2 w0 w.heap.size x y ∧ ResC w0 (w.heap.size + 1) none 0 0 none 0 0 ∧ Below w.heap.size w w0 := by
  have b1 := below_new w (.cells #[x, y] 24)
  have h1 := box2_new w x y 24
  obtain ⟨w1, H1⟩ : ∃ w1, w.alloc (.cells #[x, y] 24) = w1 := ⟨_, rfl⟩
  have s1 : w1.heap.size = w.heap.size + 1 := by rw [← H1]; simp
  rw [H1] at b1 h1 ⊢
  have b2 := below_new w1 (.cells #[.slice none 0 0, .slice none 0 0] 27)
  have h2 := resC_new w1
  rw [s1] at h2
  exact ⟨_, rfl, h1.below b2, h2, below_then b1 b2⟩

/-- A slice whose numbers lie beside block g. -/
def SlOff (g : Nat) (v : Value) : Prop := ∀ b off l c, v = .slice (some ⟨b, off, none⟩) l c → 0 < l → b ≠ g

theorem SlFrom.off {B g : Nat} {v : Value} (h : SlFrom B v) (hg : g < B) : SlOff g v := fun b off l c e hl q => by have := h b off l c e hl; omega

theorem Ints.offHigh {w : World} {v : Value} {xs : List Int} (h : Ints w v xs) {g : Nat} (hg : w.heap.size ≤ g) : SlOff g v := fun b off l c e hl q => by
  subst e
  obtain ⟨a, len, cap, e, hl', hm, hs, hr⟩ := h
  injection e with e1 e2 _
  subst e2
  obtain ⟨b', off', ha, hlt, _⟩ := hr 0 (by omega)
  rw [← e1] at ha
  injection ha with ha
  injection ha with ha1 _
  omega

theorem Ints.setOff {w : World} {v : Value} {xs : List Int} (h : Ints w v xs) {g : Nat} (hf : SlOff g v) {p : Addr} (hp : p.block = g) (u : Value) : Ints (w.setCell p u) v xs := by
  obtain ⟨a, len, cap, rfl, hl, hm, hs, hr⟩ := h
  refine ⟨a, len, cap, rfl, hl, hm, hs, fun j hj => ?_⟩
  obtain ⟨b, off, ha, hlt, hc⟩ := hr j hj
  have := hf b off len cap (by rw [ha]) (by omega)
  exact ⟨b, off, ha, by simpa [World.setCell] using hlt, by rw [World.cell?_setCell_other _ _ _ _ (by intro q; rw [q] at hp; exact this hp)]; exact hc⟩

theorem ResC.set {w : World} {R : Nat} {a a' : Option Addr} {l c l' c' : Nat} (h : ResC w R a l c a' l' c') {p : Addr} (hp : p.block ≠ R) (u : Value) : ResC (w.setCell p u) R a l c a' l' c' :=
  ⟨(Below.heap_setCell w p u R (fun e => hp e.symm)).trans h.cells⟩

theorem caseBox_new (w : World) (a a' : Option Addr) (l c l' c' : Nat) : ResC (w.alloc (.cells #[.slice a l c, .slice a' l' c'] 27)) w.heap.size a l c a' l' c' := ⟨by
  show (w.heap.push _)[w.heap.size]? = _
  simp⟩

theorem ResC.put2 {w W : World} {R : Nat} {a a' : Option Addr} {l c l' c' : Nat} (h : ResC w R a l c a' l' c') {b b' : Option Addr} {m d m' d' : Nat}
    (hW : (w.setCell ⟨R, 0, none⟩ (.slice b m d)).setCell ⟨R, 1, none⟩ (.slice b' m' d') = W) : ResC W R b m d b' m' d' := ⟨h.filled hW⟩
theorem Box2.set {w : World} {b : Nat} {x y : Value} (h : Box2 w b x y) {p : Addr} (hp : p.block ≠ b) (u : Value) : Box2 (w.setCell p u) b x y := by
  obtain ⟨h0, h1, h2⟩ := h
  refine ⟨by simpa [World.setCell] using h0, ?_, ?_⟩
  · rw [World.cell?_setCell_other _ _ _ _ (by intro q; apply hp; rw [q])]; exact h1
  · rw [World.cell?_setCell_other _ _ _ _ (by intro q; apply hp; rw [q])]; exact h2
theorem info_errno : (Try.prog.info? 30).map (fun i => (i.zero, i.size, i.bytes)) = some (some (.int .i64 0), 1, 8) := by kernel_rfl

theorem make_errs (w : World) (n : Nat) (hn : n ≤ 17592186044416) :
    ∃ w1, (Instr.makeSlice 41 (.int .i64 (n : Int)) (.int .i64 (n : Int))).run Try.prog w = .ok (.slice (some ⟨w.heap.size, 0, none⟩) n n) w1 ∧
      Below w.heap.size w w1 ∧ RowG w1 w.heap.size n n (zerosL n) := by
  obtain ⟨i0, hi, hz0, hz1, hz2⟩ := info_parts info_errno
  have h := run_make (P := Try.prog) w 41 30 i0 (.int .i64 0) Try.underlying41 hi hz0 .i64 .i64 n n (by omega) (by omega) (by rw [hz2]; omega) (by omega)
  simp only [Int.toNat_natCast] at h
  refine ⟨_, h, (Below.refl _ _).alloc (Nat.le_refl _) _, ⟨zeros_length _, ⟨Nat.le_refl _, by omega, hn⟩, by simp, fun j hj => ?_, fun j => ?_⟩⟩
  · rw [World.cell?_alloc_at _ _ _ _ rfl, zeros_at]
    simp [madeCells, hz1, Value.cells, hj, Nat.mod_one]
  · exact World.frozen?_alloc_at _ _ _ _ rfl

theorem results_case3 {fn : Func} {p u t : Tmp} {tmps : Array Value} {w : World} {b : Nat} {x y v z : Value} (h : fn.results = #[.cell p 27, .tmp u, .tmp t]) (hp : tmps.getD p undef = .pointer (some ⟨b, 0, none⟩)) (hu : tmps.getD u undef = v) (ht : tmps.getD t undef = z) (h1 : w.cell? ⟨b, 0, none⟩ = some x) (h2 : w.cell? ⟨b, 1, none⟩ = some y) :
    (results fn tmps).run Try.prog w = .ok (.tuple #[.agg #[x, y], v, z]) w := by
  have e : (results fn tmps).run Try.prog w = ((asAddr (tmps.getD p undef)).run Try.prog w).andThen fun a w₁ => ((loadVar 27 a).run Try.prog w₁).andThen fun v w₂ => .ok (.tuple #[v, tmps.getD u undef, tmps.getD t undef]) w₂ := by
    simp only [results, h]
    simp [Sem.run_bind, Result.andThen]
  rw [e, hp, hu, ht]
  simp [asAddr, go_sem, h1, h2]

set_option maxHeartbeats 4000000 in
theorem cases_play (v u : Value) (n : NetL) (i : Int) (os : List (Int × Int)) (w : World) (hv : Net w v n) (hu : OpsV w u os) : Calls Try.prog 18 #[v, .int .i64 i, u] w fun e w' => GivesP w (playAll n i os) e w' := by
  obtain ⟨tv, rfl, hT⟩ := hv
  obtain ⟨a, cap, rfl, hmx, hsh⟩ := hu.slice
  obtain ⟨w0, Hw0, hbn, hR, c0⟩ := boxesNR w (.int .i64 n.places) tv
  have hv : Net w0 (.agg #[.int .i64 n.places, tv]) n := ⟨_, rfl, hT.below c0⟩
  obtain ⟨x0, x1, x2⟩ := id hbn
  go_enter Try.func18, Try.ntmps18
  go_upto_region 1 with fail
  rw [Hw0.out]
  clear Hw0
  go_wp2_with fail
  refine (cases_begin_own _ n i w0 (by exact hv)).mono ?_
  rintro e w1 ⟨r, rfl, hC, hCF, b⟩
  obtain ⟨ra, rl, rc, ra2, rl2, rc2, rfl, hI, hI2⟩ := hC
  replace c0 := below_then c0 b
  replace hR := hR.below b
  replace hbn := hbn.below b
  replace hCF := hCF.mono (Nat.le_refl _)
  clear x0 x1 x2 b hv
  have bc := below_new w1 (.cells #[.slice ra rl rc, .slice ra2 rl2 rc2] 27)
  have hc := caseBox_new w1 ra ra2 rl rc rl2 rc2
  obtain ⟨Bc, HBc⟩ : ∃ B, Hid (w1.heap.size = B) := ⟨_, rfl⟩
  have hBc : w.heap.size + 1 < Bc := by have := (hR.facts).2.2.2.2; rw [HBc.out] at this; exact this
  rw [HBc.out] at hc
  obtain ⟨w2, Hw2⟩ : ∃ w2, Hid (w1.alloc (.cells #[.slice ra rl rc, .slice ra2 rl2 rc2] 27) = w2) := ⟨_, rfl⟩
  rw [Hw2.out] at bc hc
  go_upto_region 2 with fail
  rw [Hw2.out, HBc.out]
  clear Hw2 HBc
  replace c0 := below_then c0 bc
  replace hR := hR.below bc
  replace hbn := hbn.below bc
  replace hI := hI.below bc
  replace hI2 := hI2.below bc
  clear bc
  obtain ⟨d, Hd⟩ : ∃ d, Hid ((beginC n i).2 = d) := ⟨_, rfl⟩
  rw [Hd.out]
  by_cases hd : d = 0
  · subst hd
    obtain ⟨cs, Hcs⟩ : ∃ cs, Hid ((beginC n i).1 = cs) := ⟨_, rfl⟩
    have Hall : Hid (playAll n i os = ((playC n cs os).1, (playC n cs os).2, 0)) := by show _ = _; unfold playAll; rw [if_pos Hd.out, Hcs.out]
    have Hri : Hid (rightC n cs = true) := by rw [← Hcs.out]; exact (begin_right Hd.out).1
    rw [Hcs.out] at hI hI2
    obtain ⟨len, Hlen⟩ : ∃ l, Hid (os.length = l) := ⟨_, rfl⟩
    rw [Hlen.out] at hmx hsh hu ⊢
    clear Hcs Hd hCF
    obtain ⟨w3, hmk, be, hX⟩ := make_errs w2 len (by omega)
    obtain ⟨Be, HBe⟩ : ∃ B, Hid (w2.heap.size = B) := ⟨_, rfl⟩
    rw [HBe.out] at hmk hX
    have hoM := hI.offHigh (g := Be) (by rw [HBe.out]; exact Nat.le_refl _)
    have hoB := hI2.offHigh (g := Be) (by rw [HBe.out]; exact Nat.le_refl _)
    have hBe : Bc < Be := by rw [← HBe.out]; exact (hc.facts).2.2.2.2
    replace c0 := below_then c0 be
    replace hR := hR.below be
    replace hbn := hbn.below be
    replace hc := hc.below be
    replace hI := hI.below be
    replace hI2 := hI2.below be
    clear be HBe
    go_wp2_with fail
    go_loopg [31] len (fun gk i' wr => ∃ (k : Nat) (es : List Int) (xa ya : Option Addr) (xl xc yl yc : Nat), k + gk = len ∧ i' = .int .i64 (k : Int) ∧ Below w.heap.size w wr ∧ Box2 wr w.heap.size (.int .i64 n.places) tv ∧ ResC wr (w.heap.size + 1) none 0 0 none 0 0 ∧ ResC wr Bc xa xl xc ya yl yc ∧
      Ints wr (.slice xa xl xc) (caseAt n cs os k).mark ∧ Ints wr (.slice ya yl yc) (caseAt n cs os k).busy ∧ SlOff Be (.slice xa xl xc) ∧ SlOff Be (.slice ya yl yc) ∧ RowG wr Be len len es ∧ Hid (∀ j, j < k → nth es j = nth (playC n cs os).2 j))
    case atStart => exact ⟨0, _, _, _, _, _, _, _, by omega, rfl, c0, hbn, hR, hc, hI, hI2, hoM, hoB, hX, fun j hj => absurd hj (Nat.not_lt_zero _)⟩
    case round =>
      clear c0 hbn hR hc hI hI2 hoM hoB hX hmk
      obtain ⟨k, es, xa, ya, xl, xc, yl, yc, hkg, rfl, c0, hbn, hR, hc, hI, hI2, hoM, hoB, hX, HE⟩ := hrel
      by_cases hk : k < len
      · obtain ⟨ob, of, rfl, hol, o1, o2⟩ := (hu.below c0).at hk
        obtain ⟨kd, Hkd⟩ : ∃ z, Hid ((opAt os k).1 = z) := ⟨_, rfl⟩
        obtain ⟨tr, Htr⟩ : ∃ z, Hid ((opAt os k).2 = z) := ⟨_, rfl⟩
        rw [Hkd.out] at o1
        rw [Htr.out] at o2
        have Hr : Hid (rightC n (caseAt n cs os k) = true) := play_right _ Hri.out
        have Hnext : Hid (caseAt n cs os (k + 1) = if (doC n (caseAt n cs os k) kd tr).2 = 0 then (doC n (caseAt n cs os k) kd tr).1 else caseAt n cs os k) := by
          show _ = _
          rw [caseAt_succ n cs (by rw [Hlen.out]; exact hk)]
          unfold stepC
          rw [Hkd.out, Htr.out]
        have Herr : Hid (nth (playC n cs os).2 k = (doC n (caseAt n cs os k) kd tr).2) := by
          show _ = _
          rw [err_at n cs (by rw [Hlen.out]; exact hk), Hkd.out, Htr.out]
        obtain ⟨ck, Hck⟩ : ∃ c, Hid (caseAt n cs os k = c) := ⟨_, rfl⟩
        rw [Hck.out] at hI hI2 Hr Hnext Herr
        have bo := below_new wr (.cells #[.int .i64 kd, .int .i64 tr] 29)
        have hbo := box2_new wr (.int .i64 kd) (.int .i64 tr) 29
        obtain ⟨Bo, HBo⟩ : ∃ B, Hid (wr.heap.size = B) := ⟨_, rfl⟩
        rw [HBo.out] at hbo
        obtain ⟨wo, Hwo⟩ : ∃ v, Hid (wr.alloc (.cells #[.int .i64 kd, .int .i64 tr] 29) = v) := ⟨_, rfl⟩
        rw [Hwo.out] at bo hbo
        go_upto_region 8 with fail
        rw [Hwo.out, HBo.out]
        clear Hwo o1 o2 hol
        replace c0 := below_then c0 bo
        replace hR := hR.below bo
        replace hbn := hbn.below bo
        replace hc := hc.below bo
        replace hI := hI.below bo
        replace hI2 := hI2.below bo
        replace hX := hX.below bo
        clear bo HBo
        have hv : Net wo (.agg #[.int .i64 n.places, tv]) n := ⟨_, rfl, hT.below c0⟩
        obtain ⟨x0, x1, x2⟩ := id hbn
        obtain ⟨y1, y2, _, _, _⟩ := hc.facts
        obtain ⟨o0, o1, o2⟩ := id hbo
        go_wp2_with fail
        refine (done_any _ _ n ck kd tr wo (by exact hv) (by exact ⟨_, _, _, _, _, _, rfl, hI, hI2⟩) Hr.out).mono ?_
        rintro e w4 ⟨r, rfl, hC, hCF, b⟩
        obtain ⟨za, zl, zc, za2, zl2, zc2, rfl, hZ, hZ2⟩ := hC
        obtain ⟨hf1, hf2⟩ := hCF.parts
        have ho1 := hf1.off (g := Be) hX.lt
        have ho2 := hf2.off (g := Be) hX.lt
        replace c0 := below_then c0 b
        replace hR := hR.below b
        replace hbn := hbn.below b
        replace hc := hc.below b
        replace hI := hI.below b
        replace hI2 := hI2.below b
        replace hX := hX.below b
        clear b x0 x1 x2 y1 y2 o0 o1 o2 hv hCF hf1 hf2 hbo
        have bn := below_new w4 (.cells #[.slice za zl zc, .slice za2 zl2 zc2] 27)
        have hbx := caseBox_new w4 za za2 zl zc zl2 zc2
        obtain ⟨Bx, HBx⟩ : ∃ B, Hid (w4.heap.size = B) := ⟨_, rfl⟩
        rw [HBx.out] at hbx
        obtain ⟨w5, Hw5⟩ : ∃ v, Hid (w4.alloc (.cells #[.slice za zl zc, .slice za2 zl2 zc2] 27) = v) := ⟨_, rfl⟩
        rw [Hw5.out] at bn hbx
        go_upto_region 9 with fail
        rw [Hw5.out, HBx.out]
        clear Hw5 HBx
        replace c0 := below_then c0 bn
        replace hR := hR.below bn
        replace hbn := hbn.below bn
        replace hc := hc.below bn
        replace hI := hI.below bn
        replace hI2 := hI2.below bn
        replace hZ := hZ.below bn
        replace hZ2 := hZ2.below bn
        replace hX := hX.below bn
        clear bn
        obtain ⟨d, Hd⟩ : ∃ d, Hid ((doC n ck kd tr).2 = d) := ⟨_, rfl⟩
        rw [Hd.out]
        rw [Hd.out] at Hnext Herr
        have HE' : Hid (∀ j, j < k + 1 → nth (es.set k d) j = nth (playC n cs os).2 j) := fun j hj => by
          rw [nth_set' _ _ _ _ (by rw [hX.len]; exact hk)]
          split
          · rename_i e; rw [e, Herr.out]
          · exact HE.out j (by omega)
        by_cases hd : d = 0
        · subst hd
          rw [if_pos rfl] at Hnext
          obtain ⟨nx, Hnx⟩ : ∃ c, Hid ((doC n ck kd tr).1 = c) := ⟨_, rfl⟩
          rw [Hnx.out] at hZ hZ2 Hnext
          obtain ⟨q1, q2, q3, q4, q5⟩ := hc.facts
          obtain ⟨r1, r2, _, _, _⟩ := hbx.facts
          obtain ⟨W1, HW1⟩ : ∃ W, Hid ((w5.setCell ⟨Bc, 0, none⟩ (.slice za zl zc)).setCell ⟨Bc, 1, none⟩ (.slice za2 zl2 zc2) = W) := ⟨_, rfl⟩
          have e1 : (w5.setCell ⟨Bc, 0, none⟩ (.slice za zl zc)).cell? ⟨Bc, 1, none⟩ = some (.slice ya yl yc) := by rw [World.cell?_setCell_other _ _ _ _ (by simp)]; exact q2
          have hZ' := (hZ.putS q1 (.slice za zl zc)).putS e1 (.slice za2 zl2 zc2)
          have hZ2' := (hZ2.putS q1 (.slice za zl zc)).putS e1 (.slice za2 zl2 zc2)
          have hX' := (hX.set (p := ⟨Bc, 0, none⟩) (by show Bc ≠ Be; omega) (.slice za zl zc)).set (p := ⟨Bc, 1, none⟩) (by show Bc ≠ Be; omega) (.slice za2 zl2 zc2)
          have hR' := (hR.set (p := ⟨Bc, 0, none⟩) (by show Bc ≠ _; omega) (.slice za zl zc)).set (p := ⟨Bc, 1, none⟩) (by show Bc ≠ _; omega) (.slice za2 zl2 zc2)
          have hbn' := (hbn.set (p := ⟨Bc, 0, none⟩) (by show Bc ≠ _; omega) (.slice za zl zc)).set (p := ⟨Bc, 1, none⟩) (by show Bc ≠ _; omega) (.slice za2 zl2 zc2)
          have c0' := (c0.setCell (p := ⟨Bc, 0, none⟩) (by show _ ≤ Bc; omega) (.slice za zl zc)).setCell (p := ⟨Bc, 1, none⟩) (by show _ ≤ Bc; omega) (.slice za2 zl2 zc2)
          have hc' := hc.put2 HW1.out
          rw [HW1.out] at hZ' hZ2' hX' hR' hbn' c0'
          clear hI hI2 hZ hZ2 hX hR hbn c0 hc e1 hoM hoB
          go_upto_region 11 with fail
          rw [HW1.out]
          clear HW1 q1 q2 q3 q4 q5 r1 r2 hbx
          obtain ⟨s1, s2⟩ : W1.cell? ⟨Be, k, none⟩ = some (.int .i64 (nth es k)) ∧ W1.frozen? ⟨Be, k, none⟩ = false := ⟨hX'.cells k hk, hX'.frozen k⟩
          have hX2 := hX'.put hk 0
          have hR2 := hR'.set (p := ⟨Be, k, none⟩) (by show Be ≠ _; omega) (.int .i64 0)
          have hc2 := hc'.set (p := ⟨Be, k, none⟩) (by show Be ≠ _; omega) (.int .i64 0)
          have hbn2 := hbn'.set (p := ⟨Be, k, none⟩) (by show Be ≠ _; omega) (.int .i64 0)
          have c2 := c0'.setCell (p := ⟨Be, k, none⟩) (by show _ ≤ Be; omega) (.int .i64 0)
          have hM2 := hZ'.setOff ho1 (p := ⟨Be, k, none⟩) rfl (.int .i64 0)
          have hB2 := hZ2'.setOff ho2 (p := ⟨Be, k, none⟩) rfl (.int .i64 0)
          rw [show nx = caseAt n cs os (k + 1) from Hnext.out.symm] at hM2 hB2
          clear hX' hR' hc' hbn' c0' hZ' hZ2' Hnext
          go_wp2
          go_roundg (gk - 1)
          case measure => omega
          case rel => exact ⟨k + 1, _, _, _, _, _, _, _, by omega, by go_num, c2, hbn2, hR2, hc2, hM2, hB2, ho1, ho2, hX2, HE'⟩
        · have hd' : (d == 0) = false := by simpa using hd
          rw [if_neg hd] at Hnext
          obtain ⟨s1, s2⟩ : w5.cell? ⟨Be, k, none⟩ = some (.int .i64 (nth es k)) ∧ w5.frozen? ⟨Be, k, none⟩ = false := ⟨hX.cells k hk, hX.frozen k⟩
          have hX2 := hX.put hk d
          have hR2 := hR.set (p := ⟨Be, k, none⟩) (by show Be ≠ _; omega) (.int .i64 d)
          have hc2 := hc.set (p := ⟨Be, k, none⟩) (by show Be ≠ _; omega) (.int .i64 d)
          have hbn2 := hbn.set (p := ⟨Be, k, none⟩) (by show Be ≠ _; omega) (.int .i64 d)
          have c2 := c0.setCell (p := ⟨Be, k, none⟩) (by show _ ≤ Be; omega) (.int .i64 d)
          have hM2 := hI.setOff hoM (p := ⟨Be, k, none⟩) rfl (.int .i64 d)
          have hB2 := hI2.setOff hoB (p := ⟨Be, k, none⟩) rfl (.int .i64 d)
          rw [show ck = caseAt n cs os (k + 1) from Hnext.out.symm] at hM2 hB2
          clear hX hR hc hbn c0 hI hI2 Hnext hZ hZ2 hbx
          go_wp2
          go_roundg (gk - 1)
          case measure => omega
          case rel => exact ⟨k + 1, _, _, _, _, _, _, _, by omega, by go_num, c2, hbn2, hR2, hc2, hM2, hB2, hoM, hoB, hX2, HE'⟩
      · obtain rfl : k = len := by omega
        have e0 : Hid (caseAt n cs os k = (playC n cs os).1) := caseAt_all n cs (by rw [Hlen.out]; exact Nat.le_refl _)
        rw [e0.out] at hI hI2
        have e1 : es = (playC n cs os).2 := eq_of_nth _ _ (by rw [hX.len, play_length, Hlen.out]) fun j hj => HE.out j (by rw [← hX.len]; exact hj)
        subst e1
        obtain ⟨y1, y2, _, _, _⟩ := hc.facts
        obtain ⟨q1, q2, q3, q4, q5⟩ := hR.facts
        obtain ⟨W2, HW2⟩ : ∃ W2, Hid ((wr.setCell ⟨w.heap.size + 1, 0, none⟩ (.slice xa xl xc)).setCell ⟨w.heap.size + 1, 1, none⟩ (.slice ya yl yc) = W2) := ⟨_, rfl⟩
        obtain ⟨z1, z2, z3, z4⟩ := hR.fill c0 (by omega) HW2.out hI hI2
        have hX' := (hX.set (p := ⟨w.heap.size + 1, 0, none⟩) (by show w.heap.size + 1 ≠ Be; omega) (.slice xa xl xc)).set (p := ⟨w.heap.size + 1, 1, none⟩) (by show w.heap.size + 1 ≠ Be; omega) (.slice ya yl yc)
        rw [HW2.out] at hX'
        have hL := hX'.ints
        clear hI hI2 hX hR hc hbn c0 hX'
        go_wp2
        rw [HW2.out]
        exact bodyPost_ret (v := .tuple #[.agg #[.slice xa xl xc, .slice ya yl yc], .slice (some ⟨Be, 0, none⟩) k k, .int .i64 0]) (results_case3 rfl rfl rfl rfl z1 z2) rfl ⟨_, _, by rw [Hall.out], by rw [Hall.out]; exact z3, by rw [Hall.out]; exact hL, z4⟩
  · have E : Hid (playAll n i os = (noCase, [], d)) := by show _ = _; unfold playAll; rw [if_neg (by rw [Hd.out]; exact hd), Hd.out]
    have hd' : (d == 0) = false := by simpa using hd
    have hd2 : (d != 0) = true := by simpa using hd
    obtain ⟨q1, q2, q3, q4, q5⟩ := hR.facts
    obtain ⟨W2, HW2⟩ : ∃ W2, Hid ((w2.setCell ⟨w.heap.size + 1, 0, none⟩ (.slice none 0 0)).setCell ⟨w.heap.size + 1, 1, none⟩ (.slice none 0 0) = W2) := ⟨_, rfl⟩
    obtain ⟨z1, z2, z3, z4⟩ := hR.fill c0 (by omega) HW2.out (Ints.nil _) (Ints.nil _)
    clear hI hI2 hc hbn Hd
    go_wp2
    rw [HW2.out]
    exact bodyPost_ret (v := .tuple #[.agg #[.slice none 0 0, .slice none 0 0], .slice none 0 0, .int .i64 d]) (results_case3 rfl rfl rfl rfl z1 z2) rfl ⟨_, _, by rw [E.out], by rw [E.out]; exact z3, by rw [E.out]; exact Ints.nil _, z4⟩

end Go.Proofs.Ytffaamljogbmlaa
