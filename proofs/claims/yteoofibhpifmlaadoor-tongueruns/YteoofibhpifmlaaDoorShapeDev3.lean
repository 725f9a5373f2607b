/- Package shape as it landed: the mark at the beginning; what comes ahead and behind; all on ways. -/
import Derived.Test.YteoofibhpifmlaaDoorShapeDev2
import Derived.Test.YteoofibhpifmlaaDoorRowAt
import Derived.Test.YteoofibhpifmlaaDoorTranFun
namespace Go.Proofs.YteoofibhpifmlaaDoor
open Go.RowKit
set_option linter.unusedVariables false
set_option maxRecDepth 4000

set_option maxHeartbeats 1000000 in
theorem shape_start_own (v : Value) (n : NetL) (i : Int) (w : World) (hv : Net w v n) :
    Calls Tryd.prog 12 #[v, .int .i64 i] w fun e w' => ∃ r, e = .returned r ∧ On (fun k => w.heap.size ≤ k) w' (fun w'' => Ints w'' r (startL n.places i)) ∧ Below w.heap.size w w' := by
  obtain ⟨tv, rfl, hT⟩ := hv
  obtain ⟨w0, Hw0⟩ : ∃ w0, Hid (w.alloc (.cells #[.int .i64 n.places, tv] 24) = w0) := ⟨_, rfl⟩
  have c : Below w.heap.size w w0 := by rw [← Hw0.out]; exact below_new _ _
  have hbx : Box2 w0 w.heap.size (.int .i64 n.places) tv := by rw [← Hw0.out]; exact box2_new w _ tv 24
  obtain ⟨P, HP⟩ : ∃ P, Hid (n.places = P) := ⟨_, rfl⟩
  rw [HP.out] at hbx Hw0 ⊢
  obtain ⟨N, HN⟩ : ∃ N : Nat, Hid ((min P 16).toNat = N) := ⟨_, rfl⟩
  have HL : Hid ((startL P i).length = N) := (start_length P i).trans HN.out
  have HA : Hid (∀ j, j < N → nth (startL P i) j = if (j : Int) = i then 1 else 0) := fun j hj => start_at P i j (by rw [HN.out]; exact hj)
  have hN16 : N ≤ 16 := by rw [← HN.out]; omega
  obtain ⟨x0, x1, x2⟩ := id hbx
  obtain ⟨w1, hmk, hR⟩ : ∃ w1, (Instr.makeSlice 25 (.int .i64 (min (max P 0) 16)) (.int .i64 (min (max P 0) 16))).run Tryd.prog w0 = .ok (.slice (some ⟨w0.heap.size, 0, none⟩) N N) w1 ∧ RowAt w0.heap.size w0 w1 N (fun _ => 0) :=
    make_intsZ w0 N _ (by rw [← HN.out]; omega) (by omega)
  have hcase : (P < 0 ∧ min (max P 0) 16 = 0) ∨ (P = 0 ∧ min (max P 0) 16 = 0) ∨ (0 < P ∧ P < 16 ∧ min (max P 0) 16 = P) ∨ (P = 16 ∧ min (max P 0) 16 = 16) ∨ (16 < P ∧ min (max P 0) 16 = 16) := by omega
  clear HN HP
  go_enter Tryd.func12, Tryd.ntmps12
  go_upto_region 1 with fail
  rw [Hw0.out]
  clear Hw0
  by_cases hin : 0 ≤ i ∧ i < N
  · obtain ⟨k, rfl⟩ : ∃ k : Nat, i = k := ⟨i.toNat, by omega⟩
    have hk : k < N := by omega
    clear hin
    have R1 := hR.put (k := k) hk (x := 1) (g := fun j => if (j : Int) = (k : Int) then 1 else 0) (by simp) (fun j _ hj => by simp; omega)
    have R : On (fun k => w.heap.size ≤ k) (w1.setCell ⟨w0.heap.size, k, none⟩ (.int .i64 1)) (fun w'' => Ints w'' (.slice (some ⟨w0.heap.size, 0, none⟩) N N) (startL P (k : Int))) :=
      (R1.on HL.out HA.out (by omega) (Nat.le_refl _) (by omega)).weaken fun k _ hk => Nat.le_trans c.size hk
    have R2 := below_then c R1.below
    have HR : Hid _ := R
    have HR2 : Hid _ := R2
    have f := hR.frozen k hk
    have c1 := hR.cells k hk
    clear R R1 R2 hR
    rcases hcase with ⟨h1, e⟩ | ⟨rfl, e⟩ | ⟨h1, h2, e⟩ | ⟨rfl, e⟩ | ⟨h1, e⟩
    all_goals
      rw [e] at hmk
      clear e
      go_wp2
      go_ret
      exact ⟨_, rfl, HR.out, HR2.out⟩
  · have R : On (fun k => w.heap.size ≤ k) w1 (fun w'' => Ints w'' (.slice (some ⟨w0.heap.size, 0, none⟩) N N) (startL P i)) :=
      (hR.on HL.out (fun j hj => by rw [HA.out j hj, if_neg (by omega)]) (by omega) (Nat.le_refl _) (by omega)).weaken fun k _ hk => Nat.le_trans c.size hk
    have R2 := below_then c hR.below
    have HR : Hid _ := R
    have HR2 : Hid _ := R2
    clear R R2 hR
    have hor : decide (0 ≤ i) = false ∨ (0 ≤ i ∧ decide (i < (N : Int)) = false) := by
      simp only [decide_eq_false_iff_not]
      omega
    clear hin
    rcases hor with h0 | ⟨h0, h3⟩
    all_goals
      rcases hcase with ⟨h1, e⟩ | ⟨rfl, e⟩ | ⟨h1, h2, e⟩ | ⟨rfl, e⟩ | ⟨h1, e⟩
      all_goals
        rw [e] at hmk
        clear e
        go_wp2
        go_ret
        exact ⟨_, rfl, HR.out, HR2.out⟩

/-- A place of a net. -/
def isPlace (P p : Int) : Bool := decide (0 ≤ p) && decide (p < P)

theorem ends1_any (bn : Nat) (P p : Int) (tv : Value) (w : World) (hx : Box2 w bn (.int .i64 P) tv) :
    Calls Tryd.prog 81 #[.int .i64 p, .pointer (some ⟨bn, 0, none⟩)] w fun e w' => e = .returned (.bool (isPlace P p)) ∧ w' = w := by
  obtain ⟨x0, x1, x2⟩ := hx
  go_enter Tryd.func81, Tryd.ntmps81
  cases h1 : decide (0 ≤ p)
  · have F : Hid (isPlace P p = false) := by show _ = _; simp [isPlace, h1]
    go_wp2
    go_ret
    exact ⟨ret_bool F.out.symm, rfl⟩
  · have F : Hid (isPlace P p = decide (p < P)) := by show _ = _; simp [isPlace, h1]
    have h1' : 0 ≤ p := of_decide_eq_true h1
    clear h1
    go_wp2
    go_ret
    exact ⟨ret_bool F.out.symm, rfl⟩

/-- Something comes ahead of the beginning, or behind the end. -/
def endsBad (i o : Nat) (t : TranL) : Bool := decide (0 < nth t.post i) || decide (0 < nth t.pre o)

theorem ends2_any (w0 : World) (bi bo i o : Nat) (hi : Box1 w0 bi (.int .i64 (i : Int))) (ho : Box1 w0 bo (.int .i64 (o : Int))) :
    AsksT2 w0 83 (.pointer (some ⟨bi, 0, none⟩)) (.pointer (some ⟨bo, 0, none⟩)) (fun t => i < t.post.length ∧ o < t.pre.length) (endsBad i o) := by
  intro u1 u2 x w hC hb i1 i2
  obtain ⟨hC1, hC2⟩ := hC
  obtain ⟨a1, l1, p1, rfl, hl1, _, _, hr1⟩ := id i1
  obtain ⟨a2, l2, p2, rfl, hl2, _, _, hr2⟩ := id i2
  obtain ⟨b2, o2, rfl, hb2, hc2⟩ := hr2 i hC1
  obtain ⟨b1, o1, rfl, hb1, hc1⟩ := hr1 o hC2
  have b := below_new w (.cells #[.int .i64 x.label, .slice (some ⟨b1, o1, none⟩) l1 p1, .slice (some ⟨b2, o2, none⟩) l2 p2] 37)
  have hx3 := box3_new w (.int .i64 x.label) (.slice (some ⟨b1, o1, none⟩) l1 p1) (.slice (some ⟨b2, o2, none⟩) l2 p2) 37
  obtain ⟨w1, Hw1⟩ : ∃ w1, Hid (w.alloc (.cells #[.int .i64 x.label, .slice (some ⟨b1, o1, none⟩) l1 p1, .slice (some ⟨b2, o2, none⟩) l2 p2] 37) = w1) := ⟨_, rfl⟩
  rw [Hw1.out] at b hx3
  rw [← b.cell (p := ⟨b2, o2 + i, none⟩) hb2] at hc2
  rw [← b.cell (p := ⟨b1, o1 + o, none⟩) hb1] at hc1
  obtain ⟨y0, y1⟩ := (hi.below hb).below b
  obtain ⟨z0, z1⟩ := (ho.below hb).below b
  obtain ⟨x0, x1, x2, x3⟩ := hx3
  have hil : i < l2 := by omega
  have hol : o < l1 := by omega
  obtain ⟨P, HP⟩ : ∃ P, Hid (nth x.post i = P) := ⟨_, rfl⟩
  obtain ⟨Q, HQ⟩ : ∃ Q, Hid (nth x.pre o = Q) := ⟨_, rfl⟩
  have HE : Hid (endsBad i o x = (decide (0 < P) || decide (0 < Q))) := by rw [← HP.out, ← HQ.out]; exact rfl
  rw [HP.out] at hc2
  rw [HQ.out] at hc1
  clear hi ho HP HQ hr1 hr2 i1 i2 hl1 hl2 hC1 hC2
  go_enter Tryd.func83, Tryd.ntmps83
  go_upto_region 1 with fail
  rw [Hw1.out]
  clear Hw1
  cases h1 : decide (0 < P)
  · rw [h1] at HE
    go_wp2
    go_ret
    exact ⟨ret_bool (by rw [HE.out]; simp), b⟩
  · rw [h1] at HE
    have h1' : 0 < P := of_decide_eq_true h1
    clear h1
    go_wp2
    go_ret
    exact ⟨ret_bool (by rw [HE.out]; simp), b⟩

/-- Whether there are two ends. -/
def endsL (n : NetL) (i o : Int) : Bool := isPlace n.places i && (isPlace n.places o && (!decide (i = o) && !n.trans.any (endsBad i.toNat o.toNat)))

set_option maxHeartbeats 1000000 in
theorem ends_any (v : Value) (n : NetL) (hn : netOk n = true) (i o : Int) (w : World) (hv : Net w v n) :
    Calls Tryd.prog 52 #[v, .int .i64 i, .int .i64 o] w fun e w' => e = .returned (.bool (endsL n i o)) ∧ Below w.heap.size w w' := by
  obtain ⟨tv, rfl, hT⟩ := hv
  obtain ⟨a, len, cap, rfl, hlen, hmx, hsh, hr⟩ := id hT
  clear hr
  have b1 := below_new w (.cells #[.int .i64 n.places, .slice a len cap] 24)
  have hbx := box2_new w (.int .i64 n.places) (.slice a len cap) 24
  obtain ⟨w1, Hw1⟩ : ∃ w1, Hid (w.alloc (.cells #[.int .i64 n.places, .slice a len cap] 24) = w1) := ⟨_, rfl⟩
  have s1 : w1.heap.size = w.heap.size + 1 := by rw [← Hw1.out]; simp
  rw [Hw1.out] at b1 hbx
  have b2 := below_new w1 (.cells #[.int .i64 i] 3)
  have hbi := box1_new w1 (.int .i64 i) 3
  rw [s1] at hbi
  obtain ⟨w2, Hw2⟩ : ∃ w2, Hid (w1.alloc (.cells #[.int .i64 i] 3) = w2) := ⟨_, rfl⟩
  have s2 : w2.heap.size = w.heap.size + 1 + 1 := by rw [← Hw2.out]; simp [s1]
  rw [Hw2.out] at b2 hbi
  have b3 := below_new w2 (.cells #[.int .i64 o] 3)
  have hbo := box1_new w2 (.int .i64 o) 3
  rw [s2] at hbo
  obtain ⟨w3, Hw3⟩ : ∃ w3, Hid (w2.alloc (.cells #[.int .i64 o] 3) = w3) := ⟨_, rfl⟩
  rw [Hw3.out] at b3 hbo
  replace hbx := (hbx.below b2).below b3
  replace hbi := hbi.below b3
  replace hT := ((hT.below b1).below b2).below b3
  have B := below_then b1 (below_then b2 b3)
  have HW : Hid (((w.alloc (.cells #[.int .i64 n.places, .slice a len cap] 24)).alloc (.cells #[.int .i64 i] 3)).alloc (.cells #[.int .i64 o] 3) = w3) := by rw [Hw1.out, Hw2.out]; exact Hw3
  clear Hw1 Hw2 Hw3 b1 b2 b3 s1 s2
  obtain ⟨x0, x1, x2⟩ := id hbx
  obtain ⟨y0, y1⟩ := id hbi
  obtain ⟨z0, z1⟩ := id hbo
  go_enter Tryd.func52, Tryd.ntmps52
  go_upto_region 1 with fail
  rw [HW.out]
  clear HW
  go_wp2_with fail
  refine (ends1_any _ n.places i _ _ hbx).mono ?_
  rintro e w' ⟨rfl, rfl⟩
  cases p1 : isPlace n.places i
  · have F : Hid (endsL n i o = false) := by show _ = _; simp [endsL, p1]
    go_wp2
    go_ret
    exact ⟨ret_bool F.out.symm, B⟩
  · go_wp2_with fail
    refine (ends1_any _ n.places o _ _ hbx).mono ?_
    rintro e w' ⟨rfl, rfl⟩
    cases p2 : isPlace n.places o
    · have F : Hid (endsL n i o = false) := by show _ = _; simp [endsL, p2]
      go_wp2
      go_ret
      exact ⟨ret_bool F.out.symm, B⟩
    · by_cases e : i = o
      · have F : Hid (endsL n i o = false) := by show _ = _; simp [endsL, e]
        subst e
        go_wp2
        go_ret
        exact ⟨ret_bool F.out.symm, B⟩
      · have F : Hid (endsL n i o = !n.trans.any (endsBad i.toNat o.toNat)) := by show _ = _; simp [endsL, p1, p2, e]
        simp only [isPlace, Bool.and_eq_true, decide_eq_true_eq] at p1 p2
        obtain ⟨ki, rfl⟩ : ∃ k : Nat, i = k := ⟨i.toNat, by omega⟩
        obtain ⟨ko, rfl⟩ : ∃ k : Nat, o = k := ⟨o.toNat, by omega⟩
        simp only [Int.toNat_natCast] at F
        have HC : Hid (∀ j, j < n.trans.length → ki < (tranAt n.trans j).post.length ∧ ko < (tranAt n.trans j).pre.length) := fun j hj => by
          have := tran_length hn hj
          omega
        have he : ((ki : Int) == (ko : Int)) = false := by rw [beq_eq_false_iff_ne]; omega
        have HA : Hid _ := ends2_any _ _ _ ki ko hbi hbo
        clear p1 p2 hbi hbo hn e
        go_wp2_with fail
        refine (containstransQ _ 83 _ _ _ _ HA.out Tryd.call83 _ n.trans HC.out _ (Below.refl _ _) (by exact hT)).mono ?_
        rintro e w4 ⟨rfl, b⟩
        have R := below_then B b
        clear b B
        go_wp2
        go_ret
        exact ⟨ret_bool (by rw [F.out]), R⟩

/-- All are on ways from one end to the other. -/
def Between (n : NetL) (i o : Nat) : Prop := (∀ x, FitS n x → OnWay n (false, i) x) ∧ ∀ x, FitS (turnL n) x → OnWay (turnL n) (false, o) x

set_option maxHeartbeats 1000000 in
theorem between_any (v : Value) (n : NetL) (hn : netOk n = true) (i o : Nat) (hi : (i : Int) < n.places) (ho : (o : Int) < n.places) (w : World) (hv : Net w v n) :
    Calls Tryd.prog 53 #[v, .int .i64 (i : Int), .int .i64 (o : Int)] w fun e w' => ∃ b : Bool, e = .returned (.bool b) ∧ (b = true ↔ Between n i o) ∧ Below w.heap.size w w' := by
  obtain ⟨tv, rfl, hT⟩ := id hv
  obtain ⟨a, len, cap, rfl, hlen, hmx, hsh, hr⟩ := id hT
  clear hr hT
  have b1 := below_new w (.cells #[.int .i64 n.places, .slice a len cap] 24)
  have hbx := box2_new w (.int .i64 n.places) (.slice a len cap) 24
  obtain ⟨w1, Hw1⟩ : ∃ w1, Hid (w.alloc (.cells #[.int .i64 n.places, .slice a len cap] 24) = w1) := ⟨_, rfl⟩
  rw [Hw1.out] at b1 hbx
  replace hv := hv.below b1
  have hh := head_of hn
  have Htn : Hid (netOk (turnL n) = true) := turn_ok n hn
  have M1 : Hid _ := fun us h1 h2 => @met_all n hn (false, i) hi us h1 h2
  have M2 : Hid _ := fun us h1 h2 => @met_all (turnL n) Htn.out (false, o) ho us h1 h2
  rw [turn_count, hlen] at M2
  rw [hlen] at M1
  obtain ⟨x0, x1, x2⟩ := id hbx
  have hP0 := hh.1
  have hP1 := hh.2.1
  have hP2 : len ≤ 24 := by have := hh.2.2; omega
  clear hh
  go_enter Tryd.func53, Tryd.ntmps53
  go_upto_region 1 with fail
  rw [Hw1.out]
  clear Hw1
  go_wp2_with fail
  refine (met_any _ n hn i hi _ (by exact hv)).mono ?_
  rintro e w2 ⟨us, rfl, hd1, hm1, b2⟩
  replace hbx := hbx.below b2
  replace hv := hv.below b2
  have B := below_then b1 b2
  have M : Hid _ := M1.out us hd1 hm1
  clear b1 b2 M1 hd1 hm1 x0 x1 x2
  obtain ⟨x0, x1, x2⟩ := id hbx
  by_cases e1 : (us.length : Int) = n.places + len
  · have M' : Hid _ := M.out.1 e1
    clear M
    go_wp2_with fail
    refine (net_turned _ n _ (by exact hv)).mono ?_
    rintro e w3 ⟨r, rfl, hr, b⟩
    replace B := below_then B b
    clear b x0 x1 x2 hbx hv
    go_wp2_with fail
    refine (met_any _ (turnL n) Htn.out o (by exact ho) _ hr).mono ?_
    rintro e w4 ⟨ts, rfl, hd2, hm2, b⟩
    replace B := below_then B b
    have N : Hid _ := M2.out ts hd2 hm2
    clear b hd2 hm2 M2 hr
    go_wp2
    go_ret
    refine ⟨_, rfl, ?_, B⟩
    have hN := N.out
    have e2 : (turnL n).places = n.places := rfl
    rw [e2] at hN
    rw [beq_iff_eq, hN]
    exact ⟨fun h => ⟨M'.out, h⟩, fun h => h.2⟩
  · have F : Hid (¬ Between n i o) := fun h => e1 (M.out.2 h.1)
    have e1' : ((us.length : Int) == n.places + (len : Int)) = false := by rw [beq_eq_false_iff_ne]; exact e1
    clear M M2 e1
    go_wp2
    go_ret
    exact ⟨false, rfl, by simp [F.out], B⟩

end Go.Proofs.YteoofibhpifmlaaDoor
