/- Package tongue as it landed: near. -/
import Derived.Test.YteoofibhpifmlaaDoorTongWord
import Derived.Test.YteoofibhpifmlaaDoorTongHas
namespace Go.Proofs.YteoofibhpifmlaaDoor
open Go.RowKit Go.Shelf
set_option linter.unusedVariables false
set_option linter.unusedSimpArgs false
set_option maxRecDepth 4000

/-- The marks among the first k from which the end is not far. -/
def NearTo (t : TalkL) (room : Int) (k : Nat) (q : SetL) : Prop := ∀ j, j < 320 → (q.has j = true ↔ j < k ∧ nth t.least j ≤ room)
theorem NearTo.zero (t : TalkL) (room : Int) : NearTo t room 0 noneS := fun j _ => by rw [has_none]; simp
theorem NearTo.more {t : TalkL} {room : Int} {k : Nat} {q : SetL} (h : NearTo t room k q) (hk : nth t.least k ≤ room) : NearTo t room (k + 1) (orS q (onlyS k)) := by
  intro j hj
  rw [has_or, Bool.or_eq_true, h j hj, has_only, decide_eq_true_eq]
  constructor
  · rintro (⟨h1, h2⟩ | rfl)
    · exact ⟨by omega, h2⟩
    · exact ⟨by omega, hk⟩
  · rintro ⟨h1, h2⟩
    by_cases e : j = k
    · exact .inr e
    · exact .inl ⟨by omega, h2⟩
theorem NearTo.skip {t : TalkL} {room : Int} {k : Nat} {q : SetL} (h : NearTo t room k q) (hk : ¬ nth t.least k ≤ room) : NearTo t room (k + 1) q := by
  intro j hj
  rw [h j hj]
  constructor
  · rintro ⟨h1, h2⟩; exact ⟨by omega, h2⟩
  · rintro ⟨h1, h2⟩
    by_cases e : j = k
    · subst e; exact absurd h2 hk
    · exact ⟨by omega, h2⟩

set_option maxRecDepth 100000 in
set_option maxHeartbeats 4000000 in
theorem near_any (T bn : Nat) (lv : Value) (t : TalkL) (room : Int) (w : World) (hT : TalkAt w T bn lv t) (hn0 : 0 < t.n) :
    Calls Tryd.prog 50 #[.pointer (some ⟨T, 0, none⟩), .int .i64 room] w fun e w' => ∃ q, e = .returned (setV q) ∧ NearTo t room t.n q ∧ Below w.heap.size w w' := by
  have a1 := setAt_new w noneS
  have b1 := below_new w (.cells (setC noneS) 48)
  have a2 := setAt_new (w.alloc (.cells (setC noneS) 48)) noneS
  have b2 := below_new (w.alloc (.cells (setC noneS) 48)) (.cells (setC noneS) 48)
  have es : (w.alloc (.cells (setC noneS) 48)).heap.size = w.heap.size + 1 := by simp
  rw [es] at a2
  obtain ⟨w2, Hw2⟩ : ∃ w2, Hid ((w.alloc (.cells (setC noneS) 48)).alloc (.cells (setC noneS) 48) = w2) := ⟨_, rfl⟩
  have A1 := a1.below b2
  have c := below_then b1 b2
  rw [Hw2.out] at A1 a2 c
  have e2 : (w.alloc (.cells #[.int .u64 0, .int .u64 0, .int .u64 0, .int .u64 0, .int .u64 0] 48)).alloc (.cells #[.int .u64 0, .int .u64 0, .int .u64 0, .int .u64 0, .int .u64 0] 48) = w2 := Hw2.out
  have He2 : Hid _ := e2
  clear a1 b1 b2 es Hw2 e2
  have t6 := (hT.below c).c6
  obtain ⟨b, off, cap, rfl, hlt, _⟩ := hT.least_at hn0
  obtain ⟨N, HN⟩ : ∃ N, Hid (t.n = N) := ⟨_, rfl⟩
  have hN := hT.small
  rw [HN.out] at hN t6 hn0 ⊢
  go_enter Tryd.func50, Tryd.ntmps50
  go_upto_region 2 with fail
  rw [He2.out]
  clear He2
  go_wp2_with fail
  clear t6
  go_loopg [13] N (fun g x wr => ∃ (k : Nat) (q : SetL), k + g = N ∧ x = .int .i64 (k : Int) ∧ SetAt wr (w.heap.size + 1) q ∧ SetAt wr w.heap.size noneS ∧ NearTo t room k q ∧ Below w.heap.size w wr)
  case atStart => exact ⟨0, noneS, by omega, rfl, a2, A1, NearTo.zero _ _, c⟩
  case round =>
    clear a2 A1 c
    obtain ⟨k, q, hkg, rfl, hQ, hNo, hq, hB⟩ := hrel
    by_cases hk : k < N
    · have hk' : decide ((k : Int) < (N : Int)) = true := by rw [decide_eq_true_eq]; omega
      obtain ⟨b', off', cap', e', hlt', hcl⟩ := (hT.below hB).least_at (m := k) (by rw [HN.out]; exact hk)
      injection e' with e1 e2 e3
      injection e1 with e1
      injection e1 with e1 e4
      subst e1 e4 e3
      clear e2
      by_cases hle : nth t.least k ≤ room
      · have hle' : decide (nth t.least k ≤ room) = true := by rw [decide_eq_true_eq]; exact hle
        have Hq : Hid (NearTo t room (k + 1) (orS q (onlyS k))) := hq.more hle
        clear hle
        go_upto_region 6 with fail
        have hdr : Below wr.heap.size wr wr.drew := (Below.refl _ _).drew
        obtain ⟨_, q0, q1, q2, q3, q4⟩ := hQ.c
        simp only [Nat.zero_add] at q1 q2 q3 q4
        clear hcl
        refine wp_region_held_drew (S := (fun _ => True)) (by kernel_rfl) trivial (fun hH => ?_)
        refine wpAnyH_take (i := 1) rfl (by kernel_rfl) (by kernel_rfl) (by kernel_rfl) (fun _ _ _ h => h) (.inl ⟨by rfl, fun _ _ => rfl⟩) hH ?_
        simp only [List.getElem_toArray, List.getElem_cons_succ, List.getElem_cons_zero, Act.put, List.setIfInBounds_toArray, List.set_cons_zero, List.set_cons_succ]
        refine wpAnyH_ready (rs := [0, 2]) (by kernel_rfl) (by simp) ?_
        refine AllReadyH.cons rfl (fun K hK => ?_) (AllReadyH.cons rfl (fun K hK => ?_) AllReadyH.nil)
        · simp only [List.getElem_toArray, List.getElem_cons_succ, List.getElem_cons_zero]
          rw [if_pos (by rfl)]
          go_wp2_with fail
          refine hK.out _ _ trivial (fun hH => ?_)
          refine wpAnyH_ready (rs := [2]) (by kernel_rfl) (by simp) ?_
          refine AllReadyH.cons rfl (fun K hK => ?_) AllReadyH.nil
          simp only [List.getElem_toArray, List.getElem_cons_succ, List.getElem_cons_zero]
          rw [if_pos (by rfl)]
          go_wp2_with fail
          refine (only_any k (by omega) _).mono ?_
          rintro e w4 ⟨rfl, bo⟩
          have qq := below_then hdr bo
          refine hK.out _ _ trivial (fun hH => ?_)
          clear q0 q1 q2 q3 q4
          refine wpAnyH_ready (rs := [3]) (by kernel_rfl) (by simp) ?_
          refine AllReadyH.cons rfl (fun K hK => ?_) AllReadyH.nil
          simp only [List.getElem_toArray, List.getElem_cons_succ, List.getElem_cons_zero]
          rw [if_pos (by rfl)]
          go_wp2_with fail
          refine (or_any q (onlyS k) _).mono ?_
          rintro e w5 ⟨rfl, bo2⟩
          have q5 := below_then qq bo2
          refine hK.out _ _ trivial (fun hH => ?_)
          have hQ5 := hQ.below q5
          have hN5 := hNo.below q5
          obtain ⟨_, p0, p1, p2, p3, p4⟩ := hQ5.c
          simp only [Nat.zero_add] at p1 p2 p3 p4
          have f0 := hQ5.frozen 0
          have f1 := hQ5.frozen 1
          have f2 := hQ5.frozen 2
          have f3 := hQ5.frozen 3
          have f4 := hQ5.frozen 4
          obtain ⟨W5, HW5, hS5, hB5, ho5, hz5⟩ := hQ5.store (orS q (onlyS k))
          refine wpAnyH_ready (rs := [4]) (by kernel_rfl) (by simp) ?_
          refine AllReadyH.cons rfl (fun K hK => ?_) AllReadyH.nil
          simp only [List.getElem_toArray, List.getElem_cons_succ, List.getElem_cons_zero]
          rw [if_pos (by rfl)]
          go_wp2_with fail
          rw [HW5.out]
          refine hK.out _ _ trivial (fun hH => ?_)
          refine wpAnyH_done (by kernel_rfl) ?_ _
          have hN6 : SetAt W5 w.heap.size noneS := (ho5 _ (by omega)).trans hN5
          have hB6 : Below w.heap.size w W5 := (hB.trans (q5.mono hB.size)).trans (hB5.mono (by omega))
          clear p0 p1 p2 p3 p4 f0 f1 f2 f3 f4 HW5 hQ5 hN5 ho5 hz5 hH hQ hNo hq
          go_wp2
          go_roundg (gk - 1)
          case measure => omega
          case rel => exact ⟨k + 1, orS q (onlyS k), by omega, by go_num, hS5, hN6, Hq.out, hB6⟩
        · simp only [List.getElem_toArray, List.getElem_cons_succ, List.getElem_cons_zero]
          rw [if_pos (by rfl)]
          go_wp2_with fail
          refine (only_any k (by omega) _).mono ?_
          rintro e w4 ⟨rfl, bo⟩
          have qq := below_then hdr bo
          refine hK.out _ _ trivial (fun hH => ?_)
          clear q0 q1 q2 q3 q4
          obtain ⟨_, q0, q1, q2, q3, q4⟩ := (hQ.below qq).c
          simp only [Nat.zero_add] at q1 q2 q3 q4
          refine wpAnyH_ready (rs := [0]) (by kernel_rfl) (by simp) ?_
          refine AllReadyH.cons rfl (fun K hK => ?_) AllReadyH.nil
          simp only [List.getElem_toArray, List.getElem_cons_succ, List.getElem_cons_zero]
          rw [if_pos (by rfl)]
          go_wp2_with fail
          refine hK.out _ _ trivial (fun hH => ?_)
          clear q0 q1 q2 q3 q4
          refine wpAnyH_ready (rs := [3]) (by kernel_rfl) (by simp) ?_
          refine AllReadyH.cons rfl (fun K hK => ?_) AllReadyH.nil
          simp only [List.getElem_toArray, List.getElem_cons_succ, List.getElem_cons_zero]
          rw [if_pos (by rfl)]
          go_wp2_with fail
          refine (or_any q (onlyS k) _).mono ?_
          rintro e w5 ⟨rfl, bo2⟩
          have q5 := below_then qq bo2
          refine hK.out _ _ trivial (fun hH => ?_)
          have hQ5 := hQ.below q5
          have hN5 := hNo.below q5
          obtain ⟨_, p0, p1, p2, p3, p4⟩ := hQ5.c
          simp only [Nat.zero_add] at p1 p2 p3 p4
          have f0 := hQ5.frozen 0
          have f1 := hQ5.frozen 1
          have f2 := hQ5.frozen 2
          have f3 := hQ5.frozen 3
          have f4 := hQ5.frozen 4
          obtain ⟨W5, HW5, hS5, hB5, ho5, hz5⟩ := hQ5.store (orS q (onlyS k))
          refine wpAnyH_ready (rs := [4]) (by kernel_rfl) (by simp) ?_
          refine AllReadyH.cons rfl (fun K hK => ?_) AllReadyH.nil
          simp only [List.getElem_toArray, List.getElem_cons_succ, List.getElem_cons_zero]
          rw [if_pos (by rfl)]
          go_wp2_with fail
          rw [HW5.out]
          refine hK.out _ _ trivial (fun hH => ?_)
          refine wpAnyH_done (by kernel_rfl) ?_ _
          have hN6 : SetAt W5 w.heap.size noneS := (ho5 _ (by omega)).trans hN5
          have hB6 : Below w.heap.size w W5 := (hB.trans (q5.mono hB.size)).trans (hB5.mono (by omega))
          clear p0 p1 p2 p3 p4 f0 f1 f2 f3 f4 HW5 hQ5 hN5 ho5 hz5 hH hQ hNo hq
          go_wp2
          go_roundg (gk - 1)
          case measure => omega
          case rel => exact ⟨k + 1, orS q (onlyS k), by omega, by go_num, hS5, hN6, Hq.out, hB6⟩
      · have hle' : decide (nth t.least k ≤ room) = false := by rw [decide_eq_false_iff_not]; exact hle
        have Hq : Hid (NearTo t room (k + 1) q) := hq.skip hle
        clear hle hq
        go_wp2
        go_roundg (gk - 1)
        case measure => omega
        case rel => exact ⟨k + 1, q, by omega, by go_num, hQ, hNo, Hq.out, hB⟩
    · obtain rfl : k = N := by omega
      clear hk
      have hkk : decide ((k : Int) < (k : Int)) = false := by simp
      obtain ⟨_, q0, q1, q2, q3, q4⟩ := hQ.c
      obtain ⟨_, p0, p1, p2, p3, p4⟩ := hNo.c
      simp only [Nat.zero_add] at q1 q2 q3 q4 p1 p2 p3 p4
      have f0 := hNo.frozen 0
      have f1 := hNo.frozen 1
      have f2 := hNo.frozen 2
      have f3 := hNo.frozen 3
      have f4 := hNo.frozen 4
      obtain ⟨W5, HW5, hS5, hB5, ho5, hz5⟩ := hNo.store q
      have R : Below w.heap.size w W5 := hB.trans hB5
      clear hQ hNo ho5 hz5
      go_wp2_with fail
      rw [HW5.out]
      exact bodyPost_ret (results_set rfl rfl hS5.c) rfl ⟨q, rfl, hq, R⟩

end Go.Proofs.YteoofibhpifmlaaDoor
