/- The answers of the document itself for live: what needs no closure. -/
import Derived.Test.YtlejaeecfeiajaaLiveMem
import Derived.Test.YtlejaeecfeiajaaOwn
import Derived.Test.YtlejaeecfeiajaaMark2
import Derived.BigQuiet
namespace Go.Proofs.Ytlejaeecfeiajaa
open Go.RowKit
set_option linter.unusedVariables false
set_option maxRecDepth 4000

/-- The first k numbers of which p tells. -/
def pickTo (p : Int → Bool) (k : Nat) : List Int := (rangeL k).filter p
theorem rangeL_succ (k : Nat) : rangeL (k + 1) = rangeL k ++ [(k : Int)] := by unfold rangeL; rw [List.range_succ, List.map_append]; rfl
theorem pickTo_yes (p : Int → Bool) (k : Nat) (h : p k = true) : pickTo p (k + 1) = pickTo p k ++ [(k : Int)] := by
  unfold pickTo; rw [rangeL_succ, List.filter_append]; simp [h]
theorem pickTo_no (p : Int → Bool) (k : Nat) (h : p k = false) : pickTo p (k + 1) = pickTo p k := by
  unfold pickTo; rw [rangeL_succ, List.filter_append]; simp [h]
theorem pickTo_le (p : Int → Bool) (k : Nat) : (pickTo p k).length ≤ k := by
  unfold pickTo
  refine Nat.le_trans (List.length_filter_le _ _) ?_
  simp [rangeL]

/-- All of the first k arcs. -/
def allA (p : Int × Int × Int → Bool) (l : List (Int × Int × Int)) (k : Nat) : Bool := (l.take k).all p
theorem allA_succ (p : Int × Int × Int → Bool) {l : List (Int × Int × Int)} {k : Nat} (hk : k < l.length) : allA p l (k + 1) = (allA p l k && p l[k]) := by
  unfold allA; rw [List.take_succ_eq_append_getElem hk, List.all_append]; simp
theorem allA_all (p : Int × Int × Int → Bool) (l : List (Int × Int × Int)) {k : Nat} (hk : k = l.length) : allA p l k = l.all p := by
  unfold allA; rw [List.take_of_length_le (by omega)]
theorem allA_zero (p : Int × Int × Int → Bool) (l : List (Int × Int × Int)) : allA p l 0 = true := rfl

theorem stuck_pick (s : SpaceZ) : stuckL s = pickTo (fun k => s.arcs.all fun a => a.1 != k) s.marks.length := rfl
theorem dead_pick (s : SpaceZ) (T : Int) : deadL s T = pickTo (fun k => s.arcs.all fun a => a.2.1 != k) (min T 24).toNat := rfl

set_option maxHeartbeats 1000000 in
theorem gstuck_any (v : Value) (s : SpaceZ) (w : World) (hv : SpaceV w v s) :
    Calls Try.prog 15 #[v] w fun e w' => ∃ r, e = .returned r ∧ Ints w' r (stuckL s) ∧ Below w.heap.size w w' := by
  obtain ⟨hN, mv, av, rfl, hM, hA⟩ := hv
  clear hN
  obtain ⟨am, cm, rfl, hlm, _⟩ := hM.slice
  obtain ⟨aa, ca, rfl, hla⟩ := hA.slice
  have E : Hid (stuckL s = pickTo (fun k => s.arcs.all fun a => a.1 != k) s.marks.length) := stuck_pick s
  obtain ⟨lm, Hlm⟩ : ∃ lm, Hid (s.marks.length = lm) := ⟨_, rfl⟩
  obtain ⟨la, Hla⟩ : ∃ la, Hid (s.arcs.length = la) := ⟨_, rfl⟩
  rw [Hlm.out] at hlm ⊢
  rw [Hla.out] at hA hla ⊢
  replace E : Hid (stuckL s = pickTo (fun k => s.arcs.all fun a => a.1 != k) lm) := by rw [← Hlm.out]; exact E.out
  clear hM
  have c := below_new w (.cells #[.slice am lm cm, .slice aa la ca] 25)
  have hbx := box2_new w (.slice am lm cm) (.slice aa la ca) 25
  replace hA := hA.below c
  obtain ⟨W0, HW0⟩ : ∃ W0, Hid (w.alloc (.cells #[.slice am lm cm, .slice aa la ca] 25) = W0) := ⟨_, rfl⟩
  rw [HW0.out] at c hbx hA
  go_enter Try.func15, Try.ntmps15
  go_upto_region 1 with fail
  rw [HW0.out]
  clear HW0
  obtain ⟨x0, x1, x2⟩ := id hbx
  go_wp2_with fail
  clear x0 x1 x2
  go_loopg [3, 11] lm (fun g o i wr => ∃ k : Nat, k + g = lm ∧ i = .int .i64 k ∧ Own W0.heap.size W0 wr o (pickTo (fun k => s.arcs.all fun a => a.1 != k) k))
  case atStart => exact ⟨0, by omega, rfl, Own.nil _⟩
  case round =>
    obtain ⟨k, hkg, rfl, hO⟩ := hrel
    obtain ⟨G, hGk⟩ : ∃ G, G = gk := ⟨_, rfl⟩
    obtain ⟨W, hW⟩ : ∃ W, W = wr := ⟨_, rfl⟩
    subst hGk hW
    have hle := pickTo_le (fun k => s.arcs.all fun a => a.1 != k) k
    by_cases hkn : k < lm
    · obtain ⟨y0, y1, y2⟩ := hbx.below hO.2.1
      have hA2 := hA.below hO.2.1
      have Hy : Hid _ := pickTo_yes (fun k => s.arcs.all fun a => a.1 != k) k
      have Hn : Hid _ := pickTo_no (fun k => s.arcs.all fun a => a.1 != k) k
      go_wp2_with fail
      clear y0 y1 y2
      go_loopg [5, 17] la (fun g o i wr => ∃ j : Nat, j + g = la ∧ i = .int .i64 j ∧ o = .bool (allA (fun a => a.1 != (k : Int)) s.arcs j) ∧ Below W.heap.size W wr)
      case atStart => exact ⟨0, by omega, rfl, rfl, Below.refl _ _⟩
      case round =>
        obtain ⟨j, hjg, rfl, rfl, hb⟩ := hrel
        by_cases hjn : j < la
        · have Hjl : Hid (j < s.arcs.length) := by have := Hla.out; show j < s.arcs.length; omega
          obtain ⟨b1, o1, rfl, _, c0, c1, c2⟩ := (hA2.below hb).at Hjl.out
          have Hs : Hid _ := allA_succ (fun a => a.1 != (k : Int)) Hjl.out
          obtain ⟨A, HA⟩ : ∃ A, Hid (s.arcs[j]'Hjl.out = A) := ⟨_, rfl⟩
          obtain ⟨x, y, z⟩ := A
          rw [HA.out] at c0 c1 c2 Hs
          simp only at c0 c1 c2 Hs
          have hbn := below_then hb (below_new wr (.cells #[.int .i64 x, .int .i64 y, .int .i64 z] 44))
          cases hp : allA (fun a => a.1 != (k : Int)) s.arcs j
          · have R : Hid (allA (fun a => a.1 != (k : Int)) s.arcs (j + 1) = false) := by have := Hs.out; rw [hp] at this; exact this
            clear Hs hp
            go_wp2
            go_roundg (gk - 1)
            case measure => omega
            case rel => exact ⟨j + 1, by omega, by go_num, by rw [R.out], hbn⟩
          · have R : Hid (allA (fun a => a.1 != (k : Int)) s.arcs (j + 1) = (x != (k : Int))) := by have := Hs.out; rw [hp] at this; exact this
            clear Hs hp
            go_wp2
            go_roundg (gk - 1)
            case measure => omega
            case rel => exact ⟨j + 1, by omega, by go_num, by rw [R.out], hbn⟩
        · have hO2 := hO.trans hb
          have F : Hid (allA (fun a => a.1 != (k : Int)) s.arcs j = s.arcs.all fun a => a.1 != (k : Int)) := allA_all _ _ (by have := Hla.out; omega)
          rw [F.out]
          clear hO hb F
          cases hp : s.arcs.all fun a => a.1 != (k : Int)
          · have R := hO2
            rw [← Hn.out hp] at R
            clear hO2 hp
            go_wp2
            go_roundg (G - 1)
            case measure => omega
            case rel => exact ⟨k + 1, by omega, by go_num, R⟩
          · go_wp2_with (at_builtin; refine wp_append_int rfl _ _ rfl W0.heap.size W0 _ _ _ (k : Int) hO2 rfl rfl (by omega) ?_; intro v' w3 hO3)
            have R : Own W0.heap.size W0 w3 v' (pickTo (fun k => s.arcs.all fun a => a.1 != k) (k + 1)) := by rw [Hy.out hp]; exact hO3
            clear hO2 hO3 hp
            go_wp2
            go_roundg (G - 1)
            case measure => omega
            case rel => exact ⟨k + 1, by omega, by go_num, R⟩
    · obtain rfl : k = lm := by omega
      have R := hO.ints (by omega)
      rw [← E.out] at R
      have R2 := below_then c hO.2.1
      clear hO
      go_wp2
      go_ret
      exact ⟨_, rfl, R, R2⟩

set_option maxHeartbeats 1000000 in
theorem gdead_any (v : Value) (s : SpaceZ) (T : Int) (w : World) (hv : SpaceV w v s) :
    Calls Try.prog 11 #[v, .int .i64 T] w fun e w' => ∃ r, e = .returned r ∧ Ints w' r (deadL s T) ∧ Below w.heap.size w w' := by
  obtain ⟨hN, mv, av, rfl, hM, hA⟩ := hv
  clear hN
  obtain ⟨am, cm, rfl, hlm, _⟩ := hM.slice
  obtain ⟨aa, ca, rfl, hla⟩ := hA.slice
  have E : Hid (deadL s T = pickTo (fun k => s.arcs.all fun a => a.2.1 != k) (min T 24).toNat) := dead_pick s T
  obtain ⟨M, HM⟩ : ∃ M, Hid (min T 24 = M) := ⟨_, rfl⟩
  have hM24 : M ≤ 24 := by have := HM.out; omega
  rw [HM.out] at E
  obtain ⟨tm, Htm⟩ : ∃ tm, Hid (M.toNat = tm) := ⟨_, rfl⟩
  rw [Htm.out] at E
  have htm24 : tm ≤ 24 := by have := Htm.out; omega
  obtain ⟨lm, Hlm⟩ : ∃ lm, Hid (s.marks.length = lm) := ⟨_, rfl⟩
  obtain ⟨la, Hla⟩ : ∃ la, Hid (s.arcs.length = la) := ⟨_, rfl⟩
  rw [Hlm.out] at hlm ⊢
  rw [Hla.out] at hA hla ⊢
  clear hM
  have c := below_new w (.cells #[.slice am lm cm, .slice aa la ca] 25)
  have hbx := box2_new w (.slice am lm cm) (.slice aa la ca) 25
  replace hA := hA.below c
  obtain ⟨W0, HW0⟩ : ∃ W0, Hid (w.alloc (.cells #[.slice am lm cm, .slice aa la ca] 25) = W0) := ⟨_, rfl⟩
  rw [HW0.out] at c hbx hA
  go_enter Try.func11, Try.ntmps11
  go_upto_region 1 with fail
  rw [HW0.out]
  clear HW0
  go_upto_region 2 with fail
  go_cut [11, 12] (fun q i wc => q = .int .i64 M ∧ i = .int .i64 0 ∧ wc = W0)
  case first =>
    have h1 := HM.out
    go_wp2_with fail
    all_goals go_meet
    all_goals refine ⟨?_, rfl, rfl⟩
    all_goals (congr 1; omega)
  obtain ⟨rfl, rfl, rfl⟩ := hcut
  obtain ⟨W0, rfl⟩ : ∃ w0, w0 = wc := ⟨_, rfl⟩
  go_wp2_with fail
  go_loopg [5, 12] tm (fun g o i wr => ∃ k : Nat, k + g = tm ∧ i = .int .i64 k ∧ Own W0.heap.size W0 wr o (pickTo (fun k => s.arcs.all fun a => a.2.1 != k) k))
  case atStart => exact ⟨0, by omega, rfl, Own.nil _⟩
  case round =>
    obtain ⟨k, hkg, rfl, hO⟩ := hrel
    obtain ⟨G, hGk⟩ : ∃ G, G = gk := ⟨_, rfl⟩
    obtain ⟨W, hW⟩ : ∃ W, W = wr := ⟨_, rfl⟩
    subst hGk hW
    have htM := Htm.out
    have hle := pickTo_le (fun k => s.arcs.all fun a => a.2.1 != k) k
    by_cases hkn : k < tm
    · have hkM : (k : Int) < M := by omega
      obtain ⟨y0, y1, y2⟩ := hbx.below hO.2.1
      have hA2 := hA.below hO.2.1
      have Hy : Hid _ := pickTo_yes (fun k => s.arcs.all fun a => a.2.1 != k) k
      have Hn : Hid _ := pickTo_no (fun k => s.arcs.all fun a => a.2.1 != k) k
      go_wp2_with fail
      clear y0 y1 y2
      go_loopg [7, 18] la (fun g o i wr => ∃ j : Nat, j + g = la ∧ i = .int .i64 j ∧ o = .bool (allA (fun a => a.2.1 != (k : Int)) s.arcs j) ∧ Below W.heap.size W wr)
      case atStart => exact ⟨0, by omega, rfl, rfl, Below.refl _ _⟩
      case round =>
        obtain ⟨j, hjg, rfl, rfl, hb⟩ := hrel
        by_cases hjn : j < la
        · have Hjl : Hid (j < s.arcs.length) := by have := Hla.out; show j < s.arcs.length; omega
          obtain ⟨b1, o1, rfl, _, c0, c1, c2⟩ := (hA2.below hb).at Hjl.out
          have Hs : Hid _ := allA_succ (fun a => a.2.1 != (k : Int)) Hjl.out
          obtain ⟨A, HA⟩ : ∃ A, Hid (s.arcs[j]'Hjl.out = A) := ⟨_, rfl⟩
          obtain ⟨x, y, z⟩ := A
          rw [HA.out] at c0 c1 c2 Hs
          simp only at c0 c1 c2 Hs
          have hbn := below_then hb (below_new wr (.cells #[.int .i64 x, .int .i64 y, .int .i64 z] 44))
          cases hp : allA (fun a => a.2.1 != (k : Int)) s.arcs j
          · have R : Hid (allA (fun a => a.2.1 != (k : Int)) s.arcs (j + 1) = false) := by have := Hs.out; rw [hp] at this; exact this
            clear Hs hp
            go_wp2
            go_roundg (gk - 1)
            case measure => omega
            case rel => exact ⟨j + 1, by omega, by go_num, by rw [R.out], hbn⟩
          · have R : Hid (allA (fun a => a.2.1 != (k : Int)) s.arcs (j + 1) = (y != (k : Int))) := by have := Hs.out; rw [hp] at this; exact this
            clear Hs hp
            go_wp2
            go_roundg (gk - 1)
            case measure => omega
            case rel => exact ⟨j + 1, by omega, by go_num, by rw [R.out], hbn⟩
        · have hO2 := hO.trans hb
          have F : Hid (allA (fun a => a.2.1 != (k : Int)) s.arcs j = s.arcs.all fun a => a.2.1 != (k : Int)) := allA_all _ _ (by have := Hla.out; omega)
          rw [F.out]
          clear hO hb F
          cases hp : s.arcs.all fun a => a.2.1 != (k : Int)
          · have R := hO2
            rw [← Hn.out hp] at R
            clear hO2 hp
            go_wp2
            go_roundg (G - 1)
            case measure => omega
            case rel => exact ⟨k + 1, by omega, by go_num, R⟩
          · go_wp2_with (at_builtin; refine wp_append_int rfl _ _ rfl W0.heap.size W0 _ _ _ (k : Int) hO2 rfl rfl (by omega) ?_; intro v' w3 hO3)
            have R : Own W0.heap.size W0 w3 v' (pickTo (fun k => s.arcs.all fun a => a.2.1 != k) (k + 1)) := by rw [Hy.out hp]; exact hO3
            clear hO2 hO3 hp
            go_wp2
            go_roundg (G - 1)
            case measure => omega
            case rel => exact ⟨k + 1, by omega, by go_num, R⟩
    · have hkM : ¬ (k : Int) < M := by omega
      obtain rfl : k = tm := by omega
      have R := hO.ints (by omega)
      rw [← E.out] at R
      have R2 := below_then c hO.2.1
      clear hO
      go_wp2
      go_ret
      exact ⟨_, rfl, R, R2⟩

def rightA (lm : Nat) (a : Int × Int × Int) : Bool := decide (0 ≤ a.1) && decide (a.1 < lm) && decide (0 ≤ a.2.2) && decide (a.2.2 < lm)
theorem right_all (s : SpaceZ) : rightS s = s.arcs.all (rightA s.marks.length) := rfl

set_option maxHeartbeats 1000000 in
theorem gright_any (v : Value) (s : SpaceZ) (w : World) (hv : SpaceV w v s) :
    Calls Try.prog 8 #[v] w fun e w' => e = .returned (.bool (rightS s)) ∧ Below w.heap.size w w' := by
  obtain ⟨hN, mv, av, rfl, hM, hA⟩ := hv
  clear hN
  obtain ⟨am, cm, rfl, hlm, _⟩ := hM.slice
  obtain ⟨aa, ca, rfl, hla⟩ := hA.slice
  obtain ⟨ans, E⟩ : ∃ ans, Hid (s.arcs.all (rightA s.marks.length) = ans) := ⟨_, rfl⟩
  rw [right_all, E.out]
  obtain ⟨lm, Hlm⟩ : ∃ lm, Hid (s.marks.length = lm) := ⟨_, rfl⟩
  obtain ⟨la, Hla⟩ : ∃ la, Hid (s.arcs.length = la) := ⟨_, rfl⟩
  rw [Hlm.out] at hlm E ⊢
  rw [Hla.out] at hA hla ⊢
  clear hM
  have c := below_new w (.cells #[.slice am lm cm, .slice aa la ca] 25)
  have hbx := box2_new w (.slice am lm cm) (.slice aa la ca) 25
  replace hA := hA.below c
  obtain ⟨W0, HW0⟩ : ∃ W0, Hid (w.alloc (.cells #[.slice am lm cm, .slice aa la ca] 25) = W0) := ⟨_, rfl⟩
  rw [HW0.out] at c hbx hA
  go_enter Try.func8, Try.ntmps8
  go_upto_region 1 with fail
  rw [HW0.out]
  clear HW0
  obtain ⟨x0, x1, x2⟩ := id hbx
  go_wp2_with fail
  clear x0 x1 x2
  go_loopg [8] la (fun g i wr => ∃ k : Nat, k + g = la ∧ i = .int .i64 k ∧ Hid (allA (rightA lm) s.arcs k = true) ∧ Below W0.heap.size W0 wr)
  case atStart => exact ⟨0, by omega, rfl, rfl, Below.refl _ _⟩
  case round =>
    obtain ⟨j, hjg, rfl, Hk, hb⟩ := hrel
    by_cases hjn : j < la
    · have Hjl : Hid (j < s.arcs.length) := by have := Hla.out; show j < s.arcs.length; omega
      obtain ⟨b1, o1, rfl, _, c0, c1, c2⟩ := (hA.below hb).at Hjl.out
      have Hs : Hid (allA (rightA lm) s.arcs (j + 1) = rightA lm (s.arcs[j]'Hjl.out)) := by have := allA_succ (rightA lm) Hjl.out; rw [Hk.out] at this; exact this
      have Hf : Hid (rightA lm (s.arcs[j]'Hjl.out) = false → ans = false) := fun h => by
        rw [← E.out]
        exact List.all_eq_false.2 ⟨_, List.getElem_mem Hjl.out, by rw [h]; decide⟩
      obtain ⟨A, HA⟩ : ∃ A, Hid (s.arcs[j]'Hjl.out = A) := ⟨_, rfl⟩
      obtain ⟨x, y, z⟩ := A
      rw [HA.out] at c0 c1 c2 Hs Hf
      simp only at c0 c1 c2
      have hbn := below_then hb (below_new wr (.cells #[.int .i64 x, .int .i64 y, .int .i64 z] 44))
      have hb3 := box3_new wr (.int .i64 x) (.int .i64 y) (.int .i64 z) 44
      obtain ⟨W1, HW1⟩ : ∃ W1, Hid (wr.alloc (.cells #[.int .i64 x, .int .i64 y, .int .i64 z] 44) = W1) := ⟨_, rfl⟩
      rw [HW1.out] at hbn hb3
      go_upto_region 4 with fail
      rw [HW1.out]
      clear HW1 c0 c1 c2
      obtain ⟨z0, z1, z2, z3⟩ := id hb3
      obtain ⟨x0, x1, x2⟩ := hbx.below hbn
      go_cut [28] (fun q wc => q = .bool (!rightA lm (x, y, z)) ∧ wc = W1)
      case first =>
        go_wp2_with fail
        all_goals go_meet
        all_goals refine ⟨?_, rfl⟩
        all_goals simp [rightA]
        all_goals first | omega | (rw [Bool.eq_iff_iff]; simp; omega)
      obtain ⟨rfl, rfl⟩ := hcut
      clear z0 z1 z2 z3 x0 x1 x2
      cases hr : rightA lm (x, y, z)
      · have F := Hf.out hr
        subst F
        clear Hs Hf E hr
        go_wp2
        go_ret
        exact ⟨rfl, below_then c hbn⟩
      · have R : Hid (allA (rightA lm) s.arcs (j + 1) = true) := by have := Hs.out; rw [hr] at this; exact this
        clear Hs Hf hr
        go_wp2
        go_roundg (gk - 1)
        case measure => omega
        case rel => exact ⟨j + 1, by omega, by go_num, R, hbn⟩
    · have F : Hid (ans = true) := by have h1 := Hk.out; rw [allA_all _ _ (show j = s.arcs.length by have := Hla.out; omega), E.out] at h1; exact h1
      have R := below_then c hb
      clear hb
      go_wp2
      go_ret
      exact ⟨by rw [F.out]; rfl, R⟩

theorem boundM_right {n : Int} {m : List Int} (h : rightL m = true) : boundM n m = m.foldl max n := by simp [boundM, h]
theorem boundM_not {n : Int} {m : List Int} (h : rightL m = false) : boundM n m = n := by simp [boundM, h]
def boundTo (l : List (List Int)) (k : Nat) : Int := (l.take k).foldl boundM 0
def maxFrom (n : Int) (m : List Int) (j : Nat) : Int := (m.take j).foldl max n
theorem boundTo_succ {l : List (List Int)} {k : Nat} (hk : k < l.length) : boundTo l (k + 1) = boundM (boundTo l k) (markAt l k) := by
  unfold boundTo
  rw [List.take_succ_eq_append_getElem hk, List.foldl_append]
  simp [markAt, List.getD_eq_getElem?_getD, List.getElem?_eq_getElem hk]
theorem maxFrom_succ {m : List Int} {j : Nat} (hj : j < m.length) (n : Int) : maxFrom n m (j + 1) = max (maxFrom n m j) (nth m j) := by
  unfold maxFrom
  rw [List.take_succ_eq_append_getElem hj, List.foldl_append]
  simp [nth, List.getD, List.getElem?_eq_getElem hj]
theorem maxFrom_all {m : List Int} {j : Nat} (hj : j = m.length) (n : Int) : maxFrom n m j = m.foldl max n := by unfold maxFrom; rw [List.take_of_length_le (by omega)]
theorem boundTo_all {l : List (List Int)} {k : Nat} (hk : k = l.length) : boundTo l k = l.foldl boundM 0 := by unfold boundTo; rw [List.take_of_length_le (by omega)]

set_option maxHeartbeats 1000000 in
theorem gbound_any (v : Value) (s : SpaceZ) (w : World) (hv : SpaceV w v s) :
    Calls Try.prog 19 #[v] w fun e w' => e = .returned (.int .i64 (boundL s)) ∧ Below w.heap.size w w' := by
  obtain ⟨hN, mv, av, rfl, hM, hA⟩ := hv
  clear hN
  obtain ⟨am, cm, rfl, hlm, _⟩ := hM.slice
  obtain ⟨aa, ca, rfl, hla⟩ := hA.slice
  obtain ⟨ans, E⟩ : ∃ ans, Hid (s.marks.foldl boundM 0 = ans) := ⟨_, rfl⟩
  rw [show boundL s = ans from E.out]
  obtain ⟨lm, Hlm⟩ : ∃ lm, Hid (s.marks.length = lm) := ⟨_, rfl⟩
  obtain ⟨la, Hla⟩ : ∃ la, Hid (s.arcs.length = la) := ⟨_, rfl⟩
  rw [Hlm.out] at hlm hM ⊢
  rw [Hla.out]
  clear hA
  have c := below_new w (.cells #[.slice am lm cm, .slice aa la ca] 25)
  have hbx := box2_new w (.slice am lm cm) (.slice aa la ca) 25
  replace hM := hM.below c
  obtain ⟨W0, HW0⟩ : ∃ W0, Hid (w.alloc (.cells #[.slice am lm cm, .slice aa la ca] 25) = W0) := ⟨_, rfl⟩
  rw [HW0.out] at c hbx hM
  go_enter Try.func19, Try.ntmps19
  go_upto_region 1 with fail
  rw [HW0.out]
  clear HW0
  obtain ⟨x0, x1, x2⟩ := id hbx
  go_wp2_with fail
  clear x0 x1 x2
  go_loopg [3, 11] lm (fun g o i wr => ∃ k : Nat, k + g = lm ∧ i = .int .i64 k ∧ o = .int .i64 (boundTo s.marks k) ∧ wr = W0)
  case atStart => exact ⟨0, by omega, rfl, rfl, rfl⟩
  case round =>
    obtain ⟨k, hkg, rfl, rfl, rfl⟩ := hrel
    obtain ⟨G, hGk⟩ : ∃ G, G = gk := ⟨_, rfl⟩
    obtain ⟨W, hW⟩ : ∃ W, W = wr := ⟨_, rfl⟩
    subst hGk hW
    by_cases hkn : k < lm
    · have Hb : Hid (boundTo s.marks (k + 1) = boundM (boundTo s.marks k) (markAt s.marks k)) := boundTo_succ (by have := Hlm.out; omega)
      obtain ⟨b1, o1, u1, rfl, _, c1, i1⟩ := hM.at hkn
      generalize markAt s.marks k = m at *
      generalize boundTo s.marks k = n at *
      obtain ⟨au, lu, cu, rfl, hlu, hmu, _, hru⟩ := id i1
      go_wp2_with fail
      refine (aright_any _ m _ (by exact i1)).mono ?_
      rintro e w2 ⟨rfl, rfl⟩
      cases hr : rightL m
      · have R : Hid (boundTo s.marks (k + 1) = n) := by rw [Hb.out]; exact boundM_not hr
        clear Hb hr
        go_wp2
        go_roundg (G - 1)
        case measure => omega
        case rel => exact ⟨k + 1, by omega, by go_num, by rw [R.out], rfl⟩
      · have R : Hid (boundTo s.marks (k + 1) = m.foldl max n) := by rw [Hb.out]; exact boundM_right hr
        clear Hb hr c1 i1
        go_wp2_with fail
        go_loopg [3, 19] lu (fun g o i wr => ∃ j : Nat, j + g = lu ∧ i = .int .i64 j ∧ o = .int .i64 (maxFrom n m j) ∧ wr = w2)
        case atStart => exact ⟨0, by omega, rfl, rfl, rfl⟩
        case round =>
          obtain ⟨j, hjg, rfl, rfl, rfl⟩ := hrel
          by_cases hjn : j < lu
          · obtain ⟨bb, off, rfl, hbb, hc⟩ := hru j (by omega)
            have Hm : Hid _ := maxFrom_succ (show j < m.length by omega) n
            generalize maxFrom n m j = p at *
            generalize nth m j = z at *
            rcases Int.lt_or_le p z with hpz | hpz
            · have R2 : Hid (maxFrom n m (j + 1) = z) := by rw [Hm.out]; exact Int.max_eq_right (by omega)
              clear Hm
              go_wp2
              go_roundg (gk - 1)
              case measure => omega
              case rel => exact ⟨j + 1, by omega, by go_num, by rw [R2.out], rfl⟩
            · have R2 : Hid (maxFrom n m (j + 1) = p) := by rw [Hm.out]; exact Int.max_eq_left (by omega)
              clear Hm
              go_wp2
              go_roundg (gk - 1)
              case measure => omega
              case rel => exact ⟨j + 1, by omega, by go_num, by rw [R2.out], rfl⟩
          · have F : Hid (maxFrom n m j = boundTo s.marks (k + 1)) := by rw [R.out]; exact maxFrom_all (by omega) n
            rw [F.out]
            clear F R
            go_wp2
            go_roundg (G - 1)
            case measure => omega
            case rel => exact ⟨k + 1, by omega, by go_num, rfl, rfl⟩
    · have F : Hid (boundTo s.marks k = ans) := by rw [← E.out]; exact boundTo_all (by have := Hlm.out; omega)
      rw [F.out]
      clear F E
      go_wp2
      go_ret
      exact ⟨rfl, c⟩

end Go.Proofs.Ytlejaeecfeiajaa
