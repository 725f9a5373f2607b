import Derived.Test.YtfgimobmaahmmaaGr07
import Derived.Test.YtfgimobmaahmmaaGr01
import Derived.Test.YtfgimobmaahmmaaGr00
import Derived.Test.YtfgimobmaahmmaaGr02
import Derived.Test.YtfgimobmaahmmaaGr03
import Derived.Laws.EntriesVeiled
/- Package live as it landed: what needs no closure; the numbers that a function tells of. -/
namespace Go.Proofs.Ytfgimobmaahmmaa
open Go.RowKit
set_option linter.unusedVariables false
set_option maxRecDepth 4000

/-- The function g with the captured values qs tells p of the numbers below n, in every world that comes of w0. -/
def AsksI (w0 : World) (g : Nat) (qs : Array Value) (n : Nat) (p : Int → Bool) : Prop :=
  ∀ (k : Nat) w, k < n → Below w0.heap.size w0 w → Calls Try.prog g (#[.int .i64 k] ++ qs) w fun e w' => e = .returned (.bool (p k)) ∧ Below w.heap.size w w'

set_option maxHeartbeats 1000000 in
theorem those_any (w0 : World) (g : Nat) (qs : Array Value) (n : Nat) (p : Int → Bool) (hg : AsksI w0 g qs n p) (eg : ∀ args w, (callFunc g args).run Try.prog w = .ok (.enter g args) w) (E : Int) (hE : E.toNat = n) (hn : n ≤ 5864062014805) (w : World) (hw : Below w0.heap.size w0 w) :
    Calls Try.prog 70 #[.int .i64 E, .func (.func g) #[] qs] w fun e w' => ∃ r, e = .returned r ∧ Ints w' r (pickTo p n) ∧ Below w.heap.size w w' := by
  have Hg : Hid _ := hg
  have HE : Hid _ := hE
  clear hg hE
  go_enter Try.func70, Try.ntmps70
  go_wp2_with fail
  go_loopg [5, 8] n (fun g o i wr => ∃ k : Nat, k + g = n ∧ i = .int .i64 k ∧ Own w.heap.size w wr o (pickTo p k))
  case atStart => exact ⟨0, by omega, rfl, Own.nil _⟩
  case round =>
    obtain ⟨k, hkg, rfl, hO⟩ := hrel
    have hle := pickTo_le p k
    have htM := HE.out
    by_cases hkn : k < n
    · have hkM : (k : Int) < E := by omega
      have Hy : Hid _ := pickTo_yes p k
      have Hn : Hid _ := pickTo_no p k
      have hw2 := below_then hw hO.2.1
      go_wp2_with fail
      refine (Hg.out k _ hkn (by exact hw2)).mono ?_
      rintro e w2 ⟨rfl, b'⟩
      have hO2 := hO.trans b'
      clear hO b' hw2
      cases hp : p k
      · have R := hO2
        rw [← Hn.out hp] at R
        clear hO2 hp
        go_wp2
        go_roundg (gk - 1)
        case measure => omega
        case rel => exact ⟨k + 1, by omega, by go_num, R⟩
      · go_wp2_with (at_builtin; refine wp_append_int rfl _ _ rfl w.heap.size w _ _ _ (k : Int) hO2 rfl rfl (by omega) ?_; intro v' w3 hO3)
        have R : Own w.heap.size w w3 v' (pickTo p (k + 1)) := by rw [Hy.out hp]; exact hO3
        clear hO2 hO3 hp
        go_wp2
        go_roundg (gk - 1)
        case measure => omega
        case rel => exact ⟨k + 1, by omega, by go_num, R⟩
    · have hkM : ¬ (k : Int) < E := by omega
      obtain rfl : k = n := by omega
      have R := hO.ints (by omega)
      have R2 := hO.2.1
      clear hO
      go_wp2
      go_ret
      exact ⟨_, rfl, R, R2⟩

theorem rightA_two (lm : Nat) (x y z : Int) : rightA lm (x, y, z) = ((decide (0 ≤ x) && decide (x < lm)) && (decide (0 ≤ z) && decide (z < lm))) := by simp [rightA, Bool.and_assoc]

theorem foldl_max_of {m : List Int} {n M : Int} (h1 : ∀ x ∈ m, x ≤ M) (h2 : M ∈ m) : m.foldl max n = max n M := by
  induction m generalizing n with
  | nil => cases h2
  | cons x t ih =>
    simp only [List.foldl_cons]
    by_cases ht : M ∈ t
    · rw [ih (fun y hy => h1 y (List.mem_cons_of_mem _ hy)) ht]
      have := h1 x (List.mem_cons_self ..)
      omega
    · obtain rfl : M = x := by
        rcases List.mem_cons.1 h2 with e | e
        · exact e
        · exact absurd e ht
      have hall : ∀ y ∈ t, y ≤ M := fun y hy => h1 y (List.mem_cons_of_mem _ hy)
      clear ih h1 h2 ht
      have key : ∀ (l : List Int) (q : Int), (∀ y ∈ l, y ≤ M) → M ≤ q → l.foldl max q = q := by
        intro l
        induction l with
        | nil => intros; rfl
        | cons y l ih =>
          intro q hy hq
          simp only [List.foldl_cons]
          have := hy y (List.mem_cons_self ..)
          rw [show max q y = q by omega]
          exact ih q (fun z hz => hy z (List.mem_cons_of_mem _ hz)) hq
      exact key t _ hall (by omega)
theorem boundM_max {n : Int} {m : List Int} (h : rightL m = true) (hl : 0 < m.length) : boundM n m = max n (maxL m) := by
  rw [boundM_right h]
  refine foldl_max_of (fun x hx => ?_) ?_
  · obtain ⟨j, hj, rfl⟩ := List.getElem_of_mem hx
    have := maxL_ge hj
    simpa [nth, List.getD, List.getElem?_eq_getElem hj] using this
  · obtain ⟨j, hj, e⟩ := maxL_at hl
    rw [e]
    simp [nth, List.getD, List.getElem?_eq_getElem hj]

end Go.Proofs.Ytfgimobmaahmmaa

/- Package live as it landed: what never fires, what nothing leaves. -/
namespace Go.Proofs.Ytfgimobmaahmmaa
open Go.RowKit
set_option linter.unusedVariables false
set_option maxRecDepth 4000

/-- Whether one of the first k arcs is told of j. -/
def anyTo (g : Int × Int × Int → Int) (l : List (Int × Int × Int)) (k : Nat) (j : Nat) : Bool := (l.take k).any fun a => g a == (j : Int)
theorem anyTo_zero (g : Int × Int × Int → Int) (l : List (Int × Int × Int)) : anyTo g l 0 = fun _ => false := by funext j; simp [anyTo]
theorem anyTo_succ (g : Int × Int × Int → Int) {l : List (Int × Int × Int)} {k : Nat} (hk : k < l.length) (j : Nat) : anyTo g l (k + 1) j = (anyTo g l k j || g l[k] == (j : Int)) := by
  unfold anyTo; rw [List.take_succ_eq_append_getElem hk, List.any_append]; simp
theorem anyTo_all (g : Int × Int × Int → Int) {l : List (Int × Int × Int)} {k : Nat} (hk : k = l.length) (j : Nat) : (!anyTo g l k j) = l.all fun a => g a != (j : Int) := by
  unfold anyTo
  rw [List.take_of_length_le (by omega), List.not_any_eq_all_not]
  rfl
theorem pickTo_congr {p q : Int → Bool} {n : Nat} (h : ∀ k : Nat, k < n → p k = q k) : pickTo p n = pickTo q n := by
  unfold pickTo
  refine List.filter_congr fun x hx => ?_
  rw [mem_range] at hx
  obtain ⟨k, rfl⟩ := Int.eq_ofNat_of_zero_le hx.1
  exact h k (by omega)

theorem BoolRow.anyYes {w : World} {B n k i : Nat} {g : Int × Int × Int → Int} {l : List (Int × Int × Int)} (h : BoolRow w B n (anyTo g l k)) (hk : k < l.length) (hg : g l[k] = (i : Int)) (hi : i < n) : BoolRow (w.setCell ⟨B, i, none⟩ (.bool true)) B n (anyTo g l (k + 1)) := by
  refine h.put hi ?_ fun j _ hj => ?_
  · rw [anyTo_succ g hk, hg]; simp
  · rw [anyTo_succ g hk, hg]
    have : ¬ (i : Int) = (j : Int) := by omega
    simp [this]
theorem BoolRow.anyNo {w : World} {B n k : Nat} {g : Int × Int × Int → Int} {l : List (Int × Int × Int)} (h : BoolRow w B n (anyTo g l k)) (hk : k < l.length) (hg : ∀ i : Nat, i < n → g l[k] ≠ (i : Int)) : BoolRow w B n (anyTo g l (k + 1)) := by
  refine h.same fun j hj => ?_
  rw [anyTo_succ g hk]
  have := hg j hj
  simp [this]

/-- A row of yes and no in a box. -/
theorem flag_new {w : World} {B n : Nat} (hB : B = w.heap.size) (cs : Array Value) (t : TypeId) (hc : ∀ j, j < n → cs[j]? = some (.bool false)) : BoolRow (w.alloc (.cells cs t)) B n (fun _ => false) := by
  subst hB
  refine ⟨fun j hj => ?_, fun j _ => World.frozen?_alloc_at _ _ _ _ rfl, by simp⟩
  rw [World.cell?_alloc_at _ _ _ _ rfl]
  exact hc j hj

set_option maxHeartbeats 1000000 in
theorem dead1_any (b : Nat) (f : Nat → Bool) (k : Nat) (hk : k < 24) (w : World) (h : BoolRow w b 24 f) :
    Calls Try.prog 71 #[.int .i64 k, .pointer (some ⟨b, 0, none⟩)] w fun e w' => e = .returned (.bool (!f k)) ∧ w' = w := by
  have h1 := h.cells k hk
  clear h
  go_enter Try.func71, Try.ntmps71
  go_wp2
  go_ret
  exact ⟨rfl, rfl⟩

set_option maxHeartbeats 1000000 in
theorem live_dead (v : Value) (s : SpaceZ) (T : Int) (w : World) (hv : SpaceV w v s) :
    Calls Try.prog 53 #[v, .int .i64 T] w fun e w' => ∃ r, e = .returned r ∧ Ints w' r (deadL s T) ∧ Below w.heap.size w w' := by
  obtain ⟨hN, mv, av, rfl, hM, hA⟩ := hv
  clear hN
  obtain ⟨am, cm, rfl, hlm, _⟩ := hM.slice
  obtain ⟨aa, ca, rfl, hla⟩ := hA.slice
  have E : Hid (deadL s T = pickTo (fun k => s.arcs.all fun a => a.2.1 != k) (min T 24).toNat) := dead_pick s T
  obtain ⟨M, HM⟩ : ∃ M, Hid (min T 24 = M) := ⟨_, rfl⟩
  rw [HM.out] at E
  obtain ⟨tm, Htm⟩ : ∃ tm, Hid (M.toNat = tm) := ⟨_, rfl⟩
  rw [Htm.out] at E
  have htm24 : tm ≤ 24 := by have := Htm.out; have := HM.out; omega
  obtain ⟨lm, Hlm⟩ : ∃ lm, Hid (s.marks.length = lm) := ⟨_, rfl⟩
  obtain ⟨la, Hla⟩ : ∃ la, Hid (s.arcs.length = la) := ⟨_, rfl⟩
  rw [Hlm.out] at hlm ⊢
  rw [Hla.out] at hA hla ⊢
  clear hM
  have c := below_new w (.cells #[.slice am lm cm, .slice aa la ca] 71)
  have hbx := box2_new w (.slice am lm cm) (.slice aa la ca) 71
  replace hA := hA.below c
  obtain ⟨W0, HW0⟩ : ∃ W0, Hid (w.alloc (.cells #[.slice am lm cm, .slice aa la ca] 71) = W0) := ⟨_, rfl⟩
  rw [HW0.out] at c hbx hA
  go_enter Try.func53, Try.ntmps53
  go_upto_region 1 with fail
  rw [HW0.out]
  clear HW0
  go_upto_region 2 with fail
  obtain ⟨W1, HW1⟩ : ∃ W1, Hid (W0.alloc (.cells #[.bool false, .bool false, .bool false, .bool false, .bool false, .bool false, .bool false, .bool false, .bool false, .bool false, .bool false, .bool false, .bool false, .bool false, .bool false, .bool false, .bool false, .bool false, .bool false, .bool false, .bool false, .bool false, .bool false, .bool false] 115) = W1) := ⟨_, rfl⟩
  have hF : BoolRow W1 W0.heap.size 24 (fun _ => false) := by
    rw [← HW1.out]
    refine flag_new rfl _ _ fun j hj => ?_
    obtain rfl | rfl | rfl | rfl | rfl | rfl | rfl | rfl | rfl | rfl | rfl | rfl | rfl | rfl | rfl | rfl | rfl | rfl | rfl | rfl | rfl | rfl | rfl | rfl : j = 0 ∨ j = 1 ∨ j = 2 ∨ j = 3 ∨ j = 4 ∨ j = 5 ∨ j = 6 ∨ j = 7 ∨ j = 8 ∨ j = 9 ∨ j = 10 ∨ j = 11 ∨ j = 12 ∨ j = 13 ∨ j = 14 ∨ j = 15 ∨ j = 16 ∨ j = 17 ∨ j = 18 ∨ j = 19 ∨ j = 20 ∨ j = 21 ∨ j = 22 ∨ j = 23 := by omega
    all_goals rfl
  have b1 : Below W0.heap.size W0 W1 := by rw [← HW1.out]; exact below_new _ _
  rw [HW1.out]
  clear HW1
  obtain ⟨x0, x1, x2⟩ := id (hbx.below b1)
  rw [← anyTo_zero (fun a => a.2.1) s.arcs] at hF
  go_wp2_with fail
  clear x0 x1 x2
  go_loopg [11] la (fun g i wr => ∃ k : Nat, k + g = la ∧ i = .int .i64 k ∧ BoolRow wr W0.heap.size 24 (anyTo (fun a => a.2.1) s.arcs k) ∧ Below W0.heap.size W0 wr)
  case atStart => exact ⟨0, by omega, rfl, hF, b1⟩
  case round =>
    clear hF b1
    obtain ⟨j, hjg, rfl, hF, hb⟩ := hrel
    by_cases hjn : j < la
    · have Hjl : Hid (j < s.arcs.length) := by have := Hla.out; show j < s.arcs.length; omega
      obtain ⟨b1, o1, rfl, _, c0, c1, c2⟩ := (hA.below hb).at Hjl.out
      have Hs : Hid (∀ i : Nat, anyTo (fun a => a.2.1) s.arcs (j + 1) i = (anyTo (fun a => a.2.1) s.arcs j i || (s.arcs[j]'Hjl.out).2.1 == (i : Int))) := anyTo_succ (fun a => a.2.1) Hjl.out
      obtain ⟨A, HA⟩ : ∃ A, Hid (s.arcs[j]'Hjl.out = A) := ⟨_, rfl⟩
      obtain ⟨x, y, z⟩ := A
      rw [HA.out] at c0 c1 c2
      simp only at c0 c1 c2
      have b3 := below_new wr (.cells #[.int .i64 x, .int .i64 y, .int .i64 z] 109)
      have hbn := below_then hb b3
      have hb3 := box3_new wr (.int .i64 x) (.int .i64 y) (.int .i64 z) 109
      replace hF := hF.below b3
      obtain ⟨W2, HW2⟩ : ∃ W2, Hid (wr.alloc (.cells #[.int .i64 x, .int .i64 y, .int .i64 z] 109) = W2) := ⟨_, rfl⟩
      rw [HW2.out] at hbn hb3 hF
      go_upto_region 5 with fail
      rw [HW2.out]
      clear HW2 c0 c1 c2 b3
      obtain ⟨z0, z1, z2, z3⟩ := id hb3
      by_cases h0 : 0 ≤ y
      · by_cases h1 : y < 24
        · obtain ⟨i, rfl⟩ := Int.eq_ofNat_of_zero_le h0
          have hi : i < 24 := by omega
          have hc := hF.cells i hi
          have hfz := hF.frozen i hi
          have R : BoolRow (W2.setCell ⟨W0.heap.size, i, none⟩ (.bool true)) W0.heap.size 24 (anyTo (fun a => a.2.1) s.arcs (j + 1)) :=
            hF.anyYes Hjl.out (by show (s.arcs[j]'Hjl.out).2.1 = _; rw [HA.out]) hi
          have R2 : Below W0.heap.size W0 (W2.setCell ⟨W0.heap.size, i, none⟩ (.bool true)) := hbn.setCell (p := ⟨W0.heap.size, i, none⟩) (Nat.le_refl _) _
          clear hF hbn Hs
          go_wp2
          go_roundg (gk - 1)
          case measure => omega
          case rel => exact ⟨j + 1, by omega, by go_num, R, R2⟩
        · have R := hF.anyNo Hjl.out (fun i hi => by show (s.arcs[j]'Hjl.out).2.1 ≠ _; rw [HA.out]; simp only; omega)
          clear hF Hs
          go_wp2
          go_roundg (gk - 1)
          case measure => omega
          case rel => exact ⟨j + 1, by omega, by go_num, R, hbn⟩
      · have h0' : decide (0 ≤ y) = false := decide_eq_false h0
        have R := hF.anyNo Hjl.out (fun i hi => by show (s.arcs[j]'Hjl.out).2.1 ≠ _; rw [HA.out]; simp only; omega)
        clear hF Hs h0
        go_wp2
        go_roundg (gk - 1)
        case measure => omega
        case rel => exact ⟨j + 1, by omega, by go_num, R, hbn⟩
    · have F : Hid (∀ i : Nat, (!anyTo (fun a => a.2.1) s.arcs j i) = s.arcs.all fun a => a.2.1 != (i : Int)) := anyTo_all _ (by have := Hla.out; omega)
      have R := below_then c hb
      have key := those_any wr 71 #[.pointer (some ⟨W0.heap.size, 0, none⟩)] tm (fun k => s.arcs.all fun a => a.2.1 != k) (by
        intro k w' hk hb'
        refine (dead1_any _ _ k (by omega) w' (hF.below hb')).mono ?_
        rintro e w'' ⟨rfl, rfl⟩
        exact ⟨by rw [F.out], Below.refl _ _⟩) Try.call71 M Htm.out (by omega) wr (Below.refl _ _)
      clear hF hb
      rcases Int.lt_trichotomy T 24 with hT | hT | hT
      · have e : M = T := by have := HM.out; omega
        subst e
        go_wp2_with fail
        refine key.mono ?_
        rintro e w3 ⟨r, rfl, hr, b'⟩
        rw [← E.out] at hr
        have R2 := below_then R b'
        clear b'
        go_wp2
        go_ret
        exact ⟨_, rfl, hr, R2⟩
      · have e : M = 24 := by have := HM.out; omega
        subst e hT
        go_wp2_with fail
        refine key.mono ?_
        rintro e w3 ⟨r, rfl, hr, b'⟩
        rw [← E.out] at hr
        have R2 := below_then R b'
        clear b'
        go_wp2
        go_ret
        exact ⟨_, rfl, hr, R2⟩
      · have e : M = 24 := by have := HM.out; omega
        subst e
        go_wp2_with fail
        refine key.mono ?_
        rintro e w3 ⟨r, rfl, hr, b'⟩
        rw [← E.out] at hr
        have R2 := below_then R b'
        clear b'
        go_wp2
        go_ret
        exact ⟨_, rfl, hr, R2⟩

end Go.Proofs.Ytfgimobmaahmmaa
