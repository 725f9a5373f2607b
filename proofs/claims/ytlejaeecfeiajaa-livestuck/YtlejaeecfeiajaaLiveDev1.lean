/- Package live as it landed: what needs no closure; the numbers that a function tells of. -/
import Derived.Test.YtlejaeecfeiajaaLive1
import Derived.Test.YtlejaeecfeiajaaBoolRow
import Derived.Test.YtlejaeecfeiajaaBox1
import Derived.Test.YtlejaeecfeiajaaSlices4
import Derived.Test.YtlejaeecfeiajaaMark1
import Derived.Laws.EntriesVeiled
namespace Go.Proofs.Ytlejaeecfeiajaa
open Go.RowKit
set_option linter.unusedVariables false
set_option maxRecDepth 4000

/-- The function g with the captured values qs tells p of the numbers below n, in every world that comes of w0. -/
def AsksI (w0 : World) (g : Nat) (qs : Array Value) (n : Nat) (p : Int → Bool) : Prop :=
  ∀ (k : Nat) w, k < n → Below w0.heap.size w0 w → Calls Try.prog g (#[.int .i64 k] ++ qs) w fun e w' => e = .returned (.bool (p k)) ∧ Below w.heap.size w w'

set_option maxHeartbeats 1000000 in
theorem those_any (w0 : World) (g : Nat) (qs : Array Value) (n : Nat) (p : Int → Bool) (hg : AsksI w0 g qs n p) (eg : ∀ args w, (callFunc g args).run Try.prog w = .ok (.enter g args) w) (E : Int) (hE : E.toNat = n) (hn : n ≤ 5864062014805) (w : World) (hw : Below w0.heap.size w0 w) :
    Calls Try.prog 30 #[.int .i64 E, .func (.func g) #[] qs] w fun e w' => ∃ r, e = .returned r ∧ Ints w' r (pickTo p n) ∧ Below w.heap.size w w' := by
  have Hg : Hid _ := hg
  have HE : Hid _ := hE
  clear hg hE
  go_enter Try.func30, Try.ntmps30
  go_wp2_with fail
  go_loopg [5, 8] n (fun g o i wr => ∃ k : Nat, k + g = n ∧ i = .int .i64 k ∧ Own w.heap.size w wr o (pickTo p k))
  case atStart => exact ⟨0, by omega, rfl, Own.nil _⟩
  case round =>
    obtain ⟨k, hkg, rfl, hO⟩ := hrel
    have hle := pickTo_le p k
    have htM := HE.out
    by_cases hkn : k < n
    · have hkM : (k : Int) < E := by omega
      have Hy : Hid _ := pickTo_yes p k
      have Hn : Hid _ := pickTo_no p k
      have hw2 := below_then hw hO.2.1
      go_wp2_with fail
      refine (Hg.out k _ hkn (by exact hw2)).mono ?_
      rintro e w2 ⟨rfl, b'⟩
      have hO2 := hO.trans b'
      clear hO b' hw2
      cases hp : p k
      · have R := hO2
        rw [← Hn.out hp] at R
        clear hO2 hp
        go_wp2
        go_roundg (gk - 1)
        case measure => omega
        case rel => exact ⟨k + 1, by omega, by go_num, R⟩
      · go_wp2_with (at_builtin; refine wp_append_int rfl _ _ rfl w.heap.size w _ _ _ (k : Int) hO2 rfl rfl (by omega) ?_; intro v' w3 hO3)
        have R : Own w.heap.size w w3 v' (pickTo p (k + 1)) := by rw [Hy.out hp]; exact hO3
        clear hO2 hO3 hp
        go_wp2
        go_roundg (gk - 1)
        case measure => omega
        case rel => exact ⟨k + 1, by omega, by go_num, R⟩
    · have hkM : ¬ (k : Int) < E := by omega
      obtain rfl : k = n := by omega
      have R := hO.ints (by omega)
      have R2 := hO.2.1
      clear hO
      go_wp2
      go_ret
      exact ⟨_, rfl, R, R2⟩

theorem liveknown_any (b lm : Nat) (am : Option Addr) (cm : Nat) (av : Value) (x : Int) (w : World) (hx : Box2 w b (.slice am lm cm) av) :
    Calls Try.prog 29 #[.int .i64 x, .pointer (some ⟨b, 0, none⟩)] w fun e w' => e = .returned (.bool (decide (0 ≤ x) && decide (x < lm))) ∧ w' = w := by
  obtain ⟨x0, x1, x2⟩ := hx
  by_cases h0 : 0 ≤ x
  · go_enter Try.func29, Try.ntmps29
    go_wp2
    go_ret
    exact ⟨by simp [h0], rfl⟩
  · have h0' : decide (0 ≤ x) = false := decide_eq_false h0
    clear h0
    go_enter Try.func29, Try.ntmps29
    go_wp2
    go_ret
    exact ⟨by simp [h0'], rfl⟩

theorem rightA_two (lm : Nat) (x y z : Int) : rightA lm (x, y, z) = ((decide (0 ≤ x) && decide (x < lm)) && (decide (0 ≤ z) && decide (z < lm))) := by simp [rightA, Bool.and_assoc]

set_option maxHeartbeats 1000000 in
theorem live_right (v : Value) (s : SpaceZ) (w : World) (hv : SpaceV w v s) :
    Calls Try.prog 7 #[v] w fun e w' => e = .returned (.bool (rightS s)) ∧ Below w.heap.size w w' := by
  obtain ⟨hN, mv, av, rfl, hM, hA⟩ := hv
  clear hN
  obtain ⟨am, cm, rfl, hlm, _⟩ := hM.slice
  obtain ⟨aa, ca, rfl, hla⟩ := hA.slice
  obtain ⟨ans, E⟩ : ∃ ans, Hid (s.arcs.all (rightA s.marks.length) = ans) := ⟨_, rfl⟩
  rw [right_all, E.out]
  obtain ⟨lm, Hlm⟩ : ∃ lm, Hid (s.marks.length = lm) := ⟨_, rfl⟩
  obtain ⟨la, Hla⟩ : ∃ la, Hid (s.arcs.length = la) := ⟨_, rfl⟩
  rw [Hlm.out] at hlm E ⊢
  rw [Hla.out] at hA hla ⊢
  clear hM
  have c := below_new w (.cells #[.slice am lm cm, .slice aa la ca] 25)
  have hbx := box2_new w (.slice am lm cm) (.slice aa la ca) 25
  replace hA := hA.below c
  obtain ⟨W0, HW0⟩ : ∃ W0, Hid (w.alloc (.cells #[.slice am lm cm, .slice aa la ca] 25) = W0) := ⟨_, rfl⟩
  rw [HW0.out] at c hbx hA
  go_enter Try.func7, Try.ntmps7
  go_upto_region 1 with fail
  rw [HW0.out]
  clear HW0
  obtain ⟨x0, x1, x2⟩ := id hbx
  go_wp2_with fail
  clear x0 x1 x2
  go_loopg [10] la (fun g i wr => ∃ k : Nat, k + g = la ∧ i = .int .i64 k ∧ Hid (allA (rightA lm) s.arcs k = true) ∧ Below W0.heap.size W0 wr)
  case atStart => exact ⟨0, by omega, rfl, rfl, Below.refl _ _⟩
  case round =>
    obtain ⟨j, hjg, rfl, Hk, hb⟩ := hrel
    by_cases hjn : j < la
    · have Hjl : Hid (j < s.arcs.length) := by have := Hla.out; show j < s.arcs.length; omega
      obtain ⟨b1, o1, rfl, _, c0, c1, c2⟩ := (hA.below hb).at Hjl.out
      have Hs : Hid (allA (rightA lm) s.arcs (j + 1) = rightA lm (s.arcs[j]'Hjl.out)) := by have := allA_succ (rightA lm) Hjl.out; rw [Hk.out] at this; exact this
      have Hf : Hid (rightA lm (s.arcs[j]'Hjl.out) = false → ans = false) := fun h => by
        rw [← E.out]
        exact List.all_eq_false.2 ⟨_, List.getElem_mem Hjl.out, by rw [h]; decide⟩
      obtain ⟨A, HA⟩ : ∃ A, Hid (s.arcs[j]'Hjl.out = A) := ⟨_, rfl⟩
      obtain ⟨x, y, z⟩ := A
      rw [HA.out] at c0 c1 c2 Hs Hf
      simp only at c0 c1 c2
      have b3 := below_new wr (.cells #[.int .i64 x, .int .i64 y, .int .i64 z] 44)
      have hbn := below_then hb b3
      have hb3 := box3_new wr (.int .i64 x) (.int .i64 y) (.int .i64 z) 44
      obtain ⟨W1, HW1⟩ : ∃ W1, Hid (wr.alloc (.cells #[.int .i64 x, .int .i64 y, .int .i64 z] 44) = W1) := ⟨_, rfl⟩
      rw [HW1.out] at hbn hb3
      have hbx1 := hbx.below hbn
      go_upto_region 5 with fail
      rw [HW1.out]
      clear HW1 c0 c1 c2 b3
      obtain ⟨z0, z1, z2, z3⟩ := id hb3
      go_wp2_with fail
      refine (liveknown_any _ lm am cm _ x _ (by exact hbx1)).mono ?_
      rintro e w2 ⟨rfl, rfl⟩
      rw [rightA_two] at Hs Hf
      generalize (decide (0 ≤ x) && decide (x < (lm : Int))) = p1 at *
      cases p1
      · have F := Hf.out rfl
        subst F
        clear Hs Hf E
        go_wp2
        go_ret
        exact ⟨rfl, below_then c hbn⟩
      · go_wp2_with fail
        refine (liveknown_any _ lm am cm _ z _ (by exact hbx1)).mono ?_
        rintro e w3 ⟨rfl, rfl⟩
        generalize (decide (0 ≤ z) && decide (z < (lm : Int))) = p2 at *
        cases p2
        · have F := Hf.out rfl
          subst F
          clear Hs Hf E
          go_wp2
          go_ret
          exact ⟨rfl, below_then c hbn⟩
        · have R : Hid (allA (rightA lm) s.arcs (j + 1) = true) := Hs.out
          clear Hs Hf
          go_wp2
          go_roundg (gk - 1)
          case measure => omega
          case rel => exact ⟨j + 1, by omega, by go_num, R, hbn⟩
    · have F : Hid (ans = true) := by have h1 := Hk.out; rw [allA_all _ _ (show j = s.arcs.length by have := Hla.out; omega), E.out] at h1; exact h1
      have R := below_then c hb
      clear hb
      go_wp2
      go_ret
      exact ⟨by rw [F.out]; rfl, R⟩

theorem foldl_max_of {m : List Int} {n M : Int} (h1 : ∀ x ∈ m, x ≤ M) (h2 : M ∈ m) : m.foldl max n = max n M := by
  induction m generalizing n with
  | nil => cases h2
  | cons x t ih =>
    simp only [List.foldl_cons]
    by_cases ht : M ∈ t
    · rw [ih (fun y hy => h1 y (List.mem_cons_of_mem _ hy)) ht]
      have := h1 x (List.mem_cons_self ..)
      omega
    · obtain rfl : M = x := by
        rcases List.mem_cons.1 h2 with e | e
        · exact e
        · exact absurd e ht
      have hall : ∀ y ∈ t, y ≤ M := fun y hy => h1 y (List.mem_cons_of_mem _ hy)
      clear ih h1 h2 ht
      have key : ∀ (l : List Int) (q : Int), (∀ y ∈ l, y ≤ M) → M ≤ q → l.foldl max q = q := by
        intro l
        induction l with
        | nil => intros; rfl
        | cons y l ih =>
          intro q hy hq
          simp only [List.foldl_cons]
          have := hy y (List.mem_cons_self ..)
          rw [show max q y = q by omega]
          exact ih q (fun z hz => hy z (List.mem_cons_of_mem _ hz)) hq
      exact key t _ hall (by omega)
theorem boundM_max {n : Int} {m : List Int} (h : rightL m = true) (hl : 0 < m.length) : boundM n m = max n (maxL m) := by
  rw [boundM_right h]
  refine foldl_max_of (fun x hx => ?_) ?_
  · obtain ⟨j, hj, rfl⟩ := List.getElem_of_mem hx
    have := maxL_ge hj
    simpa [nth, List.getD, List.getElem?_eq_getElem hj] using this
  · obtain ⟨j, hj, e⟩ := maxL_at hl
    rw [e]
    simp [nth, List.getD, List.getElem?_eq_getElem hj]

set_option maxHeartbeats 1000000 in
theorem live_bound (v : Value) (s : SpaceZ) (w : World) (hv : SpaceV w v s) :
    Calls Try.prog 18 #[v] w fun e w' => e = .returned (.int .i64 (boundL s)) ∧ Below w.heap.size w w' := by
  obtain ⟨hN, mv, av, rfl, hM, hA⟩ := hv
  clear hN
  obtain ⟨am, cm, rfl, hlm, _⟩ := hM.slice
  obtain ⟨aa, ca, rfl, hla⟩ := hA.slice
  obtain ⟨ans, E⟩ : ∃ ans, Hid (s.marks.foldl boundM 0 = ans) := ⟨_, rfl⟩
  rw [show boundL s = ans from E.out]
  obtain ⟨lm, Hlm⟩ : ∃ lm, Hid (s.marks.length = lm) := ⟨_, rfl⟩
  obtain ⟨la, Hla⟩ : ∃ la, Hid (s.arcs.length = la) := ⟨_, rfl⟩
  rw [Hlm.out] at hlm hM ⊢
  rw [Hla.out]
  clear hA
  have c := below_new w (.cells #[.slice am lm cm, .slice aa la ca] 25)
  have hbx := box2_new w (.slice am lm cm) (.slice aa la ca) 25
  replace hM := hM.below c
  obtain ⟨W0, HW0⟩ : ∃ W0, Hid (w.alloc (.cells #[.slice am lm cm, .slice aa la ca] 25) = W0) := ⟨_, rfl⟩
  rw [HW0.out] at c hbx hM
  go_enter Try.func18, Try.ntmps18
  go_upto_region 1 with fail
  rw [HW0.out]
  clear HW0
  obtain ⟨x0, x1, x2⟩ := id hbx
  go_wp2_with fail
  clear x0 x1 x2
  go_loopg [3, 9] lm (fun g o i wr => ∃ k : Nat, k + g = lm ∧ i = .int .i64 k ∧ o = .int .i64 (boundTo s.marks k) ∧ wr = W0)
  case atStart => exact ⟨0, by omega, rfl, rfl, rfl⟩
  case round =>
    obtain ⟨k, hkg, rfl, rfl, rfl⟩ := hrel
    by_cases hkn : k < lm
    · have Hb : Hid (boundTo s.marks (k + 1) = boundM (boundTo s.marks k) (markAt s.marks k)) := boundTo_succ (by have := Hlm.out; omega)
      obtain ⟨b1, o1, u1, rfl, _, c1, i1⟩ := hM.at hkn
      generalize markAt s.marks k = m at *
      generalize boundTo s.marks k = n at *
      obtain ⟨au, lu, cu, rfl, hlu, hmu, _, hru⟩ := id i1
      clear hru hmu
      go_wp2_with fail
      refine (right_any _ m _ (by exact i1)).mono ?_
      rintro e w2 ⟨rfl, rfl⟩
      cases hr : rightL m
      · have R : Hid (boundTo s.marks (k + 1) = n) := by rw [Hb.out]; exact boundM_not hr
        clear Hb hr
        go_wp2
        go_roundg (gk - 1)
        case measure => omega
        case rel => exact ⟨k + 1, by omega, by go_num, by rw [R.out], rfl⟩
      · by_cases hl0 : 0 < lu
        · have Hl0 : Hid (0 < m.length) := by show 0 < m.length; omega
          have R : Hid (boundTo s.marks (k + 1) = max n (maxL m)) := by rw [Hb.out]; exact boundM_max hr Hl0.out
          have hl1 : (0 : Int) < (lu : Int) := by omega
          clear Hb hr c1 hlu
          go_wp2_with fail
          refine (max_any _ m _ (by exact i1) Hl0.out).mono ?_
          rintro e w3 ⟨rfl, rfl⟩
          generalize maxL m = M at *
          clear i1
          rcases Int.lt_or_le n M with hpz | hpz
          · have R2 : Hid (boundTo s.marks (k + 1) = M) := by rw [R.out]; exact Int.max_eq_right (by omega)
            clear R
            go_wp2
            go_roundg (gk - 1)
            case measure => omega
            case rel => exact ⟨k + 1, by omega, by go_num, by rw [R2.out], rfl⟩
          · have R2 : Hid (boundTo s.marks (k + 1) = n) := by rw [R.out]; exact Int.max_eq_left (by omega)
            clear R
            go_wp2
            go_roundg (gk - 1)
            case measure => omega
            case rel => exact ⟨k + 1, by omega, by go_num, by rw [R2.out], rfl⟩
        · obtain rfl : lu = 0 := by omega
          have hm0 : m = [] := List.length_eq_zero_iff.1 (by omega)
          have R : Hid (boundTo s.marks (k + 1) = n) := by rw [Hb.out, boundM_right hr, hm0]; rfl
          clear Hb hr hm0 hlu c1 i1
          go_wp2
          go_roundg (gk - 1)
          case measure => omega
          case rel => exact ⟨k + 1, by omega, by go_num, by rw [R.out], rfl⟩
    · have F : Hid (boundTo s.marks k = ans) := by rw [← E.out]; exact boundTo_all (by have := Hlm.out; omega)
      rw [F.out]
      clear F E
      go_wp2
      go_ret
      exact ⟨rfl, c⟩

end Go.Proofs.Ytlejaeecfeiajaa
