/- Two spaces that are the same are told so. -/
import Derived.Test.YtfcgapcdhhliiaaReachMem
namespace Go.Proofs.Ytfcgapcdhhliiaa
open Go.RowKit
set_option linter.unusedVariables false

theorem samelists1_any (v u : Value) (xs ys : List Int) (w : World) (hv : Ints w v xs) (hu : Ints w u ys) :
    Calls Try.prog 37 #[v, u] w fun e w' => e = .returned (.bool (xs == ys)) ∧ Below w.heap.size w w' := by
  go_enter Try.func37, Try.ntmps37
  go_wp2_with fail
  refine (equal_b _ _ xs ys _ (by exact hv) (by exact hu)).mono ?_
  rintro e w1 ⟨rfl, b⟩
  go_wp2
  go_ret
  exact ⟨rfl, b⟩

set_option maxHeartbeats 1000000 in
theorem eqlists_same (v u : Value) (ls : List (List Int)) (w : World) (hv : Lists w v ls) (hu : Lists w u ls) :
    Calls Try.prog 36 #[v, u, .func (.func 37) #[] #[]] w fun e w' => e = .returned (.bool true) ∧ Below w.heap.size w w' := by
  obtain ⟨a, ca, rfl, hla, _⟩ := hv.slice
  obtain ⟨b, cb, rfl, hlb, _⟩ := hu.slice
  generalize hlen : ls.length = len at *
  have e1 : (((len : Nat) : Int) != (len : Int)) = false := by simp
  have q26 := Try.call37
  go_enter Try.func36, Try.ntmps36
  go_wp2_with fail
  go_loopg [17] len (fun g i wr => ∃ k : Nat, k + g = len ∧ i = .int .i64 k ∧ Below w.heap.size w wr)
  case atStart => exact ⟨0, by omega, rfl, Below.refl _ _⟩
  case round =>
    obtain ⟨k, hkg, rfl, hb⟩ := hrel
    by_cases hkn : k < len
    · obtain ⟨b1, o1, u1, rfl, _, c1, i1⟩ := (hv.below hb).at hkn
      obtain ⟨b2, o2, u2, rfl, _, c2, i2⟩ := (hu.below hb).at hkn
      go_wp2_with fail
      refine (samelists1_any _ _ _ _ _ (by exact i1) (by exact i2)).mono ?_
      rintro e w2 ⟨rfl, b'⟩
      rw [beq_self_eq_true]
      have R := below_then hb b'
      clear b' hb i1 i2 c1 c2
      go_wp2
      go_roundg (gk - 1)
      case measure => omega
      case rel => exact ⟨k + 1, by omega, by go_num, R⟩
    · go_wp2
      go_ret
      exact ⟨rfl, hb⟩

theorem samelists_same (v u : Value) (ls : List (List Int)) (w : World) (hv : Lists w v ls) (hu : Lists w u ls) :
    Calls Try.prog 23 #[v, u] w fun e w' => e = .returned (.bool true) ∧ Below w.heap.size w w' := by
  go_enter Try.func23, Try.ntmps23
  go_wp2_with fail
  refine (eqlists_same _ _ ls _ (by exact hv) (by exact hu)).mono ?_
  rintro e w1 ⟨rfl, b⟩
  go_wp2
  go_ret
  exact ⟨rfl, b⟩

set_option maxHeartbeats 1000000 in
theorem eqarcs_same (v u : Value) (l : List (Int × Int × Int)) (w : World) (hv : Arcs w v l) (hu : Arcs w u l) :
    Calls Try.prog 24 #[v, u] w fun e w' => e = .returned (.bool true) ∧ Below w.heap.size w w' := by
  obtain ⟨a, ca, rfl, hla⟩ := hv.slice
  obtain ⟨b, cb, rfl, hlb⟩ := hu.slice
  obtain ⟨len, hlen⟩ : ∃ len, len = l.length := ⟨_, rfl⟩
  rw [← hlen] at hv hu hla hlb ⊢
  have e1 : (((len : Nat) : Int) != (len : Int)) = false := by simp
  go_enter Try.func24, Try.ntmps24
  go_wp2_with fail
  go_loopg [13] len (fun g i wr => ∃ k : Nat, k + g = len ∧ i = .int .i64 k ∧ Below w.heap.size w wr)
  case atStart => exact ⟨0, by omega, rfl, Below.refl _ _⟩
  case round =>
    obtain ⟨k, hkg, rfl, hb⟩ := hrel
    by_cases hkn : k < len
    · have hkl : k < l.length := by omega
      obtain ⟨b1, o1, rfl, _, c0, c1, c2⟩ := (hv.below hb).at hkl
      obtain ⟨b2, o2, rfl, _, d0, d1, d2⟩ := (hu.below hb).at hkl
      generalize l[k].1 = z0 at *
      generalize l[k].2.1 = z1 at *
      generalize l[k].2.2 = z2 at *
      have R : ∀ j, Below w.heap.size w (wr.drewN j) := fun j => below_drewN hb j
      have HR : Hid _ := R
      clear R hb
      go_wp2_with fail
      go_quiet (fail)
      go_wp2
      go_roundg (gk - 1)
      case measure => omega
      case rel => exact ⟨k + 1, by omega, by go_num, HR.out _⟩
    · go_wp2
      go_ret
      exact ⟨rfl, hb⟩

theorem samespace_same (v u : Value) (s : SpaceL) (w : World) (hv : Space w v s) (hu : Space w u s) :
    Calls Try.prog 11 #[v, u] w fun e w' => e = .returned (.bool true) ∧ Below w.heap.size w w' := by
  obtain ⟨m1, a1, rfl, hm1, ha1⟩ := hv
  obtain ⟨m2, a2, rfl, hm2, ha2⟩ := hu
  generalize s.arcs.map arcZ = l at *
  generalize s.marks = ms at *
  obtain ⟨am1, cm1, rfl, _, _⟩ := hm1.slice
  obtain ⟨am2, cm2, rfl, _, _⟩ := hm2.slice
  obtain ⟨aa1, ca1, rfl, _⟩ := ha1.slice
  obtain ⟨aa2, ca2, rfl, _⟩ := ha2.slice
  have b1 := below_new w (.cells #[.slice am1 ms.length cm1, .slice aa1 l.length ca1] 29)
  have b2 := below_new (w.alloc (.cells #[.slice am1 ms.length cm1, .slice aa1 l.length ca1] 29)) (.cells #[.slice am2 ms.length cm2, .slice aa2 l.length ca2] 29)
  have x1 := (box2_new w (.slice am1 ms.length cm1) (.slice aa1 l.length ca1) 29).below b2
  have x2 : Box2 ((w.alloc (.cells #[.slice am1 ms.length cm1, .slice aa1 l.length ca1] 29)).alloc (.cells #[.slice am2 ms.length cm2, .slice aa2 l.length ca2] 29)) (w.heap.size + 1) (.slice am2 ms.length cm2) (.slice aa2 l.length ca2) := by
    have := box2_new (w.alloc (.cells #[.slice am1 ms.length cm1, .slice aa1 l.length ca1] 29)) (.slice am2 ms.length cm2) (.slice aa2 l.length ca2) 29
    simpa using this
  have b3 := below_then b1 b2
  replace hm1 := hm1.below b3
  replace hm2 := hm2.below b3
  replace ha1 := ha1.below b3
  replace ha2 := ha2.below b3
  clear b1 b2
  obtain ⟨W, HW⟩ : ∃ W, Hid ((w.alloc (.cells #[.slice am1 ms.length cm1, .slice aa1 l.length ca1] 29)).alloc (.cells #[.slice am2 ms.length cm2, .slice aa2 l.length ca2] 29) = W) := ⟨_, rfl⟩
  rw [HW.out] at x1 x2 b3 hm1 hm2 ha1 ha2
  go_enter Try.func11, Try.ntmps11
  go_upto_region 1 with fail
  rw [HW.out]
  clear HW
  obtain ⟨y0, y1, y2⟩ := id x1
  obtain ⟨z0, z1, z2⟩ := id x2
  go_wp2_with fail
  refine (samelists_same _ _ ms _ (by exact hm1) (by exact hm2)).mono ?_
  rintro e w1 ⟨rfl, b⟩
  replace ha1 := ha1.below b
  replace ha2 := ha2.below b
  replace b3 := below_then b3 b
  replace x1 := x1.below b
  replace x2 := x2.below b
  clear b y0 y1 y2 z0 z1 z2 hm1 hm2
  obtain ⟨y0, y1, y2⟩ := id x1
  obtain ⟨z0, z1, z2⟩ := id x2
  go_wp2_with fail
  refine (eqarcs_same _ _ _ _ (by exact ha1) (by exact ha2)).mono ?_
  rintro e w2 ⟨rfl, b⟩
  replace b3 := below_then b3 b
  clear b
  go_wp2
  go_ret
  exact ⟨rfl, b3⟩

end Go.Proofs.Ytfcgapcdhhliiaa
