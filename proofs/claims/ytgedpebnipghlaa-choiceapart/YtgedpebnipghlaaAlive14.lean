/- The small trial of package choice that the laws make first: it answers true. -/
import Derived.Test.YtgedpebnipghlaaChoiceDev
import Derived.Test.YtgedpebnipghlaaReachSame
import Derived.Test.YtgedpebnipghlaaBoxes
namespace Go.Proofs.Ytgedpebnipghlaa
open Go.RowKit
set_option linter.unusedVariables false
set_option maxRecDepth 4000

def net14 : NetL := ⟨3, [⟨0, [1, 0, 0], [0, 1, 0]⟩, ⟨0, [0, 1, 0], [0, 0, 1]⟩, ⟨0, [1, 0, 1], [0, 0, 1]⟩]⟩

theorem lit_net14 (w W : World) (hW : W = (((((((w.alloc (.cells #[.int .i64 1, .int .i64 0, .int .i64 0] 3)).alloc (.cells #[.int .i64 0, .int .i64 1, .int .i64 0] 3)).alloc (.cells #[.int .i64 0, .int .i64 1, .int .i64 0] 3)).alloc (.cells #[.int .i64 0, .int .i64 0, .int .i64 1] 3)).alloc (.cells #[.int .i64 1, .int .i64 0, .int .i64 1] 3)).alloc (.cells #[.int .i64 0, .int .i64 0, .int .i64 1] 3)).alloc (.cells #[.int .i64 0, .slice (some ⟨w.heap.size, 0, none⟩) 3 3, .slice (some ⟨w.heap.size + 1, 0, none⟩) 3 3, .int .i64 0, .slice (some ⟨w.heap.size + 1 + 1, 0, none⟩) 3 3, .slice (some ⟨w.heap.size + 1 + 1 + 1, 0, none⟩) 3 3, .int .i64 0, .slice (some ⟨w.heap.size + 1 + 1 + 1 + 1, 0, none⟩) 3 3, .slice (some ⟨w.heap.size + 1 + 1 + 1 + 1 + 1, 0, none⟩) 3 3] 44))) : Trans W (.slice (some ⟨w.heap.size + 1 + 1 + 1 + 1 + 1 + 1, 0, none⟩) 3 3) net14.trans ∧ Below w.heap.size w W ∧ W.heap.size = w.heap.size + 1 + 1 + 1 + 1 + 1 + 1 + 1 := by
  have b0 := below_new w (.cells #[.int .i64 1, .int .i64 0, .int .i64 0] 3)
  have i0 : Ints (w.alloc (.cells #[.int .i64 1, .int .i64 0, .int .i64 0] 3)) (.slice (some ⟨w.heap.size, 0, none⟩) 3 3) [1, 0, 0] := ints_lit w _ [1, 0, 0] 3 3 rfl (by omega) rfl
  generalize hw0 : w.alloc (.cells #[.int .i64 1, .int .i64 0, .int .i64 0] 3) = w0 at b0 i0 hW
  have s0 : w0.heap.size = w.heap.size + 1 := by rw [← hw0]; simp
  clear hw0
  have b1 := below_new w0 (.cells #[.int .i64 0, .int .i64 1, .int .i64 0] 3)
  have i1 : Ints (w0.alloc (.cells #[.int .i64 0, .int .i64 1, .int .i64 0] 3)) (.slice (some ⟨w.heap.size + 1, 0, none⟩) 3 3) [0, 1, 0] := ints_lit w0 _ [0, 1, 0] 3 3 rfl (by omega) s0.symm
  generalize hw1 : w0.alloc (.cells #[.int .i64 0, .int .i64 1, .int .i64 0] 3) = w1 at b1 i1 hW
  have s1 : w1.heap.size = w.heap.size + 1 + 1 := by rw [← hw1]; simp [s0]
  clear hw1
  replace i0 := i0.below b1
  have b2 := below_new w1 (.cells #[.int .i64 0, .int .i64 1, .int .i64 0] 3)
  have i2 : Ints (w1.alloc (.cells #[.int .i64 0, .int .i64 1, .int .i64 0] 3)) (.slice (some ⟨w.heap.size + 1 + 1, 0, none⟩) 3 3) [0, 1, 0] := ints_lit w1 _ [0, 1, 0] 3 3 rfl (by omega) s1.symm
  generalize hw2 : w1.alloc (.cells #[.int .i64 0, .int .i64 1, .int .i64 0] 3) = w2 at b2 i2 hW
  have s2 : w2.heap.size = w.heap.size + 1 + 1 + 1 := by rw [← hw2]; simp [s1]
  clear hw2
  replace i0 := i0.below b2
  replace i1 := i1.below b2
  have b3 := below_new w2 (.cells #[.int .i64 0, .int .i64 0, .int .i64 1] 3)
  have i3 : Ints (w2.alloc (.cells #[.int .i64 0, .int .i64 0, .int .i64 1] 3)) (.slice (some ⟨w.heap.size + 1 + 1 + 1, 0, none⟩) 3 3) [0, 0, 1] := ints_lit w2 _ [0, 0, 1] 3 3 rfl (by omega) s2.symm
  generalize hw3 : w2.alloc (.cells #[.int .i64 0, .int .i64 0, .int .i64 1] 3) = w3 at b3 i3 hW
  have s3 : w3.heap.size = w.heap.size + 1 + 1 + 1 + 1 := by rw [← hw3]; simp [s2]
  clear hw3
  replace i0 := i0.below b3
  replace i1 := i1.below b3
  replace i2 := i2.below b3
  have b4 := below_new w3 (.cells #[.int .i64 1, .int .i64 0, .int .i64 1] 3)
  have i4 : Ints (w3.alloc (.cells #[.int .i64 1, .int .i64 0, .int .i64 1] 3)) (.slice (some ⟨w.heap.size + 1 + 1 + 1 + 1, 0, none⟩) 3 3) [1, 0, 1] := ints_lit w3 _ [1, 0, 1] 3 3 rfl (by omega) s3.symm
  generalize hw4 : w3.alloc (.cells #[.int .i64 1, .int .i64 0, .int .i64 1] 3) = w4 at b4 i4 hW
  have s4 : w4.heap.size = w.heap.size + 1 + 1 + 1 + 1 + 1 := by rw [← hw4]; simp [s3]
  clear hw4
  replace i0 := i0.below b4
  replace i1 := i1.below b4
  replace i2 := i2.below b4
  replace i3 := i3.below b4
  have b5 := below_new w4 (.cells #[.int .i64 0, .int .i64 0, .int .i64 1] 3)
  have i5 : Ints (w4.alloc (.cells #[.int .i64 0, .int .i64 0, .int .i64 1] 3)) (.slice (some ⟨w.heap.size + 1 + 1 + 1 + 1 + 1, 0, none⟩) 3 3) [0, 0, 1] := ints_lit w4 _ [0, 0, 1] 3 3 rfl (by omega) s4.symm
  generalize hw5 : w4.alloc (.cells #[.int .i64 0, .int .i64 0, .int .i64 1] 3) = w5 at b5 i5 hW
  have s5 : w5.heap.size = w.heap.size + 1 + 1 + 1 + 1 + 1 + 1 := by rw [← hw5]; simp [s4]
  clear hw5
  replace i0 := i0.below b5
  replace i1 := i1.below b5
  replace i2 := i2.below b5
  replace i3 := i3.below b5
  replace i4 := i4.below b5
  have bz := below_new w5 (.cells #[.int .i64 0, .slice (some ⟨w.heap.size, 0, none⟩) 3 3, .slice (some ⟨w.heap.size + 1, 0, none⟩) 3 3, .int .i64 0, .slice (some ⟨w.heap.size + 1 + 1, 0, none⟩) 3 3, .slice (some ⟨w.heap.size + 1 + 1 + 1, 0, none⟩) 3 3, .int .i64 0, .slice (some ⟨w.heap.size + 1 + 1 + 1 + 1, 0, none⟩) 3 3, .slice (some ⟨w.heap.size + 1 + 1 + 1 + 1 + 1, 0, none⟩) 3 3] 44)
  replace i0 := i0.below bz
  replace i1 := i1.below bz
  replace i2 := i2.below bz
  replace i3 := i3.below bz
  replace i4 := i4.below bz
  replace i5 := i5.below bz
  have bb := below_then b0 (below_then b1 (below_then b2 (below_then b3 (below_then b4 (below_then b5 (bz))))))
  rw [hW]
  refine ⟨⟨_, _, _, rfl, rfl, by omega, ⟨by omega, by omega, fun h => by cases h⟩, fun j hj => ?_⟩, bb, by simp [s5]⟩
  match j, hj with
  | 0, _ => exact ⟨_, 0, _, _, rfl, by simp [s5], by rw [World.cell?_alloc_at _ _ _ _ s5.symm]; rfl, by rw [World.cell?_alloc_at _ _ _ _ s5.symm]; rfl, by rw [World.cell?_alloc_at _ _ _ _ s5.symm]; rfl, i0, i1⟩
  | 1, _ => exact ⟨_, 0, _, _, rfl, by simp [s5], by rw [World.cell?_alloc_at _ _ _ _ s5.symm]; rfl, by rw [World.cell?_alloc_at _ _ _ _ s5.symm]; rfl, by rw [World.cell?_alloc_at _ _ _ _ s5.symm]; rfl, i2, i3⟩
  | 2, _ => exact ⟨_, 0, _, _, rfl, by simp [s5], by rw [World.cell?_alloc_at _ _ _ _ s5.symm]; rfl, by rw [World.cell?_alloc_at _ _ _ _ s5.symm]; rfl, by rw [World.cell?_alloc_at _ _ _ _ s5.symm]; rfl, i4, i5⟩
  | j + 3, h => exact absurd (show j + 3 < 3 from h) (by omega)

theorem lit_net14_b (w W : World) (hT : Trans W (.slice (some ⟨w.heap.size + 1 + 1 + 1 + 1 + 1 + 1, 0, none⟩) 3 3) net14.trans) (hb : Below w.heap.size w W) (hs : W.heap.size = w.heap.size + 1 + 1 + 1 + 1 + 1 + 1 + 1) :
    ∃ b a, Value.pointer (some ⟨w.heap.size + 1 + 1 + 1 + 1 + 1 + 1 + 1, 0, none⟩) = .pointer (some ⟨b, 0, none⟩) ∧ Box2 (W.alloc (.cells #[.int .i64 3, .slice (some ⟨w.heap.size + 1 + 1 + 1 + 1 + 1 + 1, 0, none⟩) 3 3] 24)) b (.int .i64 3) (.slice a 3 3) ∧ Net (W.alloc (.cells #[.int .i64 3, .slice (some ⟨w.heap.size + 1 + 1 + 1 + 1 + 1 + 1, 0, none⟩) 3 3] 24)) (.agg #[.int .i64 3, .slice a 3 3]) net14 ∧ Below w.heap.size w (W.alloc (.cells #[.int .i64 3, .slice (some ⟨w.heap.size + 1 + 1 + 1 + 1 + 1 + 1, 0, none⟩) 3 3] 24)) := by
  have b1 := below_new W (.cells #[.int .i64 3, .slice (some ⟨w.heap.size + 1 + 1 + 1 + 1 + 1 + 1, 0, none⟩) 3 3] 24)
  have hx := box2_new W (.int .i64 3) (.slice (some ⟨w.heap.size + 1 + 1 + 1 + 1 + 1 + 1, 0, none⟩) 3 3) 24
  rw [hs] at hx
  exact ⟨_, _, rfl, hx, ⟨_, rfl, hT.below b1⟩, below_then hb b1⟩

def net14' : NetL := ⟨3, [⟨0, [1, 0, 0], [0, 1, 0]⟩, ⟨0, [0, 1, 0], [0, 0, 1]⟩]⟩
theorem net14_not : ¬ FreeN net14 := fun h => by
  have := h.2 0 2 (by decide) (by decide) ⟨0, by decide, by decide⟩
  revert this; decide
theorem net14_shares {i j : Nat} (hi : i < 3) (hj : j < 3) (h : Shares net14 i j) : (i = 1 ↔ j = 1) := by
  obtain ⟨p, h1, h2⟩ := h
  have hp : p < 3 := by
    rcases Nat.lt_or_ge p 3 with h | h
    · exact h
    · rw [nth_past _ _ (by
        obtain rfl | rfl | rfl : i = 0 ∨ i = 1 ∨ i = 2 := by omega
        all_goals exact h)] at h1
      omega
  obtain rfl | rfl | rfl : i = 0 ∨ i = 1 ∨ i = 2 := by omega
  all_goals obtain rfl | rfl | rfl : j = 0 ∨ j = 1 ∨ j = 2 := by omega
  all_goals obtain rfl | rfl | rfl : p = 0 ∨ p = 1 ∨ p = 2 := by omega
  all_goals first | (revert h1 h2; decide) | omega
theorem net14_free : FreeN net14' := by
  refine ⟨by decide, fun i j hi hj hs => ?_⟩
  have hi : i < 2 := hi
  have hj : j < 2 := hj
  have key := net14_shares (i := i) (j := j) (by omega) (by omega) (by
    obtain ⟨p, h1, h2⟩ := hs
    refine ⟨p, ?_, ?_⟩
    · obtain rfl | rfl : i = 0 ∨ i = 1 := by omega
      all_goals exact h1
    · obtain rfl | rfl : j = 0 ∨ j = 1 := by omega
      all_goals exact h2)
  obtain rfl | rfl : i = 0 ∨ i = 1 := by omega
  all_goals obtain rfl | rfl : j = 0 ∨ j = 1 := by omega
  all_goals first | rfl | omega
theorem net14_led {a b : Nat} (ha : a < 3) (hb : b < 3) : Led net14 a b ↔ (a = 1 ↔ b = 1) := by
  constructor
  · intro h
    exact h (fun x => (a = 1 ↔ x = 1)) Iff.rfl fun x y hx hy h1 hs => h1.trans (net14_shares hx hy hs)
  · intro h
    have s02 : Led net14 0 2 := (Led.here net14 0).step (by decide) (by decide) ⟨0, by decide, by decide⟩
    obtain rfl | rfl | rfl : a = 0 ∨ a = 1 ∨ a = 2 := by omega
    all_goals obtain rfl | rfl | rfl : b = 0 ∨ b = 1 ∨ b = 2 := by omega
    all_goals first | exact Led.here _ _ | exact s02 | exact s02.symm | (exfalso; omega)
theorem net14_parts : PartsOk net14 [[0, 2], [1]] := by
  refine ⟨fun h => (by revert h; decide), fun l hl => ?_, fun l hl => ?_, by simp, fun l hl t ht => ?_, fun _ k hk => ?_⟩
  · simp at hl; rcases hl with rfl | rfl <;> simp
  · simp at hl; rcases hl with rfl | rfl <;> simp
  · have lit : (∀ u : Nat, (u : Int) ∈ ([0, 2] : List Int) ↔ u = 0 ∨ u = 2) ∧ (∀ u : Nat, (u : Int) ∈ ([1] : List Int) ↔ u = 1) := by
      constructor
      · intro u; simp; omega
      · intro u; simp; omega
    simp at hl
    rcases hl with rfl | rfl
    · obtain rfl | rfl : t = 0 ∨ t = 2 := by simpa using ht
      · refine ⟨by omega, by decide, fun u hu => ?_⟩
        have hu : u < 3 := hu
        rw [lit.1, show Int.toNat 0 = 0 from rfl, net14_led (by omega) hu]; omega
      · refine ⟨by omega, by decide, fun u hu => ?_⟩
        have hu : u < 3 := hu
        rw [lit.1, show Int.toNat 2 = 2 from rfl, net14_led (by omega) hu]; omega
    · obtain rfl : t = 1 := by simpa using ht
      refine ⟨by omega, by decide, fun u hu => ?_⟩
      have hu : u < 3 := hu
      rw [lit.2, show Int.toNat 1 = 1 from rfl, net14_led (by omega) hu]; omega
  · have hk : k < 3 := hk
    obtain rfl | rfl | rfl : k = 0 ∨ k = 1 ∨ k = 2 := by omega
    · exact ⟨[0, 2], by simp, by simp⟩
    · exact ⟨[1], by simp, by simp⟩
    · exact ⟨[0, 2], by simp, by simp⟩

theorem Net.trans_of {w : World} {x tv : Value} {n : NetL} (h : Net w (.agg #[x, tv]) n) : Trans w tv n.trans := by
  obtain ⟨tv', e, hT⟩ := h
  injection e with e
  have e2 := congrArg (fun a : Array Value => a[1]?) e
  simp at e2
  rw [e2]; exact hT

theorem trans_two {w : World} {a : Option Addr} {cap : Nat} {ts : List TranL} {x y z : TranL} (h : Trans w (.slice a 3 cap) [x, y, z]) : Trans w (.slice a 2 cap) [x, y] := by
  obtain ⟨a', l', c', e, hl, hm, hs, hr⟩ := h
  injection e with e1 e2 e3
  subst e1 e2 e3
  refine ⟨_, _, _, rfl, rfl, by omega, ⟨by have := hs.1; omega, hs.2.1, hs.2.2⟩, fun j hj => ?_⟩
  have hj : j < 2 := hj
  have := hr j (by simp; omega)
  obtain rfl | rfl : j = 0 ∨ j = 1 := by omega
  · exact this
  · exact this

set_option maxHeartbeats 2000000 in
theorem alive14_any (w : World) : Calls Try.prog 13 #[] w fun e w' => e = .returned (.bool true) ∧ Below w.heap.size w w' := by
  obtain ⟨hT, hb, hs⟩ := lit_net14 w _ rfl
  go_enter Try.func13, Try.ntmps13
  go_upto_region 1 with fail
  go_cut [1] (fun p wc => ∃ b a, p = .pointer (some ⟨b, 0, none⟩) ∧ Box2 wc b (.int .i64 3) (.slice a 3 3) ∧ Net wc (.agg #[.int .i64 3, .slice a 3 3]) net14 ∧ Below w.heap.size w wc)
  case first =>
    have HT : Hid _ := hT
    have HB : Hid _ := hb
    have HS : Hid _ := hs
    clear hT hb hs
    go_wp2_with fail
    go_meet
    exact lit_net14_b w _ HT.out HB.out HS.out
  case rest =>
    clear hT hb hs
    obtain ⟨bk, a, rfl, hbx, hv, c⟩ := hcut
    obtain ⟨w0, rfl⟩ : ∃ w0, w0 = wc := ⟨_, rfl⟩
    obtain ⟨x0, x1, x2⟩ := id hbx
    go_wp2_with fail
    refine (choice_free _ net14 w0 (by exact hv)).mono ?_
    rintro e w1 ⟨b, rfl, hb, b1⟩
    obtain rfl : b = false := by cases b with
      | false => rfl
      | true => exact absurd (hb.1 rfl) net14_not
    replace hv := hv.below b1
    replace hbx := hbx.below b1
    replace c := below_then c b1
    clear b1 x0 x1 x2 hb
    obtain ⟨x0, x1, x2⟩ := id hbx
    have hv2 : Net w1 (.agg #[.int .i64 3, .slice a 2 3]) net14' := ⟨_, rfl, trans_two (ts := []) hv.trans_of⟩
    go_wp2_with fail
    refine (choice_free _ net14' w1 (by exact hv2)).mono ?_
    rintro e w2 ⟨b, rfl, hb, b1⟩
    obtain rfl : b = true := hb.2 net14_free
    replace hv := hv.below b1
    replace hbx := hbx.below b1
    replace c := below_then c b1
    clear b1 x0 x1 x2 hb hv2
    obtain ⟨x0, x1, x2⟩ := id hbx
    go_wp2_with fail
    refine (choice_clusters _ net14 w2 (by exact hv)).mono ?_
    rintro e w3 ⟨r, ls, rfl, hp, hL, b1⟩
    obtain rfl := hp.unique net14_parts
    replace c := below_then c b1
    clear b1 x0 x1 x2 hp hbx hv
    have n1 := below_new w3 (.cells #[.int .i64 0, .int .i64 2] 3)
    have i1 := ints_lit w3 _ [0, 2] 3 2 rfl (by omega) rfl
    obtain ⟨w4, H4⟩ : ∃ w4, Hid (w3.alloc (.cells #[.int .i64 0, .int .i64 2] 3) = w4) := ⟨_, rfl⟩
    have i1 : Ints w4 (.slice (some ⟨w3.heap.size, 0, none⟩) 2 2) [0, 2] := by rw [← H4.out]; exact i1
    have n2 := below_new w4 (.cells #[.int .i64 1] 3)
    have e4 : w4.heap.size = w3.heap.size + 1 := by rw [← H4.out]; simp
    have i2 : Ints (w4.alloc (.cells #[.int .i64 1] 3)) (.slice (some ⟨w3.heap.size + 1, 0, none⟩) 1 1) [1] := ints_lit w4 _ [1] 3 1 rfl (by omega) e4.symm
    have e5 : (w4.alloc (.cells #[.int .i64 1] 3)).heap.size = w3.heap.size + 1 + 1 := by simp [e4]
    have hL2 := lists_lit2 (w4.alloc (.cells #[.int .i64 1] 3)) (w3.heap.size + 1 + 1) _ _ [0, 2] [1] 29 (i1.below n2) i2 e5.symm
    have n3 := below_new (w4.alloc (.cells #[.int .i64 1] 3)) (.cells #[.slice (some ⟨w3.heap.size, 0, none⟩) 2 2, .slice (some ⟨w3.heap.size + 1, 0, none⟩) 1 1] 29)
    rw [← H4.out] at n2 n3 hL2
    have bb := below_then n1 (below_then n2 n3)
    clear i1 i2 e4 e5 n1 n2 n3 H4
    go_wp2_with fail
    refine (samelists_same _ _ [[0, 2], [1]] _ (by exact hL.below bb) (by exact hL2)).mono ?_
    rintro e w6 ⟨rfl, b1⟩
    replace c := below_then c (below_then bb b1)
    clear b1 bb hL hL2
    go_wp2
    go_ret
    exact ⟨rfl, c⟩

end Go.Proofs.Ytgedpebnipghlaa
