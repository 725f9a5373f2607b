/- The small trial of package sound that the laws make first: it answers true. -/
import Derived.Test.YtkdbkoogcndlgaaSoundDev
import Derived.Test.YtkdbkoogcndlgaaGr04
import Derived.Test.YtkdbkoogcndlgaaGr03
import Derived.Maps.AppendAt
namespace Go.Proofs.Ytkdbkoogcndlgaa
open Go.RowKit
set_option linter.unusedVariables false
set_option maxRecDepth 4000

def net9a : NetL := ⟨3, [⟨0, [1, 0, 0], [0, 1, 0]⟩, ⟨0, [0, 1, 0], [0, 0, 1]⟩]⟩
def net9b : NetL := ⟨3, [⟨0, [1, 0, 0], [0, 1, 0]⟩, ⟨0, [0, 1, 0], [0, 0, 2]⟩]⟩
theorem shape9 (z : Int) (n : NetL) (hn : n = ⟨3, [⟨0, [1, 0, 0], [0, 1, 0]⟩, ⟨0, [0, 1, 0], [0, 0, z]⟩]⟩) (hok : netOk n = true) (hz : z ≠ 0) : ShapeOk n 0 2 := by
  subst hn
  have w1 : WayP ⟨3, [⟨0, [1, 0, 0], [0, 1, 0]⟩, ⟨0, [0, 1, 0], [0, 0, z]⟩]⟩ 0 1 := (WayP.here _ 0).step (k := 0) (Nat.succ_pos _) (by show (1 : Int) ≠ 0; decide) (by show (1 : Int) ≠ 0; decide)
  have w2 : WayP ⟨3, [⟨0, [1, 0, 0], [0, 1, 0]⟩, ⟨0, [0, 1, 0], [0, 0, z]⟩]⟩ 0 2 := w1.step (k := 1) (Nat.lt_succ_self _) (by show (1 : Int) ≠ 0; decide) (by show z ≠ 0; exact hz)
  have v1 : WayP (turnL ⟨3, [⟨0, [1, 0, 0], [0, 1, 0]⟩, ⟨0, [0, 1, 0], [0, 0, z]⟩]⟩) 2 1 := (WayP.here _ 2).step (k := 1) (Nat.lt_succ_self _) (by show z ≠ 0; exact hz) (by show (1 : Int) ≠ 0; decide)
  have v2 : WayP (turnL ⟨3, [⟨0, [1, 0, 0], [0, 1, 0]⟩, ⟨0, [0, 1, 0], [0, 0, z]⟩]⟩) 2 0 := v1.step (k := 0) (Nat.succ_pos _) (by show (1 : Int) ≠ 0; decide) (by show (1 : Int) ≠ 0; decide)
  have three : ∀ p : Nat, (p : Int) < 3 → p = 0 ∨ p = 1 ∨ p = 2 := fun p hp => by omega
  have two : ∀ k : Nat, k < 2 → k = 0 ∨ k = 1 := fun k hk => by omega
  refine ⟨hok, by decide, by decide, by show (0 : Int) < 3; decide, by decide, by show (2 : Int) < 3; decide, fun p hp => ?_, fun p hp => ?_, fun k hk => ?_, fun k hk => ?_, fun k hk => ?_, fun k hk => ?_⟩
  · rcases three p hp with rfl | rfl | rfl
    · exact WayP.here _ _
    · exact w1
    · exact w2
  · rcases three p hp with rfl | rfl | rfl
    · exact v2
    · exact v1
    · exact WayP.here _ _
  · rcases two k hk with rfl | rfl
    · exact ⟨0, WayP.here _ _, by show (1 : Int) ≠ 0; decide⟩
    · exact ⟨1, w1, by show (1 : Int) ≠ 0; decide⟩
  · rcases two k hk with rfl | rfl
    · exact ⟨1, v1, by show (1 : Int) ≠ 0; decide⟩
    · exact ⟨2, WayP.here _ _, by show z ≠ 0; exact hz⟩
  · rcases two k hk with rfl | rfl <;> rfl
  · rcases two k hk with rfl | rfl <;> rfl
theorem graph9a : graphL net9a (startL 3 0) 50 = (⟨[[1, 0, 0], [0, 1, 0], [0, 0, 1]], [⟨0, 0, 1⟩, ⟨1, 1, 2⟩]⟩, 0) := by rfl
theorem graph9b : graphL net9b (startL 3 0) 50 = (⟨[[1, 0, 0], [0, 1, 0], [0, 0, 2]], [⟨0, 0, 1⟩, ⟨1, 1, 2⟩]⟩, 0) := by rfl
theorem verd9a {x : VerdL} {d : Int} (h : Verd net9a 0 2 50 x d) : x = ⟨1, [], 0⟩ ∧ d = 0 := by
  refine h.unique (verd_right (shape9 1 net9a rfl (by decide) (by decide)) graph9a (says_sound (fun j hj => ?_) (fun j hj => ?_) (by rfl)))
  · have hj : j < 3 := hj
    obtain rfl | rfl | rfl : j = 0 ∨ j = 1 ∨ j = 2 := by omega
    · exact fun q => absurd q.1 (by decide)
    · exact fun q => absurd q.1 (by decide)
    · exact fun q => q.2 (by rfl)
  · have hj : j < 3 := hj
    obtain rfl | rfl | rfl : j = 0 ∨ j = 1 ∨ j = 2 := by omega
    · exact run_reachZ [0, 1] (by rfl)
    · exact run_reachZ [1] (by rfl)
    · exact run_reachZ [] (by rfl)
theorem verd9b {x : VerdL} {d : Int} (h : Verd net9b 0 2 50 x d) : x = ⟨2, [0, 0, 2], 0⟩ ∧ d = 0 := by
  refine h.unique (verd_right (shape9 2 net9b rfl (by decide) (by decide)) graph9b (says_extra (s := ⟨[[1, 0, 0], [0, 1, 0], [0, 0, 2]], [⟨0, 0, 1⟩, ⟨1, 1, 2⟩]⟩) (k := 2) (by decide) ⟨by decide, by decide⟩ fun j hj => ?_))
  obtain rfl | rfl : j = 0 ∨ j = 1 := by omega
  · exact fun q => absurd q.1 (by decide)
  · exact fun q => absurd q.1 (by decide)

/-- Two transitions that lie in one block. -/
theorem trans_two {w : World} {tb : Nat} {p0 q0 p1 q1 : Value} {l0 l1 : Int} {a0 b0 a1 b1 : List Int} (h : w.heap[tb]? = some (.cells #[.int .i64 l0, p0, q0, .int .i64 l1, p1, q1] 57 (0, 0))) (i0 : Ints w p0 a0) (j0 : Ints w q0 b0) (i1 : Ints w p1 a1) (j1 : Ints w q1 b1) :
    Trans w (.slice (some ⟨tb, 0, none⟩) 2 2) [⟨l0, a0, b0⟩, ⟨l1, a1, b1⟩] := by
  have hlt : tb < w.heap.size := (Array.getElem?_eq_some_iff.1 h).1
  have hc : ∀ j, w.cell? ⟨tb, j, none⟩ = #[.int .i64 l0, p0, q0, .int .i64 l1, p1, q1][j]? := fun j => by simp [World.cell?, h]
  refine ⟨_, _, _, rfl, rfl, by omega, ⟨by omega, by omega, fun h => by cases h⟩, fun j hj => ?_⟩
  match j, hj with
  | 0, _ => exact ⟨tb, 0, _, _, rfl, hlt, hc _, hc _, hc _, i0, j0⟩
  | 1, _ => exact ⟨tb, 0, _, _, rfl, hlt, hc _, hc _, hc _, i1, j1⟩
  | j + 2, h => simp at h; omega

theorem ints_putS {w : World} {v : Value} {xs : List Int} {p : Addr} {a : Option Addr} {l c : Nat} (h : Ints w v xs) (hp : w.cell? p = some (.slice a l c)) (u : Value) : Ints (w.setCell p u) v xs := by
  obtain ⟨a, len, cap, e, hl, hm, hs, hr⟩ := h
  refine ⟨a, len, cap, e, hl, hm, hs, fun j hj => ?_⟩
  obtain ⟨b, off, ha, hb, hc⟩ := hr j hj
  refine ⟨b, off, ha, by simpa [World.setCell] using hb, ?_⟩
  rw [World.cell?_setCell_other _ _ _ _ (by intro e; rw [← e, hp] at hc; cases hc)]
  exact hc

/-- The net as it is written down. -/
structure Lit9 (w : World) (b tb : Nat) (p0 q0 p1 q1 : Value) (z : Int) : Prop where
  box : Box2 w b (.int .i64 3) (.slice (some ⟨tb, 0, none⟩) 2 2)
  blk : w.heap[tb]? = some (.cells #[.int .i64 0, p0, q0, .int .i64 0, p1, q1] 57 (0, 0))
  i0 : Ints w p0 [1, 0, 0]
  j0 : Ints w q0 [0, 1, 0]
  i1 : Ints w p1 [0, 1, 0]
  j1 : Ints w q1 [0, 0, z]
theorem Lit9.below {w w' : World} {b tb : Nat} {p0 q0 p1 q1 : Value} {z : Int} (h : Lit9 w b tb p0 q0 p1 q1 z) (hb : Below w.heap.size w w') : Lit9 w' b tb p0 q0 p1 q1 z :=
  ⟨h.box.below hb, by rw [hb.block tb (Array.getElem?_eq_some_iff.1 h.blk).1]; exact h.blk, h.i0.below hb, h.j0.below hb, h.i1.below hb, h.j1.below hb⟩
theorem Lit9.net {w : World} {b tb : Nat} {p0 q0 p1 q1 : Value} {z : Int} (h : Lit9 w b tb p0 q0 p1 q1 z) : Net w (.agg #[.int .i64 3, .slice (some ⟨tb, 0, none⟩) 2 2]) ⟨3, [⟨0, [1, 0, 0], [0, 1, 0]⟩, ⟨0, [0, 1, 0], [0, 0, z]⟩]⟩ := ⟨_, rfl, trans_two h.blk h.i0 h.j0 h.i1 h.j1⟩

theorem lit9_new (w W : World) (hW : W = (((((w.alloc (.cells #[.int .i64 1, .int .i64 0, .int .i64 0] 3)).alloc (.cells #[.int .i64 0, .int .i64 1, .int .i64 0] 3)).alloc (.cells #[.int .i64 0, .int .i64 1, .int .i64 0] 3)).alloc (.cells #[.int .i64 0, .int .i64 0, .int .i64 1] 3)).alloc
      (.cells #[.int .i64 0, .slice (some ⟨w.heap.size, 0, none⟩) 3 3, .slice (some ⟨w.heap.size + 1, 0, none⟩) 3 3, .int .i64 0, .slice (some ⟨w.heap.size + 1 + 1, 0, none⟩) 3 3, .slice (some ⟨w.heap.size + 1 + 1 + 1, 0, none⟩) 3 3] 57)).alloc
      (.cells #[.int .i64 3, .slice (some ⟨w.heap.size + 1 + 1 + 1 + 1, 0, none⟩) 2 2] 24)) :
    Lit9 W (w.heap.size + 1 + 1 + 1 + 1 + 1) (w.heap.size + 1 + 1 + 1 + 1) (.slice (some ⟨w.heap.size, 0, none⟩) 3 3) (.slice (some ⟨w.heap.size + 1, 0, none⟩) 3 3) (.slice (some ⟨w.heap.size + 1 + 1, 0, none⟩) 3 3) (.slice (some ⟨w.heap.size + 1 + 1 + 1, 0, none⟩) 3 3) 1 ∧ Below w.heap.size w W := by
  have b1 := below_new w (.cells #[.int .i64 1, .int .i64 0, .int .i64 0] 3)
  have i1 : Ints (w.alloc (.cells #[.int .i64 1, .int .i64 0, .int .i64 0] 3)) (.slice (some ⟨w.heap.size, 0, none⟩) 3 3) [1, 0, 0] := ints_lit w _ [1, 0, 0] 3 3 rfl (by omega) rfl
  have s1 : (w.alloc (.cells #[.int .i64 1, .int .i64 0, .int .i64 0] 3)).heap.size = w.heap.size + 1 := by simp
  generalize w.alloc (.cells #[.int .i64 1, .int .i64 0, .int .i64 0] 3) = w1 at *
  have b2 := below_new w1 (.cells #[.int .i64 0, .int .i64 1, .int .i64 0] 3)
  have i2 : Ints (w1.alloc (.cells #[.int .i64 0, .int .i64 1, .int .i64 0] 3)) (.slice (some ⟨w.heap.size + 1, 0, none⟩) 3 3) [0, 1, 0] := ints_lit w1 _ [0, 1, 0] 3 3 rfl (by omega) s1.symm
  have s2 : (w1.alloc (.cells #[.int .i64 0, .int .i64 1, .int .i64 0] 3)).heap.size = w.heap.size + 1 + 1 := by simp [s1]
  generalize w1.alloc (.cells #[.int .i64 0, .int .i64 1, .int .i64 0] 3) = w2 at *
  have b3 := below_new w2 (.cells #[.int .i64 0, .int .i64 1, .int .i64 0] 3)
  have i3 : Ints (w2.alloc (.cells #[.int .i64 0, .int .i64 1, .int .i64 0] 3)) (.slice (some ⟨w.heap.size + 1 + 1, 0, none⟩) 3 3) [0, 1, 0] := ints_lit w2 _ [0, 1, 0] 3 3 rfl (by omega) s2.symm
  have s3 : (w2.alloc (.cells #[.int .i64 0, .int .i64 1, .int .i64 0] 3)).heap.size = w.heap.size + 1 + 1 + 1 := by simp [s2]
  generalize w2.alloc (.cells #[.int .i64 0, .int .i64 1, .int .i64 0] 3) = w3 at *
  have b4 := below_new w3 (.cells #[.int .i64 0, .int .i64 0, .int .i64 1] 3)
  have i4 : Ints (w3.alloc (.cells #[.int .i64 0, .int .i64 0, .int .i64 1] 3)) (.slice (some ⟨w.heap.size + 1 + 1 + 1, 0, none⟩) 3 3) [0, 0, 1] := ints_lit w3 _ [0, 0, 1] 3 3 rfl (by omega) s3.symm
  have s4 : (w3.alloc (.cells #[.int .i64 0, .int .i64 0, .int .i64 1] 3)).heap.size = w.heap.size + 1 + 1 + 1 + 1 := by simp [s3]
  generalize w3.alloc (.cells #[.int .i64 0, .int .i64 0, .int .i64 1] 3) = w4 at *
  obtain ⟨TR, hTR⟩ : ∃ TR, Obj.cells #[.int .i64 0, .slice (some ⟨w.heap.size, 0, none⟩) 3 3, .slice (some ⟨w.heap.size + 1, 0, none⟩) 3 3, .int .i64 0, .slice (some ⟨w.heap.size + 1 + 1, 0, none⟩) 3 3, .slice (some ⟨w.heap.size + 1 + 1 + 1, 0, none⟩) 3 3] 57 = TR := ⟨_, rfl⟩
  rw [hTR] at hW
  have b5 := below_new w4 TR
  have s5 : (w4.alloc TR).heap.size = w.heap.size + 1 + 1 + 1 + 1 + 1 := by simp [s4]
  have k5 : (w4.alloc TR).heap[w.heap.size + 1 + 1 + 1 + 1]? = some TR := by
    rw [← s4]
    show (w4.heap.push _)[w4.heap.size]? = _
    exact Array.getElem?_push_size
  generalize w4.alloc TR = w5 at *
  have b6 := below_new w5 (.cells #[.int .i64 3, .slice (some ⟨w.heap.size + 1 + 1 + 1 + 1, 0, none⟩) 2 2] 24)
  have hx := box2_new w5 (.int .i64 3) (.slice (some ⟨w.heap.size + 1 + 1 + 1 + 1, 0, none⟩) 2 2) 24
  rw [s5] at hx
  subst hW
  refine ⟨⟨hx, ?_, ((((i1.below b2).below b3).below b4).below b5).below b6, (((i2.below b3).below b4).below b5).below b6, ((i3.below b4).below b5).below b6, (i4.below b5).below b6⟩, below_then (below_then (below_then (below_then (below_then b1 b2) b3) b4) b5) b6⟩
  rw [b6.block _ (by rw [s5]; omega), k5, hTR]

theorem box3_putS {w : World} {b : Nat} {x y z v : Value} {p : Addr} (h : Box3 w b x y z) (hp : w.cell? p = some v) (hne : p.block ≠ b) (u : Value) : Box3 (w.setCell p u) b x y z := by
  have ne : ∀ j, (⟨b, j, none⟩ : Addr) ≠ p := fun j e => hne (by rw [← e])
  refine ⟨by simpa [World.setCell] using h.1, ?_, ?_, ?_⟩
  · rw [World.cell?_setCell_other _ _ _ _ (Ne.symm (ne 0))]; exact h.2.1
  · rw [World.cell?_setCell_other _ _ _ _ (Ne.symm (ne 1))]; exact h.2.2.1
  · rw [World.cell?_setCell_other _ _ _ _ (Ne.symm (ne 2))]; exact h.2.2.2

/-- The last weights are written anew. -/
theorem Lit9.put {w : World} {b tb : Nat} {p0 q0 p1 : Value} {a1 : Option Addr} {l1 c1 : Nat} {z y : Int} {u : Value} (h : Lit9 w b tb p0 q0 p1 (.slice a1 l1 c1) z) (hne : b ≠ tb) (hu : Ints w u [0, 0, y]) : Lit9 (w.setCell ⟨tb, 5, none⟩ u) b tb p0 q0 p1 u y := by
  have hc : w.cell? ⟨tb, 5, none⟩ = some (.slice a1 l1 c1) := by simp [World.cell?, h.blk]
  obtain ⟨x0, x1, x2⟩ := h.box
  refine ⟨⟨by simpa [World.setCell] using x0, ?_, ?_⟩, ?_, ints_putS h.i0 hc u, ints_putS h.j0 hc u, ints_putS h.i1 hc u, ints_putS hu hc u⟩
  · rw [World.cell?_setCell_other _ _ _ _ (by intro q; injection q with q1 _; exact hne q1.symm)]; exact x1
  · rw [World.cell?_setCell_other _ _ _ _ (by intro q; injection q with q1 _; exact hne q1.symm)]; exact x2
  · rw [setCell_eq_setRow w tb 5 _ _ _ u h.blk]
    have := setRow_heap w tb _ (#[.int .i64 0, p0, q0, .int .i64 0, p1, .slice a1 l1 c1].setIfInBounds 5 u) 57 (0, 0) h.blk
    simpa using this

set_option maxHeartbeats 2000000 in
theorem alive9_any (w : World) :
    Calls Try.prog 11 #[] w fun e w' => e = .returned (.bool true) ∧ Below w.heap.size w w' := by
  obtain ⟨hL, hb⟩ := lit9_new w _ rfl
  go_enter Try.func11, Try.ntmps11
  go_upto_region 1 with fail
  go_cut [1] (fun p wc => ∃ b tb p0 q0 p1 a1 l1 c1, p = .pointer (some ⟨b, 0, none⟩) ∧ b ≠ tb ∧ Lit9 wc b tb p0 q0 p1 (.slice a1 l1 c1) 1 ∧ Below w.heap.size w wc ∧ w.heap.size ≤ tb)
  case first =>
    have HL : Hid _ := hL
    have HB : Hid _ := hb
    clear hL hb
    go_wp2_with fail
    go_meet
    exact ⟨_, _, _, _, _, _, _, _, rfl, by omega, HL.out, HB.out, by omega⟩
  case rest =>
    clear hL hb
    obtain ⟨b, tb, p0, q0, p1, a1, l1, c1, rfl, hne, hL, c, htb⟩ := hcut
    obtain ⟨w0, rfl⟩ : ∃ w0, w0 = wc := ⟨_, rfl⟩
    obtain ⟨x0, x1, x2⟩ := hL.box
    go_wp2_with fail
    clear x0 x1 x2
    refine (sound_judge _ net9a 0 2 50 _ (by exact hL.net)).mono ?_
    rintro e w1 ⟨r, x, d, rfl, ⟨hr, hV⟩, b1⟩
    obtain ⟨rfl, rfl⟩ := verd9a hV
    clear hV
    obtain ⟨av, rfl, hav⟩ := hr
    obtain ⟨aa, la, ca, rfl, _⟩ := id hav
    simp only at hav ⊢
    replace hL := hL.below b1
    replace c := below_then c b1
    have htw1 : tb < w1.heap.size := (Array.getElem?_eq_some_iff.1 hL.blk).1
    have bn := below_new w1 (.cells #[.int .i64 1, .slice aa la ca, .int .i64 0] 27)
    have hx := box3_new w1 (.int .i64 1) (.slice aa la ca) (.int .i64 0) 27
    obtain ⟨w2, Hw2⟩ : ∃ w2, Hid (w1.alloc (.cells #[.int .i64 1, .slice aa la ca, .int .i64 0] 27) = w2) := ⟨_, rfl⟩
    rw [Hw2.out] at bn hx
    replace hL := hL.below bn
    replace c := below_then c bn
    clear b1 bn hav
    go_upto_region 3 with fail
    rw [Hw2.out]
    clear Hw2
    have bn := below_new w2 (.cells #[.int .i64 0, .int .i64 0, .int .i64 2] 3)
    have iu : Ints (w2.alloc (.cells #[.int .i64 0, .int .i64 0, .int .i64 2] 3)) (.slice (some ⟨w2.heap.size, 0, none⟩) 3 3) [0, 0, 2] := ints_lit w2 _ [0, 0, 2] 3 3 rfl (by omega) rfl
    have hL2 := hL.below bn
    obtain ⟨x0, x1, x2⟩ := hL.box
    obtain ⟨y0, y1, y2⟩ := hL2.box
    have hcell : (w2.alloc (.cells #[.int .i64 0, .int .i64 0, .int .i64 2] 3)).cell? ⟨tb, 5, none⟩ = some (.slice a1 l1 c1) := by simp only [World.cell?, hL2.blk]; rfl
    have hfz : (w2.alloc (.cells #[.int .i64 0, .int .i64 0, .int .i64 2] 3)).frozen? ⟨tb, 5, none⟩ = false := by simp only [World.frozen?, hL2.blk]; rfl
    have hL3 := hL2.put hne iu
    have htw : tb < w2.heap.size := (Array.getElem?_eq_some_iff.1 hL.blk).1
    have hx3 := box3_putS (hx.below bn) hcell (Nat.ne_of_lt htw1) (.slice (some ⟨w2.heap.size, 0, none⟩) 3 3)
    have c3 := (below_then c bn).setCell (p := ⟨tb, 5, none⟩) htb (.slice (some ⟨w2.heap.size, 0, none⟩) 3 3)
    obtain ⟨w3, Hw3⟩ : ∃ w3, Hid ((w2.alloc (.cells #[.int .i64 0, .int .i64 0, .int .i64 2] 3)).setCell ⟨tb, 5, none⟩ (.slice (some ⟨w2.heap.size, 0, none⟩) 3 3) = w3) := ⟨_, rfl⟩
    rw [Hw3.out] at hL3 hx3 c3
    go_upto_region 4 with fail
    rw [← World.setCell_alloc_past _ tb 5 _ htw, Hw3.out]
    clear Hw3 hcell hfz hL hL2 hx iu bn x0 x1 x2 y0 y1 y2 c
    obtain ⟨x0, x1, x2⟩ := hL3.box
    go_wp2_with fail
    clear x0 x1 x2
    refine (sound_judge _ net9b 0 2 50 _ (by exact hL3.net)).mono ?_
    rintro e w4 ⟨r, x, d, rfl, ⟨hr, hV⟩, b4⟩
    obtain ⟨rfl, rfl⟩ := verd9b hV
    clear hV
    obtain ⟨av, rfl, hav⟩ := hr
    obtain ⟨ab, lb, cb, rfl, _⟩ := id hav
    simp only at hav ⊢
    replace hx3 := hx3.below b4
    replace c3 := below_then c3 b4
    have bn := below_new w4 (.cells #[.int .i64 2, .slice ab lb cb, .int .i64 0] 27)
    have hx4 := box3_new w4 (.int .i64 2) (.slice ab lb cb) (.int .i64 0) 27
    obtain ⟨w5, Hw5⟩ : ∃ w5, Hid (w4.alloc (.cells #[.int .i64 2, .slice ab lb cb, .int .i64 0] 27) = w5) := ⟨_, rfl⟩
    rw [Hw5.out] at bn hx4
    replace hx3 := hx3.below bn
    replace c3 := below_then c3 bn
    replace hav := hav.below bn
    clear b4 bn hL3
    go_upto_region 5 with fail
    rw [Hw5.out]
    clear Hw5
    obtain ⟨y0, y1, y2, y3⟩ := hx3
    obtain ⟨z0, z1, z2, z3⟩ := hx4
    have bn := below_new w5 (.cells #[.int .i64 0, .int .i64 0, .int .i64 2] 3)
    have iu : Ints (w5.alloc (.cells #[.int .i64 0, .int .i64 0, .int .i64 2] 3)) (.slice (some ⟨w5.heap.size, 0, none⟩) 3 3) [0, 0, 2] := ints_lit w5 _ [0, 0, 2] 3 3 rfl (by omega) rfl
    go_wp2_with fail
    refine (equal_b _ _ [0, 0, 2] [0, 0, 2] _ (by exact hav.below bn) (by exact iu)).mono ?_
    rintro e w6 ⟨rfl, b6⟩
    rw [show (([0, 0, 2] : List Int) == [0, 0, 2]) = true from rfl]
    have R := below_then (below_then c3 bn) b6
    clear b6 bn iu
    go_wp2
    go_ret
    exact ⟨rfl, R⟩

end Go.Proofs.Ytkdbkoogcndlgaa
