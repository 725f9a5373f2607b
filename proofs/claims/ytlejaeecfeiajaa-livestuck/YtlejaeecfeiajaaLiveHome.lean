/- Steps back and forth, plainly; whether all is noted; a box as a block. -/
import Derived.Test.YtlejaeecfeiajaaLiveSteps
namespace Go.Proofs.Ytlejaeecfeiajaa
open Go.RowKit
set_option linter.unusedVariables false
set_option maxRecDepth 4000

theorem Comes.trans {s : SpaceZ} {i j k : Int} (h : Comes s i j) (g : Comes s j k) : Comes s i k := fun P h0 h1 => g P (h P h0 h1) h1
theorem IsSteps.inside {s : SpaceZ} {p q : Int × Int × Int → Int} {nx : List (List Int)} (h : IsSteps s p q nx) (hq : ∀ a ∈ s.arcs, 0 ≤ q a ∧ q a < s.marks.length) : Inside nx s.marks.length := by
  intro i hi z hz
  obtain ⟨a, ha, _, rfl⟩ := (h.mem i hi z).1 hz
  exact hq a ha
theorem back_goes {s : SpaceZ} {nx : List (List Int)} (hr : rightS s = true) (h : IsSteps s (fun a => a.2.2) (fun a => a.1) nx) {i j : Nat} (hi : i < s.marks.length) (hj : j < s.marks.length) : Goes nx i j ↔ Comes s j i := by
  constructor
  · intro g
    refine (g (fun j => j < s.marks.length ∧ Comes s j i) ⟨hi, Comes.here _⟩ fun a b ha hb => ?_).2
    obtain ⟨c, hc, e1, e2⟩ := (h.mem a ha.1 _).1 hb
    have hin := rightS_iff.1 hr c hc
    refine ⟨by omega, ?_⟩
    have hgo : Comes s c.1 c.2.2 := (Comes.here c.1).go hc
    rw [e1, e2] at hgo
    exact hgo.trans ha.2
  · intro g
    have key : ∃ i' : Nat, (i : Int) = i' ∧ i' < s.marks.length ∧ Goes nx i' j := by
      refine g (fun x => ∃ i' : Nat, x = i' ∧ i' < s.marks.length ∧ Goes nx i' j) ⟨j, rfl, hj, Goes.here j⟩ fun a ha hc => ?_
      obtain ⟨f, e, hf, hg⟩ := ha
      have hin := rightS_iff.1 hr a hc
      obtain ⟨b, hb⟩ := Int.eq_ofNat_of_zero_le hin.2.2.1
      refine ⟨b, hb, by omega, Goes.trans ((Goes.here b).go ?_) hg⟩
      exact (h.mem b (by omega) _).2 ⟨a, hc, hb, e⟩
    obtain ⟨i', e, _, hg⟩ := key
    obtain rfl : i = i' := by omega
    exact hg
theorem forw_goes {s : SpaceZ} {nx : List (List Int)} (hr : rightS s = true) (h : IsSteps s (fun a => a.1) (fun a => a.2.2) nx) {i j : Nat} (hi : i < s.marks.length) (hj : j < s.marks.length) : Goes nx i j ↔ Comes s i j := by
  constructor
  · intro g
    refine (g (fun j => j < s.marks.length ∧ Comes s i j) ⟨hi, Comes.here _⟩ fun a b ha hb => ?_).2
    obtain ⟨c, hc, e1, e2⟩ := (h.mem a ha.1 _).1 hb
    have hin := rightS_iff.1 hr c hc
    refine ⟨by omega, ?_⟩
    have hgo : Comes s c.1 c.2.2 := (Comes.here c.1).go hc
    rw [e1, e2] at hgo
    exact ha.2.trans hgo
  · intro g
    have key : ∃ j' : Nat, (j : Int) = j' ∧ j' < s.marks.length ∧ Goes nx i j' := by
      refine g (fun x => ∃ j' : Nat, x = j' ∧ j' < s.marks.length ∧ Goes nx i j') ⟨i, rfl, hi, Goes.here i⟩ fun a ha hc => ?_
      obtain ⟨f, e, hf, hg⟩ := ha
      have hin := rightS_iff.1 hr a hc
      obtain ⟨b, hb⟩ := Int.eq_ofNat_of_zero_le hin.2.2.1
      refine ⟨b, hb, by omega, hg.go ?_⟩
      exact (h.mem f hf _).2 ⟨a, hc, e, hb⟩
    obtain ⟨j', e, _, hg⟩ := key
    obtain rfl : j = j' := by omega
    exact hg

/-- All of the first n. -/
def allT (f : Nat → Bool) (n : Nat) : Bool := (List.range n).all f
theorem allT_iff {f : Nat → Bool} {n : Nat} : allT f n = true ↔ ∀ j, j < n → f j = true := by simp [allT]
theorem allT_not {f : Nat → Bool} {n j : Nat} (hj : j < n) (hf : f j = false) : allT f n = false := by
  rw [Bool.eq_false_iff]
  intro h
  have := allT_iff.1 h j hj
  rw [hf] at this; cases this

set_option maxHeartbeats 400000 in
theorem indexb_any (B n : Nat) (f : Nat → Bool) (w : World) (h : BoolRow w B n f) (hn : n ≤ 5864062014805) :
    Calls Try.prog 54 #[.slice (some ⟨B, 0, none⟩) n n, .bool false] w fun e w' => ∃ i : Int, e = .returned (.int .i64 i) ∧ w' = w ∧ (decide (0 ≤ i) = !allT f n) := by
  go_enter Try.func54, Try.ntmps54
  go_wp2
  go_loop [8] (fun i => ∃ k : Nat, k ≤ n ∧ i = .int .i64 k ∧ Hid (∀ j, j < k → f j = true)) (fun i => n - (intOf i).toNat)
  case atStart => exact ⟨0, Nat.zero_le _, rfl, fun j hj => absurd hj (Nat.not_lt_zero _)⟩
  case round =>
    obtain ⟨k, hk, rfl, hidx⟩ := hrel
    by_cases hkn : k < n
    · have hc := h.cells k hkn
      cases hf : f k
      · rw [hf] at hc
        have F : Hid (allT f n = false) := allT_not hkn hf
        clear h
        go_wp2
        go_ret
        exact ⟨_, rfl, rfl, by rw [F.out]; simp⟩
      · rw [hf] at hc
        have F : Hid (∀ j, j < k + 1 → f j = true) := fun j hj => by
          by_cases e : j = k
          · subst e; exact hf
          · exact hidx.out j (by omega)
        clear h
        go_wp2
        go_round
        case rel => exact ⟨k + 1, by omega, by go_num, F⟩
        case measure => simp [intOf]; omega
    · have F : Hid (allT f n = true) := allT_iff.2 fun j hj => hidx.out j (by omega)
      go_wp2
      go_ret
      exact ⟨_, rfl, rfl, by rw [F.out]; rfl⟩

set_option maxHeartbeats 400000 in
theorem containsb_any (B n : Nat) (f : Nat → Bool) (w : World) (h : BoolRow w B n f) (hn : n ≤ 5864062014805) :
    Calls Try.prog 35 #[.slice (some ⟨B, 0, none⟩) n n, .bool false] w fun e w' => e = .returned (.bool (!allT f n)) ∧ w' = w := by
  go_enter Try.func35, Try.ntmps35
  go_wp2_with fail
  refine (indexb_any B n f _ h hn).mono ?_
  rintro e w' ⟨i, rfl, rfl, hi⟩
  have F : Hid _ := hi
  clear hi
  by_cases h0 : 0 ≤ i
  · go_wp2
    go_ret
    exact ⟨ret_bool (by rw [← F.out, decide_eq_true h0]), rfl⟩
  · go_wp2
    go_ret
    exact ⟨ret_bool (by rw [← F.out, decide_eq_false (by omega)]), rfl⟩

/-- A box of one cell, as a block. -/
def BoxC (w : World) (b : Nat) (v : Value) (t : TypeId) : Prop := w.heap[b]? = some (.cells #[v] t (0, 0))
section
variable {w w' : World} {b : Nat} {v : Value} {t : TypeId}
theorem BoxC.lt (h : BoxC w b v t) : b < w.heap.size := (Array.getElem?_eq_some_iff.1 h).1
theorem BoxC.box (h : BoxC w b v t) : Box1 w b v := ⟨h.lt, by unfold BoxC at h; simp [World.cell?, h]⟩
theorem BoxC.free (h : BoxC w b v t) : w.frozen? ⟨b, 0, none⟩ = false := by unfold BoxC at h; simp [World.frozen?, h]
theorem BoxC.below (h : BoxC w b v t) (hb : Below w.heap.size w w') : BoxC w' b v t := by unfold BoxC at *; rw [hb.block b (Array.getElem?_eq_some_iff.1 h).1]; exact h
theorem BoxC.only (h : BoxC w b v t) {B : Nat} (hb : OnlyB B w w') (hne : b ≠ B) : BoxC w' b v t := by unfold BoxC at *; rw [hb.block b (Array.getElem?_eq_some_iff.1 h).1 hne]; exact h
theorem boxC_new (w : World) (v : Value) (t : TypeId) : BoxC (w.alloc (.cells #[v] t)) w.heap.size v t := by
  show (w.heap.push _)[w.heap.size]? = _
  exact Array.getElem?_push_size
theorem BoxC.set (h : BoxC w b v t) (u : Value) : BoxC (w.setCell ⟨b, 0, none⟩ u) b u t := by
  unfold BoxC at *
  rw [setCell_eq_setRow w b 0 _ _ _ u h]
  have := setRow_heap w b #[v] (#[v].setIfInBounds 0 u) t (0, 0) h
  simpa using this
end

end Go.Proofs.Ytlejaeecfeiajaa
