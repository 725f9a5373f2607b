/- The marks of a set, one after the other: math/bits.TrailingZeros64, and package tongue's own iterator. -/
import Derived.Test.YteoofibhpifmlaaDoorTongMem
import Derived.Test.YteoofibhpifmlaaDoorMarked
import Derived.Laws.Bits64b
namespace Go.Proofs.YteoofibhpifmlaaDoor
open Go.RowKit Go.Shelf
set_option linter.unusedVariables false
set_option maxRecDepth 4000

attribute [local go_sem] Oper.semAt_some

/-- The library's table lies where it does at the start. -/
def Tab (w : World) : Prop := 0 < w.heap.size ∧ ∀ j, j < 64 → w.cell? ⟨0, j, none⟩ = some (.int .u8 (Lib.deBruijn64tab.getD j 0))
theorem Tab.below {w w' : World} (h : Tab w) (hb : Below w.heap.size w w') : Tab w' := ⟨Nat.lt_of_lt_of_le h.1 hb.size, fun j hj => (hb.cell (p := ⟨0, j, none⟩) h.1).trans (h.2 j hj)⟩
theorem Tab.at {w w' : World} (h : Tab w) (hs : w.heap.size ≤ w'.heap.size) (hb : w'.heap[0]? = w.heap[0]?) : Tab w' := ⟨Nat.lt_of_lt_of_le h.1 hs, fun j hj => by have := h.2 j hj; simp only [World.cell?] at this ⊢; rw [hb]; exact this⟩

set_option maxHeartbeats 1000000 in
theorem tz64_any (x : Nat) (hx0 : x ≠ 0) (hx : x < 18446744073709551616) (w : World) (hT : Tab w) :
    Calls Tryd.prog 60 #[.int .u64 (x : Int)] w fun e w' => e = .returned (.int .i64 (Lib.ctz 64 x : Nat)) ∧ w' = w := by
  obtain ⟨hlow, hk⟩ := Lib.lowest_bit 64 x hx0 hx
  obtain ⟨hi, htab⟩ := Lib.deBruijn64_at _ hk
  have hcell := hT.2 _ hi
  rw [htab] at hcell
  have e1 : IntKind.u64.wrap (-(x : Int)) = ((18446744073709551616 - x : Nat) : Int) := by rw [IntKind.wrap_u64]; omega
  have hx1 : ((x : Int) == 0) = false := by simp; omega
  have hlow' : x &&& (18446744073709551616 - x) = 2 ^ Lib.ctz 64 x := hlow
  obtain ⟨c, hc⟩ : ∃ c, Lib.ctz 64 x = c := ⟨_, rfl⟩
  rw [hc] at hcell hi hk hlow' ⊢
  obtain ⟨idx, hidx⟩ : ∃ idx, 2 ^ c * 285870213051353865 % 18446744073709551616 / 288230376151711744 = idx := ⟨_, rfl⟩
  have key : IntKind.u64.wrap (bits BinOp.and IntKind.u64 (x : Int) (IntKind.u64.wrap (-(x : Int))) * 285870213051353865) / 288230376151711744 = (idx : Int) := by
    rw [e1, bits_and_u64_nat x _ hx (by omega), hlow', IntKind.wrap_u64, ← hidx]
    obtain ⟨p, hp⟩ : ∃ p, 2 ^ c = p := ⟨_, rfl⟩
    rw [hp]
    omega
  rw [hidx] at hcell hi
  clear htab hT hlow hlow' hc e1 hidx
  go_enter Tryd.func60, Tryd.ntmps60
  go_wp2_with (simp only [key])
  go_ret
  exact ⟨rfl, rfl⟩

/-- What has come: of the words ahead of k all, of word k what is no longer in x. -/
structure EachP (s : SetL) (k x j : Nat) (pre : List Nat) : Prop where
  mem : ∀ m, m ∈ pre ↔ m < 320 ∧ s.has m = true ∧ (m / 64 < k ∨ m / 64 = k ∧ x.testBit (m % 64) = false)
  low : ∀ i, x.testBit i = true → j ≤ i ∧ i < 64 ∧ (s.at_ k).testBit i = true
  len : pre.length ≤ 64 * k + j
  fit : x < 18446744073709551616

theorem EachP.start (s : SetL) : EachP s 0 (s.at_ 0) 0 [] := by
  refine ⟨fun m => ?_, fun i hi => ⟨Nat.zero_le _, ?_, hi⟩, by simp, s.fit 0⟩
  · simp only [List.not_mem_nil, false_iff, not_and, not_or]
    intro h1 h2
    refine ⟨by omega, fun h3 => ?_⟩
    unfold SetL.has at h2
    rw [h3] at h2
    rw [h2]
    simp
  · rcases Nat.lt_or_ge i 64 with h | h
    · exact h
    · rw [Nat.testBit_lt_two_pow (Nat.lt_of_lt_of_le (s.fit 0) (Nat.le_trans (by decide : 18446744073709551616 ≤ 2 ^ 64) (Nat.pow_le_pow_right (by omega) h)))] at hi
      cases hi
theorem EachP.next {s : SetL} {k j : Nat} {pre : List Nat} (hk : k < 5) (hj : j ≤ 64) (h : EachP s k 0 j pre) : EachP s (k + 1) (s.at_ (k + 1)) 0 pre := by
  refine ⟨fun m => ?_, fun i hi => ⟨Nat.zero_le _, ?_, hi⟩, by have := h.len; omega, s.fit _⟩
  · rw [h.mem]
    constructor
    · rintro ⟨h1, h2, h3⟩
      exact ⟨h1, h2, .inl (by omega)⟩
    · rintro ⟨h1, h2, h3 | ⟨h3, h4⟩⟩
      · exact ⟨h1, h2, by rcases Nat.lt_or_ge (m / 64) k with q | q; exact .inl q; exact .inr ⟨by omega, by simp⟩⟩
      · unfold SetL.has at h2
        rw [h3, h4] at h2
        cases h2
  · rcases Nat.lt_or_ge i 64 with h | h
    · exact h
    · rw [Nat.testBit_lt_two_pow (Nat.lt_of_lt_of_le (s.fit _) (Nat.le_trans (by decide : 18446744073709551616 ≤ 2 ^ 64) (Nat.pow_le_pow_right (by omega) h)))] at hi
      cases hi
/-- One more: the lowest bit. -/
theorem EachP.take {s : SetL} {k x j : Nat} {pre : List Nat} (hk : k < 5) (h : EachP s k x j pre) (hx : x ≠ 0) : ∃ b, Lib.ctz 64 x = b ∧ b < 64 ∧ s.has (k * 64 + b) = true ∧ pre.length < 320 ∧ x &&& (x - 1) < x ∧ EachP s k (x &&& (x - 1)) (b + 1) (pre ++ [k * 64 + b]) := by
  obtain ⟨b, hb, hb64, hbit, hlow, hnew⟩ := low_bit (x := x) (by omega) h.fit
  obtain ⟨q1, q2, q3⟩ := h.low b hbit
  have hl := h.len
  have hlt : x &&& (x - 1) < x := Nat.lt_of_le_of_lt Nat.and_le_right (by omega)
  have hd : (k * 64 + b) / 64 = k := by omega
  have hm : (k * 64 + b) % 64 = b := by omega
  refine ⟨b, hb, hb64, ?_, by omega, hlt, fun m => ?_, fun i hi => ?_, by simp; omega, by have := h.fit; omega⟩
  · unfold SetL.has; rw [hd, hm]; exact q3
  · rw [List.mem_append, h.mem, List.mem_singleton]
    constructor
    · rintro (⟨h1, h2, h3⟩ | rfl)
      · refine ⟨h1, h2, ?_⟩
        rcases h3 with h3 | ⟨h3, h4⟩
        · exact .inl h3
        · exact .inr ⟨h3, by rw [hnew, h4]; rfl⟩
      · exact ⟨by omega, by unfold SetL.has; rw [hd, hm]; exact q3, .inr ⟨hd, by rw [hnew, hm]; simp⟩⟩
    · rintro ⟨h1, h2, h3⟩
      by_cases e : m = k * 64 + b
      · exact .inr e
      · refine .inl ⟨h1, h2, ?_⟩
        rcases h3 with h3 | ⟨h3, h4⟩
        · exact .inl h3
        · refine .inr ⟨h3, ?_⟩
          rw [hnew] at h4
          have : m % 64 ≠ b := by omega
          simpa [this] using h4
  · rw [hnew] at hi
    simp only [Bool.and_eq_true, decide_eq_true_eq] at hi
    obtain ⟨h1, h2⟩ := hi
    obtain ⟨r1, r2, r3⟩ := h.low i h1
    refine ⟨?_, r2, r3⟩
    rcases Nat.lt_or_ge i b with q | q
    · rw [hlow i q] at h1; cases h1
    · omega
theorem EachP.done {s : SetL} {x : Nat} {pre : List Nat} {j : Nat} (h : EachP s 5 x j pre) : ∀ m, m ∈ pre ↔ m < 320 ∧ s.has m = true := by
  intro m
  rw [h.mem]
  exact ⟨fun h => ⟨h.1, h.2.1⟩, fun h => ⟨h.1, h.2, .inl (by omega)⟩⟩
theorem EachP.sub {s : SetL} {k x j : Nat} {pre : List Nat} (h : EachP s k x j pre) : ∀ m ∈ pre, m < 320 ∧ s.has m = true := fun m hm => ⟨((h.mem m).1 hm).1, ((h.mem m).1 hm).2.1⟩

set_option maxRecDepth 100000 in
set_option maxHeartbeats 2000000 in
theorem each_in (n : Nat) (hn : 1 ≤ n) (l : Nat) (s : SetL) (J Jx : List Nat → World → Prop) (hT : ∀ pre W, J pre W → Tab W)
    (hY : ∀ (pre : List Nat) (m : Nat) W, J pre W → pre.length < 320 → m < 320 → s.has m = true → YieldAt Fence.wide (n - 1) Tryd.prog l #[.int .i64 (m : Int)] W fun e W' =>
      (e = .returned (.bool true) ∧ J (pre ++ [m]) W') ∨ (e = .returned (.bool false) ∧ Jx (pre ++ [m]) W'))
    (W : World) (h0 : J [] (W.alloc (.cells (setC s) 48))) :
    CallsIn Fence.wide n Tryd.prog 35 #[setV s, .func (.yield l) #[] #[]] W fun e W' => (∃ v, e = .returned v) ∧
      ((∃ ys : List Nat, (∀ m, m ∈ ys ↔ m < 320 ∧ s.has m = true) ∧ J ys W') ∨ (∃ pre : List Nat, (∀ m ∈ pre, m < 320 ∧ s.has m = true) ∧ Jx pre W')) := by
  refine callsIn_of_wp Tryd.func35 rfl trivial ?_ rfl
  simp only [Tryd.ntmps35, List.size_toArray, List.length_cons, List.length_nil, Nat.reduceAdd, Nat.reduceSub, Array.replicate_succ, Array.replicate_zero, List.push_toArray, List.append_toArray, List.nil_append, List.cons_append]
  have hS := EachP.start s
  gi_wp2
  gi_loopw [7] (fun i wr => ∃ (pre : List Nat) (k : Nat), k ≤ 5 ∧ i = .int .i64 (k : Int) ∧ EachP s k (s.at_ k) 0 pre ∧ J pre wr) (fun i _ => (5 - intOf i).toNat)
  case atStart => exact ⟨[], 0, by omega, by go_num, hS, h0⟩
  case round =>
    obtain ⟨pre, k, hk, rfl, hE, hJ⟩ := hrel
    by_cases h5 : k = 5
    · subst h5
      have R := hE.done
      gi_wp2
      go_end0
      exact ⟨⟨_, rfl⟩, .inl ⟨pre, R, hJ⟩⟩
    · have hi := index_set wr s k (by omega)
      have hk5 : decide ((k : Int) < 5) = true := by rw [decide_eq_true_eq]; omega
      clear hS h0
      gi_wp2
      gi_loopw [5] (fun v wq => ∃ (pre : List Nat) (x j : Nat), j ≤ 64 ∧ v = .int .u64 (x : Int) ∧ EachP s k x j pre ∧ J pre wq) (fun v _ => (intOf v).toNat)
      case atStart => exact ⟨pre, s.at_ k, 0, by omega, rfl, hE, hJ⟩
      case round =>
        clear hE hJ pre hi
        obtain ⟨pre, x, j, hj, rfl, hE, hJ⟩ := hrel
        by_cases hx : x = 0
        · subst hx
          have R := hE.next (by omega) hj
          gi_wp2
          go_roundw
          case rel => exact ⟨pre, k + 1, by omega, by go_num, R, hJ⟩
          case measure => simp [intOf]; omega
        · obtain ⟨b, hb, hb64, hbs, hlen, hlt, hE2⟩ := hE.take (by omega) hx
          have hx1 : ((x : Int) != 0) = true := by simp; omega
          have hfit := hE.fit
          have hm : (k : Int) * 64 + (b : Int) = ((k * 64 + b : Nat) : Int) := by omega
          have hsub : IntKind.u64.wrap ((x : Int) - 1) = ((x - 1 : Nat) : Int) := by rw [IntKind.wrap_u64]; omega
          have hand : bits .and .u64 (x : Int) ((x - 1 : Nat) : Int) = ((x &&& (x - 1) : Nat) : Int) := bits_and_u64_nat _ _ hfit (by omega)
          have htz := tz64_any x hx hfit wr (hT _ _ hJ)
          rw [hb] at htz
          obtain ⟨fn, tmps, assign, body, hy, hR⟩ := hY pre (k * 64 + b) wr hJ hlen (by omega) hbs
          rw [← hm] at hy
          clear hE hb hm hY hT h5
          gi_wp2
          refine ⟨trivial, (callsIn_wide.2 htz).mono ?_⟩
          rintro e W2 ⟨rfl, rfl⟩
          gi_wp2
          refine hR.mono ?_
          rintro e W3 (⟨rfl, hJ3⟩ | ⟨rfl, hJx3⟩)
          · gi_wp2
            go_roundw
            case rel => exact ⟨_, x &&& (x - 1), b + 1, by omega, rfl, hE2, hJ3⟩
            case measure => simp [intOf]; omega
          · gi_wp2
            refine bodyPost_ret (results_none rfl _ _ _) rfl ?_
            exact ⟨⟨_, rfl⟩, .inr ⟨_, hE2.sub, hJx3⟩⟩

end Go.Proofs.YteoofibhpifmlaaDoor
