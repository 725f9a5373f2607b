import Derived.Test.YtakgppoeikcepaaDoorTongMem
import Derived.Test.YtakgppoeikcepaaDoorGr01
import Derived.Test.YtakgppoeikcepaaDoorGr00
import Derived.Laws.Bits64b
/- Rows of sets in memory. -/
namespace Go.Proofs.YtakgppoeikcepaaDoor
open Go.RowKit
set_option linter.unusedVariables false
set_option maxRecDepth 4000

/-- A row of n sets, five words each. -/
structure SetRow (w : World) (B n : Nat) (f : Nat → SetL) : Prop where
  cells : ∀ m j, m < n → j < 5 → w.cell? ⟨B, m * 5 + j, none⟩ = some (.int .u64 ((f m).at_ j : Nat))
  frozen : ∀ i, i < n * 5 → w.frozen? ⟨B, i, none⟩ = false
  lt : B < w.heap.size

theorem SetRow.c {w : World} {B n : Nat} {f : Nat → SetL} (h : SetRow w B n f) {m : Nat} (hm : m < n) : SetC w B (m * 5) (f m) :=
  ⟨h.lt, by simpa using h.cells m 0 hm (by omega), h.cells m 1 hm (by omega), h.cells m 2 hm (by omega), h.cells m 3 hm (by omega), h.cells m 4 hm (by omega)⟩
theorem SetRow.below {w w' : World} {B n : Nat} {f : Nat → SetL} (h : SetRow w B n f) (hb : Below w.heap.size w w') : SetRow w' B n f :=
  ⟨fun m j hm hj => (hb.cell (p := ⟨B, _, none⟩) h.lt).trans (h.cells m j hm hj), fun i hi => (hb.frozen (p := ⟨B, _, none⟩) h.lt).trans (h.frozen i hi), Nat.lt_of_lt_of_le h.lt hb.size⟩
theorem SetRow.keep {w w' : World} {B n : Nat} {f : Nat → SetL} (h : SetRow w B n f) (hs : w.heap.size ≤ w'.heap.size) (hb : w'.heap[B]? = w.heap[B]?) : SetRow w' B n f := by
  refine ⟨fun m j hm hj => ?_, fun i hi => ?_, Nat.lt_of_lt_of_le h.lt hs⟩
  · have := h.cells m j hm hj; simp only [World.cell?] at this ⊢; rw [hb]; exact this
  · have := h.frozen i hi; simp only [World.frozen?] at this ⊢; rw [hb]; exact this
theorem SetRow.same {w : World} {B n : Nat} {f g : Nat → SetL} (h : SetRow w B n f) (hg : ∀ m, m < n → f m = g m) : SetRow w B n g := ⟨fun m j hm hj => by rw [← hg m hm]; exact h.cells m j hm hj, h.frozen, h.lt⟩
theorem SetRow.sameS {w : World} {B n : Nat} {f g : Nat → SetL} (h : SetRow w B n f) (hg : ∀ m, m < n → SameS (f m) (g m)) : SetRow w B n g := ⟨fun m j hm hj => by rw [← hg m hm j hj]; exact h.cells m j hm hj, h.frozen, h.lt⟩
/-- One set is written over. -/
theorem SetRow.put1 {w : World} {B n m j : Nat} {f g : Nat → SetL} (h : SetRow w B n f) (hm : m < n) (hj : j < 5) {x : Nat} (hx : (g m).at_ j = x) (ho : ∀ m' j', m' < n → j' < 5 → (m' ≠ m ∨ j' ≠ j) → (g m').at_ j' = (f m').at_ j') :
    SetRow (w.setCell ⟨B, m * 5 + j, none⟩ (.int .u64 (x : Int))) B n g := by
  refine ⟨fun m' j' hm' hj' => ?_, fun i hi => by rw [World.frozen?_setCell]; exact h.frozen i hi, by simpa [World.setCell] using h.lt⟩
  by_cases e : m' = m ∧ j' = j
  · obtain ⟨rfl, rfl⟩ := e
    rw [World.cell?_setCell_same _ _ _ (h.cells m' j' hm' hj'), hx]
  · rw [World.cell?_setCell_other _ _ _ _ (by intro q; injection q with _ q2; apply e; omega), h.cells m' j' hm' hj', ho m' j' hm' hj' (by omega)]
def updS (f : Nat → SetL) (m : Nat) (t : SetL) : Nat → SetL := fun k => if k = m then t else f k
theorem updS_same (f : Nat → SetL) (m : Nat) (t : SetL) : updS f m t m = t := by simp [updS]
theorem updS_other (f : Nat → SetL) {m k : Nat} (t : SetL) (h : k ≠ m) : updS f m t k = f k := by simp [updS, h]
/-- The first j words of t, the others of s. -/
def mixS (s t : SetL) (j : Nat) : SetL := ⟨fun k => if k < j then t.at_ k else s.at_ k, fun k => by split; exact t.fit k; exact s.fit k⟩
theorem SetRow.store {w : World} {B n m : Nat} {f : Nat → SetL} (h : SetRow w B n f) (hm : m < n) (t : SetL) :
    ∃ W, Hid (((((w.setCell ⟨B, m * 5, none⟩ (.int .u64 (t.at_ 0 : Nat))).setCell ⟨B, m * 5 + 1, none⟩ (.int .u64 (t.at_ 1 : Nat))).setCell ⟨B, m * 5 + 2, none⟩ (.int .u64 (t.at_ 2 : Nat))).setCell ⟨B, m * 5 + 3, none⟩ (.int .u64 (t.at_ 3 : Nat))).setCell ⟨B, m * 5 + 4, none⟩ (.int .u64 (t.at_ 4 : Nat)) = W) ∧ SetRow W B n (updS f m t) ∧ Below B w W ∧ (∀ k, k ≠ B → W.heap[k]? = w.heap[k]?) ∧ W.heap.size = w.heap.size := by
  refine ⟨_, rfl, ?_, ?_, ?_, by simp [World.setCell]⟩
  · have key : ∀ j W, j < 5 → SetRow W B n (updS f m (mixS (f m) t j)) → SetRow (W.setCell ⟨B, m * 5 + j, none⟩ (.int .u64 (t.at_ j : Nat))) B n (updS f m (mixS (f m) t (j + 1))) := by
      intro j W hj hW
      refine hW.put1 hm hj (by rw [updS_same]; simp [mixS]) (fun m' j' h1 h2 h3 => ?_)
      by_cases e : m' = m
      · subst e
        rw [updS_same, updS_same]
        simp only [mixS]
        have : (j' < j + 1) ↔ (j' < j) := by omega
        simp only [this]
      · rw [updS_other _ _ e, updS_other _ _ e]
    have h0 : SetRow w B n (updS f m (mixS (f m) t 0)) := h.same fun k hk => by
      by_cases e : k = m
      · subst e; rw [updS_same]; rfl
      · rw [updS_other _ _ e]
    have h5 := key 4 _ (by omega) (key 3 _ (by omega) (key 2 _ (by omega) (key 1 _ (by omega) (key 0 _ (by omega) h0))))
    refine ⟨fun m' j' h1 h2 => ?_, h5.frozen, h5.lt⟩
    have := h5.cells m' j' h1 h2
    rw [show (m * 5 + 0) = m * 5 from rfl] at this
    rw [this]
    by_cases e : m' = m
    · subst e; rw [updS_same, updS_same]; simp [mixS, h2]
    · rw [updS_other _ _ e, updS_other _ _ e]
  · exact (((((Below.refl B w).setCell (p := ⟨B, _, none⟩) (Nat.le_refl _) _).setCell (p := ⟨B, _, none⟩) (Nat.le_refl _) _).setCell (p := ⟨B, _, none⟩) (Nat.le_refl _) _).setCell (p := ⟨B, _, none⟩) (Nat.le_refl _) _).setCell (p := ⟨B, _, none⟩) (Nat.le_refl _) _
  · intro k hk
    rw [Below.heap_setCell _ _ _ _ (by exact hk), Below.heap_setCell _ _ _ _ (by exact hk), Below.heap_setCell _ _ _ _ (by exact hk), Below.heap_setCell _ _ _ _ (by exact hk), Below.heap_setCell _ _ _ _ (by exact hk)]

theorem info_marks : (Tryd.prog.info? 68).map (fun i => (i.zero, i.size, i.bytes)) = some (some (.agg #[.int .u64 0, .int .u64 0, .int .u64 0, .int .u64 0, .int .u64 0]), 5, 40) := by kernel_rfl

theorem made_const {z : Array Value} {v : Value} (h0 : 0 < z.size) (hz : ∀ (j : Nat) (h : j < z.size), z[j] = v) {n i : Nat} (hi : i < n) : (madeCells z n)[i]? = some v := by
  have hm : i % z.size < z.size := Nat.mod_lt _ h0
  simp only [madeCells, Array.getElem?_map, Array.getElem?_range, hi, if_true, Option.map_some]
  rw [getElem!_pos z _ hm, hz _ hm]
theorem zeros5 : ∀ (j : Nat) (h : j < (#[Value.int .u64 0, .int .u64 0, .int .u64 0, .int .u64 0, .int .u64 0] : Array Value).size), (#[Value.int .u64 0, .int .u64 0, .int .u64 0, .int .u64 0, .int .u64 0] : Array Value)[j] = .int .u64 0 := by
  intro j h
  obtain rfl | rfl | rfl | rfl | rfl : j = 0 ∨ j = 1 ∨ j = 2 ∨ j = 3 ∨ j = 4 := by simp at h; omega
  all_goals rfl

theorem make_sets (w : World) (n : Nat) (hn : n ≤ 300) :
    ∃ w1, (Instr.makeSlice 90 (.int .i64 (n : Int)) (.int .i64 (n : Int))).run Tryd.prog w = .ok (.slice (some ⟨w.heap.size, 0, none⟩) n n) w1 ∧
      Below w.heap.size w w1 ∧ w1.heap.size = w.heap.size + 1 ∧ SetRow w1 w.heap.size n (fun _ => noneS) := by
  obtain ⟨i0, hi, hz0, hz1, hz2⟩ := info_parts info_marks
  have h := run_make (P := Tryd.prog) w 90 68 i0 _ Tryd.underlying90 hi hz0 .i64 .i64 n n (by omega) (by omega) (by rw [hz2]; omega) (by omega)
  simp only [Int.toNat_natCast] at h
  refine ⟨_, h, (Below.refl _ _).alloc (Nat.le_refl _) _, by simp, ⟨fun m j hm hj => ?_, fun j hj => ?_, by simp⟩⟩
  · rw [World.cell?_alloc_at _ _ _ _ rfl]
    exact made_const (z := #[Value.int .u64 0, .int .u64 0, .int .u64 0, .int .u64 0, .int .u64 0]) (by decide) zeros5 (by rw [hz1]; omega)
  · exact World.frozen?_alloc_at _ _ _ _ rfl

theorem info_letters : (Tryd.prog.info? 95).map (fun i => (i.zero, i.size, i.bytes)) = some (some (.agg (Array.replicate 135 (.int .u64 0))), 135, 1080) := by kernel_rfl

theorem make_letters (w : World) (n : Nat) (hn : n ≤ 300) :
    ∃ w1, (Instr.makeSlice 69 (.int .i64 (n : Int)) (.int .i64 (n : Int))).run Tryd.prog w = .ok (.slice (some ⟨w.heap.size, 0, none⟩) n n) w1 ∧
      Below w.heap.size w w1 ∧ w1.heap.size = w.heap.size + 1 ∧ SetRow w1 w.heap.size (n * 27) (fun _ => noneS) := by
  obtain ⟨i0, hi, hz0, hz1, hz2⟩ := info_parts info_letters
  have h := run_make (P := Tryd.prog) w 69 95 i0 _ Tryd.underlying69 hi hz0 .i64 .i64 n n (by omega) (by omega) (by rw [hz2]; omega) (by omega)
  simp only [Int.toNat_natCast] at h
  refine ⟨_, h, (Below.refl _ _).alloc (Nat.le_refl _) _, by simp, ⟨fun m j hm hj => ?_, fun j hj => ?_, by simp⟩⟩
  · rw [World.cell?_alloc_at _ _ _ _ rfl]
    exact made_const (z := Array.replicate 135 (Value.int .u64 0)) (by rw [Array.size_replicate]; omega) (fun j hj => by rw [Array.getElem_replicate]; rfl) (by rw [hz1]; omega)
  · exact World.frozen?_alloc_at _ _ _ _ rfl

end Go.Proofs.YtakgppoeikcepaaDoor

/- The marks of a set, one after the other: math/bits.TrailingZeros64, and package tongue's own iterator. -/
namespace Go.Proofs.YtakgppoeikcepaaDoor
open Go.RowKit Go.Shelf
set_option linter.unusedVariables false
set_option maxRecDepth 4000

attribute [local go_sem] Oper.semAt_some

/-- The library's table lies where it does at the start. -/
def Tab (w : World) : Prop := 0 < w.heap.size ∧ ∀ j, j < 64 → w.cell? ⟨0, j, none⟩ = some (.int .u8 (Lib.deBruijn64tab.getD j 0))
theorem Tab.below {w w' : World} (h : Tab w) (hb : Below w.heap.size w w') : Tab w' := ⟨Nat.lt_of_lt_of_le h.1 hb.size, fun j hj => (hb.cell (p := ⟨0, j, none⟩) h.1).trans (h.2 j hj)⟩
theorem Tab.at {w w' : World} (h : Tab w) (hs : w.heap.size ≤ w'.heap.size) (hb : w'.heap[0]? = w.heap[0]?) : Tab w' := ⟨Nat.lt_of_lt_of_le h.1 hs, fun j hj => by have := h.2 j hj; simp only [World.cell?] at this ⊢; rw [hb]; exact this⟩

set_option maxHeartbeats 1000000 in
theorem tz64_any (x : Nat) (hx0 : x ≠ 0) (hx : x < 18446744073709551616) (w : World) (hT : Tab w) :
    Calls Tryd.prog 56 #[.int .u64 (x : Int)] w fun e w' => e = .returned (.int .i64 (Lib.ctz 64 x : Nat)) ∧ w' = w := by
  obtain ⟨hlow, hk⟩ := Lib.lowest_bit 64 x hx0 hx
  obtain ⟨hi, htab⟩ := Lib.deBruijn64_at _ hk
  have hcell := hT.2 _ hi
  rw [htab] at hcell
  have e1 : IntKind.u64.wrap (-(x : Int)) = ((18446744073709551616 - x : Nat) : Int) := by rw [IntKind.wrap_u64]; omega
  have hx1 : ((x : Int) == 0) = false := by simp; omega
  have hlow' : x &&& (18446744073709551616 - x) = 2 ^ Lib.ctz 64 x := hlow
  obtain ⟨c, hc⟩ : ∃ c, Lib.ctz 64 x = c := ⟨_, rfl⟩
  rw [hc] at hcell hi hk hlow' ⊢
  obtain ⟨idx, hidx⟩ : ∃ idx, 2 ^ c * 285870213051353865 % 18446744073709551616 / 288230376151711744 = idx := ⟨_, rfl⟩
  have key : IntKind.u64.wrap (bits BinOp.and IntKind.u64 (x : Int) (IntKind.u64.wrap (-(x : Int))) * 285870213051353865) / 288230376151711744 = (idx : Int) := by
    rw [e1, bits_and_u64_nat x _ hx (by omega), hlow', IntKind.wrap_u64, ← hidx]
    obtain ⟨p, hp⟩ : ∃ p, 2 ^ c = p := ⟨_, rfl⟩
    rw [hp]
    omega
  rw [hidx] at hcell hi
  clear htab hT hlow hlow' hc e1 hidx
  go_enter Tryd.func56, Tryd.ntmps56
  go_wp2_with (simp only [key])
  go_ret
  exact ⟨rfl, rfl⟩

/-- What has come: of the words ahead of k all, of word k what is no longer in x. -/
structure EachP (s : SetL) (k x j : Nat) (pre : List Nat) : Prop where
  mem : ∀ m, m ∈ pre ↔ m < 320 ∧ s.has m = true ∧ (m / 64 < k ∨ m / 64 = k ∧ x.testBit (m % 64) = false)
  low : ∀ i, x.testBit i = true → j ≤ i ∧ i < 64 ∧ (s.at_ k).testBit i = true
  len : pre.length ≤ 64 * k + j
  fit : x < 18446744073709551616

theorem EachP.start (s : SetL) : EachP s 0 (s.at_ 0) 0 [] := by
  refine ⟨fun m => ?_, fun i hi => ⟨Nat.zero_le _, ?_, hi⟩, by simp, s.fit 0⟩
  · simp only [List.not_mem_nil, false_iff, not_and, not_or]
    intro h1 h2
    refine ⟨by omega, fun h3 => ?_⟩
    unfold SetL.has at h2
    rw [h3] at h2
    rw [h2]
    simp
  · rcases Nat.lt_or_ge i 64 with h | h
    · exact h
    · rw [Nat.testBit_lt_two_pow (Nat.lt_of_lt_of_le (s.fit 0) (Nat.le_trans (by decide : 18446744073709551616 ≤ 2 ^ 64) (Nat.pow_le_pow_right (by omega) h)))] at hi
      cases hi
theorem EachP.next {s : SetL} {k j : Nat} {pre : List Nat} (hk : k < 5) (hj : j ≤ 64) (h : EachP s k 0 j pre) : EachP s (k + 1) (s.at_ (k + 1)) 0 pre := by
  refine ⟨fun m => ?_, fun i hi => ⟨Nat.zero_le _, ?_, hi⟩, by have := h.len; omega, s.fit _⟩
  · rw [h.mem]
    constructor
    · rintro ⟨h1, h2, h3⟩
      exact ⟨h1, h2, .inl (by omega)⟩
    · rintro ⟨h1, h2, h3 | ⟨h3, h4⟩⟩
      · exact ⟨h1, h2, by rcases Nat.lt_or_ge (m / 64) k with q | q; exact .inl q; exact .inr ⟨by omega, by simp⟩⟩
      · unfold SetL.has at h2
        rw [h3, h4] at h2
        cases h2
  · rcases Nat.lt_or_ge i 64 with h | h
    · exact h
    · rw [Nat.testBit_lt_two_pow (Nat.lt_of_lt_of_le (s.fit _) (Nat.le_trans (by decide : 18446744073709551616 ≤ 2 ^ 64) (Nat.pow_le_pow_right (by omega) h)))] at hi
      cases hi
/-- One more: the lowest bit. -/
theorem EachP.take {s : SetL} {k x j : Nat} {pre : List Nat} (hk : k < 5) (h : EachP s k x j pre) (hx : x ≠ 0) : ∃ b, Lib.ctz 64 x = b ∧ b < 64 ∧ s.has (k * 64 + b) = true ∧ pre.length < 320 ∧ x &&& (x - 1) < x ∧ EachP s k (x &&& (x - 1)) (b + 1) (pre ++ [k * 64 + b]) := by
  obtain ⟨b, hb, hb64, hbit, hlow, hnew⟩ := low_bit (x := x) (by omega) h.fit
  obtain ⟨q1, q2, q3⟩ := h.low b hbit
  have hl := h.len
  have hlt : x &&& (x - 1) < x := Nat.lt_of_le_of_lt Nat.and_le_right (by omega)
  have hd : (k * 64 + b) / 64 = k := by omega
  have hm : (k * 64 + b) % 64 = b := by omega
  refine ⟨b, hb, hb64, ?_, by omega, hlt, fun m => ?_, fun i hi => ?_, by simp; omega, by have := h.fit; omega⟩
  · unfold SetL.has; rw [hd, hm]; exact q3
  · rw [List.mem_append, h.mem, List.mem_singleton]
    constructor
    · rintro (⟨h1, h2, h3⟩ | rfl)
      · refine ⟨h1, h2, ?_⟩
        rcases h3 with h3 | ⟨h3, h4⟩
        · exact .inl h3
        · exact .inr ⟨h3, by rw [hnew, h4]; rfl⟩
      · exact ⟨by omega, by unfold SetL.has; rw [hd, hm]; exact q3, .inr ⟨hd, by rw [hnew, hm]; simp⟩⟩
    · rintro ⟨h1, h2, h3⟩
      by_cases e : m = k * 64 + b
      · exact .inr e
      · refine .inl ⟨h1, h2, ?_⟩
        rcases h3 with h3 | ⟨h3, h4⟩
        · exact .inl h3
        · refine .inr ⟨h3, ?_⟩
          rw [hnew] at h4
          have : m % 64 ≠ b := by omega
          simpa [this] using h4
  · rw [hnew] at hi
    simp only [Bool.and_eq_true, decide_eq_true_eq] at hi
    obtain ⟨h1, h2⟩ := hi
    obtain ⟨r1, r2, r3⟩ := h.low i h1
    refine ⟨?_, r2, r3⟩
    rcases Nat.lt_or_ge i b with q | q
    · rw [hlow i q] at h1; cases h1
    · omega
theorem EachP.done {s : SetL} {x : Nat} {pre : List Nat} {j : Nat} (h : EachP s 5 x j pre) : ∀ m, m ∈ pre ↔ m < 320 ∧ s.has m = true := by
  intro m
  rw [h.mem]
  exact ⟨fun h => ⟨h.1, h.2.1⟩, fun h => ⟨h.1, h.2, .inl (by omega)⟩⟩
theorem EachP.sub {s : SetL} {k x j : Nat} {pre : List Nat} (h : EachP s k x j pre) : ∀ m ∈ pre, m < 320 ∧ s.has m = true := fun m hm => ⟨((h.mem m).1 hm).1, ((h.mem m).1 hm).2.1⟩

set_option maxRecDepth 100000 in
set_option maxHeartbeats 2000000 in
theorem each_in (n : Nat) (hn : 1 ≤ n) (l : Nat) (s : SetL) (J Jx : List Nat → World → Prop) (hT : ∀ pre W, J pre W → Tab W)
    (hY : ∀ (pre : List Nat) (m : Nat) W, J pre W → pre.length < 320 → m < 320 → s.has m = true → YieldAt Fence.wide (n - 1) Tryd.prog l #[.int .i64 (m : Int)] W fun e W' =>
      (e = .returned (.bool true) ∧ J (pre ++ [m]) W') ∨ (e = .returned (.bool false) ∧ Jx (pre ++ [m]) W'))
    (W : World) (h0 : J [] (W.alloc (.cells (setC s) 68))) :
    CallsIn Fence.wide n Tryd.prog 34 #[setV s, .func (.yield l) #[] #[]] W fun e W' => (∃ v, e = .returned v) ∧
      ((∃ ys : List Nat, (∀ m, m ∈ ys ↔ m < 320 ∧ s.has m = true) ∧ J ys W') ∨ (∃ pre : List Nat, (∀ m ∈ pre, m < 320 ∧ s.has m = true) ∧ Jx pre W')) := by
  refine callsIn_of_wp Tryd.func34 rfl trivial ?_ rfl
  simp only [Tryd.ntmps34, List.size_toArray, List.length_cons, List.length_nil, Nat.reduceAdd, Nat.reduceSub, Array.replicate_succ, Array.replicate_zero, List.push_toArray, List.append_toArray, List.nil_append, List.cons_append]
  have hS := EachP.start s
  gi_wp2
  gi_loopw [7] (fun i wr => ∃ (pre : List Nat) (k : Nat), k ≤ 5 ∧ i = .int .i64 (k : Int) ∧ EachP s k (s.at_ k) 0 pre ∧ J pre wr) (fun i _ => (5 - intOf i).toNat)
  case atStart => exact ⟨[], 0, by omega, by go_num, hS, h0⟩
  case round =>
    obtain ⟨pre, k, hk, rfl, hE, hJ⟩ := hrel
    by_cases h5 : k = 5
    · subst h5
      have R := hE.done
      gi_wp2
      go_end0
      exact ⟨⟨_, rfl⟩, .inl ⟨pre, R, hJ⟩⟩
    · have hi := index_set wr s k (by omega)
      have hk5 : decide ((k : Int) < 5) = true := by rw [decide_eq_true_eq]; omega
      clear hS h0
      gi_wp2
      gi_loopw [5] (fun v wq => ∃ (pre : List Nat) (x j : Nat), j ≤ 64 ∧ v = .int .u64 (x : Int) ∧ EachP s k x j pre ∧ J pre wq) (fun v _ => (intOf v).toNat)
      case atStart => exact ⟨pre, s.at_ k, 0, by omega, rfl, hE, hJ⟩
      case round =>
        clear hE hJ pre hi
        obtain ⟨pre, x, j, hj, rfl, hE, hJ⟩ := hrel
        by_cases hx : x = 0
        · subst hx
          have R := hE.next (by omega) hj
          gi_wp2
          go_roundw
          case rel => exact ⟨pre, k + 1, by omega, by go_num, R, hJ⟩
          case measure => simp [intOf]; omega
        · obtain ⟨b, hb, hb64, hbs, hlen, hlt, hE2⟩ := hE.take (by omega) hx
          have hx1 : ((x : Int) != 0) = true := by simp; omega
          have hfit := hE.fit
          have hm : (k : Int) * 64 + (b : Int) = ((k * 64 + b : Nat) : Int) := by omega
          have hsub : IntKind.u64.wrap ((x : Int) - 1) = ((x - 1 : Nat) : Int) := by rw [IntKind.wrap_u64]; omega
          have hand : bits .and .u64 (x : Int) ((x - 1 : Nat) : Int) = ((x &&& (x - 1) : Nat) : Int) := bits_and_u64_nat _ _ hfit (by omega)
          have htz := tz64_any x hx hfit wr (hT _ _ hJ)
          rw [hb] at htz
          obtain ⟨fn, tmps, assign, body, hy, hR⟩ := hY pre (k * 64 + b) wr hJ hlen (by omega) hbs
          rw [← hm] at hy
          clear hE hb hm hY hT h5
          gi_wp2
          refine ⟨trivial, (callsIn_wide.2 htz).mono ?_⟩
          rintro e W2 ⟨rfl, rfl⟩
          gi_wp2
          refine hR.mono ?_
          rintro e W3 (⟨rfl, hJ3⟩ | ⟨rfl, hJx3⟩)
          · gi_wp2
            go_roundw
            case rel => exact ⟨_, x &&& (x - 1), b + 1, by omega, rfl, hE2, hJ3⟩
            case measure => simp [intOf]; omega
          · gi_wp2
            refine bodyPost_ret (results_none rfl _ _ _) rfl ?_
            exact ⟨⟨_, rfl⟩, .inr ⟨_, hE2.sub, hJx3⟩⟩

end Go.Proofs.YtakgppoeikcepaaDoor

/- A loop over the marks of a set: 'for m := range s.each', where 'each' is a method that has its receiver with it. -/
namespace Go.Proofs.YtakgppoeikcepaaDoor
open Go.RowKit Go.Shelf
set_option linter.unusedVariables false
set_option maxRecDepth 4000

/-- How a round may be left. -/
def roundK (B : Nat) (I : List Nat → World → Prop) (Ix : Code → List Nat → World → Prop) (xs : List Nat) (W : World) : Exit → Act → World → Prop
  | .normal, _, W' => KeepsFrom B W W' ∧ I xs W'
  | .ret, _, W' => KeepsFrom B W W' ∧ Ix .ret xs W'
  | _, _, _ => False

theorem range_each {n : Nat} (hn : 3 ≤ n) {g : Operand} {p : Tmp} {assign body : Code} {Q : Exit → Act → World → Prop} {a : Act} {w : World} {s : SetL}
    (hg : a.eval g = .func (.func 34) #[setV s] #[])
    (I : List Nat → World → Prop) (Ix : Code → List Nat → World → Prop) (hI : OwnFrom w.heap.size I) (hIx : ∀ c, OwnFrom w.heap.size (Ix c)) (h0 : I [] w) (hT : ∀ pre W, I pre W → Tab W)
    (A : Nat → Act)
    (hassign : ∀ (l m : Nat) (W : World) (K : Act → World → Prop), K (A m) W → assign.wpIn (Fence.wide.inRound l) (n - 1 - 1) Tryd.prog (Exit.then K (fun _ _ _ => False)) { tmps := a.tmps.setIfInBounds p (.int .i64 (m : Int)), defers := [] } W)
    (hbody : ∀ (l : Nat) (pre : List Nat) (m : Nat) (W : World), w.heap.size ≤ l → I pre W → m < 320 → s.has m = true → body.wpIn (Fence.wide.inRound l) (n - 1 - 1) Tryd.prog (roundK w.heap.size I Ix (pre ++ [m]) W) (A m) W)
    (hdone : ∀ (D : Nat) (xs : List Nat) (W : World), w.heap.size ≤ D → (∀ m, m ∈ xs ↔ m < 320 ∧ s.has m = true) → I xs W → W.heap[D]? = some (.deferred (some [])) → Q .normal { a with defers := { target := .collected D, args := #[] } :: a.defers } W)
    (hstop : ∀ (D : Nat) (pre : List Nat) (W : World), w.heap.size ≤ D → (∀ m ∈ pre, m < 320 ∧ s.has m = true) → Ix .ret pre W → W.heap[D]? = some (.deferred (some [])) → Q .ret { a with defers := { target := .collected D, args := #[] } :: a.defers } W) :
    (Code.rangeFunc g #[p] assign body).wpIn Fence.wide n Tryd.prog Q a w := by
  refine wpIn_rangeFunc fun fn hfn => ?_
  -- the loop's record, as it is before, within, and behind a round
  let rec_ (st : LoopState) (pe : Option Code) : Obj := .loop { state := st, pending := pe, fn, tmps := a.tmps, params := #[p], assign, body, defers := w.heap.size }
  let D := w.heap.size
  let L := w.heap.size + 1
  obtain ⟨w1, hw1⟩ : ∃ w1, (w.alloc (.deferred (some []))).alloc (rec_ .ready none) = w1 := ⟨_, rfl⟩
  have hlen : w1.heap.size = w.heap.size + 2 := by rw [← hw1]; simp
  have hL : w1.heap[L]? = some (rec_ .ready none) := by
    have := heap_alloc_at (w.alloc (.deferred (some []))) (rec_ .ready none)
    rw [← hw1]; simpa [L] using this
  have hD : w1.heap[D]? = some (.deferred (some [])) := by
    rw [← hw1]; exact ((below_new (w.alloc (.deferred (some []))) _).block D (by simp [D])).trans (heap_alloc_at w _)
  have hI1 : I [] w1 := by rw [← hw1]; exact hI.alloc _ (hI.alloc _ h0)
  refine ⟨L, [{ target := .collected D, args := #[] }], w1, { target := .fn (.func 34) #[], args := #[setV s, .func (.yield L) #[] #[]] }, w1, 34, #[setV s, .func (.yield L) #[] #[]], w1, ?_, ?_, ?_, ?_, fun _ => by omega, ?_⟩
  · rw [← hw1]; exact run_enterLoop_outer _ _ _ _ _
  · simp only [resolve, hg]
    simp [Deferred.ofValue, go_sem, L]
  · intro f' hf'; trivial
  · simp [invoke, go_sem]
  · have hne : L ≠ D := by simp [L, D]
    refine (each_in (n - 1) (by omega) L s (fun pre W => I pre W ∧ W.heap[L]? = some (rec_ .ready none) ∧ W.heap[D]? = some (.deferred (some [])))
      (fun pre W => Ix .ret pre W ∧ W.heap[L]? = some (rec_ .done (some .ret)) ∧ W.heap[D]? = some (.deferred (some []))) (fun pre W h => hT pre W h.1) ?_ w1 ?_).mono ?_
    · rintro pre m W ⟨hi, hl, hd⟩ hlen2 hm hs
      have hLt : L < W.heap.size := (Array.getElem?_eq_some_iff.1 hl).1
      have hy := run_yield (P := Tryd.prog) (args := #[.int .i64 (m : Int)]) hl rfl
      simp only [List.zip_toArray, List.zip_cons_cons, List.zip_nil_right, List.foldl_toArray, List.foldl_cons, List.foldl_nil] at hy
      refine ⟨fn, a.tmps.setIfInBounds p (.int .i64 (m : Int)), assign, body, by simpa using hy, roundIn_of_wpIn hfn (hassign L m W _ ?_)⟩
      refine ⟨_, run_beginRound hl rfl, ?_⟩
      obtain ⟨W2, hW2⟩ : ∃ W2, W.putObj L (rec_ .busy none) = W2 := ⟨_, rfl⟩
      have hl2 : W2.heap[L]? = some (rec_ .busy none) := by rw [← hW2]; exact World.putObj_heap_same hLt
      have hd2 : W2.heap[D]? = some (.deferred (some [])) := by rw [← hW2]; exact (World.putObj_heap_other (fun e => hne e.symm)).trans hd
      have hi2 : I pre W2 := by rw [← hW2]; exact hI.putObj _ hi (by simp [L]) hl rfl
      show body.wpIn (Fence.wide.inRound L) (n - 1 - 1) Tryd.prog _ (A m) (W.putObj L (rec_ .busy none))
      rw [hW2]
      refine wpIn_mono (hbody L pre m W2 (by simp [L]) hi2 hm hs) ?_
      intro e a3 W3 hp
      cases e with
      | normal =>
        obtain ⟨hk3, hi3⟩ := hp
        have hl3 := hk3.same _ _ (by simp [L]) hl2 rfl
        have hd3 := hk3.same _ _ (by simp [D]) hd2 rfl
        exact ⟨_, _, run_endRound none hl3, .inl ⟨rfl, hI.putObj _ hi3 (by simp [L]) hl3 rfl, World.putObj_heap_same (Array.getElem?_eq_some_iff.1 hl3).1, (World.putObj_heap_other (fun e => hne e.symm)).trans hd3⟩⟩
      | ret =>
        obtain ⟨hk3, hi3⟩ := hp
        have hl3 := hk3.same _ _ (by simp [L]) hl2 rfl
        have hd3 := hk3.same _ _ (by simp [D]) hd2 rfl
        exact ⟨_, _, run_endRound (some .ret) hl3, .inr ⟨rfl, (hIx _).putObj _ hi3 (by simp [L]) hl3 rfl, World.putObj_heap_same (Array.getElem?_eq_some_iff.1 hl3).1, (World.putObj_heap_other (fun e => hne e.symm)).trans hd3⟩⟩
      | exit id => exact hp.elim
      | goto t => exact hp.elim
      | panic ch => exact hp.elim
      | outgrown => exact hp.elim
    · have b := below_new w1 (.cells (setC s) 68)
      exact ⟨hI.alloc _ hI1, (b.block L (by rw [hlen]; simp [L])).trans hL, (b.block D (by rw [hlen]; simp [D])).trans hD⟩
    · rintro e W2 ⟨⟨v, rfl⟩, (⟨xs, hS, hi, hl, hd⟩ | ⟨pre, hS, hi, hl, hd⟩)⟩
      · exact ⟨none, _, run_endLoop hl (by simp), hdone D xs _ (Nat.le_refl _) hS (hI.putObj _ hi (by simp [L]) hl rfl) ((World.putObj_heap_other (fun e => hne e.symm)).trans hd)⟩
      · refine ⟨some .ret, _, run_endLoop hl (by simp), ?_⟩
        have := hstop D pre _ (Nat.le_refl _) hS ((hIx .ret).putObj (rec_ .exhausted (some .ret)) hi (by simp [L]) hl rfl) ((World.putObj_heap_other (fun e => hne e.symm)).trans hd)
        exact wpIn_ret this

end Go.Proofs.YtakgppoeikcepaaDoor
