import Derived.Lib.TrailingZeros
import Derived.Laws.BitsAllLaws
import Derived.Test.YtffaamljogbmlaaDoorGr00
import Derived.Test.YtffaamljogbmlaaDoorGr04
import Derived.Test.YtffaamljogbmlaaDoorGr03
import Derived.BigRegion
import Derived.Test.YtffaamljogbmlaaDoorRows
import Derived.ProofKit
import Derived.OpenShut
import Derived.ShutString
import Derived.ChangeOld
import Derived.SizedLaws
import Derived.Lib.SmallJoins
import Derived.Deep.Strs
import Derived.Deep.Slices
/- Sets of numbers as words of 64 bits, plainly. -/
namespace Go.Proofs.YtffaamljogbmlaaDoor
open Go.Lib
set_option linter.unusedVariables false
set_option maxRecDepth 4000

theorem low_bit {x : Nat} (h0 : 0 < x) (hx : x < 18446744073709551616) : ∃ b, ctz 64 x = b ∧ b < 64 ∧ x.testBit b = true ∧ (∀ i, i < b → x.testBit i = false) ∧ ∀ i, (x &&& (x - 1)).testBit i = (x.testBit i && decide (i ≠ b)) := by
  obtain ⟨m, hm, hb⟩ := ctzFrom_spec 64 x h0 hx
  have e : ctz 64 x = ctzFrom 64 x := by unfold ctz; rw [if_neg (by omega)]
  obtain ⟨b, hbe⟩ : ∃ b, ctzFrom 64 x = b := ⟨_, rfl⟩
  rw [hbe] at hm hb e
  have hp : 0 < 2 ^ b := Nat.pow_pos (by omega)
  have hx1 : x - 1 = 2 ^ b * (2 * m) + (2 ^ b - 1) := by rw [hm, Nat.mul_add]; omega
  have t1 : ∀ i, x.testBit i = if i < b then false else (2 * m + 1).testBit (i - b) := by
    intro i
    have := Nat.testBit_two_pow_mul_add (2 * m + 1) (b := 0) (i := b) hp i
    rw [Nat.add_zero, ← hm] at this
    rw [this]; split <;> simp
  have t2 : ∀ i, (x - 1).testBit i = if i < b then (2 ^ b - 1).testBit i else (2 * m).testBit (i - b) := by
    intro i
    rw [hx1]
    exact Nat.testBit_two_pow_mul_add (2 * m) (by omega) i
  refine ⟨b, e, hb, by rw [t1, if_neg (by omega), Nat.sub_self]; simp, fun i hi => by rw [t1, if_pos hi], fun i => ?_⟩
  rw [Nat.testBit_and, t1, t2]
  by_cases h1 : i < b
  · simp [h1]
  · rw [if_neg h1, if_neg h1]
    by_cases h2 : i = b
    · subst h2; simp
    · obtain ⟨j, hj⟩ : ∃ j, i - b = j + 1 := ⟨i - b - 1, by omega⟩
      rw [hj, Nat.testBit_succ, Nat.testBit_succ, show (2 * m + 1) / 2 = m by omega, show (2 * m) / 2 = m by omega]
      simp [h2]

/-- A set: five words. -/
structure SetL where
  at_ : Nat → Nat
  fit : ∀ k, at_ k < 18446744073709551616
def SetL.has (s : SetL) (m : Nat) : Bool := (s.at_ (m / 64)).testBit (m % 64)
def noneS : SetL := ⟨fun _ => 0, fun _ => by omega⟩
def onlyS (m : Nat) : SetL := ⟨fun k => if k = m / 64 then 2 ^ (m % 64) else 0, fun k => by
  split
  · exact Nat.lt_of_lt_of_le (Nat.pow_lt_pow_right (by omega) (Nat.mod_lt _ (by omega))) (by decide : 2 ^ 64 ≤ 18446744073709551616)
  · omega⟩
def orS (s t : SetL) : SetL := ⟨fun k => s.at_ k ||| t.at_ k, fun k => by
  have := Nat.or_lt_two_pow (n := 64) (s.fit k) (t.fit k); exact this⟩
def andS (s t : SetL) : SetL := ⟨fun k => s.at_ k &&& t.at_ k, fun k => Nat.lt_of_le_of_lt Nat.and_le_left (s.fit k)⟩
def emptyS (s : SetL) : Bool := decide (s.at_ 0 = 0 ∧ s.at_ 1 = 0 ∧ s.at_ 2 = 0 ∧ s.at_ 3 = 0 ∧ s.at_ 4 = 0)
def eqS (s t : SetL) : Bool := (List.range 5).all fun j => (s.at_ j : Int) == (t.at_ j : Int)
/-- The same as far as five words go. -/
def SameS (s t : SetL) : Prop := ∀ k, k < 5 → s.at_ k = t.at_ k

theorem has_none (m : Nat) : noneS.has m = false := by simp [SetL.has, noneS]
theorem has_only (m j : Nat) : (onlyS m).has j = decide (j = m) := by
  unfold SetL.has onlyS
  simp only
  by_cases h : j / 64 = m / 64
  · rw [if_pos h, Nat.testBit_two_pow]
    by_cases h2 : m % 64 = j % 64
    · simp only [h2, decide_true]; rw [decide_eq_true]; omega
    · rw [decide_eq_false h2, decide_eq_false]; intro e; subst e; exact h2 rfl
  · rw [if_neg h, Nat.zero_testBit, decide_eq_false]; intro e; subst e; exact h rfl
theorem has_or (s t : SetL) (m : Nat) : (orS s t).has m = (s.has m || t.has m) := by unfold SetL.has orS; simp only [Nat.testBit_or]
theorem has_and (s t : SetL) (m : Nat) : (andS s t).has m = (s.has m && t.has m) := by unfold SetL.has andS; simp only [Nat.testBit_and]
theorem SameS.has {s t : SetL} (h : SameS s t) {m : Nat} (hm : m < 320) : s.has m = t.has m := by unfold SetL.has; rw [h _ (by omega)]
theorem SameS.of_has {s t : SetL} (h : ∀ m, m < 320 → s.has m = t.has m) : SameS s t := by
  intro k hk
  apply Nat.eq_of_testBit_eq
  intro i
  by_cases hi : i < 64
  · have := h (k * 64 + i) (by omega)
    unfold SetL.has at this
    rwa [show (k * 64 + i) / 64 = k by omega, show (k * 64 + i) % 64 = i by omega] at this
  · have e : (18446744073709551616 : Nat) ≤ 2 ^ i := Nat.le_trans (by decide : 18446744073709551616 ≤ 2 ^ 64) (Nat.pow_le_pow_right (by omega) (by omega))
    rw [Nat.testBit_lt_two_pow (Nat.lt_of_lt_of_le (s.fit k) e), Nat.testBit_lt_two_pow (Nat.lt_of_lt_of_le (t.fit k) e)]
theorem emptyS_iff (s : SetL) : emptyS s = true ↔ ∀ m, m < 320 → s.has m = false := by
  unfold emptyS
  rw [decide_eq_true_iff]
  constructor
  · rintro ⟨h0, h1, h2, h3, h4⟩ m hm
    have hk : m / 64 < 5 := by omega
    have : s.at_ (m / 64) = 0 := by
      obtain h | h | h | h | h : m / 64 = 0 ∨ m / 64 = 1 ∨ m / 64 = 2 ∨ m / 64 = 3 ∨ m / 64 = 4 := by omega
      all_goals (rw [h]; assumption)
    unfold SetL.has
    rw [this, Nat.zero_testBit]
  · intro h
    have : SameS s noneS := SameS.of_has fun m hm => by rw [h m hm, has_none]
    exact ⟨this 0 (by omega), this 1 (by omega), this 2 (by omega), this 3 (by omega), this 4 (by omega)⟩
theorem eqS_iff (s t : SetL) : eqS s t = true ↔ SameS s t := by
  unfold eqS SameS
  simp only [List.all_eq_true, List.mem_range, beq_iff_eq]
  exact ⟨fun h k hk => by have := h k hk; omega, fun h k hk => by rw [h k hk]⟩
theorem eqS_none (s : SetL) : eqS s noneS = emptyS s := by
  rw [Bool.eq_iff_iff, eqS_iff, emptyS_iff]
  exact ⟨fun h m hm => by rw [h.has hm, has_none], fun h => SameS.of_has fun m hm => by rw [h m hm, has_none]⟩

end Go.Proofs.YtffaamljogbmlaaDoor

/- The answers of the document itself for shape: what is behind a place. -/
namespace Go.Proofs.YtffaamljogbmlaaDoor
open Go.RowKit
set_option linter.unusedVariables false
set_option maxRecDepth 4000

/-- Both rows, as they stand. -/
structure WaysAt (w0 : World) (B1 B2 P T : Nat) (w : World) (s : WayS) : Prop where
  ps : BoolRow w B1 P s.ps
  ts : BoolRow w B2 T s.ts
  below : Below w0.heap.size w0 w
theorem WaysAt.to {w0 w w' : World} {B1 B2 P T : Nat} {s : WayS} (h : WaysAt w0 B1 B2 P T w s) (hb : Below w.heap.size w w') : WaysAt w0 B1 B2 P T w' s := ⟨h.ps.below hb, h.ts.below hb, below_then h.below hb⟩
theorem WaysAt.putT {w0 w : World} {B1 B2 P T k : Nat} {s : WayS} {g : Nat → Bool} {x : Bool} (h : WaysAt w0 B1 B2 P T w s) (hne : B1 ≠ B2) (hB : w0.heap.size ≤ B2) (hk : k < T) (hx : g k = x) (hg : ∀ j, j ≠ k → g j = s.ts j) :
    WaysAt w0 B1 B2 P T (w.setCell ⟨B2, k, none⟩ (.bool x)) ⟨s.ps, g⟩ :=
  ⟨h.ps.other (fun e => hne e.symm) _, h.ts.put hk hx fun j _ hj => hg j hj, h.below.setCell (p := ⟨B2, k, none⟩) hB _⟩
theorem WaysAt.putP {w0 w : World} {B1 B2 P T k : Nat} {s : WayS} {g : Nat → Bool} {x : Bool} (h : WaysAt w0 B1 B2 P T w s) (hne : B1 ≠ B2) (hB : w0.heap.size ≤ B1) (hk : k < P) (hx : g k = x) (hg : ∀ j, j ≠ k → g j = s.ps j) :
    WaysAt w0 B1 B2 P T (w.setCell ⟨B1, k, none⟩ (.bool x)) ⟨g, s.ts⟩ :=
  ⟨h.ps.put hk hx fun j _ hj => hg j hj, h.ts.other hne _, h.below.setCell (p := ⟨B1, k, none⟩) hB _⟩

theorem box3_other {w : World} {b : Nat} {x y z u : Value} {p : Addr} (h : Box3 w b x y z) (hp : p.block ≠ b) : Box3 (w.setCell p u) b x y z := by
  have ne : ∀ j, (⟨b, j, none⟩ : Addr) ≠ p := fun j e => hp (by rw [← e])
  refine ⟨by simpa [World.setCell] using h.1, ?_, ?_, ?_⟩
  · rw [World.cell?_setCell_other _ _ _ _ (Ne.symm (ne 0))]; exact h.2.1
  · rw [World.cell?_setCell_other _ _ _ _ (Ne.symm (ne 1))]; exact h.2.2.1
  · rw [World.cell?_setCell_other _ _ _ _ (Ne.symm (ne 2))]; exact h.2.2.2

end Go.Proofs.YtffaamljogbmlaaDoor

/- A slice of ints that came in, read as a list. -/
namespace Go.Proofs.YtffaamljogbmlaaDoor
open Go.ChangeShapes Go.WideShapes Go.ChangeAt Go.RowKit
set_option linter.unusedVariables false
set_option maxRecDepth 4000

theorem own : ownKnob Tryd.prog.godebug = none := by kernel_rfl
theorem laidOut : laidOutB Tryd.prog = true := by kernel_rfl
theorem bytes_int : Tryd.prog.bytesOf 3 = 8 := by kernel_rfl

theorem cell_lt {w : World} {a : Addr} {v : Value} (h : w.cell? a = some v) : a.block < w.heap.size := by
  rcases Nat.lt_or_ge a.block w.heap.size with h1 | h1
  · exact h1
  · unfold World.cell? at h
    rw [Array.getElem?_eq_none h1] at h
    simp at h

theorem ints_arg {H : Type} {enc : TypeId × Value → H} {W : World} {base : Nat} {v : Value} {d : DataW H} {p : List MemPlace}
    (hval : Value.okWide Tryd.prog W .any base 27 v) (h : DataW.Trod enc Tryd.prog W 0 (fun _ => true) true 27 v d p)
    (hsz : ∀ elems spare, d = .slice elems spare → (elems.length + spare.length) * 8 ≤ reachBytes) : ∃ xs, Ints W v xs := by
  obtain ⟨a0, len, cap, rfl⟩ := okWide_slice Tryd.underlying27 hval
  obtain ⟨fuel, hf⟩ := h
  rcases open_ints Tryd.underlying27 Tryd.underlying3 (by kernel_rfl) hf with ⟨hcs, _⟩ | ⟨x, l, c, zs, hcs, _, hl, hm, hz, hx, hcell, hwz⟩
  · simp [Value.cells] at hcs
    obtain ⟨rfl, rfl, rfl⟩ := hcs
    exact ⟨[], Ints.nil _⟩
  · simp [Value.cells] at hcs
    obtain ⟨rfl, rfl, rfl⟩ := hcs
    simp only [Prod.mk.injEq] at hx
    simp only [if_true] at hz
    have hs := hsz _ _ hx.1
    simp only [lits, List.length_map, List.length_take, List.length_drop, reachBytes] at hs
    refine ⟨zs.take len, x, len, cap, rfl, by simp; omega, by omega, ⟨hl, by unfold maxLen at hm; omega, fun h => by cases h⟩, fun j hj => ?_⟩
    have hj' : j < len := by simp at hj; omega
    have hc := hcell j (by omega)
    obtain ⟨b, off, spot⟩ := x
    have hspot : spot = none := by simpa [Addr.add] using World.cell?_spot (hcell 0 (by omega))
    subst hspot
    rw [add_plain] at hc
    refine ⟨b, off, rfl, ?_, ?_⟩
    · exact cell_lt hc
    · rw [hc]
      simp [nth, List.getD, hj']

end Go.Proofs.YtffaamljogbmlaaDoor

/- What came in, read as lists and nets; and how much of it there is. -/
namespace Go.Proofs.YtffaamljogbmlaaDoor
open Go.ChangeShapes Go.WideShapes Go.ChangeAt Go.RowKit Go.Joins Go.Deep
set_option linter.unusedVariables false
set_option maxRecDepth 4000

theorem bulk_pos {H : Type} (d : DataW H) : 1 ≤ Rows.uptoBulk d := by
  cases d with
  | lit l => cases l <;> simp [Rows.uptoBulk]
  | nil => simp [Rows.uptoBulk]
  | ptr d => simp [Rows.uptoBulk]
  | slice elems spare => simp [Rows.uptoBulk]
  | agg parts => simp [Rows.uptoBulk]
  | iface t d => simp [Rows.uptoBulk]
  | map entries => simp [Rows.uptoBulk]
  | held h => simp [Rows.uptoBulk]
theorem bulk_part {H : Type} {d : DataW H} {l : List (DataW H)} (h : d ∈ l) : Rows.uptoBulk d ≤ Rows.uptoBulkAll l := by
  induction l with
  | nil => cases h
  | cons x r ih =>
    simp only [Rows.uptoBulkAll]
    cases List.mem_cons.1 h with
    | inl e => subst e; omega
    | inr e => have := ih e; omega
theorem bulk_length {H : Type} (l : List (DataW H)) : l.length ≤ Rows.uptoBulkAll l := by
  induction l with
  | nil => simp [Rows.uptoBulkAll]
  | cons x r ih => have := bulk_pos x; simp only [Rows.uptoBulkAll, List.length_cons]; omega

theorem weights_part {H : Type} {P : Program} {e : TypeId} {d : DataW H} {l : List (DataW H)} (h : d ∈ l) {x : Nat} (hx : x ∈ d.weights P e) : x ∈ DataW.weightsAll P e l := by
  induction l with
  | nil => cases h
  | cons y r ih =>
    simp only [DataW.weightsAll, List.mem_append]
    cases List.mem_cons.1 h with
    | inl q => subst q; exact .inl hx
    | inr q => exact .inr (ih q)

/-- Nothing in it is too great for a machine. -/
def Fits {H : Type} (t : TypeId) (d : DataW H) : Prop := ∀ x ∈ d.weights Tryd.prog t, x ≤ reachBytes

theorem ints_read {H : Type} {enc : TypeId × Value → H} {W : World} {fuel : Nat} {c : Value} {d : DataW H} {p : List MemPlace}
    (hf : DataW.trod enc Tryd.prog W 0 (fun _ => true) true fuel 27 [c] = some (d, p)) (hw : Fits 27 d) : ∃ xs, Ints W c xs ∧ xs.length + 1 ≤ Rows.uptoBulk d := by
  rcases open_ints Tryd.underlying27 Tryd.underlying3 (by kernel_rfl) hf with ⟨hcs, hx⟩ | ⟨x, l, cap, zs, hcs, _, hl, hm, hz, hx, hcell, hwz⟩
  · simp only [List.cons.injEq, and_true] at hcs
    subst hcs
    simp only [Prod.mk.injEq] at hx
    obtain ⟨rfl, _⟩ := hx
    exact ⟨[], Ints.nil _, by simp [Rows.uptoBulk]⟩
  · simp only [List.cons.injEq, and_true] at hcs
    subst hcs
    simp only [Prod.mk.injEq] at hx
    obtain ⟨rfl, _⟩ := hx
    simp only [if_true] at hz
    have hs := hw ((zs.take l).length * 8 + (zs.drop l).length * 8) (by
      simp only [DataW.weights, Tryd.underlying27, List.mem_cons]
      left
      rw [bytes_int]
      simp only [lits, List.length_map]
      omega)
    simp only [List.length_take, List.length_drop, reachBytes] at hs
    have hb := bulk_length (H := H) (lits .i64 (zs.take l))
    refine ⟨zs.take l, ⟨x, l, cap, rfl, by simp; omega, by omega, ⟨hl, by unfold maxLen at hm; omega, fun h => by cases h⟩, fun j hj => ?_⟩, ?_⟩
    · have hj' : j < l := by simp at hj; omega
      have hc := hcell j (by omega)
      obtain ⟨b, off, spot⟩ := x
      have hspot : spot = none := by simpa [Addr.add] using World.cell?_spot (hcell 0 (by omega))
      subst hspot
      rw [addr_add] at hc
      exact ⟨b, off, rfl, cell_lt hc, by rw [hc]; simp [nth, List.getD, hj']⟩
    · simp only [Rows.uptoBulk]
      simp only [lits, List.length_map] at hb
      simp only [lits] at hb ⊢
      omega

theorem ints_arg2 {H : Type} {enc : TypeId × Value → H} {W : World} {base : Nat} {v : Value} {d : DataW H} {p : List MemPlace}
    (hval : Value.okWide Tryd.prog W .any base 27 v) (h : DataW.Trod enc Tryd.prog W 0 (fun _ => true) true 27 v d p) (hw : Fits 27 d) : ∃ xs, Ints W v xs ∧ xs.length + 1 ≤ Rows.uptoBulk d := by
  obtain ⟨a0, len, cap, rfl⟩ := okWide_slice Tryd.underlying27 hval
  obtain ⟨fuel, hf⟩ := h
  exact ints_read (by simpa [Value.cells] using hf) hw

theorem ints_readw {H : Type} {enc : TypeId × Value → H} {W : World} {fuel : Nat} {c : Value} {d : DataW H} {p : List MemPlace}
    (hf : DataW.trod enc Tryd.prog W 0 (fun _ => true) true fuel 27 [c] = some (d, p)) (hw : Fits 27 d) : ∃ xs, Ints W c xs ∧ xs.length + 1 ≤ Rows.uptoBulk d ∧ ∀ z ∈ xs, (Lit.int .i64 z).wf = true := by
  rcases open_ints Tryd.underlying27 Tryd.underlying3 (by kernel_rfl) hf with ⟨hcs, hx⟩ | ⟨x, l, cap, zs, hcs, _, hl, hm, hz, hx, hcell, hwz⟩
  · simp only [List.cons.injEq, and_true] at hcs
    subst hcs
    simp only [Prod.mk.injEq] at hx
    obtain ⟨rfl, _⟩ := hx
    exact ⟨[], Ints.nil _, by simp [Rows.uptoBulk], by simp⟩
  · simp only [List.cons.injEq, and_true] at hcs
    subst hcs
    simp only [Prod.mk.injEq] at hx
    obtain ⟨rfl, _⟩ := hx
    simp only [if_true] at hz
    have hs := hw ((zs.take l).length * 8 + (zs.drop l).length * 8) (by
      simp only [DataW.weights, Tryd.underlying27, List.mem_cons]
      left
      rw [bytes_int]
      simp only [lits, List.length_map]
      omega)
    simp only [List.length_take, List.length_drop, reachBytes] at hs
    have hb := bulk_length (H := H) (lits .i64 (zs.take l))
    refine ⟨zs.take l, ⟨x, l, cap, rfl, by simp; omega, by omega, ⟨hl, by unfold maxLen at hm; omega, fun h => by cases h⟩, fun j hj => ?_⟩, ?_, fun z hz => hwz z (List.mem_of_mem_take hz)⟩
    · have hj' : j < l := by simp at hj; omega
      have hc := hcell j (by omega)
      obtain ⟨b, off, spot⟩ := x
      have hspot : spot = none := by simpa [Addr.add] using World.cell?_spot (hcell 0 (by omega))
      subst hspot
      rw [addr_add] at hc
      exact ⟨b, off, rfl, cell_lt hc, by rw [hc]; simp [nth, List.getD, hj']⟩
    · simp only [Rows.uptoBulk]
      simp only [lits, List.length_map] at hb
      simp only [lits] at hb ⊢
      omega

theorem ints_arg3 {H : Type} {enc : TypeId × Value → H} {W : World} {base : Nat} {v : Value} {d : DataW H} {p : List MemPlace}
    (hval : Value.okWide Tryd.prog W .any base 27 v) (h : DataW.Trod enc Tryd.prog W 0 (fun _ => true) true 27 v d p) (hw : Fits 27 d) : ∃ xs, Ints W v xs ∧ xs.length + 1 ≤ Rows.uptoBulk d ∧ ∀ z ∈ xs, (Lit.int .i64 z).wf = true := by
  obtain ⟨a0, len, cap, rfl⟩ := okWide_slice Tryd.underlying27 hval
  obtain ⟨fuel, hf⟩ := h
  exact ints_readw (by simpa [Value.cells] using hf) hw

theorem int_arg {H : Type} {enc : TypeId × Value → H} {W : World} {base : Nat} {v : Value} {d : DataW H} {p : List MemPlace}
    (hval : Value.okWide Tryd.prog W .any base 3 v) (h : DataW.Trod enc Tryd.prog W 0 (fun _ => true) true 3 v d p) : ∃ x, v = .int .i64 x ∧ 1 ≤ Rows.uptoBulk d := by
  obtain ⟨x, rfl, rfl, rfl, _⟩ := open_int Tryd.underlying3 hval h
  exact ⟨x, rfl, bulk_pos _⟩

theorem cells3 {w : World} {a : Addr} {cs : List Value} (h : w.cells? 0 a 3 = some cs) : ∃ c0 c1 c2, cs = [c0, c1, c2] ∧ w.cell? (a.add 0) = some c0 ∧ w.cell? (a.add 1) = some c1 ∧ w.cell? (a.add 2) = some c2 := by
  simp only [World.cells?, Nat.zero_le, if_true] at h
  simp only [show List.range 3 = [0, 1, 2] from rfl, List.mapM_cons, List.mapM_nil] at h
  cases h0 : w.cell? (a.add 0) with
  | none => simp [h0] at h
  | some c0 =>
    cases h1 : w.cell? (a.add 1) with
    | none => simp [h0, h1] at h
    | some c1 =>
      cases h2 : w.cell? (a.add 2) with
      | none => simp [h0, h1, h2] at h
      | some c2 =>
        simp [h0, h1, h2] at h
        exact ⟨c0, c1, c2, h.symm, rfl, rfl, rfl⟩

theorem cells_tran : Tryd.prog.cellsOf 41 = 3 := by kernel_rfl
theorem cells_int : Tryd.prog.cellsOf 3 = 1 := by kernel_rfl
theorem cells_ints : Tryd.prog.cellsOf 27 = 1 := by kernel_rfl
theorem cells_trans : Tryd.prog.cellsOf 22 = 1 := by kernel_rfl
theorem cells_net : Tryd.prog.cellsOf 24 = 2 := by kernel_rfl
theorem bytes_tran : Tryd.prog.bytesOf 41 = 56 := by kernel_rfl

theorem tran_one {H : Type} {enc : TypeId × Value → H} {W : World} {fuel : Nat} {c0 c1 c2 : Value} {d : DataW H} {p : List MemPlace}
    (hf : DataW.trod enc Tryd.prog W 0 (fun _ => true) true fuel 41 [c0, c1, c2] = some (d, p)) (hw : Fits 41 d) :
    ∃ t : TranL, IsTran W c0 c1 c2 t ∧ t.pre.length + t.post.length + 1 ≤ Rows.uptoBulk d := by
  obtain ⟨y0, y1, y2, n, hx, _, h0, h1, h2⟩ := trod_struct3 Tryd.underlying41 hf
  simp only [Prod.mk.injEq] at hx
  obtain ⟨rfl, _⟩ := hx
  simp only [cells_int, cells_ints, List.drop_zero, List.take_succ_cons, List.take_zero, List.drop_succ_cons] at h0 h1 h2
  have hw' : ∀ x, x ∈ y1.1.weights Tryd.prog 27 ∨ x ∈ y2.1.weights Tryd.prog 27 → x ≤ reachBytes := by
    intro x hx
    refine hw x ?_
    simp only [DataW.weights, Tryd.underlying41, DataW.weightsEach, List.map_cons, List.mem_append]
    rcases hx with hx | hx
    · exact .inr (.inl hx)
    · exact .inr (.inr (.inl hx))
  obtain ⟨l, e0, _, _⟩ := DataW.trod_int Tryd.underlying3 h0
  simp only [List.cons.injEq, and_true] at e0
  obtain ⟨xs, hxs, bx⟩ := ints_read h1 (fun x hx => hw' x (.inl hx))
  obtain ⟨ys, hys, bY⟩ := ints_read h2 (fun x hx => hw' x (.inr hx))
  refine ⟨⟨l, xs, ys⟩, ⟨e0, hxs, hys⟩, ?_⟩
  have := bulk_pos y0.1
  simp only [Rows.uptoBulk, Rows.uptoBulkAll]
  omega

theorem tranAt_range (len : Nat) (T : Nat → TranL) (j : Nat) (h : j < len) : tranAt ((List.range len).map T) j = T j := by
  simp [tranAt, List.getD, List.getElem?_map, List.getElem?_range h]

set_option maxRecDepth 4000 in
theorem trans_read {H : Type} {enc : TypeId × Value → H} {W : World} {fuel : Nat} {c : Value} {d : DataW H} {p : List MemPlace}
    (hf : DataW.trod enc Tryd.prog W 0 (fun _ => true) true fuel 22 [c] = some (d, p)) (hw : Fits 22 d) :
    ∃ ts, Trans W c ts ∧ ts.length + 1 ≤ Rows.uptoBulk d ∧ ∀ k, k < ts.length → (tranAt ts k).pre.length + (tranAt ts k).post.length + 1 ≤ Rows.uptoBulk d := by
  rcases open_slice Tryd.underlying22 hf with ⟨hcs, hx⟩ | ⟨a, len, cap, m, n, D, Pl, hcs, _, hl, hm, hmm, hx, hel⟩
  · simp only [List.cons.injEq, and_true] at hcs
    subst hcs
    simp only [Prod.mk.injEq] at hx
    obtain ⟨rfl, _⟩ := hx
    exact ⟨[], ⟨none, 0, 0, rfl, rfl, by omega, ⟨by omega, by omega, fun _ => rfl⟩, fun j hj => absurd hj (by simp)⟩, by simp [Rows.uptoBulk], fun k hk => absurd hk (by simp)⟩
  · simp only [List.cons.injEq, and_true] at hcs
    subst hcs
    simp only [Prod.mk.injEq] at hx
    obtain ⟨rfl, _⟩ := hx
    simp only [if_true] at hmm
    obtain rfl : cap = m := hmm.symm
    have hs := hw ((len + (cap - len)) * 56) (by
      simp only [DataW.weights, Tryd.underlying22, List.mem_cons]
      left
      rw [bytes_tran]
      simp)
    simp only [reachBytes] at hs
    have hone : ∀ i, i < len → ∃ t : TranL, (∃ b off c1 c2, a = ⟨b, off, none⟩ ∧ b < W.heap.size ∧ W.cell? ⟨b, off + i * 3, none⟩ = some (.int .i64 t.label) ∧ W.cell? ⟨b, off + i * 3 + 1, none⟩ = some c1 ∧ W.cell? ⟨b, off + i * 3 + 2, none⟩ = some c2 ∧ Ints W c1 t.pre ∧ Ints W c2 t.post) ∧
        t.pre.length + t.post.length + 1 ≤ Rows.uptoBulk (D i) := by
      intro i hi
      obtain ⟨cs', hc, ht⟩ := hel i (by omega)
      rw [cells_tran] at hc
      obtain ⟨c0, c1, c2, rfl, k0, k1, k2⟩ := cells3 hc
      have hmem : D i ∈ (List.range len).map D := List.mem_map.2 ⟨i, by simpa using hi, rfl⟩
      obtain ⟨t, ⟨e0, h1, h2⟩, hb⟩ := tran_one ht (fun x hx => hw x (by
        simp only [DataW.weights, Tryd.underlying22, List.mem_cons, List.mem_append]
        exact .inr (.inl (weights_part hmem hx))))
      obtain ⟨c0', _, _, _, z0, _, _⟩ : ∃ c0' c1' c2' : Value, ∃ _ : True, W.cell? (a.add 0) = some c0' ∧ True ∧ True := by
        obtain ⟨cs0, hc0, _⟩ := hel 0 (by omega)
        rw [cells_tran, Nat.zero_mul] at hc0
        have ha : a.add 0 = a := by simp [Addr.add]
        rw [ha] at hc0
        obtain ⟨x0, x1, x2, _, y0, _, _⟩ := cells3 hc0
        exact ⟨x0, x1, x2, trivial, y0, trivial, trivial⟩
      obtain ⟨b, off, spot⟩ := a
      have hspot : spot = none := by simpa [Addr.add] using World.cell?_spot z0
      subst hspot
      rw [addr_add, addr_add] at k0 k1 k2
      refine ⟨t, ⟨b, off, c1, c2, rfl, cell_lt k0, by rw [← e0]; simpa using k0, by simpa using k1, by simpa using k2, h1, h2⟩, hb⟩
    haveI : Inhabited TranL := ⟨noTran⟩
    obtain ⟨T, hT⟩ := choose_lt hone
    have hb1 := bulk_length (H := H) ((List.range len).map D)
    simp only [List.length_map, List.length_range] at hb1
    refine ⟨(List.range len).map T, ⟨some a, len, cap, rfl, by simp, by omega, ⟨hl, by unfold maxLen at hm; omega, fun h => by cases h⟩, fun j hj => ?_⟩, ?_, fun k hk => ?_⟩
    · have hj' : j < len := by simpa using hj
      rw [tranAt_range len T j hj']
      obtain ⟨⟨b, off, c1, c2, ha, r⟩, _⟩ := hT j hj'
      exact ⟨b, off, c1, c2, by rw [ha], r⟩
    · simp only [Rows.uptoBulk, List.length_map, List.length_range]; omega
    · have hk' : k < len := by simpa using hk
      rw [tranAt_range len T k hk']
      have h1 := (hT k hk').2
      have h2 : Rows.uptoBulk (D k) ≤ Rows.uptoBulkAll ((List.range len).map D) := bulk_part (List.mem_map.2 ⟨k, by simpa using hk', rfl⟩)
      simp only [Rows.uptoBulk]
      omega

theorem net_read {H : Type} {enc : TypeId × Value → H} {W : World} {base : Nat} {v : Value} {d : DataW H} {p : List MemPlace}
    (hval : Value.okWide Tryd.prog W .any base 24 v) (h : DataW.Trod enc Tryd.prog W 0 (fun _ => true) true 24 v d p) (hw : Fits 24 d) :
    ∃ n, Net W v n ∧ n.trans.length + 1 ≤ Rows.uptoBulk d ∧ ∀ k, k < n.trans.length → (tranAt n.trans k).pre.length + (tranAt n.trans k).post.length + 1 ≤ Rows.uptoBulk d := by
  obtain ⟨c0, c1, y0, y1, n, rfl, rfl, _, h0, h1⟩ := open_agg2 Tryd.underlying24 (by kernel_rfl) cells_net hval h
  obtain ⟨l, e0, _, _⟩ := DataW.trod_int Tryd.underlying3 h0
  simp only [List.cons.injEq, and_true] at e0
  subst e0
  obtain ⟨ts, hts, b1, b2⟩ := trans_read h1 (fun x hx => hw x (by
    simp only [DataW.weights, Tryd.underlying24, DataW.weightsEach, List.map_cons, List.mem_append]
    exact .inr (.inl hx)))
  refine ⟨⟨l, ts⟩, ⟨_, rfl, hts⟩, ?_, fun k hk => ?_⟩
  · simp only [Rows.uptoBulk, Rows.uptoBulkAll]; omega
  · have := b2 k hk
    simp only [Rows.uptoBulk, Rows.uptoBulkAll]; omega

end Go.Proofs.YtffaamljogbmlaaDoor

/- A case that came in; things to do in a case that came in. -/
namespace Go.Proofs.YtffaamljogbmlaaDoor
open Go.ChangeShapes Go.WideShapes Go.ChangeAt Go.RowKit Go.Joins Go.Deep
set_option linter.unusedVariables false
set_option maxRecDepth 4000

theorem cells_case : Tryd.prog.cellsOf 29 = 2 := by kernel_rfl

theorem case_read {H : Type} {enc : TypeId × Value → H} {W : World} {base : Nat} {v : Value} {d : DataW H} {p : List MemPlace}
    (hval : Value.okWide Tryd.prog W .any base 29 v) (h : DataW.Trod enc Tryd.prog W 0 (fun _ => true) true 29 v d p) (hw : Fits 29 d) :
    ∃ c, CaseV W v c ∧ c.mark.length + c.busy.length + 1 ≤ Rows.uptoBulk d := by
  obtain ⟨c0, c1, y0, y1, n, rfl, rfl, _, h0, h1⟩ := open_agg2 Tryd.underlying29 (by kernel_rfl) cells_case hval h
  obtain ⟨xs, hx, b0⟩ := ints_read h0 (fun x hx => hw x (by
    simp only [DataW.weights, Tryd.underlying29, DataW.weightsEach, List.map_cons, List.mem_append]
    exact .inl hx))
  obtain ⟨ys, hy, b1⟩ := ints_read h1 (fun x hx => hw x (by
    simp only [DataW.weights, Tryd.underlying29, DataW.weightsEach, List.map_cons, List.mem_append]
    exact .inr (.inl hx)))
  exact ⟨⟨xs, ys⟩, CaseV.mk' hx hy, by simp only [Rows.uptoBulk, Rows.uptoBulkAll]; omega⟩

theorem cells_op : Tryd.prog.cellsOf 39 = 2 := by kernel_rfl

theorem op_read {H : Type} {enc : TypeId × Value → H} {W : World} {base : Nat} {v : Value} {d : DataW H} {p : List MemPlace}
    (hval : Value.okWide Tryd.prog W .any base 39 v) (h : DataW.Trod enc Tryd.prog W 0 (fun _ => true) true 39 v d p) :
    ∃ k t : Int, v = .agg #[.int .i64 k, .int .i64 t] := by
  obtain ⟨c0, c1, y0, y1, n, rfl, rfl, _, h0, h1⟩ := open_agg2 Tryd.underlying39 (by kernel_rfl) cells_op hval h
  obtain ⟨l0, e0, _, _⟩ := DataW.trod_int Tryd.underlying3 h0
  obtain ⟨l1, e1, _, _⟩ := DataW.trod_int Tryd.underlying3 h1
  simp only [List.cons.injEq, and_true] at e0 e1
  exact ⟨l0, l1, by rw [e0, e1]⟩

theorem bytes_op : Tryd.prog.bytesOf 39 = 16 := by kernel_rfl

theorem cells2 {w : World} {a : Addr} {cs : List Value} (h : w.cells? 0 a 2 = some cs) : ∃ c0 c1, cs = [c0, c1] ∧ w.cell? (a.add 0) = some c0 ∧ w.cell? (a.add 1) = some c1 := by
  simp only [World.cells?, Nat.zero_le, if_true] at h
  simp only [show List.range 2 = [0, 1] from rfl, List.mapM_cons, List.mapM_nil] at h
  cases h0 : w.cell? (a.add 0) with
  | none => simp [h0] at h
  | some c0 =>
    cases h1 : w.cell? (a.add 1) with
    | none => simp [h0, h1] at h
    | some c1 =>
      simp [h0, h1] at h
      exact ⟨c0, c1, h.symm, rfl, rfl⟩

theorem op_one {H : Type} {enc : TypeId × Value → H} {W : World} {fuel : Nat} {c0 c1 : Value} {d : DataW H} {p : List MemPlace}
    (hf : DataW.trod enc Tryd.prog W 0 (fun _ => true) true fuel 39 [c0, c1] = some (d, p)) : ∃ x : Int × Int, c0 = .int .i64 x.1 ∧ c1 = .int .i64 x.2 := by
  obtain ⟨y0, y1, n, hx, _, h0, h1⟩ := trod_struct2 Tryd.underlying39 hf
  simp only [cells_int, List.drop_zero, List.take_succ_cons, List.take_zero, List.drop_succ_cons] at h0 h1
  obtain ⟨l0, e0, _, _⟩ := DataW.trod_int Tryd.underlying3 h0
  obtain ⟨l1, e1, _, _⟩ := DataW.trod_int Tryd.underlying3 h1
  simp only [List.cons.injEq, and_true] at e0 e1
  exact ⟨(l0, l1), e0, e1⟩

theorem opAt_range (len : Nat) (T : Nat → Int × Int) (j : Nat) (h : j < len) : opAt ((List.range len).map T) j = T j := by
  simp [opAt, List.getD, List.getElem?_map, List.getElem?_range h]

theorem ops_read {H : Type} {enc : TypeId × Value → H} {W : World} {base : Nat} {c : Value} {d : DataW H} {p : List MemPlace}
    (hval : Value.okWide Tryd.prog W .any base 25 c) (h : DataW.Trod enc Tryd.prog W 0 (fun _ => true) true 25 c d p) (hw : Fits 25 d) :
    ∃ l, OpsV W c l ∧ l.length + 1 ≤ Rows.uptoBulk d := by
  obtain ⟨a0, len0, cap0, rfl⟩ := okWide_slice Tryd.underlying25 hval
  obtain ⟨fuel, hf⟩ := h
  replace hf : DataW.trod enc Tryd.prog W 0 (fun _ => true) true fuel 25 [.slice a0 len0 cap0] = some (d, p) := by simpa [Value.cells] using hf
  rcases open_slice Tryd.underlying25 hf with ⟨hcs, hx⟩ | ⟨a, len, cap, m, n, D, Pl, hcs, _, hl, hm, hmm, hx, hel⟩
  · simp only [List.cons.injEq, and_true] at hcs
    rw [hcs]
    simp only [Prod.mk.injEq] at hx
    obtain ⟨rfl, _⟩ := hx
    exact ⟨[], ⟨none, 0, 0, rfl, rfl, by omega, ⟨by omega, by omega, fun _ => rfl⟩, fun j hj => absurd hj (by simp)⟩, by simp [Rows.uptoBulk]⟩
  · simp only [List.cons.injEq, and_true] at hcs
    rw [hcs]
    simp only [Prod.mk.injEq] at hx
    obtain ⟨rfl, _⟩ := hx
    simp only [if_true] at hmm
    obtain rfl : cap = m := hmm.symm
    have hs := hw ((len + (cap - len)) * 16) (by
      simp only [DataW.weights, Tryd.underlying25, List.mem_cons]
      left
      rw [bytes_op]
      simp)
    simp only [reachBytes] at hs
    have hone : ∀ i, i < len → ∃ x : Int × Int, ∃ b off, a = ⟨b, off, none⟩ ∧ b < W.heap.size ∧ W.cell? ⟨b, off + i * 2, none⟩ = some (.int .i64 x.1) ∧ W.cell? ⟨b, off + i * 2 + 1, none⟩ = some (.int .i64 x.2) := by
      intro i hi
      obtain ⟨cs', hc, ht⟩ := hel i (by omega)
      rw [cells_op] at hc
      obtain ⟨c0, c1, rfl, k0, k1⟩ := cells2 hc
      obtain ⟨x, e0, e1⟩ := op_one ht
      have z0 : ∃ c0', W.cell? (a.add 0) = some c0' := by
        obtain ⟨j0, hj0⟩ : ∃ j0, j0 = 0 := ⟨_, rfl⟩
        obtain ⟨cs0, hc0, _⟩ := hel j0 (by omega)
        rw [cells_op] at hc0
        rw [hj0, Nat.zero_mul] at hc0
        have ha : a.add 0 = a := by simp [Addr.add]
        rw [ha] at hc0
        obtain ⟨x0, x1, _, y0, _⟩ := cells2 hc0
        exact ⟨x0, y0⟩
      obtain ⟨c0', z0⟩ := z0
      obtain ⟨b, off, spot⟩ := a
      have hspot : spot = none := by simpa [Addr.add] using World.cell?_spot z0
      subst hspot
      rw [addr_add, addr_add] at k0 k1
      exact ⟨x, b, off, rfl, cell_lt k0, by rw [← e0]; simpa using k0, by rw [← e1]; simpa using k1⟩
    haveI : Inhabited (Int × Int) := ⟨(0, 0)⟩
    obtain ⟨T, hT⟩ := choose_lt hone
    have hb1 := bulk_length (H := H) ((List.range len).map D)
    simp only [List.length_map, List.length_range] at hb1
    refine ⟨(List.range len).map T, ⟨some a, len, cap, rfl, by simp, by omega, ⟨hl, by unfold maxLen at hm; omega, fun h => by cases h⟩, fun j hj => ?_⟩, ?_⟩
    · have hj' : j < len := by simpa using hj
      rw [opAt_range len T j hj']
      obtain ⟨b, off, ha, r⟩ := hT j hj'
      exact ⟨b, off, by rw [ha], r⟩
    · simp only [Rows.uptoBulk, List.length_map, List.length_range]; omega

end Go.Proofs.YtffaamljogbmlaaDoor
