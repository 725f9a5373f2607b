/- Package sound as it landed: going through arcs from the last one on; which marks are found to come to the end, plainly. -/
import Derived.Test.YteoofibhpifmlaaDoorMarked
import Derived.Test.YteoofibhpifmlaaDoorLiveMem
import Derived.Test.YteoofibhpifmlaaDoorMat
import Derived.Test.YteoofibhpifmlaaDoorLiveSpr
namespace Go.Proofs.YteoofibhpifmlaaDoor
open Go.RowKit Go.Shelf
set_option linter.unusedVariables false
set_option maxRecDepth 4000

attribute [local go_sem] Oper.semAt_some

/-- An arc with its place. -/
abbrev ArcY (ls : List (Int × Int × Int)) := { y : Int × (Int × Int × Int) // y.2 ∈ ls }
def arcV (a : Int × Int × Int) : Value := .agg #[.int .i64 a.1, .int .i64 a.2.1, .int .i64 a.2.2]
def arcsOf {ls : List (Int × Int × Int)} (l : List (ArcY ls)) : List (Int × Int × Int) := l.map fun y => y.1.2
theorem arcsOf_snoc {ls : List (Int × Int × Int)} (l : List (ArcY ls)) (y : ArcY ls) : arcsOf (l ++ [y]) = arcsOf l ++ [y.1.2] := by simp [arcsOf]
theorem arcsOf_nil {ls : List (Int × Int × Int)} : arcsOf ([] : List (ArcY ls)) = [] := rfl

set_option maxRecDepth 100000 in
set_option maxHeartbeats 2000000 in
theorem backward1_in (n : Nat) (hn : 1 ≤ n) (l : Nat) (w0 : World) (b : Nat) (v : Value) (ls : List (Int × Int × Int)) (hv : Arcs w0 v ls) (J Jx : List (ArcY ls) → World → Prop)
    (hY : ∀ pre (y : ArcY ls) W, J pre W → pre.length < ls.length → YieldAt Fence.wide (n - 1) Tryd.prog l #[.int .i64 y.1.1, arcV y.1.2] W fun e W' =>
      (e = .returned (.bool true) ∧ J (pre ++ [y]) W' ∧ KeepT w0.heap.size b W W') ∨ (e = .returned (.bool false) ∧ Jx (pre ++ [y]) W'))
    (W : World) (hW : Below w0.heap.size w0 W) (hB : W.heap[b]? = some (.cells #[v] 54 (0, 0))) (h0 : J [] W) :
    CallsIn Fence.wide n Tryd.prog 103 #[.func (.yield l) #[] #[], .pointer (some ⟨b, 0, none⟩)] W fun e W' => (∃ v, e = .returned v) ∧
      ((∃ ys : List (ArcY ls), arcsOf ys = ls.reverse ∧ J ys W') ∨ (∃ pre : List (ArcY ls), (∃ r, arcsOf pre ++ r = ls.reverse) ∧ Jx pre W')) := by
  obtain ⟨a, len, cap, rfl, hlen, hmx, hsh, hr⟩ := hv
  obtain ⟨c0, _⟩ := box_cell hB
  refine callsIn_of_wp Tryd.func103 rfl trivial ?_ rfl
  simp only [Tryd.ntmps103, List.size_toArray, List.length_cons, List.length_nil, Nat.reduceAdd, Nat.reduceSub, Array.replicate_succ, Array.replicate_zero, List.push_toArray, List.append_toArray, List.nil_append, List.cons_append]
  gi_wp2
  gi_loopw [3] (fun i wr => ∃ (pre : List (ArcY ls)) (k : Nat), k ≤ len ∧ i = .int .i64 ((k : Int) - 1) ∧ pre.length + k = len ∧ arcsOf pre ++ (ls.take k).reverse = ls.reverse ∧ Below w0.heap.size w0 wr ∧ wr.heap[b]? = some (.cells #[.slice a len cap] 54 (0, 0)) ∧ J pre wr) (fun i _ => (intOf i + 1).toNat)
  case atStart => exact ⟨[], len, Nat.le_refl _, by go_num, by simp, by rw [← hlen, List.take_length]; rfl, hW, hB, h0⟩
  case round =>
    obtain ⟨pre, k, hk, rfl, hpl, hpe, hb, hBr, hJ⟩ := hrel
    obtain ⟨c1, _⟩ := box_cell hBr
    by_cases hk0 : k = 0
    · subst hk0
      have e : arcsOf pre = ls.reverse := by simpa using hpe
      gi_wp2
      go_end0
      exact ⟨⟨_, rfl⟩, .inl ⟨pre, e, hJ⟩⟩
    · obtain ⟨j, rfl⟩ : ∃ j, k = j + 1 := ⟨k - 1, by omega⟩
      have hj : j < ls.length := by omega
      obtain ⟨b1, o1, rfl, hb1, d0, d1, d2⟩ := hr j hj
      have d0 := (hb.cell (p := ⟨b1, o1 + j * 3, none⟩) hb1).trans d0
      have d1 := (hb.cell (p := ⟨b1, o1 + j * 3 + 1, none⟩) hb1).trans d1
      have d2 := (hb.cell (p := ⟨b1, o1 + j * 3 + 2, none⟩) hb1).trans d2
      have ej : (((j + 1 : Nat) : Int) - 1) = (j : Int) := by omega
      rw [ej]
      obtain ⟨x, hx, hmem⟩ : ∃ x, ls[j] = x ∧ x ∈ ls := ⟨_, rfl, List.getElem_mem hj⟩
      have Hnx : Hid (arcsOf (pre ++ [⟨((j : Int), x), hmem⟩]) ++ (ls.take j).reverse = ls.reverse) := by
        show _ = _
        rw [arcsOf_snoc, ← hpe, List.take_succ_eq_append_getElem hj, hx]
        simp
      rw [hx] at d0 d1 d2
      obtain ⟨fn, tmps, assign, body, hy, hR⟩ := hY pre ⟨((j : Int), x), hmem⟩ wr hJ (by omega)
      dsimp only [arcV] at hy
      clear hr hpe hx
      gi_wp2
      refine hR.mono ?_
      rintro e W3 (⟨rfl, hJ3, hk3⟩ | ⟨rfl, hJx3⟩)
      · gi_wp2
        go_roundw
        case rel => exact ⟨_, j, by omega, by go_num, by simp; omega, Hnx.out, hb.trans hk3.1, hk3.2.trans hBr, hJ3⟩
        case measure => simp [intOf]
      · gi_wp2
        refine bodyPost_ret (results_none rfl _ _ _) rfl ?_
        exact ⟨⟨_, rfl⟩, .inr ⟨_, ⟨_, Hnx.out⟩, hJx3⟩⟩

theorem backward_any (v : Value) (w : World) (hv : ∃ a l c, v = .slice a l c) :
    Calls Tryd.prog 88 #[v] w fun e w' =>
      e = .returned (.func (.func 103) #[] #[.pointer (some ⟨w.heap.size, 0, none⟩)]) ∧ w' = w.alloc (.cells #[v] 54) := by
  obtain ⟨a, l, c, rfl⟩ := hv
  go_enter Tryd.func88, Tryd.ntmps88
  go_wp2
  go_ret
  exact ⟨rfl, rfl⟩

theorem backward_stops (n : Nat) (hn : 1 ≤ n) (w0 : World) (b : Nat) (v : Value) (ls : List (Int × Int × Int)) (hv : Arcs w0 v ls) (w : World) (h0 : Below w0.heap.size w0 w) (hB : w.heap[b]? = some (.cells #[v] 54 (0, 0))) :
    SeqStopsK Fence.wide n Tryd.prog 103 #[.pointer (some ⟨b, 0, none⟩)] (fun y : ArcY ls => #[.int .i64 y.1.1, arcV y.1.2]) (KeepT w0.heap.size b)
      (fun ys => arcsOf ys = ls.reverse) (fun pre => ∃ r, arcsOf pre ++ r = ls.reverse) ls.length w := fun l J Jx W hW _ _ hY hJ0 =>
  backward1_in n hn l w0 b v ls hv J Jx hY W (h0.trans (hW.mono h0.size)) ((hW.block b (Array.getElem?_eq_some_iff.1 hB).1).trans hB) hJ0

/-! ### plainly -/
/-- What one pass over some arcs has come to: f at its beginning, g now; b: something was noted. -/
structure PassA (G : Nat → Prop) (n : Nat) (f g : Nat → Bool) (b : Bool) (pre : List (Int × Int × Int)) : Prop where
  grew : ∀ j, f j = true → g j = true
  sound : ∀ j, j < n → g j = true → G j
  none : b = false → g = f ∧ ∀ a ∈ pre, f a.2.2.toNat = true → f a.1.toNat = true
  some : b = true → cntF g n < cntF f n
theorem PassA.start {G : Nat → Prop} {n : Nat} {f : Nat → Bool} (h : ∀ j, j < n → f j = true → G j) : PassA G n f f false [] := ⟨fun _ h => h, h, fun _ => ⟨rfl, by simp⟩, fun h => by cases h⟩
theorem PassA.stay {G : Nat → Prop} {n : Nat} {f g : Nat → Bool} {b : Bool} {pre : List (Int × Int × Int)} (h : PassA G n f g b pre) {a : Int × Int × Int} (ha : g a.2.2.toNat = true → g a.1.toNat = true) : PassA G n f g b (pre ++ [a]) := by
  refine ⟨h.grew, h.sound, fun e => ⟨(h.none e).1, fun c hc => ?_⟩, h.some⟩
  rcases List.mem_append.1 hc with q | q
  · exact (h.none e).2 c q
  · rw [List.mem_singleton.1 q, ← (h.none e).1]; exact ha
theorem PassA.note {G : Nat → Prop} {n : Nat} {f g : Nat → Bool} {b : Bool} {pre : List (Int × Int × Int)} (h : PassA G n f g b pre) {a : Int × Int × Int} {x : Nat} (hx : a.1.toNat = x) (hxn : x < n) (hg : g x = false) (hG : G x) : PassA G n f (updT g x) true (pre ++ [a]) := by
  have hc := cntF_set hg (updT_same g x) (fun j hj => updT_other g hj) n hxn
  refine ⟨fun j hj => updT_grew (h.grew j hj), fun j hj hu => ?_, fun e => (by cases e), fun _ => ?_⟩
  · by_cases e : j = x
    · subst e; exact hG
    · rw [updT_other g e] at hu; exact h.sound j hj hu
  · cases b
    · rw [← (h.none rfl).1]; omega
    · have := h.some rfl; omega
end Go.Proofs.YteoofibhpifmlaaDoor
