/- A loop over the marks of a set: 'for m := range s.each', where 'each' is a method that has its receiver with it. -/
import Derived.Test.YteoofibhpifmlaaDoorTongEach
namespace Go.Proofs.YteoofibhpifmlaaDoor
open Go.RowKit Go.Shelf
set_option linter.unusedVariables false
set_option maxRecDepth 4000

/-- How a round may be left. -/
def roundK (B : Nat) (I : List Nat → World → Prop) (Ix : Code → List Nat → World → Prop) (xs : List Nat) (W : World) : Exit → Act → World → Prop
  | .normal, _, W' => KeepsFrom B W W' ∧ I xs W'
  | .ret, _, W' => KeepsFrom B W W' ∧ Ix .ret xs W'
  | _, _, _ => False

theorem range_each {n : Nat} (hn : 3 ≤ n) {g : Operand} {p : Tmp} {assign body : Code} {Q : Exit → Act → World → Prop} {a : Act} {w : World} {s : SetL}
    (hg : a.eval g = .func (.func 35) #[setV s] #[])
    (I : List Nat → World → Prop) (Ix : Code → List Nat → World → Prop) (hI : OwnFrom w.heap.size I) (hIx : ∀ c, OwnFrom w.heap.size (Ix c)) (h0 : I [] w) (hT : ∀ pre W, I pre W → Tab W)
    (A : Nat → Act)
    (hassign : ∀ (l m : Nat) (W : World) (K : Act → World → Prop), K (A m) W → assign.wpIn (Fence.wide.inRound l) (n - 1 - 1) Tryd.prog (Exit.then K (fun _ _ _ => False)) { tmps := a.tmps.setIfInBounds p (.int .i64 (m : Int)), defers := [] } W)
    (hbody : ∀ (l : Nat) (pre : List Nat) (m : Nat) (W : World), w.heap.size ≤ l → I pre W → m < 320 → s.has m = true → body.wpIn (Fence.wide.inRound l) (n - 1 - 1) Tryd.prog (roundK w.heap.size I Ix (pre ++ [m]) W) (A m) W)
    (hdone : ∀ (D : Nat) (xs : List Nat) (W : World), w.heap.size ≤ D → (∀ m, m ∈ xs ↔ m < 320 ∧ s.has m = true) → I xs W → W.heap[D]? = some (.deferred (some [])) → Q .normal { a with defers := { target := .collected D, args := #[] } :: a.defers } W)
    (hstop : ∀ (D : Nat) (pre : List Nat) (W : World), w.heap.size ≤ D → (∀ m ∈ pre, m < 320 ∧ s.has m = true) → Ix .ret pre W → W.heap[D]? = some (.deferred (some [])) → Q .ret { a with defers := { target := .collected D, args := #[] } :: a.defers } W) :
    (Code.rangeFunc g #[p] assign body).wpIn Fence.wide n Tryd.prog Q a w := by
  refine wpIn_rangeFunc fun fn hfn => ?_
  -- the loop's record, as it is before, within, and behind a round
  let rec_ (st : LoopState) (pe : Option Code) : Obj := .loop { state := st, pending := pe, fn, tmps := a.tmps, params := #[p], assign, body, defers := w.heap.size }
  let D := w.heap.size
  let L := w.heap.size + 1
  obtain ⟨w1, hw1⟩ : ∃ w1, (w.alloc (.deferred (some []))).alloc (rec_ .ready none) = w1 := ⟨_, rfl⟩
  have hlen : w1.heap.size = w.heap.size + 2 := by rw [← hw1]; simp
  have hL : w1.heap[L]? = some (rec_ .ready none) := by
    have := heap_alloc_at (w.alloc (.deferred (some []))) (rec_ .ready none)
    rw [← hw1]; simpa [L] using this
  have hD : w1.heap[D]? = some (.deferred (some [])) := by
    rw [← hw1]; exact ((below_new (w.alloc (.deferred (some []))) _).block D (by simp [D])).trans (heap_alloc_at w _)
  have hI1 : I [] w1 := by rw [← hw1]; exact hI.alloc _ (hI.alloc _ h0)
  refine ⟨L, [{ target := .collected D, args := #[] }], w1, { target := .fn (.func 35) #[], args := #[setV s, .func (.yield L) #[] #[]] }, w1, 35, #[setV s, .func (.yield L) #[] #[]], w1, ?_, ?_, ?_, ?_, fun _ => by omega, ?_⟩
  · rw [← hw1]; exact run_enterLoop_outer _ _ _ _ _
  · simp only [resolve, hg]
    simp [Deferred.ofValue, go_sem, L]
  · intro f' hf'; trivial
  · simp [invoke, go_sem]
  · have hne : L ≠ D := by simp [L, D]
    refine (each_in (n - 1) (by omega) L s (fun pre W => I pre W ∧ W.heap[L]? = some (rec_ .ready none) ∧ W.heap[D]? = some (.deferred (some [])))
      (fun pre W => Ix .ret pre W ∧ W.heap[L]? = some (rec_ .done (some .ret)) ∧ W.heap[D]? = some (.deferred (some []))) (fun pre W h => hT pre W h.1) ?_ w1 ?_).mono ?_
    · rintro pre m W ⟨hi, hl, hd⟩ hlen2 hm hs
      have hLt : L < W.heap.size := (Array.getElem?_eq_some_iff.1 hl).1
      have hy := run_yield (P := Tryd.prog) (args := #[.int .i64 (m : Int)]) hl rfl
      simp only [List.zip_toArray, List.zip_cons_cons, List.zip_nil_right, List.foldl_toArray, List.foldl_cons, List.foldl_nil] at hy
      refine ⟨fn, a.tmps.setIfInBounds p (.int .i64 (m : Int)), assign, body, by simpa using hy, roundIn_of_wpIn hfn (hassign L m W _ ?_)⟩
      refine ⟨_, run_beginRound hl rfl, ?_⟩
      obtain ⟨W2, hW2⟩ : ∃ W2, W.putObj L (rec_ .busy none) = W2 := ⟨_, rfl⟩
      have hl2 : W2.heap[L]? = some (rec_ .busy none) := by rw [← hW2]; exact World.putObj_heap_same hLt
      have hd2 : W2.heap[D]? = some (.deferred (some [])) := by rw [← hW2]; exact (World.putObj_heap_other (fun e => hne e.symm)).trans hd
      have hi2 : I pre W2 := by rw [← hW2]; exact hI.putObj _ hi (by simp [L]) hl rfl
      show body.wpIn (Fence.wide.inRound L) (n - 1 - 1) Tryd.prog _ (A m) (W.putObj L (rec_ .busy none))
      rw [hW2]
      refine wpIn_mono (hbody L pre m W2 (by simp [L]) hi2 hm hs) ?_
      intro e a3 W3 hp
      cases e with
      | normal =>
        obtain ⟨hk3, hi3⟩ := hp
        have hl3 := hk3.same _ _ (by simp [L]) hl2 rfl
        have hd3 := hk3.same _ _ (by simp [D]) hd2 rfl
        exact ⟨_, _, run_endRound none hl3, .inl ⟨rfl, hI.putObj _ hi3 (by simp [L]) hl3 rfl, World.putObj_heap_same (Array.getElem?_eq_some_iff.1 hl3).1, (World.putObj_heap_other (fun e => hne e.symm)).trans hd3⟩⟩
      | ret =>
        obtain ⟨hk3, hi3⟩ := hp
        have hl3 := hk3.same _ _ (by simp [L]) hl2 rfl
        have hd3 := hk3.same _ _ (by simp [D]) hd2 rfl
        exact ⟨_, _, run_endRound (some .ret) hl3, .inr ⟨rfl, (hIx _).putObj _ hi3 (by simp [L]) hl3 rfl, World.putObj_heap_same (Array.getElem?_eq_some_iff.1 hl3).1, (World.putObj_heap_other (fun e => hne e.symm)).trans hd3⟩⟩
      | exit id => exact hp.elim
      | goto t => exact hp.elim
      | panic ch => exact hp.elim
      | outgrown => exact hp.elim
    · have b := below_new w1 (.cells (setC s) 48)
      exact ⟨hI.alloc _ hI1, (b.block L (by rw [hlen]; simp [L])).trans hL, (b.block D (by rw [hlen]; simp [D])).trans hD⟩
    · rintro e W2 ⟨⟨v, rfl⟩, (⟨xs, hS, hi, hl, hd⟩ | ⟨pre, hS, hi, hl, hd⟩)⟩
      · exact ⟨none, _, run_endLoop hl (by simp), hdone D xs _ (Nat.le_refl _) hS (hI.putObj _ hi (by simp [L]) hl rfl) ((World.putObj_heap_other (fun e => hne e.symm)).trans hd)⟩
      · refine ⟨some .ret, _, run_endLoop hl (by simp), ?_⟩
        have := hstop D pre _ (Nat.le_refl _) hS ((hIx .ret).putObj (rec_ .exhausted (some .ret)) hi (by simp [L]) hl rfl) ((World.putObj_heap_other (fun e => hne e.symm)).trans hd)
        exact wpIn_ret this

end Go.Proofs.YteoofibhpifmlaaDoor
