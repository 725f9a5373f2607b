/- A loop over a function, whatever iterator it is: what the iterator reads, and what it tells, are one word (IterOk). -/
import Derived.Test.YteoofibhpifmlaaDoorMarked
namespace Go.Proofs.YteoofibhpifmlaaDoor
open Go.RowKit Go.Shelf
set_option linter.unusedVariables false
set_option maxRecDepth 4000

/-- How a round may be left. -/
def roundI {α : Type} (B : Nat) (I : List α → World → Prop) (Ix : Code → List α → World → Prop) (xs : List α) (W : World) : Exit → Act → World → Prop
  | .normal, _, W' => KeepsFrom B W W' ∧ I xs W'
  | .ret, _, W' => KeepsFrom B W W' ∧ Ix .ret xs W'
  | _, _, _ => False

/-- An iterator's word: wherever it finds what it reads (Tm), it hands over elements of C, one after the other. -/
def IterOk {α : Type} (n : Nat) (gf : Nat) (rb lb : Array Value) (enc : α → Array Value) (C : α → Prop) (S Sp : List α → Prop) (Tm : World → Prop) (N : Nat) : Prop :=
  ∀ (l : Nat) (J Jx : List α → World → Prop), (∀ pre W, J pre W → Tm W) → (∀ pre W o, J pre W → J pre (W.alloc o)) →
    (∀ pre x W, J pre W → pre.length < N → C x → YieldAt Fence.wide (n - 1) Tryd.prog l (enc x) W fun e W' => (e = .returned (.bool true) ∧ J (pre ++ [x]) W') ∨ (e = .returned (.bool false) ∧ Jx (pre ++ [x]) W')) →
    ∀ W, J [] W → CallsIn Fence.wide n Tryd.prog gf (rb ++ #[.func (.yield l) #[] #[]] ++ lb) W fun e W' => (∃ v, e = .returned v) ∧ ((∃ ys, S ys ∧ J ys W') ∨ (∃ pre, Sp pre ∧ Jx pre W'))

theorem range_it {α : Type} {n : Nat} (hn : 3 ≤ n) {g : Operand} {ps : Array Tmp} {assign body : Code} {Q : Exit → Act → World → Prop} {a : Act} {w : World}
    {gf : Nat} {rb lb : Array Value} {enc : α → Array Value} {C : α → Prop} {S Sp : List α → Prop} {Tm : World → Prop} {N : Nat}
    (hg : a.eval g = .func (.func gf) rb lb) (eg : ∀ args w, (callFunc gf args).run Tryd.prog w = .ok (.enter gf args) w) (it : IterOk (n - 1) gf rb lb enc C S Sp Tm N) (hps : ∀ x, (enc x).size = ps.size)
    (I : List α → World → Prop) (Ix : Code → List α → World → Prop) (hI : OwnFrom w.heap.size I) (hIx : ∀ c, OwnFrom w.heap.size (Ix c)) (h0 : I [] w) (hT : ∀ pre W, I pre W → Tm W)
    (Ax : α → Act → World → Prop) (hAx : ∀ x a', OwnFrom w.heap.size (fun (_ : Unit) W => Ax x a' W))
    (hassign : ∀ (l : Nat) (pre : List α) (x : α) (W : World) (K : Act → World → Prop), I pre W → C x → (∀ a' W', KeepsFrom w.heap.size W W' → I pre W' → Ax x a' W' → K a' W') →
      assign.wpIn (Fence.wide.inRound l) (n - 1 - 1) Tryd.prog (Exit.then K (fun _ _ _ => False)) { tmps := (ps.zip (enc x)).foldl (fun t (p, v) => t.setIfInBounds p v) a.tmps, defers := [] } W)
    (hbody : ∀ (l : Nat) (pre : List α) (x : α) (a' : Act) (W : World), w.heap.size ≤ l → I pre W → Ax x a' W → C x → body.wpIn (Fence.wide.inRound l) (n - 1 - 1) Tryd.prog (roundI w.heap.size I Ix (pre ++ [x]) W) a' W)
    (hdone : ∀ (D : Nat) (xs : List α) (W : World), w.heap.size ≤ D → S xs → I xs W → W.heap[D]? = some (.deferred (some [])) → Q .normal { a with defers := { target := .collected D, args := #[] } :: a.defers } W)
    (hstop : ∀ (D : Nat) (pre : List α) (W : World), w.heap.size ≤ D → Sp pre → Ix .ret pre W → W.heap[D]? = some (.deferred (some [])) → Q .ret { a with defers := { target := .collected D, args := #[] } :: a.defers } W) :
    (Code.rangeFunc g ps assign body).wpIn Fence.wide n Tryd.prog Q a w := by
  refine wpIn_rangeFunc fun fn hfn => ?_
  -- the loop's record, as it is before, within, and behind a round
  let rec_ (st : LoopState) (pe : Option Code) : Obj := .loop { state := st, pending := pe, fn, tmps := a.tmps, params := ps, assign, body, defers := w.heap.size }
  let D := w.heap.size
  let L := w.heap.size + 1
  obtain ⟨w1, hw1⟩ : ∃ w1, (w.alloc (.deferred (some []))).alloc (rec_ .ready none) = w1 := ⟨_, rfl⟩
  have hlen : w1.heap.size = w.heap.size + 2 := by rw [← hw1]; simp
  have hL : w1.heap[L]? = some (rec_ .ready none) := by
    have := heap_alloc_at (w.alloc (.deferred (some []))) (rec_ .ready none)
    rw [← hw1]; simpa [L] using this
  have hD : w1.heap[D]? = some (.deferred (some [])) := by
    rw [← hw1]; exact ((below_new (w.alloc (.deferred (some []))) _).block D (by simp [D])).trans (heap_alloc_at w _)
  have hI1 : I [] w1 := by rw [← hw1]; exact hI.alloc _ (hI.alloc _ h0)
  refine ⟨L, [{ target := .collected D, args := #[] }], w1, { target := .fn (.func gf) lb, args := rb ++ #[.func (.yield L) #[] #[]] }, w1, gf, rb ++ #[.func (.yield L) #[] #[]] ++ lb, w1, ?_, ?_, ?_, ?_, fun _ => by omega, ?_⟩
  · rw [← hw1]; exact run_enterLoop_outer _ _ _ _ _
  · simp only [resolve, hg]
    simp [Deferred.ofValue, go_sem, L]
  · intro f' hf'; trivial
  · simp [invoke, go_sem, eg]
  · have hne : L ≠ D := by simp [L, D]
    refine (it L (fun pre W => I pre W ∧ W.heap[L]? = some (rec_ .ready none) ∧ W.heap[D]? = some (.deferred (some [])))
      (fun pre W => Ix .ret pre W ∧ W.heap[L]? = some (rec_ .done (some .ret)) ∧ W.heap[D]? = some (.deferred (some []))) (fun pre W h => hT pre W h.1) ?_ ?_ w1 ⟨hI1, hL, hD⟩).mono ?_
    · rintro pre W o ⟨hi, hl, hd⟩
      have b := below_new W o
      exact ⟨hI.alloc _ hi, (b.block L (Array.getElem?_eq_some_iff.1 hl).1).trans hl, (b.block D (Array.getElem?_eq_some_iff.1 hd).1).trans hd⟩
    · rintro pre x W ⟨hi, hl, hd⟩ hlen2 hC
      have hLt : L < W.heap.size := (Array.getElem?_eq_some_iff.1 hl).1
      have hy := run_yield (P := Tryd.prog) (args := enc x) hl (hps x)
      refine ⟨fn, _, assign, body, hy, roundIn_of_wpIn hfn (hassign L pre x W _ hi hC ?_)⟩
      intro a' Wa hka hia hax
      have hla := hka.same _ _ (by simp [L]) hl rfl
      have hda := hka.same _ _ (by simp [D]) hd rfl
      have hLa : L < Wa.heap.size := (Array.getElem?_eq_some_iff.1 hla).1
      refine ⟨_, run_beginRound hla rfl, ?_⟩
      obtain ⟨W2, hW2⟩ : ∃ W2, Wa.putObj L (rec_ .busy none) = W2 := ⟨_, rfl⟩
      have hl2 : W2.heap[L]? = some (rec_ .busy none) := by rw [← hW2]; exact World.putObj_heap_same hLa
      have hd2 : W2.heap[D]? = some (.deferred (some [])) := by rw [← hW2]; exact (World.putObj_heap_other (fun e => hne e.symm)).trans hda
      have hi2 : I pre W2 := by rw [← hW2]; exact hI.putObj _ hia (by simp [L]) hla rfl
      have hax2 : Ax x a' W2 := by rw [← hW2]; exact (hAx x a').putObj (s := ()) _ hax (by simp [L]) hla rfl
      show body.wpIn (Fence.wide.inRound L) (n - 1 - 1) Tryd.prog _ a' (Wa.putObj L (rec_ .busy none))
      rw [hW2]
      refine wpIn_mono (hbody L pre x a' W2 (by simp [L]) hi2 hax2 hC) ?_
      intro e a3 W3 hp
      cases e with
      | normal =>
        obtain ⟨hk3, hi3⟩ := hp
        have hl3 := hk3.same _ _ (by simp [L]) hl2 rfl
        have hd3 := hk3.same _ _ (by simp [D]) hd2 rfl
        exact ⟨_, _, run_endRound none hl3, .inl ⟨rfl, hI.putObj _ hi3 (by simp [L]) hl3 rfl, World.putObj_heap_same (Array.getElem?_eq_some_iff.1 hl3).1, (World.putObj_heap_other (fun e => hne e.symm)).trans hd3⟩⟩
      | ret =>
        obtain ⟨hk3, hi3⟩ := hp
        have hl3 := hk3.same _ _ (by simp [L]) hl2 rfl
        have hd3 := hk3.same _ _ (by simp [D]) hd2 rfl
        exact ⟨_, _, run_endRound (some .ret) hl3, .inr ⟨rfl, (hIx _).putObj _ hi3 (by simp [L]) hl3 rfl, World.putObj_heap_same (Array.getElem?_eq_some_iff.1 hl3).1, (World.putObj_heap_other (fun e => hne e.symm)).trans hd3⟩⟩
      | exit id => exact hp.elim
      | goto t => exact hp.elim
      | panic ch => exact hp.elim
      | outgrown => exact hp.elim
    · rintro e W2 ⟨⟨v, rfl⟩, (⟨xs, hS, hi, hl, hd⟩ | ⟨pre, hS, hi, hl, hd⟩)⟩
      · exact ⟨none, _, run_endLoop hl (by simp), hdone D xs _ (Nat.le_refl _) hS (hI.putObj _ hi (by simp [L]) hl rfl) ((World.putObj_heap_other (fun e => hne e.symm)).trans hd)⟩
      · refine ⟨some .ret, _, run_endLoop hl (by simp), ?_⟩
        have := hstop D pre _ (Nat.le_refl _) hS ((hIx .ret).putObj (rec_ .exhausted (some .ret)) hi (by simp [L]) hl rfl) ((World.putObj_heap_other (fun e => hne e.symm)).trans hd)
        exact wpIn_ret this

end Go.Proofs.YteoofibhpifmlaaDoor
