import Derived.RangeFuncNested
import Derived.RangeFuncBound
import Derived.RangeFuncBox
import Derived.RangeFuncCalls
import Derived.RangeFuncLeaves
import Derived.Shelf.Abstract
import Derived.Shelf.RegionOpen
import Derived.OwnWalkIn
import Derived.TacticsInMore
import Derived.LoopNIn
import Derived.LoopIn
import Derived.Test.YtakgppoeikcepaaGr00
import Derived.Deep.RegionHeld3
/- Loops over functions: marks of those that have ended, and what their rounds keep. -/
namespace Go.Proofs.Ytakgppoeikcepaa
open Go.RowKit Go.Shelf
set_option linter.unusedVariables false
set_option maxRecDepth 4000

attribute [local go_sem] Oper.semAt_some

theorem heap_alloc_at (w : World) (o : Obj) : (w.alloc o).heap[w.heap.size]? = some o := by
  show (w.heap.push o)[w.heap.size]? = some o
  simp

theorem cell_new_k (W : World) (v : Value) (t : TypeId) : (W.alloc (.cells #[v] t)).cell? ⟨W.heap.size, 0, none⟩ = some v := by
  rw [World.cell?_alloc_at _ _ _ _ rfl]
  rfl
theorem cell_alloc_k {W : World} {b off : Nat} {v : Value} {o : Obj} (h : W.cell? ⟨b, off, none⟩ = some v) : (W.alloc o).cell? ⟨b, off, none⟩ = some v := by
  have hlt : b < W.heap.size := by
    rcases Nat.lt_or_ge b W.heap.size with h1 | h1
    · exact h1
    · simp [World.cell?, Array.getElem?_eq_none h1] at h
  exact ((below_new W o).cell (p := ⟨b, off, none⟩) hlt).trans h

theorem setCell_blockM {w : World} {g off : Nat} {cur : Array Value} {e : TypeId} (h : w.heap[g]? = some (.cells cur e (0, 0))) (u : Value) : (w.setCell ⟨g, off, none⟩ u).heap[g]? = some (.cells (cur.setIfInBounds off u) e (0, 0)) := by
  have hlt : g < w.heap.size := (Array.getElem?_eq_some_iff.1 h).1
  have h' : w.heap[g] = .cells cur e (0, 0) := (Array.getElem?_eq_some_iff.1 h).2
  show (w.heap.modify g _)[g]? = _
  rw [Array.getElem?_eq_getElem (by simpa using hlt), Array.getElem_modify_self, h']
  rfl

/-- What a round keeps: all that is older than n, and the box B. -/
def KeepT (n B : Nat) (W W' : World) : Prop := Below n W W' ∧ W'.heap[B]? = W.heap[B]?
theorem keepT_t {n B : Nat} {W W' W'' : World} (h : KeepT n B W W') (k : KeepT n B W' W'') : KeepT n B W W'' := ⟨h.1.trans k.1, k.2.trans h.2⟩
theorem keepT_b {n B : Nat} {w : World} (hn : n ≤ w.heap.size) (hB : B < w.heap.size) (W : World) (l : Nat) (o o' : Obj) (hl : w.heap.size ≤ l) (h : W.heap[l]? = some o) (h1 : o.isCells = false) (h2 : o.isWalk = false) : KeepT n B W (W.putObj l o') :=
  ⟨belowK_b hn W l o o' hl h h1 h2, World.putObj_heap_other (by omega)⟩

theorem keepsOthers_drewN (W : World) : ∀ m, KeepsOthers W (W.drewN m)
  | 0 => KeepsOthers.refl W
  | m + 1 => (keepsOthers_drewN W m).trans (KeepsOthers.drew _)

/-- Marks of loops over functions that have ended. -/
def markD (D : Nat) : Deferred := { target := .collected D, args := #[] }
structure Marked (B : Nat) (ds : List Deferred) (Ds : List Nat) (W : World) : Prop where
  eq : ds = Ds.map markD
  nodup : Ds.Nodup
  all : ∀ D ∈ Ds, B ≤ D ∧ W.heap[D]? = some (.deferred (some []))

theorem Marked.to {B : Nat} {ds : List Deferred} {Ds : List Nat} {W W' : World} (h : Marked B ds Ds W) (hk : ∀ (k : Nat) (o : Obj), W.heap[k]? = some o → o.isCells = false → W'.heap[k]? = some o) : Marked B ds Ds W' :=
  ⟨h.eq, h.nodup, fun D hD => ⟨(h.all D hD).1, hk D _ (h.all D hD).2 rfl⟩⟩
theorem Marked.cons {B D : Nat} {ds : List Deferred} {Ds : List Nat} {W : World} (h : Marked B ds Ds W) (hB : B ≤ D) (hD : D ∉ Ds) (hW : W.heap[D]? = some (.deferred (some []))) : Marked B ({ target := .collected D, args := #[] } :: ds) (D :: Ds) W :=
  ⟨by rw [h.eq]; rfl, List.nodup_cons.2 ⟨hD, h.nodup⟩, fun E hE => by
    rcases List.mem_cons.1 hE with rfl | hE
    · exact ⟨hB, hW⟩
    · exact h.all E hE⟩

/-- On the way out these marks are taken up. -/
theorem leaves_marks {n : Nat} {fn : Func} {tmps : Array Value} {R : Ending → World → Prop} {B : Nat} (Pr : World → Prop) (hPr : ∀ W D, B ≤ D → W.heap[D]? = some (.deferred (some [])) → Pr W → Pr (W.putObj D (.deferred none)))
    (hend : ∀ W, Pr W → ∃ v, (results fn tmps).run Try.prog W = .ok v W ∧ R (.returned v) W) :
    ∀ {Ds : List Nat} {ds : List Deferred} {W : World}, Marked B ds Ds W → Pr W → LeavesInM Fence.wide n Try.prog fn tmps R ds .returning W
  | [], ds, W, h, hW => by
    have e : ds = [] := h.eq
    subst e
    exact hend W hW
  | D :: Ds, ds, W, h, hW => by
    have e : ds = markD D :: Ds.map markD := h.eq
    subst e
    obtain ⟨h1, h2⟩ := h.all D (by simp)
    have hn := List.nodup_cons.1 h.nodup
    refine ⟨by simp, .inl ⟨D, _, rfl, run_takeDeferred h2, ?_⟩⟩
    refine leaves_marks Pr hPr hend (Ds := Ds) ⟨rfl, hn.2, fun E hE => ⟨(h.all E (by simp [hE])).1, ?_⟩⟩ (hPr W D h1 h2 hW)
    have hne : E ≠ D := by intro e; subst e; exact hn.1 hE
    exact (World.putObj_heap_other hne).trans (h.all E (by simp [hE])).2

/-- All but two blocks are as they were. -/
def Only2 (g b : Nat) (w w' : World) : Prop := w.heap.size ≤ w'.heap.size ∧ ∀ k, k < w.heap.size → k ≠ g → k ≠ b → w'.heap[k]? = w.heap[k]?

theorem only2_own {α : Type} {g b B : Nat} {w : World} (hB : w.heap.size ≤ B) : OwnFrom B (fun (_ : List α) W => Only2 g b w W) := by
  intro s W W' row hs hg hr
  refine ⟨Nat.le_trans hs.1 hg.size, fun k hk h1 h2 => ?_⟩
  rw [hg.block k (Nat.lt_of_lt_of_le hk hs.1) (fun e => by have := (hr k e.symm).1; omega)]
  exact hs.2 k hk h1 h2

theorem Only2.trans {g b : Nat} {a c d : World} (h : Only2 g b a c) (k : Only2 g b c d) : Only2 g b a d := ⟨Nat.le_trans h.1 k.1, fun i hi h1 h2 => (k.2 i (Nat.lt_of_lt_of_le hi h.1) h1 h2).trans (h.2 i hi h1 h2)⟩
theorem Only2.ofB {g b : Nat} {a c : World} (h : OnlyB g a c) : Only2 g b a c := ⟨h.size, fun k hk h1 _ => h.block k hk h1⟩
theorem Only2.set (g b : Nat) (w : World) (u : Value) : Only2 g b w (w.setCell ⟨b, 0, none⟩ u) := ⟨by simp [World.setCell], fun k _ _ hne => Below.heap_setCell w ⟨b, 0, none⟩ u k (fun e => hne e)⟩

theorem setBox {w : World} {b : Nat} {v u : Value} {t : TypeId} (h : w.heap[b]? = some (.cells #[v] t (0, 0))) : (w.setCell ⟨b, 0, none⟩ u).heap[b]? = some (.cells #[u] t (0, 0)) := by
  rw [setCell_blockM h]; rfl
theorem box_cell {w : World} {b : Nat} {v : Value} {t : TypeId} (h : w.heap[b]? = some (.cells #[v] t (0, 0))) : w.cell? ⟨b, 0, none⟩ = some v ∧ w.frozen? ⟨b, 0, none⟩ = false := by
  constructor <;> simp [World.cell?, World.frozen?, h]

theorem onlyB_others {g : Nat} {w w' : World} (h : OnlyB g w w') {cur : Array Value} {t : TypeId} {fz : Nat × Nat} (hg : w.heap[g]? = some (.cells cur t fz)) : KeepsOthers w w' := by
  refine ⟨h.size, fun k o hk ho => ?_⟩
  rw [h.block k (Array.getElem?_eq_some_iff.1 hk).1 (fun e => by subst e; rw [hg] at hk; injection hk with hk; subst hk; cases ho)]
  exact hk

theorem noPanicOut {Q : Exit → Act → World → Prop} {e : Exit} {a : Act} {w : World} (h : NoPanic Q e a w) : Q e a w := by
  cases e <;> first | exact h | exact (h : False).elim

end Go.Proofs.Ytakgppoeikcepaa

/- A loop over a function, whatever iterator it is: what the iterator reads, and what it tells, are one word (IterOk). -/
namespace Go.Proofs.Ytakgppoeikcepaa
open Go.RowKit Go.Shelf
set_option linter.unusedVariables false
set_option maxRecDepth 4000

/-- How a round may be left. -/
def roundI {α : Type} (B : Nat) (I : List α → World → Prop) (Ix : Code → List α → World → Prop) (xs : List α) (W : World) : Exit → Act → World → Prop
  | .normal, _, W' => KeepsFrom B W W' ∧ I xs W'
  | .ret, _, W' => KeepsFrom B W W' ∧ Ix .ret xs W'
  | _, _, _ => False

/-- An iterator's word: wherever it finds what it reads (Tm), it hands over elements of C, one after the other. -/
def IterOk {α : Type} (n : Nat) (gf : Nat) (rb lb : Array Value) (enc : α → Array Value) (C : α → Prop) (S Sp : List α → Prop) (Tm : World → Prop) (N : Nat) : Prop :=
  ∀ (l : Nat) (J Jx : List α → World → Prop), (∀ pre W, J pre W → Tm W) → (∀ pre W o, J pre W → J pre (W.alloc o)) →
    (∀ pre x W, J pre W → pre.length < N → C x → YieldAt Fence.wide (n - 1) Try.prog l (enc x) W fun e W' => (e = .returned (.bool true) ∧ J (pre ++ [x]) W') ∨ (e = .returned (.bool false) ∧ Jx (pre ++ [x]) W')) →
    ∀ W, J [] W → CallsIn Fence.wide n Try.prog gf (rb ++ #[.func (.yield l) #[] #[]] ++ lb) W fun e W' => (∃ v, e = .returned v) ∧ ((∃ ys, S ys ∧ J ys W') ∨ (∃ pre, Sp pre ∧ Jx pre W'))

theorem range_it {α : Type} {n : Nat} (hn : 3 ≤ n) {g : Operand} {ps : Array Tmp} {assign body : Code} {Q : Exit → Act → World → Prop} {a : Act} {w : World}
    {gf : Nat} {rb lb : Array Value} {enc : α → Array Value} {C : α → Prop} {S Sp : List α → Prop} {Tm : World → Prop} {N : Nat}
    (hg : a.eval g = .func (.func gf) rb lb) (eg : ∀ args w, (callFunc gf args).run Try.prog w = .ok (.enter gf args) w) (it : IterOk (n - 1) gf rb lb enc C S Sp Tm N) (hps : ∀ x, (enc x).size = ps.size)
    (I : List α → World → Prop) (Ix : Code → List α → World → Prop) (hI : OwnFrom w.heap.size I) (hIx : ∀ c, OwnFrom w.heap.size (Ix c)) (h0 : I [] w) (hT : ∀ pre W, I pre W → Tm W)
    (Ax : α → Act → World → Prop) (hAx : ∀ x a', OwnFrom w.heap.size (fun (_ : Unit) W => Ax x a' W))
    (hassign : ∀ (l : Nat) (pre : List α) (x : α) (W : World) (K : Act → World → Prop), I pre W → C x → (∀ a' W', KeepsFrom w.heap.size W W' → I pre W' → Ax x a' W' → K a' W') →
      assign.wpIn (Fence.wide.inRound l) (n - 1 - 1) Try.prog (Exit.then K (fun _ _ _ => False)) { tmps := (ps.zip (enc x)).foldl (fun t (p, v) => t.setIfInBounds p v) a.tmps, defers := [] } W)
    (hbody : ∀ (l : Nat) (pre : List α) (x : α) (a' : Act) (W : World), w.heap.size ≤ l → I pre W → Ax x a' W → C x → body.wpIn (Fence.wide.inRound l) (n - 1 - 1) Try.prog (roundI w.heap.size I Ix (pre ++ [x]) W) a' W)
    (hdone : ∀ (D : Nat) (xs : List α) (W : World), w.heap.size ≤ D → S xs → I xs W → W.heap[D]? = some (.deferred (some [])) → Q .normal { a with defers := { target := .collected D, args := #[] } :: a.defers } W)
    (hstop : ∀ (D : Nat) (pre : List α) (W : World), w.heap.size ≤ D → Sp pre → Ix .ret pre W → W.heap[D]? = some (.deferred (some [])) → Q .ret { a with defers := { target := .collected D, args := #[] } :: a.defers } W) :
    (Code.rangeFunc g ps assign body).wpIn Fence.wide n Try.prog Q a w := by
  refine wpIn_rangeFunc fun fn hfn => ?_
  -- the loop's record, as it is before, within, and behind a round
  let rec_ (st : LoopState) (pe : Option Code) : Obj := .loop { state := st, pending := pe, fn, tmps := a.tmps, params := ps, assign, body, defers := w.heap.size }
  let D := w.heap.size
  let L := w.heap.size + 1
  obtain ⟨w1, hw1⟩ : ∃ w1, (w.alloc (.deferred (some []))).alloc (rec_ .ready none) = w1 := ⟨_, rfl⟩
  have hlen : w1.heap.size = w.heap.size + 2 := by rw [← hw1]; simp
  have hL : w1.heap[L]? = some (rec_ .ready none) := by
    have := heap_alloc_at (w.alloc (.deferred (some []))) (rec_ .ready none)
    rw [← hw1]; simpa [L] using this
  have hD : w1.heap[D]? = some (.deferred (some [])) := by
    rw [← hw1]; exact ((below_new (w.alloc (.deferred (some []))) _).block D (by simp [D])).trans (heap_alloc_at w _)
  have hI1 : I [] w1 := by rw [← hw1]; exact hI.alloc _ (hI.alloc _ h0)
  refine ⟨L, [{ target := .collected D, args := #[] }], w1, { target := .fn (.func gf) lb, args := rb ++ #[.func (.yield L) #[] #[]] }, w1, gf, rb ++ #[.func (.yield L) #[] #[]] ++ lb, w1, ?_, ?_, ?_, ?_, fun _ => by omega, ?_⟩
  · rw [← hw1]; exact run_enterLoop_outer _ _ _ _ _
  · simp only [resolve, hg]
    simp [Deferred.ofValue, go_sem, L]
  · intro f' hf'; trivial
  · simp [invoke, go_sem, eg]
  · have hne : L ≠ D := by simp [L, D]
    refine (it L (fun pre W => I pre W ∧ W.heap[L]? = some (rec_ .ready none) ∧ W.heap[D]? = some (.deferred (some [])))
      (fun pre W => Ix .ret pre W ∧ W.heap[L]? = some (rec_ .done (some .ret)) ∧ W.heap[D]? = some (.deferred (some []))) (fun pre W h => hT pre W h.1) ?_ ?_ w1 ⟨hI1, hL, hD⟩).mono ?_
    · rintro pre W o ⟨hi, hl, hd⟩
      have b := below_new W o
      exact ⟨hI.alloc _ hi, (b.block L (Array.getElem?_eq_some_iff.1 hl).1).trans hl, (b.block D (Array.getElem?_eq_some_iff.1 hd).1).trans hd⟩
    · rintro pre x W ⟨hi, hl, hd⟩ hlen2 hC
      have hLt : L < W.heap.size := (Array.getElem?_eq_some_iff.1 hl).1
      have hy := run_yield (P := Try.prog) (args := enc x) hl (hps x)
      refine ⟨fn, _, assign, body, hy, roundIn_of_wpIn hfn (hassign L pre x W _ hi hC ?_)⟩
      intro a' Wa hka hia hax
      have hla := hka.same _ _ (by simp [L]) hl rfl
      have hda := hka.same _ _ (by simp [D]) hd rfl
      have hLa : L < Wa.heap.size := (Array.getElem?_eq_some_iff.1 hla).1
      refine ⟨_, run_beginRound hla rfl, ?_⟩
      obtain ⟨W2, hW2⟩ : ∃ W2, Wa.putObj L (rec_ .busy none) = W2 := ⟨_, rfl⟩
      have hl2 : W2.heap[L]? = some (rec_ .busy none) := by rw [← hW2]; exact World.putObj_heap_same hLa
      have hd2 : W2.heap[D]? = some (.deferred (some [])) := by rw [← hW2]; exact (World.putObj_heap_other (fun e => hne e.symm)).trans hda
      have hi2 : I pre W2 := by rw [← hW2]; exact hI.putObj _ hia (by simp [L]) hla rfl
      have hax2 : Ax x a' W2 := by rw [← hW2]; exact (hAx x a').putObj (s := ()) _ hax (by simp [L]) hla rfl
      show body.wpIn (Fence.wide.inRound L) (n - 1 - 1) Try.prog _ a' (Wa.putObj L (rec_ .busy none))
      rw [hW2]
      refine wpIn_mono (hbody L pre x a' W2 (by simp [L]) hi2 hax2 hC) ?_
      intro e a3 W3 hp
      cases e with
      | normal =>
        obtain ⟨hk3, hi3⟩ := hp
        have hl3 := hk3.same _ _ (by simp [L]) hl2 rfl
        have hd3 := hk3.same _ _ (by simp [D]) hd2 rfl
        exact ⟨_, _, run_endRound none hl3, .inl ⟨rfl, hI.putObj _ hi3 (by simp [L]) hl3 rfl, World.putObj_heap_same (Array.getElem?_eq_some_iff.1 hl3).1, (World.putObj_heap_other (fun e => hne e.symm)).trans hd3⟩⟩
      | ret =>
        obtain ⟨hk3, hi3⟩ := hp
        have hl3 := hk3.same _ _ (by simp [L]) hl2 rfl
        have hd3 := hk3.same _ _ (by simp [D]) hd2 rfl
        exact ⟨_, _, run_endRound (some .ret) hl3, .inr ⟨rfl, (hIx _).putObj _ hi3 (by simp [L]) hl3 rfl, World.putObj_heap_same (Array.getElem?_eq_some_iff.1 hl3).1, (World.putObj_heap_other (fun e => hne e.symm)).trans hd3⟩⟩
      | exit id => exact hp.elim
      | goto t => exact hp.elim
      | panic ch => exact hp.elim
      | outgrown => exact hp.elim
    · rintro e W2 ⟨⟨v, rfl⟩, (⟨xs, hS, hi, hl, hd⟩ | ⟨pre, hS, hi, hl, hd⟩)⟩
      · exact ⟨none, _, run_endLoop hl (by simp), hdone D xs _ (Nat.le_refl _) hS (hI.putObj _ hi (by simp [L]) hl rfl) ((World.putObj_heap_other (fun e => hne e.symm)).trans hd)⟩
      · refine ⟨some .ret, _, run_endLoop hl (by simp), ?_⟩
        have := hstop D pre _ (Nat.le_refl _) hS ((hIx .ret).putObj (rec_ .exhausted (some .ret)) hi (by simp [L]) hl rfl) ((World.putObj_heap_other (fun e => hne e.symm)).trans hd)
        exact wpIn_ret this

end Go.Proofs.Ytakgppoeikcepaa

/- A region that draws its order, within a round of a loop over a function: whatever holds of it outside of rounds holds there, if it defers nothing. -/
namespace Go.Proofs.Ytakgppoeikcepaa
open Go.RowKit Go.Shelf
set_option linter.unusedVariables false
set_option maxRecDepth 4000

theorem rows_round {P : Program} {l n : Nat} {row : String} {args : Array Value} {w : World} {R : Value → World → Prop} (h : Rows P row args w R) : RowsIn (Fence.wide.inRound l) n P row args w R := by
  intro c cs _
  obtain ⟨v, w', r, s⟩ := h c cs
  exact ⟨v, w', r, stepsIn_wide.2 s⟩

theorem upon_round {P : Program} {l n : Nat} {o : Oper} {a : Act} {K : Act → World → Prop} {Q : Exit → Act → World → Prop} {r : Result Next} (h : o.upon P a K Q r) : o.uponIn (Fence.wide.inRound l) n P a K Q r := by
  cases r with
  | ok x w' =>
    cases x <;> simp only [Oper.upon, Oper.uponIn] at h ⊢ <;>
      first
        | exact h
        | exact ⟨fun e => (by cases e), CallsIn.inRound l (callsIn_wide.2 h)⟩
        | exact ⟨fun e => (by cases e), rows_round h⟩
        | exact h.elim
  | halt x w' => cases x <;> simp only [Oper.upon, Oper.uponIn] at h ⊢ <;> first | exact h | exact h.elim

/-- Operations that defer nothing. -/
def noDefer (ops : Array Oper) : Bool := ops.all fun o => match o.op with | .defer _ => false | _ => true
theorem noDefer_at {ops : Array Oper} (h : noDefer ops = true) {i : Nat} {o : Oper} (ho : ops[i]? = some o) : ∀ c, o.op ≠ .defer c := by
  intro c e
  have := Array.all_eq_true'.1 h o (Array.mem_of_getElem? ho)
  rw [e] at this
  cases this

theorem ops_round {P : Program} {l n : Nat} {ops : Array Oper} {Q : Exit → Act → World → Prop} (hd : noDefer ops = true) (hL : ∀ a w, ¬ Q .outgrown a w) :
    ∀ (is : List Nat) (a : Act) (w : World), wpOps P ops Q is a w → wpOpsIn (Fence.wide.inRound l) n P ops Q is a w := by
  intro is
  induction is with
  | nil => intro a w h; exact h
  | cons i rest ih =>
    intro a w h
    simp only [wpOps] at h
    simp only [wpOpsIn]
    cases ho : ops[i]? with
    | none => simp only [ho] at h ⊢; exact ih a w h
    | some o =>
      simp only [ho] at h ⊢
      split
      · rename_i hw
        simp only [hw, if_true] at h
        rcases h with h | ⟨_, a', w', h⟩
        · refine ⟨fun _ _ => trivial, ?_⟩
          have e : Oper.semAt (Fence.wide.inRound l).round a.eval o = execOp a.eval o := Oper.semAt_eq _ _ _ (noDefer_at hd ho)
          rw [e]
          unfold Oper.wp at h
          have h2 := upon_round (l := l) (n := n) h
          generalize (execOp a.eval o).run P w = r at h2
          cases r with
          | ok x w' =>
            cases x <;> simp only [Oper.uponIn] at h2 ⊢ <;>
              first
                | exact ih _ _ h2
                | exact ⟨h2.1, CallsIn.mono h2.2 (fun e w'' he => by cases e <;> first | exact ih _ _ he | exact he)⟩
                | exact ⟨h2.1, RowsIn.mono h2.2 (fun _ _ he => ih _ _ he)⟩
                | exact ⟨h2.1, RoundIn.mono h2.2 (fun e w'' he => by cases e <;> first | exact ih _ _ he | exact he)⟩
          | halt x w' => cases x <;> simp only [Oper.uponIn] at h2 ⊢ <;> exact h2
        · exact absurd h (hL a' w')
      · rename_i hw
        simp only [hw] at h
        exact ⟨fun _ _ => trivial, ih _ _ (by simpa using h)⟩

theorem region_round {P : Program} {l n id : Nat} {ops : Array Oper} {Q : Exit → Act → World → Prop} {a : Act} {w : World} {S : World → Prop} (hm : P.follows .mixedOrders = true) (hd : noDefer ops = true) (hL : ∀ a w, ¬ Q .outgrown a w) (hS : S w.drew)
    (h : S w.drew → wpAnyH P .any ops Q S ops.size (Array.replicate ops.size false) a w.drew) : (Code.region id ops true).wpIn (Fence.wide.inRound l) n P Q a w :=
  wpIn_region_draw fun t => by
    simp only [Region.schedule, hm, Bool.true_or, if_true]
    exact ops_round hd hL _ _ _ (wpAny_sound ops.size t _ a _ (wpAny_of_held _ _ _ _ (h hS)))

end Go.Proofs.Ytakgppoeikcepaa
