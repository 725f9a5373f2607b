/- Loops over functions: marks of those that have ended, and what their rounds keep. -/
import Derived.RangeFuncNested
import Derived.RangeFuncBound
import Derived.RangeFuncBox
import Derived.RangeFuncCalls
import Derived.RangeFuncLeaves
import Derived.Shelf.Abstract
import Derived.Shelf.RegionOpen
import Derived.OwnWalkIn
import Derived.TacticsInMore
import Derived.LoopNIn
import Derived.LoopIn
import Derived.Test.YtjfcfnaeinhmcaaDoorOnlyB
import Derived.Test.YtjfcfnaeinhmcaaDoorOwn
namespace Go.Proofs.YtjfcfnaeinhmcaaDoor
open Go.RowKit Go.Shelf
set_option linter.unusedVariables false
set_option maxRecDepth 4000

attribute [local go_sem] Oper.semAt_some

theorem heap_alloc_at (w : World) (o : Obj) : (w.alloc o).heap[w.heap.size]? = some o := by
  show (w.heap.push o)[w.heap.size]? = some o
  simp

theorem cell_new_k (W : World) (v : Value) (t : TypeId) : (W.alloc (.cells #[v] t)).cell? ⟨W.heap.size, 0, none⟩ = some v := by
  rw [World.cell?_alloc_at _ _ _ _ rfl]
  rfl
theorem cell_alloc_k {W : World} {b off : Nat} {v : Value} {o : Obj} (h : W.cell? ⟨b, off, none⟩ = some v) : (W.alloc o).cell? ⟨b, off, none⟩ = some v := by
  have hlt : b < W.heap.size := by
    rcases Nat.lt_or_ge b W.heap.size with h1 | h1
    · exact h1
    · simp [World.cell?, Array.getElem?_eq_none h1] at h
  exact ((below_new W o).cell (p := ⟨b, off, none⟩) hlt).trans h

theorem setCell_blockM {w : World} {g off : Nat} {cur : Array Value} {e : TypeId} (h : w.heap[g]? = some (.cells cur e (0, 0))) (u : Value) : (w.setCell ⟨g, off, none⟩ u).heap[g]? = some (.cells (cur.setIfInBounds off u) e (0, 0)) := by
  have hlt : g < w.heap.size := (Array.getElem?_eq_some_iff.1 h).1
  have h' : w.heap[g] = .cells cur e (0, 0) := (Array.getElem?_eq_some_iff.1 h).2
  show (w.heap.modify g _)[g]? = _
  rw [Array.getElem?_eq_getElem (by simpa using hlt), Array.getElem_modify_self, h']
  rfl

/-- What a round keeps: all that is older than n, and the box B. -/
def KeepT (n B : Nat) (W W' : World) : Prop := Below n W W' ∧ W'.heap[B]? = W.heap[B]?
theorem keepT_t {n B : Nat} {W W' W'' : World} (h : KeepT n B W W') (k : KeepT n B W' W'') : KeepT n B W W'' := ⟨h.1.trans k.1, k.2.trans h.2⟩
theorem keepT_b {n B : Nat} {w : World} (hn : n ≤ w.heap.size) (hB : B < w.heap.size) (W : World) (l : Nat) (o o' : Obj) (hl : w.heap.size ≤ l) (h : W.heap[l]? = some o) (h1 : o.isCells = false) (h2 : o.isWalk = false) : KeepT n B W (W.putObj l o') :=
  ⟨belowK_b hn W l o o' hl h h1 h2, World.putObj_heap_other (by omega)⟩

theorem keepsOthers_drewN (W : World) : ∀ m, KeepsOthers W (W.drewN m)
  | 0 => KeepsOthers.refl W
  | m + 1 => (keepsOthers_drewN W m).trans (KeepsOthers.drew _)

/-- Marks of loops over functions that have ended. -/
def markD (D : Nat) : Deferred := { target := .collected D, args := #[] }
structure Marked (B : Nat) (ds : List Deferred) (Ds : List Nat) (W : World) : Prop where
  eq : ds = Ds.map markD
  nodup : Ds.Nodup
  all : ∀ D ∈ Ds, B ≤ D ∧ W.heap[D]? = some (.deferred (some []))

theorem Marked.to {B : Nat} {ds : List Deferred} {Ds : List Nat} {W W' : World} (h : Marked B ds Ds W) (hk : ∀ (k : Nat) (o : Obj), W.heap[k]? = some o → o.isCells = false → W'.heap[k]? = some o) : Marked B ds Ds W' :=
  ⟨h.eq, h.nodup, fun D hD => ⟨(h.all D hD).1, hk D _ (h.all D hD).2 rfl⟩⟩
theorem Marked.cons {B D : Nat} {ds : List Deferred} {Ds : List Nat} {W : World} (h : Marked B ds Ds W) (hB : B ≤ D) (hD : D ∉ Ds) (hW : W.heap[D]? = some (.deferred (some []))) : Marked B ({ target := .collected D, args := #[] } :: ds) (D :: Ds) W :=
  ⟨by rw [h.eq]; rfl, List.nodup_cons.2 ⟨hD, h.nodup⟩, fun E hE => by
    rcases List.mem_cons.1 hE with rfl | hE
    · exact ⟨hB, hW⟩
    · exact h.all E hE⟩

/-- On the way out these marks are taken up. -/
theorem leaves_marks {n : Nat} {fn : Func} {tmps : Array Value} {R : Ending → World → Prop} {B : Nat} (Pr : World → Prop) (hPr : ∀ W D, B ≤ D → W.heap[D]? = some (.deferred (some [])) → Pr W → Pr (W.putObj D (.deferred none)))
    (hend : ∀ W, Pr W → ∃ v, (results fn tmps).run Tryd.prog W = .ok v W ∧ R (.returned v) W) :
    ∀ {Ds : List Nat} {ds : List Deferred} {W : World}, Marked B ds Ds W → Pr W → LeavesInM Fence.wide n Tryd.prog fn tmps R ds .returning W
  | [], ds, W, h, hW => by
    have e : ds = [] := h.eq
    subst e
    exact hend W hW
  | D :: Ds, ds, W, h, hW => by
    have e : ds = markD D :: Ds.map markD := h.eq
    subst e
    obtain ⟨h1, h2⟩ := h.all D (by simp)
    have hn := List.nodup_cons.1 h.nodup
    refine ⟨by simp, .inl ⟨D, _, rfl, run_takeDeferred h2, ?_⟩⟩
    refine leaves_marks Pr hPr hend (Ds := Ds) ⟨rfl, hn.2, fun E hE => ⟨(h.all E (by simp [hE])).1, ?_⟩⟩ (hPr W D h1 h2 hW)
    have hne : E ≠ D := by intro e; subst e; exact hn.1 hE
    exact (World.putObj_heap_other hne).trans (h.all E (by simp [hE])).2

/-- All but two blocks are as they were. -/
def Only2 (g b : Nat) (w w' : World) : Prop := w.heap.size ≤ w'.heap.size ∧ ∀ k, k < w.heap.size → k ≠ g → k ≠ b → w'.heap[k]? = w.heap[k]?

theorem only2_own {α : Type} {g b B : Nat} {w : World} (hB : w.heap.size ≤ B) : OwnFrom B (fun (_ : List α) W => Only2 g b w W) := by
  intro s W W' row hs hg hr
  refine ⟨Nat.le_trans hs.1 hg.size, fun k hk h1 h2 => ?_⟩
  rw [hg.block k (Nat.lt_of_lt_of_le hk hs.1) (fun e => by have := (hr k e.symm).1; omega)]
  exact hs.2 k hk h1 h2

theorem Only2.trans {g b : Nat} {a c d : World} (h : Only2 g b a c) (k : Only2 g b c d) : Only2 g b a d := ⟨Nat.le_trans h.1 k.1, fun i hi h1 h2 => (k.2 i (Nat.lt_of_lt_of_le hi h.1) h1 h2).trans (h.2 i hi h1 h2)⟩
theorem Only2.ofB {g b : Nat} {a c : World} (h : OnlyB g a c) : Only2 g b a c := ⟨h.size, fun k hk h1 _ => h.block k hk h1⟩
theorem Only2.set (g b : Nat) (w : World) (u : Value) : Only2 g b w (w.setCell ⟨b, 0, none⟩ u) := ⟨by simp [World.setCell], fun k _ _ hne => Below.heap_setCell w ⟨b, 0, none⟩ u k (fun e => hne e)⟩

theorem setBox {w : World} {b : Nat} {v u : Value} {t : TypeId} (h : w.heap[b]? = some (.cells #[v] t (0, 0))) : (w.setCell ⟨b, 0, none⟩ u).heap[b]? = some (.cells #[u] t (0, 0)) := by
  rw [setCell_blockM h]; rfl
theorem box_cell {w : World} {b : Nat} {v : Value} {t : TypeId} (h : w.heap[b]? = some (.cells #[v] t (0, 0))) : w.cell? ⟨b, 0, none⟩ = some v ∧ w.frozen? ⟨b, 0, none⟩ = false := by
  constructor <;> simp [World.cell?, World.frozen?, h]

theorem onlyB_others {g : Nat} {w w' : World} (h : OnlyB g w w') {cur : Array Value} {t : TypeId} {fz : Nat × Nat} (hg : w.heap[g]? = some (.cells cur t fz)) : KeepsOthers w w' := by
  refine ⟨h.size, fun k o hk ho => ?_⟩
  rw [h.block k (Array.getElem?_eq_some_iff.1 hk).1 (fun e => by subst e; rw [hg] at hk; injection hk with hk; subst hk; cases ho)]
  exact hk

theorem noPanicOut {Q : Exit → Act → World → Prop} {e : Exit} {a : Act} {w : World} (h : NoPanic Q e a w) : Q e a w := by
  cases e <;> first | exact h | exact (h : False).elim

end Go.Proofs.YtjfcfnaeinhmcaaDoor
