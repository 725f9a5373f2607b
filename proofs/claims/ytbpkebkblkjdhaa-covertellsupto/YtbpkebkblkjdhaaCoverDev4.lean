/- Package cover as it landed: where a mark outgrew one that it comes of, it has Many. -/
import Derived.RangeFuncBox
import Derived.Test.YtbpkebkblkjdhaaCoverDev2
namespace Go.Proofs.Ytbpkebkblkjdhaa
open Go.RowKit Go.Shelf
set_option linter.unusedVariables false

attribute [local go_sem] Oper.semAt_some

/-- Marks of loops over functions that have ended. -/
def markD (D : Nat) : Deferred := { target := .collected D, args := #[] }
structure Marked (B : Nat) (ds : List Deferred) (Ds : List Nat) (W : World) : Prop where
  eq : ds = Ds.map markD
  nodup : Ds.Nodup
  all : ∀ D ∈ Ds, B ≤ D ∧ W.heap[D]? = some (.deferred (some []))

theorem Marked.to {B : Nat} {ds : List Deferred} {Ds : List Nat} {W W' : World} (h : Marked B ds Ds W) (hk : ∀ (k : Nat) (o : Obj), W.heap[k]? = some o → o.isCells = false → W'.heap[k]? = some o) : Marked B ds Ds W' :=
  ⟨h.eq, h.nodup, fun D hD => ⟨(h.all D hD).1, hk D _ (h.all D hD).2 rfl⟩⟩
theorem Marked.cons {B D : Nat} {ds : List Deferred} {Ds : List Nat} {W : World} (h : Marked B ds Ds W) (hB : B ≤ D) (hD : D ∉ Ds) (hW : W.heap[D]? = some (.deferred (some []))) : Marked B ({ target := .collected D, args := #[] } :: ds) (D :: Ds) W :=
  ⟨by rw [h.eq]; rfl, List.nodup_cons.2 ⟨hD, h.nodup⟩, fun E hE => by
    rcases List.mem_cons.1 hE with rfl | hE
    · exact ⟨hB, hW⟩
    · exact h.all E hE⟩

/-- On the way out these marks are taken up. -/
theorem leaves_marks {n : Nat} {fn : Func} {tmps : Array Value} {R : Ending → World → Prop} {B : Nat} (Pr : World → Prop) (hPr : ∀ W D, B ≤ D → W.heap[D]? = some (.deferred (some [])) → Pr W → Pr (W.putObj D (.deferred none)))
    (hend : ∀ W, Pr W → ∃ v, (results fn tmps).run Try.prog W = .ok v W ∧ R (.returned v) W) :
    ∀ {Ds : List Nat} {ds : List Deferred} {W : World}, Marked B ds Ds W → Pr W → LeavesInM Fence.wide n Try.prog fn tmps R ds .returning W
  | [], ds, W, h, hW => by
    have e : ds = [] := h.eq
    subst e
    exact hend W hW
  | D :: Ds, ds, W, h, hW => by
    have e : ds = markD D :: Ds.map markD := h.eq
    subst e
    obtain ⟨h1, h2⟩ := h.all D (by simp)
    have hn := List.nodup_cons.1 h.nodup
    refine ⟨by simp, .inl ⟨D, _, rfl, run_takeDeferred h2, ?_⟩⟩
    refine leaves_marks Pr hPr hend (Ds := Ds) ⟨rfl, hn.2, fun E hE => ⟨(h.all E (by simp [hE])).1, ?_⟩⟩ (hPr W D h1 h2 hW)
    have hne : E ≠ D := by intro e; subst e; exact hn.1 hE
    exact (World.putObj_heap_other hne).trans (h.all E (by simp [hE])).2

/-- All but two blocks are as they were. -/
def Only2 (g b : Nat) (w w' : World) : Prop := w.heap.size ≤ w'.heap.size ∧ ∀ k, k < w.heap.size → k ≠ g → k ≠ b → w'.heap[k]? = w.heap[k]?

theorem Own.lt {B : Nat} {w wr : World} {g n cap : Nat} {zs : List Int} (h : Own B w wr (.slice (some ⟨g, 0, none⟩) n cap) zs) : B ≤ g ∧ g < wr.heap.size := ownsRow_lt h.1 rfl

theorem Own.row {B : Nat} {w wr : World} {g n cap : Nat} {zs : List Int} (h : Own B w wr (.slice (some ⟨g, 0, none⟩) n cap) zs) : ∃ cur, wr.heap[g]? = some (.cells cur 3 (0, 0)) := by
  rcases h.1.2 with ⟨e, _⟩ | ⟨g', cap', cur, e, _, hh, _⟩
  · cases e
  · injection e with e1
    injection e1 with e1
    injection e1 with e1
    subst e1
    exact ⟨cur, hh⟩

/-- Its row stands as long as its block does. -/
theorem Own.keep {B : Nat} {w wr w' : World} {g n cap : Nat} {zs : List Int} (h : Own B w wr (.slice (some ⟨g, 0, none⟩) n cap) zs) (hb : Below B wr w') (hg : w'.heap[g]? = wr.heap[g]?) : Own B w w' (.slice (some ⟨g, 0, none⟩) n cap) zs := by
  refine ⟨⟨h.1.1, ?_⟩, h.2.1.trans hb, Nat.le_trans h.2.2 hb.size⟩
  rcases h.1.2 with ⟨e, _⟩ | ⟨g', cap', cur, e, z1, hh, z2⟩
  · cases e
  · injection e with e1 e2 e3
    injection e1 with e1
    injection e1 with e1
    subst e1 e3
    exact .inr ⟨g, cap, cur, by rw [← e2], z1, hg.trans hh, z2⟩

theorem Own.grown {B : Nat} {w wr w' : World} {g n cap : Nat} {zs : List Int} {row : Option Nat} (h : Own B w wr (.slice (some ⟨g, 0, none⟩) n cap) zs) (hg : wr.grownBy w' row) (hr : ∀ r, row = some r → B ≤ r ∧ ∃ o : Obj, wr.heap[r]? = some o ∧ o.isCells = false) : Own B w w' (.slice (some ⟨g, 0, none⟩) n cap) zs := by
  refine h.keep ((Below.refl _ _).grown hg h.2.2 fun k e => (hr k e).1) (hg.block g h.lt.2 fun e => ?_)
  obtain ⟨_, o, h1, h2⟩ := hr g e.symm
  obtain ⟨cur, h3⟩ := h.row
  rw [h3] at h1
  injection h1 with h1
  subst h1
  cases h2

theorem only2_own {α : Type} {g b B : Nat} {w : World} (hB : w.heap.size ≤ B) : OwnFrom B (fun (_ : List α) W => Only2 g b w W) := by
  intro s W W' row hs hg hr
  refine ⟨Nat.le_trans hs.1 hg.size, fun k hk h1 h2 => ?_⟩
  rw [hg.block k (Nat.lt_of_lt_of_le hk hs.1) (fun e => by have := (hr k e.symm).1; omega)]
  exact hs.2 k hk h1 h2

theorem Only2.trans {g b : Nat} {a c d : World} (h : Only2 g b a c) (k : Only2 g b c d) : Only2 g b a d := ⟨Nat.le_trans h.1 k.1, fun i hi h1 h2 => (k.2 i (Nat.lt_of_lt_of_le hi h.1) h1 h2).trans (h.2 i hi h1 h2)⟩
theorem Only2.ofB {g b : Nat} {a c : World} (h : OnlyB g a c) : Only2 g b a c := ⟨h.size, fun k hk h1 _ => h.block k hk h1⟩
theorem Only2.set (g b : Nat) (w : World) (u : Value) : Only2 g b w (w.setCell ⟨b, 0, none⟩ u) := ⟨by simp [World.setCell], fun k _ _ hne => Below.heap_setCell w ⟨b, 0, none⟩ u k (fun e => hne e)⟩

theorem setBox {w : World} {b : Nat} {v u : Value} {t : TypeId} (h : w.heap[b]? = some (.cells #[v] t (0, 0))) : (w.setCell ⟨b, 0, none⟩ u).heap[b]? = some (.cells #[u] t (0, 0)) := by
  rw [setCell_blockK h]; rfl
theorem box_cell {w : World} {b : Nat} {v : Value} {t : TypeId} (h : w.heap[b]? = some (.cells #[v] t (0, 0))) : w.cell? ⟨b, 0, none⟩ = some v ∧ w.frozen? ⟨b, 0, none⟩ = false := by
  constructor <;> simp [World.cell?, World.frozen?, h]

theorem onlyB_others {g : Nat} {w w' : World} (h : OnlyB g w w') {cur : Array Value} {t : TypeId} {fz : Nat × Nat} (hg : w.heap[g]? = some (.cells cur t fz)) : KeepsOthers w w' := by
  refine ⟨h.size, fun k o hk ho => ?_⟩
  rw [h.block k (Array.getElem?_eq_some_iff.1 hk).1 (fun e => by subst e; rw [hg] at hk; injection hk with hk; subst hk; cases ho)]
  exact hk

theorem raiseAll_snoc (l : List (List Int)) (y z : List Int) : raiseAll (l ++ [y]) z = raise1 y (raiseAll l z) := by simp [raiseAll]

theorem raise1_below {y z : List Int} (h : belowL y z = true) : raise1 y z = mapTo z.length (raiseAt y z) := by rw [raise1, if_pos h]

/-- If something was raised, fewer have not Many. -/
theorem few_lt {x z : List Int} (h : Raised x z) (hne : z ≠ x) : fewF z < fewF x := by
  obtain ⟨h1, h2⟩ := raised_few h
  rcases Nat.lt_or_ge (fewF z) (fewF x) with h3 | h3
  · exact h3
  · exact absurd (h2 (by omega)) hne

end Go.Proofs.Ytbpkebkblkjdhaa
