/- All blocks but one stand. -/
import Derived.Test.YtjfcfnaeinhmcaaDoorBase
namespace Go.Proofs.YtjfcfnaeinhmcaaDoor
open Go.RowKit
set_option linter.unusedVariables false
set_option maxRecDepth 4000

theorem cell_lt0 {w : World} {b off : Nat} {v : Value} (h : w.cell? ⟨b, off, none⟩ = some v) : b < w.heap.size := by
  rcases Nat.lt_or_ge b w.heap.size with h1 | h1
  · exact h1
  · simp [World.cell?, Array.getElem?_eq_none h1] at h

/-- All but one block are as they were. -/
structure OnlyB (g : Nat) (w w' : World) : Prop where
  below : Below g w w'
  size : w.heap.size ≤ w'.heap.size
  block : ∀ k, k < w.heap.size → k ≠ g → w'.heap[k]? = w.heap[k]?

theorem OnlyB.refl (g : Nat) (w : World) : OnlyB g w w := ⟨Below.refl _ _, Nat.le_refl _, fun _ _ _ => rfl⟩
theorem OnlyB.trans {g : Nat} {a b c : World} (h : OnlyB g a b) (k : OnlyB g b c) : OnlyB g a c := ⟨h.below.trans k.below, Nat.le_trans h.size k.size, fun i hi hne => (k.block i (Nat.lt_of_lt_of_le hi h.size) hne).trans (h.block i hi hne)⟩
theorem OnlyB.set (g off : Nat) (w : World) (u : Value) : OnlyB g w (w.setCell ⟨g, off, none⟩ u) := ⟨(Below.refl _ _).setCell (p := ⟨g, off, none⟩) (Nat.le_refl _) u, by simp [World.setCell], fun k _ hne => Below.heap_setCell w ⟨g, off, none⟩ u k (fun e => hne e)⟩
theorem OnlyB.drewN (g : Nat) (w : World) (m : Nat) : OnlyB g w (w.drewN m) := by
  have h := below_drewN (Below.refl w.heap.size w) m
  exact ⟨below_drewN (Below.refl _ _) m, h.size, fun k hk _ => h.block k hk⟩
theorem OnlyB.cell {g : Nat} {w w' : World} (h : OnlyB g w w') {b off : Nat} {v : Value} (hb : b ≠ g) (hc : w.cell? ⟨b, off, none⟩ = some v) : w'.cell? ⟨b, off, none⟩ = some v := by
  have hlt : b < w.heap.size := cell_lt0 hc
  exact (World.cell?_of_block (a := ⟨b, off, none⟩) (h.block b hlt hb)).trans hc

end Go.Proofs.YtjfcfnaeinhmcaaDoor
