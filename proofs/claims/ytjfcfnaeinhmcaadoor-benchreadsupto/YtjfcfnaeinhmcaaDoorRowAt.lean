/- A row of ints that the call itself made, written at any index. -/
import Derived.Test.YtjfcfnaeinhmcaaDoorFoot
namespace Go.Proofs.YtjfcfnaeinhmcaaDoor
open Go.RowKit
set_option linter.unusedVariables false
set_option maxRecDepth 4000

/-- A row of n ints that the call itself made, at block B, that holds f; nothing older has turned. -/
structure RowAt (B : Nat) (w wr : World) (n : Nat) (f : Nat → Int) : Prop where
  cells : ∀ j, j < n → wr.cell? ⟨B, j, none⟩ = some (.int .i64 (f j))
  frozen : ∀ j, j < n → wr.frozen? ⟨B, j, none⟩ = false
  below : Below B w wr
  size : B < wr.heap.size

theorem RowAt.put {B : Nat} {w wr : World} {n k : Nat} {f g : Nat → Int} (h : RowAt B w wr n f) (hk : k < n) {x : Int} (hx : g k = x) (hg : ∀ j, j < n → j ≠ k → g j = f j) :
    RowAt B w (wr.setCell ⟨B, k, none⟩ (.int .i64 x)) n g := by
  refine ⟨fun j hj => ?_, fun j hj => by rw [World.frozen?_setCell]; exact h.frozen j hj, h.below.setCell (Nat.le_refl _) _, by simpa [World.setCell] using h.size⟩
  by_cases e : j = k
  · subst e
    rw [World.cell?_setCell_same _ _ _ (h.cells j hj), hx]
  · rw [World.cell?_setCell_other _ _ _ _ (by intro q; apply e; injection q with _ q2; exact q2.symm), h.cells j hj, hg j hj e]

theorem RowAt.same {B : Nat} {w wr : World} {n : Nat} {f g : Nat → Int} (h : RowAt B w wr n f) (hg : ∀ j, j < n → g j = f j) : RowAt B w wr n g :=
  ⟨fun j hj => by rw [h.cells j hj, hg j hj], h.frozen, h.below, h.size⟩

theorem RowAt.to {B : Nat} {w wr w2 : World} {n : Nat} {f : Nat → Int} (h : RowAt B w wr n f) (hb : Below wr.heap.size wr w2) : RowAt B w w2 n f :=
  ⟨fun j hj => by rw [hb.cell (p := ⟨B, j, none⟩) h.size]; exact h.cells j hj, fun j hj => by rw [hb.frozen (p := ⟨B, j, none⟩) h.size]; exact h.frozen j hj, h.below.trans (hb.mono (Nat.le_of_lt h.size)), Nat.lt_of_lt_of_le h.size hb.size⟩

theorem RowAt.ints {B : Nat} {w wr : World} {n : Nat} {f : Nat → Int} (h : RowAt B w wr n f) {zs : List Int} (hl : zs.length = n) (hz : ∀ j, j < n → nth zs j = f j) (hn : n ≤ 17592186044416) {cap : Nat} (hc : n ≤ cap) (hc2 : cap ≤ 9223372036854775807) :
    Ints wr (.slice (some ⟨B, 0, none⟩) n cap) zs :=
  ⟨_, _, _, rfl, hl, hn, ⟨hc, hc2, fun h => by cases h⟩, fun j hj => ⟨B, 0, rfl, h.size, by rw [Nat.zero_add, h.cells j (by omega), hz j (by omega)]⟩⟩

theorem rowAt_new {w w1 : World} {n : Nat} (hb : Below w.heap.size w w1) (hs : w.heap.size < w1.heap.size) (hc : ∀ j, j < n → w1.cell? ⟨w.heap.size, j, none⟩ = some (.int .i64 0) ∧ w1.frozen? ⟨w.heap.size, j, none⟩ = false)
    {f : Nat → Int} (hf : ∀ j, j < n → f j = 0) : RowAt w.heap.size w w1 n f :=
  ⟨fun j hj => by rw [hf j hj]; exact (hc j hj).1, fun j hj => (hc j hj).2, hb, hs⟩

theorem RowAt.on {B : Nat} {w wr : World} {n : Nat} {f : Nat → Int} (h : RowAt B w wr n f) {zs : List Int} (hl : zs.length = n) (hz : ∀ j, j < n → nth zs j = f j) (hn : n ≤ 17592186044416) {cap : Nat} (hc : n ≤ cap) (hc2 : cap ≤ 9223372036854775807) :
    On (fun k => B ≤ k) wr (fun w' => Ints w' (.slice (some ⟨B, 0, none⟩) n cap) zs) := by
  intro w' hs hk
  exact ⟨_, _, _, rfl, hl, hn, ⟨hc, hc2, fun h => by cases h⟩, fun j hj => ⟨B, 0, rfl, Nat.lt_of_lt_of_le h.size hs, by rw [Nat.zero_add, World.cell?_of_block (a := ⟨B, j, none⟩) (hk B h.size (Nat.le_refl _)), h.cells j (by omega), hz j (by omega)]⟩⟩

/-- A row of as many as a number says. -/
theorem make_intsZ (w : World) (n : Nat) (z : Int) (hz : z = n) (hn : n ≤ 17592186044416) :
    ∃ w1, (Instr.makeSlice 38 (.int .i64 z) (.int .i64 z)).run Tryd.prog w = .ok (.slice (some ⟨w.heap.size, 0, none⟩) n n) w1 ∧ RowAt w.heap.size w w1 n (fun _ => 0) := by
  subst hz
  obtain ⟨w1, h1, h2, h3, h4⟩ := make_ints w n hn
  exact ⟨w1, h1, rowAt_new h2 h3 h4 fun _ _ => rfl⟩

end Go.Proofs.YtjfcfnaeinhmcaaDoor
