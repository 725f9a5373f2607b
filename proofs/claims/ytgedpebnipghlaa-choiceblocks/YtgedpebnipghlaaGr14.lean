import Derived.Test.YtgedpebnipghlaaGr08
import Derived.Test.YtgedpebnipghlaaGr00
import Derived.Maps.OwnSet
import Derived.DeepKeys4
import Derived.Laws.EntriesVeiled
import Derived.Test.YtgedpebnipghlaaGr01
import Derived.Test.YtgedpebnipghlaaGr04
/- Package shape as it landed: what is met on ways from a stop. -/
namespace Go.Proofs.Ytgedpebnipghlaa
open Go.RowKit Go.Maps Go.WideMaps
set_option linter.unusedVariables false
set_option maxRecDepth 4000

/-- A stop as a value, and as a key. -/
abbrev stopV (s : Stop) : Value := .agg #[.bool s.1, .int .i64 (s.2 : Int)]
def stopLit (s : Stop) : Lit := .string (keyBytes [.bool s.1, .int .i64 (s.2 : Int)])

/-- What the map of those that have been met says. -/
structure SaysS (vs : List Stop) (D : DataW Unit) : Prop where
  has : ∀ s : Stop, s.2 < 1000 → Maps.has D (stopLit s) = decide (s ∈ vs)
  size : Maps.size D = vs.length

theorem saysS_nil : SaysS [] (.map []) := ⟨fun s _ => by simp [Maps.has], rfl⟩

section
variable {bb bn bc mb : Nat} {n : NetL} {tv : Value} {w : World} {vs : List Stop}

theorem OnlyB.of_below (g : Nat) {w w' : World} (hg : g ≤ w.heap.size) (h : Below w.heap.size w w') : OnlyB g w w' := ⟨h.mono hg, h.size, fun k hk _ => h.block k hk⟩
theorem OnlyB.box1 {g : Nat} {w w' : World} (h : OnlyB g w w') {b : Nat} {x : Value} (hb : b ≠ g) (hx : Box1 w b x) : Box1 w' b x := ⟨Nat.lt_of_lt_of_le hx.1 h.size, h.cell hb hx.2⟩
theorem OnlyB.box2 {g : Nat} {w w' : World} (h : OnlyB g w w') {b : Nat} {x y : Value} (hb : b ≠ g) (hx : Box2 w b x y) : Box2 w' b x y := ⟨Nat.lt_of_lt_of_le hx.1 h.size, h.cell hb hx.2.1, h.cell hb hx.2.2⟩
theorem OnlyB.on {g : Nat} {w w' : World} {R : World → Prop} (h : OnlyB g w w') (hR : On (fun k => k ≠ g) w R) : On (fun k => k ≠ g) w' R := hR.to h.size fun k hk hD => h.block k hk hD

end

theorem fit_small {n : NetL} (hn : netOk n = true) {s : Stop} (hs : FitS n s) : s.2 < 1000 := by
  obtain ⟨h0, h1, h2⟩ := head_of hn
  obtain ⟨b, k⟩ := s
  cases b with
  | true => have : k < n.trans.length := hs; show k < 1000; omega
  | false => have : (k : Int) < n.places := hs; show k < 1000; omega

theorem count_small {n : NetL} (hn : netOk n = true) {vs : List Stop} (hd : vs.Nodup) (hf : ∀ x ∈ vs, FitS n x) : vs.length ≤ (allS n).length ∧ (allS n).length ≤ 40 := by
  obtain ⟨h0, h1, h2⟩ := head_of hn
  have := allS_length h0
  exact ⟨nodup_le hd fun x hx => mem_allS.2 (hf x hx), by omega⟩

/-! What was there stays, as long as its blocks do. -/
theorem Ints.stays {w w' : World} {v : Value} {xs : List Int} (h : Ints w v xs) (hs : w.heap.size ≤ w'.heap.size) (hk : ∀ k, k < w.heap.size → w'.heap[k]? = w.heap[k]?) : Ints w' v xs := by
  obtain ⟨a, len, cap, e, hl, hm, hsh, hr⟩ := h
  refine ⟨a, len, cap, e, hl, hm, hsh, fun j hj => ?_⟩
  obtain ⟨b, off, ha, hlt, hc⟩ := hr j hj
  exact ⟨b, off, ha, Nat.lt_of_lt_of_le hlt hs, (World.cell?_of_block (a := ⟨b, off + j, none⟩) (hk b hlt)).trans hc⟩

theorem Net.stays {w w' : World} {v : Value} {n : NetL} (h : Net w v n) (hs : w.heap.size ≤ w'.heap.size) (hk : ∀ k, k < w.heap.size → w'.heap[k]? = w.heap[k]?) : Net w' v n := by
  obtain ⟨tv, e, a, len, cap, e2, hl, hm, hsh, hr⟩ := h
  refine ⟨tv, e, a, len, cap, e2, hl, hm, hsh, fun j hj => ?_⟩
  obtain ⟨b, off, c1, c2, ha, hlt, h0, h1, h2, h3, h4⟩ := hr j hj
  have q : ∀ i, w'.cell? ⟨b, i, none⟩ = w.cell? ⟨b, i, none⟩ := fun i => World.cell?_of_block (a := ⟨b, i, none⟩) (hk b hlt)
  exact ⟨b, off, c1, c2, ha, Nat.lt_of_lt_of_le hlt hs, (q _).trans h0, (q _).trans h1, (q _).trans h2, h3.stays hs hk, h4.stays hs hk⟩

end Go.Proofs.Ytgedpebnipghlaa

/- Package shape as it landed: the mark at the beginning; what comes ahead and behind; all on ways. -/
namespace Go.Proofs.Ytgedpebnipghlaa
open Go.RowKit
set_option linter.unusedVariables false
set_option maxRecDepth 4000

/-- A place of a net. -/
def isPlace (P p : Int) : Bool := decide (0 ≤ p) && decide (p < P)

/-- Something comes ahead of the beginning, or behind the end. -/
def endsBad (i o : Nat) (t : TranL) : Bool := decide (0 < nth t.post i) || decide (0 < nth t.pre o)

/-- Whether there are two ends. -/
def endsL (n : NetL) (i o : Int) : Bool := isPlace n.places i && (isPlace n.places o && (!decide (i = o) && !n.trans.any (endsBad i.toNat o.toNat)))

/-- All are on ways from one end to the other. -/
def Between (n : NetL) (i o : Nat) : Prop := (∀ x, FitS n x → OnWay n (false, i) x) ∧ ∀ x, FitS (turnL n) x → OnWay (turnL n) (false, o) x

end Go.Proofs.Ytgedpebnipghlaa
