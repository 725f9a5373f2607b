import Derived.Test.YtakgppoeikcepaaGr05
import Derived.Test.YtakgppoeikcepaaGr01
import Derived.Test.YtakgppoeikcepaaGr00
import Derived.Test.YtakgppoeikcepaaGr02
/- Package live as it landed: all marks behind a mark, plainly and in memory. -/
namespace Go.Proofs.Ytakgppoeikcepaa
open Go.RowKit
set_option linter.unusedVariables false
set_option maxRecDepth 4000

/-! ### plainly -/
def Goes (nx : List (List Int)) (k j : Nat) : Prop := ∀ P : Nat → Prop, P k → (∀ a b : Nat, P a → (b : Int) ∈ markAt nx a → P b) → P j
theorem Goes.here {nx : List (List Int)} (k : Nat) : Goes nx k k := fun _ h _ => h
theorem Goes.go {nx : List (List Int)} {k a b : Nat} (h : Goes nx k a) (hb : (b : Int) ∈ markAt nx a) : Goes nx k b := fun P h0 h1 => h1 a b (h P h0 h1) hb
theorem Goes.trans {nx : List (List Int)} {k a b : Nat} (h : Goes nx k a) (g : Goes nx a b) : Goes nx k b := fun P h0 h1 => g P (h P h0 h1) h1
def Inside (nx : List (List Int)) (n : Nat) : Prop := ∀ a : Nat, a < n → ∀ z ∈ markAt nx a, 0 ≤ z ∧ z < n
theorem Inside.lt {nx : List (List Int)} {n k j : Nat} (h : Inside nx n) (hk : k < n) (g : Goes nx k j) : j < n := g (fun j => j < n) hk fun a b ha hb => by have := h a ha _ hb; omega
def Shut (nx : List (List Int)) (n : Nat) (f : Nat → Bool) : Prop := ∀ a b : Nat, a < n → f a = true → (b : Int) ∈ markAt nx a → f b = true
theorem Shut.goes {nx : List (List Int)} {n k j : Nat} {f : Nat → Bool} (h : Shut nx n f) (hi : Inside nx n) (hk : k < n) (hf : f k = true) (g : Goes nx k j) : f j = true :=
  (g (fun j => j < n ∧ f j = true) ⟨hk, hf⟩ fun a b ha hb => ⟨by have := hi a ha.1 _ hb; omega, h a b ha.1 ha.2 hb⟩).2
def stepsTo (nx : List (List Int)) (p i a : Nat) : List Int := if a = p then (markAt nx a).take i else markAt nx a

/-- What is noted and what is still to do; of mark p the first i steps are gone. -/
structure Spr (nx : List (List Int)) (n : Nat) (f0 : Nat → Bool) (m : Nat) (f : Nat → Bool) (todo : List Int) (p i : Nat) : Prop where
  grew : ∀ j, f0 j = true → f j = true
  sound : ∀ j, j < n → f j = true → f0 j = true ∨ Goes nx m j
  td : ∀ z ∈ todo, ∃ a : Nat, z = a ∧ a < n ∧ f a = true
  len : todo.length + cntF f n ≤ n
  gone : ∀ a, a < n → f a = true → (a : Int) ∈ todo ∨ ∀ b : Nat, (b : Int) ∈ stepsTo nx p i a → f b = true

section
variable {nx : List (List Int)} {n m p i : Nat} {f0 f : Nat → Bool} {todo : List Int}
theorem Spr.start (h : Shut nx n f0) (m : Nat) : Spr nx n f0 m f0 [] n 0 := by
  refine ⟨fun _ h => h, fun _ _ h => .inl h, fun z hz => (by cases hz), by have := cntF_le f0 n; simpa using this, fun a ha hf => .inr fun b hb => ?_⟩
  unfold stepsTo at hb
  rw [if_neg (by omega)] at hb
  exact h a b ha hf hb
theorem Spr.come (h : Spr nx n f0 m f todo p i) {x : Nat} (hx : x < n) (hf : f x = false) (hg : Goes nx m x) : Spr nx n f0 m (updT f x) (todo ++ [(x : Int)]) p i := by
  refine ⟨fun j hj => updT_grew (h.grew j hj), fun j hj hu => ?_, fun z hz => ?_, ?_, fun a ha hu => ?_⟩
  · by_cases e : j = x
    · subst e; exact .inr hg
    · rw [updT_other f e] at hu; exact h.sound j hj hu
  · rcases List.mem_append.1 hz with q | q
    · obtain ⟨a, e, ha, hfa⟩ := h.td z q
      exact ⟨a, e, ha, updT_grew hfa⟩
    · exact ⟨x, List.mem_singleton.1 q, hx, updT_same f x⟩
  · have := cntF_set hf (updT_same f x) (fun j hj => updT_other f hj) n hx
    have := h.len
    simp only [List.length_append, List.length_singleton]
    omega
  · by_cases e : a = x
    · subst e; exact .inl (List.mem_append_right _ (List.mem_singleton.2 rfl))
    · rw [updT_other f e] at hu
      rcases h.gone a ha hu with q | q
      · exact .inl (List.mem_append_left _ q)
      · exact .inr fun b hb => updT_grew (q b hb)
theorem Spr.pop {t : List Int} {a : Nat} (h : Spr nx n f0 m f (t ++ [(a : Int)]) n 0) : Spr nx n f0 m f t a 0 := by
  refine ⟨h.grew, h.sound, fun z hz => h.td z (List.mem_append_left _ hz), by have := h.len; simp at this; omega, fun c hc hf => ?_⟩
  by_cases e : c = a
  · subst e; exact .inr fun b hb => by simp [stepsTo] at hb
  · rcases h.gone c hc hf with q | q
    · rcases List.mem_append.1 q with q | q
      · exact .inl q
      · have := List.mem_singleton.1 q; omega
    · refine .inr fun b hb => q b ?_
      unfold stepsTo at hb ⊢
      rw [if_neg e] at hb
      rw [if_neg (by omega)]
      exact hb
theorem Spr.next (h : Spr nx n f0 m f todo p i) (hi : i < (markAt nx p).length) (hf : ∀ b : Nat, (b : Int) = nth (markAt nx p) i → f b = true) : Spr nx n f0 m f todo p (i + 1) := by
  refine ⟨h.grew, h.sound, h.td, h.len, fun a ha hfa => ?_⟩
  rcases h.gone a ha hfa with q | q
  · exact .inl q
  · refine .inr fun b hb => ?_
    unfold stepsTo at hb q
    by_cases e : a = p
    · subst e
      simp only [if_true] at hb q
      rw [List.take_succ_eq_append_getElem hi] at hb
      rcases List.mem_append.1 hb with r | r
      · exact q b r
      · refine hf b ?_
        rw [List.mem_singleton.1 r]
        simp [nth, List.getD, List.getElem?_eq_getElem hi]
    · simp only [if_neg e] at hb q
      exact q b hb
theorem Spr.ended (h : Spr nx n f0 m f todo p i) (hi : (markAt nx p).length ≤ i) : Spr nx n f0 m f todo n 0 := by
  refine ⟨h.grew, h.sound, h.td, h.len, fun a ha hfa => ?_⟩
  rcases h.gone a ha hfa with q | q
  · exact .inl q
  · refine .inr fun b hb => q b ?_
    unfold stepsTo at hb ⊢
    rw [if_neg (by omega)] at hb
    split
    · rename_i e; subst e; rw [List.take_of_length_le hi]; exact hb
    · exact hb
/-- What is noted in the end. -/
structure Spread (nx : List (List Int)) (n : Nat) (f0 : Nat → Bool) (m : Nat) (f : Nat → Bool) : Prop where
  shut : Shut nx n f
  mem : ∀ j, j < n → (f j = true ↔ f0 j = true ∨ Goes nx m j)
theorem Spr.done (h : Spr nx n f0 m f [] n 0) (hi : Inside nx n) (hm : m < n) (hf : f m = true) : Spread nx n f0 m f := by
  have hs : Shut nx n f := fun a b ha hfa hb => by
    rcases h.gone a ha hfa with q | q
    · cases q
    · refine q b ?_
      unfold stepsTo
      rw [if_neg (by omega)]
      exact hb
  refine ⟨hs, fun j hj => ⟨h.sound j hj, fun q => ?_⟩⟩
  rcases q with q | q
  · exact h.grew j q
  · exact hs.goes hi hm hf q
end

/-! ### in memory -/
/-- The steps as they are read; they lie in blocks of D. -/
def NextAt (w : World) (D : Nat → Prop) (nv : Value) (nx : List (List Int)) : Prop :=
  ∃ an cn, nv = .slice an nx.length cn ∧ ∀ p, p < nx.length → ∃ b1 o1 au cu, an = some ⟨b1, o1, none⟩ ∧ b1 < w.heap.size ∧ D b1 ∧ w.cell? ⟨b1, o1 + p, none⟩ = some (.slice au (markAt nx p).length cu) ∧
    (markAt nx p).length ≤ 5864062014805 ∧ ∀ k, k < (markAt nx p).length → ∃ b off, au = some ⟨b, off, none⟩ ∧ b < w.heap.size ∧ D b ∧ w.cell? ⟨b, off + k, none⟩ = some (.int .i64 (nth (markAt nx p) k))
theorem NextAt.below {w w' : World} {D : Nat → Prop} {nv : Value} {nx : List (List Int)} (h : NextAt w D nv nx) (hb : Below w.heap.size w w') : NextAt w' D nv nx := by
  obtain ⟨an, cn, e, h⟩ := h
  refine ⟨an, cn, e, fun p hp => ?_⟩
  obtain ⟨b1, o1, au, cu, e1, h1, h2, h3, h4, h5⟩ := h p hp
  refine ⟨b1, o1, au, cu, e1, Nat.lt_of_lt_of_le h1 hb.size, h2, (hb.cell (p := ⟨b1, o1 + p, none⟩) h1).trans h3, h4, fun k hk => ?_⟩
  obtain ⟨b, off, e2, g1, g2, g3⟩ := h5 k hk
  exact ⟨b, off, e2, Nat.lt_of_lt_of_le g1 hb.size, g2, (hb.cell (p := ⟨b, off + k, none⟩) g1).trans g3⟩
theorem NextAt.weak {w : World} {D D' : Nat → Prop} {nv : Value} {nx : List (List Int)} (h : NextAt w D nv nx) (hD : ∀ k, k < w.heap.size → D k → D' k) : NextAt w D' nv nx := by
  obtain ⟨an, cn, e, h⟩ := h
  refine ⟨an, cn, e, fun p hp => ?_⟩
  obtain ⟨b1, o1, au, cu, e1, h1, h2, h3, h4, h5⟩ := h p hp
  refine ⟨b1, o1, au, cu, e1, h1, hD b1 h1 h2, h3, h4, fun k hk => ?_⟩
  obtain ⟨b, off, e2, g1, g2, g3⟩ := h5 k hk
  exact ⟨b, off, e2, g1, hD b g1 g2, g3⟩
theorem NextAt.older {w w' : World} {D : Nat → Prop} {nv : Value} {nx : List (List Int)} {B : Nat} (h : NextAt w D nv nx) (hb : Below w.heap.size w w') (hB : w.heap.size ≤ B) : NextAt w' (fun k => k ≠ B) nv nx :=
  (h.weak fun k hk _ => (by omega : k ≠ B)).below hb
theorem OnlyB.at {w w' : World} {B b off : Nat} (h : OnlyB B w w') (hb : b < w.heap.size) (hne : b ≠ B) : w'.cell? ⟨b, off, none⟩ = w.cell? ⟨b, off, none⟩ := World.cell?_of_block (a := ⟨b, off, none⟩) (h.block b hb hne)
structure SprAt (w : World) (B n bb tb : Nat) (wr : World) (f : Nat → Bool) (tv : Value) (todo : List Int) : Prop where
  row : BoolRow wr B n f
  box : Box1 wr bb (.slice (some ⟨B, 0, none⟩) n n)
  cell : wr.heap[tb]? = some (.cells #[tv] 25 (0, 0))
  own : wr.ownsRow (tb + 1) 3 1 tv todo.length (todo.map (Value.int .i64))
  only : OnlyB B w wr
  hB : B < w.heap.size
  hbb : w.heap.size ≤ bb
  htb : bb < tb
section
variable {w wr : World} {B n bb tb : Nat} {f : Nat → Bool} {tv : Value} {todo : List Int}
theorem SprAt.lt (h : SprAt w B n bb tb wr f tv todo) : tb < wr.heap.size := (Array.getElem?_eq_some_iff.1 h.cell).1
theorem SprAt.tcell (h : SprAt w B n bb tb wr f tv todo) : wr.cell? ⟨tb, 0, none⟩ = some tv ∧ wr.frozen? ⟨tb, 0, none⟩ = false := by
  have hc := h.cell
  constructor
  · simp [World.cell?, hc]
  · simp [World.frozen?, hc]
theorem SprAt.to {w2 : World} (h : SprAt w B n bb tb wr f tv todo) (hb : Below wr.heap.size wr w2) : SprAt w B n bb tb w2 f tv todo :=
  { h with
    row := h.row.below hb
    box := h.box.below hb
    cell := by rw [hb.block tb h.lt]; exact h.cell
    own := ((ownsRow_on h.own).below hb).now
    only := ⟨h.only.below.trans (hb.mono (Nat.le_of_lt (Nat.lt_of_lt_of_le h.hB h.only.size))), Nat.le_trans h.only.size hb.size, fun k hk hne => (hb.block k (Nat.lt_of_lt_of_le hk h.only.size)).trans (h.only.block k hk hne)⟩ }
theorem SprAt.note (h : SprAt w B n bb tb wr f tv todo) {x : Nat} (hx : x < n) : SprAt w B n bb tb (wr.setCell ⟨B, x, none⟩ (.bool true)) (updT f x) tv todo := by
  have hBb : B ≠ bb := by have := h.hB; have := h.hbb; omega
  have hBt : B ≠ tb := by have := h.hB; have := h.hbb; have := h.htb; omega
  refine { h with
    row := h.row.put hx (updT_same f x) (fun j _ hj => updT_other f hj)
    box := ⟨by simpa [World.setCell] using h.box.1, by rw [World.cell?_setCell_other _ _ _ _ (by intro q; injection q with q1 _; exact hBb q1)]; exact h.box.2⟩
    cell := by rw [Below.heap_setCell wr ⟨B, x, none⟩ _ tb (fun e => hBt e.symm)]; exact h.cell
    own := ((ownsRow_on h.own).set (a := ⟨B, x, none⟩) (fun e => by have := e.2; have := h.hB; have := h.hbb; have := h.htb; simp only at *; omega) _).now
    only := h.only.trans (OnlyB.set B x wr _) }
/-- The row of what is to do has grown, and the box holds the new one. -/
theorem SprAt.push {wC : World} {v' : Value} {z : Int} (h : SprAt w B n bb tb wr f tv todo) (hown : wC.ownsRow (tb + 1) 3 1 v' (todo.length + 1) (todo.map (Value.int .i64) ++ [.int .i64 z])) (hg : wr.grownBy wC tv.ownBlock) :
    SprAt w B n bb tb (wC.setCell ⟨tb, 0, none⟩ v') f v' (todo ++ [z]) := by
  have hBt : B < tb := by have := h.hB; have := h.hbb; have := h.htb; omega
  have htl : ∀ k, tv.ownBlock = some k → tb + 1 ≤ k ∧ k < wr.heap.size := fun k hk => ownsRow_lt h.own hk
  have hbg : Below (tb + 1) wr wC := (Below.refl _ _).grown hg (by have := h.lt; omega) (fun k hk => (htl k hk).1)
  have hb2 : Below tb wr (wC.setCell ⟨tb, 0, none⟩ v') := (hbg.mono (Nat.le_succ tb)).setCell (p := ⟨tb, 0, none⟩) (Nat.le_refl _) _
  have hc1 : wC.heap[tb]? = some (.cells #[tv] 25 (0, 0)) := by rw [hbg.block tb (by omega)]; exact h.cell
  refine ⟨⟨fun j hj => ?_, fun j hj => ?_, Nat.lt_of_lt_of_le h.row.lt hb2.size⟩, ⟨Nat.lt_of_lt_of_le h.box.1 hb2.size, ?_⟩, ?_, ?_, ⟨?_, Nat.le_trans h.only.size hb2.size, fun k hk hne => ?_⟩, h.hB, h.hbb, h.htb⟩
  · rw [hb2.cell (p := ⟨B, j, none⟩) hBt]; exact h.row.cells j hj
  · rw [hb2.frozen (p := ⟨B, j, none⟩) hBt]; exact h.row.frozen j hj
  · rw [hb2.cell (p := ⟨bb, 0, none⟩) h.htb]; exact h.box.2
  · rw [setCell_eq_setRow wC tb 0 _ _ _ v' hc1]
    have := setRow_heap wC tb #[tv] (#[tv].setIfInBounds 0 v') 25 (0, 0) hc1
    simpa using this
  · have := ((ownsRow_on hown).set (a := ⟨tb, 0, none⟩) (fun e => by have := e.2; simp only at this; omega) v').now
    simpa using this
  · exact h.only.below.trans (hb2.mono (by omega))
  · rw [hb2.block k (by have := h.hbb; have := h.htb; omega)]; exact h.only.block k hk hne
theorem SprAt.slice (h : SprAt w B n bb tb wr f tv todo) : ∃ a c, tv = .slice a todo.length c := by
  rcases h.own.2 with ⟨e, h0⟩ | ⟨g, cap, cur, e, _⟩
  · exact ⟨none, 0, by rw [h0]; exact e⟩
  · exact ⟨_, _, e⟩
theorem SprAt.grownCell {wC : World} (h : SprAt w B n bb tb wr f tv todo) (hg : wr.grownBy wC tv.ownBlock) : wC.cell? ⟨tb, 0, none⟩ = some tv ∧ wC.frozen? ⟨tb, 0, none⟩ = false := by
  have hc : wC.heap[tb]? = some (.cells #[tv] 25 (0, 0)) := by
    rw [hg.block tb h.lt (fun e => by have := (ownsRow_lt h.own e.symm).1; omega)]; exact h.cell
  constructor
  · simp [World.cell?, hc]
  · simp [World.frozen?, hc]
theorem ownsRow_pop {b : Nat} {t : TypeId} {a : Option Addr} {k c : Nat} {xs : List Value} {y : Value} (h : w.ownsRow b t 1 (.slice a (k + 1) c) (k + 1) (xs ++ [y])) (hl : xs.length = k) : w.ownsRow b t 1 (.slice a k c) k xs := by
  obtain ⟨_, hcase⟩ := h
  refine ⟨by omega, ?_⟩
  rcases hcase with ⟨_, h0⟩ | ⟨g, cap, cur, e, hb, hg, hn, hcap, hsz, htake⟩
  · omega
  · injection e with e1 e2 e3
    subst e1 e3
    refine .inr ⟨g, c, cur, rfl, hb, hg, by omega, hcap, hsz, ?_⟩
    have := congrArg (List.take k) htake
    rw [List.take_take, List.take_left' hl, show min k ((k + 1) * 1) = k by omega] at this
    simpa using this
theorem SprAt.pop {a : Option Addr} {k c : Nat} {t : List Int} {z : Int} (h : SprAt w B n bb tb wr f (.slice a (k + 1) c) (t ++ [z])) (hk : t.length = k) : SprAt w B n bb tb (wr.setCell ⟨tb, 0, none⟩ (.slice a k c)) f (.slice a k c) t := by
  have hBt : B < tb := by have := h.hB; have := h.hbb; have := h.htb; omega
  have hb2 : Below tb wr (wr.setCell ⟨tb, 0, none⟩ (.slice a k c)) := (Below.refl _ _).setCell (p := ⟨tb, 0, none⟩) (Nat.le_refl _) _
  refine ⟨⟨fun j hj => ?_, fun j hj => ?_, Nat.lt_of_lt_of_le h.row.lt hb2.size⟩, ⟨Nat.lt_of_lt_of_le h.box.1 hb2.size, ?_⟩, ?_, ?_, ⟨?_, Nat.le_trans h.only.size hb2.size, fun k hk hne => ?_⟩, h.hB, h.hbb, h.htb⟩
  · rw [hb2.cell (p := ⟨B, j, none⟩) hBt]; exact h.row.cells j hj
  · rw [hb2.frozen (p := ⟨B, j, none⟩) hBt]; exact h.row.frozen j hj
  · rw [hb2.cell (p := ⟨bb, 0, none⟩) h.htb]; exact h.box.2
  · rw [setCell_eq_setRow wr tb 0 _ _ _ _ h.cell]
    have := setRow_heap wr tb #[.slice a (k + 1) c] (#[.slice a (k + 1) c].setIfInBounds 0 (.slice a k c)) 25 (0, 0) h.cell
    simpa using this
  · have h1 : wr.ownsRow (tb + 1) 3 1 (.slice a k c) k (t.map (Value.int .i64)) := by
      have h0 := h.own
      simp only [List.length_append, List.length_singleton, List.map_append, List.map_cons, List.map_nil, hk] at h0
      exact ownsRow_pop h0 (by simpa using hk)
    have := ((ownsRow_on h1).set (a := ⟨tb, 0, none⟩) (fun e => by have := e.2; simp only at this; omega) (.slice a k c)).now
    rw [hk]
    exact this
  · exact h.only.below.trans (hb2.mono (by omega))
  · rw [hb2.block k (by have := h.hbb; have := h.htb; omega)]; exact h.only.block k hk hne
/-- What is to do last. -/
theorem SprAt.last (h : SprAt w B n bb tb wr f tv todo) {t : List Int} {z : Int} (e : todo = t ++ [z]) : ∃ g c, tv = .slice (some ⟨g, 0, none⟩) (t.length + 1) c ∧ t.length + 1 ≤ c ∧ c ≤ maxLen ∧ g < wr.heap.size ∧ wr.cell? ⟨g, t.length, none⟩ = some (.int .i64 z) := by
  subst e
  have hown := h.own
  rcases id hown.2 with ⟨_, h0⟩ | ⟨g, cap, cur, e, hb, hg, hn, hcap, hsz, htake⟩
  · simp at h0
  · refine ⟨g, cap, by simpa using e, by simpa using hn, hcap, (Array.getElem?_eq_some_iff.1 hg).1, ?_⟩
    subst e
    have hc := hown.cellAt t.length (by simp)
    simpa using hc
end

end Go.Proofs.Ytakgppoeikcepaa

/- Package sound as it landed: going through arcs from the last one on; which marks are found to come to the end, plainly. -/
namespace Go.Proofs.Ytakgppoeikcepaa
open Go.RowKit Go.Shelf
set_option linter.unusedVariables false
set_option maxRecDepth 4000

attribute [local go_sem] Oper.semAt_some

/-- An arc with its place. -/
abbrev ArcY (ls : List (Int × Int × Int)) := { y : Int × (Int × Int × Int) // y.2 ∈ ls }
def arcV (a : Int × Int × Int) : Value := .agg #[.int .i64 a.1, .int .i64 a.2.1, .int .i64 a.2.2]
def arcsOf {ls : List (Int × Int × Int)} (l : List (ArcY ls)) : List (Int × Int × Int) := l.map fun y => y.1.2
theorem arcsOf_snoc {ls : List (Int × Int × Int)} (l : List (ArcY ls)) (y : ArcY ls) : arcsOf (l ++ [y]) = arcsOf l ++ [y.1.2] := by simp [arcsOf]
theorem arcsOf_nil {ls : List (Int × Int × Int)} : arcsOf ([] : List (ArcY ls)) = [] := rfl

set_option maxRecDepth 100000 in
set_option maxHeartbeats 2000000 in
theorem backward1_in (n : Nat) (hn : 1 ≤ n) (l : Nat) (w0 : World) (b : Nat) (v : Value) (ls : List (Int × Int × Int)) (hv : Arcs w0 v ls) (J Jx : List (ArcY ls) → World → Prop)
    (hY : ∀ pre (y : ArcY ls) W, J pre W → pre.length < ls.length → YieldAt Fence.wide (n - 1) Try.prog l #[.int .i64 y.1.1, arcV y.1.2] W fun e W' =>
      (e = .returned (.bool true) ∧ J (pre ++ [y]) W' ∧ KeepT w0.heap.size b W W') ∨ (e = .returned (.bool false) ∧ Jx (pre ++ [y]) W'))
    (W : World) (hW : Below w0.heap.size w0 W) (hB : W.heap[b]? = some (.cells #[v] 47 (0, 0))) (h0 : J [] W) :
    CallsIn Fence.wide n Try.prog 86 #[.func (.yield l) #[] #[], .pointer (some ⟨b, 0, none⟩)] W fun e W' => (∃ v, e = .returned v) ∧
      ((∃ ys : List (ArcY ls), arcsOf ys = ls.reverse ∧ J ys W') ∨ (∃ pre : List (ArcY ls), (∃ r, arcsOf pre ++ r = ls.reverse) ∧ Jx pre W')) := by
  obtain ⟨a, len, cap, rfl, hlen, hmx, hsh, hr⟩ := hv
  obtain ⟨c0, _⟩ := box_cell hB
  refine callsIn_of_wp Try.func86 rfl trivial ?_ rfl
  simp only [Try.ntmps86, List.size_toArray, List.length_cons, List.length_nil, Nat.reduceAdd, Nat.reduceSub, Array.replicate_succ, Array.replicate_zero, List.push_toArray, List.append_toArray, List.nil_append, List.cons_append]
  gi_wp2
  gi_loopw [3] (fun i wr => ∃ (pre : List (ArcY ls)) (k : Nat), k ≤ len ∧ i = .int .i64 ((k : Int) - 1) ∧ pre.length + k = len ∧ arcsOf pre ++ (ls.take k).reverse = ls.reverse ∧ Below w0.heap.size w0 wr ∧ wr.heap[b]? = some (.cells #[.slice a len cap] 47 (0, 0)) ∧ J pre wr) (fun i _ => (intOf i + 1).toNat)
  case atStart => exact ⟨[], len, Nat.le_refl _, by go_num, by simp, by rw [← hlen, List.take_length]; rfl, hW, hB, h0⟩
  case round =>
    obtain ⟨pre, k, hk, rfl, hpl, hpe, hb, hBr, hJ⟩ := hrel
    obtain ⟨c1, _⟩ := box_cell hBr
    by_cases hk0 : k = 0
    · subst hk0
      have e : arcsOf pre = ls.reverse := by simpa using hpe
      gi_wp2
      go_end0
      exact ⟨⟨_, rfl⟩, .inl ⟨pre, e, hJ⟩⟩
    · obtain ⟨j, rfl⟩ : ∃ j, k = j + 1 := ⟨k - 1, by omega⟩
      have hj : j < ls.length := by omega
      obtain ⟨b1, o1, rfl, hb1, d0, d1, d2⟩ := hr j hj
      have d0 := (hb.cell (p := ⟨b1, o1 + j * 3, none⟩) hb1).trans d0
      have d1 := (hb.cell (p := ⟨b1, o1 + j * 3 + 1, none⟩) hb1).trans d1
      have d2 := (hb.cell (p := ⟨b1, o1 + j * 3 + 2, none⟩) hb1).trans d2
      have ej : (((j + 1 : Nat) : Int) - 1) = (j : Int) := by omega
      rw [ej]
      obtain ⟨x, hx, hmem⟩ : ∃ x, ls[j] = x ∧ x ∈ ls := ⟨_, rfl, List.getElem_mem hj⟩
      have Hnx : Hid (arcsOf (pre ++ [⟨((j : Int), x), hmem⟩]) ++ (ls.take j).reverse = ls.reverse) := by
        show _ = _
        rw [arcsOf_snoc, ← hpe, List.take_succ_eq_append_getElem hj, hx]
        simp
      rw [hx] at d0 d1 d2
      obtain ⟨fn, tmps, assign, body, hy, hR⟩ := hY pre ⟨((j : Int), x), hmem⟩ wr hJ (by omega)
      dsimp only [arcV] at hy
      clear hr hpe hx
      gi_wp2
      refine hR.mono ?_
      rintro e W3 (⟨rfl, hJ3, hk3⟩ | ⟨rfl, hJx3⟩)
      · gi_wp2
        go_roundw
        case rel => exact ⟨_, j, by omega, by go_num, by simp; omega, Hnx.out, hb.trans hk3.1, hk3.2.trans hBr, hJ3⟩
        case measure => simp [intOf]
      · gi_wp2
        refine bodyPost_ret (results_none rfl _ _ _) rfl ?_
        exact ⟨⟨_, rfl⟩, .inr ⟨_, ⟨_, Hnx.out⟩, hJx3⟩⟩

theorem backward_any (v : Value) (w : World) (hv : ∃ a l c, v = .slice a l c) :
    Calls Try.prog 83 #[v] w fun e w' =>
      e = .returned (.func (.func 86) #[] #[.pointer (some ⟨w.heap.size, 0, none⟩)]) ∧ w' = w.alloc (.cells #[v] 47) := by
  obtain ⟨a, l, c, rfl⟩ := hv
  go_enter Try.func83, Try.ntmps83
  go_wp2
  go_ret
  exact ⟨rfl, rfl⟩

theorem backward_stops (n : Nat) (hn : 1 ≤ n) (w0 : World) (b : Nat) (v : Value) (ls : List (Int × Int × Int)) (hv : Arcs w0 v ls) (w : World) (h0 : Below w0.heap.size w0 w) (hB : w.heap[b]? = some (.cells #[v] 47 (0, 0))) :
    SeqStopsK Fence.wide n Try.prog 86 #[.pointer (some ⟨b, 0, none⟩)] (fun y : ArcY ls => #[.int .i64 y.1.1, arcV y.1.2]) (KeepT w0.heap.size b)
      (fun ys => arcsOf ys = ls.reverse) (fun pre => ∃ r, arcsOf pre ++ r = ls.reverse) ls.length w := fun l J Jx W hW _ _ hY hJ0 =>
  backward1_in n hn l w0 b v ls hv J Jx hY W (h0.trans (hW.mono h0.size)) ((hW.block b (Array.getElem?_eq_some_iff.1 hB).1).trans hB) hJ0

/-! ### plainly -/
/-- What one pass over some arcs has come to: f at its beginning, g now; b: something was noted. -/
structure PassA (G : Nat → Prop) (n : Nat) (f g : Nat → Bool) (b : Bool) (pre : List (Int × Int × Int)) : Prop where
  grew : ∀ j, f j = true → g j = true
  sound : ∀ j, j < n → g j = true → G j
  none : b = false → g = f ∧ ∀ a ∈ pre, f a.2.2.toNat = true → f a.1.toNat = true
  some : b = true → cntF g n < cntF f n
theorem PassA.start {G : Nat → Prop} {n : Nat} {f : Nat → Bool} (h : ∀ j, j < n → f j = true → G j) : PassA G n f f false [] := ⟨fun _ h => h, h, fun _ => ⟨rfl, by simp⟩, fun h => by cases h⟩
theorem PassA.stay {G : Nat → Prop} {n : Nat} {f g : Nat → Bool} {b : Bool} {pre : List (Int × Int × Int)} (h : PassA G n f g b pre) {a : Int × Int × Int} (ha : g a.2.2.toNat = true → g a.1.toNat = true) : PassA G n f g b (pre ++ [a]) := by
  refine ⟨h.grew, h.sound, fun e => ⟨(h.none e).1, fun c hc => ?_⟩, h.some⟩
  rcases List.mem_append.1 hc with q | q
  · exact (h.none e).2 c q
  · rw [List.mem_singleton.1 q, ← (h.none e).1]; exact ha
theorem PassA.note {G : Nat → Prop} {n : Nat} {f g : Nat → Bool} {b : Bool} {pre : List (Int × Int × Int)} (h : PassA G n f g b pre) {a : Int × Int × Int} {x : Nat} (hx : a.1.toNat = x) (hxn : x < n) (hg : g x = false) (hG : G x) : PassA G n f (updT g x) true (pre ++ [a]) := by
  have hc := cntF_set hg (updT_same g x) (fun j hj => updT_other g hj) n hxn
  refine ⟨fun j hj => updT_grew (h.grew j hj), fun j hj hu => ?_, fun e => (by cases e), fun _ => ?_⟩
  · by_cases e : j = x
    · subst e; exact hG
    · rw [updT_other g e] at hu; exact h.sound j hj hu
  · cases b
    · rw [← (h.none rfl).1]; omega
    · have := h.some rfl; omega
end Go.Proofs.Ytakgppoeikcepaa

/- slices.Backward over arcs as an iterator whose rounds may change whatever but the arcs. -/
namespace Go.Proofs.Ytakgppoeikcepaa
open Go.RowKit Go.Shelf
set_option linter.unusedVariables false
set_option maxRecDepth 4000

attribute [local go_sem] Oper.semAt_some

set_option maxRecDepth 100000 in
set_option maxHeartbeats 2000000 in
theorem back_it (n : Nat) (hn : 1 ≤ n) (b : Nat) (v : Value) (ls : List (Int × Int × Int)) :
    IterOk (α := ArcY ls) n 86 #[] #[.pointer (some ⟨b, 0, none⟩)] (fun y : ArcY ls => #[.int .i64 y.1.1, arcV y.1.2]) (fun _ => True) (fun ys => arcsOf ys = ls.reverse) (fun pre => ∃ r, arcsOf pre ++ r = ls.reverse)
      (fun W => Arcs W v ls ∧ W.heap[b]? = some (.cells #[v] 47 (0, 0))) ls.length := by
  intro l J Jx hT _ hY W h0
  obtain ⟨hv, hB⟩ := hT _ _ h0
  obtain ⟨a, len, cap, rfl, hlen, hmx, hsh, hr⟩ := hv
  obtain ⟨c0, _⟩ := box_cell hB
  simp only [List.append_toArray, List.nil_append, List.cons_append]
  refine callsIn_of_wp Try.func86 rfl trivial ?_ rfl
  simp only [Try.ntmps86, List.size_toArray, List.length_cons, List.length_nil, Nat.reduceAdd, Nat.reduceSub, Array.replicate_succ, Array.replicate_zero, List.push_toArray, List.append_toArray, List.nil_append, List.cons_append]
  gi_wp2
  gi_loopw [3] (fun i wr => ∃ (pre : List (ArcY ls)) (k : Nat), k ≤ len ∧ i = .int .i64 ((k : Int) - 1) ∧ pre.length + k = len ∧ arcsOf pre ++ (ls.take k).reverse = ls.reverse ∧ J pre wr) (fun i _ => (intOf i + 1).toNat)
  case atStart => exact ⟨[], len, Nat.le_refl _, by go_num, by simp, by rw [← hlen, List.take_length]; rfl, h0⟩
  case round =>
    obtain ⟨pre, k, hk, rfl, hpl, hpe, hJ⟩ := hrel
    obtain ⟨hvr, hBr⟩ := hT _ _ hJ
    obtain ⟨c1, _⟩ := box_cell hBr
    by_cases hk0 : k = 0
    · subst hk0
      have e : arcsOf pre = ls.reverse := by simpa using hpe
      gi_wp2
      go_end0
      exact ⟨⟨_, rfl⟩, .inl ⟨pre, e, hJ⟩⟩
    · obtain ⟨j, rfl⟩ : ∃ j, k = j + 1 := ⟨k - 1, by omega⟩
      have hj : j < ls.length := by omega
      obtain ⟨b1, o1, rfl, hb1, d0, d1, d2⟩ := hvr.at hj
      have ej : (((j + 1 : Nat) : Int) - 1) = (j : Int) := by omega
      rw [ej]
      obtain ⟨x, hx, hmem⟩ : ∃ x, ls[j] = x ∧ x ∈ ls := ⟨_, rfl, List.getElem_mem hj⟩
      have Hnx : Hid (arcsOf (pre ++ [⟨((j : Int), x), hmem⟩]) ++ (ls.take j).reverse = ls.reverse) := by
        show _ = _
        rw [arcsOf_snoc, ← hpe, List.take_succ_eq_append_getElem hj, hx]
        simp
      rw [hx] at d0 d1 d2
      obtain ⟨fn, tmps, assign, body, hy, hR⟩ := hY pre ⟨((j : Int), x), hmem⟩ wr hJ (by omega) trivial
      dsimp only [arcV] at hy
      clear hr hpe hx
      gi_wp2
      refine hR.mono ?_
      rintro e W3 (⟨rfl, hJ3⟩ | ⟨rfl, hJx3⟩)
      · gi_wp2
        go_roundw
        case rel => exact ⟨_, j, by omega, by go_num, by simp; omega, Hnx.out, hJ3⟩
        case measure => simp [intOf]
      · gi_wp2
        refine bodyPost_ret (results_none rfl _ _ _) rfl ?_
        exact ⟨⟨_, rfl⟩, .inr ⟨_, ⟨_, Hnx.out⟩, hJx3⟩⟩

end Go.Proofs.Ytakgppoeikcepaa

/- settle: a change is done for all arcs, again and again, until nothing changes any more. -/
namespace Go.Proofs.Ytakgppoeikcepaa
open Go.RowKit Go.Shelf
set_option linter.unusedVariables false
set_option maxRecDepth 4000

attribute [local go_sem] Oper.semAt_some

/-- All from n on that was there is as it was. -/
def Newer (n : Nat) (W W' : World) : Prop := W.heap.size ≤ W'.heap.size ∧ ∀ k, n ≤ k → k < W.heap.size → W'.heap[k]? = W.heap[k]?
theorem Newer.from {n m : Nat} {W W' : World} (h : Newer n W W') (hm : n ≤ m) : KeepsFrom m W W' := ⟨h.1, fun k o hk h1 _ => (h.2 k (by omega) (Array.getElem?_eq_some_iff.1 h1).1).trans h1⟩
theorem Newer.ofBelow {n : Nat} {W W' : World} (h : Below W.heap.size W W') : Newer n W W' := ⟨h.size, fun k _ hk => h.block k hk⟩
theorem Newer.trans {n : Nat} {a b c : World} (h : Newer n a b) (k : Newer n b c) : Newer n a c := ⟨Nat.le_trans h.1 k.1, fun i h1 h2 => (k.2 i h1 (Nat.lt_of_lt_of_le h2 h.1)).trans (h.2 i h1 h2)⟩

theorem Marked.kept {B : Nat} {ds : List Deferred} {Ds : List Nat} {W W' : World} (h : Marked B ds Ds W) (hk : ∀ (k : Nat) (o : Obj), B ≤ k → W.heap[k]? = some o → o.isCells = false → W'.heap[k]? = some o) : Marked B ds Ds W' :=
  ⟨h.eq, h.nodup, fun D hD => ⟨(h.all D hD).1, hk D _ (h.all D hD).1 (h.all D hD).2 rfl⟩⟩

/-- What one pass over some arcs has come to: s at its beginning, s1 now; b: something was changed. -/
structure PassS {σ : Type} (M : σ → Nat) (G : σ → Int × Int × Int → Prop) (s s1 : σ) (b : Bool) (pre : List (Int × Int × Int)) : Prop where
  none : b = false → s1 = s ∧ ∀ a ∈ pre, G s a
  some : b = true → M s1 < M s
theorem PassS.start {σ : Type} {M : σ → Nat} {G : σ → Int × Int × Int → Prop} (s : σ) : PassS M G s s false [] := ⟨fun _ => ⟨rfl, by simp⟩, fun h => by cases h⟩
theorem PassS.stay {σ : Type} {M : σ → Nat} {G : σ → Int × Int × Int → Prop} {s s1 : σ} {b : Bool} {pre : List (Int × Int × Int)} (h : PassS M G s s1 b pre) {a : Int × Int × Int} (ha : G s1 a) : PassS M G s s1 b (pre ++ [a]) := by
  refine ⟨fun e => ?_, h.some⟩
  obtain ⟨rfl, h2⟩ := h.none e
  refine ⟨rfl, fun x hx => ?_⟩
  rcases List.mem_append.1 hx with q | q
  · exact h2 x q
  · rw [List.mem_singleton.1 q]; exact ha
theorem PassS.more {σ : Type} {M : σ → Nat} {G : σ → Int × Int × Int → Prop} {s s1 s2 : σ} {b : Bool} {pre pre' : List (Int × Int × Int)} (h : PassS M G s s1 b pre) (hm : M s2 < M s1) : PassS M G s s2 true pre' := by
  refine ⟨fun e => (by cases e), fun _ => ?_⟩
  cases b
  · rw [← (h.none rfl).1]; exact hm
  · exact Nat.lt_trans hm (h.some rfl)

/-- What holds at the head of the loop. -/
structure SetI {σ : Type} (w : World) (cv : Value) (ls : List (Int × Int × Int)) (J : σ → World → Prop) (M : σ → Nat) (G : σ → Int × Int × Int → Prop) (m b4 : Nat) (c : Bool) (s : σ) (ds : List Deferred) (Ds : List Nat) (wr : World) : Prop where
  meas : m = 2 * M s + (if c then 1 else 0)
  more : wr.heap[b4]? = some (.cells #[.bool c] 4 (0, 0))
  far : w.heap.size < b4
  fn : wr.heap[w.heap.size]? = some (.cells #[cv] 121 (0, 0))
  j : J s wr
  shut : c = false → ∀ a ∈ ls, G s a
  marks : Marked (w.heap.size + 1) ds Ds wr

/-- What holds within a pass. -/
structure SetP {σ : Type} (w w5 : World) (b4 : Nat) (J : σ → World → Prop) (M : σ → Nat) (G : σ → Int × Int × Int → Prop) (s : σ) {ls : List (Int × Int × Int)} (pre : List (ArcY ls)) (W : World) : Prop where
  ex : ∃ (b : Bool) (s1 : σ), W.heap[b4]? = some (.cells #[.bool b] 4 (0, 0)) ∧ J s1 W ∧ PassS M G s s1 b (arcsOf pre)
  size : w5.heap.size ≤ W.heap.size
  only : ∀ k, w.heap.size ≤ k → k < w5.heap.size → k ≠ b4 → W.heap[k]? = w5.heap[k]?

theorem setP_own {σ : Type} {w w5 : World} {b4 : Nat} {J : σ → World → Prop} {M : σ → Nat} {G : σ → Int × Int × Int → Prop} {s : σ} {ls : List (Int × Int × Int)} (hw : w.heap.size ≤ w5.heap.size)
    (hJ : ∀ s W W', J s W → Below w.heap.size W W' → J s W') : OwnFrom w5.heap.size (fun (pre : List (ArcY ls)) W => SetP w w5 b4 J M G s pre W) := by
  intro pre W W' row hs hg hr
  obtain ⟨⟨b, s1, h1, h2, h3⟩, h4, h5⟩ := hs
  have hne : ∀ k o, W.heap[k]? = some o → k < w5.heap.size → some k ≠ row := fun k o _ hk e => by have := (hr k e.symm).1; omega
  refine ⟨⟨b, s1, ?_, hJ s1 W W' h2 ((Below.refl w.heap.size W).grown hg (by omega) (fun k e => by have := (hr k e).1; omega)), h3⟩, Nat.le_trans h4 hg.size, fun k k1 k2 k3 => ?_⟩
  · rw [hg.block b4 (Array.getElem?_eq_some_iff.1 h1).1 (fun e => by
      obtain ⟨_, o, q1, q2⟩ := hr b4 e.symm
      rw [h1] at q1
      cases q1
      cases q2)]
    exact h1
  · rw [hg.block k (by omega) (fun e => by have := (hr k e.symm).1; omega)]
    exact h5 k k1 k2 k3

theorem settle_round {wr : World} {b4 : Nat} {av : Value} {c : Bool} (h : wr.heap[b4]? = some (.cells #[.bool c] 4 (0, 0))) :
    ∃ w5, Hid ((wr.setCell ⟨b4, 0, none⟩ (.bool false)).alloc (.cells #[av] 47) = w5) ∧ w5.heap.size = wr.heap.size + 1 ∧ w5.heap[b4]? = some (.cells #[.bool false] 4 (0, 0)) ∧
      Below b4 wr w5 ∧ (∀ k, k < wr.heap.size → k ≠ b4 → w5.heap[k]? = wr.heap[k]?) ∧ w5.heap[wr.heap.size]? = some (.cells #[av] 47 (0, 0)) := by
  have hlt : b4 < wr.heap.size := (Array.getElem?_eq_some_iff.1 h).1
  obtain ⟨w2, hw2⟩ : ∃ w2, wr.setCell ⟨b4, 0, none⟩ (.bool false) = w2 := ⟨_, rfl⟩
  have hs : w2.heap.size = wr.heap.size := by rw [← hw2]; simp [World.setCell]
  have h2 : w2.heap[b4]? = some (.cells #[.bool false] 4 (0, 0)) := by rw [← hw2]; exact setBox h
  have ho : ∀ k, k ≠ b4 → w2.heap[k]? = wr.heap[k]? := fun k hk => by rw [← hw2]; exact Below.heap_setCell _ _ _ _ hk
  rw [hw2]
  have b1 := below_new w2 (.cells #[av] 47)
  have hb2 : Below b4 wr w2 := by rw [← hw2]; exact (Below.refl _ _).setCell (p := ⟨b4, 0, none⟩) (Nat.le_refl _) _
  refine ⟨_, rfl, by simp [hs], (b1.block b4 (by omega)).trans h2, hb2.trans (b1.mono (by omega)), fun k hk hne => (b1.block k (by omega)).trans (ho k hne), ?_⟩
  rw [← hs]; exact heap_alloc_at _ _

set_option maxRecDepth 100000 in
set_option maxHeartbeats 4000000 in
theorem settle_any {σ : Type} (av : Value) (ls : List (Int × Int × Int)) (g : Nat) (qs : Array Value) (eg : ∀ args w, (callFunc g args).run Try.prog w = .ok (.enter g args) w) (w : World)
    (J : σ → World → Prop) (M : σ → Nat) (G : σ → Int × Int × Int → Prop) (hA : ∀ s W, J s W → Arcs W av ls)
    (hJ : ∀ s W W', J s W → Below w.heap.size W W' → J s W')
    (hstep : ∀ s W (a : Int × Int × Int), a ∈ ls → J s W → w.heap.size ≤ W.heap.size → Calls Try.prog g (#[.agg #[.int .i64 a.1, .int .i64 a.2.1, .int .i64 a.2.2]] ++ qs) W fun e W' =>
      ∃ s' b, e = .returned (.bool b) ∧ J s' W' ∧ (b = true → M s' < M s) ∧ (b = false → s' = s ∧ G s a) ∧ Newer w.heap.size W W')
    (s0 : σ) (h0 : J s0 w) :
    Calls Try.prog 66 #[av, .func (.func g) #[] qs] w fun e w' => (∃ v, e = .returned v) ∧ ∃ s', J s' w' ∧ (∀ a ∈ ls, G s' a) ∧ w.heap.size ≤ w'.heap.size := by
  obtain ⟨aa, ca, rfl, hla⟩ := (hA _ _ h0).slice
  obtain ⟨la, Hla⟩ : ∃ la, Hid (ls.length = la) := ⟨_, rfl⟩
  rw [Hla.out] at hA hla ⊢
  refine (callsIn_wide (n := 5)).1 ?_
  refine callsIn_of_wp_marks Try.func66 rfl trivial ?_ rfl
  simp only [Try.ntmps66, List.size_toArray, List.length_cons, List.length_nil, Nat.reduceAdd, Nat.reduceSub, Array.replicate_succ, Array.replicate_zero, List.push_toArray, List.append_toArray, List.nil_append, List.cons_append]
  refine wpIn_wide.2 ?_
  refine Code.wp_mono (fun e a w h => noPanicOut h) ?_
  have b1 := below_new w (.cells #[.func (.func g) #[] qs] 121)
  have b2 := below_new (w.alloc (.cells #[.func (.func g) #[] qs] 121)) (.cells #[.bool true] 4)
  have e1 : (w.alloc (.cells #[.func (.func g) #[] qs] 121)).heap.size = w.heap.size + 1 := by simp
  have hI0 : SetI w (.func (.func g) #[] qs) ls J M G (2 * M s0 + 1) (w.heap.size + 1) true s0 [] [] ((w.alloc (.cells #[.func (.func g) #[] qs] 121)).alloc (.cells #[.bool true] 4)) := by
    have b12 := below_then b1 b2
    refine ⟨rfl, by rw [← e1]; exact heap_alloc_at _ _, by omega, (b2.block _ (by omega)).trans (heap_alloc_at _ _), hJ s0 w _ h0 b12, fun h => (by cases h), ⟨rfl, List.nodup_nil, by simp⟩⟩
  obtain ⟨w6, Hw6⟩ : ∃ w6, Hid ((w.alloc (.cells #[.func (.func g) #[] qs] 121)).alloc (.cells #[.bool true] 4) = w6) := ⟨_, rfl⟩
  rw [Hw6.out] at hI0
  have Hst : Hid (∀ s W (a : Int × Int × Int), a ∈ ls → J s W → w.heap.size ≤ W.heap.size → Calls Try.prog g (#[.agg #[.int .i64 a.1, .int .i64 a.2.1, .int .i64 a.2.2]] ++ qs) W fun e W' =>
      ∃ s' b, e = .returned (.bool b) ∧ J s' W' ∧ (b = true → M s' < M s) ∧ (b = false → s' = s ∧ G s a) ∧ Newer w.heap.size W W') := hstep
  have HJ : Hid _ := hJ
  have HA : Hid _ := hA
  clear b1 b2 e1 h0 hstep hJ hA
  go_wp2_with fail
  rw [Hw6.out]
  refine wp_loop_ghost_k (fun m a wr => ∃ (u1 u2 u5 u6 u7 u8 u9 u10 u11 u12 u13 u14 u15 : Value) (b4 : Nat) (c : Bool) (s : σ) (ds : List Deferred) (Ds : List Nat), SetI w (.func (.func g) #[] qs) ls J M G m b4 c s ds Ds wr ∧
        a = { tmps := #[.slice aa la ca, u1, u2, .pointer (some ⟨w.heap.size, 0, none⟩), .pointer (some ⟨b4, 0, none⟩), u5, u6, u7, u8, u9, u10, u11, u12, u13, u14, u15], defers := ds }) (2 * M s0 + 1) ?_ ?_
  · exact ⟨_, _, _, _, _, _, _, _, _, _, _, _, _, _, _, _, _, _, hI0, rfl⟩
  · rintro m _ wr ⟨u1, u2, u5, u6, u7, u8, u9, u10, u11, u12, u13, u14, u15, b4, c, s, ds, Ds, hI, rfl⟩ J2 K hJ2 hK
    clear hI0 Hw6
    obtain ⟨e4, f4⟩ := box_cell hI.more
    obtain ⟨e3, f3⟩ := box_cell hI.fn
    cases c
    · have R := hI.shut rfl
      have hj := hI.j
      have hmk := hI.marks
      have hfar := hI.far
      have hlt : w.heap.size < wr.heap.size := (Array.getElem?_eq_some_iff.1 hI.fn).1
      clear hI
      go_wp2
      refine leaves_marks (B := w.heap.size + 1) (fun W => J s W ∧ w.heap.size ≤ W.heap.size) ?_ ?_ hmk ⟨hj, by omega⟩
      · rintro W D hD hW ⟨q1, q2⟩
        have hg := grownBy_putObj' W D (.deferred none)
        exact ⟨HJ.out s W _ q1 (belowK_b (w := w) (Nat.le_refl _) W D _ _ (by omega) hW rfl rfl), Nat.le_trans q2 hg.size⟩
      · intro W hW
        exact ⟨_, results_none rfl _ _ _, ⟨_, rfl⟩, s, hW.1, R, hW.2⟩
    · obtain ⟨w5, Hw5, hs5, h4', hB5, ho5, hbt5⟩ := settle_round (av := .slice aa la ca) hI.more
      go_wp2_with fail
      refine (backward_any _ _ ⟨_, _, _, rfl⟩).mono ?_
      rintro e w2 ⟨rfl, rfl⟩
      go_wp2_with fail
      rw [Hw5.out]
      clear Hw5 e4 f4 e3 f3
      have hfar := hI.far
      have hlt4 : b4 < wr.heap.size := (Array.getElem?_eq_some_iff.1 hI.more).1
      have hfn5 : w5.heap[w.heap.size]? = some (.cells #[.func (.func g) #[] qs] 121 (0, 0)) := (ho5 _ (by omega) (by omega)).trans hI.fn
      have hj5 : J s w5 := HJ.out s wr w5 hI.j (hB5.mono (by omega))
      have hMk5 : Marked (w.heap.size + 1) ds Ds w5 := hI.marks.to fun k o hk ho => (ho5 k (Array.getElem?_eq_some_iff.1 hk).1 (fun e => by subst e; rw [hI.more] at hk; injection hk with hk; subst hk; cases ho)).trans hk
      have hDs : ∀ D ∈ Ds, D < w5.heap.size := fun D hD => (Array.getElem?_eq_some_iff.1 (hMk5.all D hD).2).1
      have hw5 : w.heap.size ≤ w5.heap.size := by omega
      have Hmeas : Hid _ := hI.meas
      clear hI
      refine (wpIn_wide (n := 5)).1 ?_
      refine range_it (n := 5) (by omega) (gf := 86) (rb := #[]) (lb := #[.pointer (some ⟨wr.heap.size, 0, none⟩)]) rfl (enters_of Try.func86 (by kernel_rfl) rfl)
        (back_it (5 - 1) (by omega) wr.heap.size (.slice aa la ca) ls) (fun _ => rfl)
        (fun pre W => SetP w w5 b4 J M G s pre W) (fun _ _ _ => False) (setP_own hw5 HJ.out) (fun c s A B row hs hg hr => hs)
        ⟨⟨false, s, h4', hj5, PassS.start s⟩, Nat.le_refl _, fun k _ _ _ => rfl⟩ (fun pre W h => by
          obtain ⟨⟨b, s1, _, hj1, _⟩, h1, h2⟩ := h
          exact ⟨HA.out _ _ hj1, (h2 wr.heap.size (by omega) (by omega) (by omega)).trans hbt5⟩)
        (fun y a' W => ∃ b10, (w5.heap.size ≤ b10 ∧ W.heap[b10]? = some (.cells #[.int .i64 y.1.2.1, .int .i64 y.1.2.2.1, .int .i64 y.1.2.2.2] 69 (0, 0))) ∧
          a' = { tmps := #[.slice aa la ca, u1, u2, .pointer (some ⟨w.heap.size, 0, none⟩), .pointer (some ⟨b4, 0, none⟩), u5, .pointer (some ⟨b10, 0, none⟩), .bool true, .slice aa la ca, .func (.func 86) #[] #[.pointer (some ⟨wr.heap.size, 0, none⟩)], .int .i64 y.1.1, arcV y.1.2, u12, u13, u14, u15], defers := [] })
        (fun y a' _ A B row hs hg hr => by
          obtain ⟨b10, ⟨q1, q2⟩, rfl⟩ := hs
          refine ⟨b10, ⟨q1, ?_⟩, rfl⟩
          rw [hg.block b10 (Array.getElem?_eq_some_iff.1 q2).1 (fun e => by
            obtain ⟨_, o, z1, z2⟩ := hr b10 e.symm
            rw [q2] at z1
            cases z1
            cases z2)]
          exact q2) ?assign ?body ?done ?stop
      case stop =>
        rintro D pre W _ _ h _
        exact h.elim
      case assign =>
        intro l pre y W K hP _ hK2
        dsimp only [arcV]
        gi_wp2
        have hlw : w5.heap.size ≤ W.heap.size := hP.size
        exact hK2 _ _ (KeepsFrom.of_grownBy (World.grownBy_alloc W _ none) (fun j e => by cases e)) ((setP_own hw5 HJ.out).alloc _ hP) ⟨_, ⟨hlw, heap_alloc_at _ _⟩, rfl⟩
      case body =>
        rintro l pre y _ W _ hP ⟨b10, ⟨q1, q2⟩, rfl⟩ _
        obtain ⟨⟨b, s1, h4, hj1, hPass⟩, hsz, hO⟩ := hP
        have hsn := arcsOf_snoc pre y
        have hc := Hst.out s1 W y.1.2 y.2 hj1 (by omega)
        obtain ⟨⟨ix, ⟨x1, x2, x3⟩⟩, hy⟩ := y
        simp only at q2 hsn hc ⊢
        obtain ⟨e4, f4⟩ := box_cell h4
        obtain ⟨e3, f3⟩ := box_cell ((hO _ (by omega) (by omega) (by omega)).trans hfn5)
        have z0 : W.cell? ⟨b10, 0, none⟩ = some (.int .i64 x1) := by simp [World.cell?, q2]
        have z1 : W.cell? ⟨b10, 1, none⟩ = some (.int .i64 x2) := by simp [World.cell?, q2]
        have z2 : W.cell? ⟨b10, 2, none⟩ = some (.int .i64 x3) := by simp [World.cell?, q2]
        have Hc : Hid _ := hc
        have HO : Hid _ := hO
        have H4 : Hid _ := h4
        have HP : Hid _ := hPass
        clear hc hO h4 hPass hfn5 hj5 hMk5 hDs hbt5 h4' ho5
        gi_wp2
        refine ⟨trivial, (CallsIn.inRound l (callsIn_wide.2 Hc.out)).mono ?_⟩
        rintro e W2 ⟨s2, b2, rfl, hj2, hm2, hg2, hN⟩
        have hb4W : W2.heap[b4]? = some (.cells #[.bool b] 4 (0, 0)) := (hN.2 b4 (by omega) (Array.getElem?_eq_some_iff.1 H4.out).1).trans H4.out
        have hO2 : ∀ k, w.heap.size ≤ k → k < w5.heap.size → k ≠ b4 → W2.heap[k]? = w5.heap[k]? := fun k k1 k2 k3 => (hN.2 k k1 (by omega)).trans (HO.out k k1 k2 k3)
        have hsz2 : w5.heap.size ≤ W2.heap.size := Nat.le_trans hsz hN.1
        obtain ⟨e4', f4'⟩ := box_cell hb4W
        cases b2
        · obtain ⟨rfl, hG⟩ := hg2 rfl
          gi_wp2
          exact ⟨hN.from hw5, ⟨b, s2, hb4W, hj2, by rw [hsn]; exact HP.out.stay hG⟩, hsz2, hO2⟩
        · have hlt := hm2 rfl
          gi_wp2
          refine ⟨(hN.from hw5).trans ((KeepsOthers.setCell _ _ _).from _), ⟨true, s2, setBox hb4W, HJ.out s2 W2 _ hj2 ((Below.refl _ _).setCell (p := ⟨b4, 0, none⟩) (by show w.heap.size ≤ b4; omega) _), HP.out.more hlt⟩, by simpa [World.setCell] using hsz2, fun k k1 k2 k3 => (Below.heap_setCell _ _ _ _ (by exact k3)).trans (hO2 k k1 k2 k3)⟩
      case done =>
        rintro D ys W hD hys ⟨⟨b, s1, h4, hj1, hP⟩, hsz, hO⟩ hKD
        rw [hys] at hP
        obtain ⟨e4, f4⟩ := box_cell h4
        have hC : Hid (SetI w (.func (.func g) #[] qs) ls J M G (2 * M s1 + (if b then 1 else 0)) W.heap.size b s1 ({ target := .collected D, args := #[] } :: ds) (D :: Ds) (W.alloc (.cells #[.bool b] 4))) := by
          have bn := below_new W (.cells #[.bool b] 4)
          have hfnW := (hO _ (Nat.le_refl _) (by omega) (by omega)).trans hfn5
          refine ⟨rfl, heap_alloc_at _ _, by omega, (bn.block _ (by omega)).trans hfnW, HJ.out s1 W _ hj1 (bn.mono (by omega)), fun e a ha => ?_, ?_⟩
          · obtain ⟨rfl, h2⟩ := hP.none e
            exact h2 a (by simpa using ha)
          · refine Marked.cons (hMk5.kept fun t o hbt ht ho => ?_) (by omega) (fun h => by have := hDs D h; omega) ?_
            · have htl := (Array.getElem?_eq_some_iff.1 ht).1
              rw [bn.block t (by omega), hO t (by omega) htl (fun e => by subst e; rw [h4'] at ht; injection ht with ht; subst ht; cases ho)]
              exact ht
            · rw [bn.block D (Array.getElem?_eq_some_iff.1 hKD).1]; exact hKD
        have hM2 : Hid (2 * M s1 + (if b then 1 else 0) < m) := by
          show _ < _
          have hmeas := Hmeas.out
          cases b
          · rw [(hP.none rfl).1]; simp at hmeas ⊢; omega
          · have := hP.some rfl; simp at hmeas ⊢; omega
        clear hP hO hMk5 hDs hfn5 h4' hbt5 ho5 hj5
        go_wp2
        refine Handed.intro _ hM2.out (hJ2 _ _ _ ⟨_, _, _, _, _, _, _, _, _, _, _, _, _, _, _, _, _, _, hC.out, rfl⟩)

end Go.Proofs.Ytakgppoeikcepaa

/- Plain words for what all marks of a net stay below. -/
namespace Go.Proofs.Ytakgppoeikcepaa
set_option linter.unusedVariables false
set_option maxRecDepth 4000

/-- Has a more than b? -1 is Many. -/
def moreL (a b : Int) : Bool := (b != -1) && ((a == -1) || decide (b < a))
theorem moreL_no {a b : Int} : moreL a b = false ↔ b = -1 ∨ (a ≠ -1 ∧ a ≤ b) := by
  unfold moreL
  rw [Bool.and_eq_false_iff, Bool.or_eq_false_iff, bne_eq_false_iff_eq, decide_eq_false_iff_not, beq_eq_false_iff_ne]
  omega
theorem moreL_yes {a b : Int} : moreL a b = true ↔ b ≠ -1 ∧ (a = -1 ∨ b < a) := by
  unfold moreL
  rw [Bool.and_eq_true, Bool.or_eq_true, bne_iff_ne, decide_eq_true_eq, beq_iff_eq]

def belowTo (a b : List Int) (k : Nat) : Bool := (List.range k).all fun p => !moreL (nth a p) (nth b p)
/-- Nowhere more. -/
def belowL (a b : List Int) : Bool := belowTo a b b.length
theorem belowTo_succ (a b : List Int) (k : Nat) : belowTo a b (k + 1) = (belowTo a b k && !moreL (nth a k) (nth b k)) := by
  simp [belowTo, List.range_succ]
theorem belowTo_iff (a b : List Int) (k : Nat) : belowTo a b k = true ↔ ∀ p, p < k → moreL (nth a p) (nth b p) = false := by
  simp [belowTo, List.all_eq_true]
theorem belowL_iff (a b : List Int) : belowL a b = true ↔ ∀ p, p < b.length → moreL (nth a p) (nth b p) = false := belowTo_iff a b b.length
theorem belowTo_no {a b : List Int} {k : Nat} (hk : k < b.length) (h : moreL (nth a k) (nth b k) = true) : belowL a b = false := by
  cases e : belowL a b
  · rfl
  · rw [(belowL_iff a b).1 e k hk] at h; cases h

def mapTo (k : Nat) (f : Nat → Int) : List Int := (List.range k).map f
theorem mapTo_succ (k : Nat) (f : Nat → Int) : mapTo (k + 1) f = mapTo k f ++ [f k] := by simp [mapTo, List.range_succ]
theorem mapTo_length (k : Nat) (f : Nat → Int) : (mapTo k f).length = k := by simp [mapTo]
theorem mapTo_nth (k : Nat) (f : Nat → Int) (p : Nat) (h : p < k) : nth (mapTo k f) p = f p := by simp [mapTo, nth, List.getD, h]

/-- What firing comes to. -/
def omAt (t : TranL) (m : List Int) (p : Nat) : Int := if nth m p = -1 then -1 else nth m p - nth t.pre p + nth t.post p
def omFire (t : TranL) (m : List Int) : List Int := mapTo m.length (omAt t m)

/-- Those places where x has more than y have Many, if y is below x. -/
def raiseAt (y x : List Int) (p : Nat) : Int := if moreL (nth x p) (nth y p) then -1 else nth x p
def raise1 (y x : List Int) : List Int := if belowL y x then mapTo x.length (raiseAt y x) else x
def raiseAll (mine : List (List Int)) (x : List Int) : List Int := mine.foldl (fun x y => raise1 y x) x
def raiseN (mine : List (List Int)) (x : List Int) : Nat → List Int
  | 0 => x
  | r + 1 => raiseAll mine (raiseN mine x r)

/-- As it was, but where it has Many. -/
def Raised (x z : List Int) : Prop := z.length = x.length ∧ ∀ p, nth z p = -1 ∨ nth z p = nth x p
theorem Raised.refl (x : List Int) : Raised x x := ⟨rfl, fun _ => .inr rfl⟩
theorem Raised.trans {x y z : List Int} (h : Raised x y) (k : Raised y z) : Raised x z := by
  refine ⟨k.1.trans h.1, fun p => ?_⟩
  rcases k.2 p with e | e
  · exact .inl e
  · rw [e]; exact h.2 p
theorem raise1_raised (y x : List Int) : Raised x (raise1 y x) := by
  unfold raise1
  split
  · refine ⟨mapTo_length _ _, fun p => ?_⟩
    by_cases hp : p < x.length
    · rw [mapTo_nth _ _ _ hp, raiseAt]
      split
      · exact .inl rfl
      · exact .inr rfl
    · rw [nth_past _ p (by rw [mapTo_length]; omega), nth_past x p (by omega)]; exact .inr rfl
  · exact Raised.refl x
theorem raiseAll_raised (mine : List (List Int)) : ∀ x, Raised x (raiseAll mine x) := by
  induction mine with
  | nil => exact fun x => Raised.refl x
  | cons y r ih => exact fun x => (raise1_raised y x).trans (ih (raise1 y x))
theorem raiseN_raised (mine : List (List Int)) (x : List Int) : ∀ r, Raised x (raiseN mine x r)
  | 0 => Raised.refl x
  | r + 1 => (raiseN_raised mine x r).trans (raiseAll_raised mine _)
/-- Where nothing has Many, it is as it was. -/
theorem Raised.same {x z : List Int} (h : Raised x z) (hz : ∀ p, nth z p ≠ -1) : z = x := eq_of_at h.1 fun p => by
  rcases h.2 p with e | e
  · exact absurd e (hz p)
  · exact e

/-- Where nobody is below with less somewhere, nothing is changed. -/
theorem raise_still {mine : List (List Int)} {x : List Int} (h : ∀ y ∈ mine, belowL y x = true → ∀ p, p < x.length → moreL (nth x p) (nth y p) = false) (r : Nat) : raiseN mine x r = x := by
  have h1 : ∀ y ∈ mine, raise1 y x = x := by
    intro y hy
    unfold raise1
    split
    · rename_i hb
      refine eq_of_at (mapTo_length _ _) fun p => ?_
      by_cases hp : p < x.length
      · rw [mapTo_nth _ _ _ hp, raiseAt, h y hy hb p hp]; rfl
      · rw [nth_past _ p (by rw [mapTo_length]; omega), nth_past x p (by omega)]
    · rfl
  have h2 : raiseAll mine x = x := by
    clear h
    unfold raiseAll
    induction mine with
    | nil => rfl
    | cons y l ih => rw [List.foldl_cons, h1 y (by simp)]; exact ih fun z hz => h1 z (by simp [hz])
  induction r with
  | zero => rfl
  | succ r ih => rw [raiseN, ih, h2]

/-- A knot, with the marks that it comes of. -/
structure KnotX where
  up : Int
  tran : Int
  mark : List Int
  line : List (List Int)

/-- A knot as it is answered. -/
structure KnotL where
  up : Int
  tran : Int
  mark : List Int

def KnotX.knot (x : KnotX) : KnotL := ⟨x.up, x.tran, x.mark⟩
def KnotX.mine (x : KnotX) : List (List Int) := x.line ++ [x.mark]
def noKnot : KnotX := ⟨0, 0, [], []⟩
def knotAt (s : List KnotX) (k : Nat) : KnotX := s.getD k noKnot
theorem knotAt_append {s r : List KnotX} {k : Nat} (h : k < s.length) : knotAt (s ++ r) k = knotAt s k := by
  rw [knotAt, knotAt, List.getD_eq_getElem?_getD, List.getD_eq_getElem?_getD, List.getElem?_append_left h]
theorem knotAt_last (s : List KnotX) (x : KnotX) : knotAt (s ++ [x]) s.length = x := by
  rw [knotAt, List.getD_eq_getElem?_getD, List.getElem?_append_right (Nat.le_refl _)]; simp
theorem knotAt_get {s : List KnotX} {k : Nat} (h : k < s.length) : knotAt s k = s[k] := by
  rw [knotAt, List.getD_eq_getElem?_getD, List.getElem?_eq_getElem h]; rfl

/-- What comes of a knot by a transition. -/
def kid (n : NetL) (k t : Nat) (x : KnotX) : KnotX := ⟨k, t, raiseN x.mine (omFire (tranAt n.trans t) x.mark) (n.places.toNat + 1), x.mine⟩
def growT (n : NetL) (most k : Nat) (s : List KnotX) (t : Nat) : Option (List KnotX) :=
  if belowL (tranAt n.trans t).pre (knotAt s k).mark then (if most ≤ s.length then none else some (s ++ [kid n k t (knotAt s k)])) else some s
def growTo (n : NetL) (most k : Nat) (s : List KnotX) : Nat → Option (List KnotX)
  | 0 => some s
  | t + 1 => (growTo n most k s t).bind fun s' => growT n most k s' t
def seenK (x : KnotX) : Bool := x.line.contains x.mark
def rootK (m : List Int) : KnotX := ⟨-1, -1, m, []⟩
/-- The first k knots are done. -/
def treeTo (n : NetL) (m : List Int) (most : Nat) : Nat → Option (List KnotX)
  | 0 => some [rootK m]
  | k + 1 => (treeTo n m most k).bind fun s => if k < s.length then (if seenK (knotAt s k) then some s else growTo n most k s n.trans.length) else some s

def treeL (n : NetL) (m : List Int) (most : Int) : List KnotL × Int :=
  if graphOk n m most then
    match treeTo n m most.toNat most.toNat with
    | some s => (s.map KnotX.knot, 0)
    | none => ([], 4)
  else ([], 2)

/-- The most at a place. -/
def topL (p : Nat) (l : List KnotL) (x : Int) : Int := l.foldl (fun x k => if moreL (nth k.mark p) x then nth k.mark p else x) x
def limitL (n : NetL) (m : List Int) (p most : Int) : Int × Int :=
  if (treeL n m most).2 == 0 then (if decide (0 ≤ p) && decide (p < n.places) then (topL p.toNat (treeL n m most).1 0, 0) else (0, 3)) else (0, (treeL n m most).2)

/-- What holds while knots come: k knots are done, and t transitions of knot k. -/
structure Grown (n : NetL) (m : List Int) (most k t : Nat) (s : List KnotX) : Prop where
  most_le : s.length ≤ most
  pos : 0 < s.length
  first : knotAt s 0 = rootK m
  child : ∀ j, 0 < j → j < s.length → ∃ u t', u < j ∧ t' < n.trans.length ∧ belowL (tranAt n.trans t').pre (knotAt s u).mark = true ∧ knotAt s j = kid n u t' (knotAt s u)
  whole : ∀ f j, f < s.length → j < n.trans.length → (f < k ∨ f = k ∧ j < t) → seenK (knotAt s f) = true ∨ belowL (tranAt n.trans j).pre (knotAt s f).mark = false ∨ ∃ g, g < s.length ∧ knotAt s g = kid n f j (knotAt s f)

theorem Grown.start {n : NetL} {m : List Int} {most : Nat} (hm : 1 ≤ most) : Grown n m most 0 0 [rootK m] where
  most_le := hm
  pos := Nat.one_pos
  first := rfl
  child := by intro j h1 h2; simp at h2; omega
  whole := by intro f j h1 h2 h3; omega

theorem Grown.step {n : NetL} {m : List Int} {most k t : Nat} {s s' : List KnotX} (h : Grown n m most k t s) (hk : k < s.length) (ht : t < n.trans.length) (e : growT n most k s t = some s') :
    Grown n m most k (t + 1) s' ∧ s.length ≤ s'.length ∧ ∀ j, j < s.length → knotAt s' j = knotAt s j := by
  unfold growT at e
  split at e
  · rename_i hb
    split at e
    · cases e
    · rename_i hl
      injection e with e
      subst e
      have hlen : (s ++ [kid n k t (knotAt s k)]).length = s.length + 1 := by simp
      refine ⟨⟨by omega, by omega, by rw [knotAt_append h.pos]; exact h.first, ?_, ?_⟩, by omega, fun j hj => knotAt_append hj⟩
      · intro j h1 h2
        by_cases hj : j < s.length
        · obtain ⟨u, t', q1, q2, q3, q4⟩ := h.child j h1 hj
          exact ⟨u, t', q1, q2, by rw [knotAt_append (by omega)]; exact q3, by rw [knotAt_append hj, knotAt_append (by omega)]; exact q4⟩
        · have e : j = s.length := by omega
          subst e
          exact ⟨k, t, hk, ht, by rw [knotAt_append hk]; exact hb, by rw [knotAt_last, knotAt_append hk]⟩
      · intro f j h1 h2 h3
        have hf : f < s.length := by omega
        rw [knotAt_append hf]
        by_cases hn : f = k ∧ j = t
        · obtain ⟨rfl, rfl⟩ := hn
          exact .inr (.inr ⟨s.length, by omega, by rw [knotAt_last]⟩)
        · rcases h.whole f j hf h2 (by omega) with q | q | ⟨g, q1, q2⟩
          · exact .inl q
          · exact .inr (.inl q)
          · exact .inr (.inr ⟨g, by omega, by rw [knotAt_append q1]; exact q2⟩)
  · rename_i hb
    injection e with e
    subst e
    refine ⟨⟨h.most_le, h.pos, h.first, h.child, ?_⟩, Nat.le_refl _, fun j _ => rfl⟩
    intro f j h1 h2 h3
    by_cases hn : f = k ∧ j = t
    · obtain ⟨rfl, rfl⟩ := hn
      exact .inr (.inl (by simpa using hb))
    · exact h.whole f j h1 h2 (by omega)

theorem growTo_grown {n : NetL} {m : List Int} {most k : Nat} {s : List KnotX} (h : Grown n m most k 0 s) (hk : k < s.length) : ∀ (t : Nat) {s' : List KnotX}, t ≤ n.trans.length → growTo n most k s t = some s' →
    Grown n m most k t s' ∧ s.length ≤ s'.length ∧ ∀ j, j < s.length → knotAt s' j = knotAt s j
  | 0, s', _, e => by rw [growTo] at e; injection e with e; subst e; exact ⟨h, Nat.le_refl _, fun _ _ => rfl⟩
  | t + 1, s', ht, e => by
    rw [growTo] at e
    cases e1 : growTo n most k s t with
    | none => rw [e1] at e; cases e
    | some s1 =>
      rw [e1] at e
      obtain ⟨g1, l1, k1⟩ := growTo_grown h hk t (by omega) e1
      obtain ⟨g2, l2, k2⟩ := g1.step (Nat.lt_of_lt_of_le hk l1) (by omega) e
      exact ⟨g2, Nat.le_trans l1 l2, fun j hj => (k2 j (Nat.lt_of_lt_of_le hj l1)).trans (k1 j hj)⟩

theorem treeTo_grown {n : NetL} {m : List Int} {most : Nat} (hm : 1 ≤ most) : ∀ (k : Nat) {s : List KnotX}, treeTo n m most k = some s → Grown n m most k 0 s
  | 0, s, e => by rw [treeTo] at e; injection e with e; subst e; exact Grown.start hm
  | k + 1, s, e => by
    rw [treeTo] at e
    cases e1 : treeTo n m most k with
    | none => rw [e1] at e; cases e
    | some s1 =>
      have g1 := treeTo_grown hm k e1
      rw [e1] at e
      simp only [Option.bind_some] at e
      split at e
      · rename_i hk
        split at e
        · rename_i hs
          injection e with e
          subst e
          refine ⟨g1.most_le, g1.pos, g1.first, g1.child, ?_⟩
          intro f j h1 h2 h3
          by_cases hf : f = k
          · subst hf; exact .inl hs
          · exact g1.whole f j h1 h2 (by omega)
        · obtain ⟨g2, _, _⟩ := growTo_grown g1 hk _ (Nat.le_refl _) e
          exact ⟨g2.most_le, g2.pos, g2.first, g2.child, fun f j h1 h2 h3 => g2.whole f j h1 h2 (by omega)⟩
      · rename_i hk
        injection e with e
        subst e
        exact ⟨g1.most_le, g1.pos, g1.first, g1.child, fun f j h1 h2 h3 => g1.whole f j h1 h2 (by omega)⟩

/-- A tree that is whole. -/
structure TreeOk (n : NetL) (m : List Int) (s : List KnotX) : Prop where
  room : s.length ≤ 300
  fits : fitsL n m = true
  pos : 0 < s.length
  first : knotAt s 0 = rootK m
  child : ∀ j, 0 < j → j < s.length → ∃ u t', u < j ∧ t' < n.trans.length ∧ belowL (tranAt n.trans t').pre (knotAt s u).mark = true ∧ knotAt s j = kid n u t' (knotAt s u)
  whole : ∀ f j, f < s.length → j < n.trans.length → seenK (knotAt s f) = true ∨ belowL (tranAt n.trans j).pre (knotAt s f).mark = false ∨ ∃ g, g < s.length ∧ knotAt s g = kid n f j (knotAt s f)

theorem treeL_ok {n : NetL} {m : List Int} {most : Int} {l : List KnotL} (h : treeL n m most = (l, 0)) : ∃ s, l = s.map KnotX.knot ∧ TreeOk n m s := by
  unfold treeL at h
  split at h
  · rename_i hg
    simp only [graphOk, Bool.and_eq_true, decide_eq_true_eq] at hg
    split at h
    · rename_i s e
      simp only [Prod.mk.injEq, and_true] at h
      have g := treeTo_grown (by omega) _ e
      exact ⟨s, h.symm, by have := g.most_le; omega, hg.2, g.pos, g.first, g.child, fun f j h1 h2 => g.whole f j h1 h2 (.inl (by have := g.most_le; omega))⟩
    · simp at h
  · simp at h
theorem treeL_err {n : NetL} {m : List Int} {most : Int} (h : (treeL n m most).2 ≠ 0) : (treeL n m most).1 = [] := by
  unfold treeL at h ⊢
  split
  · rename_i hg
    rw [if_pos hg] at h
    split at h
    · simp at h
    · rfl
  · rfl
theorem treeL_code (n : NetL) (m : List Int) (most : Int) : (treeL n m most).2 = 0 ∨ (treeL n m most).2 = 2 ∨ (treeL n m most).2 = 4 := by
  unfold treeL
  split
  · split
    · exact .inl rfl
    · exact .inr (.inr rfl)
  · exact .inr (.inl rfl)

end Go.Proofs.Ytakgppoeikcepaa

/- Plain words for nets with a beginning and an end. -/
namespace Go.Proofs.Ytakgppoeikcepaa
set_option linter.unusedVariables false
set_option maxRecDepth 4000

/-- One token, at one place. -/
def startL (P i : Int) : List Int := mapTo (min P 16).toNat fun p => if (p : Int) = i then 1 else 0

theorem start_length (P i : Int) : (startL P i).length = (min P 16).toNat := mapTo_length _ _

theorem start_at (P i : Int) (p : Nat) (hp : p < (min P 16).toNat) : nth (startL P i) p = if (p : Int) = i then 1 else 0 := mapTo_nth _ _ _ hp

theorem start_bounds (P i : Int) (p : Nat) : 0 ≤ nth (startL P i) p ∧ nth (startL P i) p ≤ 1 := by
  by_cases hp : p < (min P 16).toNat
  · rw [start_at P i p hp]
    split <;> omega
  · rw [nth_past _ _ (by rw [start_length]; omega)]; omega

theorem start_right (P i : Int) : rightL (startL P i) = true := (rightL_iff _).2 fun j => by have := start_bounds P i j; omega

/-- Which places are behind a place. -/
def WayP (n : NetL) (f p : Nat) : Prop := ∀ Q : Nat → Prop, Q f → (∀ k a b, k < n.trans.length → Q a → nth (tranAt n.trans k).pre a ≠ 0 → nth (tranAt n.trans k).post b ≠ 0 → Q b) → Q p
/-- Which transitions are. -/
def WayT (n : NetL) (f k : Nat) : Prop := ∃ p, WayP n f p ∧ nth (tranAt n.trans k).pre p ≠ 0

theorem WayP.here (n : NetL) (f : Nat) : WayP n f f := fun Q h _ => h
theorem WayP.step {n : NetL} {f k a b : Nat} (h : WayP n f a) (hk : k < n.trans.length) (h1 : nth (tranAt n.trans k).pre a ≠ 0) (h2 : nth (tranAt n.trans k).post b ≠ 0) : WayP n f b :=
  fun Q q1 q2 => q2 k a b hk (h Q q1 q2) h1 h2

structure ShapeOk (n : NetL) (i o : Int) : Prop where
  ok : netOk n = true
  ne : i ≠ o
  i0 : 0 ≤ i
  i1 : i < n.places
  o0 : 0 ≤ o
  o1 : o < n.places
  p1 : ∀ p : Nat, (p : Int) < n.places → WayP n i.toNat p
  p2 : ∀ p : Nat, (p : Int) < n.places → WayP (turnL n) o.toNat p
  t1 : ∀ k, k < n.trans.length → WayT n i.toNat k
  t2 : ∀ k, k < n.trans.length → WayT (turnL n) o.toNat k
  put : ∀ k, k < n.trans.length → nth (tranAt n.trans k).post i.toNat = 0
  take : ∀ k, k < n.trans.length → nth (tranAt n.trans k).pre o.toNat = 0

/-- What is wrong. -/
structure Judged (n : NetL) (i o e : Int) : Prop where
  bad : netOk n = false → e = 2
  form : netOk n = true → ¬ ShapeOk n i o → e = 1
  right : ShapeOk n i o → e = 0

theorem Judged.unique {n : NetL} {i o e f : Int} (h : Judged n i o e) (k : Judged n i o f) : e = f := by
  cases hn : netOk n with
  | false => rw [h.bad hn, k.bad hn]
  | true =>
    by_cases hs : ShapeOk n i o
    · rw [h.right hs, k.right hs]
    · rw [h.form hn hs, k.form hn hs]

theorem Judged.of_bad {n : NetL} {i o : Int} (h : netOk n = false) : Judged n i o 2 := ⟨fun _ => rfl, fun q => (by rw [h] at q; cases q), fun q => (by have := q.ok; rw [h] at this; cases this)⟩
theorem Judged.of_form {n : NetL} {i o : Int} (h : netOk n = true) (hs : ¬ ShapeOk n i o) : Judged n i o 1 := ⟨fun q => (by rw [h] at q; cases q), fun _ _ => rfl, fun q => absurd q hs⟩
theorem Judged.of_right {n : NetL} {i o : Int} (hs : ShapeOk n i o) : Judged n i o 0 := ⟨fun q => (by have := hs.ok; rw [q] at this; cases this), fun _ q => absurd hs q, fun _ => rfl⟩
theorem Judged.zero {n : NetL} {i o : Int} (h : Judged n i o 0) : ShapeOk n i o := by
  cases hn : netOk n with
  | false => have := h.bad hn; omega
  | true =>
    by_cases hs : ShapeOk n i o
    · exact hs
    · have := h.form hn hs; omega
theorem Judged.not_zero {n : NetL} {i o e : Int} (h : Judged n i o e) (he : e ≠ 0) : ¬ ShapeOk n i o := fun hs => he (h.right hs)

theorem turn_back (n : NetL) : turnL (turnL n) = n := by
  unfold turnL
  simp only [List.map_map]
  cases n with
  | mk P ts =>
    congr 1
    have : (turnT ∘ turnT) = id := by funext t; exact turn_turn t
    rw [this, List.map_id]

theorem turn_ok_iff (n : NetL) : netOk (turnL n) = netOk n := by
  cases h : netOk n with
  | true => exact turn_ok n h
  | false =>
    cases h2 : netOk (turnL n) with
    | false => rfl
    | true =>
      have h3 := turn_ok _ h2
      rw [turn_back, h] at h3
      cases h3

theorem turn_count (n : NetL) : (turnL n).trans.length = n.trans.length := by simp [turnL]

theorem turn_tran (n : NetL) {k : Nat} (hk : k < n.trans.length) : tranAt (turnL n).trans k = turnT (tranAt n.trans k) := turn_at _ _ hk

/-- The other way round it has one, too. -/
theorem ShapeOk.turned {n : NetL} {i o : Int} (h : ShapeOk n i o) : ShapeOk (turnL n) o i where
  ok := by rw [turn_ok_iff]; exact h.ok
  ne := fun e => h.ne e.symm
  i0 := h.o0
  i1 := h.o1
  o0 := h.i0
  o1 := h.i1
  p1 := h.p2
  p2 := by rw [turn_back]; exact h.p1
  t1 := by rw [turn_count]; exact h.t2
  t2 := by rw [turn_back, turn_count]; exact h.t1
  put := by
    rw [turn_count]
    intro k hk
    rw [turn_tran n hk]
    exact h.take k hk
  take := by
    rw [turn_count]
    intro k hk
    rw [turn_tran n hk]
    exact h.put k hk

theorem Judged.turned {n : NetL} {i o e : Int} (h : Judged n i o e) : Judged (turnL n) o i e where
  bad := by rw [turn_ok_iff]; exact h.bad
  form := by
    rw [turn_ok_iff]
    exact fun q hs => h.form q fun k => hs k.turned
  right := fun hs => h.right (by have := hs.turned; rwa [turn_back] at this)

/-- With one more transition, from the end to the beginning. -/
def closeL (n : NetL) (i o : Int) : NetL := ⟨n.places, n.trans ++ [⟨0, startL n.places o, startL n.places i⟩]⟩

/-- What Close answers. -/
structure Closed (n : NetL) (i o : Int) (c : NetL) (e : Int) : Prop where
  right : ShapeOk n i o → n.trans.length < 24 → e = 0 ∧ c = closeL n i o
  full : ShapeOk n i o → ¬ n.trans.length < 24 → e = 4 ∧ c = ⟨0, []⟩
  bad : ¬ ShapeOk n i o → Judged n i o e ∧ c = ⟨0, []⟩

theorem Closed.unique {n c d : NetL} {i o e f : Int} (h : Closed n i o c e) (k : Closed n i o d f) : c = d ∧ e = f := by
  by_cases hs : ShapeOk n i o
  · by_cases hl : n.trans.length < 24
    · obtain ⟨h1, h2⟩ := h.right hs hl
      obtain ⟨k1, k2⟩ := k.right hs hl
      exact ⟨by rw [h2, k2], by rw [h1, k1]⟩
    · obtain ⟨h1, h2⟩ := h.full hs hl
      obtain ⟨k1, k2⟩ := k.full hs hl
      exact ⟨by rw [h2, k2], by rw [h1, k1]⟩
  · obtain ⟨h1, h2⟩ := h.bad hs
    obtain ⟨k1, k2⟩ := k.bad hs
    exact ⟨by rw [h2, k2], h1.unique k1⟩

theorem Closed.zero {n c : NetL} {i o : Int} (h : Closed n i o c 0) : ShapeOk n i o ∧ n.trans.length < 24 ∧ c = closeL n i o := by
  by_cases hs : ShapeOk n i o
  · by_cases hl : n.trans.length < 24
    · exact ⟨hs, hl, (h.right hs hl).2⟩
    · have := (h.full hs hl).1; omega
  · obtain ⟨h1, h2⟩ := h.bad hs
    exact absurd h1.zero hs

theorem Closed.none {n c : NetL} {i o e : Int} (h : Closed n i o c e) (he : e ≠ 0) : c = ⟨0, []⟩ := by
  by_cases hs : ShapeOk n i o
  · by_cases hl : n.trans.length < 24
    · exact absurd (h.right hs hl).1 he
    · exact (h.full hs hl).2
  · exact (h.bad hs).2

theorem head_of {n : NetL} (h : netOk n = true) : 0 ≤ n.places ∧ n.places ≤ 16 ∧ n.trans.length ≤ 24 := by
  simp only [netOk, headOk, Bool.and_eq_true, decide_eq_true_eq] at h
  exact ⟨h.1.1.1, h.1.1.2, h.1.2⟩

theorem start_len {n : NetL} (h : netOk n = true) (i : Int) : ((startL n.places i).length : Int) = n.places := by
  obtain ⟨h0, h1, _⟩ := head_of h
  rw [start_length]; omega

theorem start_fits {n : NetL} (h : netOk n = true) (i : Int) : fitsL n (startL n.places i) = true := fits_mk h (start_len h i) (start_right _ _)

theorem mem_nth {xs : List Int} {x : Int} (h : x ∈ xs) : ∃ j, j < xs.length ∧ nth xs j = x := by
  obtain ⟨j, hj, e⟩ := List.getElem_of_mem h
  exact ⟨j, hj, by simp [nth, List.getD, List.getElem?_eq_getElem hj, e]⟩

theorem start_tran {n : NetL} (h : netOk n = true) (i o : Int) : tranOk n.places ⟨0, startL n.places o, startL n.places i⟩ = true := by
  have l1 := start_len h o
  have l2 := start_len h i
  simp only [tranOk, tranHead, Bool.and_eq_true, beq_iff_eq, decide_eq_true_eq, List.all_eq_true, List.mem_append]
  refine ⟨⟨⟨⟨by omega, by omega⟩, l1⟩, l2⟩, ?_⟩
  rintro x (hx | hx)
  all_goals
    obtain ⟨j, _, rfl⟩ := mem_nth hx
    simp only [weightOk, Bool.and_eq_true, decide_eq_true_eq]
  · have := start_bounds n.places o j; omega
  · have := start_bounds n.places i j; omega

theorem close_ok {n : NetL} (h : netOk n = true) (hl : n.trans.length < 24) (i o : Int) : netOk (closeL n i o) = true := by
  obtain ⟨h0, h1, _⟩ := head_of h
  have hs := start_tran h i o
  simp only [netOk, Bool.and_eq_true] at h
  simp only [netOk, headOk, closeL, Bool.and_eq_true, List.length_append, List.length_cons, List.length_nil, List.all_append, List.all_cons, List.all_nil]
  exact ⟨⟨⟨decide_eq_true h0, decide_eq_true h1⟩, decide_eq_true (by omega)⟩, h.2, hs, trivial⟩

theorem close_count (n : NetL) (i o : Int) : (closeL n i o).trans.length = n.trans.length + 1 := by simp [closeL]

theorem close_at (n : NetL) (i o : Int) {k : Nat} (hk : k < n.trans.length) : tranAt (closeL n i o).trans k = tranAt n.trans k := by
  unfold closeL tranAt List.getD
  simp [List.getElem?_append, hk]

theorem close_last (n : NetL) (i o : Int) : tranAt (closeL n i o).trans n.trans.length = ⟨0, startL n.places o, startL n.places i⟩ := by
  unfold closeL tranAt List.getD
  simp

theorem close_fits {n : NetL} (h : netOk n = true) (hl : n.trans.length < 24) (i o : Int) (m : List Int) : fitsL (closeL n i o) m = fitsL n m := by
  unfold fitsL
  rw [close_ok h hl, h]
  rfl

theorem close_fire {n : NetL} (h : netOk n = true) (hl : n.trans.length < 24) (i o : Int) (m : List Int) {t : Int} (ht : t ≠ n.trans.length) : fireL (closeL n i o) m t = fireL n m t := by
  unfold fireL
  rw [close_fits h hl, close_count]
  have e : decide (t < ((n.trans.length + 1 : Nat) : Int)) = decide (t < (n.trans.length : Int)) := by rw [decide_eq_decide]; omega
  rw [e]
  by_cases q : 0 ≤ t ∧ t < n.trans.length
  · rw [close_at n i o (show t.toNat < n.trans.length by omega)]
  · have f : (decide (0 ≤ t) && decide (t < (n.trans.length : Int))) = false := by
      rw [Bool.and_eq_false_iff, decide_eq_false_iff_not, decide_eq_false_iff_not]
      omega
    rw [f]
    simp

theorem close_run {n : NetL} (h : netOk n = true) (hl : n.trans.length < 24) (i o : Int) (seq : List Int) : ∀ (m : List Int), (n.trans.length : Int) ∉ seq → runL (closeL n i o) m seq = runL n m seq := by
  induction seq with
  | nil => intro m _; unfold runL; rw [close_fits h hl]
  | cons t ts ih =>
    intro m hm
    simp only [List.mem_cons, not_or] at hm
    rw [runL_cons, runL_cons, close_fits h hl, close_fire h hl i o m (fun e => hm.1 e.symm), ih _ hm.2]

/-- From the end the beginning is come to by one firing. -/
theorem close_round {n : NetL} (h : netOk n = true) (hl : n.trans.length < 24) (i o : Int) : fireL (closeL n i o) (startL n.places o) (n.trans.length : Nat) = (startL n.places i, 0) := by
  have hk : n.trans.length < (closeL n i o).trans.length := by rw [close_count]; omega
  have e : addL (subL (startL n.places o) (startL n.places o)) (startL n.places i) = startL n.places i := by
    refine eq_of_at ?_ fun j => ?_
    · rw [add_length, sub_length]
      simp only [start_length]
      omega
    · rw [add_at, sub_at]; omega
  have hf : fitsL (closeL n i o) (startL n.places o) = true := by rw [close_fits h hl]; exact start_fits h o
  have := fire_mk hk hf (by rw [close_last]; exact covers_self _) (by rw [close_last]; simp only; rw [e]; exact start_right _ _)
  rw [this, close_last]
  simp only
  rw [e]

/-- What was closed has no beginning. -/
theorem close_form {n : NetL} {i o : Int} (hs : ShapeOk n i o) (hl : n.trans.length < 24) : ¬ ShapeOk (closeL n i o) i o := by
  intro q
  have h1 := q.put n.trans.length (by rw [close_count]; omega)
  rw [close_last] at h1
  simp only at h1
  obtain ⟨h0, h16, _⟩ := head_of hs.ok
  have := hs.i0
  have := hs.i1
  rw [start_at n.places i i.toNat (by omega), if_pos (by omega)] at h1
  omega

theorem close_same (n : NetL) (i o : Int) : (closeL n i o).trans.take n.trans.length = n.trans := by simp [closeL]

/-! ### at the end nothing goes on -/
theorem end_none {n : NetL} {i o : Int} (hs : ShapeOk n i o) : canTo n (startL n.places o) n.trans.length = [] := by
  rw [List.eq_nil_iff_forall_not_mem]
  intro t ht
  obtain ⟨k, rfl, hk, hc⟩ := (can_mem n _ _ _).1 ht
  obtain ⟨p, _, hp⟩ := hs.t1 k hk
  have hcp := (coversL_iff _ _).1 hc p
  have hpo : (p : Int) ≠ o := fun e => hp (by have := hs.take k hk; rw [← e, Int.toNat_natCast] at this; exact this)
  have hb := (okTok_nth (tran_right (net_tran hs.ok hk)).1 p).1
  have : nth (startL n.places o) p = 0 := by
    by_cases q : p < (min n.places 16).toNat
    · rw [start_at _ _ _ q, if_neg hpo]
    · exact nth_past _ _ (by rw [start_length]; omega)
  omega

/-- Nothing comes to the beginning again. -/
theorem run_low {n : NetL} {i o : Int} (hs : ShapeOk n i o) (seq : List Int) : ∀ {m x : List Int}, runL n m seq = (x, 0) → nth m i.toNat = 0 → nth x i.toNat = 0 := by
  induction seq with
  | nil => intro m x h h0; obtain ⟨_, rfl⟩ := run_nil.1 h; exact h0
  | cons t ts ih =>
    intro m x h h0
    obtain ⟨y, h1, h2⟩ := run_cons.1 h
    refine ih h2 ?_
    obtain ⟨k, rfl, hk, hf, hc, hr, rfl⟩ := fire_ok h1
    have h3 := (coversL_iff _ _).1 hc i.toNat
    have h4 := (okTok_nth (tran_right (net_tran hs.ok hk)).1 i.toNat).1
    rw [add_at, sub_at, hs.put k hk]
    omega

theorem run_gone {n : NetL} {i o : Int} (hs : ShapeOk n i o) {seq x : List Int} (h : runL n (startL n.places i) seq = (x, 0)) (h0 : seq ≠ []) : nth x i.toNat = 0 := by
  cases seq with
  | nil => exact absurd rfl h0
  | cons t ts =>
    obtain ⟨y, h1, h2⟩ := run_cons.1 h
    refine run_low hs ts h2 ?_
    obtain ⟨k, rfl, hk, hf, hc, hr, rfl⟩ := fire_ok h1
    obtain ⟨p, _, hp⟩ := hs.t1 k hk
    have hcp := (coversL_iff _ _).1 hc p
    have hb := (okTok_nth (tran_right (net_tran hs.ok hk)).1 p).1
    have hsb := start_bounds n.places i p
    have hpi : (p : Int) = i := by
      by_cases q : p < (min n.places 16).toNat
      · rw [start_at _ _ _ q] at hcp
        by_cases e : (p : Int) = i
        · exact e
        · rw [if_neg e] at hcp; omega
      · rw [nth_past (startL n.places i) p (by rw [start_length]; omega)] at hcp; omega
    have : i.toNat = p := by omega
    rw [add_at, sub_at, hs.put k hk, this]
    omega

end Go.Proofs.Ytakgppoeikcepaa

/- A box for a space that is made ahead of the space. -/
namespace Go.Proofs.Ytakgppoeikcepaa
open Go.RowKit
set_option linter.unusedVariables false
set_option maxRecDepth 4000

/-- A cell that holds an empty slice is none that a list of marks, each with something, is read from. -/
theorem ints_putNil {w : World} {v : Value} {xs : List Int} {p : Addr} (h : Ints w v xs) (hp : w.cell? p = some (.slice none 0 0)) (u : Value) : Ints (w.setCell p u) v xs := by
  obtain ⟨a, len, cap, e, hl, hm, hs, hr⟩ := h
  refine ⟨a, len, cap, e, hl, hm, hs, fun j hj => ?_⟩
  obtain ⟨b, off, ha, hb, hc⟩ := hr j hj
  refine ⟨b, off, ha, by simpa [World.setCell] using hb, ?_⟩
  rw [World.cell?_setCell_other _ _ _ _ (by intro e; rw [← e, hp] at hc; cases hc)]
  exact hc
theorem lists_putNil {w : World} {v : Value} {ls : List (List Int)} {p : Addr} (h : Lists w v ls) (hne : ∀ j, j < ls.length → markAt ls j ≠ []) (hp : w.cell? p = some (.slice none 0 0)) (u : Value) : Lists (w.setCell p u) v ls := by
  obtain ⟨a, len, cap, e, hl, hm, hs, hr⟩ := h
  refine ⟨a, len, cap, e, hl, hm, hs, fun j hj => ?_⟩
  obtain ⟨b, off, x, ha, hb, hc, hi⟩ := hr j hj
  refine ⟨b, off, x, ha, by simpa [World.setCell] using hb, ?_, ints_putNil hi hp u⟩
  rw [World.cell?_setCell_other _ _ _ _ ?_]
  · exact hc
  · intro e
    rw [← e, hp] at hc
    injection hc with hc
    subst hc
    obtain ⟨a', len', cap', e', hl', _⟩ := hi
    injection e' with _ e'
    exact hne j hj (List.length_eq_zero_iff.1 (by have : (ls.getD j []).length = len' := hl'; rw [← e'] at this; exact this))
theorem arcs_putNil {w : World} {v : Value} {l : List (Int × Int × Int)} {p : Addr} (h : Arcs w v l) (hp : w.cell? p = some (.slice none 0 0)) (u : Value) : Arcs (w.setCell p u) v l := by
  obtain ⟨a, len, cap, e, hl, hm, hs, hr⟩ := h
  refine ⟨a, len, cap, e, hl, hm, hs, fun j hj => ?_⟩
  obtain ⟨b, off, ha, hb, c0, c1, c2⟩ := hr j hj
  refine ⟨b, off, ha, by simpa [World.setCell] using hb, ?_, ?_, ?_⟩
  · rw [World.cell?_setCell_other _ _ _ _ (by intro e; rw [← e, hp] at c0; cases c0)]; exact c0
  · rw [World.cell?_setCell_other _ _ _ _ (by intro e; rw [← e, hp] at c1; cases c1)]; exact c1
  · rw [World.cell?_setCell_other _ _ _ _ (by intro e; rw [← e, hp] at c2; cases c2)]; exact c2
theorem space_putNil {w : World} {v : Value} {s : SpaceL} {p : Addr} (h : Space w v s) (hne : ∀ j, j < s.marks.length → markAt s.marks j ≠ []) (hp : w.cell? p = some (.slice none 0 0)) (u : Value) : Space (w.setCell p u) v s := by
  obtain ⟨mv, av, e, h1, h2⟩ := h
  exact ⟨mv, av, e, lists_putNil h1 hne hp u, arcs_putNil h2 hp u⟩

/-- A box for a space, made and still empty. -/
def NilBox (w : World) (b : Nat) : Prop := w.heap[b]? = some (.cells #[.slice none 0 0, .slice none 0 0] 49 (0, 0))
theorem NilBox.below {w w' : World} {b : Nat} (h : NilBox w b) (hb : Below w.heap.size w w') : NilBox w' b := by unfold NilBox at *; rw [hb.block b (Array.getElem?_eq_some_iff.1 h).1]; exact h
theorem nilBox_new (w : World) : NilBox (w.alloc (.cells #[.slice none 0 0, .slice none 0 0] 49)) w.heap.size := by
  show (w.heap.push _)[w.heap.size]? = _
  exact Array.getElem?_push_size
theorem NilBox.at {w : World} {b : Nat} (h : NilBox w b) : b < w.heap.size ∧ w.cell? ⟨b, 0, none⟩ = some (.slice none 0 0) ∧ w.cell? ⟨b, 1, none⟩ = some (.slice none 0 0) ∧ w.frozen? ⟨b, 0, none⟩ = false ∧ w.frozen? ⟨b, 1, none⟩ = false := by
  have h' := h
  unfold NilBox at h
  exact ⟨(Array.getElem?_eq_some_iff.1 h).1, by simp [World.cell?, h], by simp [World.cell?, h], by simp [World.frozen?, h], by simp [World.frozen?, h]⟩
theorem NilBox.fill {w : World} {b : Nat} {mv av : Value} {s : SpaceL} (h : NilBox w b) (hs : Space w (.agg #[mv, av]) s) (hne : ∀ j, j < s.marks.length → markAt s.marks j ≠ []) :
    Space ((w.setCell ⟨b, 0, none⟩ mv).setCell ⟨b, 1, none⟩ av) (.agg #[mv, av]) s ∧ Box2 ((w.setCell ⟨b, 0, none⟩ mv).setCell ⟨b, 1, none⟩ av) b mv av ∧ Below b w ((w.setCell ⟨b, 0, none⟩ mv).setCell ⟨b, 1, none⟩ av) := by
  obtain ⟨h0, h1, h2, _, _⟩ := h.at
  have e1 : (w.setCell ⟨b, 0, none⟩ mv).cell? ⟨b, 1, none⟩ = some (.slice none 0 0) := by rw [World.cell?_setCell_other _ _ _ _ (by simp)]; exact h2
  refine ⟨space_putNil (space_putNil hs hne h1 mv) hne e1 av, ⟨by simpa [World.setCell] using h0, ?_, World.cell?_setCell_same _ _ _ e1⟩, ((Below.refl _ _).setCell (p := ⟨b, 0, none⟩) (Nat.le_refl _) _).setCell (p := ⟨b, 1, none⟩) (Nat.le_refl _) _⟩
  rw [World.cell?_setCell_other _ _ _ _ (by simp)]
  exact World.cell?_setCell_same _ _ _ h1

theorem graph_full {n : NetL} {m : List Int} {most : Int} (hm : m ≠ []) : ∀ j, j < (graphL n m most).1.marks.length → markAt (graphL n m most).1.marks j ≠ [] := by
  intro j hj e
  by_cases h : (graphL n m most).2 = 0
  · obtain ⟨_, _, hf, _, hF⟩ := graphL_ok (s := (graphL n m most).1) (by rw [← h])
    have h1 := hF.fits _ (markAt_mem hj)
    have h2 := (fits_net h1).2.1
    have h3 := (fits_net hf).2.1
    rw [e] at h2
    have : (m.length : Int) = 0 := by rw [h3, ← h2]; rfl
    exact hm (List.length_eq_zero_iff.1 (by omega))
  · rw [graphL_err h] at hj
    simp at hj

end Go.Proofs.Ytakgppoeikcepaa

/- Stops of ways, plainly: where a way goes on, and what is met on ways from a stop. -/
namespace Go.Proofs.Ytakgppoeikcepaa
set_option linter.unusedVariables false
set_option maxRecDepth 4000

/-- A transition (true), or a place. -/
abbrev Stop := Bool × Nat

/-- A stop of a net. -/
def FitS (n : NetL) (s : Stop) : Prop := if s.1 then s.2 < n.trans.length else (s.2 : Int) < n.places

/-- Those below k that q tells of. -/
def somes (b : Bool) (q : Nat → Bool) (k : Nat) : List Stop := ((List.range k).filter q).map fun j => (b, j)
theorem somes_yes (b : Bool) (q : Nat → Bool) (k : Nat) (h : q k = true) : somes b q (k + 1) = somes b q k ++ [(b, k)] := by
  simp [somes, List.range_succ, List.filter_append, h]
theorem somes_no (b : Bool) (q : Nat → Bool) (k : Nat) (h : q k = false) : somes b q (k + 1) = somes b q k := by
  simp [somes, List.range_succ, List.filter_append, h]
theorem somes_le (b : Bool) (q : Nat → Bool) (k : Nat) : (somes b q k).length ≤ k := by
  simp only [somes, List.length_map]
  exact Nat.le_trans (List.length_filter_le _ _) (by simp)
theorem mem_somes {b : Bool} {q : Nat → Bool} {k : Nat} {s : Stop} : s ∈ somes b q k ↔ s.1 = b ∧ s.2 < k ∧ q s.2 = true := by
  obtain ⟨c, j⟩ := s
  simp only [somes, List.mem_map, List.mem_filter, List.mem_range, Prod.mk.injEq]
  constructor
  · rintro ⟨x, ⟨h1, h2⟩, h3, h4⟩
    subst h4
    exact ⟨h3.symm, h1, h2⟩
  · rintro ⟨h1, h2, h3⟩
    exact ⟨j, ⟨h2, h3⟩, h1.symm, rfl⟩

def putsAt (n : NetL) (k p : Nat) : Bool := decide (0 < nth (tranAt n.trans k).post p)
def takesAt (n : NetL) (p k : Nat) : Bool := decide (0 < nth (tranAt n.trans k).pre p)

/-- Where a way can go on from a stop. -/
def behindL (n : NetL) (s : Stop) : List Stop :=
  if s.1 then somes false (putsAt n s.2) (tranAt n.trans s.2).post.length else somes true (takesAt n s.2) n.trans.length

theorem behind_fits {n : NetL} (hn : netOk n = true) {s t : Stop} (hs : FitS n s) (h : t ∈ behindL n s) : FitS n t := by
  obtain ⟨b, k⟩ := s
  cases b with
  | true =>
    have hk : k < n.trans.length := hs
    have h := mem_somes.1 (show t ∈ somes false _ _ from h)
    obtain ⟨c, j⟩ := t
    obtain ⟨rfl, h2, _⟩ := h
    have hl := (tran_length hn hk).2
    show (j : Int) < n.places
    have h2 : j < (tranAt n.trans k).post.length := h2
    omega
  | false =>
    have h := mem_somes.1 (show t ∈ somes true _ _ from h)
    obtain ⟨c, j⟩ := t
    obtain ⟨rfl, h2, _⟩ := h
    exact h2

theorem behind_le {n : NetL} (hn : netOk n = true) {s : Stop} (hs : FitS n s) : (behindL n s).length ≤ 24 := by
  obtain ⟨b, k⟩ := s
  obtain ⟨h0, h1, h2⟩ := head_of hn
  cases b with
  | true =>
    have hk : k < n.trans.length := hs
    have hl := (tran_length hn hk).2
    have := somes_le false (putsAt n k) (tranAt n.trans k).post.length
    show (somes false (putsAt n k) (tranAt n.trans k).post.length).length ≤ 24
    omega
  | false =>
    have := somes_le true (takesAt n k) n.trans.length
    show (somes true (takesAt n k) n.trans.length).length ≤ 24
    omega

/-- What is on ways from a stop. -/
def OnWay (n : NetL) (s t : Stop) : Prop := ∀ Q : Stop → Prop, Q s → (∀ a b, Q a → b ∈ behindL n a → Q b) → Q t
theorem OnWay.here (n : NetL) (s : Stop) : OnWay n s s := fun Q h _ => h
theorem OnWay.step {n : NetL} {s a b : Stop} (h : OnWay n s a) (hb : b ∈ behindL n a) : OnWay n s b := fun Q q1 q2 => q2 a b (h Q q1 q2) hb
theorem OnWay.first {n : NetL} {s a b : Stop} (hb : a ∈ behindL n s) (h : OnWay n a b) : OnWay n s b := h (fun x => OnWay n s x) ((OnWay.here n s).step hb) fun _ _ q e => q.step e
theorem OnWay.fits {n : NetL} (hn : netOk n = true) {s t : Stop} (hs : FitS n s) (h : OnWay n s t) : FitS n t := h (FitS n) hs fun _ _ q e => behind_fits hn q e

/-- What has been met has become more: what is new is on ways from stops of S, and all behind it has been met. -/
structure Went (n : NetL) (S : Stop → Prop) (vs vs' : List Stop) : Prop where
  sub : ∀ x ∈ vs, x ∈ vs'
  new : ∀ x ∈ vs', x ∈ vs ∨ S x
  shut : ∀ x ∈ vs', x ∉ vs → ∀ y ∈ behindL n x, y ∈ vs'

theorem Went.refl (n : NetL) (S : Stop → Prop) (vs : List Stop) : Went n S vs vs := ⟨fun _ h => h, fun _ h => .inl h, fun x h k => absurd h k⟩

theorem Went.trans {n : NetL} {S T : Stop → Prop} {vs us ws : List Stop} (h : Went n S vs us) (g : Went n T us ws) (hT : ∀ x, T x → S x) : Went n S vs ws where
  sub := fun x hx => g.sub x (h.sub x hx)
  new := fun x hx => by
    rcases g.new x hx with k | k
    · exact h.new x k
    · exact .inr (hT x k)
  shut := fun x hx hn y hy => by
    by_cases k : x ∈ us
    · exact g.sub y (h.shut x k hn y hy)
    · exact g.shut x hx k y hy

/-- One stop, and what is behind it. -/
theorem Went.stop {n : NetL} {s : Stop} {vs us : List Stop} (h : Went n (OnWay n s) (vs ++ [s]) us) (hall : ∀ y ∈ behindL n s, y ∈ us) : Went n (OnWay n s) vs us where
  sub := fun x hx => h.sub x (by simp [hx])
  new := fun x hx => by
    rcases h.new x hx with k | k
    · rcases List.mem_append.1 k with k | k
      · exact .inl k
      · have : x = s := by simpa using k
        subst this
        exact .inr (OnWay.here _ _)
    · exact .inr k
  shut := fun x hx hn y hy => by
    by_cases e : x = s
    · subst e; exact hall y hy
    · exact h.shut x hx (by simp [hn, e]) y hy

/-- From nothing: all that is on ways from a stop. -/
theorem Went.all {n : NetL} {s : Stop} {us : List Stop} (h : Went n (OnWay n s) [] us) (hs : s ∈ us) (x : Stop) : x ∈ us ↔ OnWay n s x := by
  constructor
  · intro hx
    rcases h.new x hx with k | k
    · cases k
    · exact k
  · exact fun hx => hx (fun y => y ∈ us) hs fun a b ha hb => h.shut a ha (by simp) b hb

/-- All stops of a net. -/
def allS (n : NetL) : List Stop := ((List.range n.places.toNat).map fun j => (false, j)) ++ (List.range n.trans.length).map fun j => (true, j)
theorem mem_allS {n : NetL} {s : Stop} : s ∈ allS n ↔ FitS n s := by
  obtain ⟨b, k⟩ := s
  cases b <;> simp [allS, FitS]
theorem allS_length {n : NetL} (h : 0 ≤ n.places) : ((allS n).length : Int) = n.places + n.trans.length := by
  simp only [allS, List.length_append, List.length_map, List.length_range]
  omega

theorem nodup_le : ∀ {l1 l2 : List Stop}, l1.Nodup → (∀ x ∈ l1, x ∈ l2) → l1.length ≤ l2.length := by
  intro l1
  induction l1 with
  | nil => intro l2 _ _; simp
  | cons a r ih =>
    intro l2 hn hs
    obtain ⟨h1, h2⟩ := List.nodup_cons.1 hn
    have ha : a ∈ l2 := hs a (by simp)
    have := ih (l2 := l2.erase a) h2 fun x hx => by
      have hne : x ≠ a := fun e => h1 (e ▸ hx)
      exact (List.mem_erase_of_ne hne).2 (hs x (by simp [hx]))
    rw [List.length_erase_of_mem ha] at this
    have := List.length_pos_of_mem ha
    simp only [List.length_cons]
    omega

theorem nodup_full {l1 l2 : List Stop} (hn : l1.Nodup) (hs : ∀ x ∈ l1, x ∈ l2) (hl : l1.length = l2.length) : ∀ x ∈ l2, x ∈ l1 := by
  intro x hx
  apply Classical.byContradiction
  intro hno
  have := nodup_le (l1 := x :: l1) (l2 := l2) (List.nodup_cons.2 ⟨hno, hn⟩) fun y hy => by
    rcases List.mem_cons.1 hy with rfl | hy
    · exact hx
    · exact hs y hy
  simp only [List.length_cons] at this
  omega

theorem allS_nodup (n : NetL) : (allS n).Nodup := by
  unfold allS
  have inj : ∀ b : Bool, ∀ l : List Nat, l.Nodup → (l.map fun j => (b, j)).Nodup := by
    intro b l h
    rw [List.nodup_iff_pairwise_ne] at h
    simp only [List.nodup_iff_pairwise_ne, List.pairwise_map, ne_eq, Prod.mk.injEq, true_and]
    exact h
  rw [List.nodup_append]
  refine ⟨inj _ _ List.nodup_range, inj _ _ List.nodup_range, ?_⟩
  intro a ha b hb e
  subst e
  simp only [List.mem_map] at ha hb
  obtain ⟨_, _, rfl⟩ := ha
  obtain ⟨_, _, e⟩ := hb
  injection e with e _
  cases e

/-- As many were met as there are: all were. -/
theorem met_all {n : NetL} (hn : netOk n = true) {s : Stop} (hs : FitS n s) {us : List Stop} (hd : us.Nodup) (hm : ∀ x, x ∈ us ↔ OnWay n s x) :
    ((us.length : Int) = n.places + n.trans.length) ↔ ∀ x, FitS n x → OnWay n s x := by
  have hl := allS_length (head_of hn).1
  constructor
  · intro e x hx
    refine (hm x).1 (nodup_full hd (fun y hy => mem_allS.2 ((hm y).1 hy |>.fits hn hs)) (by omega) x (mem_allS.2 hx))
  · intro h
    have h1 := nodup_le hd fun y hy => mem_allS.2 (((hm y).1 hy).fits hn hs)
    have h2 := nodup_le (allS_nodup n) fun y hy => (hm y).2 (h y (mem_allS.1 hy))
    omega

theorem nth_in {xs : List Int} {p : Nat} (h : nth xs p ≠ 0) : p < xs.length := by
  rcases Nat.lt_or_ge p xs.length with h1 | h1
  · exact h1
  · exact absurd (nth_past _ _ h1) h

/-- Ways by stops are ways by places. -/
theorem onWay_place {n : NetL} (hn : netOk n = true) {f p : Nat} : OnWay n (false, f) (false, p) ↔ WayP n f p := by
  constructor
  · intro h
    have := h (fun s => if s.1 then WayT n f s.2 ∧ s.2 < n.trans.length else WayP n f s.2) (WayP.here n f) fun a b ha hb => by
      obtain ⟨ba, ka⟩ := a
      obtain ⟨bb, kb⟩ := b
      cases ba with
      | true =>
        obtain ⟨e, h2, h3⟩ := mem_somes.1 (show (bb, kb) ∈ somes false _ _ from hb)
        simp only at e
        subst e
        obtain ⟨⟨q, hq, hq2⟩, hk⟩ := ha
        have h3 : 0 < nth (tranAt n.trans ka).post kb := of_decide_eq_true h3
        exact hq.step hk hq2 (Int.ne_of_gt h3)
      | false =>
        obtain ⟨e, h2, h3⟩ := mem_somes.1 (show (bb, kb) ∈ somes true _ _ from hb)
        simp only at e
        subst e
        have h3 : 0 < nth (tranAt n.trans kb).pre ka := of_decide_eq_true h3
        exact ⟨⟨ka, ha, Int.ne_of_gt h3⟩, h2⟩
    exact this
  · intro h
    refine h (fun p => OnWay n (false, f) (false, p)) (OnWay.here _ _) fun k a b hk ha h1 h2 => ?_
    have r := tran_right (net_tran hn hk)
    have p1 := (okTok_nth r.1 a).1
    have p2 := (okTok_nth r.2 b).1
    have e1 : 0 < nth (tranAt n.trans k).pre a := by omega
    have e2 : 0 < nth (tranAt n.trans k).post b := by omega
    exact (ha.step (b := (true, k)) (mem_somes.2 ⟨rfl, hk, decide_eq_true e1⟩)).step (mem_somes.2 ⟨rfl, nth_in h2, decide_eq_true e2⟩)

theorem onWay_tran {n : NetL} (hn : netOk n = true) {f k : Nat} (hk : k < n.trans.length) : OnWay n (false, f) (true, k) ↔ WayT n f k := by
  constructor
  · intro h
    have := h (fun s => if s.1 then WayT n f s.2 ∧ s.2 < n.trans.length else OnWay n (false, f) (false, s.2)) (OnWay.here _ _) fun a b ha hb => by
      obtain ⟨ba, ka⟩ := a
      obtain ⟨bb, kb⟩ := b
      cases ba with
      | true =>
        obtain ⟨e, h2, h3⟩ := mem_somes.1 (show (bb, kb) ∈ somes false _ _ from hb)
        simp only at e
        subst e
        obtain ⟨⟨q, hq, hq2⟩, hk2⟩ := ha
        have h3 : 0 < nth (tranAt n.trans ka).post kb := of_decide_eq_true h3
        exact (onWay_place hn).2 (hq.step hk2 hq2 (Int.ne_of_gt h3))
      | false =>
        obtain ⟨e, h2, h3⟩ := mem_somes.1 (show (bb, kb) ∈ somes true _ _ from hb)
        simp only at e
        subst e
        have h3 : 0 < nth (tranAt n.trans kb).pre ka := of_decide_eq_true h3
        exact ⟨⟨ka, (onWay_place hn).1 ha, Int.ne_of_gt h3⟩, h2⟩
    exact this.1
  · rintro ⟨p, hp, h1⟩
    have r := tran_right (net_tran hn hk)
    have p1 := (okTok_nth r.1 p).1
    have e1 : 0 < nth (tranAt n.trans k).pre p := by omega
    exact ((onWay_place hn).2 hp).step (mem_somes.2 ⟨rfl, hk, decide_eq_true e1⟩)

theorem onWay_all {n : NetL} (hn : netOk n = true) {f : Nat} : (∀ x, FitS n x → OnWay n (false, f) x) ↔ (∀ p : Nat, (p : Int) < n.places → WayP n f p) ∧ ∀ k, k < n.trans.length → WayT n f k := by
  constructor
  · intro h
    exact ⟨fun p hp => (onWay_place hn).1 (h (false, p) hp), fun k hk => (onWay_tran hn hk).1 (h (true, k) hk)⟩
  · rintro ⟨h1, h2⟩ ⟨b, k⟩ hx
    cases b with
    | true => exact (onWay_tran hn hx).2 (h2 k hx)
    | false => exact (onWay_place hn).2 (h1 k hx)

end Go.Proofs.Ytakgppoeikcepaa

/- Which places and transitions are behind a place, reckoned round by round. -/
namespace Go.Proofs.Ytakgppoeikcepaa
set_option linter.unusedVariables false
set_option maxRecDepth 4000

/-- What is known so far: of places, of transitions. -/
structure WayS where
  ps : Nat → Bool
  ts : Nat → Bool

/-- Does one of the first j places lead to a transition? -/
def leadTo (ps : Nat → Bool) (w : List Int) (b : Bool) : Nat → Bool
  | 0 => b
  | j + 1 => leadTo ps w b j || (ps j && decide (0 < nth w j))
/-- The first j places that a transition leads to. -/
def feedTo (ps : Nat → Bool) (w : List Int) (b : Bool) (j : Nat) : Nat → Bool := fun q => ps q || (decide (q < j) && (b && decide (0 < nth w q)))
def setAt (ts : Nat → Bool) (k : Nat) (b : Bool) : Nat → Bool := fun j => if j = k then b else ts j

def tranWay (n : NetL) (s : WayS) (k : Nat) : WayS :=
  ⟨feedTo s.ps (tranAt n.trans k).post (leadTo s.ps (tranAt n.trans k).pre (s.ts k) n.places.toNat) n.places.toNat, setAt s.ts k (leadTo s.ps (tranAt n.trans k).pre (s.ts k) n.places.toNat)⟩
def roundWay (n : NetL) (s : WayS) : Nat → WayS
  | 0 => s
  | k + 1 => tranWay n (roundWay n s k) k
def startWay (f : Nat) : WayS := ⟨fun q => decide (q = f), fun _ => false⟩
def waysTo (n : NetL) (f : Nat) : Nat → WayS
  | 0 => startWay f
  | r + 1 => roundWay n (waysTo n f r) n.trans.length
def waysL (n : NetL) (f : Nat) : WayS := waysTo n f (n.places.toNat + n.trans.length)

theorem lead_mono {ps : Nat → Bool} {w : List Int} {b : Bool} (h : b = true) (j : Nat) : leadTo ps w b j = true := by
  induction j with
  | zero => exact h
  | succ j ih => unfold leadTo; rw [ih]; rfl
theorem lead_iff {ps : Nat → Bool} {w : List Int} {b : Bool} (j : Nat) : leadTo ps w b j = true ↔ b = true ∨ ∃ q, q < j ∧ ps q = true ∧ 0 < nth w q := by
  induction j with
  | zero => simp [leadTo]
  | succ j ih =>
    unfold leadTo
    rw [Bool.or_eq_true, ih, Bool.and_eq_true, decide_eq_true_eq]
    constructor
    · rintro ((h | ⟨q, h1, h2⟩) | ⟨h1, h2⟩)
      · exact .inl h
      · exact .inr ⟨q, by omega, h2⟩
      · exact .inr ⟨j, by omega, h1, h2⟩
    · rintro (h | ⟨q, h1, h2⟩)
      · exact .inl (.inl h)
      · by_cases e : q = j
        · subst e; exact .inr h2
        · exact .inl (.inr ⟨q, by omega, h2⟩)
theorem feed_iff {ps : Nat → Bool} {w : List Int} {b : Bool} {j q : Nat} : feedTo ps w b j q = true ↔ ps q = true ∨ (q < j ∧ b = true ∧ 0 < nth w q) := by
  unfold feedTo
  rw [Bool.or_eq_true, Bool.and_eq_true, Bool.and_eq_true, decide_eq_true_eq, decide_eq_true_eq]

/-- Nothing that was known is lost. -/
structure WayLe (s u : WayS) : Prop where
  ps : ∀ q, s.ps q = true → u.ps q = true
  ts : ∀ k, s.ts k = true → u.ts k = true
theorem WayLe.refl (s : WayS) : WayLe s s := ⟨fun _ h => h, fun _ h => h⟩
theorem WayLe.trans {s u v : WayS} (h : WayLe s u) (k : WayLe u v) : WayLe s v := ⟨fun q h1 => k.ps q (h.ps q h1), fun q h1 => k.ts q (h.ts q h1)⟩
theorem WayLe.eq {s u : WayS} (h : WayLe s u) (k : WayLe u s) : s = u := by
  cases s with
  | mk p t =>
    cases u with
    | mk p2 t2 =>
      have e1 : p = p2 := by funext q; rw [Bool.eq_iff_iff]; exact ⟨h.ps q, k.ps q⟩
      have e2 : t = t2 := by funext q; rw [Bool.eq_iff_iff]; exact ⟨h.ts q, k.ts q⟩
      rw [e1, e2]
theorem tran_le (n : NetL) (s : WayS) (k : Nat) : WayLe s (tranWay n s k) := by
  refine ⟨fun q h => feed_iff.2 (.inl h), fun j h => ?_⟩
  show setAt s.ts k _ j = true
  unfold setAt
  split
  · rename_i e; subst e; exact lead_mono h _
  · exact h
theorem round_le (n : NetL) (s : WayS) : ∀ k, WayLe s (roundWay n s k)
  | 0 => WayLe.refl s
  | k + 1 => (round_le n s k).trans (tran_le n _ k)

/-- What is known is so. -/
structure WaySound (n : NetL) (f : Nat) (s : WayS) : Prop where
  ps : ∀ q, s.ps q = true → WayP n f q
  ts : ∀ k, k < n.trans.length → s.ts k = true → WayT n f k
theorem sound_start (n : NetL) (f : Nat) : WaySound n f (startWay f) := by
  refine ⟨fun q h => ?_, fun k _ h => by cases h⟩
  have : q = f := of_decide_eq_true h
  subst this; exact WayP.here n q
theorem sound_tran {n : NetL} {f : Nat} {s : WayS} (h : WaySound n f s) {k : Nat} (hk : k < n.trans.length) : WaySound n f (tranWay n s k) := by
  have hb : leadTo s.ps (tranAt n.trans k).pre (s.ts k) n.places.toNat = true → WayT n f k := fun q => by
    rcases (lead_iff _).1 q with q | ⟨a, h1, h2, h3⟩
    · exact h.ts k hk q
    · exact ⟨a, h.ps a h2, by omega⟩
  refine ⟨fun q hq => ?_, fun j hj hq => ?_⟩
  · rcases feed_iff.1 hq with q1 | ⟨h1, h2, h3⟩
    · exact h.ps q q1
    · obtain ⟨a, h4, h5⟩ := hb h2
      exact h4.step hk h5 (by omega)
  · have hq : setAt s.ts k _ j = true := hq
    unfold setAt at hq
    split at hq
    · rename_i e; subst e; exact hb hq
    · exact h.ts j hj hq
theorem sound_round {n : NetL} {f : Nat} {s : WayS} (h : WaySound n f s) : ∀ k, k ≤ n.trans.length → WaySound n f (roundWay n s k)
  | 0, _ => h
  | k + 1, hk => sound_tran (sound_round h k (by omega)) (by omega)
theorem sound_ways (n : NetL) (f : Nat) : ∀ r, WaySound n f (waysTo n f r)
  | 0 => sound_start n f
  | r + 1 => sound_round (sound_ways n f r) _ (Nat.le_refl _)

/-- How much is not known yet. -/
def gapOf (g : Nat → Bool) (k : Nat) : Nat := ((List.range k).filter fun j => !g j).length
theorem gap_zero (g : Nat → Bool) : gapOf g 0 = 0 := rfl
theorem gap_succ (g : Nat → Bool) (k : Nat) : gapOf g (k + 1) = gapOf g k + (if g k = true then 0 else 1) := by
  unfold gapOf
  rw [List.range_succ, List.filter_append, List.length_append]
  congr 1
  cases h : g k <;> simp [h]
theorem gap_le (g : Nat → Bool) (k : Nat) : gapOf g k ≤ k := by
  induction k with
  | zero => exact Nat.le_refl _
  | succ k ih => rw [gap_succ]; split <;> omega
theorem gap_some {g : Nat → Bool} {k j : Nat} (hj : j < k) (h : g j = true) : gapOf g k + 1 ≤ k := by
  induction k with
  | zero => omega
  | succ k ih =>
    rw [gap_succ]
    by_cases e : j = k
    · subst e; rw [if_pos h]; have := gap_le g j; omega
    · have := ih (by omega)
      split <;> omega
theorem gap_mono {g h : Nat → Bool} (hm : ∀ j, g j = true → h j = true) (k : Nat) : gapOf h k ≤ gapOf g k := by
  induction k with
  | zero => exact Nat.le_refl _
  | succ k ih =>
    rw [gap_succ, gap_succ]
    have := hm k
    by_cases e : g k = true
    · rw [if_pos e, if_pos (this e)]; exact ih
    · rw [if_neg e]; split <;> omega
theorem gap_same {g h : Nat → Bool} (hm : ∀ j, g j = true → h j = true) (k : Nat) (he : gapOf g k ≤ gapOf h k) : ∀ j, j < k → h j = true → g j = true := by
  induction k with
  | zero => intro j hj; omega
  | succ k ih =>
    rw [gap_succ, gap_succ] at he
    have hk := gap_mono hm k
    intro j hj hh
    by_cases e : j = k
    · subst e
      by_cases q : g j = true
      · exact q
      · rw [if_neg q, if_pos hh] at he; omega
    · refine ih ?_ j (by omega) hh
      by_cases q : g k = true
      · rw [if_pos q, if_pos (hm k q)] at he; omega
      · rw [if_neg q] at he; split at he <;> omega

theorem tran_out (n : NetL) (s : WayS) (k : Nat) : (∀ q, n.places.toNat ≤ q → (tranWay n s k).ps q = s.ps q) ∧ (∀ j, j ≠ k → (tranWay n s k).ts j = s.ts j) := by
  refine ⟨fun q hq => ?_, fun j hj => ?_⟩
  · show feedTo _ _ _ _ q = _
    unfold feedTo
    rw [decide_eq_false (by omega)]
    simp
  · show setAt _ _ _ j = _
    unfold setAt
    rw [if_neg hj]
theorem round_out (n : NetL) (s : WayS) : ∀ k, (∀ q, n.places.toNat ≤ q → (roundWay n s k).ps q = s.ps q) ∧ (∀ j, k ≤ j → (roundWay n s k).ts j = s.ts j)
  | 0 => ⟨fun _ _ => rfl, fun _ _ => rfl⟩
  | k + 1 => by
    obtain ⟨h1, h2⟩ := round_out n s k
    obtain ⟨h3, h4⟩ := tran_out n (roundWay n s k) k
    exact ⟨fun q hq => (h3 q hq).trans (h1 q hq), fun j hj => (h4 j (by omega)).trans (h2 j (by omega))⟩

def gapW (n : NetL) (s : WayS) : Nat := gapOf s.ps n.places.toNat + gapOf s.ts n.trans.length
/-- A round that tells nothing new changes nothing. -/
theorem round_same {n : NetL} {s : WayS} (h : gapW n s ≤ gapW n (roundWay n s n.trans.length)) : roundWay n s n.trans.length = s := by
  have hle := round_le n s n.trans.length
  have m1 := gap_mono hle.ps n.places.toNat
  have m2 := gap_mono hle.ts n.trans.length
  unfold gapW at h
  obtain ⟨o1, o2⟩ := round_out n s n.trans.length
  refine (hle.eq ⟨fun q hq => ?_, fun k hk => ?_⟩).symm
  · by_cases e : q < n.places.toNat
    · exact gap_same hle.ps n.places.toNat (by omega) q e hq
    · rw [← o1 q (by omega)]; exact hq
  · by_cases e : k < n.trans.length
    · exact gap_same hle.ts n.trans.length (by omega) k e hk
    · rw [← o2 k (by omega)]; exact hk
theorem round_end (n : NetL) (f : Nat) (hf : f < n.places.toNat) : ∀ r, roundWay n (waysTo n f r) n.trans.length = waysTo n f r ∨ gapW n (waysTo n f r) + r + 1 ≤ n.places.toNat + n.trans.length
  | 0 => by
    right
    have h1 := gap_some (g := (startWay f).ps) (k := n.places.toNat) (j := f) hf (decide_eq_true rfl)
    have h2 := gap_le (startWay f).ts n.trans.length
    show gapOf _ _ + gapOf _ _ + 0 + 1 ≤ _
    show gapOf (startWay f).ps n.places.toNat + gapOf (startWay f).ts n.trans.length + 0 + 1 ≤ _
    omega
  | r + 1 => by
    rcases round_end n f hf r with h | h
    · left
      show roundWay n (roundWay n (waysTo n f r) n.trans.length) n.trans.length = roundWay n (waysTo n f r) n.trans.length
      rw [h, h]
    · by_cases e : gapW n (waysTo n f r) ≤ gapW n (roundWay n (waysTo n f r) n.trans.length)
      · left
        have h1 := round_same e
        show roundWay n (roundWay n (waysTo n f r) n.trans.length) n.trans.length = roundWay n (waysTo n f r) n.trans.length
        rw [h1, h1]
      · right
        show gapW n (roundWay n (waysTo n f r) n.trans.length) + (r + 1) + 1 ≤ _
        omega
theorem ways_stable (n : NetL) (f : Nat) (hf : f < n.places.toNat) : roundWay n (waysL n f) n.trans.length = waysL n f := by
  rcases round_end n f hf (n.places.toNat + n.trans.length) with h | h
  · exact h
  · omega
/-- Where a round changes nothing, no transition does. -/
theorem stable_tran {n : NetL} {s : WayS} (h : roundWay n s n.trans.length = s) {k : Nat} (hk : k < n.trans.length) : tranWay n s k = s := by
  have up : ∀ j d, WayLe (roundWay n s j) (roundWay n s (j + d)) := by
    intro j d
    induction d with
    | zero => exact WayLe.refl _
    | succ d ih => exact ih.trans (tran_le n _ _)
  have at_ : ∀ j, j ≤ n.trans.length → roundWay n s j = s := by
    intro j hj
    have h1 := up j (n.trans.length - j)
    rw [show j + (n.trans.length - j) = n.trans.length by omega, h] at h1
    exact (h1.eq (round_le n s j))
  have h1 := at_ (k + 1) (by omega)
  have h2 := at_ k (by omega)
  have h3 : roundWay n s (k + 1) = tranWay n (roundWay n s k) k := rfl
  rw [h2] at h3
  rw [← h3, h1]
theorem ways_le (n : NetL) (f : Nat) : ∀ r, WayLe (startWay f) (waysTo n f r)
  | 0 => WayLe.refl _
  | r + 1 => (ways_le n f r).trans (round_le n _ _)

/-- All that is behind a place is known in the end. -/
theorem ways_iff {n : NetL} (hn : netOk n = true) {f : Nat} (hf : (f : Int) < n.places) : (∀ q, (waysL n f).ps q = true ↔ WayP n f q) ∧ (∀ k, k < n.trans.length → ((waysL n f).ts k = true ↔ WayT n f k)) := by
  have hs := ways_stable n f (by omega)
  have hsd := sound_ways n f (n.places.toNat + n.trans.length)
  have lead : ∀ k a, k < n.trans.length → (waysL n f).ps a = true → nth (tranAt n.trans k).pre a ≠ 0 → (waysL n f).ts k = true := by
    intro k a hk ha h0
    have e := congrArg WayS.ts (stable_tran hs hk)
    have e2 := congrFun e k
    have e3 : (tranWay n (waysL n f) k).ts k = leadTo (waysL n f).ps (tranAt n.trans k).pre ((waysL n f).ts k) n.places.toNat := by
      show setAt _ _ _ k = _
      unfold setAt
      rw [if_pos rfl]
    rw [← e2, e3, lead_iff]
    have hl := (tran_length hn hk).1
    have hb := (okTok_nth (tran_right (net_tran hn hk)).1 a).1
    refine .inr ⟨a, ?_, ha, by omega⟩
    rcases Nat.lt_or_ge a (tranAt n.trans k).pre.length with q | q
    · omega
    · exact absurd (nth_past _ _ q) h0
  have feed : ∀ k b, k < n.trans.length → (waysL n f).ts k = true → nth (tranAt n.trans k).post b ≠ 0 → (waysL n f).ps b = true := by
    intro k b hk ht h0
    have e := congrArg WayS.ps (stable_tran hs hk)
    have e2 := congrFun e b
    rw [← e2]
    have hl := (tran_length hn hk).2
    have hb := (okTok_nth (tran_right (net_tran hn hk)).2 b).1
    refine feed_iff.2 (.inr ⟨?_, lead_mono ht _, by omega⟩)
    rcases Nat.lt_or_ge b (tranAt n.trans k).post.length with q | q
    · omega
    · exact absurd (nth_past _ _ q) h0
  have full : ∀ q, WayP n f q → (waysL n f).ps q = true := fun q hq =>
    hq (fun q => (waysL n f).ps q = true) ((ways_le n f _).ps f (decide_eq_true rfl)) fun k a b hk ha h1 h2 => feed k b hk (lead k a hk ha h1) h2
  refine ⟨fun q => ⟨hsd.ps q, full q⟩, fun k hk => ⟨hsd.ts k hk, ?_⟩⟩
  rintro ⟨a, h1, h2⟩
  exact lead k a hk (full a h1) h2

end Go.Proofs.Ytakgppoeikcepaa

/- A space while it is built: where it lies, and what it hangs on. -/
namespace Go.Proofs.Ytakgppoeikcepaa
open Go.RowKit
set_option linter.unusedVariables false
set_option maxRecDepth 4000

theorem Row.blocks {w w' : World} {a : Option Addr} {xs : List Int} (h : Row w a xs) (hs : w.heap.size ≤ w'.heap.size) (hk : ∀ k, k < w.heap.size → w'.heap[k]? = w.heap[k]?) : Row w' a xs := by
  intro j hj
  obtain ⟨b, off, ha, hlt, hc⟩ := h j hj
  exact ⟨b, off, ha, Nat.lt_of_lt_of_le hlt hs, by rw [World.cell?_of_block (a := ⟨b, off + j, none⟩) (hk b hlt)]; exact hc⟩
theorem ints_old {w : World} {v : Value} {xs : List Int} (h : Ints w v xs) : On (fun k => k < w.heap.size) w (fun w' => Ints w' v xs) := by
  intro w' hs hk
  obtain ⟨a, len, cap, e, hl, hm, hsh, hr⟩ := h
  exact ⟨a, len, cap, e, hl, hm, hsh, hr.blocks hs fun k hlt => hk k hlt hlt⟩

theorem info_ints : (Try.prog.info? 25).map (fun i => (i.zero, i.size, i.bytes)) = some (some (.slice none 0 0), 1, 24) := by kernel_rfl
theorem info_arc : (Try.prog.info? 69).map (fun i => (i.zero, i.size, i.bytes)) = some (some (.agg #[.int .i64 0, .int .i64 0, .int .i64 0]), 3, 24) := by kernel_rfl

/-- The cells of arcs. -/
def arcCells (l : List ArcL) : List Value := l.flatMap fun a => [.int .i64 (a.frm : Int), .int .i64 (a.tran : Int), .int .i64 (a.dst : Int)]
theorem arcCells_length (l : List ArcL) : (arcCells l).length = l.length * 3 := by
  unfold arcCells
  induction l with
  | nil => rfl
  | cons x r ih => simp only [List.flatMap_cons, List.length_append, ih, List.length_cons, List.length_nil]; omega
theorem arcCells_append (l : List ArcL) (a : ArcL) : arcCells (l ++ [a]) = arcCells l ++ [.int .i64 (a.frm : Int), .int .i64 (a.tran : Int), .int .i64 (a.dst : Int)] := by simp [arcCells]
theorem arcCells_at (l : List ArcL) (j : Nat) (h : j < l.length) :
    (arcCells l)[j * 3]? = some (.int .i64 (l[j].frm : Int)) ∧ (arcCells l)[j * 3 + 1]? = some (.int .i64 (l[j].tran : Int)) ∧ (arcCells l)[j * 3 + 2]? = some (.int .i64 (l[j].dst : Int)) := by
  induction l generalizing j with
  | nil => simp at h
  | cons x r ih =>
    have ec : arcCells (x :: r) = .int .i64 (x.frm : Int) :: .int .i64 (x.tran : Int) :: .int .i64 (x.dst : Int) :: arcCells r := rfl
    match j, h with
    | 0, _ => exact ⟨rfl, rfl, rfl⟩
    | j + 1, h =>
      obtain ⟨q1, q2, q3⟩ := ih j (by simpa using h)
      rw [ec, show (j + 1) * 3 = j * 3 + 3 by omega]
      exact ⟨q1, q2, q3⟩

/-- The space s lies at block x; its two rows are the call's own; the marks hang on none of these, nor on block y. -/
structure SpaceAt (x y B : Nat) (W wr : World) (s : SpaceL) (mv av : Value) (us : List Value) : Prop where
  rowM : wr.ownsRow B 25 1 mv us.length us
  rowA : wr.ownsRow B 69 3 av s.arcs.length (arcCells s.arcs)
  below : Below B W wr
  hx : B ≤ x
  hlt : x < wr.heap.size
  hy : y < B
  c0 : wr.cell? ⟨x, 0, none⟩ = some mv
  c1 : wr.cell? ⟨x, 1, none⟩ = some av
  f0 : wr.frozen? ⟨x, 0, none⟩ = false
  f1 : wr.frozen? ⟨x, 1, none⟩ = false
  apM : mv.ownBlock ≠ some x
  apA : av.ownBlock ≠ some x
  apMA : ∀ k, mv.ownBlock = some k → av.ownBlock ≠ some k
  len : us.length = s.marks.length
  els : ∀ j (hj : j < us.length), us[j].oneCell' = true ∧ On (fun k => k ≠ x ∧ k ≠ y ∧ mv.ownBlock ≠ some k ∧ av.ownBlock ≠ some k) wr (fun w' => Ints w' us[j] (markAt s.marks j))

theorem SpaceAt.to {x y B : Nat} {W wr w' : World} {s : SpaceL} {mv av : Value} {us : List Value} (h : SpaceAt x y B W wr s mv av us) (hb : Below wr.heap.size wr w') : SpaceAt x y B W w' s mv av us :=
  { h with
    rowM := ((ownsRow_on h.rowM).below hb).now
    rowA := ((ownsRow_on h.rowA).below hb).now
    below := h.below.trans (hb.mono (Nat.le_trans h.hx (Nat.le_of_lt h.hlt)))
    hlt := Nat.lt_of_lt_of_le h.hlt hb.size
    c0 := by rw [hb.cell (p := ⟨x, 0, none⟩) h.hlt]; exact h.c0
    c1 := by rw [hb.cell (p := ⟨x, 1, none⟩) h.hlt]; exact h.c1
    f0 := by rw [hb.frozen (p := ⟨x, 0, none⟩) h.hlt]; exact h.f0
    f1 := by rw [hb.frozen (p := ⟨x, 1, none⟩) h.hlt]; exact h.f1
    els := fun j hj => ⟨(h.els j hj).1, (h.els j hj).2.below hb⟩ }

/-- What a row grows by, and a store at block x, leave. -/
theorem grown_set {x : Nat} {w wC : World} {row : Option Nat} (hg : w.grownBy wC row) (a : Addr) (ha : a.block = x) (u : Value) {k : Nat} (hlt : k < w.heap.size) (hk : k ≠ x) (hr : row ≠ some k) :
    (wC.setCell a u).heap[k]? = w.heap[k]? := by
  rw [Below.heap_setCell wC a u k (by rw [ha]; exact hk)]
  exact hg.block k hlt (fun e => hr e.symm)

/-- One more mark. -/
theorem SpaceAt.mark {x y B : Nat} {W wr wC : World} {s : SpaceL} {mv av mv' r : Value} {us : List Value} {z : List Int} (h : SpaceAt x y B W wr s mv av us) (h1 : r.oneCell' = true)
    (hr : On (fun k => k ≠ x ∧ k ≠ y ∧ mv.ownBlock ≠ some k ∧ av.ownBlock ≠ some k) wr (fun w' => Ints w' r z))
    (hown : wC.ownsRow B 25 1 mv' (us.length + 1) (us ++ [r])) (hg : wr.grownBy wC mv.ownBlock) (hat : mv'.ownBlock = mv.ownBlock ∨ mv'.ownBlock = some wr.heap.size) :
    SpaceAt x y B W (wC.setCell ⟨x, 0, none⟩ mv') ⟨s.marks ++ [z], s.arcs⟩ mv' av (us ++ [r]) := by
  have hsz : wr.heap.size ≤ (wC.setCell ⟨x, 0, none⟩ mv').heap.size := Nat.le_trans hg.size (by simp [World.setCell])
  have hM : ∀ k, mv.ownBlock = some k → B ≤ k ∧ k < wr.heap.size := fun k hk => ownsRow_lt h.rowM hk
  have hA : ∀ k, av.ownBlock = some k → B ≤ k ∧ k < wr.heap.size := fun k hk => ownsRow_lt h.rowA hk
  have hcx : wC.heap[x]? = wr.heap[x]? := hg.block x h.hlt (fun e => h.apM e.symm)
  have apM' : mv'.ownBlock ≠ some x := by
    rcases hat with e | e <;> rw [e]
    · exact h.apM
    · have := h.hlt; simp; omega
  have keep : ∀ {R : World → Prop}, On (fun k => k ≠ x ∧ k ≠ y ∧ mv.ownBlock ≠ some k ∧ av.ownBlock ≠ some k) wr R → On (fun k => k ≠ x ∧ k ≠ y ∧ mv'.ownBlock ≠ some k ∧ av.ownBlock ≠ some k) (wC.setCell ⟨x, 0, none⟩ mv') R := by
    intro R hR w2 hs2 hk2
    refine hR w2 (Nat.le_trans hsz hs2) fun k hlt ⟨q1, q2, q3, q4⟩ => ?_
    have q5 : mv'.ownBlock ≠ some k := by
      rcases hat with e | e <;> rw [e]
      · exact q3
      · simp; omega
    rw [hk2 k (Nat.lt_of_lt_of_le hlt hsz) ⟨q1, q2, q5, q4⟩]
    exact grown_set hg ⟨x, 0, none⟩ rfl mv' hlt q1 q3
  refine ⟨?_, ?_, ?_, h.hx, Nat.lt_of_lt_of_le h.hlt hsz, h.hy, ?_, ?_, ?_, ?_, apM', h.apA, ?_, by simp [h.len], fun j hj => ?_⟩
  · have := (ownsRow_on hown).set (a := ⟨x, 0, none⟩) (fun e => apM' e.1) mv'
    simpa using this.now
  · have q := (ownsRow_on h.rowA).to (w' := wC.setCell ⟨x, 0, none⟩ mv') hsz (fun k hlt hk => grown_set hg ⟨x, 0, none⟩ rfl mv' hlt (fun (e : k = x) => h.apA (by rw [← e]; exact hk.1)) (fun e => h.apMA k e hk.1))
    exact q.now
  · exact (h.below.grown hg (Nat.le_trans h.hx (Nat.le_of_lt h.hlt)) (fun k hk => (hM k hk).1)).setCell (p := ⟨x, 0, none⟩) h.hx _
  · exact World.cell?_setCell_same _ _ _ ((World.cell?_of_block (a := ⟨x, 0, none⟩) hcx).trans h.c0)
  · rw [World.cell?_setCell_other _ _ _ _ (by intro q; injection q with _ q2; omega)]; exact (World.cell?_of_block (a := ⟨x, 1, none⟩) hcx).trans h.c1
  · rw [World.frozen?_setCell]; exact (World.frozen?_of_block (a := ⟨x, 0, none⟩) hcx).trans h.f0
  · rw [World.frozen?_setCell]; exact (World.frozen?_of_block (a := ⟨x, 1, none⟩) hcx).trans h.f1
  · intro k hk e
    rcases hat with q | q
    · rw [q] at hk; exact h.apMA k hk e
    · rw [q] at hk; injection hk with hk; have := (hA k e).2; omega
  · by_cases hjl : j < us.length
    · rw [List.getElem_append_left hjl]
      have e : markAt (s.marks ++ [z]) j = markAt s.marks j := markAt_append (by rw [← h.len]; exact hjl)
      exact ⟨(h.els j hjl).1, by show On _ _ (fun w' => Ints w' us[j] (markAt (s.marks ++ [z]) j)); rw [e]; exact keep (h.els j hjl).2⟩
    · have e : j = us.length := by simp at hj; omega
      subst e
      rw [List.getElem_append_right (Nat.le_refl _)]
      simp only [Nat.sub_self, List.getElem_cons_zero]
      refine ⟨h1, ?_⟩
      show On _ _ (fun w' => Ints w' r (markAt (s.marks ++ [z]) us.length))
      rw [h.len, markAt_last]
      exact keep hr

/-- One more arc. -/
theorem SpaceAt.arc {x y B : Nat} {W wr wC : World} {s : SpaceL} {mv av av' : Value} {us : List Value} {a : ArcL} (h : SpaceAt x y B W wr s mv av us)
    (hown : wC.ownsRow B 69 3 av' (s.arcs.length + 1) (arcCells s.arcs ++ [.int .i64 (a.frm : Int), .int .i64 (a.tran : Int), .int .i64 (a.dst : Int)])) (hg : wr.grownBy wC av.ownBlock) (hat : av'.ownBlock = av.ownBlock ∨ av'.ownBlock = some wr.heap.size) :
    SpaceAt x y B W (wC.setCell ⟨x, 1, none⟩ av') ⟨s.marks, s.arcs ++ [a]⟩ mv av' us := by
  have hsz : wr.heap.size ≤ (wC.setCell ⟨x, 1, none⟩ av').heap.size := Nat.le_trans hg.size (by simp [World.setCell])
  have hM : ∀ k, mv.ownBlock = some k → B ≤ k ∧ k < wr.heap.size := fun k hk => ownsRow_lt h.rowM hk
  have hA : ∀ k, av.ownBlock = some k → B ≤ k ∧ k < wr.heap.size := fun k hk => ownsRow_lt h.rowA hk
  have hcx : wC.heap[x]? = wr.heap[x]? := hg.block x h.hlt (fun e => h.apA e.symm)
  have apA' : av'.ownBlock ≠ some x := by
    rcases hat with e | e <;> rw [e]
    · exact h.apA
    · have := h.hlt; simp; omega
  refine ⟨?_, ?_, ?_, h.hx, Nat.lt_of_lt_of_le h.hlt hsz, h.hy, ?_, ?_, ?_, ?_, h.apM, apA', ?_, h.len, fun j hj => ⟨(h.els j hj).1, ?_⟩⟩
  · have q := (ownsRow_on h.rowM).to (w' := wC.setCell ⟨x, 1, none⟩ av') hsz (fun k hlt hk => grown_set hg ⟨x, 1, none⟩ rfl av' hlt (fun (e : k = x) => h.apM (by rw [← e]; exact hk.1)) (h.apMA k hk.1))
    exact q.now
  · have := (ownsRow_on hown).set (a := ⟨x, 1, none⟩) (fun e => apA' e.1) av'
    show World.ownsRow _ B 69 3 av' (s.arcs ++ [a]).length (arcCells (s.arcs ++ [a]))
    rw [arcCells_append]
    simpa using this.now
  · exact (h.below.grown hg (Nat.le_trans h.hx (Nat.le_of_lt h.hlt)) (fun k hk => (hA k hk).1)).setCell (p := ⟨x, 1, none⟩) h.hx _
  · rw [World.cell?_setCell_other _ _ _ _ (by intro q; injection q with _ q2; omega)]; exact (World.cell?_of_block (a := ⟨x, 0, none⟩) hcx).trans h.c0
  · exact World.cell?_setCell_same _ _ _ ((World.cell?_of_block (a := ⟨x, 1, none⟩) hcx).trans h.c1)
  · rw [World.frozen?_setCell]; exact (World.frozen?_of_block (a := ⟨x, 0, none⟩) hcx).trans h.f0
  · rw [World.frozen?_setCell]; exact (World.frozen?_of_block (a := ⟨x, 1, none⟩) hcx).trans h.f1
  · intro k hk e
    rcases hat with q | q
    · rw [q] at e; exact h.apMA k hk e
    · rw [q] at e; injection e with e; have := (hM k hk).2; omega
  · intro w2 hs2 hk2
    refine (h.els j hj).2 w2 (Nat.le_trans hsz hs2) fun k hlt ⟨q1, q2, q3, q4⟩ => ?_
    have q5 : av'.ownBlock ≠ some k := by
      rcases hat with e | e <;> rw [e]
      · exact q4
      · simp; omega
    rw [hk2 k (Nat.lt_of_lt_of_le hlt hsz) ⟨q1, q2, q3, q5⟩]
    exact grown_set hg ⟨x, 1, none⟩ rfl av' hlt q1 q4

/-- Its marks, read. -/
theorem SpaceAt.lists {x y B : Nat} {W wr : World} {s : SpaceL} {mv av : Value} {us : List Value} (h : SpaceAt x y B W wr s mv av us) (hl : us.length ≤ 5864062014805) : Lists wr mv s.marks := by
  have hown := h.rowM
  obtain ⟨_, hcase⟩ := hown
  rcases hcase with ⟨e, h0⟩ | ⟨g, cap', cur, e, hg, hh, hn, hcap, hsz, htake⟩
  · exact ⟨none, us.length, 0, by rw [e, h0], h.len.symm, by omega, ⟨by omega, by omega, fun _ => rfl⟩, fun j hj => absurd hj (by have := h.len; omega)⟩
  · refine ⟨_, us.length, _, e, h.len.symm, by omega, ⟨hn, by unfold maxLen at hcap; omega, fun h => by cases h⟩, fun j hj => ?_⟩
    have hj' : j < us.length := by have := h.len; omega
    refine ⟨g, 0, us[j], rfl, ?_, ?_, (h.els j hj').2.now⟩
    · rcases Nat.lt_or_ge g wr.heap.size with q | q
      · exact q
      · rw [Array.getElem?_eq_none q] at hh; cases hh
    · have hown2 := h.rowM
      rw [e] at hown2
      rw [Nat.zero_add, hown2.cellAt j (by omega), List.getElem?_eq_getElem hj']
theorem SpaceAt.arcsR {x y B : Nat} {W wr : World} {s : SpaceL} {mv av : Value} {us : List Value} (h : SpaceAt x y B W wr s mv av us) (hl : s.arcs.length ≤ 5864062014805) : Arcs wr av (s.arcs.map arcZ) := by
  have hown := h.rowA
  obtain ⟨_, hcase⟩ := hown
  rcases hcase with ⟨e, h0⟩ | ⟨g, cap', cur, e, hg, hh, hn, hcap, hsz, htake⟩
  · exact ⟨none, s.arcs.length, 0, by rw [e, h0], by simp, by omega, ⟨by omega, by omega, fun _ => rfl⟩, fun j hj => absurd hj (by simp; omega)⟩
  · refine ⟨_, s.arcs.length, _, e, by simp, by omega, ⟨hn, by unfold maxLen at hcap; omega, fun h => by cases h⟩, fun j hj => ?_⟩
    have hj' : j < s.arcs.length := by simpa using hj
    have hown2 := h.rowA
    rw [e] at hown2
    obtain ⟨q1, q2, q3⟩ := arcCells_at s.arcs j hj'
    refine ⟨g, 0, rfl, ?_, ?_, ?_, ?_⟩
    · rcases Nat.lt_or_ge g wr.heap.size with q | q
      · exact q
      · rw [Array.getElem?_eq_none q] at hh; cases hh
    · rw [Nat.zero_add, hown2.cellAt (j * 3) (by omega), q1, List.getElem_map]; rfl
    · rw [Nat.zero_add, hown2.cellAt (j * 3 + 1) (by omega), q2, List.getElem_map]; rfl
    · rw [Nat.zero_add, hown2.cellAt (j * 3 + 2) (by omega), q3, List.getElem_map]; rfl

end Go.Proofs.Ytakgppoeikcepaa
