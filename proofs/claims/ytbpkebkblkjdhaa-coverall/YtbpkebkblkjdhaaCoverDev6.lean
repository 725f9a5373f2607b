/- Package cover as it landed: a tree while it grows, where it lies. -/
import Derived.Test.YtbpkebkblkjdhaaCoverDev5
namespace Go.Proofs.Ytbpkebkblkjdhaa
open Go.RowKit
set_option linter.unusedVariables false

/-- A tree that grows: its struct at block x, its knots in a row of its own, each mark in a row of its own, all made since W. -/
structure TreeW (x : Nat) (M : Int) (W wr : World) (s : List KnotX) (kv : Value) (ms : List Value) : Prop where
  below : Below W.heap.size W wr
  hx : W.heap.size ≤ x
  lt : x < wr.heap.size
  cells : wr.heap[x]? = some (.cells #[.int .i64 M, kv] 56 (0, 0))
  rowK : wr.ownsRow W.heap.size 39 3 kv s.length (knotCells s ms)
  apx : kv.ownBlock ≠ some x
  lenM : ms.length = s.length
  marks : ∀ j, j < s.length → (knotAt s j).mark.length ≤ 16 ∧ wr.ownsRow W.heap.size 3 1 (valAt ms j) (knotAt s j).mark.length ((knotAt s j).mark.map (Value.int .i64))
  apM : ∀ j, j < s.length → ∀ b, (valAt ms j).ownBlock = some b → b ≠ x ∧ kv.ownBlock ≠ some b ∧ ∀ i, i < s.length → i ≠ j → (valAt ms i).ownBlock ≠ some b

section
variable {x : Nat} {M : Int} {W wr : World} {s : List KnotX} {kv : Value} {ms : List Value}

theorem TreeW.size (h : TreeW x M W wr s kv ms) : W.heap.size ≤ wr.heap.size := Nat.le_trans h.hx (Nat.le_of_lt h.lt)

theorem TreeW.to {w' : World} (h : TreeW x M W wr s kv ms) (hb : Below wr.heap.size wr w') : TreeW x M W w' s kv ms :=
  { h with
    below := h.below.trans (hb.mono h.size)
    lt := Nat.lt_of_lt_of_le h.lt hb.size
    cells := by rw [hb.block x h.lt]; exact h.cells
    rowK := ((ownsRow_on h.rowK).below hb).now
    marks := fun j hj => ⟨(h.marks j hj).1, ((ownsRow_on (h.marks j hj).2).below hb).now⟩ }

theorem TreeW.mark (h : TreeW x M W wr s kv ms) {j : Nat} (hj : j < s.length) : Ints wr (valAt ms j) (knotAt s j).mark := ownsRow_ints (h.marks j hj).2 (by have := (h.marks j hj).1; omega)

theorem TreeW.knots (h : TreeW x M W wr s kv ms) (hl : s.length ≤ 300) : Knots wr kv (s.map KnotX.knot) := by
  rcases h.rowK.2 with ⟨e, h0⟩ | ⟨g, cap, cur, e, hg, hh, hn, hcap, _⟩
  · exact ⟨none, 0, 0, e, by simp [h0], by omega, ⟨by omega, by omega, fun _ => rfl⟩, fun j hj => absurd hj (by simp [h0])⟩
  · refine ⟨_, s.length, _, e, by simp, by omega, ⟨hn, by unfold maxLen at hcap; omega, fun h => by cases h⟩, fun j hj => ?_⟩
    have hj' : j < s.length := by simpa using hj
    have ho := h.rowK
    rw [e] at ho
    obtain ⟨q1, q2, q3⟩ := triTo_at (fun j => .int .i64 (knotAt s j).up) (fun j => .int .i64 (knotAt s j).tran) (valAt ms) hj'
    refine ⟨g, 0, valAt ms j, rfl, (Array.getElem?_eq_some_iff.1 hh).1, ?_, ?_, ?_, ?_⟩
    · rw [Nat.zero_add, ho.cellAt (j * 3) (by omega), knotOf_map hj']; exact q1
    · rw [Nat.zero_add, ho.cellAt (j * 3 + 1) (by omega), knotOf_map hj']; exact q2
    · rw [Nat.zero_add, ho.cellAt (j * 3 + 2) (by omega)]; exact q3
    · rw [knotOf_map hj']; exact h.mark hj'

theorem TreeW.read (h : TreeW x M W wr s kv ms) (hl : s.length ≤ 300) : TreeR wr x M s kv := ⟨h.lt, h.cells, h.knots hl⟩

theorem TreeW.at (h : TreeW x M W wr s kv ms) : wr.cell? ⟨x, 0, none⟩ = some (.int .i64 M) ∧ wr.cell? ⟨x, 1, none⟩ = some kv ∧ wr.frozen? ⟨x, 1, none⟩ = false := by
  refine ⟨?_, ?_, ?_⟩ <;> simp [World.cell?, World.frozen?, h.cells]

theorem TreeW.slice (h : TreeW x M W wr s kv ms) : ∃ a c, kv = .slice a s.length c := by
  rcases h.rowK.2 with ⟨e, h0⟩ | ⟨g, cap', cur, e, _⟩
  · exact ⟨none, 0, by rw [e, h0]⟩
  · exact ⟨_, _, e⟩

theorem TreeW.elem (h : TreeW x M W wr s kv ms) {k : Nat} (hk : k < s.length) : ∃ g c, kv = .slice (some ⟨g, 0, none⟩) s.length c ∧ g < wr.heap.size ∧ wr.cell? ⟨g, k * 3 + 2, none⟩ = some (valAt ms k) := by
  rcases h.rowK.2 with ⟨e, h0⟩ | ⟨g, c, cur, e, _⟩
  · omega
  · have ho := h.rowK
    rw [e] at ho
    refine ⟨g, c, e, (ownsRow_lt h.rowK (k := g) (by rw [e]; rfl)).2, ?_⟩
    rw [ho.cellAt (k * 3 + 2) (by omega)]
    exact (triTo_at _ _ _ hk).2.2

/-- One more knot. -/
theorem TreeW.grow {wB wC : World} {kv' mv : Value} (h : TreeW x M W wr s kv ms) (y : KnotX) (o : Obj) (hB : Below wr.heap.size wr wB) (hl : y.mark.length ≤ 16)
    (hO : wB.ownsRow wr.heap.size 3 1 mv y.mark.length (y.mark.map (Value.int .i64)))
    (hown : wC.ownsRow W.heap.size 39 3 kv' (s.length + 1) (knotCells s ms ++ [.int .i64 y.up, .int .i64 y.tran, mv])) (hg : (wB.alloc o).grownBy wC kv.ownBlock)
    (hat : kv'.ownBlock = kv.ownBlock ∨ kv'.ownBlock = some (wB.alloc o).heap.size) :
    TreeW x M W (wC.setCell ⟨x, 1, none⟩ kv') (s ++ [y]) kv' (ms ++ [mv]) := by
  have hb := below_then hB (below_new wB o)
  have h1 := h.to hb
  have hs1 : wr.heap.size ≤ wB.heap.size := hB.size
  have hs2 : (wB.alloc o).heap.size = wB.heap.size + 1 := by simp
  have hs3 := hg.size
  have hsW := h.size
  have hxl := h.lt
  have hkv : ∀ k, kv.ownBlock = some k → W.heap.size ≤ k ∧ k < wr.heap.size := fun k hk => ownsRow_lt h.rowK hk
  have hmv : ∀ k, mv.ownBlock = some k → wr.heap.size ≤ k ∧ k < wB.heap.size := fun k hk => ownsRow_lt hO hk
  have hms : ∀ j, j < s.length → ∀ k, (valAt ms j).ownBlock = some k → W.heap.size ≤ k ∧ k < wr.heap.size := fun j hj k hk => ownsRow_lt (h.marks j hj).2 hk
  have hkv' : ∀ k, k < wB.heap.size → kv.ownBlock ≠ some k → kv'.ownBlock ≠ some k := by
    intro k hlt hne
    rcases hat with e | e <;> rw [e]
    · exact hne
    · intro e; injection e with e; omega
  have keep : ∀ k, k < wB.heap.size → k ≠ x → kv.ownBlock ≠ some k → (wC.setCell ⟨x, 1, none⟩ kv').heap[k]? = wB.heap[k]? := by
    intro k hlt hne hnr
    rw [Below.heap_setCell wC ⟨x, 1, none⟩ kv' k hne, hg.block k (by omega) (fun e => hnr e.symm), (below_new wB o).block k hlt]
  have hxx : wC.heap[x]? = some (.cells #[.int .i64 M, kv] 56 (0, 0)) := by
    rw [hg.block x (by omega) (fun e => h.apx e.symm), (below_new wB o).block x (by omega), hB.block x h.lt]; exact h.cells
  have hsC : wB.heap.size ≤ (wC.setCell ⟨x, 1, none⟩ kv').heap.size := by simp [World.setCell]; omega
  have rows : ∀ {v : Value} {B n : Nat} {zs : List Value}, wB.ownsRow B 3 1 v n zs → (∀ k, v.ownBlock = some k → k ≠ x ∧ kv.ownBlock ≠ some k) → (wC.setCell ⟨x, 1, none⟩ kv').ownsRow B 3 1 v n zs := by
    intro v B n zs hv hne
    exact ((ownsRow_on hv).to hsC fun k hlt hd => keep k hlt (hne k hd.1).1 (hne k hd.1).2).now
  have hlen : (s ++ [y]).length = s.length + 1 := by simp
  refine ⟨?_, h.hx, by simp [World.setCell]; omega, ?_, ?_, hkv' x (by omega) h.apx, by simp [h.lenM], fun j hj => ?_, fun j hj b hbk => ?_⟩
  · have b1 : Below W.heap.size W wC := h1.below.grown hg (by omega) (fun k hk => (hkv k hk).1)
    exact b1.setCell (p := ⟨x, 1, none⟩) h.hx _
  · rw [setCell_blockK hxx]; rfl
  · rw [knotCells_append s ms y mv h.lenM, hlen]
    have := (ownsRow_on hown).set (a := ⟨x, 1, none⟩) (fun e => hkv' x (by omega) h.apx e.1) kv'
    exact this.now
  · by_cases hjl : j < s.length
    · rw [knotAt_append hjl, valAt_append (by rw [h.lenM]; exact hjl)]
      refine ⟨(h.marks j hjl).1, rows ((ownsRow_on (h.marks j hjl).2).below hB).now (fun k hk => ?_)⟩
      have := h.apM j hjl k hk
      exact ⟨this.1, this.2.1⟩
    · have e : j = s.length := by omega
      subst e
      rw [knotAt_last]
      have ev : valAt (ms ++ [mv]) s.length = mv := by rw [← h.lenM]; exact valAt_last ms mv
      rw [ev]
      refine ⟨hl, ?_⟩
      have q := rows hO (fun k hk => by have := hmv k hk; exact ⟨by omega, fun e => by have := hkv k e; omega⟩)
      refine ⟨q.1, ?_⟩
      rcases q.2 with e | ⟨g, cap, cur, e, z1, z2⟩
      · exact .inl e
      · exact .inr ⟨g, cap, cur, e, by omega, z2⟩
  · have evn : valAt (ms ++ [mv]) s.length = mv := by rw [← h.lenM]; exact valAt_last ms mv
    have evo : ∀ i, i < s.length → valAt (ms ++ [mv]) i = valAt ms i := fun i hi => valAt_append (by rw [h.lenM]; exact hi)
    by_cases hjl : j < s.length
    · rw [evo j hjl] at hbk
      obtain ⟨q1, q2, q3⟩ := h.apM j hjl b hbk
      have hlt := hms j hjl b hbk
      refine ⟨q1, hkv' b (by omega) q2, fun i hi hne => ?_⟩
      by_cases hil : i < s.length
      · rw [evo i hil]; exact q3 i hil hne
      · have e : i = s.length := by omega
        subst e
        rw [evn]
        intro e
        have := hmv b e
        omega
    · have e : j = s.length := by omega
      subst e
      rw [evn] at hbk
      have hlt := hmv b hbk
      refine ⟨by omega, hkv' b (by omega) (fun e => by have := hkv b e; omega), fun i hi hne => ?_⟩
      have hil : i < s.length := by omega
      rw [evo i hil]
      intro e
      have := hms i hil b e
      omega

/-- As it is answered: each mark in a row of its own. -/
theorem TreeW.own {B : Nat} (h : TreeW x M W wr s kv ms) (hl : s.length ≤ 300) (hB : B ≤ W.heap.size) : Knots wr kv (s.map KnotX.knot) ∧ wr.ownsRow B 39 3 kv s.length (knotCells s ms) := by
  refine ⟨h.knots hl, h.rowK.1, ?_⟩
  rcases h.rowK.2 with e | ⟨g, cap, cur, e, z1, z2⟩
  · exact .inl e
  · exact .inr ⟨g, cap, cur, e, by omega, z2⟩

end

end Go.Proofs.Ytbpkebkblkjdhaa
