/- Beginnings of words in memory. -/
import Derived.Test.YteoofibhpifmlaaDoorTongWords
import Derived.Test.YteoofibhpifmlaaDoorNetDevAll
namespace Go.Proofs.YteoofibhpifmlaaDoor
open Go.RowKit
set_option linter.unusedVariables false
set_option maxRecDepth 4000

/-- The cells of a beginning: where its word lies, and the marks. -/
def begCell (b : Value × List Int × SetL) : List Value := [b.1, .int .u64 (b.2.2.at_ 0 : Nat), .int .u64 (b.2.2.at_ 1 : Nat), .int .u64 (b.2.2.at_ 2 : Nat), .int .u64 (b.2.2.at_ 3 : Nat), .int .u64 (b.2.2.at_ 4 : Nat)]
def begCells (bs : List (Value × List Int × SetL)) : List Value := bs.flatMap begCell
theorem begCells_len : ∀ (bs : List (Value × List Int × SetL)), (begCells bs).length = bs.length * 6
  | [] => rfl
  | b :: bs => by simp only [begCells, List.flatMap_cons, List.length_append] at *; have := begCells_len bs; simp only [begCells] at this; rw [this]; simp [begCell]; omega
theorem begCells_append (bs cs : List (Value × List Int × SetL)) : begCells (bs ++ cs) = begCells bs ++ begCells cs := by simp [begCells]
theorem begCells_at : ∀ (bs : List (Value × List Int × SetL)) (j : Nat) (hj : j < bs.length) (i : Nat), i < 6 → (begCells bs)[j * 6 + i]? = (begCell bs[j])[i]?
  | b :: bs, 0, hj, i, hi => by
    simp only [begCells, List.flatMap_cons, Nat.zero_mul, Nat.zero_add, List.getElem_cons_zero]
    rw [List.getElem?_append_left (by simpa [begCell] using hi)]
  | b :: bs, j + 1, hj, i, hi => by
    have := begCells_at bs j (by simpa using hj) i hi
    simp only [begCells, List.flatMap_cons] at this ⊢
    rw [List.getElem?_append_right (by simp [begCell]; omega)]
    simp only [List.getElem_cons_succ]
    rw [← this]
    congr 1
    simp [begCell]; omega

/-- A value that is a slice of these beginnings. -/
def Begs (w : World) (v : Value) (L : List (List Int × SetL)) : Prop :=
  ∃ a len cap, v = .slice a len cap ∧ L.length = len ∧ Shape a len cap ∧ ∀ j (hj : j < L.length), ∃ b off u, a = some ⟨b, off, none⟩ ∧ b < w.heap.size ∧ w.cell? ⟨b, off + j * 6, none⟩ = some u ∧ Ints w u L[j].1 ∧ SetC w b (off + j * 6 + 1) L[j].2
theorem Begs.below {w w' : World} {v : Value} {L : List (List Int × SetL)} (h : Begs w v L) (hb : Below w.heap.size w w') : Begs w' v L := by
  obtain ⟨a, len, cap, e, hl, hs, hr⟩ := h
  refine ⟨a, len, cap, e, hl, hs, fun j hj => ?_⟩
  obtain ⟨b, off, u, h1, h2, h3, h4, h5⟩ := hr j hj
  exact ⟨b, off, u, h1, Nat.lt_of_lt_of_le h2 hb.size, (hb.cell (p := ⟨b, _, none⟩) h2).trans h3, h4.below hb, h5.below hb⟩
theorem Begs.at {w : World} {a : Option Addr} {len cap : Nat} {L : List (List Int × SetL)} (h : Begs w (.slice a len cap) L) {j : Nat} (hj : j < L.length) : ∃ b off u, a = some ⟨b, off, none⟩ ∧ b < w.heap.size ∧ w.cell? ⟨b, off + j * 6, none⟩ = some u ∧ Ints w u L[j].1 ∧ SetC w b (off + j * 6 + 1) L[j].2 := by
  obtain ⟨a', len', cap', e, hl, hs, hr⟩ := h
  injection e with e1 e2 e3
  subst e1 e2 e3
  exact hr j hj
theorem Begs.slice {w : World} {v : Value} {L : List (List Int × SetL)} (h : Begs w v L) : ∃ a cap, v = .slice a L.length cap := by
  obtain ⟨a, len, cap, e, hl, hs, hr⟩ := h
  exact ⟨a, cap, by rw [e, hl]⟩

/-- Beginnings that the call itself lists; their words lie elsewhere. -/
structure BegOut (B : Nat) (w0 wr : World) (v : Value) (bs : List (Value × List Int × SetL)) : Prop where
  own : wr.ownsRow B 104 6 v bs.length (begCells bs)
  below : Below B w0 wr
  size : B ≤ wr.heap.size
  row : ∀ j (hj : j < bs.length), On (fun k => B ≤ k ∧ some k ≠ v.ownBlock) wr (fun w' => Ints w' bs[j].1 bs[j].2.1)

theorem BegOut.start {w : World} (B : Nat) {w0 : World} (hb : Below B w0 w) (hB : B ≤ w.heap.size) : BegOut B w0 w (.slice none 0 0) [] := ⟨World.ownsRow_nil _ _ _ _, hb, hB, fun j hj => absurd hj (by simp)⟩
theorem BegOut.to {B : Nat} {w0 wr w' : World} {v : Value} {bs : List (Value × List Int × SetL)} (h : BegOut B w0 wr v bs) (hb : Below wr.heap.size wr w') : BegOut B w0 w' v bs :=
  ⟨((ownsRow_on h.own).below hb).now, h.below.trans (hb.mono h.size), Nat.le_trans h.size hb.size, fun j hj => (h.row j hj).below hb⟩
theorem BegOut.step {B : Nat} {w0 wr wB wC W : World} {v v' c : Value} {bs : List (Value × List Int × SetL)} {xs : List Int} {q : SetL} (h : BegOut B w0 wr v bs)
    (hb : Below wr.heap.size wr wB) (k1 : On (fun k => wr.heap.size ≤ k) wB (fun w' => Ints w' c xs)) (hW : Below wB.heap.size wB W)
    (hown : wC.ownsRow B 104 6 v' (bs.length + 1) (begCells bs ++ begCell (c, xs, q))) (hg : W.grownBy wC v.ownBlock)
    (hat : v'.ownBlock = v.ownBlock ∨ v'.ownBlock = some W.heap.size) : BegOut B w0 wC v' (bs ++ [(c, xs, q)]) := by
  have g := h.to (hb.trans (hW.mono hb.size))
  have hov : ∀ k, v.ownBlock = some k → B ≤ k ∧ k < wr.heap.size := fun k hk => ownsRow_lt h.own hk
  have s1 := hb.size
  have s2 := hW.size
  have keep : ∀ {R : World → Prop}, On (fun k => B ≤ k ∧ some k ≠ v.ownBlock) W R → On (fun k => B ≤ k ∧ some k ≠ v'.ownBlock) wC R := by
    intro R hR w2 hs hk
    refine hR w2 (Nat.le_trans hg.size hs) fun k hlt ⟨hkx, hkr⟩ => ?_
    have hk' : some k ≠ v'.ownBlock := by
      rcases hat with e | e <;> rw [e]
      · exact hkr
      · simp; omega
    rw [hk k (Nat.lt_of_lt_of_le hlt hg.size) ⟨hkx, hk'⟩]
    exact hg.block k hlt hkr
  have hB := h.size
  refine ⟨?_, ?_, Nat.le_trans g.size hg.size, fun j hj => ?_⟩
  · rw [begCells_append, List.length_append]
    simpa [begCells] using hown
  · exact g.below.grown hg g.size (fun k hk => (hov k hk).1)
  · by_cases hjl : j < bs.length
    · rw [List.getElem_append_left hjl]
      exact keep (g.row j hjl)
    · have e : j = bs.length := by simp at hj; omega
      subst e
      rw [List.getElem_append_right (Nat.le_refl _)]
      simp only [Nat.sub_self, List.getElem_cons_zero]
      refine keep ((k1.below hW).weaken fun k hlt hk => ⟨by omega, fun e => ?_⟩)
      have := hov k e.symm
      omega
/-- The same, with where the words lie. -/
def BegsV (w : World) (v : Value) (bs : List (Value × List Int × SetL)) : Prop :=
  ∃ a len cap, v = .slice a len cap ∧ bs.length = len ∧ Shape a len cap ∧ ∀ j (hj : j < bs.length), ∃ b off, a = some ⟨b, off, none⟩ ∧ b < w.heap.size ∧ w.cell? ⟨b, off + j * 6, none⟩ = some bs[j].1 ∧ Ints w bs[j].1 bs[j].2.1 ∧ SetC w b (off + j * 6 + 1) bs[j].2.2
theorem BegsV.begs {w : World} {v : Value} {bs : List (Value × List Int × SetL)} (h : BegsV w v bs) : Begs w v (bs.map (·.2)) := by
  obtain ⟨a, len, cap, e, hl, hs, hr⟩ := h
  refine ⟨a, len, cap, e, by simpa using hl, hs, fun j hj => ?_⟩
  obtain ⟨b, off, h1, h2, h3, h4, h5⟩ := hr j (by simpa using hj)
  exact ⟨b, off, _, h1, h2, h3, by simpa using h4, by simpa using h5⟩
theorem BegsV.at {w : World} {a : Option Addr} {len cap : Nat} {bs : List (Value × List Int × SetL)} (h : BegsV w (.slice a len cap) bs) {j : Nat} (hj : j < bs.length) : ∃ b off, a = some ⟨b, off, none⟩ ∧ b < w.heap.size ∧ w.cell? ⟨b, off + j * 6, none⟩ = some bs[j].1 ∧ Ints w bs[j].1 bs[j].2.1 ∧ SetC w b (off + j * 6 + 1) bs[j].2.2 := by
  obtain ⟨a', len', cap', e, hl, hs, hr⟩ := h
  injection e with e1 e2 e3
  subst e1 e2 e3
  exact hr j hj
theorem BegsV.slice {w : World} {v : Value} {bs : List (Value × List Int × SetL)} (h : BegsV w v bs) : ∃ a cap, v = .slice a bs.length cap := by
  obtain ⟨a, len, cap, e, hl, hs, hr⟩ := h
  exact ⟨a, cap, by rw [e, hl]⟩
theorem BegOut.begsV {B : Nat} {w0 wr : World} {v : Value} {bs : List (Value × List Int × SetL)} (h : BegOut B w0 wr v bs) : On (fun k => B ≤ k) wr (fun w' => BegsV w' v bs) := by
  intro w' hs hk
  have hown := ((ownsRow_on h.own) w' hs fun k hlt hD => hk k hlt hD.2)
  have hrow : ∀ j (hj : j < bs.length), Ints w' bs[j].1 bs[j].2.1 := fun j hj => (h.row j hj) w' hs fun k hlt hD => hk k hlt hD.1
  have hown0 := hown
  obtain ⟨_, hcase⟩ := hown
  rcases hcase with ⟨rfl, h0⟩ | ⟨g, cap', cur, rfl, hg, hh, hn, hcap, hsz, htake⟩
  · have e : bs = [] := List.length_eq_zero_iff.1 h0
    subst e
    exact ⟨none, 0, 0, rfl, rfl, ⟨by omega, by omega, fun _ => rfl⟩, fun j hj => absurd hj (by simp)⟩
  · refine ⟨_, _, _, rfl, by simp, ⟨hn, by unfold maxLen at hcap; omega, fun h => by cases h⟩, fun j hj => ?_⟩
    have hj' : j < bs.length := by simpa using hj
    have hlt : g < w'.heap.size := (Array.getElem?_eq_some_iff.1 hh).1
    have cell : ∀ i, i < 6 → w'.cell? ⟨g, j * 6 + i, none⟩ = (begCell bs[j])[i]? := fun i hi => by
      rw [hown0.cellAt (j * 6 + i) (by omega)]
      exact begCells_at bs j hj' i hi
    refine ⟨g, 0, rfl, hlt, ?_, ?_, ⟨hlt, ?_, ?_, ?_, ?_, ?_⟩⟩
    · have := cell 0 (by omega); simpa [begCell] using this
    · exact hrow j hj'
    · have := cell 1 (by omega); simpa [begCell] using this
    · have := cell 2 (by omega); simpa [begCell, Nat.add_assoc] using this
    · have := cell 3 (by omega); simpa [begCell, Nat.add_assoc] using this
    · have := cell 4 (by omega); simpa [begCell, Nat.add_assoc] using this
    · have := cell 5 (by omega); simpa [begCell, Nat.add_assoc] using this

theorem info_begun : (Tryd.prog.info? 104).map (fun i => (i.zero, i.size, i.bytes)) = some (some (.agg #[.slice none 0 0, .int .u64 0, .int .u64 0, .int .u64 0, .int .u64 0, .int .u64 0]), 6, 64) := by kernel_rfl

theorem wpr_append_beg {o : Oper} {a : Act} {K : Act → World → Prop} {Q : Exit → Act → World → Prop} {Y : Nat → Option Bool} (hwt : Region.wanted o Y = true) (s x : Operand)
    (ho : o.op = .call { callee := .builtin .append, args := #[s, x], argTypes := #[101, 101] }) (B : Nat) (wr : World) (v : Value) (bs : List (Value × List Int × SetL))
    (a1 : Option Addr) (l1 p1 : Nat) (xs : List Int) (q : SetL) (hown : wr.ownsRow B 104 6 v bs.length (begCells bs))
    (hs : a.eval s = v) (hx : a.eval x = .slice (some ⟨wr.heap.size, 0, none⟩) 1 1) (hl : bs.length + 1 ≤ 1000000) (hB : B ≤ wr.heap.size)
    (h : ∀ v' w', w'.ownsRow B 104 6 v' (bs.length + 1) (begCells bs ++ begCell (.slice a1 l1 p1, xs, q)) → (wr.alloc (.cells #[.slice a1 l1 p1, .int .u64 (q.at_ 0 : Nat), .int .u64 (q.at_ 1 : Nat), .int .u64 (q.at_ 2 : Nat), .int .u64 (q.at_ 3 : Nat), .int .u64 (q.at_ 4 : Nat)] 104)).grownBy w' v.ownBlock →
      (v'.ownBlock = v.ownBlock ∨ v'.ownBlock = some (wr.alloc (.cells #[.slice a1 l1 p1, .int .u64 (q.at_ 0 : Nat), .int .u64 (q.at_ 1 : Nat), .int .u64 (q.at_ 2 : Nat), .int .u64 (q.at_ 3 : Nat), .int .u64 (q.at_ 4 : Nat)] 104)).heap.size) → K (a.put o.dst v') w') :
    if Region.wanted o Y = true then Oper.wp Tryd.prog o a (wr.alloc (.cells #[.slice a1 l1 p1, .int .u64 (q.at_ 0 : Nat), .int .u64 (q.at_ 1 : Nat), .int .u64 (q.at_ 2 : Nat), .int .u64 (q.at_ 3 : Nat), .int .u64 (q.at_ 4 : Nat)] 104)) K Q else K (a.put o.dst undef) (wr.alloc (.cells #[.slice a1 l1 p1, .int .u64 (q.at_ 0 : Nat), .int .u64 (q.at_ 1 : Nat), .int .u64 (q.at_ 2 : Nat), .int .u64 (q.at_ 3 : Nat), .int .u64 (q.at_ 4 : Nat)] 104)) := by
  obtain ⟨i0, hi, hz0, hz1, hz2⟩ := info_parts info_begun
  refine wp_append_at _ hwt s x 101 ho B 104 i0 _ 6 64 Tryd.underlying101 hi hz0 hz1 hz2 rfl (by decide) v bs.length _ hs (hown.alloc _) ⟨wr.heap.size, 0, none⟩ 1 1 (begCell (.slice a1 l1 p1, xs, q)) hx rfl ?_ ?_ ?_ ?_ ?_ h
  · intro j u hj
    rw [addr_add, World.cell?_alloc_at _ _ _ _ rfl]
    match j, hj with
    | 0, hj => simpa [begCell] using hj
    | 1, hj => simpa [begCell] using hj
    | 2, hj => simpa [begCell] using hj
    | 3, hj => simpa [begCell] using hj
    | 4, hj => simpa [begCell] using hj
    | 5, hj => simpa [begCell] using hj
  · intro u hu
    simp only [begCell, List.mem_cons, List.not_mem_nil, or_false] at hu
    rcases hu with rfl | rfl | rfl | rfl | rfl | rfl <;> rfl
  · unfold maxLen; omega
  · omega
  · simp; omega

end Go.Proofs.YteoofibhpifmlaaDoor
