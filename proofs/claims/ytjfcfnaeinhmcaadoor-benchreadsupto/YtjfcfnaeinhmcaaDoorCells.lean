/- Slices of structs as their cells, one behind the other. -/
import Derived.Test.YtjfcfnaeinhmcaaDoorOwn
import Derived.Test.YtjfcfnaeinhmcaaDoorFoot
import Derived.Lib.AppendZeros
import Derived.Lib.SliceRun
import Derived.Maps.AppendAt
namespace Go.Proofs.YtjfcfnaeinhmcaaDoor
open Go.RowKit
set_option linter.unusedVariables false
set_option linter.unusedSimpArgs false
set_option maxRecDepth 4000

/-- A slice of n elements, 'size' cells each: these. -/
def CellsV (w : World) (v : Value) (size most n : Nat) (xs : List Value) : Prop :=
  ∃ a cap, v = .slice a n cap ∧ xs.length = n * size ∧ n ≤ most ∧ Shape a n cap ∧ (∀ u ∈ xs, u.oneCell' = true) ∧
    ∀ j u, xs[j]? = some u → ∃ b off, a = some ⟨b, off, none⟩ ∧ b < w.heap.size ∧ w.cell? ⟨b, off + j, none⟩ = some u
theorem CellsV.below {w w' : World} {v : Value} {size most n : Nat} {xs : List Value} (h : CellsV w v size most n xs) (hb : Below w.heap.size w w') : CellsV w' v size most n xs := by
  obtain ⟨a, cap, e, hl, hm, hs, h1, hr⟩ := h
  refine ⟨a, cap, e, hl, hm, hs, h1, fun j u hj => ?_⟩
  obtain ⟨b, off, ha, hlt, hc⟩ := hr j u hj
  exact ⟨b, off, ha, Nat.lt_of_lt_of_le hlt hb.size, by rw [hb.cell (p := ⟨b, _, none⟩) hlt]; exact hc⟩
theorem CellsV.slice {w : World} {v : Value} {size most n : Nat} {xs : List Value} (h : CellsV w v size most n xs) : ∃ a cap, v = .slice a n cap ∧ n ≤ most ∧ Shape a n cap := by
  obtain ⟨a, cap, e, hl, hm, hs, h1, hr⟩ := h
  exact ⟨a, cap, e, hm, hs⟩
theorem CellsV.nil (w : World) (size most : Nat) : CellsV w (.slice none 0 0) size most 0 [] := ⟨none, 0, rfl, by simp, by omega, ⟨by omega, by omega, fun _ => rfl⟩, fun u hu => absurd hu (by simp), fun j u hj => absurd hj (by simp)⟩
theorem CellsV.take {w : World} {a : Option Addr} {size most n cap m : Nat} {xs : List Value} (h : CellsV w (.slice a n cap) size most n xs) (hm : m ≤ n) : CellsV w (.slice a m cap) size most m (xs.take (m * size)) := by
  obtain ⟨a', cap', e, hl, hmx, ⟨s1, s2, s3⟩, h1, hr⟩ := h
  injection e with e1 e2 e3
  subst e1 e3
  have hms : m * size ≤ n * size := Nat.mul_le_mul_right _ hm
  refine ⟨a, cap, rfl, by rw [List.length_take]; omega, by omega, ⟨by omega, s2, s3⟩, fun u hu => h1 u (List.mem_of_mem_take hu), fun j u hj => ?_⟩
  have hjl : j < m * size := by
    rcases Nat.lt_or_ge j (m * size) with q | q
    · exact q
    · rw [List.getElem?_eq_none (by rw [List.length_take]; omega)] at hj; cases hj
  rw [List.getElem?_take, if_pos hjl] at hj
  exact hr j u hj

/-- A slice of such elements that the call itself has made. -/
def OwnC (B : Nat) (w wr : World) (e : TypeId) (size : Nat) (v : Value) (n : Nat) (xs : List Value) : Prop := wr.ownsRow B e size v n xs ∧ Below B w wr ∧ B ≤ wr.heap.size
theorem OwnC.nil (w : World) (e : TypeId) (size : Nat) : OwnC w.heap.size w w e size (.slice none 0 0) 0 [] := ⟨World.ownsRow_nil _ _ _ _, Below.refl _ _, Nat.le_refl _⟩
theorem OwnC.nil_of {B : Nat} {w wr : World} {e : TypeId} {size : Nat} (hb : Below B w wr) (hB : B ≤ wr.heap.size) : OwnC B w wr e size (.slice none 0 0) 0 [] := ⟨World.ownsRow_nil _ _ _ _, hb, hB⟩
theorem ownsRow_cells {B : Nat} {wr : World} {e : TypeId} {size : Nat} {v : Value} {n : Nat} {xs : List Value} (h : wr.ownsRow B e size v n xs) {most : Nat} (hl : n ≤ most) (h1 : ∀ u ∈ xs, u.oneCell' = true) : CellsV wr v size most n xs := by
  have h0 := h
  obtain ⟨hlen, hcase⟩ := h
  rcases hcase with ⟨rfl, h0'⟩ | ⟨g, cap', cur, rfl, hg, hh, hn, hcap, hsz, htake⟩
  · refine ⟨none, 0, by rw [h0'], hlen, hl, ⟨by omega, by omega, fun _ => rfl⟩, h1, fun j u hj => ?_⟩
    rw [List.getElem?_eq_none (by rw [hlen, h0']; omega)] at hj; cases hj
  · refine ⟨_, cap', rfl, hlen, hl, ⟨hn, by unfold maxLen at hcap; omega, fun h => by cases h⟩, h1, fun j u hj => ⟨g, 0, rfl, ?_, ?_⟩⟩
    · rcases Nat.lt_or_ge g wr.heap.size with h | h
      · exact h
      · rw [Array.getElem?_eq_none h] at hh; cases hh
    · have hjl : j < n * size := by
        rcases Nat.lt_or_ge j (n * size) with q | q
        · exact q
        · rw [List.getElem?_eq_none (by omega)] at hj; cases hj
      rw [Nat.zero_add, h0.cellAt j (by omega)]
      exact hj
theorem OwnC.cells {B : Nat} {w wr : World} {e : TypeId} {size : Nat} {v : Value} {n : Nat} {xs : List Value} (h : OwnC B w wr e size v n xs) {most : Nat} (hl : n ≤ most) (h1 : ∀ u ∈ xs, u.oneCell' = true) : CellsV wr v size most n xs := ownsRow_cells h.1 hl h1
theorem OwnC.trans {B : Nat} {w wr w2 : World} {e : TypeId} {size : Nat} {v : Value} {n : Nat} {xs : List Value} (h : OwnC B w wr e size v n xs) (hb : Below wr.heap.size wr w2) : OwnC B w w2 e size v n xs := by
  obtain ⟨hown, hb0, hB⟩ := h
  refine ⟨hown.kept (row := none) ⟨hb.os, hb.tape, hb.output, hb.size, fun k hk _ => hb.block k hk⟩ ?_, hb0.trans (hb.mono hB), Nat.le_trans hB hb.size⟩
  cases hv : v.ownBlock with
  | none => exact .inl rfl
  | some k => exact .inr (by simp)
theorem OwnC.slice {B : Nat} {w wr : World} {e : TypeId} {size : Nat} {v : Value} {n : Nat} {xs : List Value} (h : OwnC B w wr e size v n xs) : ∃ a c, v = .slice a n c := by
  rcases h.1.2 with ⟨rfl, h0⟩ | ⟨g, cap', cur, rfl, _⟩
  · exact ⟨_, _, by rw [h0]⟩
  · exact ⟨_, _, rfl⟩

/-- What a type of elements is: its cells, its bytes, its zero value. -/
structure ElemT (t e : TypeId) (size bytes : Nat) : Prop where
  under : Tryd.prog.underlying t = some (.slice e)
  info : ∃ i z, Tryd.prog.info? e = some i ∧ i.zero = some z ∧ i.size = size ∧ i.bytes = bytes ∧ z.cells.size = size
  pos : 0 < size
theorem ElemT.of {t e : TypeId} {size bytes : Nat} {z : Value} (ht : Tryd.prog.underlying t = some (.slice e)) (hi : (Tryd.prog.info? e).map (fun i => (i.zero, i.size, i.bytes)) = some (some z, size, bytes)) (hz : z.cells.size = size) (hp : 0 < size) : ElemT t e size bytes := by
  obtain ⟨i0, h0, h1, h2, h3⟩ := info_parts hi
  exact ⟨ht, ⟨i0, z, h0, h1, h2, h3, hz⟩, hp⟩

/-- append of all of another slice. -/
theorem wp_append_cells {t e : TypeId} {size bytes : Nat} (T : ElemT t e size bytes) {ops : Array Oper} {rest : List Oper} {o : Oper} {a : Act} {Q : Exit → Act → World → Prop} (hgd : o.guard = none) (s x : Operand)
    (ho : o.op = .call { callee := .builtin .append, args := #[s, x], argTypes := #[t, t] }) (B : Nat) (w wr : World) (v u : Value) (n m most : Nat) (zs ys : List Value) (hG : OwnC B w wr e size v n zs)
    (hs : a.eval s = v) (hx : a.eval x = u) (hu : CellsV wr u size most m ys) (hl : n + m ≤ maxLen) (hby : (n + m) * bytes ≤ 140737488355328)
    (h : ∀ v' w', OwnC B w w' e size v' (n + m) (zs ++ ys) → wr.grownBy w' v.ownBlock → wpList Tryd.prog ops Q rest (a.put o.dst v') w') : wpList Tryd.prog ops Q (o :: rest) a wr := by
  obtain ⟨i0, z, hi, hz0, hz1, hz2, hz3⟩ := T.info
  obtain ⟨ax, cap, rfl, hlen, hmx, hsh, h1, hr⟩ := hu
  have hG0 := hG
  obtain ⟨hown, hb, hB⟩ := hG
  cases ax with
  | none =>
    have hc0 : cap = 0 := hsh.2.2 rfl
    have hl0 : m = 0 := by have := hsh.1; omega
    subst hc0 hl0
    have hy : ys = [] := List.length_eq_zero_iff.1 (by rw [hlen, Nat.zero_mul])
    subst hy
    exact wpList_append_own_none hgd s x t ho B e i0 size T.under hi v n _ hs hown hx (h v wr (by simpa using hG0) (World.grownBy.refl _ _))
  | some ad =>
    refine wpList_append_own _ hgd s x t ho B e i0 z size bytes T.under hi hz0 hz1 hz2 hz3 T.pos v n _ hs hown ad m cap ys hx hlen ?_ h1 hl hby hB ?_
    · intro j u hj
      obtain ⟨b, off, e, hlt, hc⟩ := hr j u hj
      injection e with e
      subst e
      rw [addr_add]
      exact hc
    · intro v' w' hown' hgrow _
      exact h v' w' ⟨hown', hb.grown hgrow hB (fun k hk => (hown.lt k hk).1), Nat.le_trans hB hgrow.size⟩ hgrow

/-- append of one, laid down ahead of it. -/
theorem wp_append_cell1 {t e : TypeId} {size bytes : Nat} (T : ElemT t e size bytes) {ops : Array Oper} {rest : List Oper} {o : Oper} {a : Act} {Q : Exit → Act → World → Prop} (hgd : o.guard = none) (s x : Operand)
    (ho : o.op = .call { callee := .builtin .append, args := #[s, x], argTypes := #[t, t] }) (B : Nat) (w wr : World) (v : Value) (n : Nat) (zs : List Value) (cs : Array Value) (hG : OwnC B w wr e size v n zs) (hc : cs.size = size) (h1 : ∀ u ∈ cs.toList, u.oneCell' = true)
    (hs : a.eval s = v) (hx : a.eval x = .slice (some ⟨wr.heap.size, 0, none⟩) 1 1) (hl : n + 1 ≤ maxLen) (hby : (n + 1) * bytes ≤ 140737488355328)
    (h : ∀ v' w', OwnC B w w' e size v' (n + 1) (zs ++ cs.toList) → wr.grownBy w' v.ownBlock → wpList Tryd.prog ops Q rest (a.put o.dst v') w') : wpList Tryd.prog ops Q (o :: rest) a (wr.alloc (.cells cs e)) := by
  have hG' := hG.trans (below_new wr (.cells cs e))
  refine wp_append_cells T hgd s x ho B w _ v _ n 1 1 zs cs.toList hG' hs hx ⟨_, _, rfl, by simp [hc], Nat.le_refl _, ⟨Nat.le_refl _, by omega, fun h => by cases h⟩, h1, fun j u hj => ⟨_, _, rfl, by simp, ?_⟩⟩ hl hby fun v' w' hO hg => h v' w' hO ?_
  · rw [Nat.zero_add, World.cell?_alloc_at _ _ _ _ rfl]
    simpa using hj
  · refine ⟨hg.os, hg.tape, hg.output, ?_, fun k hk hn => ?_⟩
    · have := hg.size; simp at this; omega
    · rw [hg.block k (by simp; omega) hn, (below_new wr (.cells cs e)).block k hk]

/-- Several such slices, in a slice. -/
def catN (ls : List (Nat × List Value)) (k : Nat) : Nat := ((ls.take k).map (·.1)).sum
def catC (ls : List (Nat × List Value)) (k : Nat) : List Value := ((ls.take k).map (·.2)).flatten
def atC (ls : List (Nat × List Value)) (k : Nat) : Nat × List Value := ls.getD k (0, [])
theorem catN_succ {ls : List (Nat × List Value)} {k : Nat} (h : k < ls.length) : catN ls (k + 1) = catN ls k + (atC ls k).1 := by
  unfold catN atC
  rw [List.take_succ_eq_append_getElem h, List.map_append, List.sum_append, List.getD_eq_getElem?_getD, List.getElem?_eq_getElem h]
  rw [List.map_cons, List.map_nil, List.sum_cons, List.sum_nil, Nat.add_zero]
  rfl
theorem catC_succ {ls : List (Nat × List Value)} {k : Nat} (h : k < ls.length) : catC ls (k + 1) = catC ls k ++ (atC ls k).2 := by
  unfold catC atC
  rw [List.take_succ_eq_append_getElem h, List.map_append, List.flatten_append, List.getD_eq_getElem?_getD, List.getElem?_eq_getElem h]
  rw [List.map_cons, List.map_nil, List.flatten_cons, List.flatten_nil, List.append_nil]
  rfl
theorem catN_le {ls : List (Nat × List Value)} : ∀ {k : Nat}, k ≤ ls.length → catN ls k ≤ catN ls ls.length := by
  intro k hk
  obtain ⟨d, hd⟩ : ∃ d, ls.length = k + d := ⟨ls.length - k, by omega⟩
  induction d generalizing k with
  | zero => rw [hd]; exact Nat.le_refl _
  | succ d ih =>
    have := ih (k := k + 1) (by omega) (by omega)
    rw [catN_succ (by omega)] at this
    omega
def LisC (w : World) (v : Value) (size most : Nat) (ls : List (Nat × List Value)) : Prop :=
  ∃ a len cap, v = .slice a len cap ∧ ls.length = len ∧ len ≤ 1000000 ∧ Shape a len cap ∧
    ∀ j, j < ls.length → ∃ b off u, a = some ⟨b, off, none⟩ ∧ b < w.heap.size ∧ w.cell? ⟨b, off + j, none⟩ = some u ∧ CellsV w u size most (atC ls j).1 (atC ls j).2
theorem LisC.below {w w' : World} {v : Value} {size most : Nat} {ls : List (Nat × List Value)} (h : LisC w v size most ls) (hb : Below w.heap.size w w') : LisC w' v size most ls := by
  obtain ⟨a, len, cap, e, hl, hm, hs, hr⟩ := h
  refine ⟨a, len, cap, e, hl, hm, hs, fun j hj => ?_⟩
  obtain ⟨b, off, u, ha, hlt, hc, hu⟩ := hr j hj
  exact ⟨b, off, u, ha, Nat.lt_of_lt_of_le hlt hb.size, by rw [hb.cell (p := ⟨b, _, none⟩) hlt]; exact hc, hu.below hb⟩

/-- append of all of another slice, inside a region that draws its order. -/
theorem wpr_append_cells {t e : TypeId} {size bytes : Nat} (T : ElemT t e size bytes) {o : Oper} {a : Act} {K : Act → World → Prop} {Q : Exit → Act → World → Prop} {Y : Nat → Option Bool} (hwt : Region.wanted o Y = true) (s x : Operand)
    (ho : o.op = .call { callee := .builtin .append, args := #[s, x], argTypes := #[t, t] }) (B : Nat) (w wr : World) (v : Value) (n m c : Nat) (ad : Addr) (zs ys : List Value) (hG : OwnC B w wr e size v n zs)
    (hs : a.eval s = v) (hx : a.eval x = .slice (some ad) m c) (hlen : ys.length = m * size) (hr : ∀ j u, ys[j]? = some u → wr.cell? (ad.add j) = some u) (h1 : ∀ u ∈ ys, u.oneCell' = true) (hl : n + m ≤ maxLen) (hby : (n + m) * bytes ≤ 140737488355328)
    (h : ∀ v' w', OwnC B w w' e size v' (n + m) (zs ++ ys) → wr.grownBy w' v.ownBlock → K (a.put o.dst v') w') :
    if Region.wanted o Y = true then Oper.wp Tryd.prog o a wr K Q else K (a.put o.dst undef) wr := by
  obtain ⟨i0, z, hi, hz0, hz1, hz2, hz3⟩ := T.info
  obtain ⟨hown, hb, hB⟩ := hG
  refine wp_append_at _ hwt s x t ho B e i0 z size bytes T.under hi hz0 hz1 hz2 hz3 T.pos v n _ hs hown ad m c ys hx hlen hr h1 hl hby hB ?_
  intro v' w' hown' hgrow _
  exact h v' w' ⟨hown', hb.grown hgrow hB (fun k hk => (hown.lt k hk).1), Nat.le_trans hB hgrow.size⟩ hgrow

end Go.Proofs.YtjfcfnaeinhmcaaDoor
