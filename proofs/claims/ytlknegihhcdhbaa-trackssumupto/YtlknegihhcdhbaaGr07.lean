import Derived.Test.YtlknegihhcdhbaaGr00
import Derived.Test.YtlknegihhcdhbaaGr06
import Derived.Lib.AppendZeros
import Derived.Lib.SliceRun
import Derived.Maps.AppendAt
import Derived.Shelf.SortM.Plain
import Derived.Shelf.SortM.SortNone
import Derived.Test.YtlknegihhcdhbaaProg
import Derived.Lib.SlKeysI
import Derived.Test.YtlknegihhcdhbaaGr04
/- Slices of structs as their cells, one behind the other. -/
namespace Go.Proofs.Ytlknegihhcdhbaa
open Go.RowKit
set_option linter.unusedVariables false
set_option linter.unusedSimpArgs false
set_option maxRecDepth 4000

/-- A slice of n elements, 'size' cells each: these. -/
def CellsV (w : World) (v : Value) (size most n : Nat) (xs : List Value) : Prop :=
  ∃ a cap, v = .slice a n cap ∧ xs.length = n * size ∧ n ≤ most ∧ Shape a n cap ∧ (∀ u ∈ xs, u.oneCell' = true) ∧
    ∀ j u, xs[j]? = some u → ∃ b off, a = some ⟨b, off, none⟩ ∧ b < w.heap.size ∧ w.cell? ⟨b, off + j, none⟩ = some u
theorem CellsV.below {w w' : World} {v : Value} {size most n : Nat} {xs : List Value} (h : CellsV w v size most n xs) (hb : Below w.heap.size w w') : CellsV w' v size most n xs := by
  obtain ⟨a, cap, e, hl, hm, hs, h1, hr⟩ := h
  refine ⟨a, cap, e, hl, hm, hs, h1, fun j u hj => ?_⟩
  obtain ⟨b, off, ha, hlt, hc⟩ := hr j u hj
  exact ⟨b, off, ha, Nat.lt_of_lt_of_le hlt hb.size, by rw [hb.cell (p := ⟨b, _, none⟩) hlt]; exact hc⟩
theorem CellsV.slice {w : World} {v : Value} {size most n : Nat} {xs : List Value} (h : CellsV w v size most n xs) : ∃ a cap, v = .slice a n cap ∧ n ≤ most ∧ Shape a n cap := by
  obtain ⟨a, cap, e, hl, hm, hs, h1, hr⟩ := h
  exact ⟨a, cap, e, hm, hs⟩
theorem CellsV.nil (w : World) (size most : Nat) : CellsV w (.slice none 0 0) size most 0 [] := ⟨none, 0, rfl, by simp, by omega, ⟨by omega, by omega, fun _ => rfl⟩, fun u hu => absurd hu (by simp), fun j u hj => absurd hj (by simp)⟩
theorem CellsV.take {w : World} {a : Option Addr} {size most n cap m : Nat} {xs : List Value} (h : CellsV w (.slice a n cap) size most n xs) (hm : m ≤ n) : CellsV w (.slice a m cap) size most m (xs.take (m * size)) := by
  obtain ⟨a', cap', e, hl, hmx, ⟨s1, s2, s3⟩, h1, hr⟩ := h
  injection e with e1 e2 e3
  subst e1 e3
  have hms : m * size ≤ n * size := Nat.mul_le_mul_right _ hm
  refine ⟨a, cap, rfl, by rw [List.length_take]; omega, by omega, ⟨by omega, s2, s3⟩, fun u hu => h1 u (List.mem_of_mem_take hu), fun j u hj => ?_⟩
  have hjl : j < m * size := by
    rcases Nat.lt_or_ge j (m * size) with q | q
    · exact q
    · rw [List.getElem?_eq_none (by rw [List.length_take]; omega)] at hj; cases hj
  rw [List.getElem?_take, if_pos hjl] at hj
  exact hr j u hj

/-- A slice of such elements that the call itself has made. -/
def OwnC (B : Nat) (w wr : World) (e : TypeId) (size : Nat) (v : Value) (n : Nat) (xs : List Value) : Prop := wr.ownsRow B e size v n xs ∧ Below B w wr ∧ B ≤ wr.heap.size
theorem OwnC.nil (w : World) (e : TypeId) (size : Nat) : OwnC w.heap.size w w e size (.slice none 0 0) 0 [] := ⟨World.ownsRow_nil _ _ _ _, Below.refl _ _, Nat.le_refl _⟩
theorem OwnC.nil_of {B : Nat} {w wr : World} {e : TypeId} {size : Nat} (hb : Below B w wr) (hB : B ≤ wr.heap.size) : OwnC B w wr e size (.slice none 0 0) 0 [] := ⟨World.ownsRow_nil _ _ _ _, hb, hB⟩
theorem ownsRow_cells {B : Nat} {wr : World} {e : TypeId} {size : Nat} {v : Value} {n : Nat} {xs : List Value} (h : wr.ownsRow B e size v n xs) {most : Nat} (hl : n ≤ most) (h1 : ∀ u ∈ xs, u.oneCell' = true) : CellsV wr v size most n xs := by
  have h0 := h
  obtain ⟨hlen, hcase⟩ := h
  rcases hcase with ⟨rfl, h0'⟩ | ⟨g, cap', cur, rfl, hg, hh, hn, hcap, hsz, htake⟩
  · refine ⟨none, 0, by rw [h0'], hlen, hl, ⟨by omega, by omega, fun _ => rfl⟩, h1, fun j u hj => ?_⟩
    rw [List.getElem?_eq_none (by rw [hlen, h0']; omega)] at hj; cases hj
  · refine ⟨_, cap', rfl, hlen, hl, ⟨hn, by unfold maxLen at hcap; omega, fun h => by cases h⟩, h1, fun j u hj => ⟨g, 0, rfl, ?_, ?_⟩⟩
    · rcases Nat.lt_or_ge g wr.heap.size with h | h
      · exact h
      · rw [Array.getElem?_eq_none h] at hh; cases hh
    · have hjl : j < n * size := by
        rcases Nat.lt_or_ge j (n * size) with q | q
        · exact q
        · rw [List.getElem?_eq_none (by omega)] at hj; cases hj
      rw [Nat.zero_add, h0.cellAt j (by omega)]
      exact hj
theorem OwnC.cells {B : Nat} {w wr : World} {e : TypeId} {size : Nat} {v : Value} {n : Nat} {xs : List Value} (h : OwnC B w wr e size v n xs) {most : Nat} (hl : n ≤ most) (h1 : ∀ u ∈ xs, u.oneCell' = true) : CellsV wr v size most n xs := ownsRow_cells h.1 hl h1
theorem OwnC.trans {B : Nat} {w wr w2 : World} {e : TypeId} {size : Nat} {v : Value} {n : Nat} {xs : List Value} (h : OwnC B w wr e size v n xs) (hb : Below wr.heap.size wr w2) : OwnC B w w2 e size v n xs := by
  obtain ⟨hown, hb0, hB⟩ := h
  refine ⟨hown.kept (row := none) ⟨hb.os, hb.tape, hb.output, hb.size, fun k hk _ => hb.block k hk⟩ ?_, hb0.trans (hb.mono hB), Nat.le_trans hB hb.size⟩
  cases hv : v.ownBlock with
  | none => exact .inl rfl
  | some k => exact .inr (by simp)
theorem OwnC.slice {B : Nat} {w wr : World} {e : TypeId} {size : Nat} {v : Value} {n : Nat} {xs : List Value} (h : OwnC B w wr e size v n xs) : ∃ a c, v = .slice a n c := by
  rcases h.1.2 with ⟨rfl, h0⟩ | ⟨g, cap', cur, rfl, _⟩
  · exact ⟨_, _, by rw [h0]⟩
  · exact ⟨_, _, rfl⟩

/-- What a type of elements is: its cells, its bytes, its zero value. -/
structure ElemT (t e : TypeId) (size bytes : Nat) : Prop where
  under : Try.prog.underlying t = some (.slice e)
  info : ∃ i z, Try.prog.info? e = some i ∧ i.zero = some z ∧ i.size = size ∧ i.bytes = bytes ∧ z.cells.size = size
  pos : 0 < size
theorem ElemT.of {t e : TypeId} {size bytes : Nat} {z : Value} (ht : Try.prog.underlying t = some (.slice e)) (hi : (Try.prog.info? e).map (fun i => (i.zero, i.size, i.bytes)) = some (some z, size, bytes)) (hz : z.cells.size = size) (hp : 0 < size) : ElemT t e size bytes := by
  obtain ⟨i0, h0, h1, h2, h3⟩ := info_parts hi
  exact ⟨ht, ⟨i0, z, h0, h1, h2, h3, hz⟩, hp⟩

/-- append of all of another slice. -/
theorem wp_append_cells {t e : TypeId} {size bytes : Nat} (T : ElemT t e size bytes) {ops : Array Oper} {rest : List Oper} {o : Oper} {a : Act} {Q : Exit → Act → World → Prop} (hgd : o.guard = none) (s x : Operand)
    (ho : o.op = .call { callee := .builtin .append, args := #[s, x], argTypes := #[t, t] }) (B : Nat) (w wr : World) (v u : Value) (n m most : Nat) (zs ys : List Value) (hG : OwnC B w wr e size v n zs)
    (hs : a.eval s = v) (hx : a.eval x = u) (hu : CellsV wr u size most m ys) (hl : n + m ≤ maxLen) (hby : (n + m) * bytes ≤ 140737488355328)
    (h : ∀ v' w', OwnC B w w' e size v' (n + m) (zs ++ ys) → wr.grownBy w' v.ownBlock → wpList Try.prog ops Q rest (a.put o.dst v') w') : wpList Try.prog ops Q (o :: rest) a wr := by
  obtain ⟨i0, z, hi, hz0, hz1, hz2, hz3⟩ := T.info
  obtain ⟨ax, cap, rfl, hlen, hmx, hsh, h1, hr⟩ := hu
  have hG0 := hG
  obtain ⟨hown, hb, hB⟩ := hG
  cases ax with
  | none =>
    have hc0 : cap = 0 := hsh.2.2 rfl
    have hl0 : m = 0 := by have := hsh.1; omega
    subst hc0 hl0
    have hy : ys = [] := List.length_eq_zero_iff.1 (by rw [hlen, Nat.zero_mul])
    subst hy
    exact wpList_append_own_none hgd s x t ho B e i0 size T.under hi v n _ hs hown hx (h v wr (by simpa using hG0) (World.grownBy.refl _ _))
  | some ad =>
    refine wpList_append_own _ hgd s x t ho B e i0 z size bytes T.under hi hz0 hz1 hz2 hz3 T.pos v n _ hs hown ad m cap ys hx hlen ?_ h1 hl hby hB ?_
    · intro j u hj
      obtain ⟨b, off, e, hlt, hc⟩ := hr j u hj
      injection e with e
      subst e
      rw [addr_add]
      exact hc
    · intro v' w' hown' hgrow _
      exact h v' w' ⟨hown', hb.grown hgrow hB (fun k hk => (hown.lt k hk).1), Nat.le_trans hB hgrow.size⟩ hgrow

/-- append of one, laid down ahead of it. -/
theorem wp_append_cell1 {t e : TypeId} {size bytes : Nat} (T : ElemT t e size bytes) {ops : Array Oper} {rest : List Oper} {o : Oper} {a : Act} {Q : Exit → Act → World → Prop} (hgd : o.guard = none) (s x : Operand)
    (ho : o.op = .call { callee := .builtin .append, args := #[s, x], argTypes := #[t, t] }) (B : Nat) (w wr : World) (v : Value) (n : Nat) (zs : List Value) (cs : Array Value) (hG : OwnC B w wr e size v n zs) (hc : cs.size = size) (h1 : ∀ u ∈ cs.toList, u.oneCell' = true)
    (hs : a.eval s = v) (hx : a.eval x = .slice (some ⟨wr.heap.size, 0, none⟩) 1 1) (hl : n + 1 ≤ maxLen) (hby : (n + 1) * bytes ≤ 140737488355328)
    (h : ∀ v' w', OwnC B w w' e size v' (n + 1) (zs ++ cs.toList) → wr.grownBy w' v.ownBlock → wpList Try.prog ops Q rest (a.put o.dst v') w') : wpList Try.prog ops Q (o :: rest) a (wr.alloc (.cells cs e)) := by
  have hG' := hG.trans (below_new wr (.cells cs e))
  refine wp_append_cells T hgd s x ho B w _ v _ n 1 1 zs cs.toList hG' hs hx ⟨_, _, rfl, by simp [hc], Nat.le_refl _, ⟨Nat.le_refl _, by omega, fun h => by cases h⟩, h1, fun j u hj => ⟨_, _, rfl, by simp, ?_⟩⟩ hl hby fun v' w' hO hg => h v' w' hO ?_
  · rw [Nat.zero_add, World.cell?_alloc_at _ _ _ _ rfl]
    simpa using hj
  · refine ⟨hg.os, hg.tape, hg.output, ?_, fun k hk hn => ?_⟩
    · have := hg.size; simp at this; omega
    · rw [hg.block k (by simp; omega) hn, (below_new wr (.cells cs e)).block k hk]

/-- Several such slices, in a slice. -/
def catN (ls : List (Nat × List Value)) (k : Nat) : Nat := ((ls.take k).map (·.1)).sum
def catC (ls : List (Nat × List Value)) (k : Nat) : List Value := ((ls.take k).map (·.2)).flatten
def atC (ls : List (Nat × List Value)) (k : Nat) : Nat × List Value := ls.getD k (0, [])
theorem catN_succ {ls : List (Nat × List Value)} {k : Nat} (h : k < ls.length) : catN ls (k + 1) = catN ls k + (atC ls k).1 := by
  unfold catN atC
  rw [List.take_succ_eq_append_getElem h, List.map_append, List.sum_append, List.getD_eq_getElem?_getD, List.getElem?_eq_getElem h]
  rw [List.map_cons, List.map_nil, List.sum_cons, List.sum_nil, Nat.add_zero]
  rfl
theorem catC_succ {ls : List (Nat × List Value)} {k : Nat} (h : k < ls.length) : catC ls (k + 1) = catC ls k ++ (atC ls k).2 := by
  unfold catC atC
  rw [List.take_succ_eq_append_getElem h, List.map_append, List.flatten_append, List.getD_eq_getElem?_getD, List.getElem?_eq_getElem h]
  rw [List.map_cons, List.map_nil, List.flatten_cons, List.flatten_nil, List.append_nil]
  rfl
theorem catN_le {ls : List (Nat × List Value)} : ∀ {k : Nat}, k ≤ ls.length → catN ls k ≤ catN ls ls.length := by
  intro k hk
  obtain ⟨d, hd⟩ : ∃ d, ls.length = k + d := ⟨ls.length - k, by omega⟩
  induction d generalizing k with
  | zero => rw [hd]; exact Nat.le_refl _
  | succ d ih =>
    have := ih (k := k + 1) (by omega) (by omega)
    rw [catN_succ (by omega)] at this
    omega
def LisC (w : World) (v : Value) (size most : Nat) (ls : List (Nat × List Value)) : Prop :=
  ∃ a len cap, v = .slice a len cap ∧ ls.length = len ∧ len ≤ 1000000 ∧ Shape a len cap ∧
    ∀ j, j < ls.length → ∃ b off u, a = some ⟨b, off, none⟩ ∧ b < w.heap.size ∧ w.cell? ⟨b, off + j, none⟩ = some u ∧ CellsV w u size most (atC ls j).1 (atC ls j).2
theorem LisC.below {w w' : World} {v : Value} {size most : Nat} {ls : List (Nat × List Value)} (h : LisC w v size most ls) (hb : Below w.heap.size w w') : LisC w' v size most ls := by
  obtain ⟨a, len, cap, e, hl, hm, hs, hr⟩ := h
  refine ⟨a, len, cap, e, hl, hm, hs, fun j hj => ?_⟩
  obtain ⟨b, off, u, ha, hlt, hc, hu⟩ := hr j hj
  exact ⟨b, off, u, ha, Nat.lt_of_lt_of_le hlt hb.size, by rw [hb.cell (p := ⟨b, _, none⟩) hlt]; exact hc, hu.below hb⟩

/-- append of all of another slice, inside a region that draws its order. -/
theorem wpr_append_cells {t e : TypeId} {size bytes : Nat} (T : ElemT t e size bytes) {o : Oper} {a : Act} {K : Act → World → Prop} {Q : Exit → Act → World → Prop} {Y : Nat → Option Bool} (hwt : Region.wanted o Y = true) (s x : Operand)
    (ho : o.op = .call { callee := .builtin .append, args := #[s, x], argTypes := #[t, t] }) (B : Nat) (w wr : World) (v : Value) (n m c : Nat) (ad : Addr) (zs ys : List Value) (hG : OwnC B w wr e size v n zs)
    (hs : a.eval s = v) (hx : a.eval x = .slice (some ad) m c) (hlen : ys.length = m * size) (hr : ∀ j u, ys[j]? = some u → wr.cell? (ad.add j) = some u) (h1 : ∀ u ∈ ys, u.oneCell' = true) (hl : n + m ≤ maxLen) (hby : (n + m) * bytes ≤ 140737488355328)
    (h : ∀ v' w', OwnC B w w' e size v' (n + m) (zs ++ ys) → wr.grownBy w' v.ownBlock → K (a.put o.dst v') w') :
    if Region.wanted o Y = true then Oper.wp Try.prog o a wr K Q else K (a.put o.dst undef) wr := by
  obtain ⟨i0, z, hi, hz0, hz1, hz2, hz3⟩ := T.info
  obtain ⟨hown, hb, hB⟩ := hG
  refine wp_append_at _ hwt s x t ho B e i0 z size bytes T.under hi hz0 hz1 hz2 hz3 T.pos v n _ hs hown ad m c ys hx hlen hr h1 hl hby hB ?_
  intro v' w' hown' hgrow _
  exact h v' w' ⟨hown', hb.grown hgrow hB (fun k hk => (hown.lt k hk).1), Nat.le_trans hB hgrow.size⟩ hgrow

end Go.Proofs.Ytlknegihhcdhbaa

/- slices.Sort over numbers, as it lies in the program. -/
namespace Go.Proofs.Ytlknegihhcdhbaa
open Go.Shelf

def sortA_ren : Go.Shelf.Ren := ⟨fun | 5 => 52 | 8 => 49 | 7 => 76 | 19 => 72 | 20 => 73 | 10 => 84 | 11 => 85 | 12 => 86 | 13 => 87 | 14 => 88 | 15 => 89 | 16 => 90 | 17 => 91 | 18 => 92 | 30 => 95 | 31 => 80 | 32 => 81 | 33 => 96 | 34 => 97 | 35 => 74 | 40 => 106 | n => n, fun | 23 => 23 | 25 => 3 | 3 => 3 | 32 => 74 | 22 => 23 | 0 => 0 | 44 => 96 | 46 => 98 | 4 => 4 | 36 => 89 | 35 => 88 | 41 => 93 | 5 => 5 | 9 => 9 | 53 => 103 | 57 => 107 | 63 => 115 | 64 => 116 | n => n, fun | n => n⟩

theorem sortA : Go.Proofs.SlLaysM.n5 Try.prog sortA_ren := {
  mixed := by kernel_rfl
  f5 := ⟨Try.f52.name, by decide, Try.func52.trans (congrArg some (by kernel_rfl))⟩
  f7 := ⟨Try.f76.name, by decide, Try.func76.trans (congrArg some (by kernel_rfl))⟩
  f8 := Try.func49.trans (congrArg some (by kernel_rfl))
  f10 := ⟨Try.f84.name, by decide, Try.func84.trans (congrArg some (by kernel_rfl))⟩
  f11 := ⟨Try.f85.name, by decide, Try.func85.trans (congrArg some (by kernel_rfl))⟩
  f12 := ⟨Try.f86.name, by decide, Try.func86.trans (congrArg some (by kernel_rfl))⟩
  f13 := ⟨Try.f87.name, by decide, Try.func87.trans (congrArg some (by kernel_rfl))⟩
  f14 := ⟨Try.f88.name, by decide, Try.func88.trans (congrArg some (by kernel_rfl))⟩
  f15 := ⟨Try.f89.name, by decide, Try.func89.trans (congrArg some (by kernel_rfl))⟩
  f16 := ⟨Try.f90.name, by decide, Try.func90.trans (congrArg some (by kernel_rfl))⟩
  f17 := ⟨Try.f91.name, by decide, Try.func91.trans (congrArg some (by kernel_rfl))⟩
  f18 := ⟨Try.f92.name, by decide, Try.func92.trans (congrArg some (by kernel_rfl))⟩
  f19 := Try.func72.trans (congrArg some (by kernel_rfl))
  f20 := Try.func73.trans (congrArg some (by kernel_rfl))
  f30 := ⟨Try.f95.name, by decide, Try.func95.trans (congrArg some (by kernel_rfl))⟩
  f31 := Try.func80.trans (congrArg some (by kernel_rfl))
  f32 := Try.func81.trans (congrArg some (by kernel_rfl))
  f33 := ⟨Try.f96.name, by decide, Try.func96.trans (congrArg some (by kernel_rfl))⟩
  f34 := ⟨Try.f97.name, by decide, Try.func97.trans (congrArg some (by kernel_rfl))⟩
  f35 := ⟨Try.f74.name, by decide, Try.func74.trans (congrArg some (by kernel_rfl))⟩
  f40 := ⟨Try.f106.name, by decide, Try.func106.trans (congrArg some (by kernel_rfl))⟩
  t0 := Try.underlying0
  a0 := Try.isAgg0
  z0 := Try.sizeOf0
  v0 := Try.zeroValue0
  t3 := Try.underlying3
  a3 := Try.isAgg3
  z3 := Try.sizeOf3
  v3 := Try.zeroValue3
  t4 := Try.underlying4
  a4 := Try.isAgg4
  z4 := Try.sizeOf4
  v4 := Try.zeroValue4
  t5 := Try.underlying5
  a5 := Try.isAgg5
  z5 := Try.sizeOf5
  v5 := Try.zeroValue5
  t9 := Try.underlying9
  a9 := Try.isAgg9
  z9 := Try.sizeOf9
  v9 := Try.zeroValue9
  t22 := Try.underlying23
  a22 := Try.isAgg23
  z22 := Try.sizeOf23
  v22 := Try.zeroValue23
  t23 := Try.underlying23
  a23 := Try.isAgg23
  z23 := Try.sizeOf23
  v23 := Try.zeroValue23
  t25 := Try.underlying3
  a25 := Try.isAgg3
  z25 := Try.sizeOf3
  v25 := Try.zeroValue3
  t32 := Try.underlying74
  a32 := Try.isAgg74
  z32 := Try.sizeOf74
  v32 := Try.zeroValue74
  t35 := Try.underlying88
  a35 := Try.isAgg88
  z35 := Try.sizeOf88
  v35 := Try.zeroValue88
  t36 := Try.underlying89
  a36 := Try.isAgg89
  z36 := Try.sizeOf89
  v36 := Try.zeroValue89
  t41 := Try.underlying93
  a41 := Try.isAgg93
  z41 := Try.sizeOf93
  v41 := Try.zeroValue93
  t44 := Try.underlying96
  a44 := Try.isAgg96
  z44 := Try.sizeOf96
  v44 := Try.zeroValue96
  t46 := Try.underlying98
  a46 := Try.isAgg98
  z46 := Try.sizeOf98
  v46 := Try.zeroValue98
  t53 := Try.underlying103
  a53 := Try.isAgg103
  z53 := Try.sizeOf103
  v53 := Try.zeroValue103
  t57 := Try.underlying107
  a57 := Try.isAgg107
  z57 := Try.sizeOf107
  v57 := Try.zeroValue107
  t63 := Try.underlying115
  a63 := Try.isAgg115
  z63 := Try.sizeOf115
  v63 := Try.zeroValue115
  t64 := Try.underlying116
  a64 := Try.isAgg116
  z64 := Try.sizeOf116
  v64 := Try.zeroValue116 }

end Go.Proofs.Ytlknegihhcdhbaa

/- slices.Sorted over slices.Values, over numbers. -/
namespace Go.Proofs.Ytlknegihhcdhbaa
open Go.RowKit Go.Sort
set_option linter.unusedVariables false
set_option maxRecDepth 4000

/-- slices.Sort over a row of the call's own. -/
theorem sort_own (B : Nat) (w wr : World) (v : Value) (zs : List Int) (hO : Own B w wr v zs) (hl : zs.length ≤ 17592186044416) :
    Calls Try.prog 52 #[v] wr fun e w' => e = .returned (.tuple #[]) ∧ Own B w w' v (zs.mergeSort fun x y => decide (x ≤ y)) := by
  obtain ⟨hrow, hb, hB⟩ := hO
  rcases hrow.2 with ⟨rfl, hz⟩ | ⟨gb, cap, cur, rfl, hbase, hgb, r1, r2, r3, r4⟩
  · have hss : zs = [] := List.eq_nil_of_length_eq_zero hz
    subst hss
    refine (AnyM.slices_Sort_int_none sortA none 0 wr).mono ?_
    rintro e w' ⟨rfl, rfl⟩
    exact ⟨rfl, by simpa using hrow, hb, hB⟩
  · have hH : Holds encZ wr gb 0 zs.toArray := holds_of_block_i hgb (by simpa using r4)
    have hgl : gb < wr.heap.size := (Array.getElem?_eq_some_iff.1 hgb).1
    refine (AnyM.slices_Sort_int sortA gb 0 cap zs wr hH hgl (by omega)).mono ?_
    rintro e w' ⟨rfl, nn, os, rfl⟩
    have hg := grownBy_sorted_i (w := wr) (g := gb) (n := nn) (os := os) (zs.mergeSort fun x y => decide (x ≤ y)).toArray
    refine ⟨rfl, ?_, hb.grown hg (by omega) (fun j hj => by cases hj; exact hbase), Nat.le_trans hB hg.size⟩
    have h := ownsRow_sorted_i (n := nn) (os := os) (ts := zs.mergeSort fun x y => decide (x ≤ y)) (ss := zs) (by simp) hbase hgb r1 r2 r3
    simpa using h

end Go.Proofs.Ytlknegihhcdhbaa
