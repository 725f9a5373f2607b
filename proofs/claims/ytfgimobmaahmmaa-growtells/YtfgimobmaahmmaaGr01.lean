import Derived.Test.YtfgimobmaahmmaaGr00
import Derived.Laws.AppendOwnNone
import Derived.Test.YtfgimobmaahmmaaProg
import Derived.Lib.AppendZeros
/- A slice of ints that the call itself has made: 'make', and 'append' of one number. -/
namespace Go.Proofs.Ytfgimobmaahmmaa
open Go.RowKit
set_option linter.unusedVariables false
set_option maxRecDepth 4000

theorem info_int : (Try.prog.info? 3).map (fun i => (i.zero, i.size, i.bytes)) = some (some (.int .i64 0), 1, 8) := by kernel_rfl

theorem make_ints (w : World) (n : Nat) (hn : n ≤ 17592186044416) :
    ∃ w1, (Instr.makeSlice 35 (.int .i64 (n : Int)) (.int .i64 (n : Int))).run Try.prog w = .ok (.slice (some ⟨w.heap.size, 0, none⟩) n n) w1 ∧
      Below w.heap.size w w1 ∧ w.heap.size < w1.heap.size ∧ ∀ j, j < n → w1.cell? ⟨w.heap.size, j, none⟩ = some (.int .i64 0) ∧ w1.frozen? ⟨w.heap.size, j, none⟩ = false := by
  obtain ⟨i0, hi, hz0, hz1, hz2⟩ := info_parts info_int
  have h := run_make (P := Try.prog) w 35 3 i0 (.int .i64 0) Try.underlying35 hi hz0 .i64 .i64 n n (by omega) (by omega) (by rw [hz2]; omega) (by omega)
  simp only [Int.toNat_natCast] at h
  refine ⟨_, h, (Below.refl _ _).alloc (Nat.le_refl _) _, by simp, fun j hj => ⟨?_, ?_⟩⟩
  · rw [World.cell?_alloc_at _ _ _ _ rfl]
    simp [madeCells, hz1, Value.cells, hj, Nat.mod_one]
  · exact World.frozen?_alloc_at _ _ _ _ rfl

/-- A slice of these ints, nil or in a block from B on; nothing older has turned. -/
def Own (B : Nat) (w wr : World) (v : Value) (zs : List Int) : Prop :=
  wr.ownsRow B 3 1 v zs.length (zs.map (Value.int .i64)) ∧ Below B w wr ∧ B ≤ wr.heap.size

theorem Own.nil (w : World) : Own w.heap.size w w (.slice none 0 0) [] := ⟨World.ownsRow_nil _ _ _ _, Below.refl _ _, Nat.le_refl _⟩

theorem Own.nil_of {B : Nat} {w wr : World} (hb : Below B w wr) (hB : B ≤ wr.heap.size) : Own B w wr (.slice none 0 0) [] := ⟨World.ownsRow_nil _ _ _ _, hb, hB⟩

theorem Own.ints {B : Nat} {w wr : World} {v : Value} {zs : List Int} (h : Own B w wr v zs) (hl : zs.length ≤ 17592186044416) : Ints wr v zs := by
  obtain ⟨hown, hb, hB⟩ := h
  have hown0 := hown
  obtain ⟨_, hcase⟩ := hown
  rcases hcase with ⟨rfl, h0⟩ | ⟨g, cap', cur, rfl, hg, hh, hn, hcap, hsz, htake⟩
  · exact ⟨none, zs.length, 0, by rw [h0], rfl, hl, ⟨by omega, by omega, fun _ => rfl⟩, fun j hj => absurd hj (by omega)⟩
  · refine ⟨_, _, _, rfl, rfl, hl, ⟨hn, by unfold maxLen at hcap; omega, fun h => by cases h⟩, fun j hj => ⟨g, 0, rfl, ?_, ?_⟩⟩
    · rcases Nat.lt_or_ge g wr.heap.size with h | h
      · exact h
      · rw [Array.getElem?_eq_none h] at hh; cases hh
    · rw [Nat.zero_add, hown0.cellAt j (by omega)]
      simp [nth, List.getD, List.getElem?_eq_getElem hj]

theorem Own.trans {B : Nat} {w wr w2 : World} {v : Value} {zs : List Int} (h : Own B w wr v zs) (hb : Below wr.heap.size wr w2) : Own B w w2 v zs := by
  obtain ⟨hown, hb0, hB⟩ := h
  have hlt := hown.lt
  refine ⟨hown.kept (row := none) ⟨hb.os, hb.tape, hb.output, hb.size, fun k hk _ => hb.block k hk⟩ ?_, hb0.trans (hb.mono hB), Nat.le_trans hB hb.size⟩
  cases hv : v.ownBlock with
  | none => exact .inl rfl
  | some k => exact .inr (by simp)

theorem wp_append_int {ops : Array Oper} {rest : List Oper} {o : Oper} {a : Act} {Q : Exit → Act → World → Prop} (hgd : o.guard = none) (s x : Operand)
    (ho : o.op = .call { callee := .builtin .append, args := #[s, x], argTypes := #[35, 35] }) (B : Nat) (w wr : World) (v : Value) (zs : List Int) (z : Int) (hG : Own B w wr v zs)
    (hs : a.eval s = v) (hx : a.eval x = .slice (some ⟨wr.heap.size, 0, none⟩) 1 1) (hl : zs.length + 1 ≤ 17592186044416)
    (h : ∀ v' w', Own B w w' v' (zs ++ [z]) → wpList Try.prog ops Q rest (a.put o.dst v') w') : wpList Try.prog ops Q (o :: rest) a (wr.alloc (.cells #[.int .i64 z] 3)) := by
  obtain ⟨i0, hi, hz0, hz1, hz2⟩ := info_parts info_int
  obtain ⟨hown, hb, hB⟩ := hG
  refine wpList_append_own _ hgd s x 35 ho B 3 i0 (.int .i64 0) 1 8 Try.underlying35 hi hz0 hz1 hz2 rfl (by decide) v zs.length _ hs (hown.alloc _) ⟨wr.heap.size, 0, none⟩ 1 1 [.int .i64 z] hx rfl ?_ ?_ ?_ ?_ ?_ ?_
  · intro j u hj
    match j, hj with
    | 0, hj => simp at hj; subst hj; simp [Addr.add]
  · intro u hu; simp at hu; subst hu; rfl
  · unfold maxLen; omega
  · omega
  · simp; omega
  · intro v' w' hown' hgrow _
    refine h v' w' ⟨by simpa using hown', (hb.alloc hB _).grown hgrow (by simp; omega) (fun k hk => (hown.lt k hk).1), ?_⟩
    have := hgrow.size; simp at this; omega

/-- append of all of another slice. -/
theorem wp_append_ints {ops : Array Oper} {rest : List Oper} {o : Oper} {a : Act} {Q : Exit → Act → World → Prop} (hgd : o.guard = none) (s x : Operand)
    (ho : o.op = .call { callee := .builtin .append, args := #[s, x], argTypes := #[35, 35] }) (B : Nat) (w wr : World) (v u : Value) (zs ys : List Int) (hG : Own B w wr v zs)
    (hs : a.eval s = v) (hx : a.eval x = u) (hu : Ints wr u ys) (hl : zs.length + ys.length ≤ 17592186044416)
    (h : ∀ v' w', Own B w w' v' (zs ++ ys) → wpList Try.prog ops Q rest (a.put o.dst v') w') : wpList Try.prog ops Q (o :: rest) a wr := by
  obtain ⟨i0, hi, hz0, hz1, hz2⟩ := info_parts info_int
  obtain ⟨ax, len, cap, rfl, hlen, hmx, hsh, hr⟩ := hu
  have hG0 := hG
  obtain ⟨hown, hb, hB⟩ := hG
  cases ax with
  | none =>
    have hc0 : cap = 0 := hsh.2.2 rfl
    have hl0 : len = 0 := by have := hsh.1; omega
    subst hc0 hl0
    have hy : ys = [] := List.length_eq_zero_iff.1 hlen
    subst hy
    exact wpList_append_own_none hgd s x 35 ho B 3 i0 1 Try.underlying35 hi v zs.length _ hs hown hx (h v wr (by simpa using hG0))
  | some ad =>
    refine wpList_append_own _ hgd s x 35 ho B 3 i0 (.int .i64 0) 1 8 Try.underlying35 hi hz0 hz1 hz2 rfl (by decide) v zs.length _ hs hown ad len cap (ys.map (Value.int .i64)) hx (by simp [hlen]) ?_ ?_ ?_ ?_ hB ?_
    · intro j u hj
      have hjl : j < ys.length := by
        rcases Nat.lt_or_ge j ys.length with h1 | h1
        · exact h1
        · rw [List.getElem?_eq_none (by simpa using h1)] at hj; cases hj
      obtain ⟨b, off, e, hlt, hc⟩ := hr j hjl
      injection e with e
      subst e
      rw [addr_add, hc]
      simp [List.getElem?_eq_getElem hjl] at hj
      subst hj
      simp [nth, List.getD, List.getElem?_eq_getElem hjl]
    · intro u hu
      obtain ⟨z, _, rfl⟩ := List.mem_map.1 hu
      rfl
    · unfold maxLen; omega
    · omega
    · intro v' w' hown' hgrow _
      refine h v' w' ⟨by simpa [hlen] using hown', hb.grown hgrow hB (fun k hk => (hown.lt k hk).1), Nat.le_trans hB hgrow.size⟩

end Go.Proofs.Ytfgimobmaahmmaa

/- What functions of package slices answer over slices of ints. -/
namespace Go.Proofs.Ytfgimobmaahmmaa
open Go.RowKit
set_option linter.unusedVariables false
set_option maxRecDepth 4000

theorem flatten_take_succ (ls : List (List Int)) (k : Nat) (h : k < ls.length) : (ls.take (k + 1)).flatten = (ls.take k).flatten ++ ls.getD k [] := by
  rw [List.take_succ_eq_append_getElem h, List.flatten_append]
  simp [List.getD, List.getElem?_eq_getElem h]
theorem flatten_take_le (ls : List (List Int)) (k : Nat) : (ls.take k).flatten.length ≤ ls.flatten.length := by
  conv => rhs; rw [← List.take_append_drop k ls, List.flatten_append, List.length_append]
  omega

end Go.Proofs.Ytfgimobmaahmmaa

/- A slice of transitions that the call itself has made. -/
namespace Go.Proofs.Ytfgimobmaahmmaa
open Go.RowKit
set_option linter.unusedVariables false
set_option maxRecDepth 4000

/-- The cells of some transitions. -/
def tvCells (tv : List (Int × Value × Value)) : List Value := tv.flatMap fun x => [.int .i64 x.1, x.2.1, x.2.2]
theorem tvCells_length (tv : List (Int × Value × Value)) : (tvCells tv).length = tv.length * 3 := by
  unfold tvCells
  induction tv with
  | nil => rfl
  | cons x r ih => simp only [List.flatMap_cons, List.length_append, ih, List.length_cons, List.length_nil]; omega
theorem tvCells_append (tv us : List (Int × Value × Value)) : tvCells (tv ++ us) = tvCells tv ++ tvCells us := by simp [tvCells]
theorem tvCells_at (tv : List (Int × Value × Value)) (j : Nat) (h : j < tv.length) :
    (tvCells tv)[j * 3]? = some (.int .i64 tv[j].1) ∧ (tvCells tv)[j * 3 + 1]? = some tv[j].2.1 ∧ (tvCells tv)[j * 3 + 2]? = some tv[j].2.2 := by
  induction tv generalizing j with
  | nil => simp at h
  | cons x r ih =>
    have ec : tvCells (x :: r) = .int .i64 x.1 :: x.2.1 :: x.2.2 :: tvCells r := rfl
    match j, h with
    | 0, _ => exact ⟨rfl, rfl, rfl⟩
    | j + 1, h =>
      obtain ⟨q1, q2, q3⟩ := ih j (by simpa using h)
      rw [ec, show (j + 1) * 3 = j * 3 + 3 by omega]
      exact ⟨q1, q2, q3⟩

def OwnT (B : Nat) (w wr : World) (v : Value) (tv : List (Int × Value × Value)) : Prop :=
  wr.ownsRow B 48 3 v tv.length (tvCells tv) ∧ Below B w wr ∧ B ≤ wr.heap.size

theorem OwnT.nil_of {B : Nat} {w wr : World} (hb : Below B w wr) (hB : B ≤ wr.heap.size) : OwnT B w wr (.slice none 0 0) [] := ⟨World.ownsRow_nil _ _ _ _, hb, hB⟩

theorem OwnT.trans {B : Nat} {w wr w2 : World} {v : Value} {tv : List (Int × Value × Value)} (h : OwnT B w wr v tv) (hb : Below wr.heap.size wr w2) : OwnT B w w2 v tv := by
  obtain ⟨hown, hb0, hB⟩ := h
  refine ⟨hown.kept (row := none) ⟨hb.os, hb.tape, hb.output, hb.size, fun k hk _ => hb.block k hk⟩ ?_, hb0.trans (hb.mono hB), Nat.le_trans hB hb.size⟩
  cases hv : v.ownBlock with
  | none => exact .inl rfl
  | some k => exact .inr (by simp)

/-- Read as transitions. -/
theorem tran_read {B : Nat} {wr : World} {v : Value} {tv : List (Int × Value × Value)} {ts : List TranL} (hown : wr.ownsRow B 48 3 v tv.length (tvCells tv)) (hl : tv.length ≤ 2513169434916) (he : ts.length = tv.length)
    (hx : ∀ j (hj : j < tv.length), tv[j].1 = (tranAt ts j).label ∧ Ints wr tv[j].2.1 (tranAt ts j).pre ∧ Ints wr tv[j].2.2 (tranAt ts j).post) : Trans wr v ts := by
  have hown0 := hown
  obtain ⟨_, hcase⟩ := hown
  rcases hcase with ⟨rfl, h0⟩ | ⟨g, cap', cur, rfl, hg, hh, hn, hcap, hsz, htake⟩
  · exact ⟨none, tv.length, 0, by rw [h0], he, hl, ⟨by omega, by omega, fun _ => rfl⟩, fun j hj => absurd hj (by omega)⟩
  · refine ⟨_, _, _, rfl, he, hl, ⟨hn, by unfold maxLen at hcap; omega, fun h => by cases h⟩, fun j hj => ?_⟩
    have hj' : j < tv.length := by omega
    obtain ⟨e1, e2, e3⟩ := hx j hj'
    obtain ⟨q1, q2, q3⟩ := tvCells_at tv j hj'
    refine ⟨g, 0, tv[j].2.1, tv[j].2.2, rfl, ?_, ?_, ?_, ?_, e2, e3⟩
    · rcases Nat.lt_or_ge g wr.heap.size with h | h
      · exact h
      · rw [Array.getElem?_eq_none h] at hh; cases hh
    · rw [Nat.zero_add, hown0.cellAt (j * 3) (by omega), q1, e1]
    · rw [Nat.zero_add, hown0.cellAt (j * 3 + 1) (by omega), q2]
    · rw [Nat.zero_add, hown0.cellAt (j * 3 + 2) (by omega), q3]

theorem info_tran : (Try.prog.info? 48).map (fun i => (i.zero, i.size, i.bytes)) = some (some (.agg #[.int .i64 0, .slice none 0 0, .slice none 0 0]), 3, 56) := by kernel_rfl

theorem wp_append_tran {ops : Array Oper} {rest : List Oper} {o : Oper} {a : Act} {Q : Exit → Act → World → Prop} (hgd : o.guard = none) (s x : Operand)
    (ho : o.op = .call { callee := .builtin .append, args := #[s, x], argTypes := #[25, 25] }) (B : Nat) (w wr : World) (v : Value) (tv : List (Int × Value × Value))
    (l : Int) (a1 a2 : Option Addr) (l1 l2 p1 p2 : Nat) (b : Nat) (hG : OwnT B w wr v tv)
    (hs : a.eval s = v) (hx : a.eval x = .slice (some ⟨b, 0, none⟩) 1 1) (hbk : b = wr.heap.size) (hl : tv.length + 1 ≤ 2513169434916)
    (h : ∀ v' w', OwnT B w w' v' (tv ++ [(l, .slice a1 l1 p1, .slice a2 l2 p2)]) → wpList Try.prog ops Q rest (a.put o.dst v') w') :
    wpList Try.prog ops Q (o :: rest) a (wr.alloc (.cells #[.int .i64 l, .slice a1 l1 p1, .slice a2 l2 p2] 48)) := by
  subst hbk
  obtain ⟨i0, hi, hz0, hz1, hz2⟩ := info_parts info_tran
  obtain ⟨hown, hb, hB⟩ := hG
  refine wpList_append_own _ hgd s x 25 ho B 48 i0 _ 3 56 Try.underlying25 hi hz0 hz1 hz2 rfl (by decide) v tv.length _ hs (hown.alloc _) ⟨wr.heap.size, 0, none⟩ 1 1 [.int .i64 l, .slice a1 l1 p1, .slice a2 l2 p2] hx rfl ?_ ?_ ?_ ?_ ?_ ?_
  · intro j u hj
    rw [addr_add, World.cell?_alloc_at _ _ _ _ rfl]
    match j, hj with
    | 0, hj => simpa using hj
    | 1, hj => simpa using hj
    | 2, hj => simpa using hj
  · intro u hu
    simp only [List.mem_cons, List.not_mem_nil, or_false] at hu
    rcases hu with rfl | rfl | rfl <;> rfl
  · unfold maxLen; omega
  · omega
  · simp; omega
  · intro v' w' hown' hgrow _
    refine h v' w' ⟨by rw [tvCells_append]; simpa [tvCells] using hown', (hb.alloc hB _).grown hgrow (by simp; omega) (fun k hk => (hown.lt k hk).1), ?_⟩
    have := hgrow.size; simp at this; omega

end Go.Proofs.Ytfgimobmaahmmaa

/- A block in memory. -/
namespace Go.Proofs.Ytfgimobmaahmmaa
open Go.RowKit
set_option linter.unusedVariables false
set_option maxRecDepth 4000

/-- A value that is this block, as deep as f. -/
def BlockF : Nat → World → Value → BlockL → Prop
  | 0, _, _, _ => True
  | f + 1, w, v, b => ∃ a len cap, v = .agg #[.int .i64 b.kind, .int .i64 b.label, .slice a len cap] ∧ b.kids.length = len ∧ len ≤ 3518437208780 ∧ Shape a len cap ∧
      ∀ j (hj : j < b.kids.length), ∃ bk off x y z, a = some ⟨bk, off, none⟩ ∧ bk < w.heap.size ∧ w.cell? ⟨bk, off + j * 3, none⟩ = some x ∧ w.cell? ⟨bk, off + j * 3 + 1, none⟩ = some y ∧ w.cell? ⟨bk, off + j * 3 + 2, none⟩ = some z ∧ BlockF f w (.agg #[x, y, z]) b.kids[j]
/-- A value that is this block. -/
def BlockV (w : World) (v : Value) (b : BlockL) : Prop := ∀ f, BlockF f w v b
/-- A slice of these blocks. -/
def KidsV (w : World) (v : Value) (l : List BlockL) : Prop := ∃ a len cap, v = .slice a len cap ∧ l.length = len ∧ len ≤ 3518437208780 ∧ Shape a len cap ∧
      ∀ j (hj : j < l.length), ∃ bk off x y z, a = some ⟨bk, off, none⟩ ∧ bk < w.heap.size ∧ w.cell? ⟨bk, off + j * 3, none⟩ = some x ∧ w.cell? ⟨bk, off + j * 3 + 1, none⟩ = some y ∧ w.cell? ⟨bk, off + j * 3 + 2, none⟩ = some z ∧ BlockV w (.agg #[x, y, z]) l[j]

theorem BlockF.below : ∀ {f : Nat} {w w' : World} {v : Value} {b : BlockL}, BlockF f w v b → Below w.heap.size w w' → BlockF f w' v b
  | 0, _, _, _, _, _, _ => trivial
  | f + 1, w, w', v, b, h, hb => by
    obtain ⟨a, len, cap, e, hl, hm, hs, hr⟩ := h
    refine ⟨a, len, cap, e, hl, hm, hs, fun j hj => ?_⟩
    obtain ⟨bk, off, x, y, z, ha, hlt, h0, h1, h2, hk⟩ := hr j hj
    exact ⟨bk, off, x, y, z, ha, Nat.lt_of_lt_of_le hlt hb.size, (hb.cell (p := ⟨bk, off + j * 3, none⟩) hlt).trans h0, (hb.cell (p := ⟨bk, off + j * 3 + 1, none⟩) hlt).trans h1, (hb.cell (p := ⟨bk, off + j * 3 + 2, none⟩) hlt).trans h2, hk.below hb⟩
theorem BlockV.below {w w' : World} {v : Value} {b : BlockL} (h : BlockV w v b) (hb : Below w.heap.size w w') : BlockV w' v b := fun f => (h f).below hb
theorem KidsV.below {w w' : World} {v : Value} {l : List BlockL} (h : KidsV w v l) (hb : Below w.heap.size w w') : KidsV w' v l := by
  obtain ⟨a, len, cap, e, hl, hm, hs, hr⟩ := h
  refine ⟨a, len, cap, e, hl, hm, hs, fun j hj => ?_⟩
  obtain ⟨bk, off, x, y, z, ha, hlt, h0, h1, h2, hk⟩ := hr j hj
  exact ⟨bk, off, x, y, z, ha, Nat.lt_of_lt_of_le hlt hb.size, (hb.cell (p := ⟨bk, off + j * 3, none⟩) hlt).trans h0, (hb.cell (p := ⟨bk, off + j * 3 + 1, none⟩) hlt).trans h1, (hb.cell (p := ⟨bk, off + j * 3 + 2, none⟩) hlt).trans h2, hk.below hb⟩
/-- A block is what it is by itself, and a slice of its kids. -/
theorem blockV_iff {w : World} {v : Value} {b : BlockL} : BlockV w v b ↔ ∃ kv, v = .agg #[.int .i64 b.kind, .int .i64 b.label, kv] ∧ KidsV w kv b.kids := by
  constructor
  · intro h
    obtain ⟨a, len, cap, e, hl, hm, hs, hr⟩ := h 1
    refine ⟨_, e, a, len, cap, rfl, hl, hm, hs, fun j hj => ?_⟩
    obtain ⟨bk, off, x, y, z, ha, hlt, h0, h1, h2, _⟩ := hr j hj
    refine ⟨bk, off, x, y, z, ha, hlt, h0, h1, h2, fun f => ?_⟩
    obtain ⟨a', len', cap', e', _, _, _, hr'⟩ := h (f + 1)
    rw [e] at e'
    injection e' with e'
    simp only [Array.mk.injEq, List.cons.injEq, Value.slice.injEq, and_true, true_and] at e'
    obtain ⟨rfl, rfl, rfl⟩ := e'
    obtain ⟨bk', off', x', y', z', ha', _, g0, g1, g2, hk⟩ := hr' j hj
    rw [ha] at ha'
    injection ha' with ha'
    injection ha' with r1 r2
    subst r1 r2
    rw [h0] at g0
    rw [h1] at g1
    rw [h2] at g2
    injection g0 with g0
    injection g1 with g1
    injection g2 with g2
    subst g0 g1 g2
    exact hk
  · rintro ⟨kv, e, a, len, cap, rfl, hl, hm, hs, hr⟩ f
    cases f with
    | zero => trivial
    | succ f =>
      refine ⟨a, len, cap, e, hl, hm, hs, fun j hj => ?_⟩
      obtain ⟨bk, off, x, y, z, ha, hlt, h0, h1, h2, hk⟩ := hr j hj
      exact ⟨bk, off, x, y, z, ha, hlt, h0, h1, h2, hk f⟩
theorem KidsV.slice {w : World} {v : Value} {l : List BlockL} (h : KidsV w v l) : ∃ a cap, v = .slice a l.length cap ∧ l.length ≤ 3518437208780 ∧ Shape a l.length cap := by
  obtain ⟨a, len, cap, e, hl, hm, hs, hr⟩ := h
  subst hl
  exact ⟨a, cap, e, hm, hs⟩
/-- The j-th of them. -/
theorem KidsV.at {w : World} {a : Option Addr} {len cap : Nat} {l : List BlockL} (h : KidsV w (.slice a len cap) l) {j : Nat} (hj : j < l.length) :
    ∃ bk off kv, a = some ⟨bk, off, none⟩ ∧ bk < w.heap.size ∧ w.cell? ⟨bk, off + j * 3, none⟩ = some (.int .i64 l[j].kind) ∧ w.cell? ⟨bk, off + j * 3 + 1, none⟩ = some (.int .i64 l[j].label) ∧ w.cell? ⟨bk, off + j * 3 + 2, none⟩ = some kv ∧
      BlockV w (.agg #[.int .i64 l[j].kind, .int .i64 l[j].label, kv]) l[j] := by
  obtain ⟨a', len', cap', e, hl, hm, hs, hr⟩ := h
  injection e with e1 e2 e3
  subst e1 e2 e3
  obtain ⟨bk, off, x, y, z, ha, hlt, h0, h1, h2, hk⟩ := hr j hj
  obtain ⟨kv, e, hkv⟩ := blockV_iff.1 hk
  injection e with e
  simp only [Array.mk.injEq, List.cons.injEq, and_true] at e
  obtain ⟨rfl, rfl, rfl⟩ := e
  exact ⟨bk, off, z, ha, hlt, h0, h1, h2, hk⟩
/-- All but the first. -/
theorem KidsV.tail {w : World} {a : Addr} {n cap : Nat} {k : BlockL} {l : List BlockL} (h : KidsV w (.slice (some a) (n + 1) cap) (k :: l)) : KidsV w (.slice (some (a.add 3)) n (cap - 1)) l := by
  obtain ⟨a', len', cap', e, hl, hm, hs, hr⟩ := h
  injection e with e1 e2 e3
  subst e1 e2 e3
  simp only [List.length_cons] at hl
  refine ⟨_, _, _, rfl, by omega, by omega, ⟨by have := hs.1; omega, by have := hs.2.1; omega, fun q => by cases q⟩, fun j hj => ?_⟩
  obtain ⟨bk, off, x, y, z, ha, hlt, h0, h1, h2, hk⟩ := hr (j + 1) (by simp; omega)
  injection ha with ha
  subst ha
  refine ⟨bk, off + 3, x, y, z, by simp [Addr.add], hlt, ?_, ?_, ?_, hk⟩
  · rw [← h0]; congr 2; omega
  · rw [← h1]; congr 2; omega
  · rw [← h2]; congr 2; omega

end Go.Proofs.Ytfgimobmaahmmaa
