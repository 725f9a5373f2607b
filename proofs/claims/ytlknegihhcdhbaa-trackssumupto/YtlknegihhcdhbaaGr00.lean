import Derived.WalkKit
import Derived.Below
import Derived.Deep.QuietTactic
import Derived.BigQuiet
import Derived.Deep.DeepCutAuto
import Derived.Deep.LoopGhost
import Derived.Deep.RegionHeld3
import Derived.Laws.AppendOwnNone
import Derived.Test.YtlknegihhcdhbaaProg
import Derived.Maps.RangeWalk
import Derived.WideKeyPair
import Derived.Shelf.SlSortCmp.Whole1
import Derived.Lib.SlKeysI
import Derived.Sort.LotA
/- Plain words for what a slice of ints holds in memory, kept by whatever writes nothing that was there. -/
namespace Go.Proofs.Ytlknegihhcdhbaa
open Go.RowKit

/-- How many are at a place. -/
def nth (xs : List Int) (p : Nat) : Int := xs.getD p 0

theorem nth_past (xs : List Int) (p : Nat) (h : xs.length ≤ p) : nth xs p = 0 := by
  unfold nth; simp [List.getD, List.getElem?_eq_none h]

theorem ret_int {k : IntKind} {a b : Int} (h : a = b) : Ending.returned (.int k a) = .returned (.int k b) := by rw [h]
theorem ret_bool {a b : Bool} (h : a = b) : Ending.returned (.bool a) = .returned (.bool b) := by rw [h]

theorem addr_add (b off j : Nat) : (⟨b, off, none⟩ : Addr).add j = ⟨b, off + j, none⟩ := by
  unfold Addr.add
  by_cases h : j = 0 <;> simp [h]

/-- Where a slice of ints begins, and what its elements are. -/
def Row (w : World) (a : Option Addr) (xs : List Int) : Prop :=
  ∀ j, j < xs.length → ∃ b off, a = some ⟨b, off, none⟩ ∧ b < w.heap.size ∧ w.cell? ⟨b, off + j, none⟩ = some (.int .i64 (nth xs j))

theorem Row.below {w w' : World} {a : Option Addr} {xs : List Int} (h : Row w a xs) (hb : Below w.heap.size w w') : Row w' a xs := by
  intro j hj
  obtain ⟨b, off, ha, hlt, hc⟩ := h j hj
  exact ⟨b, off, ha, Nat.lt_of_lt_of_le hlt hb.size, by rw [hb.cell (p := ⟨b, off + j, none⟩) hlt]; exact hc⟩

theorem Row.drewN {w : World} {a : Option Addr} {xs : List Int} (h : Row w a xs) (n : Nat) : Row (w.drewN n) a xs := by
  intro j hj
  obtain ⟨b, off, ha, hlt, hc⟩ := h j hj
  exact ⟨b, off, ha, by simpa using hlt, by simpa using hc⟩

theorem Row.nil (w : World) (a : Option Addr) : Row w a [] := fun j hj => absurd hj (by simp)

/-- What every slice keeps. -/
def Shape (a : Option Addr) (len cap : Nat) : Prop := len ≤ cap ∧ cap ≤ 9223372036854775807 ∧ (a = none → cap = 0)

/-- A value that is a slice of these ints; what it holds has room in a machine. -/
def Ints (w : World) (v : Value) (xs : List Int) : Prop :=
  ∃ a len cap, v = .slice a len cap ∧ xs.length = len ∧ len ≤ 17592186044416 ∧ Shape a len cap ∧ Row w a xs

theorem Ints.below {w w' : World} {v : Value} {xs : List Int} (h : Ints w v xs) (hb : Below w.heap.size w w') : Ints w' v xs := by
  obtain ⟨a, len, cap, e, hl, hm, hs, hr⟩ := h
  exact ⟨a, len, cap, e, hl, hm, hs, hr.below hb⟩

theorem Ints.drewN {w : World} {v : Value} {xs : List Int} (h : Ints w v xs) (n : Nat) : Ints (w.drewN n) v xs := by
  obtain ⟨a, len, cap, e, hl, hm, hs, hr⟩ := h
  exact ⟨a, len, cap, e, hl, hm, hs, hr.drewN n⟩

/-- All but the first. -/
theorem ints_tail {w : World} {b off len cap : Nat} {t : Int} {ts : List Int} (hr : Row w (some ⟨b, off, none⟩) (t :: ts)) (hl : ts.length + 1 = len) (hm : len ≤ 17592186044416) (hs : Shape (some ⟨b, off, none⟩) len cap) :
    Ints w (.slice (if cap = 1 then some ⟨b, off, none⟩ else some ⟨b, off + 1, none⟩) (len - 1) (cap - 1)) ts := by
  obtain ⟨h1, h2, _⟩ := hs
  refine ⟨_, _, _, rfl, by omega, by omega, ⟨by omega, by omega, fun h => by split at h <;> cases h⟩, fun j hj => ?_⟩
  have hc : ¬ cap = 1 := by omega
  obtain ⟨b', off', e, hlt, hc'⟩ := hr (j + 1) (by simp; omega)
  injection e with e
  injection e with e1 e2
  subst e1 e2
  refine ⟨b, off + 1, by rw [if_neg hc], hlt, ?_⟩
  rw [show off + 1 + j = off + (j + 1) by omega, hc']
  simp [nth]

theorem Ints.nil (w : World) : Ints w (.slice none 0 0) [] := ⟨none, 0, 0, rfl, rfl, by omega, ⟨by omega, by omega, fun _ => rfl⟩, Row.nil _ _⟩

theorem below_drewN {B : Nat} {a w : World} (h : Below B a w) (n : Nat) : Below B a (w.drewN n) := by
  induction n generalizing w with
  | zero => exact h
  | succ n ih => exact (ih h).drew

theorem below_then {w w1 w2 : World} (h : Below w.heap.size w w1) (k : Below w1.heap.size w1 w2) : Below w.heap.size w w2 := h.trans (k.mono h.size)
theorem below_new (w : World) (o : Obj) : Below w.heap.size w (w.alloc o) := (Below.refl _ _).alloc (Nat.le_refl _) _

theorem below_of_drewN {w w' : World} (h : ∃ m, w' = w.drewN m) : Below w.heap.size w w' := by
  obtain ⟨m, rfl⟩ := h; exact below_drewN (Below.refl _ _) m

/-- A row of n ints that the call itself made, at block B, whose first k are those of zs, and the rest 0; nothing older has turned. -/
structure Filled (B : Nat) (w wr : World) (n k : Nat) (zs : List Int) : Prop where
  cells : ∀ j, j < n → wr.cell? ⟨B, j, none⟩ = some (.int .i64 (if j < k then nth zs j else 0))
  frozen : ∀ j, j < n → wr.frozen? ⟨B, j, none⟩ = false
  below : Below B w wr
  size : B < wr.heap.size

theorem Filled.step {B : Nat} {w wr : World} {n k : Nat} {zs : List Int} (h : Filled B w wr n k zs) (hk : k < n) {x : Int} (hx : nth zs k = x) : Filled B w (wr.setCell ⟨B, k, none⟩ (.int .i64 x)) n (k + 1) zs := by
  refine ⟨fun j hj => ?_, fun j hj => by rw [World.frozen?_setCell]; exact h.frozen j hj, h.below.setCell (Nat.le_refl _) _, by simpa [World.setCell] using h.size⟩
  by_cases e : j = k
  · subst e
    rw [World.cell?_setCell_same _ _ _ (h.cells j hj), if_pos (by omega), hx]
  · rw [World.cell?_setCell_other _ _ _ _ (by intro q; apply e; injection q with _ q2; exact q2.symm), h.cells j hj]
    congr 2
    by_cases hjk : j < k
    · rw [if_pos hjk, if_pos (by omega)]
    · rw [if_neg hjk, if_neg (by omega)]

theorem Filled.done {B : Nat} {w wr : World} {n : Nat} {zs : List Int} (h : Filled B w wr n n zs) (hl : zs.length = n) (hn : n ≤ 17592186044416) {cap : Nat} (hc : n ≤ cap) (hc2 : cap ≤ 9223372036854775807) : Ints wr (.slice (some ⟨B, 0, none⟩) n cap) zs :=
  ⟨_, _, _, rfl, hl, hn, ⟨hc, hc2, fun h => by cases h⟩, fun j hj => ⟨B, 0, rfl, h.size, by rw [Nat.zero_add, h.cells j (by omega), if_pos (by omega)]⟩⟩

theorem ints_lit (w : World) (b : Nat) (zs : List Int) (t : TypeId) (n : Nat) (hn : zs.length = n) (h : n ≤ 17592186044416) (hb : b = w.heap.size) :
    Ints (w.alloc (.cells (zs.map (Value.int .i64)).toArray t)) (.slice (some ⟨b, 0, none⟩) n n) zs := by
  subst hb
  refine ⟨_, _, _, rfl, hn, h, ⟨by omega, by omega, fun h => by cases h⟩, fun j hj => ⟨w.heap.size, 0, rfl, by simp, ?_⟩⟩
  rw [World.cell?_alloc_at _ _ _ _ rfl]
  simp [nth, List.getD, List.getElem?_eq_getElem hj]

end Go.Proofs.Ytlknegihhcdhbaa

/- A slice of ints that the call itself has made: 'make', and 'append' of one number. -/
namespace Go.Proofs.Ytlknegihhcdhbaa
open Go.RowKit
set_option linter.unusedVariables false
set_option maxRecDepth 4000

theorem info_int : (Try.prog.info? 3).map (fun i => (i.zero, i.size, i.bytes)) = some (some (.int .i64 0), 1, 8) := by kernel_rfl

theorem make_ints (w : World) (n : Nat) (hn : n ≤ 17592186044416) :
    ∃ w1, (Instr.makeSlice 23 (.int .i64 (n : Int)) (.int .i64 (n : Int))).run Try.prog w = .ok (.slice (some ⟨w.heap.size, 0, none⟩) n n) w1 ∧
      Below w.heap.size w w1 ∧ w.heap.size < w1.heap.size ∧ ∀ j, j < n → w1.cell? ⟨w.heap.size, j, none⟩ = some (.int .i64 0) ∧ w1.frozen? ⟨w.heap.size, j, none⟩ = false := by
  obtain ⟨i0, hi, hz0, hz1, hz2⟩ := info_parts info_int
  have h := run_make (P := Try.prog) w 23 3 i0 (.int .i64 0) Try.underlying23 hi hz0 .i64 .i64 n n (by omega) (by omega) (by rw [hz2]; omega) (by omega)
  simp only [Int.toNat_natCast] at h
  refine ⟨_, h, (Below.refl _ _).alloc (Nat.le_refl _) _, by simp, fun j hj => ⟨?_, ?_⟩⟩
  · rw [World.cell?_alloc_at _ _ _ _ rfl]
    simp [madeCells, hz1, Value.cells, hj, Nat.mod_one]
  · exact World.frozen?_alloc_at _ _ _ _ rfl

/-- A slice of these ints, nil or in a block from B on; nothing older has turned. -/
def Own (B : Nat) (w wr : World) (v : Value) (zs : List Int) : Prop :=
  wr.ownsRow B 3 1 v zs.length (zs.map (Value.int .i64)) ∧ Below B w wr ∧ B ≤ wr.heap.size

theorem Own.nil (w : World) : Own w.heap.size w w (.slice none 0 0) [] := ⟨World.ownsRow_nil _ _ _ _, Below.refl _ _, Nat.le_refl _⟩

theorem Own.nil_of {B : Nat} {w wr : World} (hb : Below B w wr) (hB : B ≤ wr.heap.size) : Own B w wr (.slice none 0 0) [] := ⟨World.ownsRow_nil _ _ _ _, hb, hB⟩

theorem Own.ints {B : Nat} {w wr : World} {v : Value} {zs : List Int} (h : Own B w wr v zs) (hl : zs.length ≤ 17592186044416) : Ints wr v zs := by
  obtain ⟨hown, hb, hB⟩ := h
  have hown0 := hown
  obtain ⟨_, hcase⟩ := hown
  rcases hcase with ⟨rfl, h0⟩ | ⟨g, cap', cur, rfl, hg, hh, hn, hcap, hsz, htake⟩
  · exact ⟨none, zs.length, 0, by rw [h0], rfl, hl, ⟨by omega, by omega, fun _ => rfl⟩, fun j hj => absurd hj (by omega)⟩
  · refine ⟨_, _, _, rfl, rfl, hl, ⟨hn, by unfold maxLen at hcap; omega, fun h => by cases h⟩, fun j hj => ⟨g, 0, rfl, ?_, ?_⟩⟩
    · rcases Nat.lt_or_ge g wr.heap.size with h | h
      · exact h
      · rw [Array.getElem?_eq_none h] at hh; cases hh
    · rw [Nat.zero_add, hown0.cellAt j (by omega)]
      simp [nth, List.getD, List.getElem?_eq_getElem hj]

theorem Own.trans {B : Nat} {w wr w2 : World} {v : Value} {zs : List Int} (h : Own B w wr v zs) (hb : Below wr.heap.size wr w2) : Own B w w2 v zs := by
  obtain ⟨hown, hb0, hB⟩ := h
  have hlt := hown.lt
  refine ⟨hown.kept (row := none) ⟨hb.os, hb.tape, hb.output, hb.size, fun k hk _ => hb.block k hk⟩ ?_, hb0.trans (hb.mono hB), Nat.le_trans hB hb.size⟩
  cases hv : v.ownBlock with
  | none => exact .inl rfl
  | some k => exact .inr (by simp)

theorem wp_append_int {ops : Array Oper} {rest : List Oper} {o : Oper} {a : Act} {Q : Exit → Act → World → Prop} (hgd : o.guard = none) (s x : Operand)
    (ho : o.op = .call { callee := .builtin .append, args := #[s, x], argTypes := #[23, 23] }) (B : Nat) (w wr : World) (v : Value) (zs : List Int) (z : Int) (hG : Own B w wr v zs)
    (hs : a.eval s = v) (hx : a.eval x = .slice (some ⟨wr.heap.size, 0, none⟩) 1 1) (hl : zs.length + 1 ≤ 17592186044416)
    (h : ∀ v' w', Own B w w' v' (zs ++ [z]) → wpList Try.prog ops Q rest (a.put o.dst v') w') : wpList Try.prog ops Q (o :: rest) a (wr.alloc (.cells #[.int .i64 z] 3)) := by
  obtain ⟨i0, hi, hz0, hz1, hz2⟩ := info_parts info_int
  obtain ⟨hown, hb, hB⟩ := hG
  refine wpList_append_own _ hgd s x 23 ho B 3 i0 (.int .i64 0) 1 8 Try.underlying23 hi hz0 hz1 hz2 rfl (by decide) v zs.length _ hs (hown.alloc _) ⟨wr.heap.size, 0, none⟩ 1 1 [.int .i64 z] hx rfl ?_ ?_ ?_ ?_ ?_ ?_
  · intro j u hj
    match j, hj with
    | 0, hj => simp at hj; subst hj; simp [Addr.add]
  · intro u hu; simp at hu; subst hu; rfl
  · unfold maxLen; omega
  · omega
  · simp; omega
  · intro v' w' hown' hgrow _
    refine h v' w' ⟨by simpa using hown', (hb.alloc hB _).grown hgrow (by simp; omega) (fun k hk => (hown.lt k hk).1), ?_⟩
    have := hgrow.size; simp at this; omega

/-- append of all of another slice. -/
theorem wp_append_ints {ops : Array Oper} {rest : List Oper} {o : Oper} {a : Act} {Q : Exit → Act → World → Prop} (hgd : o.guard = none) (s x : Operand)
    (ho : o.op = .call { callee := .builtin .append, args := #[s, x], argTypes := #[23, 23] }) (B : Nat) (w wr : World) (v u : Value) (zs ys : List Int) (hG : Own B w wr v zs)
    (hs : a.eval s = v) (hx : a.eval x = u) (hu : Ints wr u ys) (hl : zs.length + ys.length ≤ 17592186044416)
    (h : ∀ v' w', Own B w w' v' (zs ++ ys) → wpList Try.prog ops Q rest (a.put o.dst v') w') : wpList Try.prog ops Q (o :: rest) a wr := by
  obtain ⟨i0, hi, hz0, hz1, hz2⟩ := info_parts info_int
  obtain ⟨ax, len, cap, rfl, hlen, hmx, hsh, hr⟩ := hu
  have hG0 := hG
  obtain ⟨hown, hb, hB⟩ := hG
  cases ax with
  | none =>
    have hc0 : cap = 0 := hsh.2.2 rfl
    have hl0 : len = 0 := by have := hsh.1; omega
    subst hc0 hl0
    have hy : ys = [] := List.length_eq_zero_iff.1 hlen
    subst hy
    exact wpList_append_own_none hgd s x 23 ho B 3 i0 1 Try.underlying23 hi v zs.length _ hs hown hx (h v wr (by simpa using hG0))
  | some ad =>
    refine wpList_append_own _ hgd s x 23 ho B 3 i0 (.int .i64 0) 1 8 Try.underlying23 hi hz0 hz1 hz2 rfl (by decide) v zs.length _ hs hown ad len cap (ys.map (Value.int .i64)) hx (by simp [hlen]) ?_ ?_ ?_ ?_ hB ?_
    · intro j u hj
      have hjl : j < ys.length := by
        rcases Nat.lt_or_ge j ys.length with h1 | h1
        · exact h1
        · rw [List.getElem?_eq_none (by simpa using h1)] at hj; cases hj
      obtain ⟨b, off, e, hlt, hc⟩ := hr j hjl
      injection e with e
      subst e
      rw [addr_add, hc]
      simp [List.getElem?_eq_getElem hjl] at hj
      subst hj
      simp [nth, List.getD, List.getElem?_eq_getElem hjl]
    · intro u hu
      obtain ⟨z, _, rfl⟩ := List.mem_map.1 hu
      rfl
    · unfold maxLen; omega
    · omega
    · intro v' w' hown' hgrow _
      refine h v' w' ⟨by simpa [hlen] using hown', hb.grown hgrow hB (fun k hk => (hown.lt k hk).1), Nat.le_trans hB hgrow.size⟩

end Go.Proofs.Ytlknegihhcdhbaa

/- Sets: maps of struct{}, over whatever keys. -/
namespace Go.Proofs.Ytlknegihhcdhbaa
open Go.RowKit
open Go.Maps (Keyed)
set_option linter.unusedVariables false
set_option maxRecDepth 4000

/-- What a type of keys is: the values, what they read as, which of them there are. -/
structure KeyT {α : Type} (K : TypeId) (mk : α → Value) (lit : α → Lit) (ok : α → Prop) : Prop where
  keyed : Keyed Try.prog K
  key : ∀ x, ok x → keyOf Try.prog K (mk x) = some (lit x)
  inv : ∀ v l, keyOf Try.prog K v = some l → ∃ x, v = mk x ∧ l = lit x ∧ ok x
  inj : ∀ x y, mk x = mk y → x = y

/-- Block b is a set of at most n keys: these. -/
def SetA {α : Type} (K : TypeId) (lit : α → Lit) (ok : α → Prop) (w : World) (b n : Nat) (S : α → Prop) : Prop :=
  ∃ D : DataW Unit, w.ownsMap Try.prog K unitElem b n D ∧ ∀ l, Maps.has D l = true ↔ ∃ x, ok x ∧ S x ∧ l = lit x
section
variable {α : Type} {K : TypeId} {mk : α → Value} {lit : α → Lit} {ok : α → Prop}
theorem SetA.lt {w : World} {b n : Nat} {S : α → Prop} (h : SetA K lit ok w b n S) : b < w.heap.size := by obtain ⟨D, h1, _⟩ := h; exact h1.lt
theorem SetA.kept {w w' : World} {b n : Nat} {S : α → Prop} {row : Option Nat} (h : SetA K lit ok w b n S) (hg : w.grownBy w' row) (hne : some b ≠ row) : SetA K lit ok w' b n S := by
  obtain ⟨D, h1, h2⟩ := h; exact ⟨D, h1.kept hg hne, h2⟩
theorem SetA.below {w w' : World} {b n : Nat} {S : α → Prop} (h : SetA K lit ok w b n S) (hb : Below w.heap.size w w') : SetA K lit ok w' b n S := by
  have hlt := h.lt
  obtain ⟨D, ⟨es, clock, h0, F, hs, hD⟩, h2⟩ := h
  exact ⟨D, ⟨es, clock, (hb.block b hlt).trans h0, F, hs, hD⟩, h2⟩
theorem SetA.block {w w' : World} {b n : Nat} {S : α → Prop} (h : SetA K lit ok w b n S) (hb : w'.heap[b]? = w.heap[b]?) : SetA K lit ok w' b n S := by
  obtain ⟨D, ⟨es, clock, h0, F, hs, hD⟩, h2⟩ := h
  exact ⟨D, ⟨es, clock, hb.trans h0, F, hs, hD⟩, h2⟩
theorem setA_made (w : World) : SetA K lit ok (w.alloc (.map #[] 0)) w.heap.size 0 (fun _ : α => False) :=
  ⟨.map [], World.ownsMap_made w Try.prog K unitElem, fun l => by simp [Maps.has]⟩
theorem SetA.same {w : World} {b n : Nat} {S S' : α → Prop} (h : SetA K lit ok w b n S) (hs : ∀ x, ok x → (S x ↔ S' x)) : SetA K lit ok w b n S' := by
  obtain ⟨D, h1, h2⟩ := h
  refine ⟨D, h1, fun l => (h2 l).trans ⟨?_, ?_⟩⟩
  · rintro ⟨x, hx, hS, e⟩; exact ⟨x, hx, (hs x hx).1 hS, e⟩
  · rintro ⟨x, hx, hS, e⟩; exact ⟨x, hx, (hs x hx).2 hS, e⟩
theorem setA_has {S : α → Prop} {D : DataW Unit} (T : KeyT K mk lit ok) (h2 : ∀ l, Maps.has D l = true ↔ ∃ x, ok x ∧ S x ∧ l = lit x) {x : α} (hx : ok x) : Maps.has D (lit x) = true ↔ S x := by
  rw [h2]
  constructor
  · rintro ⟨y, hy, hS, e⟩
    rw [T.inj x y (T.keyed.inj (T.key x hx) (by rw [e]; exact T.key y hy))]; exact hS
  · intro hS; exact ⟨x, hx, hS, rfl⟩

/-- 'm[x] = struct{}{}'. -/
theorem wp_set_add (T : KeyT K mk lit ok) {t e : TypeId} (ht : Try.prog.underlying t = some (.map K e)) {ops : Array Oper} {rest : List Oper} {o : Oper} {a : Act} {Q : Exit → Act → World → Prop} (hgd : o.guard = none) (m y u : Operand)
    (ho : o.op = .mapUpdate t m y u) (w : World) (b n : Nat) (S : α → Prop) (x : α) (h : SetA K lit ok w b n S) (hx : ok x) (hn : n < maxLen) (hm : a.eval m = .map (some b)) (hy : a.eval y = mk x) (hu : a.eval u = .agg #[])
    (hK : ∀ w', SetA K lit ok w' b (n + 1) (fun z => S z ∨ z = x) → w.grownBy w' (some b) → ∀ v, wpList Try.prog ops Q rest (a.put o.dst v) w') : wpList Try.prog ops Q (o :: rest) a w := by
  obtain ⟨D, h1, h2⟩ := h
  refine wpList_plain hgd fun K' hK' => ?_
  obtain ⟨w', hrun, r1, r2⟩ := h1.update T.keyed ht hn (T.key x hx) unitElem_mk
  unfold Oper.wp
  simp [execOp, ho, hm, hy, hu, hrun, Result.andThen]
  refine hK' _ _ (hK w' ⟨_, r1, fun l => ?_⟩ r2 _)
  have hkl : WideAt.IsKeyLit (lit x) := T.keyed.key (T.key x hx)
  by_cases e : l = lit x
  · subst e
    rw [Maps.has_put_same h1.isMap hkl]
    exact ⟨fun _ => ⟨x, hx, .inr rfl, rfl⟩, fun _ => rfl⟩
  · rw [Maps.has_put_other e, h2]
    constructor
    · rintro ⟨z, hz, hS, r⟩; exact ⟨z, hz, .inl hS, r⟩
    · rintro ⟨z, hz, hS | rfl, r⟩
      · exact ⟨z, hz, hS, r⟩
      · exact absurd r e
end

theorem types_some : ∃ m, Try.prog.types.size = m + 1 := ⟨Try.prog.types.size - 1, by have : 0 < Try.prog.types.size := of_decide_eq_true (by kernel_rfl); omega⟩

/-- Numbers as keys. -/
def okI (x : Int) : Prop := (Lit.int .i64 x).wf = true
theorem okI_of {x : Int} (h : -9223372036854775808 ≤ x ∧ x ≤ 9223372036854775807) : okI x := by
  unfold okI
  simp [Lit.wf, IntKind.min, IntKind.max, IntKind.signed, IntKind.bits]
  omega
theorem keyI : KeyT 3 (Value.int .i64) (Lit.int .i64) okI where
  keyed := Maps.int_keyed Try.underlying3
  key x hx := Maps.keyOf_int_mk Try.underlying3 hx
  inv v l h := by obtain ⟨x, e1, e2, hw⟩ := Maps.keyOf_int_inv Try.underlying3 h; exact ⟨x, e1, e2, hw⟩
  inj x y e := by injection e

/-- Pairs of numbers as keys. -/
def pairV (p : Int × Int) : Value := .agg #[.int .i64 p.1, .int .i64 p.2]
def pairLit (p : Int × Int) : Lit := .string (keyBytes [.int .i64 p.1, .int .i64 p.2])
def okP (p : Int × Int) : Prop := okI p.1 ∧ okI p.2
theorem arrP : WideMaps.ArrKey Try.prog 38 3 2 := ⟨Try.underlying38, by kernel_rfl, by kernel_rfl, by kernel_rfl⟩
theorem keyLits_int {d : Nat} {c : Value} {l : List Lit} (h : Try.prog.keyLits d 3 [c] = some l) : ∃ x, c = .int .i64 x ∧ l = [.int .i64 x] ∧ okI x := by
  cases d with
  | zero => cases h
  | succ d =>
    unfold Program.keyLits at h
    rw [Try.underlying3] at h
    cases c <;> simp at h
    obtain ⟨⟨rfl, hw⟩, rfl⟩ := h
    exact ⟨_, rfl, rfl, hw⟩
theorem keyP : KeyT 38 pairV pairLit okP where
  keyed := Keyed.of_law arrP.law
  key x hx := WideMaps.keyOf_pair arrP Try.underlying3 types_some hx.1 hx.2
  inv v l h := by
    obtain ⟨xs, L, rfl, hL, rfl⟩ := keyOf_top arrP.wide h
    obtain ⟨m, hm⟩ := types_some
    rw [hm] at hL
    unfold Program.keyLits at hL
    simp only [Try.underlying38] at hL
    split at hL
    · rename_i hlen
      rw [arrP.size] at hlen
      obtain ⟨l⟩ := xs
      match l, hlen with
      | [c0, c1], _ =>
        rw [show List.range 2 = [0, 1] from rfl, List.mapM_cons, List.mapM_cons, List.mapM_nil] at hL
        simp only [arrP.one, Nat.zero_mul, Nat.one_mul, List.drop_zero, List.drop_succ_cons, List.take_succ_cons, List.take_zero] at hL
        simp only [bind, Option.bind_eq_some_iff, Option.map_eq_some_iff, pure, Option.some.injEq] at hL
        obtain ⟨ls, ⟨l0, h0, l1, ⟨l2, h2, _, rfl, rfl⟩, rfl⟩, rfl⟩ := hL
        obtain ⟨x, rfl, rfl, hx⟩ := keyLits_int h0
        obtain ⟨y, rfl, rfl, hy⟩ := keyLits_int h2
        exact ⟨(x, y), rfl, rfl, hx, hy⟩
    · cases hL
  inj x y e := by
    unfold pairV at e
    injection e with e
    injection e with e
    injection e with e1 e
    injection e with e2 _
    injection e1 with _ e1
    injection e2 with _ e2
    exact Prod.ext e1 e2

end Go.Proofs.Ytlknegihhcdhbaa

/- Of the library's contracts, as they lie in the program. (Made by tools/lay_tmpl.py out of the shelf's plain text.) -/
namespace Go.Proofs.Ytlknegihhcdhbaa
open Go.Shelf

def sortFI_ren : Go.Shelf.Ren := ⟨fun | 6 => 77 | 15 => 49 | 14 => 93 | 28 => 72 | 29 => 73 | 20 => 98 | 21 => 99 | 22 => 100 | 23 => 101 | 24 => 102 | 25 => 103 | 26 => 104 | 27 => 105 | 46 => 107 | 47 => 80 | 48 => 81 | 49 => 108 | 50 => 109 | 57 => 110 | n => n, fun | 22 => 23 | 24 => 3 | 25 => 75 | 3 => 3 | 39 => 74 | 0 => 0 | 53 => 96 | 55 => 98 | 4 => 4 | 46 => 89 | 45 => 88 | 50 => 93 | 5 => 5 | 9 => 9 | 66 => 103 | 70 => 107 | 76 => 115 | 77 => 116 | n => n, fun | n => n⟩

theorem sortFI : Go.Proofs.SlLaysF.n6 Try.prog sortFI_ren := {
  mixed := by kernel_rfl
  f6 := ⟨Try.f77.name, by decide, Try.func77.trans (congrArg some (by kernel_rfl))⟩
  f14 := ⟨Try.f93.name, by decide, Try.func93.trans (congrArg some (by kernel_rfl))⟩
  f15 := Try.func49.trans (congrArg some (by kernel_rfl))
  f20 := ⟨Try.f98.name, by decide, Try.func98.trans (congrArg some (by kernel_rfl))⟩
  f21 := ⟨Try.f99.name, by decide, Try.func99.trans (congrArg some (by kernel_rfl))⟩
  f22 := ⟨Try.f100.name, by decide, Try.func100.trans (congrArg some (by kernel_rfl))⟩
  f23 := ⟨Try.f101.name, by decide, Try.func101.trans (congrArg some (by kernel_rfl))⟩
  f24 := ⟨Try.f102.name, by decide, Try.func102.trans (congrArg some (by kernel_rfl))⟩
  f25 := ⟨Try.f103.name, by decide, Try.func103.trans (congrArg some (by kernel_rfl))⟩
  f26 := ⟨Try.f104.name, by decide, Try.func104.trans (congrArg some (by kernel_rfl))⟩
  f27 := ⟨Try.f105.name, by decide, Try.func105.trans (congrArg some (by kernel_rfl))⟩
  f28 := Try.func72.trans (congrArg some (by kernel_rfl))
  f29 := Try.func73.trans (congrArg some (by kernel_rfl))
  f46 := ⟨Try.f107.name, by decide, Try.func107.trans (congrArg some (by kernel_rfl))⟩
  f47 := Try.func80.trans (congrArg some (by kernel_rfl))
  f48 := Try.func81.trans (congrArg some (by kernel_rfl))
  f49 := ⟨Try.f108.name, by decide, Try.func108.trans (congrArg some (by kernel_rfl))⟩
  f50 := ⟨Try.f109.name, by decide, Try.func109.trans (congrArg some (by kernel_rfl))⟩
  f57 := ⟨Try.f110.name, by decide, Try.func110.trans (congrArg some (by kernel_rfl))⟩
  t0 := Try.underlying0
  a0 := Try.isAgg0
  z0 := Try.sizeOf0
  v0 := Try.zeroValue0
  t3 := Try.underlying3
  a3 := Try.isAgg3
  z3 := Try.sizeOf3
  v3 := Try.zeroValue3
  t4 := Try.underlying4
  a4 := Try.isAgg4
  z4 := Try.sizeOf4
  v4 := Try.zeroValue4
  t5 := Try.underlying5
  a5 := Try.isAgg5
  z5 := Try.sizeOf5
  v5 := Try.zeroValue5
  t9 := Try.underlying9
  a9 := Try.isAgg9
  z9 := Try.sizeOf9
  v9 := Try.zeroValue9
  t22 := Try.underlying23
  a22 := Try.isAgg23
  z22 := Try.sizeOf23
  v22 := Try.zeroValue23
  a24 := Try.isAgg3
  z24 := Try.sizeOf3
  t25 := Try.underlying75
  a25 := Try.isAgg75
  z25 := Try.sizeOf75
  v25 := Try.zeroValue75
  t39 := Try.underlying74
  a39 := Try.isAgg74
  z39 := Try.sizeOf74
  v39 := Try.zeroValue74
  t45 := Try.underlying88
  a45 := Try.isAgg88
  z45 := Try.sizeOf88
  v45 := Try.zeroValue88
  t46 := Try.underlying89
  a46 := Try.isAgg89
  z46 := Try.sizeOf89
  v46 := Try.zeroValue89
  t50 := Try.underlying93
  a50 := Try.isAgg93
  z50 := Try.sizeOf93
  v50 := Try.zeroValue93
  t53 := Try.underlying96
  a53 := Try.isAgg96
  z53 := Try.sizeOf96
  v53 := Try.zeroValue96
  t55 := Try.underlying98
  a55 := Try.isAgg98
  z55 := Try.sizeOf98
  v55 := Try.zeroValue98
  t66 := Try.underlying103
  a66 := Try.isAgg103
  z66 := Try.sizeOf103
  v66 := Try.zeroValue103
  t70 := Try.underlying107
  a70 := Try.isAgg107
  z70 := Try.sizeOf107
  v70 := Try.zeroValue107
  t76 := Try.underlying115
  a76 := Try.isAgg115
  z76 := Try.sizeOf115
  v76 := Try.zeroValue115
  t77 := Try.underlying116
  a77 := Try.isAgg116
  z77 := Try.sizeOf116
  v77 := Try.zeroValue116 }

def sortFP_ren : Go.Shelf.Ren := ⟨fun | 6 => 18 | 15 => 49 | 14 => 48 | 28 => 72 | 29 => 73 | 20 => 64 | 21 => 65 | 22 => 66 | 23 => 67 | 24 => 68 | 25 => 69 | 26 => 70 | 27 => 71 | 46 => 79 | 47 => 80 | 48 => 81 | 49 => 82 | 50 => 83 | 57 => 94 | n => n, fun | 22 => 24 | 24 => 38 | 25 => 41 | 3 => 3 | 39 => 74 | 0 => 0 | 53 => 96 | 55 => 98 | 4 => 4 | 46 => 89 | 45 => 88 | 50 => 93 | 5 => 5 | 9 => 9 | 66 => 103 | 70 => 107 | 76 => 115 | 77 => 116 | n => n, fun | n => n⟩

theorem sortFP : Go.Proofs.SlLaysF0.n6 Try.prog sortFP_ren := {
  mixed := by kernel_rfl
  f6 := ⟨Try.f18.name, by decide, Try.func18.trans (congrArg some (by kernel_rfl))⟩
  f14 := ⟨Try.f48.name, by decide, Try.func48.trans (congrArg some (by kernel_rfl))⟩
  f15 := Try.func49.trans (congrArg some (by kernel_rfl))
  f20 := ⟨Try.f64.name, by decide, Try.func64.trans (congrArg some (by kernel_rfl))⟩
  f21 := ⟨Try.f65.name, by decide, Try.func65.trans (congrArg some (by kernel_rfl))⟩
  f22 := ⟨Try.f66.name, by decide, Try.func66.trans (congrArg some (by kernel_rfl))⟩
  f23 := ⟨Try.f67.name, by decide, Try.func67.trans (congrArg some (by kernel_rfl))⟩
  f24 := ⟨Try.f68.name, by decide, Try.func68.trans (congrArg some (by kernel_rfl))⟩
  f25 := ⟨Try.f69.name, by decide, Try.func69.trans (congrArg some (by kernel_rfl))⟩
  f26 := ⟨Try.f70.name, by decide, Try.func70.trans (congrArg some (by kernel_rfl))⟩
  f27 := ⟨Try.f71.name, by decide, Try.func71.trans (congrArg some (by kernel_rfl))⟩
  f28 := Try.func72.trans (congrArg some (by kernel_rfl))
  f29 := Try.func73.trans (congrArg some (by kernel_rfl))
  f46 := ⟨Try.f79.name, by decide, Try.func79.trans (congrArg some (by kernel_rfl))⟩
  f47 := Try.func80.trans (congrArg some (by kernel_rfl))
  f48 := Try.func81.trans (congrArg some (by kernel_rfl))
  f49 := ⟨Try.f82.name, by decide, Try.func82.trans (congrArg some (by kernel_rfl))⟩
  f50 := ⟨Try.f83.name, by decide, Try.func83.trans (congrArg some (by kernel_rfl))⟩
  f57 := ⟨Try.f94.name, by decide, Try.func94.trans (congrArg some (by kernel_rfl))⟩
  t0 := Try.underlying0
  a0 := Try.isAgg0
  z0 := Try.sizeOf0
  v0 := Try.zeroValue0
  t3 := Try.underlying3
  a3 := Try.isAgg3
  z3 := Try.sizeOf3
  v3 := Try.zeroValue3
  t4 := Try.underlying4
  a4 := Try.isAgg4
  z4 := Try.sizeOf4
  v4 := Try.zeroValue4
  t5 := Try.underlying5
  a5 := Try.isAgg5
  z5 := Try.sizeOf5
  v5 := Try.zeroValue5
  t9 := Try.underlying9
  a9 := Try.isAgg9
  z9 := Try.sizeOf9
  v9 := Try.zeroValue9
  t22 := Try.underlying24
  a22 := Try.isAgg24
  z22 := Try.sizeOf24
  v22 := Try.zeroValue24
  t25 := Try.underlying41
  a25 := Try.isAgg41
  z25 := Try.sizeOf41
  v25 := Try.zeroValue41
  t39 := Try.underlying74
  a39 := Try.isAgg74
  z39 := Try.sizeOf74
  v39 := Try.zeroValue74
  t45 := Try.underlying88
  a45 := Try.isAgg88
  z45 := Try.sizeOf88
  v45 := Try.zeroValue88
  t46 := Try.underlying89
  a46 := Try.isAgg89
  z46 := Try.sizeOf89
  v46 := Try.zeroValue89
  t50 := Try.underlying93
  a50 := Try.isAgg93
  z50 := Try.sizeOf93
  v50 := Try.zeroValue93
  t53 := Try.underlying96
  a53 := Try.isAgg96
  z53 := Try.sizeOf96
  v53 := Try.zeroValue96
  t55 := Try.underlying98
  a55 := Try.isAgg98
  z55 := Try.sizeOf98
  v55 := Try.zeroValue98
  t66 := Try.underlying103
  a66 := Try.isAgg103
  z66 := Try.sizeOf103
  v66 := Try.zeroValue103
  t70 := Try.underlying107
  a70 := Try.isAgg107
  z70 := Try.sizeOf107
  v70 := Try.zeroValue107
  t76 := Try.underlying115
  a76 := Try.isAgg115
  z76 := Try.sizeOf115
  v76 := Try.zeroValue115
  t77 := Try.underlying116
  a77 := Try.isAgg116
  z77 := Try.sizeOf116
  v77 := Try.zeroValue116 }
end Go.Proofs.Ytlknegihhcdhbaa

/- Going through a set; what SortFunc asks of byNumber; rows of numbers sorted by it. -/
namespace Go.Proofs.Ytlknegihhcdhbaa
open Go.RowKit Go.Lib Go.Sort
open Go.Maps (Keyed)
set_option linter.unusedVariables false
set_option linter.unusedSimpArgs false
set_option maxRecDepth 4000

/-- Under way through the set b, by the iterator r: those of 'left' are still to come. -/
def IterA {α : Type} (K : TypeId) (lit : α → Lit) (ok : α → Prop) (w : World) (b r n : Nat) (S left : α → Prop) (cnt : Nat) : Prop :=
  ∃ (D : DataW Unit) (L : Lit → Bool), w.ranges Try.prog K unitElem b r n D L cnt ∧ (∀ l, Maps.has D l = true ↔ ∃ x, ok x ∧ S x ∧ l = lit x) ∧ ∀ x, ok x → (L (lit x) = true ↔ left x)
theorem size_le {P : Program} {k : TypeId} {H : Type} {R : Value → Option (DataW H × List MemPlace)} {w : World} {b n : Nat} {D : DataW H} (h : w.ownsMap P k R b n D) : Maps.size D ≤ n := by
  obtain ⟨es, clock, _, _, hs, rfl⟩ := h
  simp only [Maps.size, length_sorted, List.length_map, Array.length_toList]
  exact hs
section
variable {α : Type} {K : TypeId} {mk : α → Value} {lit : α → Lit} {ok : α → Prop}
theorem IterA.kept {w w' : World} {b r n cnt : Nat} {S left : α → Prop} {row : Option Nat} (h : IterA K lit ok w b r n S left cnt) (hg : w.grownBy w' row) (hb : some b ≠ row) (hr : some r ≠ row) : IterA K lit ok w' b r n S left cnt := by
  obtain ⟨D, L, h1, h2, h3⟩ := h
  exact ⟨D, L, h1.kept hg hb hr, h2, h3⟩
theorem IterA.lt {w : World} {b r n cnt : Nat} {S left : α → Prop} (h : IterA K lit ok w b r n S left cnt) : r < w.heap.size := by obtain ⟨D, L, h1, h2, h3⟩ := h; exact h1.lt
theorem IterA.set {w : World} {b r n cnt : Nat} {S left : α → Prop} (h : IterA K lit ok w b r n S left cnt) : SetA K lit ok w b n S := by obtain ⟨D, L, h1, h2, h3⟩ := h; exact ⟨D, h1.owns, h2⟩
theorem IterA.apart {w : World} {b r n cnt : Nat} {S left : α → Prop} (h : IterA K lit ok w b r n S left cnt) {base : Nat} {e : TypeId} {size : Nat} {v : Value} {m : Nat} {xs : List Value} (hr : w.ownsRow base e size v m xs) : some r ≠ v.ownBlock := by
  obtain ⟨D, L, h1, h2, h3⟩ := h
  exact row_ne_iter hr h1

/-- 'len(m)'. -/
theorem wp_set_len {t e : TypeId} (ht : Try.prog.underlying t = some (.map K e)) {ops : Array Oper} {rest : List Oper} {o : Oper} {a : Act} {Q : Exit → Act → World → Prop} (hgd : o.guard = none) (m : Operand)
    (ho : o.op = Op.call { callee := Callee.builtin Builtin.len, args := #[m], argTypes := #[t] }) (w : World) (b n : Nat) (S : α → Prop) (h : SetA K lit ok w b n S) (hm : a.eval m = .map (some b))
    (hK : ∀ c : Nat, c ≤ n → wpList Try.prog ops Q rest (a.put o.dst (.int .i64 (c : Int))) w) : wpList Try.prog ops Q (o :: rest) a w := by
  obtain ⟨D, h1, h2⟩ := h
  exact wpList_len_own w hgd m t ho K e ht unitElem b n D hm h1 (hK _ (size_le h1))

/-- 'range m'. -/
theorem wp_set_range (T : KeyT K mk lit ok) {t e : TypeId} (ht : Try.prog.underlying t = some (.map K e)) {ops : Array Oper} {rest : List Oper} {o : Oper} {a : Act} {Q : Exit → Act → World → Prop} (hgd : o.guard = none) (m : Operand)
    (ho : o.op = Op.range t m) (w : World) (b n : Nat) (S : α → Prop) (h : SetA K lit ok w b n S) (hm : a.eval m = .map (some b))
    (hK : ∀ w' cnt, cnt ≤ n → IterA K lit ok w' b w.heap.size n S S cnt → w.grownBy w' none → w'.heap.size = w.heap.size + 1 → wpList Try.prog ops Q rest (a.put o.dst (.pointer (some ⟨w.heap.size, 0, none⟩))) w') : wpList Try.prog ops Q (o :: rest) a w := by
  obtain ⟨D, h1, h2⟩ := h
  exact wpList_range_own w hgd m t ho K e T.keyed ht unitElem b n D hm h1 fun w' r1 r2 r3 => hK w' _ (size_le h1) ⟨D, _, r1, h2, fun x hx => setA_has T h2 hx⟩ r2 r3

/-- The step. -/
theorem wp_set_next (T : KeyT K mk lit ok) {ops : Array Oper} {rest : List Oper} {o : Oper} {a : Act} {Q : Exit → Act → World → Prop} (hgd : o.guard = none) (it : Operand)
    (ho : o.op = Op.next it false) (w : World) (b r n : Nat) (S left : α → Prop) (cnt : Nat) (h : IterA K lit ok w b r n S left cnt) (hit : a.eval it = .pointer (some ⟨r, 0, none⟩))
    (hDone : cnt = 0 → (∀ x, ok x → ¬ left x) → wpList Try.prog ops Q rest (a.put o.dst (.tuple #[.bool false])) w)
    (hMore : ∀ (x : α) (w' : World) (cnt' : Nat), ok x → left x → S x → IterA K lit ok w' b r n S (fun z => left z ∧ z ≠ x) cnt' → cnt' < cnt → w.grownBy w' (some r) → w'.heap.size = w.heap.size →
      (Instr.entry (.pointer (some ⟨r, 0, none⟩))).run Try.prog w' = .ok (.tuple #[mk x, .agg #[]]) w' → wpList Try.prog ops Q rest (a.put o.dst (.tuple #[.bool true, mk x, .agg #[]])) w') : wpList Try.prog ops Q (o :: rest) a w := by
  obtain ⟨D, L, h1, h2, h3⟩ := h
  refine wpList_next_ranges (α := α) (β := Unit) w hgd it ho K T.keyed unitElem mk (fun _ => .agg #[]) (fun key kl hk => by obtain ⟨x, e, _⟩ := T.inv key kl hk; exact ⟨x, e⟩) (fun v y hv => ⟨(), (unitElem_inv hv).1⟩) b r n D L cnt hit h1
    (fun hc hl => hDone hc fun x hx hlx => by have := hl (lit x); rw [(h3 x hx).2 hlx] at this; cases this) ?_
  intro x c kl y w' cnt' hkey hlk hv hat hrg hlt hgr hsz hen
  obtain ⟨x', e1, rfl, hx⟩ := T.inv _ _ hkey
  obtain rfl := T.inj _ _ e1
  refine hMore x w' cnt' hx ((h3 x hx).1 hlk) ((setA_has T h2 hx).1 (Maps.has_true_of_atKey hat)) ⟨D, _, hrg, h2, fun z hz => ?_⟩ hlt hgr hsz hen
  rw [Bool.and_eq_true, h3 z hz]
  refine and_congr_right fun _ => ?_
  have hkl : WideAt.IsKeyLit (lit x) := T.keyed.key (T.key x hx)
  constructor
  · rintro hs rfl
    rw [WideAt.sameKey_self hkl] at hs
    cases hs
  · intro hne
    cases hq : (lit z).sameKey (lit x)
    · rfl
    · exact absurd (T.inj z x (T.keyed.inj (T.key z hz) (by rw [WideAt.sameKey_eq hq]; exact T.key x hx))) hne
end

/-- Collected: each once, those that are no longer to come. -/
def Coll {α : Type} (ok : α → Prop) (S left : α → Prop) (zs : List α) : Prop := zs.Nodup ∧ (∀ x ∈ zs, ok x) ∧ ∀ x, ok x → (x ∈ zs ↔ S x ∧ ¬ left x)
theorem Coll.start {α : Type} {ok S : α → Prop} : Coll ok S S [] := ⟨List.nodup_nil, fun x hx => absurd hx (by simp), fun x _ => by simp⟩
theorem Coll.step {α : Type} {ok S left : α → Prop} {zs : List α} {x : α} (h : Coll ok S left zs) (hx : ok x) (hl : left x) (hS : S x) : Coll ok S (fun z => left z ∧ z ≠ x) (zs ++ [x]) := by
  obtain ⟨h1, h2, h3⟩ := h
  refine ⟨List.nodup_append.2 ⟨h1, by simp, fun a ha b hb e => ?_⟩, fun z hz => ?_, fun z hz => ?_⟩
  · rw [List.mem_singleton] at hb
    subst hb e
    exact ((h3 a hx).1 ha).2 hl
  · rcases List.mem_append.1 hz with hz | hz
    · exact h2 z hz
    · rw [List.mem_singleton.1 hz]; exact hx
  · rw [List.mem_append, h3 z hz, List.mem_singleton]
    by_cases e : z = x
    · subst e; simp [hS]
    · simp [e]
theorem Coll.done {α : Type} {ok S left : α → Prop} {zs : List α} (h : Coll ok S left zs) (hl : ∀ x, ok x → ¬ left x) : zs.Nodup ∧ (∀ x ∈ zs, ok x) ∧ ∀ x, ok x → (x ∈ zs ↔ S x) :=
  ⟨h.1, h.2.1, fun x hx => by rw [h.2.2 x hx]; exact ⟨fun q => q.1, fun q => ⟨q, hl x hx⟩⟩⟩

/-! cmp.Compare, byNumber. -/
theorem isNaN_any (x : Int) (w : World) : Calls Try.prog 74 #[.int .i64 x] w fun e w' => e = .returned (.bool false) ∧ w' = w := by
  go_enter Try.func74, Try.ntmps74
  go_wp2
  go_ret
  exact ⟨by simp, rfl⟩
set_option maxHeartbeats 1000000 in
theorem compare_any (x y : Int) (w : World) : Calls Try.prog 50 #[.int .i64 x, .int .i64 y] w fun e w' => e = .returned (.int .i64 (Lib.compareInt x y)) ∧ w' = w := by
  go_enter Try.func50, Try.ntmps50
  go_wp2_with (go_at_call 74; refine (isNaN_any _ _).mono ?_; rintro e w' ⟨rfl, hw⟩; rw [hw])
  all_goals (go_ret; refine ⟨?_, rfl⟩; unfold Lib.compareInt; (repeat' split) <;> first | rfl | (exfalso; omega))
theorem byNumber_any (x y : Int) (w : World) : Calls Try.prog 60 #[.int .i64 x, .int .i64 y] w fun e w' => e = .returned (.int .i64 (Lib.compareInt x y)) ∧ w' = w := by
  have hcon := fun W => compare_any x y W
  generalize Lib.compareInt x y = r at hcon ⊢
  go_enter Try.func60, Try.ntmps60
  go_wp2_with (go_at_call 50; refine (hcon _).mono ?_; rintro e w' ⟨rfl, rfl⟩)
  go_ret
  exact ⟨rfl, rfl⟩
theorem ltI (x y : Int) : ltOf Lib.compareInt x y = decide (x < y) := by
  unfold ltOf Lib.compareInt
  by_cases h1 : x < y
  · simp [h1]
  · by_cases h2 : y < x <;> simp [h1, h2]
theorem swoI : SWO (ltOf Lib.compareInt) where
  irrefl x := by rw [ltI]; simp
  trans x y z h1 h2 := by rw [ltI] at *; simp at *; omega
  ntrans x y z h1 h2 := by rw [ltI] at *; simp at *; omega
theorem cmpI (blk off size : Nat) (w : World) : CmpLays1 Try.prog 60 #[] (Value.int .i64) Lib.compareInt blk off size w :=
  CmpReads.lays fun _ _ _ _ x y => (byNumber_any x y _).mono fun e w' ⟨he, hw⟩ => ⟨he, 0, by rw [hw]; rfl⟩
theorem byNumber_enters : ∀ args w, (callFunc 60 args).run Try.prog w = .ok (.enter 60 args) w := enters_of Try.func60 (by kernel_rfl) rfl

/-- slices.SortFunc over a row of the call's own, by byNumber. -/
theorem sortFI_own (B : Nat) (w wr : World) (v : Value) (zs : List Int) (hO : Own B w wr v zs) (hl : zs.length ≤ 17592186044416) (hn : ∃ a c, v = .slice (some a) zs.length c) :
    Calls Try.prog 77 #[v, .func (.func 60) #[] #[]] wr fun e w' => e = .returned (.tuple #[]) ∧ ∃ ts, ts.Perm zs ∧ ts.Pairwise (· ≤ ·) ∧ Own B w w' v ts ∧ wr.grownBy w' v.ownBlock := by
  obtain ⟨hrow, hb, hB⟩ := hO
  rcases hrow.2 with ⟨rfl, hz⟩ | ⟨gb, cap, cur, rfl, hbase, hgb, r1, r2, r3, r4⟩
  · obtain ⟨a, c, e⟩ := hn; cases e
  · have hH : Holds (Value.int .i64) wr gb 0 zs.toArray := holds_of_block_i hgb (by simpa using r4)
    have hgl : gb < wr.heap.size := (Array.getElem?_eq_some_iff.1 hgb).1
    have hcon := Any.slices_SortFunc sortFI (Value.int .i64) (fun _ => rfl) Lib.compareInt swoI 60 #[] gb 0 cap zs.toArray wr byNumber_enters (cmpI gb 0 zs.toArray.size wr) hH hgl (by simp; omega)
    rw [List.size_toArray] at hcon
    refine Calls.mono hcon ?_
    rintro e w' ⟨rfl, d', nn, os, ⟨hp1, _, hp2⟩, hs, rfl⟩
    replace hp1 : d'.size = zs.length := by rw [← List.size_toArray]; exact hp1
    have hdl : d'.toList.length = zs.length := by rw [Array.length_toList, hp1]
    have hperm : d'.toList.Perm zs := by
      have e1 : (d'.extract 0 zs.length).toList = d'.toList := by rw [← hp1]; simp
      have e2 : (zs.toArray.extract 0 zs.length).toList = zs := by simp
      rw [e1, e2] at hp2
      exact hp2
    have hg := grownBy_sorted_i (w := wr) (g := gb) (n := nn) (os := os) d'
    have hrow' := ownsRow_sorted_i (n := nn) (os := os) (ts := d'.toList) (ss := zs) hdl hbase hgb r1 r2 r3
    rw [show d'.toList.toArray = d' by simp] at hrow'
    refine ⟨rfl, d'.toList, hperm, ?_, ⟨?_, hb.grown hg (by omega) (fun j hj => by cases hj; exact hbase), Nat.le_trans hB hg.size⟩, hg⟩
    · rw [List.pairwise_iff_getElem]
      intro i j hi hj hij
      rw [Array.length_toList, hp1] at hi hj
      have := hs i j (Nat.zero_le _) hij hj
      rw [ltI, decide_eq_false_iff_not] at this
      rw [getElem!_pos d' j (by omega), getElem!_pos d' i (by omega)] at this
      simp only [Array.getElem_toList]
      omega
    · rw [hdl]; exact hrow'

end Go.Proofs.Ytlknegihhcdhbaa

/- Plain words for what a net holds in memory. -/
namespace Go.Proofs.Ytlknegihhcdhbaa
open Go.RowKit
set_option linter.unusedVariables false
set_option maxRecDepth 4000

/-- A transition. -/
structure TranL where
  label : Int
  pre : List Int
  post : List Int

/-- A net. -/
structure NetL where
  places : Int
  trans : List TranL

def noTran : TranL := ⟨0, [], []⟩
def tranAt (ts : List TranL) (k : Nat) : TranL := ts.getD k noTran

/-- Three cells that are a transition. -/
def IsTran (w : World) (c0 c1 c2 : Value) (t : TranL) : Prop := c0 = .int .i64 t.label ∧ Ints w c1 t.pre ∧ Ints w c2 t.post

theorem IsTran.below {w w' : World} {c0 c1 c2 : Value} {t : TranL} (h : IsTran w c0 c1 c2 t) (hb : Below w.heap.size w w') : IsTran w' c0 c1 c2 t :=
  ⟨h.1, h.2.1.below hb, h.2.2.below hb⟩

/-- Where a slice of transitions begins, and what they are. -/
def TranRow (w : World) (a : Option Addr) (ts : List TranL) : Prop :=
  ∀ j, j < ts.length → ∃ b off c1 c2, a = some ⟨b, off, none⟩ ∧ b < w.heap.size ∧ w.cell? ⟨b, off + j * 3, none⟩ = some (.int .i64 (tranAt ts j).label) ∧
    w.cell? ⟨b, off + j * 3 + 1, none⟩ = some c1 ∧ w.cell? ⟨b, off + j * 3 + 2, none⟩ = some c2 ∧ Ints w c1 (tranAt ts j).pre ∧ Ints w c2 (tranAt ts j).post

theorem TranRow.below {w w' : World} {a : Option Addr} {ts : List TranL} (h : TranRow w a ts) (hb : Below w.heap.size w w') : TranRow w' a ts := by
  intro j hj
  obtain ⟨b, off, c1, c2, ha, hlt, h0, h1, h2, h3, h4⟩ := h j hj
  exact ⟨b, off, c1, c2, ha, Nat.lt_of_lt_of_le hlt hb.size, by rw [hb.cell (p := ⟨b, _, none⟩) hlt]; exact h0, by rw [hb.cell (p := ⟨b, _, none⟩) hlt]; exact h1, by rw [hb.cell (p := ⟨b, _, none⟩) hlt]; exact h2, h3.below hb, h4.below hb⟩

/-- A value that is a slice of these transitions. -/
def Trans (w : World) (v : Value) (ts : List TranL) : Prop :=
  ∃ a len cap, v = .slice a len cap ∧ ts.length = len ∧ len ≤ 2513169434916 ∧ Shape a len cap ∧ TranRow w a ts

theorem Trans.below {w w' : World} {v : Value} {ts : List TranL} (h : Trans w v ts) (hb : Below w.heap.size w w') : Trans w' v ts := by
  obtain ⟨a, len, cap, e, hl, hm, hs, hr⟩ := h
  exact ⟨a, len, cap, e, hl, hm, hs, hr.below hb⟩

theorem Trans.at {w : World} {a : Option Addr} {len cap : Nat} {ts : List TranL} (h : Trans w (.slice a len cap) ts) {k : Nat} (hk : k < len) :
    ∃ b off c1 c2, a = some ⟨b, off, none⟩ ∧ b < w.heap.size ∧ w.cell? ⟨b, off + k * 3, none⟩ = some (.int .i64 (tranAt ts k).label) ∧
      w.cell? ⟨b, off + k * 3 + 1, none⟩ = some c1 ∧ w.cell? ⟨b, off + k * 3 + 2, none⟩ = some c2 ∧ Ints w c1 (tranAt ts k).pre ∧ Ints w c2 (tranAt ts k).post := by
  obtain ⟨a', len', cap', e, hl, hm, hs, hr⟩ := h
  injection e with e1 e2 e3
  subst e1 e2 e3
  exact hr k (by omega)

theorem trans_lit2 (w : World) (b : Nat) (c1 c2 d1 d2 : Value) (p1 q1 p2 q2 : List Int) (l1 l2 : Int) (t : TypeId) (h1 : Ints w c1 p1) (h2 : Ints w c2 q1) (h3 : Ints w d1 p2) (h4 : Ints w d2 q2) (hb : b = w.heap.size) :
    Trans (w.alloc (.cells #[.int .i64 l1, c1, c2, .int .i64 l2, d1, d2] t)) (.slice (some ⟨b, 0, none⟩) 2 2) [⟨l1, p1, q1⟩, ⟨l2, p2, q2⟩] := by
  subst hb
  have hn := below_new w (.cells #[.int .i64 l1, c1, c2, .int .i64 l2, d1, d2] t)
  refine ⟨_, _, _, rfl, rfl, by omega, ⟨by omega, by omega, fun h => by cases h⟩, fun j hj => ?_⟩
  match j, hj with
  | 0, _ => exact ⟨w.heap.size, 0, c1, c2, rfl, by simp, by rw [World.cell?_alloc_at _ _ _ _ rfl]; rfl, by rw [World.cell?_alloc_at _ _ _ _ rfl]; rfl, by rw [World.cell?_alloc_at _ _ _ _ rfl]; rfl, h1.below hn, h2.below hn⟩
  | 1, _ => exact ⟨w.heap.size, 0, d1, d2, rfl, by simp, by rw [World.cell?_alloc_at _ _ _ _ rfl]; rfl, by rw [World.cell?_alloc_at _ _ _ _ rfl]; rfl, by rw [World.cell?_alloc_at _ _ _ _ rfl]; rfl, h3.below hn, h4.below hn⟩
  | j + 2, h => simp at h; omega

/-- A value that is this net. -/
def Net (w : World) (v : Value) (n : NetL) : Prop := ∃ tv, v = .agg #[.int .i64 n.places, tv] ∧ Trans w tv n.trans

theorem Net.below {w w' : World} {v : Value} {n : NetL} (h : Net w v n) (hb : Below w.heap.size w w') : Net w' v n := by
  obtain ⟨tv, e, ht⟩ := h
  exact ⟨tv, e, ht.below hb⟩

/-- A net that is not great. -/
def BulkNet (n : NetL) : Prop := n.trans.length ≤ 1048576 ∧ ∀ k, k < n.trans.length → (tranAt n.trans k).pre.length + (tranAt n.trans k).post.length ≤ 1048576

/-- No transition has so much that it has no room. -/
def SmallNet (n : NetL) : Prop := ∀ k, k < n.trans.length → (tranAt n.trans k).pre.length + (tranAt n.trans k).post.length ≤ 17592186044416

theorem BulkNet.small {n : NetL} (h : BulkNet n) : SmallNet n := fun k hk => Nat.le_trans (h.2 k hk) (by omega)

/-- A slice of slices of ints. -/
def Lists (w : World) (v : Value) (ls : List (List Int)) : Prop :=
  ∃ a len cap, v = .slice a len cap ∧ ls.length = len ∧ len ≤ 17592186044416 ∧ Shape a len cap ∧
    ∀ j, j < ls.length → ∃ b off u, a = some ⟨b, off, none⟩ ∧ b < w.heap.size ∧ w.cell? ⟨b, off + j, none⟩ = some u ∧ Ints w u (ls.getD j [])

theorem Lists.below {w w' : World} {v : Value} {ls : List (List Int)} (h : Lists w v ls) (hb : Below w.heap.size w w') : Lists w' v ls := by
  obtain ⟨a, len, cap, e, hl, hm, hs, hr⟩ := h
  refine ⟨a, len, cap, e, hl, hm, hs, fun j hj => ?_⟩
  obtain ⟨b, off, u, ha, hlt, hc, hu⟩ := hr j hj
  exact ⟨b, off, u, ha, Nat.lt_of_lt_of_le hlt hb.size, by rw [hb.cell (p := ⟨b, _, none⟩) hlt]; exact hc, hu.below hb⟩

theorem lists_lit2 (w : World) (b : Nat) (x y : Value) (xs ys : List Int) (t : TypeId) (hx : Ints w x xs) (hy : Ints w y ys) (hb : b = w.heap.size) :
    Lists (w.alloc (.cells #[x, y] t)) (.slice (some ⟨b, 0, none⟩) 2 2) [xs, ys] := by
  subst hb
  have hn := below_new w (.cells #[x, y] t)
  refine ⟨_, _, _, rfl, rfl, by omega, ⟨by omega, by omega, fun h => by cases h⟩, fun j hj => ?_⟩
  match j, hj with
  | 0, _ => exact ⟨w.heap.size, 0, x, rfl, by simp, by rw [World.cell?_alloc_at _ _ _ _ rfl]; rfl, hx.below hn⟩
  | 1, _ => exact ⟨w.heap.size, 0, y, rfl, by simp, by rw [World.cell?_alloc_at _ _ _ _ rfl]; rfl, hy.below hn⟩
  | j + 2, h => simp at h; omega

end Go.Proofs.Ytlknegihhcdhbaa

/- Plain words for what logs show. -/
namespace Go.Proofs.Ytlknegihhcdhbaa
set_option linter.unusedVariables false
set_option maxRecDepth 4000

/-- No label that is seen. -/
def noLab (x : Int) : Bool := decide (x < 1) || decide (26 < x)
def badT (t : List Int) : Bool := decide (60 < t.length) || t.any noLab
/-- Why it is no log, or 0. -/
def wrongV (log : List (List Int)) : Int := if 60 < log.length then 4 else if log.any badT then 2 else 0
theorem wrongV_ok {log : List (List Int)} (h : wrongV log = 0) : log.length ≤ 60 ∧ ∀ t ∈ log, t.length ≤ 60 ∧ ∀ x ∈ t, 1 ≤ x ∧ x ≤ 26 := by
  unfold wrongV at h
  split at h
  · cases h
  · split at h
    · cases h
    · rename_i h1 h2
      refine ⟨by omega, fun t ht => ?_⟩
      have h3 : badT t = false := by
        cases hb : badT t
        · rfl
        · exact absurd (List.any_eq_true.2 ⟨t, ht, hb⟩) h2
      unfold badT at h3
      simp only [Bool.or_eq_false_iff, decide_eq_false_iff_not] at h3
      refine ⟨by omega, fun x hx => ?_⟩
      have h4 := List.any_eq_false.1 h3.2 x hx
      unfold noLab at h4
      simp only [Bool.or_eq_true, decide_eq_true_eq, not_or] at h4
      omega

def inT (a : Int) (t : List Int) : Bool := t.contains a
def firstT (a : Int) (t : List Int) : Bool := t.head? == some a
def lastT (a : Int) (t : List Int) : Bool := t.getLast? == some a
def behindT (p : Int × Int) (t : List Int) : Bool := (List.range t.length).any fun k => decide (0 < k) && (nth t (k - 1) == p.1) && (nth t k == p.2)
def labels26 : List Int := (List.range 26).map fun i : Nat => (i : Int) + 1
def pairs26 : List (Int × Int) := labels26.flatMap fun a => labels26.map fun b => (a, b)
structure PrintsL where
  labels : List Int
  first : List Int
  last : List Int
  behind : List (Int × Int)
def noPrints : PrintsL := ⟨[], [], [], []⟩
def printsOf (log : List (List Int)) : PrintsL :=
  ⟨labels26.filter fun a => log.any (inT a), labels26.filter fun a => log.any (firstT a), labels26.filter fun a => log.any (lastT a), pairs26.filter fun p => log.any (behindT p)⟩
/-- What a log shows, and why not. -/
def ofL (log : List (List Int)) : PrintsL × Int := if wrongV log = 0 then (printsOf log, 0) else (noPrints, wrongV log)
def ontoT (ls : List Int) (t : List Int) : List Int := t.filter fun x => ls.contains x
def ontoL (log : List (List Int)) (ls : List Int) : List (List Int) := log.map (ontoT ls)

theorem mem_labels26 {x : Int} : x ∈ labels26 ↔ 1 ≤ x ∧ x ≤ 26 := by
  unfold labels26
  simp only [List.mem_map, List.mem_range]
  constructor
  · rintro ⟨i, hi, rfl⟩; omega
  · intro h; exact ⟨(x - 1).toNat, by omega, by omega⟩
theorem mem_pairs26 {p : Int × Int} : p ∈ pairs26 ↔ (1 ≤ p.1 ∧ p.1 ≤ 26) ∧ 1 ≤ p.2 ∧ p.2 ≤ 26 := by
  unfold pairs26
  simp only [List.mem_flatMap, List.mem_map, mem_labels26]
  constructor
  · rintro ⟨a, ha, b, hb, rfl⟩; exact ⟨ha, hb⟩
  · intro h; exact ⟨p.1, h.1, p.2, h.2, rfl⟩
theorem labels26_rises : labels26.Pairwise (· < ·) := by decide
/-- Pairs, by their first ones, then by their second ones. -/
def ltP (p q : Int × Int) : Prop := p.1 < q.1 ∨ p.1 = q.1 ∧ p.2 < q.2
theorem pw_mono {α : Type} {R S : α → α → Prop} (h : ∀ a b, R a b → S a b) : ∀ {l : List α}, l.Pairwise R → l.Pairwise S
  | [], _ => List.Pairwise.nil
  | a :: l, hp => by
    obtain ⟨h1, h2⟩ := List.pairwise_cons.1 hp
    exact List.pairwise_cons.2 ⟨fun b hb => h a b (h1 b hb), pw_mono h h2⟩
theorem pairs26_rises : pairs26.Pairwise ltP := by
  unfold pairs26
  rw [List.pairwise_flatMap]
  refine ⟨fun a _ => ?_, ?_⟩
  · rw [List.pairwise_map]
    exact pw_mono (fun b c h => .inr ⟨rfl, h⟩) labels26_rises
  · refine pw_mono (fun a b h x hx y hy => ?_) labels26_rises
    simp only [List.mem_map] at hx hy
    obtain ⟨_, _, rfl⟩ := hx
    obtain ⟨_, _, rfl⟩ := hy
    exact .inl h
/-- Two lists that rise and have the same members are the same. -/
theorem rises_unique {α : Type} {lt : α → α → Prop} (irr : ∀ x, ¬ lt x x) (asym : ∀ x y, lt x y → ¬ lt y x) : ∀ {xs ys : List α}, xs.Pairwise lt → ys.Pairwise lt → (∀ x, x ∈ xs ↔ x ∈ ys) → xs = ys
  | [], [], _, _, _ => rfl
  | [], y :: ys, _, _, h => absurd ((h y).2 (List.mem_cons_self ..)) (by simp)
  | x :: xs, [], _, _, h => absurd ((h x).1 (List.mem_cons_self ..)) (by simp)
  | x :: xs, y :: ys, hx, hy, h => by
    obtain ⟨hx1, hx2⟩ := List.pairwise_cons.1 hx
    obtain ⟨hy1, hy2⟩ := List.pairwise_cons.1 hy
    have e : x = y := by
      rcases List.mem_cons.1 ((h x).1 (List.mem_cons_self ..)) with e | e
      · exact e
      · rcases List.mem_cons.1 ((h y).2 (List.mem_cons_self ..)) with e' | e'
        · exact e'.symm
        · exact absurd (hx1 y e') (asym _ _ (hy1 x e))
    subst e
    congr 1
    refine rises_unique irr asym hx2 hy2 fun z => ⟨fun hz => ?_, fun hz => ?_⟩
    · rcases List.mem_cons.1 ((h z).1 (List.mem_cons_of_mem _ hz)) with rfl | e
      · exact absurd (hx1 z hz) (irr z)
      · exact e
    · rcases List.mem_cons.1 ((h z).2 (List.mem_cons_of_mem _ hz)) with rfl | e
      · exact absurd (hy1 z hz) (irr z)
      · exact e
theorem rises_labels {xs : List Int} {p : Int → Bool} (h : xs.Pairwise (· < ·)) (hm : ∀ x, x ∈ xs ↔ (1 ≤ x ∧ x ≤ 26) ∧ p x = true) : xs = labels26.filter p :=
  rises_unique (lt := (· < ·)) (fun x => by omega) (fun x y => by omega) h (labels26_rises.filter _) fun x => by rw [hm, List.mem_filter, mem_labels26]
theorem rises_pairs {xs : List (Int × Int)} {p : Int × Int → Bool} (h : xs.Pairwise ltP) (hm : ∀ x, x ∈ xs ↔ ((1 ≤ x.1 ∧ x.1 ≤ 26) ∧ 1 ≤ x.2 ∧ x.2 ≤ 26) ∧ p x = true) : xs = pairs26.filter p :=
  rises_unique (lt := ltP) (fun x => by unfold ltP; omega) (fun x y => by unfold ltP; omega) h (pairs26_rises.filter _) fun x => by rw [hm, List.mem_filter, mem_pairs26]

theorem any_take_succ {log : List (List Int)} {k : Nat} (h : k < log.length) (f : List Int → Bool) : (log.take (k + 1)).any f = ((log.take k).any f || f (log.getD k [])) := by
  rw [List.take_add_one, List.getElem?_eq_getElem h, List.any_append, List.getD_eq_getElem?_getD, List.getElem?_eq_getElem h]
  simp

/-! The laws, plainly. -/
theorem onto_both (log : List (List Int)) (a b : List Int) : ontoL (ontoL log a) b = ontoL log (a.filter fun x => b.contains x) := by
  unfold ontoL
  rw [List.map_map]
  refine List.map_congr_left fun t _ => ?_
  show ontoT b (ontoT a t) = _
  unfold ontoT
  rw [List.filter_filter]
  refine List.filter_congr fun x _ => ?_
  rw [Bool.eq_iff_iff]
  simp only [Bool.and_eq_true, List.contains_iff_mem, List.mem_filter]
  exact ⟨fun h => ⟨h.2, by simpa using h.1⟩, fun h => ⟨by simpa using h.2, h.1⟩⟩
theorem onto_swap (log : List (List Int)) (a b : List Int) : ontoL (ontoL log a) b = ontoL (ontoL log b) a := by
  unfold ontoL
  rw [List.map_map, List.map_map]
  refine List.map_congr_left fun t _ => ?_
  show ontoT b (ontoT a t) = ontoT a (ontoT b t)
  unfold ontoT
  rw [List.filter_filter, List.filter_filter]
  refine List.filter_congr fun x _ => ?_
  rw [Bool.and_comm]

end Go.Proofs.Ytlknegihhcdhbaa

/- A list of numbers at a place. -/
namespace Go.Proofs.Ytlknegihhcdhbaa
open Go.RowKit

theorem ints_atL {w : World} {a : Option Addr} {len cap : Nat} {xs : List Int} (h : Ints w (.slice a len cap) xs) {k : Nat} (hk : k < len) : ∃ b off, a = some ⟨b, off, none⟩ ∧ b < w.heap.size ∧ w.cell? ⟨b, off + k, none⟩ = some (.int .i64 (nth xs k)) := by
  obtain ⟨a', len', cap', e, hl, hm, hs, hr⟩ := h
  injection e with e1 e2 e3
  subst e1 e2 e3
  exact hr k (by omega)

end Go.Proofs.Ytlknegihhcdhbaa

/- Structs of two and of three cells, in a box. -/
namespace Go.Proofs.Ytlknegihhcdhbaa
open Go.RowKit
set_option linter.unusedVariables false
set_option maxRecDepth 4000

/-- Two cells of a block. -/
def Box2 (w : World) (b : Nat) (x y : Value) : Prop := b < w.heap.size ∧ w.cell? ⟨b, 0, none⟩ = some x ∧ w.cell? ⟨b, 1, none⟩ = some y
theorem Box2.below {w w' : World} {b : Nat} {x y : Value} (h : Box2 w b x y) (hb : Below w.heap.size w w') : Box2 w' b x y :=
  ⟨Nat.lt_of_lt_of_le h.1 hb.size, by rw [hb.cell (p := ⟨b, _, none⟩) h.1]; exact h.2.1, by rw [hb.cell (p := ⟨b, _, none⟩) h.1]; exact h.2.2⟩
theorem box2_new (w : World) (x y : Value) (t : TypeId) : Box2 (w.alloc (.cells #[x, y] t)) w.heap.size x y :=
  ⟨by simp, by rw [World.cell?_alloc_at _ _ _ _ rfl]; rfl, by rw [World.cell?_alloc_at _ _ _ _ rfl]; rfl⟩

/-- Three cells of a block. -/
def Box3 (w : World) (b : Nat) (x y z : Value) : Prop := b < w.heap.size ∧ w.cell? ⟨b, 0, none⟩ = some x ∧ w.cell? ⟨b, 1, none⟩ = some y ∧ w.cell? ⟨b, 2, none⟩ = some z
theorem Box3.below {w w' : World} {b : Nat} {x y z : Value} (h : Box3 w b x y z) (hb : Below w.heap.size w w') : Box3 w' b x y z :=
  ⟨Nat.lt_of_lt_of_le h.1 hb.size, by rw [hb.cell (p := ⟨b, _, none⟩) h.1]; exact h.2.1, by rw [hb.cell (p := ⟨b, _, none⟩) h.1]; exact h.2.2.1, by rw [hb.cell (p := ⟨b, _, none⟩) h.1]; exact h.2.2.2⟩
theorem box3_new (w : World) (x y z : Value) (t : TypeId) : Box3 (w.alloc (.cells #[x, y, z] t)) w.heap.size x y z :=
  ⟨by simp, by rw [World.cell?_alloc_at _ _ _ _ rfl]; rfl, by rw [World.cell?_alloc_at _ _ _ _ rfl]; rfl, by rw [World.cell?_alloc_at _ _ _ _ rfl]; rfl⟩

end Go.Proofs.Ytlknegihhcdhbaa

/- A slice of transitions that the call itself has made. -/
namespace Go.Proofs.Ytlknegihhcdhbaa
open Go.RowKit
set_option linter.unusedVariables false
set_option maxRecDepth 4000

/-- The cells of some transitions. -/
def tvCells (tv : List (Int × Value × Value)) : List Value := tv.flatMap fun x => [.int .i64 x.1, x.2.1, x.2.2]
theorem tvCells_length (tv : List (Int × Value × Value)) : (tvCells tv).length = tv.length * 3 := by
  unfold tvCells
  induction tv with
  | nil => rfl
  | cons x r ih => simp only [List.flatMap_cons, List.length_append, ih, List.length_cons, List.length_nil]; omega
theorem tvCells_append (tv us : List (Int × Value × Value)) : tvCells (tv ++ us) = tvCells tv ++ tvCells us := by simp [tvCells]
theorem tvCells_at (tv : List (Int × Value × Value)) (j : Nat) (h : j < tv.length) :
    (tvCells tv)[j * 3]? = some (.int .i64 tv[j].1) ∧ (tvCells tv)[j * 3 + 1]? = some tv[j].2.1 ∧ (tvCells tv)[j * 3 + 2]? = some tv[j].2.2 := by
  induction tv generalizing j with
  | nil => simp at h
  | cons x r ih =>
    have ec : tvCells (x :: r) = .int .i64 x.1 :: x.2.1 :: x.2.2 :: tvCells r := rfl
    match j, h with
    | 0, _ => exact ⟨rfl, rfl, rfl⟩
    | j + 1, h =>
      obtain ⟨q1, q2, q3⟩ := ih j (by simpa using h)
      rw [ec, show (j + 1) * 3 = j * 3 + 3 by omega]
      exact ⟨q1, q2, q3⟩

end Go.Proofs.Ytlknegihhcdhbaa

/- A value in a box. -/
namespace Go.Proofs.Ytlknegihhcdhbaa
open Go.RowKit
set_option linter.unusedVariables false
set_option maxRecDepth 4000

/-- A boxed value. -/
def Box1 (w : World) (b : Nat) (x : Value) : Prop := b < w.heap.size ∧ w.cell? ⟨b, 0, none⟩ = some x
theorem Box1.below {w w' : World} {b : Nat} {x : Value} (h : Box1 w b x) (hb : Below w.heap.size w w') : Box1 w' b x :=
  ⟨Nat.lt_of_lt_of_le h.1 hb.size, (hb.cell (p := ⟨b, 0, none⟩) h.1).trans h.2⟩
theorem box1_new (w : World) (x : Value) (t : TypeId) : Box1 (w.alloc (.cells #[x] t)) w.heap.size x :=
  ⟨by simp, by rw [World.cell?_alloc_at _ _ _ _ rfl]; rfl⟩

end Go.Proofs.Ytlknegihhcdhbaa

/- The first numbers, and lists that rise. -/
namespace Go.Proofs.Ytlknegihhcdhbaa
set_option linter.unusedVariables false
set_option maxRecDepth 4000

def rangeL (P : Nat) : List Int := (List.range P).map fun p : Nat => (p : Int)
theorem mem_range {P : Nat} {p : Int} : p ∈ rangeL P ↔ 0 ≤ p ∧ p < P := by
  unfold rangeL
  rw [List.mem_map]
  constructor
  · rintro ⟨a, ha, rfl⟩; rw [List.mem_range] at ha; omega
  · rintro ⟨h1, h2⟩; exact ⟨p.toNat, by rw [List.mem_range]; omega, by omega⟩
theorem pw_cast : ∀ {l : List Nat}, l.Pairwise (fun a b => a < b) → l.Pairwise (fun a b : Nat => (a : Int) < (b : Int))
  | [], _ => List.Pairwise.nil
  | a :: l, h => by
    rw [List.pairwise_cons] at h ⊢
    exact ⟨fun b hb => by have := h.1 b hb; omega, pw_cast h.2⟩
theorem range_sorted (P : Nat) : (rangeL P).Pairwise (· < ·) := by
  unfold rangeL
  rw [List.pairwise_map]
  exact pw_cast List.pairwise_lt_range

/-- Two lists that rise, of the same numbers, are one. -/
theorem up_unique : ∀ {xs ys : List Int}, xs.Pairwise (· < ·) → ys.Pairwise (· < ·) → (∀ t, t ∈ xs ↔ t ∈ ys) → xs = ys
  | [], [], _, _, _ => rfl
  | [], y :: yr, _, _, h => by have := (h y).2 (by simp); simp at this
  | x :: xr, [], _, _, h => by have := (h x).1 (by simp); simp at this
  | x :: xr, y :: yr, hx, hy, h => by
    obtain ⟨x1, x2⟩ := List.pairwise_cons.1 hx
    obtain ⟨y1, y2⟩ := List.pairwise_cons.1 hy
    have e : x = y := by
      have a1 := (h x).1 (by simp)
      have a2 := (h y).2 (by simp)
      rcases List.mem_cons.1 a1 with q | q
      · exact q
      · rcases List.mem_cons.1 a2 with r | r
        · exact r.symm
        · have := y1 x q; have := x1 y r; omega
    subst e
    have : xr = yr := up_unique x2 y2 fun t => by
      constructor
      · intro ht
        rcases List.mem_cons.1 ((h t).1 (by simp [ht])) with q | q
        · subst q; have := x1 t ht; omega
        · exact q
      · intro ht
        rcases List.mem_cons.1 ((h t).2 (by simp [ht])) with q | q
        · subst q; have := y1 t ht; omega
        · exact q
    rw [this]

end Go.Proofs.Ytlknegihhcdhbaa
