import Derived.Lib.TrailingZeros
import Derived.Laws.BitsAllLaws
import Derived.Test.YtakgppoeikcepaaGr00
import Derived.Maps.AppendAt
import Derived.Test.YtakgppoeikcepaaGr04
import Derived.Test.YtakgppoeikcepaaGr05
import Derived.BigRegion
import Derived.Maps.RangeWalk
import Derived.WideKeyPair
import Derived.Maps.OwnSet
import Derived.DeepKeys3
import Derived.Lib.AppendZeros
import Derived.Lib.SliceRun
import Derived.Test.YtakgppoeikcepaaRows
import Derived.ProofKit
import Derived.OpenShut
import Derived.ShutString
import Derived.ChangeOld
import Derived.SizedLaws
import Derived.Lib.SmallJoins
import Derived.Deep.Strs
import Derived.Deep.Slices
/- Sets of numbers as words of 64 bits, plainly. -/
namespace Go.Proofs.Ytakgppoeikcepaa
open Go.Lib
set_option linter.unusedVariables false
set_option maxRecDepth 4000

theorem low_bit {x : Nat} (h0 : 0 < x) (hx : x < 18446744073709551616) : ∃ b, ctz 64 x = b ∧ b < 64 ∧ x.testBit b = true ∧ (∀ i, i < b → x.testBit i = false) ∧ ∀ i, (x &&& (x - 1)).testBit i = (x.testBit i && decide (i ≠ b)) := by
  obtain ⟨m, hm, hb⟩ := ctzFrom_spec 64 x h0 hx
  have e : ctz 64 x = ctzFrom 64 x := by unfold ctz; rw [if_neg (by omega)]
  obtain ⟨b, hbe⟩ : ∃ b, ctzFrom 64 x = b := ⟨_, rfl⟩
  rw [hbe] at hm hb e
  have hp : 0 < 2 ^ b := Nat.pow_pos (by omega)
  have hx1 : x - 1 = 2 ^ b * (2 * m) + (2 ^ b - 1) := by rw [hm, Nat.mul_add]; omega
  have t1 : ∀ i, x.testBit i = if i < b then false else (2 * m + 1).testBit (i - b) := by
    intro i
    have := Nat.testBit_two_pow_mul_add (2 * m + 1) (b := 0) (i := b) hp i
    rw [Nat.add_zero, ← hm] at this
    rw [this]; split <;> simp
  have t2 : ∀ i, (x - 1).testBit i = if i < b then (2 ^ b - 1).testBit i else (2 * m).testBit (i - b) := by
    intro i
    rw [hx1]
    exact Nat.testBit_two_pow_mul_add (2 * m) (by omega) i
  refine ⟨b, e, hb, by rw [t1, if_neg (by omega), Nat.sub_self]; simp, fun i hi => by rw [t1, if_pos hi], fun i => ?_⟩
  rw [Nat.testBit_and, t1, t2]
  by_cases h1 : i < b
  · simp [h1]
  · rw [if_neg h1, if_neg h1]
    by_cases h2 : i = b
    · subst h2; simp
    · obtain ⟨j, hj⟩ : ∃ j, i - b = j + 1 := ⟨i - b - 1, by omega⟩
      rw [hj, Nat.testBit_succ, Nat.testBit_succ, show (2 * m + 1) / 2 = m by omega, show (2 * m) / 2 = m by omega]
      simp [h2]

/-- A set: five words. -/
structure SetL where
  at_ : Nat → Nat
  fit : ∀ k, at_ k < 18446744073709551616
def SetL.has (s : SetL) (m : Nat) : Bool := (s.at_ (m / 64)).testBit (m % 64)
def noneS : SetL := ⟨fun _ => 0, fun _ => by omega⟩
def onlyS (m : Nat) : SetL := ⟨fun k => if k = m / 64 then 2 ^ (m % 64) else 0, fun k => by
  split
  · exact Nat.lt_of_lt_of_le (Nat.pow_lt_pow_right (by omega) (Nat.mod_lt _ (by omega))) (by decide : 2 ^ 64 ≤ 18446744073709551616)
  · omega⟩
def orS (s t : SetL) : SetL := ⟨fun k => s.at_ k ||| t.at_ k, fun k => by
  have := Nat.or_lt_two_pow (n := 64) (s.fit k) (t.fit k); exact this⟩
def andS (s t : SetL) : SetL := ⟨fun k => s.at_ k &&& t.at_ k, fun k => Nat.lt_of_le_of_lt Nat.and_le_left (s.fit k)⟩
def emptyS (s : SetL) : Bool := decide (s.at_ 0 = 0 ∧ s.at_ 1 = 0 ∧ s.at_ 2 = 0 ∧ s.at_ 3 = 0 ∧ s.at_ 4 = 0)
def eqS (s t : SetL) : Bool := (List.range 5).all fun j => (s.at_ j : Int) == (t.at_ j : Int)
/-- The same as far as five words go. -/
def SameS (s t : SetL) : Prop := ∀ k, k < 5 → s.at_ k = t.at_ k

theorem has_none (m : Nat) : noneS.has m = false := by simp [SetL.has, noneS]
theorem has_only (m j : Nat) : (onlyS m).has j = decide (j = m) := by
  unfold SetL.has onlyS
  simp only
  by_cases h : j / 64 = m / 64
  · rw [if_pos h, Nat.testBit_two_pow]
    by_cases h2 : m % 64 = j % 64
    · simp only [h2, decide_true]; rw [decide_eq_true]; omega
    · rw [decide_eq_false h2, decide_eq_false]; intro e; subst e; exact h2 rfl
  · rw [if_neg h, Nat.zero_testBit, decide_eq_false]; intro e; subst e; exact h rfl
theorem has_or (s t : SetL) (m : Nat) : (orS s t).has m = (s.has m || t.has m) := by unfold SetL.has orS; simp only [Nat.testBit_or]
theorem has_and (s t : SetL) (m : Nat) : (andS s t).has m = (s.has m && t.has m) := by unfold SetL.has andS; simp only [Nat.testBit_and]
theorem SameS.has {s t : SetL} (h : SameS s t) {m : Nat} (hm : m < 320) : s.has m = t.has m := by unfold SetL.has; rw [h _ (by omega)]
theorem SameS.of_has {s t : SetL} (h : ∀ m, m < 320 → s.has m = t.has m) : SameS s t := by
  intro k hk
  apply Nat.eq_of_testBit_eq
  intro i
  by_cases hi : i < 64
  · have := h (k * 64 + i) (by omega)
    unfold SetL.has at this
    rwa [show (k * 64 + i) / 64 = k by omega, show (k * 64 + i) % 64 = i by omega] at this
  · have e : (18446744073709551616 : Nat) ≤ 2 ^ i := Nat.le_trans (by decide : 18446744073709551616 ≤ 2 ^ 64) (Nat.pow_le_pow_right (by omega) (by omega))
    rw [Nat.testBit_lt_two_pow (Nat.lt_of_lt_of_le (s.fit k) e), Nat.testBit_lt_two_pow (Nat.lt_of_lt_of_le (t.fit k) e)]
theorem emptyS_iff (s : SetL) : emptyS s = true ↔ ∀ m, m < 320 → s.has m = false := by
  unfold emptyS
  rw [decide_eq_true_iff]
  constructor
  · rintro ⟨h0, h1, h2, h3, h4⟩ m hm
    have hk : m / 64 < 5 := by omega
    have : s.at_ (m / 64) = 0 := by
      obtain h | h | h | h | h : m / 64 = 0 ∨ m / 64 = 1 ∨ m / 64 = 2 ∨ m / 64 = 3 ∨ m / 64 = 4 := by omega
      all_goals (rw [h]; assumption)
    unfold SetL.has
    rw [this, Nat.zero_testBit]
  · intro h
    have : SameS s noneS := SameS.of_has fun m hm => by rw [h m hm, has_none]
    exact ⟨this 0 (by omega), this 1 (by omega), this 2 (by omega), this 3 (by omega), this 4 (by omega)⟩
theorem eqS_iff (s t : SetL) : eqS s t = true ↔ SameS s t := by
  unfold eqS SameS
  simp only [List.all_eq_true, List.mem_range, beq_iff_eq]
  exact ⟨fun h k hk => by have := h k hk; omega, fun h k hk => by rw [h k hk]⟩
theorem eqS_none (s : SetL) : eqS s noneS = emptyS s := by
  rw [Bool.eq_iff_iff, eqS_iff, emptyS_iff]
  exact ⟨fun h m hm => by rw [h.has hm, has_none], fun h => SameS.of_has fun m hm => by rw [h m hm, has_none]⟩

end Go.Proofs.Ytakgppoeikcepaa

/- What a reading hangs on: the blocks that must stand. -/
namespace Go.Proofs.Ytakgppoeikcepaa
open Go.RowKit
set_option linter.unusedVariables false
set_option maxRecDepth 4000

/-- It holds here, and wherever the blocks of D that are here stand as they do. -/
def On (D : Nat → Prop) (w : World) (R : World → Prop) : Prop :=
  ∀ w' : World, w.heap.size ≤ w'.heap.size → (∀ k, k < w.heap.size → D k → w'.heap[k]? = w.heap[k]?) → R w'

theorem On.now {D : Nat → Prop} {w : World} {R : World → Prop} (h : On D w R) : R w := h w (Nat.le_refl _) fun _ _ _ => rfl

theorem On.to {D : Nat → Prop} {w w' : World} {R : World → Prop} (h : On D w R) (hs : w.heap.size ≤ w'.heap.size) (hk : ∀ k, k < w.heap.size → D k → w'.heap[k]? = w.heap[k]?) : On D w' R :=
  fun w2 h2 hk2 => h w2 (Nat.le_trans hs h2) fun k hlt hD => (hk2 k (Nat.lt_of_lt_of_le hlt hs) hD).trans (hk k hlt hD)

theorem On.weaken {D D' : Nat → Prop} {w : World} {R : World → Prop} (h : On D w R) (hD : ∀ k, k < w.heap.size → D k → D' k) : On D' w R :=
  fun w2 h2 hk => h w2 h2 fun k hlt hd => hk k hlt (hD k hlt hd)

theorem On.mono {D : Nat → Prop} {w : World} {R R' : World → Prop} (h : On D w R) (hR : ∀ w', R w' → R' w') : On D w R' := fun w2 h2 hk => hR _ (h w2 h2 hk)

theorem On.below {D : Nat → Prop} {w w' : World} {R : World → Prop} (h : On D w R) (hb : Below w.heap.size w w') : On D w' R := h.to hb.size fun k hlt _ => hb.block k hlt

theorem On.grown {D : Nat → Prop} {w w' : World} {R : World → Prop} {row : Option Nat} (h : On D w R) (hg : w.grownBy w' row) (hD : ∀ k, k < w.heap.size → D k → some k ≠ row) : On D w' R :=
  h.to hg.size fun k hlt hd => hg.block k hlt (hD k hlt hd)

theorem On.set {D : Nat → Prop} {w : World} {R : World → Prop} (h : On D w R) {a : Addr} (ha : ¬ D a.block) (u : Value) : On D (w.setCell a u) R :=
  h.to (by simp [World.setCell]) fun k _ hd => Below.heap_setCell w a u k (fun e => ha (e ▸ hd))

/-- Readings that are kept by whatever leaves all old blocks as they were. -/
theorem on_all {w : World} {R : World → Prop} (h : ∀ w', w.heap.size ≤ w'.heap.size → (∀ k, k < w.heap.size → w'.heap[k]? = w.heap[k]?) → R w') : On (fun _ => True) w R := fun w' hs hk => h w' hs fun k hlt => hk k hlt trivial

theorem cell_kept {w w' : World} {p : Addr} (h : w'.heap[p.block]? = w.heap[p.block]?) : w'.cell? p = w.cell? p := World.cell?_of_block h

/-- The row that the call itself has made hangs on blocks that were made by it. -/
theorem ownsRow_on {B : Nat} {w : World} {e : TypeId} {size : Nat} {v : Value} {n : Nat} {xs : List Value} (h : w.ownsRow B e size v n xs) : On (fun k => v.ownBlock = some k ∧ B ≤ k) w (fun w' => w'.ownsRow B e size v n xs) := by
  intro w' hs hk
  refine ⟨h.1, ?_⟩
  rcases h.2 with hn | ⟨g, cap, cur, rfl, hb, hgg, rest⟩
  · exact .inl hn
  · refine .inr ⟨g, cap, cur, rfl, hb, ?_, rest⟩
    rw [hk g (Array.getElem?_eq_some_iff.1 hgg).1 ⟨rfl, hb⟩]
    exact hgg

theorem ownsRow_ints {B : Nat} {wr : World} {v : Value} {zs : List Int} (hown : wr.ownsRow B 3 1 v zs.length (zs.map (Value.int .i64))) (hl : zs.length ≤ 17592186044416) : Ints wr v zs := by
  have hown0 := hown
  obtain ⟨_, hcase⟩ := hown
  rcases hcase with ⟨rfl, h0⟩ | ⟨g, cap', cur, rfl, hg, hh, hn, hcap, hsz, htake⟩
  · exact ⟨none, zs.length, 0, by rw [h0], rfl, hl, ⟨by omega, by omega, fun _ => rfl⟩, fun j hj => absurd hj (by omega)⟩
  · refine ⟨_, _, _, rfl, rfl, hl, ⟨hn, by unfold maxLen at hcap; omega, fun h => by cases h⟩, fun j hj => ⟨g, 0, rfl, ?_, ?_⟩⟩
    · rcases Nat.lt_or_ge g wr.heap.size with h | h
      · exact h
      · rw [Array.getElem?_eq_none h] at hh; cases hh
    · rw [Nat.zero_add, hown0.cellAt j (by omega)]
      simp [nth, List.getD, List.getElem?_eq_getElem hj]

theorem Own.on {B : Nat} {w wr : World} {v : Value} {zs : List Int} (h : Own B w wr v zs) (hl : zs.length ≤ 17592186044416) : On (fun k => B ≤ k) wr (fun w' => Ints w' v zs) :=
  ((ownsRow_on h.1).weaken fun k _ hk => hk.2).mono fun w' h' => ownsRow_ints h' hl

theorem Own.slice {B : Nat} {w wr : World} {v : Value} {zs : List Int} (h : Own B w wr v zs) : ∃ a l c, v = .slice a l c := by
  rcases h.1.2 with ⟨rfl, _⟩ | ⟨g, cap', cur, rfl, _⟩
  · exact ⟨_, _, _, rfl⟩
  · exact ⟨_, _, _, rfl⟩

theorem ownsRow_slice {B : Nat} {w : World} {e : TypeId} {size : Nat} {v : Value} {n : Nat} {xs : List Value} (h : w.ownsRow B e size v n xs) : ∃ a l c, v = .slice a l c := by
  rcases h.2 with ⟨rfl, _⟩ | ⟨g, cap', cur, rfl, _⟩
  · exact ⟨_, _, _, rfl⟩
  · exact ⟨_, _, _, rfl⟩

theorem ownsRow_lt {B : Nat} {w : World} {e : TypeId} {size : Nat} {v : Value} {n : Nat} {xs : List Value} (h : w.ownsRow B e size v n xs) {k : Nat} (hk : v.ownBlock = some k) : B ≤ k ∧ k < w.heap.size := h.lt k hk

/-- append of one element of several cells onto a row that the call itself has made, where it lies. -/
theorem wp_append_at {P : Program} {o : Oper} {a : Act} {K : Act → World → Prop} {Q : Exit → Act → World → Prop} {Y : Nat → Option Bool} (w : World) (hwt : Region.wanted o Y = true) (s x : Operand) (t : TypeId)
    (ho : o.op = .call { callee := .builtin .append, args := #[s, x], argTypes := #[t, t] })
    (base : Nat) (e : TypeId) (i : TypeInfo) (z : Value) (size bytes : Nat) (ht : P.underlying t = some (.slice e)) (hi : P.info? e = some i) (hz : i.zero = some z)
    (hsize : i.size = size) (hby : i.bytes = bytes) (hzs : z.cells.size = size) (hsz : 0 < size)
    (v : Value) (n : Nat) (xs : List Value) (hs : a.eval s = v) (hown : w.ownsRow base e size v n xs)
    (ad : Addr) (m c : Nat) (news : List Value) (hx : a.eval x = .slice (some ad) m c) (hl : news.length = m * size) (hnews : ∀ j u, news[j]? = some u → w.cell? (ad.add j) = some u) (h1 : ∀ u ∈ news, u.oneCell' = true)
    (h63 : n + m ≤ maxLen) (hbytes : (n + m) * bytes ≤ 140737488355328) (hbase : base ≤ w.heap.size)
    (h : ∀ v' w', w'.ownsRow base e size v' (n + m) (xs ++ news) → w.grownBy w' v.ownBlock → (v'.ownBlock = v.ownBlock ∨ v'.ownBlock = some w.heap.size) → K (a.put o.dst v') w') :
    if Region.wanted o Y = true then Oper.wp P o a w K Q else K (a.put o.dst undef) w := by
  rw [if_pos hwt]
  obtain ⟨v', w', hr, h2, h3, h4, h5⟩ := run_append_own_at (P := P) w base t o.type e i z size bytes ht hi hz hsize hby hzs hsz v n xs hown ad m c news hl hnews h1 h63 hbytes hbase
  unfold Oper.wp execOp
  simp only [ho, resolve, invoke, builtin, Sem.run_bind, Sem.run_pure, Result.andThen_ok, List.map_toArray, List.map_cons, List.map_nil, hs, hx, hr]
  exact h v' w' h2 h3 h5

/-- append of one number, inside a region that draws its order. -/
theorem wpr_append_int {o : Oper} {a : Act} {K : Act → World → Prop} {Q : Exit → Act → World → Prop} {Y : Nat → Option Bool} (hwt : Region.wanted o Y = true) (s x : Operand)
    (ho : o.op = .call { callee := .builtin .append, args := #[s, x], argTypes := #[25, 25] }) (B : Nat) (w wr : World) (v : Value) (zs : List Int) (z : Int) (hG : Own B w wr v zs)
    (hs : a.eval s = v) (hx : a.eval x = .slice (some ⟨wr.heap.size, 0, none⟩) 1 1) (hl : zs.length + 1 ≤ 17592186044416)
    (h : ∀ v' w', Own B w w' v' (zs ++ [z]) → K (a.put o.dst v') w') :
    if Region.wanted o Y = true then Oper.wp Try.prog o a (wr.alloc (.cells #[.int .i64 z] 3)) K Q else K (a.put o.dst undef) (wr.alloc (.cells #[.int .i64 z] 3)) := by
  obtain ⟨i0, hi, hz0, hz1, hz2⟩ := info_parts info_int
  obtain ⟨hown, hb, hB⟩ := hG
  refine wp_append_at _ hwt s x 25 ho B 3 i0 (.int .i64 0) 1 8 Try.underlying25 hi hz0 hz1 hz2 rfl (by decide) v zs.length _ hs (hown.alloc _) ⟨wr.heap.size, 0, none⟩ 1 1 [.int .i64 z] hx rfl ?_ ?_ ?_ ?_ ?_ ?_
  · intro j u hj
    match j, hj with
    | 0, hj => simp at hj; subst hj; simp [Addr.add]
  · intro u hu; simp at hu; subst hu; rfl
  · unfold maxLen; omega
  · omega
  · simp; omega
  · intro v' w' hown' hgrow _
    refine h v' w' ⟨by simpa using hown', (hb.alloc hB _).grown hgrow (by simp; omega) (fun k hk => (hown.lt k hk).1), ?_⟩
    have := hgrow.size; simp at this; omega

end Go.Proofs.Ytakgppoeikcepaa

/- Package live as it landed: all marks behind a mark, plainly and in memory. -/
namespace Go.Proofs.Ytakgppoeikcepaa
open Go.RowKit
set_option linter.unusedVariables false
set_option maxRecDepth 4000

/-! ### plainly -/
def Goes (nx : List (List Int)) (k j : Nat) : Prop := ∀ P : Nat → Prop, P k → (∀ a b : Nat, P a → (b : Int) ∈ markAt nx a → P b) → P j
theorem Goes.here {nx : List (List Int)} (k : Nat) : Goes nx k k := fun _ h _ => h
theorem Goes.go {nx : List (List Int)} {k a b : Nat} (h : Goes nx k a) (hb : (b : Int) ∈ markAt nx a) : Goes nx k b := fun P h0 h1 => h1 a b (h P h0 h1) hb
theorem Goes.trans {nx : List (List Int)} {k a b : Nat} (h : Goes nx k a) (g : Goes nx a b) : Goes nx k b := fun P h0 h1 => g P (h P h0 h1) h1
def Inside (nx : List (List Int)) (n : Nat) : Prop := ∀ a : Nat, a < n → ∀ z ∈ markAt nx a, 0 ≤ z ∧ z < n
theorem Inside.lt {nx : List (List Int)} {n k j : Nat} (h : Inside nx n) (hk : k < n) (g : Goes nx k j) : j < n := g (fun j => j < n) hk fun a b ha hb => by have := h a ha _ hb; omega
def Shut (nx : List (List Int)) (n : Nat) (f : Nat → Bool) : Prop := ∀ a b : Nat, a < n → f a = true → (b : Int) ∈ markAt nx a → f b = true
theorem Shut.goes {nx : List (List Int)} {n k j : Nat} {f : Nat → Bool} (h : Shut nx n f) (hi : Inside nx n) (hk : k < n) (hf : f k = true) (g : Goes nx k j) : f j = true :=
  (g (fun j => j < n ∧ f j = true) ⟨hk, hf⟩ fun a b ha hb => ⟨by have := hi a ha.1 _ hb; omega, h a b ha.1 ha.2 hb⟩).2
def stepsTo (nx : List (List Int)) (p i a : Nat) : List Int := if a = p then (markAt nx a).take i else markAt nx a

/-- What is noted and what is still to do; of mark p the first i steps are gone. -/
structure Spr (nx : List (List Int)) (n : Nat) (f0 : Nat → Bool) (m : Nat) (f : Nat → Bool) (todo : List Int) (p i : Nat) : Prop where
  grew : ∀ j, f0 j = true → f j = true
  sound : ∀ j, j < n → f j = true → f0 j = true ∨ Goes nx m j
  td : ∀ z ∈ todo, ∃ a : Nat, z = a ∧ a < n ∧ f a = true
  len : todo.length + cntF f n ≤ n
  gone : ∀ a, a < n → f a = true → (a : Int) ∈ todo ∨ ∀ b : Nat, (b : Int) ∈ stepsTo nx p i a → f b = true

section
variable {nx : List (List Int)} {n m p i : Nat} {f0 f : Nat → Bool} {todo : List Int}
theorem Spr.start (h : Shut nx n f0) (m : Nat) : Spr nx n f0 m f0 [] n 0 := by
  refine ⟨fun _ h => h, fun _ _ h => .inl h, fun z hz => (by cases hz), by have := cntF_le f0 n; simpa using this, fun a ha hf => .inr fun b hb => ?_⟩
  unfold stepsTo at hb
  rw [if_neg (by omega)] at hb
  exact h a b ha hf hb
theorem Spr.come (h : Spr nx n f0 m f todo p i) {x : Nat} (hx : x < n) (hf : f x = false) (hg : Goes nx m x) : Spr nx n f0 m (updT f x) (todo ++ [(x : Int)]) p i := by
  refine ⟨fun j hj => updT_grew (h.grew j hj), fun j hj hu => ?_, fun z hz => ?_, ?_, fun a ha hu => ?_⟩
  · by_cases e : j = x
    · subst e; exact .inr hg
    · rw [updT_other f e] at hu; exact h.sound j hj hu
  · rcases List.mem_append.1 hz with q | q
    · obtain ⟨a, e, ha, hfa⟩ := h.td z q
      exact ⟨a, e, ha, updT_grew hfa⟩
    · exact ⟨x, List.mem_singleton.1 q, hx, updT_same f x⟩
  · have := cntF_set hf (updT_same f x) (fun j hj => updT_other f hj) n hx
    have := h.len
    simp only [List.length_append, List.length_singleton]
    omega
  · by_cases e : a = x
    · subst e; exact .inl (List.mem_append_right _ (List.mem_singleton.2 rfl))
    · rw [updT_other f e] at hu
      rcases h.gone a ha hu with q | q
      · exact .inl (List.mem_append_left _ q)
      · exact .inr fun b hb => updT_grew (q b hb)
theorem Spr.pop {t : List Int} {a : Nat} (h : Spr nx n f0 m f (t ++ [(a : Int)]) n 0) : Spr nx n f0 m f t a 0 := by
  refine ⟨h.grew, h.sound, fun z hz => h.td z (List.mem_append_left _ hz), by have := h.len; simp at this; omega, fun c hc hf => ?_⟩
  by_cases e : c = a
  · subst e; exact .inr fun b hb => by simp [stepsTo] at hb
  · rcases h.gone c hc hf with q | q
    · rcases List.mem_append.1 q with q | q
      · exact .inl q
      · have := List.mem_singleton.1 q; omega
    · refine .inr fun b hb => q b ?_
      unfold stepsTo at hb ⊢
      rw [if_neg e] at hb
      rw [if_neg (by omega)]
      exact hb
theorem Spr.next (h : Spr nx n f0 m f todo p i) (hi : i < (markAt nx p).length) (hf : ∀ b : Nat, (b : Int) = nth (markAt nx p) i → f b = true) : Spr nx n f0 m f todo p (i + 1) := by
  refine ⟨h.grew, h.sound, h.td, h.len, fun a ha hfa => ?_⟩
  rcases h.gone a ha hfa with q | q
  · exact .inl q
  · refine .inr fun b hb => ?_
    unfold stepsTo at hb q
    by_cases e : a = p
    · subst e
      simp only [if_true] at hb q
      rw [List.take_succ_eq_append_getElem hi] at hb
      rcases List.mem_append.1 hb with r | r
      · exact q b r
      · refine hf b ?_
        rw [List.mem_singleton.1 r]
        simp [nth, List.getD, List.getElem?_eq_getElem hi]
    · simp only [if_neg e] at hb q
      exact q b hb
theorem Spr.ended (h : Spr nx n f0 m f todo p i) (hi : (markAt nx p).length ≤ i) : Spr nx n f0 m f todo n 0 := by
  refine ⟨h.grew, h.sound, h.td, h.len, fun a ha hfa => ?_⟩
  rcases h.gone a ha hfa with q | q
  · exact .inl q
  · refine .inr fun b hb => q b ?_
    unfold stepsTo at hb ⊢
    rw [if_neg (by omega)] at hb
    split
    · rename_i e; subst e; rw [List.take_of_length_le hi]; exact hb
    · exact hb
/-- What is noted in the end. -/
structure Spread (nx : List (List Int)) (n : Nat) (f0 : Nat → Bool) (m : Nat) (f : Nat → Bool) : Prop where
  shut : Shut nx n f
  mem : ∀ j, j < n → (f j = true ↔ f0 j = true ∨ Goes nx m j)
theorem Spr.done (h : Spr nx n f0 m f [] n 0) (hi : Inside nx n) (hm : m < n) (hf : f m = true) : Spread nx n f0 m f := by
  have hs : Shut nx n f := fun a b ha hfa hb => by
    rcases h.gone a ha hfa with q | q
    · cases q
    · refine q b ?_
      unfold stepsTo
      rw [if_neg (by omega)]
      exact hb
  refine ⟨hs, fun j hj => ⟨h.sound j hj, fun q => ?_⟩⟩
  rcases q with q | q
  · exact h.grew j q
  · exact hs.goes hi hm hf q
end

/-! ### in memory -/
/-- The steps as they are read; they lie in blocks of D. -/
def NextAt (w : World) (D : Nat → Prop) (nv : Value) (nx : List (List Int)) : Prop :=
  ∃ an cn, nv = .slice an nx.length cn ∧ ∀ p, p < nx.length → ∃ b1 o1 au cu, an = some ⟨b1, o1, none⟩ ∧ b1 < w.heap.size ∧ D b1 ∧ w.cell? ⟨b1, o1 + p, none⟩ = some (.slice au (markAt nx p).length cu) ∧
    (markAt nx p).length ≤ 5864062014805 ∧ ∀ k, k < (markAt nx p).length → ∃ b off, au = some ⟨b, off, none⟩ ∧ b < w.heap.size ∧ D b ∧ w.cell? ⟨b, off + k, none⟩ = some (.int .i64 (nth (markAt nx p) k))
theorem NextAt.below {w w' : World} {D : Nat → Prop} {nv : Value} {nx : List (List Int)} (h : NextAt w D nv nx) (hb : Below w.heap.size w w') : NextAt w' D nv nx := by
  obtain ⟨an, cn, e, h⟩ := h
  refine ⟨an, cn, e, fun p hp => ?_⟩
  obtain ⟨b1, o1, au, cu, e1, h1, h2, h3, h4, h5⟩ := h p hp
  refine ⟨b1, o1, au, cu, e1, Nat.lt_of_lt_of_le h1 hb.size, h2, (hb.cell (p := ⟨b1, o1 + p, none⟩) h1).trans h3, h4, fun k hk => ?_⟩
  obtain ⟨b, off, e2, g1, g2, g3⟩ := h5 k hk
  exact ⟨b, off, e2, Nat.lt_of_lt_of_le g1 hb.size, g2, (hb.cell (p := ⟨b, off + k, none⟩) g1).trans g3⟩
theorem NextAt.weak {w : World} {D D' : Nat → Prop} {nv : Value} {nx : List (List Int)} (h : NextAt w D nv nx) (hD : ∀ k, k < w.heap.size → D k → D' k) : NextAt w D' nv nx := by
  obtain ⟨an, cn, e, h⟩ := h
  refine ⟨an, cn, e, fun p hp => ?_⟩
  obtain ⟨b1, o1, au, cu, e1, h1, h2, h3, h4, h5⟩ := h p hp
  refine ⟨b1, o1, au, cu, e1, h1, hD b1 h1 h2, h3, h4, fun k hk => ?_⟩
  obtain ⟨b, off, e2, g1, g2, g3⟩ := h5 k hk
  exact ⟨b, off, e2, g1, hD b g1 g2, g3⟩
theorem NextAt.older {w w' : World} {D : Nat → Prop} {nv : Value} {nx : List (List Int)} {B : Nat} (h : NextAt w D nv nx) (hb : Below w.heap.size w w') (hB : w.heap.size ≤ B) : NextAt w' (fun k => k ≠ B) nv nx :=
  (h.weak fun k hk _ => (by omega : k ≠ B)).below hb
theorem OnlyB.at {w w' : World} {B b off : Nat} (h : OnlyB B w w') (hb : b < w.heap.size) (hne : b ≠ B) : w'.cell? ⟨b, off, none⟩ = w.cell? ⟨b, off, none⟩ := World.cell?_of_block (a := ⟨b, off, none⟩) (h.block b hb hne)
structure SprAt (w : World) (B n bb tb : Nat) (wr : World) (f : Nat → Bool) (tv : Value) (todo : List Int) : Prop where
  row : BoolRow wr B n f
  box : Box1 wr bb (.slice (some ⟨B, 0, none⟩) n n)
  cell : wr.heap[tb]? = some (.cells #[tv] 25 (0, 0))
  own : wr.ownsRow (tb + 1) 3 1 tv todo.length (todo.map (Value.int .i64))
  only : OnlyB B w wr
  hB : B < w.heap.size
  hbb : w.heap.size ≤ bb
  htb : bb < tb
section
variable {w wr : World} {B n bb tb : Nat} {f : Nat → Bool} {tv : Value} {todo : List Int}
theorem SprAt.lt (h : SprAt w B n bb tb wr f tv todo) : tb < wr.heap.size := (Array.getElem?_eq_some_iff.1 h.cell).1
theorem SprAt.tcell (h : SprAt w B n bb tb wr f tv todo) : wr.cell? ⟨tb, 0, none⟩ = some tv ∧ wr.frozen? ⟨tb, 0, none⟩ = false := by
  have hc := h.cell
  constructor
  · simp [World.cell?, hc]
  · simp [World.frozen?, hc]
theorem SprAt.to {w2 : World} (h : SprAt w B n bb tb wr f tv todo) (hb : Below wr.heap.size wr w2) : SprAt w B n bb tb w2 f tv todo :=
  { h with
    row := h.row.below hb
    box := h.box.below hb
    cell := by rw [hb.block tb h.lt]; exact h.cell
    own := ((ownsRow_on h.own).below hb).now
    only := ⟨h.only.below.trans (hb.mono (Nat.le_of_lt (Nat.lt_of_lt_of_le h.hB h.only.size))), Nat.le_trans h.only.size hb.size, fun k hk hne => (hb.block k (Nat.lt_of_lt_of_le hk h.only.size)).trans (h.only.block k hk hne)⟩ }
theorem SprAt.note (h : SprAt w B n bb tb wr f tv todo) {x : Nat} (hx : x < n) : SprAt w B n bb tb (wr.setCell ⟨B, x, none⟩ (.bool true)) (updT f x) tv todo := by
  have hBb : B ≠ bb := by have := h.hB; have := h.hbb; omega
  have hBt : B ≠ tb := by have := h.hB; have := h.hbb; have := h.htb; omega
  refine { h with
    row := h.row.put hx (updT_same f x) (fun j _ hj => updT_other f hj)
    box := ⟨by simpa [World.setCell] using h.box.1, by rw [World.cell?_setCell_other _ _ _ _ (by intro q; injection q with q1 _; exact hBb q1)]; exact h.box.2⟩
    cell := by rw [Below.heap_setCell wr ⟨B, x, none⟩ _ tb (fun e => hBt e.symm)]; exact h.cell
    own := ((ownsRow_on h.own).set (a := ⟨B, x, none⟩) (fun e => by have := e.2; have := h.hB; have := h.hbb; have := h.htb; simp only at *; omega) _).now
    only := h.only.trans (OnlyB.set B x wr _) }
/-- The row of what is to do has grown, and the box holds the new one. -/
theorem SprAt.push {wC : World} {v' : Value} {z : Int} (h : SprAt w B n bb tb wr f tv todo) (hown : wC.ownsRow (tb + 1) 3 1 v' (todo.length + 1) (todo.map (Value.int .i64) ++ [.int .i64 z])) (hg : wr.grownBy wC tv.ownBlock) :
    SprAt w B n bb tb (wC.setCell ⟨tb, 0, none⟩ v') f v' (todo ++ [z]) := by
  have hBt : B < tb := by have := h.hB; have := h.hbb; have := h.htb; omega
  have htl : ∀ k, tv.ownBlock = some k → tb + 1 ≤ k ∧ k < wr.heap.size := fun k hk => ownsRow_lt h.own hk
  have hbg : Below (tb + 1) wr wC := (Below.refl _ _).grown hg (by have := h.lt; omega) (fun k hk => (htl k hk).1)
  have hb2 : Below tb wr (wC.setCell ⟨tb, 0, none⟩ v') := (hbg.mono (Nat.le_succ tb)).setCell (p := ⟨tb, 0, none⟩) (Nat.le_refl _) _
  have hc1 : wC.heap[tb]? = some (.cells #[tv] 25 (0, 0)) := by rw [hbg.block tb (by omega)]; exact h.cell
  refine ⟨⟨fun j hj => ?_, fun j hj => ?_, Nat.lt_of_lt_of_le h.row.lt hb2.size⟩, ⟨Nat.lt_of_lt_of_le h.box.1 hb2.size, ?_⟩, ?_, ?_, ⟨?_, Nat.le_trans h.only.size hb2.size, fun k hk hne => ?_⟩, h.hB, h.hbb, h.htb⟩
  · rw [hb2.cell (p := ⟨B, j, none⟩) hBt]; exact h.row.cells j hj
  · rw [hb2.frozen (p := ⟨B, j, none⟩) hBt]; exact h.row.frozen j hj
  · rw [hb2.cell (p := ⟨bb, 0, none⟩) h.htb]; exact h.box.2
  · rw [setCell_eq_setRow wC tb 0 _ _ _ v' hc1]
    have := setRow_heap wC tb #[tv] (#[tv].setIfInBounds 0 v') 25 (0, 0) hc1
    simpa using this
  · have := ((ownsRow_on hown).set (a := ⟨tb, 0, none⟩) (fun e => by have := e.2; simp only at this; omega) v').now
    simpa using this
  · exact h.only.below.trans (hb2.mono (by omega))
  · rw [hb2.block k (by have := h.hbb; have := h.htb; omega)]; exact h.only.block k hk hne
theorem SprAt.slice (h : SprAt w B n bb tb wr f tv todo) : ∃ a c, tv = .slice a todo.length c := by
  rcases h.own.2 with ⟨e, h0⟩ | ⟨g, cap, cur, e, _⟩
  · exact ⟨none, 0, by rw [h0]; exact e⟩
  · exact ⟨_, _, e⟩
theorem SprAt.grownCell {wC : World} (h : SprAt w B n bb tb wr f tv todo) (hg : wr.grownBy wC tv.ownBlock) : wC.cell? ⟨tb, 0, none⟩ = some tv ∧ wC.frozen? ⟨tb, 0, none⟩ = false := by
  have hc : wC.heap[tb]? = some (.cells #[tv] 25 (0, 0)) := by
    rw [hg.block tb h.lt (fun e => by have := (ownsRow_lt h.own e.symm).1; omega)]; exact h.cell
  constructor
  · simp [World.cell?, hc]
  · simp [World.frozen?, hc]
theorem ownsRow_pop {b : Nat} {t : TypeId} {a : Option Addr} {k c : Nat} {xs : List Value} {y : Value} (h : w.ownsRow b t 1 (.slice a (k + 1) c) (k + 1) (xs ++ [y])) (hl : xs.length = k) : w.ownsRow b t 1 (.slice a k c) k xs := by
  obtain ⟨_, hcase⟩ := h
  refine ⟨by omega, ?_⟩
  rcases hcase with ⟨_, h0⟩ | ⟨g, cap, cur, e, hb, hg, hn, hcap, hsz, htake⟩
  · omega
  · injection e with e1 e2 e3
    subst e1 e3
    refine .inr ⟨g, c, cur, rfl, hb, hg, by omega, hcap, hsz, ?_⟩
    have := congrArg (List.take k) htake
    rw [List.take_take, List.take_left' hl, show min k ((k + 1) * 1) = k by omega] at this
    simpa using this
theorem SprAt.pop {a : Option Addr} {k c : Nat} {t : List Int} {z : Int} (h : SprAt w B n bb tb wr f (.slice a (k + 1) c) (t ++ [z])) (hk : t.length = k) : SprAt w B n bb tb (wr.setCell ⟨tb, 0, none⟩ (.slice a k c)) f (.slice a k c) t := by
  have hBt : B < tb := by have := h.hB; have := h.hbb; have := h.htb; omega
  have hb2 : Below tb wr (wr.setCell ⟨tb, 0, none⟩ (.slice a k c)) := (Below.refl _ _).setCell (p := ⟨tb, 0, none⟩) (Nat.le_refl _) _
  refine ⟨⟨fun j hj => ?_, fun j hj => ?_, Nat.lt_of_lt_of_le h.row.lt hb2.size⟩, ⟨Nat.lt_of_lt_of_le h.box.1 hb2.size, ?_⟩, ?_, ?_, ⟨?_, Nat.le_trans h.only.size hb2.size, fun k hk hne => ?_⟩, h.hB, h.hbb, h.htb⟩
  · rw [hb2.cell (p := ⟨B, j, none⟩) hBt]; exact h.row.cells j hj
  · rw [hb2.frozen (p := ⟨B, j, none⟩) hBt]; exact h.row.frozen j hj
  · rw [hb2.cell (p := ⟨bb, 0, none⟩) h.htb]; exact h.box.2
  · rw [setCell_eq_setRow wr tb 0 _ _ _ _ h.cell]
    have := setRow_heap wr tb #[.slice a (k + 1) c] (#[.slice a (k + 1) c].setIfInBounds 0 (.slice a k c)) 25 (0, 0) h.cell
    simpa using this
  · have h1 : wr.ownsRow (tb + 1) 3 1 (.slice a k c) k (t.map (Value.int .i64)) := by
      have h0 := h.own
      simp only [List.length_append, List.length_singleton, List.map_append, List.map_cons, List.map_nil, hk] at h0
      exact ownsRow_pop h0 (by simpa using hk)
    have := ((ownsRow_on h1).set (a := ⟨tb, 0, none⟩) (fun e => by have := e.2; simp only at this; omega) (.slice a k c)).now
    rw [hk]
    exact this
  · exact h.only.below.trans (hb2.mono (by omega))
  · rw [hb2.block k (by have := h.hbb; have := h.htb; omega)]; exact h.only.block k hk hne
/-- What is to do last. -/
theorem SprAt.last (h : SprAt w B n bb tb wr f tv todo) {t : List Int} {z : Int} (e : todo = t ++ [z]) : ∃ g c, tv = .slice (some ⟨g, 0, none⟩) (t.length + 1) c ∧ t.length + 1 ≤ c ∧ c ≤ maxLen ∧ g < wr.heap.size ∧ wr.cell? ⟨g, t.length, none⟩ = some (.int .i64 z) := by
  subst e
  have hown := h.own
  rcases id hown.2 with ⟨_, h0⟩ | ⟨g, cap, cur, e, hb, hg, hn, hcap, hsz, htake⟩
  · simp at h0
  · refine ⟨g, cap, by simpa using e, by simpa using hn, hcap, (Array.getElem?_eq_some_iff.1 hg).1, ?_⟩
    subst e
    have hc := hown.cellAt t.length (by simp)
    simpa using hc
end

end Go.Proofs.Ytakgppoeikcepaa

/- A row of ints that the call itself made, written at any index. -/
namespace Go.Proofs.Ytakgppoeikcepaa
open Go.RowKit
set_option linter.unusedVariables false
set_option maxRecDepth 4000

/-- A row of n ints that the call itself made, at block B, that holds f; nothing older has turned. -/
structure RowAt (B : Nat) (w wr : World) (n : Nat) (f : Nat → Int) : Prop where
  cells : ∀ j, j < n → wr.cell? ⟨B, j, none⟩ = some (.int .i64 (f j))
  frozen : ∀ j, j < n → wr.frozen? ⟨B, j, none⟩ = false
  below : Below B w wr
  size : B < wr.heap.size

theorem RowAt.put {B : Nat} {w wr : World} {n k : Nat} {f g : Nat → Int} (h : RowAt B w wr n f) (hk : k < n) {x : Int} (hx : g k = x) (hg : ∀ j, j < n → j ≠ k → g j = f j) :
    RowAt B w (wr.setCell ⟨B, k, none⟩ (.int .i64 x)) n g := by
  refine ⟨fun j hj => ?_, fun j hj => by rw [World.frozen?_setCell]; exact h.frozen j hj, h.below.setCell (Nat.le_refl _) _, by simpa [World.setCell] using h.size⟩
  by_cases e : j = k
  · subst e
    rw [World.cell?_setCell_same _ _ _ (h.cells j hj), hx]
  · rw [World.cell?_setCell_other _ _ _ _ (by intro q; apply e; injection q with _ q2; exact q2.symm), h.cells j hj, hg j hj e]

theorem RowAt.same {B : Nat} {w wr : World} {n : Nat} {f g : Nat → Int} (h : RowAt B w wr n f) (hg : ∀ j, j < n → g j = f j) : RowAt B w wr n g :=
  ⟨fun j hj => by rw [h.cells j hj, hg j hj], h.frozen, h.below, h.size⟩

theorem RowAt.to {B : Nat} {w wr w2 : World} {n : Nat} {f : Nat → Int} (h : RowAt B w wr n f) (hb : Below wr.heap.size wr w2) : RowAt B w w2 n f :=
  ⟨fun j hj => by rw [hb.cell (p := ⟨B, j, none⟩) h.size]; exact h.cells j hj, fun j hj => by rw [hb.frozen (p := ⟨B, j, none⟩) h.size]; exact h.frozen j hj, h.below.trans (hb.mono (Nat.le_of_lt h.size)), Nat.lt_of_lt_of_le h.size hb.size⟩

theorem RowAt.ints {B : Nat} {w wr : World} {n : Nat} {f : Nat → Int} (h : RowAt B w wr n f) {zs : List Int} (hl : zs.length = n) (hz : ∀ j, j < n → nth zs j = f j) (hn : n ≤ 17592186044416) {cap : Nat} (hc : n ≤ cap) (hc2 : cap ≤ 9223372036854775807) :
    Ints wr (.slice (some ⟨B, 0, none⟩) n cap) zs :=
  ⟨_, _, _, rfl, hl, hn, ⟨hc, hc2, fun h => by cases h⟩, fun j hj => ⟨B, 0, rfl, h.size, by rw [Nat.zero_add, h.cells j (by omega), hz j (by omega)]⟩⟩

theorem rowAt_new {w w1 : World} {n : Nat} (hb : Below w.heap.size w w1) (hs : w.heap.size < w1.heap.size) (hc : ∀ j, j < n → w1.cell? ⟨w.heap.size, j, none⟩ = some (.int .i64 0) ∧ w1.frozen? ⟨w.heap.size, j, none⟩ = false)
    {f : Nat → Int} (hf : ∀ j, j < n → f j = 0) : RowAt w.heap.size w w1 n f :=
  ⟨fun j hj => by rw [hf j hj]; exact (hc j hj).1, fun j hj => (hc j hj).2, hb, hs⟩

theorem RowAt.on {B : Nat} {w wr : World} {n : Nat} {f : Nat → Int} (h : RowAt B w wr n f) {zs : List Int} (hl : zs.length = n) (hz : ∀ j, j < n → nth zs j = f j) (hn : n ≤ 17592186044416) {cap : Nat} (hc : n ≤ cap) (hc2 : cap ≤ 9223372036854775807) :
    On (fun k => B ≤ k) wr (fun w' => Ints w' (.slice (some ⟨B, 0, none⟩) n cap) zs) := by
  intro w' hs hk
  exact ⟨_, _, _, rfl, hl, hn, ⟨hc, hc2, fun h => by cases h⟩, fun j hj => ⟨B, 0, rfl, Nat.lt_of_lt_of_le h.size hs, by rw [Nat.zero_add, World.cell?_of_block (a := ⟨B, j, none⟩) (hk B h.size (Nat.le_refl _)), h.cells j (by omega), hz j (by omega)]⟩⟩

/-- A row of as many as a number says. -/
theorem make_intsZ (w : World) (n : Nat) (z : Int) (hz : z = n) (hn : n ≤ 17592186044416) :
    ∃ w1, (Instr.makeSlice 25 (.int .i64 z) (.int .i64 z)).run Try.prog w = .ok (.slice (some ⟨w.heap.size, 0, none⟩) n n) w1 ∧ RowAt w.heap.size w w1 n (fun _ => 0) := by
  subst hz
  obtain ⟨w1, h1, h2, h3, h4⟩ := make_ints w n hn
  exact ⟨w1, h1, rowAt_new h2 h3 h4 fun _ _ => rfl⟩

end Go.Proofs.Ytakgppoeikcepaa

/- The answers of the document itself for shape: what is behind a place. -/
namespace Go.Proofs.Ytakgppoeikcepaa
open Go.RowKit
set_option linter.unusedVariables false
set_option maxRecDepth 4000

/-- Both rows, as they stand. -/
structure WaysAt (w0 : World) (B1 B2 P T : Nat) (w : World) (s : WayS) : Prop where
  ps : BoolRow w B1 P s.ps
  ts : BoolRow w B2 T s.ts
  below : Below w0.heap.size w0 w
theorem WaysAt.to {w0 w w' : World} {B1 B2 P T : Nat} {s : WayS} (h : WaysAt w0 B1 B2 P T w s) (hb : Below w.heap.size w w') : WaysAt w0 B1 B2 P T w' s := ⟨h.ps.below hb, h.ts.below hb, below_then h.below hb⟩
theorem WaysAt.putT {w0 w : World} {B1 B2 P T k : Nat} {s : WayS} {g : Nat → Bool} {x : Bool} (h : WaysAt w0 B1 B2 P T w s) (hne : B1 ≠ B2) (hB : w0.heap.size ≤ B2) (hk : k < T) (hx : g k = x) (hg : ∀ j, j ≠ k → g j = s.ts j) :
    WaysAt w0 B1 B2 P T (w.setCell ⟨B2, k, none⟩ (.bool x)) ⟨s.ps, g⟩ :=
  ⟨h.ps.other (fun e => hne e.symm) _, h.ts.put hk hx fun j _ hj => hg j hj, h.below.setCell (p := ⟨B2, k, none⟩) hB _⟩
theorem WaysAt.putP {w0 w : World} {B1 B2 P T k : Nat} {s : WayS} {g : Nat → Bool} {x : Bool} (h : WaysAt w0 B1 B2 P T w s) (hne : B1 ≠ B2) (hB : w0.heap.size ≤ B1) (hk : k < P) (hx : g k = x) (hg : ∀ j, j ≠ k → g j = s.ps j) :
    WaysAt w0 B1 B2 P T (w.setCell ⟨B1, k, none⟩ (.bool x)) ⟨g, s.ts⟩ :=
  ⟨h.ps.put hk hx fun j _ hj => hg j hj, h.ts.other hne _, h.below.setCell (p := ⟨B1, k, none⟩) hB _⟩

theorem box3_other {w : World} {b : Nat} {x y z u : Value} {p : Addr} (h : Box3 w b x y z) (hp : p.block ≠ b) : Box3 (w.setCell p u) b x y z := by
  have ne : ∀ j, (⟨b, j, none⟩ : Addr) ≠ p := fun j e => hp (by rw [← e])
  refine ⟨by simpa [World.setCell] using h.1, ?_, ?_, ?_⟩
  · rw [World.cell?_setCell_other _ _ _ _ (Ne.symm (ne 0))]; exact h.2.1
  · rw [World.cell?_setCell_other _ _ _ _ (Ne.symm (ne 1))]; exact h.2.2.1
  · rw [World.cell?_setCell_other _ _ _ _ (Ne.symm (ne 2))]; exact h.2.2.2

end Go.Proofs.Ytakgppoeikcepaa

/- A space while it is built: where it lies, and what it hangs on. -/
namespace Go.Proofs.Ytakgppoeikcepaa
open Go.RowKit
set_option linter.unusedVariables false
set_option maxRecDepth 4000

theorem Row.blocks {w w' : World} {a : Option Addr} {xs : List Int} (h : Row w a xs) (hs : w.heap.size ≤ w'.heap.size) (hk : ∀ k, k < w.heap.size → w'.heap[k]? = w.heap[k]?) : Row w' a xs := by
  intro j hj
  obtain ⟨b, off, ha, hlt, hc⟩ := h j hj
  exact ⟨b, off, ha, Nat.lt_of_lt_of_le hlt hs, by rw [World.cell?_of_block (a := ⟨b, off + j, none⟩) (hk b hlt)]; exact hc⟩
theorem ints_old {w : World} {v : Value} {xs : List Int} (h : Ints w v xs) : On (fun k => k < w.heap.size) w (fun w' => Ints w' v xs) := by
  intro w' hs hk
  obtain ⟨a, len, cap, e, hl, hm, hsh, hr⟩ := h
  exact ⟨a, len, cap, e, hl, hm, hsh, hr.blocks hs fun k hlt => hk k hlt hlt⟩

theorem info_ints : (Try.prog.info? 25).map (fun i => (i.zero, i.size, i.bytes)) = some (some (.slice none 0 0), 1, 24) := by kernel_rfl
theorem info_arc : (Try.prog.info? 69).map (fun i => (i.zero, i.size, i.bytes)) = some (some (.agg #[.int .i64 0, .int .i64 0, .int .i64 0]), 3, 24) := by kernel_rfl

/-- The cells of arcs. -/
def arcCells (l : List ArcL) : List Value := l.flatMap fun a => [.int .i64 (a.frm : Int), .int .i64 (a.tran : Int), .int .i64 (a.dst : Int)]
theorem arcCells_length (l : List ArcL) : (arcCells l).length = l.length * 3 := by
  unfold arcCells
  induction l with
  | nil => rfl
  | cons x r ih => simp only [List.flatMap_cons, List.length_append, ih, List.length_cons, List.length_nil]; omega
theorem arcCells_append (l : List ArcL) (a : ArcL) : arcCells (l ++ [a]) = arcCells l ++ [.int .i64 (a.frm : Int), .int .i64 (a.tran : Int), .int .i64 (a.dst : Int)] := by simp [arcCells]
theorem arcCells_at (l : List ArcL) (j : Nat) (h : j < l.length) :
    (arcCells l)[j * 3]? = some (.int .i64 (l[j].frm : Int)) ∧ (arcCells l)[j * 3 + 1]? = some (.int .i64 (l[j].tran : Int)) ∧ (arcCells l)[j * 3 + 2]? = some (.int .i64 (l[j].dst : Int)) := by
  induction l generalizing j with
  | nil => simp at h
  | cons x r ih =>
    have ec : arcCells (x :: r) = .int .i64 (x.frm : Int) :: .int .i64 (x.tran : Int) :: .int .i64 (x.dst : Int) :: arcCells r := rfl
    match j, h with
    | 0, _ => exact ⟨rfl, rfl, rfl⟩
    | j + 1, h =>
      obtain ⟨q1, q2, q3⟩ := ih j (by simpa using h)
      rw [ec, show (j + 1) * 3 = j * 3 + 3 by omega]
      exact ⟨q1, q2, q3⟩

/-- The space s lies at block x; its two rows are the call's own; the marks hang on none of these, nor on block y. -/
structure SpaceAt (x y B : Nat) (W wr : World) (s : SpaceL) (mv av : Value) (us : List Value) : Prop where
  rowM : wr.ownsRow B 25 1 mv us.length us
  rowA : wr.ownsRow B 69 3 av s.arcs.length (arcCells s.arcs)
  below : Below B W wr
  hx : B ≤ x
  hlt : x < wr.heap.size
  hy : y < B
  c0 : wr.cell? ⟨x, 0, none⟩ = some mv
  c1 : wr.cell? ⟨x, 1, none⟩ = some av
  f0 : wr.frozen? ⟨x, 0, none⟩ = false
  f1 : wr.frozen? ⟨x, 1, none⟩ = false
  apM : mv.ownBlock ≠ some x
  apA : av.ownBlock ≠ some x
  apMA : ∀ k, mv.ownBlock = some k → av.ownBlock ≠ some k
  len : us.length = s.marks.length
  els : ∀ j (hj : j < us.length), us[j].oneCell' = true ∧ On (fun k => k ≠ x ∧ k ≠ y ∧ mv.ownBlock ≠ some k ∧ av.ownBlock ≠ some k) wr (fun w' => Ints w' us[j] (markAt s.marks j))

theorem SpaceAt.to {x y B : Nat} {W wr w' : World} {s : SpaceL} {mv av : Value} {us : List Value} (h : SpaceAt x y B W wr s mv av us) (hb : Below wr.heap.size wr w') : SpaceAt x y B W w' s mv av us :=
  { h with
    rowM := ((ownsRow_on h.rowM).below hb).now
    rowA := ((ownsRow_on h.rowA).below hb).now
    below := h.below.trans (hb.mono (Nat.le_trans h.hx (Nat.le_of_lt h.hlt)))
    hlt := Nat.lt_of_lt_of_le h.hlt hb.size
    c0 := by rw [hb.cell (p := ⟨x, 0, none⟩) h.hlt]; exact h.c0
    c1 := by rw [hb.cell (p := ⟨x, 1, none⟩) h.hlt]; exact h.c1
    f0 := by rw [hb.frozen (p := ⟨x, 0, none⟩) h.hlt]; exact h.f0
    f1 := by rw [hb.frozen (p := ⟨x, 1, none⟩) h.hlt]; exact h.f1
    els := fun j hj => ⟨(h.els j hj).1, (h.els j hj).2.below hb⟩ }

/-- What a row grows by, and a store at block x, leave. -/
theorem grown_set {x : Nat} {w wC : World} {row : Option Nat} (hg : w.grownBy wC row) (a : Addr) (ha : a.block = x) (u : Value) {k : Nat} (hlt : k < w.heap.size) (hk : k ≠ x) (hr : row ≠ some k) :
    (wC.setCell a u).heap[k]? = w.heap[k]? := by
  rw [Below.heap_setCell wC a u k (by rw [ha]; exact hk)]
  exact hg.block k hlt (fun e => hr e.symm)

/-- One more mark. -/
theorem SpaceAt.mark {x y B : Nat} {W wr wC : World} {s : SpaceL} {mv av mv' r : Value} {us : List Value} {z : List Int} (h : SpaceAt x y B W wr s mv av us) (h1 : r.oneCell' = true)
    (hr : On (fun k => k ≠ x ∧ k ≠ y ∧ mv.ownBlock ≠ some k ∧ av.ownBlock ≠ some k) wr (fun w' => Ints w' r z))
    (hown : wC.ownsRow B 25 1 mv' (us.length + 1) (us ++ [r])) (hg : wr.grownBy wC mv.ownBlock) (hat : mv'.ownBlock = mv.ownBlock ∨ mv'.ownBlock = some wr.heap.size) :
    SpaceAt x y B W (wC.setCell ⟨x, 0, none⟩ mv') ⟨s.marks ++ [z], s.arcs⟩ mv' av (us ++ [r]) := by
  have hsz : wr.heap.size ≤ (wC.setCell ⟨x, 0, none⟩ mv').heap.size := Nat.le_trans hg.size (by simp [World.setCell])
  have hM : ∀ k, mv.ownBlock = some k → B ≤ k ∧ k < wr.heap.size := fun k hk => ownsRow_lt h.rowM hk
  have hA : ∀ k, av.ownBlock = some k → B ≤ k ∧ k < wr.heap.size := fun k hk => ownsRow_lt h.rowA hk
  have hcx : wC.heap[x]? = wr.heap[x]? := hg.block x h.hlt (fun e => h.apM e.symm)
  have apM' : mv'.ownBlock ≠ some x := by
    rcases hat with e | e <;> rw [e]
    · exact h.apM
    · have := h.hlt; simp; omega
  have keep : ∀ {R : World → Prop}, On (fun k => k ≠ x ∧ k ≠ y ∧ mv.ownBlock ≠ some k ∧ av.ownBlock ≠ some k) wr R → On (fun k => k ≠ x ∧ k ≠ y ∧ mv'.ownBlock ≠ some k ∧ av.ownBlock ≠ some k) (wC.setCell ⟨x, 0, none⟩ mv') R := by
    intro R hR w2 hs2 hk2
    refine hR w2 (Nat.le_trans hsz hs2) fun k hlt ⟨q1, q2, q3, q4⟩ => ?_
    have q5 : mv'.ownBlock ≠ some k := by
      rcases hat with e | e <;> rw [e]
      · exact q3
      · simp; omega
    rw [hk2 k (Nat.lt_of_lt_of_le hlt hsz) ⟨q1, q2, q5, q4⟩]
    exact grown_set hg ⟨x, 0, none⟩ rfl mv' hlt q1 q3
  refine ⟨?_, ?_, ?_, h.hx, Nat.lt_of_lt_of_le h.hlt hsz, h.hy, ?_, ?_, ?_, ?_, apM', h.apA, ?_, by simp [h.len], fun j hj => ?_⟩
  · have := (ownsRow_on hown).set (a := ⟨x, 0, none⟩) (fun e => apM' e.1) mv'
    simpa using this.now
  · have q := (ownsRow_on h.rowA).to (w' := wC.setCell ⟨x, 0, none⟩ mv') hsz (fun k hlt hk => grown_set hg ⟨x, 0, none⟩ rfl mv' hlt (fun (e : k = x) => h.apA (by rw [← e]; exact hk.1)) (fun e => h.apMA k e hk.1))
    exact q.now
  · exact (h.below.grown hg (Nat.le_trans h.hx (Nat.le_of_lt h.hlt)) (fun k hk => (hM k hk).1)).setCell (p := ⟨x, 0, none⟩) h.hx _
  · exact World.cell?_setCell_same _ _ _ ((World.cell?_of_block (a := ⟨x, 0, none⟩) hcx).trans h.c0)
  · rw [World.cell?_setCell_other _ _ _ _ (by intro q; injection q with _ q2; omega)]; exact (World.cell?_of_block (a := ⟨x, 1, none⟩) hcx).trans h.c1
  · rw [World.frozen?_setCell]; exact (World.frozen?_of_block (a := ⟨x, 0, none⟩) hcx).trans h.f0
  · rw [World.frozen?_setCell]; exact (World.frozen?_of_block (a := ⟨x, 1, none⟩) hcx).trans h.f1
  · intro k hk e
    rcases hat with q | q
    · rw [q] at hk; exact h.apMA k hk e
    · rw [q] at hk; injection hk with hk; have := (hA k e).2; omega
  · by_cases hjl : j < us.length
    · rw [List.getElem_append_left hjl]
      have e : markAt (s.marks ++ [z]) j = markAt s.marks j := markAt_append (by rw [← h.len]; exact hjl)
      exact ⟨(h.els j hjl).1, by show On _ _ (fun w' => Ints w' us[j] (markAt (s.marks ++ [z]) j)); rw [e]; exact keep (h.els j hjl).2⟩
    · have e : j = us.length := by simp at hj; omega
      subst e
      rw [List.getElem_append_right (Nat.le_refl _)]
      simp only [Nat.sub_self, List.getElem_cons_zero]
      refine ⟨h1, ?_⟩
      show On _ _ (fun w' => Ints w' r (markAt (s.marks ++ [z]) us.length))
      rw [h.len, markAt_last]
      exact keep hr

/-- One more arc. -/
theorem SpaceAt.arc {x y B : Nat} {W wr wC : World} {s : SpaceL} {mv av av' : Value} {us : List Value} {a : ArcL} (h : SpaceAt x y B W wr s mv av us)
    (hown : wC.ownsRow B 69 3 av' (s.arcs.length + 1) (arcCells s.arcs ++ [.int .i64 (a.frm : Int), .int .i64 (a.tran : Int), .int .i64 (a.dst : Int)])) (hg : wr.grownBy wC av.ownBlock) (hat : av'.ownBlock = av.ownBlock ∨ av'.ownBlock = some wr.heap.size) :
    SpaceAt x y B W (wC.setCell ⟨x, 1, none⟩ av') ⟨s.marks, s.arcs ++ [a]⟩ mv av' us := by
  have hsz : wr.heap.size ≤ (wC.setCell ⟨x, 1, none⟩ av').heap.size := Nat.le_trans hg.size (by simp [World.setCell])
  have hM : ∀ k, mv.ownBlock = some k → B ≤ k ∧ k < wr.heap.size := fun k hk => ownsRow_lt h.rowM hk
  have hA : ∀ k, av.ownBlock = some k → B ≤ k ∧ k < wr.heap.size := fun k hk => ownsRow_lt h.rowA hk
  have hcx : wC.heap[x]? = wr.heap[x]? := hg.block x h.hlt (fun e => h.apA e.symm)
  have apA' : av'.ownBlock ≠ some x := by
    rcases hat with e | e <;> rw [e]
    · exact h.apA
    · have := h.hlt; simp; omega
  refine ⟨?_, ?_, ?_, h.hx, Nat.lt_of_lt_of_le h.hlt hsz, h.hy, ?_, ?_, ?_, ?_, h.apM, apA', ?_, h.len, fun j hj => ⟨(h.els j hj).1, ?_⟩⟩
  · have q := (ownsRow_on h.rowM).to (w' := wC.setCell ⟨x, 1, none⟩ av') hsz (fun k hlt hk => grown_set hg ⟨x, 1, none⟩ rfl av' hlt (fun (e : k = x) => h.apM (by rw [← e]; exact hk.1)) (h.apMA k hk.1))
    exact q.now
  · have := (ownsRow_on hown).set (a := ⟨x, 1, none⟩) (fun e => apA' e.1) av'
    show World.ownsRow _ B 69 3 av' (s.arcs ++ [a]).length (arcCells (s.arcs ++ [a]))
    rw [arcCells_append]
    simpa using this.now
  · exact (h.below.grown hg (Nat.le_trans h.hx (Nat.le_of_lt h.hlt)) (fun k hk => (hA k hk).1)).setCell (p := ⟨x, 1, none⟩) h.hx _
  · rw [World.cell?_setCell_other _ _ _ _ (by intro q; injection q with _ q2; omega)]; exact (World.cell?_of_block (a := ⟨x, 0, none⟩) hcx).trans h.c0
  · exact World.cell?_setCell_same _ _ _ ((World.cell?_of_block (a := ⟨x, 1, none⟩) hcx).trans h.c1)
  · rw [World.frozen?_setCell]; exact (World.frozen?_of_block (a := ⟨x, 0, none⟩) hcx).trans h.f0
  · rw [World.frozen?_setCell]; exact (World.frozen?_of_block (a := ⟨x, 1, none⟩) hcx).trans h.f1
  · intro k hk e
    rcases hat with q | q
    · rw [q] at e; exact h.apMA k hk e
    · rw [q] at e; injection e with e; have := (hM k hk).2; omega
  · intro w2 hs2 hk2
    refine (h.els j hj).2 w2 (Nat.le_trans hsz hs2) fun k hlt ⟨q1, q2, q3, q4⟩ => ?_
    have q5 : av'.ownBlock ≠ some k := by
      rcases hat with e | e <;> rw [e]
      · exact q4
      · simp; omega
    rw [hk2 k (Nat.lt_of_lt_of_le hlt hsz) ⟨q1, q2, q3, q5⟩]
    exact grown_set hg ⟨x, 1, none⟩ rfl av' hlt q1 q4

/-- Its marks, read. -/
theorem SpaceAt.lists {x y B : Nat} {W wr : World} {s : SpaceL} {mv av : Value} {us : List Value} (h : SpaceAt x y B W wr s mv av us) (hl : us.length ≤ 5864062014805) : Lists wr mv s.marks := by
  have hown := h.rowM
  obtain ⟨_, hcase⟩ := hown
  rcases hcase with ⟨e, h0⟩ | ⟨g, cap', cur, e, hg, hh, hn, hcap, hsz, htake⟩
  · exact ⟨none, us.length, 0, by rw [e, h0], h.len.symm, by omega, ⟨by omega, by omega, fun _ => rfl⟩, fun j hj => absurd hj (by have := h.len; omega)⟩
  · refine ⟨_, us.length, _, e, h.len.symm, by omega, ⟨hn, by unfold maxLen at hcap; omega, fun h => by cases h⟩, fun j hj => ?_⟩
    have hj' : j < us.length := by have := h.len; omega
    refine ⟨g, 0, us[j], rfl, ?_, ?_, (h.els j hj').2.now⟩
    · rcases Nat.lt_or_ge g wr.heap.size with q | q
      · exact q
      · rw [Array.getElem?_eq_none q] at hh; cases hh
    · have hown2 := h.rowM
      rw [e] at hown2
      rw [Nat.zero_add, hown2.cellAt j (by omega), List.getElem?_eq_getElem hj']
theorem SpaceAt.arcsR {x y B : Nat} {W wr : World} {s : SpaceL} {mv av : Value} {us : List Value} (h : SpaceAt x y B W wr s mv av us) (hl : s.arcs.length ≤ 5864062014805) : Arcs wr av (s.arcs.map arcZ) := by
  have hown := h.rowA
  obtain ⟨_, hcase⟩ := hown
  rcases hcase with ⟨e, h0⟩ | ⟨g, cap', cur, e, hg, hh, hn, hcap, hsz, htake⟩
  · exact ⟨none, s.arcs.length, 0, by rw [e, h0], by simp, by omega, ⟨by omega, by omega, fun _ => rfl⟩, fun j hj => absurd hj (by simp; omega)⟩
  · refine ⟨_, s.arcs.length, _, e, by simp, by omega, ⟨hn, by unfold maxLen at hcap; omega, fun h => by cases h⟩, fun j hj => ?_⟩
    have hj' : j < s.arcs.length := by simpa using hj
    have hown2 := h.rowA
    rw [e] at hown2
    obtain ⟨q1, q2, q3⟩ := arcCells_at s.arcs j hj'
    refine ⟨g, 0, rfl, ?_, ?_, ?_, ?_⟩
    · rcases Nat.lt_or_ge g wr.heap.size with q | q
      · exact q
      · rw [Array.getElem?_eq_none q] at hh; cases hh
    · rw [Nat.zero_add, hown2.cellAt (j * 3) (by omega), q1, List.getElem_map]; rfl
    · rw [Nat.zero_add, hown2.cellAt (j * 3 + 1) (by omega), q2, List.getElem_map]; rfl
    · rw [Nat.zero_add, hown2.cellAt (j * 3 + 2) (by omega), q3, List.getElem_map]; rfl

end Go.Proofs.Ytakgppoeikcepaa

/- Sets: maps of struct{}, over whatever keys. -/
namespace Go.Proofs.Ytakgppoeikcepaa
open Go.RowKit
open Go.Maps (Keyed)
set_option linter.unusedVariables false
set_option maxRecDepth 4000

/-- What a type of keys is: the values, what they read as, which of them there are. -/
structure KeyT {α : Type} (K : TypeId) (mk : α → Value) (lit : α → Lit) (ok : α → Prop) : Prop where
  keyed : Keyed Try.prog K
  key : ∀ x, ok x → keyOf Try.prog K (mk x) = some (lit x)
  inv : ∀ v l, keyOf Try.prog K v = some l → ∃ x, v = mk x ∧ l = lit x ∧ ok x
  inj : ∀ x y, mk x = mk y → x = y

/-- Block b is a set of at most n keys: these. -/
def SetA {α : Type} (K : TypeId) (lit : α → Lit) (ok : α → Prop) (w : World) (b n : Nat) (S : α → Prop) : Prop :=
  ∃ D : DataW Unit, w.ownsMap Try.prog K unitElem b n D ∧ ∀ l, Maps.has D l = true ↔ ∃ x, ok x ∧ S x ∧ l = lit x
section
variable {α : Type} {K : TypeId} {mk : α → Value} {lit : α → Lit} {ok : α → Prop}
theorem SetA.lt {w : World} {b n : Nat} {S : α → Prop} (h : SetA K lit ok w b n S) : b < w.heap.size := by obtain ⟨D, h1, _⟩ := h; exact h1.lt
theorem SetA.kept {w w' : World} {b n : Nat} {S : α → Prop} {row : Option Nat} (h : SetA K lit ok w b n S) (hg : w.grownBy w' row) (hne : some b ≠ row) : SetA K lit ok w' b n S := by
  obtain ⟨D, h1, h2⟩ := h; exact ⟨D, h1.kept hg hne, h2⟩
theorem SetA.below {w w' : World} {b n : Nat} {S : α → Prop} (h : SetA K lit ok w b n S) (hb : Below w.heap.size w w') : SetA K lit ok w' b n S := by
  have hlt := h.lt
  obtain ⟨D, ⟨es, clock, h0, F, hs, hD⟩, h2⟩ := h
  exact ⟨D, ⟨es, clock, (hb.block b hlt).trans h0, F, hs, hD⟩, h2⟩
theorem SetA.block {w w' : World} {b n : Nat} {S : α → Prop} (h : SetA K lit ok w b n S) (hb : w'.heap[b]? = w.heap[b]?) : SetA K lit ok w' b n S := by
  obtain ⟨D, ⟨es, clock, h0, F, hs, hD⟩, h2⟩ := h
  exact ⟨D, ⟨es, clock, hb.trans h0, F, hs, hD⟩, h2⟩
theorem setA_made (w : World) : SetA K lit ok (w.alloc (.map #[] 0)) w.heap.size 0 (fun _ : α => False) :=
  ⟨.map [], World.ownsMap_made w Try.prog K unitElem, fun l => by simp [Maps.has]⟩
theorem SetA.same {w : World} {b n : Nat} {S S' : α → Prop} (h : SetA K lit ok w b n S) (hs : ∀ x, ok x → (S x ↔ S' x)) : SetA K lit ok w b n S' := by
  obtain ⟨D, h1, h2⟩ := h
  refine ⟨D, h1, fun l => (h2 l).trans ⟨?_, ?_⟩⟩
  · rintro ⟨x, hx, hS, e⟩; exact ⟨x, hx, (hs x hx).1 hS, e⟩
  · rintro ⟨x, hx, hS, e⟩; exact ⟨x, hx, (hs x hx).2 hS, e⟩
theorem setA_has {S : α → Prop} {D : DataW Unit} (T : KeyT K mk lit ok) (h2 : ∀ l, Maps.has D l = true ↔ ∃ x, ok x ∧ S x ∧ l = lit x) {x : α} (hx : ok x) : Maps.has D (lit x) = true ↔ S x := by
  rw [h2]
  constructor
  · rintro ⟨y, hy, hS, e⟩
    rw [T.inj x y (T.keyed.inj (T.key x hx) (by rw [e]; exact T.key y hy))]; exact hS
  · intro hS; exact ⟨x, hx, hS, rfl⟩

/-- 'm[x] = struct{}{}'. -/
theorem wp_set_add (T : KeyT K mk lit ok) {t e : TypeId} (ht : Try.prog.underlying t = some (.map K e)) {ops : Array Oper} {rest : List Oper} {o : Oper} {a : Act} {Q : Exit → Act → World → Prop} (hgd : o.guard = none) (m y u : Operand)
    (ho : o.op = .mapUpdate t m y u) (w : World) (b n : Nat) (S : α → Prop) (x : α) (h : SetA K lit ok w b n S) (hx : ok x) (hn : n < maxLen) (hm : a.eval m = .map (some b)) (hy : a.eval y = mk x) (hu : a.eval u = .agg #[])
    (hK : ∀ w', SetA K lit ok w' b (n + 1) (fun z => S z ∨ z = x) → w.grownBy w' (some b) → ∀ v, wpList Try.prog ops Q rest (a.put o.dst v) w') : wpList Try.prog ops Q (o :: rest) a w := by
  obtain ⟨D, h1, h2⟩ := h
  refine wpList_plain hgd fun K' hK' => ?_
  obtain ⟨w', hrun, r1, r2⟩ := h1.update T.keyed ht hn (T.key x hx) unitElem_mk
  unfold Oper.wp
  simp [execOp, ho, hm, hy, hu, hrun, Result.andThen]
  refine hK' _ _ (hK w' ⟨_, r1, fun l => ?_⟩ r2 _)
  have hkl : WideAt.IsKeyLit (lit x) := T.keyed.key (T.key x hx)
  by_cases e : l = lit x
  · subst e
    rw [Maps.has_put_same h1.isMap hkl]
    exact ⟨fun _ => ⟨x, hx, .inr rfl, rfl⟩, fun _ => rfl⟩
  · rw [Maps.has_put_other e, h2]
    constructor
    · rintro ⟨z, hz, hS, r⟩; exact ⟨z, hz, .inl hS, r⟩
    · rintro ⟨z, hz, hS | rfl, r⟩
      · exact ⟨z, hz, hS, r⟩
      · exact absurd r e
end

theorem types_some : ∃ m, Try.prog.types.size = m + 1 := ⟨Try.prog.types.size - 1, by have : 0 < Try.prog.types.size := of_decide_eq_true (by kernel_rfl); omega⟩

/-- Numbers as keys. -/
def okI (x : Int) : Prop := (Lit.int .i64 x).wf = true
theorem okI_of {x : Int} (h : -9223372036854775808 ≤ x ∧ x ≤ 9223372036854775807) : okI x := by
  unfold okI
  simp [Lit.wf, IntKind.min, IntKind.max, IntKind.signed, IntKind.bits]
  omega
theorem keyI : KeyT 3 (Value.int .i64) (Lit.int .i64) okI where
  keyed := Maps.int_keyed Try.underlying3
  key x hx := Maps.keyOf_int_mk Try.underlying3 hx
  inv v l h := by obtain ⟨x, e1, e2, hw⟩ := Maps.keyOf_int_inv Try.underlying3 h; exact ⟨x, e1, e2, hw⟩
  inj x y e := by injection e

end Go.Proofs.Ytakgppoeikcepaa

/- Maps from keys to whatever values: what they say, and what 'm[k]', 'm[k] = v' do. -/
namespace Go.Proofs.Ytakgppoeikcepaa
open Go.RowKit
open Go.Maps (Keyed)
set_option linter.unusedVariables false
set_option maxRecDepth 4000

/-- An element is read as itself. -/
def heldE (v : Value) : Option (DataW Value × List MemPlace) := some (.held v, [])
theorem heldE_inv {v : Value} {d : DataW Value} {ps : List MemPlace} (h : heldE v = some (d, ps)) : d = .held v := by
  unfold heldE at h
  injection h with h
  injection h with h _
  exact h.symm

/-- What a type of keys is. -/
structure KeyW {α : Type} (K : TypeId) (mk : α → Value) (lit : α → Lit) (ok : α → Prop) : Prop where
  keyed : Keyed Try.prog K
  key : ∀ x, ok x → keyOf Try.prog K (mk x) = some (lit x)
  inj : ∀ x y, ok x → ok y → lit x = lit y → x = y

/-- Block b is a map of at most n keys: f says what stands there. -/
def MapA {α : Type} (K : TypeId) (lit : α → Lit) (ok : α → Prop) (w : World) (b n : Nat) (f : α → Option Value) : Prop :=
  ∃ D : DataW Value, w.ownsMap Try.prog K heldE b n D ∧ (∀ x, ok x → Maps.has D (lit x) = (f x).isSome) ∧ ∀ x, ok x → ∀ zd, D.atKey (lit x) zd = match f x with | some v => .held v | none => zd
section
variable {α : Type} {K : TypeId} {mk : α → Value} {lit : α → Lit} {ok : α → Prop} {w : World} {b n : Nat} {f : α → Option Value}
theorem MapA.lt (h : MapA K lit ok w b n f) : b < w.heap.size := by obtain ⟨D, h1, _⟩ := h; exact h1.lt
theorem MapA.mono {n' : Nat} (h : MapA K lit ok w b n f) (hn : n ≤ n') : MapA K lit ok w b n' f := by obtain ⟨D, h1, h2⟩ := h; exact ⟨D, h1.mono hn, h2⟩
theorem MapA.kept {w' : World} {row : Option Nat} (h : MapA K lit ok w b n f) (hg : w.grownBy w' row) (hne : some b ≠ row) : MapA K lit ok w' b n f := by
  obtain ⟨D, h1, h2⟩ := h; exact ⟨D, h1.kept hg hne, h2⟩
theorem MapA.block {w' : World} (h : MapA K lit ok w b n f) (hb : w'.heap[b]? = w.heap[b]?) : MapA K lit ok w' b n f := by
  obtain ⟨D, ⟨es, clock, h0, F, hs, hD⟩, h2⟩ := h
  exact ⟨D, ⟨es, clock, hb.trans h0, F, hs, hD⟩, h2⟩
theorem MapA.below {w' : World} (h : MapA K lit ok w b n f) (hb : Below w.heap.size w w') : MapA K lit ok w' b n f := h.block (hb.block b h.lt)
theorem MapA.setCell (h : MapA K lit ok w b n f) {a : Addr} (ha : b ≠ a.block) (u : Value) : MapA K lit ok (w.setCell a u) b n f := h.block (RowKit.Below.heap_setCell _ _ _ _ ha)
theorem mapA_made (w : World) : MapA K lit ok (w.alloc (.map #[] 0)) w.heap.size 0 (fun _ : α => none) :=
  ⟨.map [], World.ownsMap_made w Try.prog K heldE, fun x _ => by simp [Maps.has], fun x _ zd => by simp [DataW.atKey]⟩
theorem MapA.same {f' : α → Option Value} (h : MapA K lit ok w b n f) (hf : ∀ x, ok x → f x = f' x) : MapA K lit ok w b n f' := by
  obtain ⟨D, h1, h2, h3⟩ := h
  exact ⟨D, h1, fun x hx => by rw [← hf x hx]; exact h2 x hx, fun x hx zd => by rw [← hf x hx]; exact h3 x hx zd⟩

/-- 'm[x] = v'. -/
theorem MapA.put (T : KeyW K mk lit ok) {t e : TypeId} (ht : Try.prog.underlying t = some (.map K e)) (h : MapA K lit ok w b n f) (hn : n < maxLen) {x : α} (hx : ok x) (v : Value) :
    ∃ w', (Instr.mapUpdate t (.map (some b)) (mk x) v).run Try.prog w = .ok () w' ∧ (∀ f', f' x = some v → (∀ y, y ≠ x → f' y = f y) → MapA K lit ok w' b (n + 1) f') ∧ w.grownBy w' (some b) := by
  obtain ⟨D, h1, h2, h3⟩ := h
  obtain ⟨w', hrun, r1, r2⟩ := h1.update T.keyed ht hn (T.key x hx) (show heldE v = some (.held v, []) from rfl)
  have hk : WideAt.IsKeyLit (lit x) := T.keyed.key (T.key x hx)
  refine ⟨w', hrun, fun f' e1 e2 => ⟨_, r1, fun y hy => ?_, fun y hy zd => ?_⟩, r2⟩
  · by_cases e : y = x
    · subst e; rw [Maps.has_put_same h1.isMap hk, e1]; rfl
    · have hne : lit y ≠ lit x := fun q => e (T.inj y x hy hx q)
      rw [Maps.has_put_other hne, e2 y e]; exact h2 y hy
  · by_cases e : y = x
    · subst e; rw [Maps.atKey_put_same h1.isMap hk, e1]
    · have hne : lit y ≠ lit x := fun q => e (T.inj y x hy hx q)
      rw [Maps.atKey_put_other hne, e2 y e]; exact h3 y hy zd
/-- 'm[x]'. -/
theorem MapA.look (T : KeyW K mk lit ok) {t e : TypeId} (ht : Try.prog.underlying t = some (.map K e)) {z : Value} (hz : (zeroValue e).run Try.prog w = .ok z w) (h : MapA K lit ok w b n f) {x : α} (hx : ok x) :
    (Instr.lookup t (.map (some b)) (mk x) false).run Try.prog w = .ok ((f x).getD z) w := by
  obtain ⟨D, h1, h2, h3⟩ := h
  obtain ⟨v, ps, hrun, hv⟩ := h1.lookup T.keyed ht hz (show heldE z = some (.held z, []) from rfl) (T.key x hx)
  rw [hrun]
  have := heldE_inv hv
  rw [h3 x hx] at this
  cases hf : f x with
  | none => rw [hf] at this; simp only at this; injection this with this; rw [this]; rfl
  | some u => rw [hf] at this; simp only at this; injection this with this; rw [this]; rfl
/-- 'v, ok := m[x]'. -/
theorem MapA.look_ok (T : KeyW K mk lit ok) {t e : TypeId} (ht : Try.prog.underlying t = some (.map K e)) {z : Value} (hz : (zeroValue e).run Try.prog w = .ok z w) (h : MapA K lit ok w b n f) {x : α} (hx : ok x) :
    (Instr.lookup t (.map (some b)) (mk x) true).run Try.prog w = .ok (.tuple #[(f x).getD z, .bool (f x).isSome]) w := by
  obtain ⟨D, h1, h2, h3⟩ := h
  obtain ⟨v, ps, hrun, hv⟩ := h1.look_ok T.keyed ht hz (show heldE z = some (.held z, []) from rfl) (T.key x hx)
  rw [hrun, h2 x hx]
  have := heldE_inv hv
  rw [h3 x hx] at this
  cases hf : f x with
  | none => rw [hf] at this; simp only at this; injection this with this; rw [this]; rfl
  | some u => rw [hf] at this; simp only at this; injection this with this; rw [this]; rfl
end

end Go.Proofs.Ytakgppoeikcepaa

/- Spots as keys; steps. -/
namespace Go.Proofs.Ytakgppoeikcepaa
open Go.RowKit
open Go.Maps (Keyed)
set_option linter.unusedVariables false
set_option maxRecDepth 4000

def spotV (p : Nat × Nat) : Value := .agg #[.int .i64 (p.1 : Int), .int .i64 (p.2 : Int)]
def spotLit (p : Nat × Nat) : Lit := .string (keyBytes [.int .i64 (p.1 : Int), .int .i64 (p.2 : Int)])
def okS (p : Nat × Nat) : Prop := p.1 ≤ 1000000 ∧ p.2 ≤ 1000000
theorem spot_wide : (match Try.prog.underlying 60 with | some (.array _ _) | some (.struct _) => true | _ => false) = true := by kernel_rfl
theorem spot_law : Keyed Try.prog 60 := Keyed.of_law (deep_law (m := 3) (by omega) (by kernel_rfl) (by kernel_rfl) spot_wide)
theorem wfN {k : Nat} (h : k ≤ 1000000) : (Lit.int .i64 (k : Int)).wf = true := okI_of (by omega)
theorem keyOf_spot (p : Nat × Nat) (h : okS p) : keyOf Try.prog 60 (spotV p) = some (spotLit p) := by
  have h1 := wfN h.1
  have h2 := wfN h.2
  obtain ⟨m, hm⟩ := types_some
  have hc : Try.prog.cellsOf 60 = 2 := by kernel_rfl
  have hi : Try.prog.cellsOf 3 = 1 := by kernel_rfl
  have hk : Try.prog.keyType 60 = true := by kernel_rfl
  unfold keyOf
  simp only [Try.underlying60]
  rw [if_pos (by simp [hk, Value.formed, Try.underlying60, hc, spotV]), hm]
  unfold Program.keyLits
  simp only [Try.underlying60, Value.cells, spotV]
  rw [if_pos (by simp [hc])]
  simp [hi, Program.keyLits, Try.underlying3, h1, h2, spotLit, List.mapM_cons]
theorem spot_key : KeyW 60 spotV spotLit okS where
  keyed := spot_law
  key := keyOf_spot
  inj x y hx hy e := by
    have h1 := keyOf_spot x hx
    rw [e] at h1
    have := spot_law.inj h1 (keyOf_spot y hy)
    unfold spotV at this
    injection this with e
    injection e with e
    injection e with e1 e
    injection e with e2 _
    injection e1 with _ e1
    injection e2 with _ e2
    exact Prod.ext (by omega) (by omega)

end Go.Proofs.Ytakgppoeikcepaa

/- Slices of structs as their cells, one behind the other. -/
namespace Go.Proofs.Ytakgppoeikcepaa
open Go.RowKit
set_option linter.unusedVariables false
set_option linter.unusedSimpArgs false
set_option maxRecDepth 4000

/-- A slice of n elements, 'size' cells each: these. -/
def CellsV (w : World) (v : Value) (size most n : Nat) (xs : List Value) : Prop :=
  ∃ a cap, v = .slice a n cap ∧ xs.length = n * size ∧ n ≤ most ∧ Shape a n cap ∧ (∀ u ∈ xs, u.oneCell' = true) ∧
    ∀ j u, xs[j]? = some u → ∃ b off, a = some ⟨b, off, none⟩ ∧ b < w.heap.size ∧ w.cell? ⟨b, off + j, none⟩ = some u
theorem CellsV.below {w w' : World} {v : Value} {size most n : Nat} {xs : List Value} (h : CellsV w v size most n xs) (hb : Below w.heap.size w w') : CellsV w' v size most n xs := by
  obtain ⟨a, cap, e, hl, hm, hs, h1, hr⟩ := h
  refine ⟨a, cap, e, hl, hm, hs, h1, fun j u hj => ?_⟩
  obtain ⟨b, off, ha, hlt, hc⟩ := hr j u hj
  exact ⟨b, off, ha, Nat.lt_of_lt_of_le hlt hb.size, by rw [hb.cell (p := ⟨b, _, none⟩) hlt]; exact hc⟩
theorem CellsV.slice {w : World} {v : Value} {size most n : Nat} {xs : List Value} (h : CellsV w v size most n xs) : ∃ a cap, v = .slice a n cap ∧ n ≤ most ∧ Shape a n cap := by
  obtain ⟨a, cap, e, hl, hm, hs, h1, hr⟩ := h
  exact ⟨a, cap, e, hm, hs⟩
theorem CellsV.nil (w : World) (size most : Nat) : CellsV w (.slice none 0 0) size most 0 [] := ⟨none, 0, rfl, by simp, by omega, ⟨by omega, by omega, fun _ => rfl⟩, fun u hu => absurd hu (by simp), fun j u hj => absurd hj (by simp)⟩
theorem CellsV.take {w : World} {a : Option Addr} {size most n cap m : Nat} {xs : List Value} (h : CellsV w (.slice a n cap) size most n xs) (hm : m ≤ n) : CellsV w (.slice a m cap) size most m (xs.take (m * size)) := by
  obtain ⟨a', cap', e, hl, hmx, ⟨s1, s2, s3⟩, h1, hr⟩ := h
  injection e with e1 e2 e3
  subst e1 e3
  have hms : m * size ≤ n * size := Nat.mul_le_mul_right _ hm
  refine ⟨a, cap, rfl, by rw [List.length_take]; omega, by omega, ⟨by omega, s2, s3⟩, fun u hu => h1 u (List.mem_of_mem_take hu), fun j u hj => ?_⟩
  have hjl : j < m * size := by
    rcases Nat.lt_or_ge j (m * size) with q | q
    · exact q
    · rw [List.getElem?_eq_none (by rw [List.length_take]; omega)] at hj; cases hj
  rw [List.getElem?_take, if_pos hjl] at hj
  exact hr j u hj

/-- A slice of such elements that the call itself has made. -/
def OwnC (B : Nat) (w wr : World) (e : TypeId) (size : Nat) (v : Value) (n : Nat) (xs : List Value) : Prop := wr.ownsRow B e size v n xs ∧ Below B w wr ∧ B ≤ wr.heap.size
theorem OwnC.nil (w : World) (e : TypeId) (size : Nat) : OwnC w.heap.size w w e size (.slice none 0 0) 0 [] := ⟨World.ownsRow_nil _ _ _ _, Below.refl _ _, Nat.le_refl _⟩
theorem OwnC.nil_of {B : Nat} {w wr : World} {e : TypeId} {size : Nat} (hb : Below B w wr) (hB : B ≤ wr.heap.size) : OwnC B w wr e size (.slice none 0 0) 0 [] := ⟨World.ownsRow_nil _ _ _ _, hb, hB⟩
theorem ownsRow_cells {B : Nat} {wr : World} {e : TypeId} {size : Nat} {v : Value} {n : Nat} {xs : List Value} (h : wr.ownsRow B e size v n xs) {most : Nat} (hl : n ≤ most) (h1 : ∀ u ∈ xs, u.oneCell' = true) : CellsV wr v size most n xs := by
  have h0 := h
  obtain ⟨hlen, hcase⟩ := h
  rcases hcase with ⟨rfl, h0'⟩ | ⟨g, cap', cur, rfl, hg, hh, hn, hcap, hsz, htake⟩
  · refine ⟨none, 0, by rw [h0'], hlen, hl, ⟨by omega, by omega, fun _ => rfl⟩, h1, fun j u hj => ?_⟩
    rw [List.getElem?_eq_none (by rw [hlen, h0']; omega)] at hj; cases hj
  · refine ⟨_, cap', rfl, hlen, hl, ⟨hn, by unfold maxLen at hcap; omega, fun h => by cases h⟩, h1, fun j u hj => ⟨g, 0, rfl, ?_, ?_⟩⟩
    · rcases Nat.lt_or_ge g wr.heap.size with h | h
      · exact h
      · rw [Array.getElem?_eq_none h] at hh; cases hh
    · have hjl : j < n * size := by
        rcases Nat.lt_or_ge j (n * size) with q | q
        · exact q
        · rw [List.getElem?_eq_none (by omega)] at hj; cases hj
      rw [Nat.zero_add, h0.cellAt j (by omega)]
      exact hj
theorem OwnC.cells {B : Nat} {w wr : World} {e : TypeId} {size : Nat} {v : Value} {n : Nat} {xs : List Value} (h : OwnC B w wr e size v n xs) {most : Nat} (hl : n ≤ most) (h1 : ∀ u ∈ xs, u.oneCell' = true) : CellsV wr v size most n xs := ownsRow_cells h.1 hl h1
theorem OwnC.trans {B : Nat} {w wr w2 : World} {e : TypeId} {size : Nat} {v : Value} {n : Nat} {xs : List Value} (h : OwnC B w wr e size v n xs) (hb : Below wr.heap.size wr w2) : OwnC B w w2 e size v n xs := by
  obtain ⟨hown, hb0, hB⟩ := h
  refine ⟨hown.kept (row := none) ⟨hb.os, hb.tape, hb.output, hb.size, fun k hk _ => hb.block k hk⟩ ?_, hb0.trans (hb.mono hB), Nat.le_trans hB hb.size⟩
  cases hv : v.ownBlock with
  | none => exact .inl rfl
  | some k => exact .inr (by simp)
theorem OwnC.slice {B : Nat} {w wr : World} {e : TypeId} {size : Nat} {v : Value} {n : Nat} {xs : List Value} (h : OwnC B w wr e size v n xs) : ∃ a c, v = .slice a n c := by
  rcases h.1.2 with ⟨rfl, h0⟩ | ⟨g, cap', cur, rfl, _⟩
  · exact ⟨_, _, by rw [h0]⟩
  · exact ⟨_, _, rfl⟩

/-- What a type of elements is: its cells, its bytes, its zero value. -/
structure ElemT (t e : TypeId) (size bytes : Nat) : Prop where
  under : Try.prog.underlying t = some (.slice e)
  info : ∃ i z, Try.prog.info? e = some i ∧ i.zero = some z ∧ i.size = size ∧ i.bytes = bytes ∧ z.cells.size = size
  pos : 0 < size
theorem ElemT.of {t e : TypeId} {size bytes : Nat} {z : Value} (ht : Try.prog.underlying t = some (.slice e)) (hi : (Try.prog.info? e).map (fun i => (i.zero, i.size, i.bytes)) = some (some z, size, bytes)) (hz : z.cells.size = size) (hp : 0 < size) : ElemT t e size bytes := by
  obtain ⟨i0, h0, h1, h2, h3⟩ := info_parts hi
  exact ⟨ht, ⟨i0, z, h0, h1, h2, h3, hz⟩, hp⟩

/-- append of all of another slice. -/
theorem wp_append_cells {t e : TypeId} {size bytes : Nat} (T : ElemT t e size bytes) {ops : Array Oper} {rest : List Oper} {o : Oper} {a : Act} {Q : Exit → Act → World → Prop} (hgd : o.guard = none) (s x : Operand)
    (ho : o.op = .call { callee := .builtin .append, args := #[s, x], argTypes := #[t, t] }) (B : Nat) (w wr : World) (v u : Value) (n m most : Nat) (zs ys : List Value) (hG : OwnC B w wr e size v n zs)
    (hs : a.eval s = v) (hx : a.eval x = u) (hu : CellsV wr u size most m ys) (hl : n + m ≤ maxLen) (hby : (n + m) * bytes ≤ 140737488355328)
    (h : ∀ v' w', OwnC B w w' e size v' (n + m) (zs ++ ys) → wr.grownBy w' v.ownBlock → wpList Try.prog ops Q rest (a.put o.dst v') w') : wpList Try.prog ops Q (o :: rest) a wr := by
  obtain ⟨i0, z, hi, hz0, hz1, hz2, hz3⟩ := T.info
  obtain ⟨ax, cap, rfl, hlen, hmx, hsh, h1, hr⟩ := hu
  have hG0 := hG
  obtain ⟨hown, hb, hB⟩ := hG
  cases ax with
  | none =>
    have hc0 : cap = 0 := hsh.2.2 rfl
    have hl0 : m = 0 := by have := hsh.1; omega
    subst hc0 hl0
    have hy : ys = [] := List.length_eq_zero_iff.1 (by rw [hlen, Nat.zero_mul])
    subst hy
    exact wpList_append_own_none hgd s x t ho B e i0 size T.under hi v n _ hs hown hx (h v wr (by simpa using hG0) (World.grownBy.refl _ _))
  | some ad =>
    refine wpList_append_own _ hgd s x t ho B e i0 z size bytes T.under hi hz0 hz1 hz2 hz3 T.pos v n _ hs hown ad m cap ys hx hlen ?_ h1 hl hby hB ?_
    · intro j u hj
      obtain ⟨b, off, e, hlt, hc⟩ := hr j u hj
      injection e with e
      subst e
      rw [addr_add]
      exact hc
    · intro v' w' hown' hgrow _
      exact h v' w' ⟨hown', hb.grown hgrow hB (fun k hk => (hown.lt k hk).1), Nat.le_trans hB hgrow.size⟩ hgrow

/-- append of one, laid down ahead of it. -/
theorem wp_append_cell1 {t e : TypeId} {size bytes : Nat} (T : ElemT t e size bytes) {ops : Array Oper} {rest : List Oper} {o : Oper} {a : Act} {Q : Exit → Act → World → Prop} (hgd : o.guard = none) (s x : Operand)
    (ho : o.op = .call { callee := .builtin .append, args := #[s, x], argTypes := #[t, t] }) (B : Nat) (w wr : World) (v : Value) (n : Nat) (zs : List Value) (cs : Array Value) (hG : OwnC B w wr e size v n zs) (hc : cs.size = size) (h1 : ∀ u ∈ cs.toList, u.oneCell' = true)
    (hs : a.eval s = v) (hx : a.eval x = .slice (some ⟨wr.heap.size, 0, none⟩) 1 1) (hl : n + 1 ≤ maxLen) (hby : (n + 1) * bytes ≤ 140737488355328)
    (h : ∀ v' w', OwnC B w w' e size v' (n + 1) (zs ++ cs.toList) → wr.grownBy w' v.ownBlock → wpList Try.prog ops Q rest (a.put o.dst v') w') : wpList Try.prog ops Q (o :: rest) a (wr.alloc (.cells cs e)) := by
  have hG' := hG.trans (below_new wr (.cells cs e))
  refine wp_append_cells T hgd s x ho B w _ v _ n 1 1 zs cs.toList hG' hs hx ⟨_, _, rfl, by simp [hc], Nat.le_refl _, ⟨Nat.le_refl _, by omega, fun h => by cases h⟩, h1, fun j u hj => ⟨_, _, rfl, by simp, ?_⟩⟩ hl hby fun v' w' hO hg => h v' w' hO ?_
  · rw [Nat.zero_add, World.cell?_alloc_at _ _ _ _ rfl]
    simpa using hj
  · refine ⟨hg.os, hg.tape, hg.output, ?_, fun k hk hn => ?_⟩
    · have := hg.size; simp at this; omega
    · rw [hg.block k (by simp; omega) hn, (below_new wr (.cells cs e)).block k hk]

/-- Several such slices, in a slice. -/
def catN (ls : List (Nat × List Value)) (k : Nat) : Nat := ((ls.take k).map (·.1)).sum
def catC (ls : List (Nat × List Value)) (k : Nat) : List Value := ((ls.take k).map (·.2)).flatten
def atC (ls : List (Nat × List Value)) (k : Nat) : Nat × List Value := ls.getD k (0, [])
theorem catN_succ {ls : List (Nat × List Value)} {k : Nat} (h : k < ls.length) : catN ls (k + 1) = catN ls k + (atC ls k).1 := by
  unfold catN atC
  rw [List.take_succ_eq_append_getElem h, List.map_append, List.sum_append, List.getD_eq_getElem?_getD, List.getElem?_eq_getElem h]
  rw [List.map_cons, List.map_nil, List.sum_cons, List.sum_nil, Nat.add_zero]
  rfl
theorem catC_succ {ls : List (Nat × List Value)} {k : Nat} (h : k < ls.length) : catC ls (k + 1) = catC ls k ++ (atC ls k).2 := by
  unfold catC atC
  rw [List.take_succ_eq_append_getElem h, List.map_append, List.flatten_append, List.getD_eq_getElem?_getD, List.getElem?_eq_getElem h]
  rw [List.map_cons, List.map_nil, List.flatten_cons, List.flatten_nil, List.append_nil]
  rfl
theorem catN_le {ls : List (Nat × List Value)} : ∀ {k : Nat}, k ≤ ls.length → catN ls k ≤ catN ls ls.length := by
  intro k hk
  obtain ⟨d, hd⟩ : ∃ d, ls.length = k + d := ⟨ls.length - k, by omega⟩
  induction d generalizing k with
  | zero => rw [hd]; exact Nat.le_refl _
  | succ d ih =>
    have := ih (k := k + 1) (by omega) (by omega)
    rw [catN_succ (by omega)] at this
    omega
def LisC (w : World) (v : Value) (size most : Nat) (ls : List (Nat × List Value)) : Prop :=
  ∃ a len cap, v = .slice a len cap ∧ ls.length = len ∧ len ≤ 1000000 ∧ Shape a len cap ∧
    ∀ j, j < ls.length → ∃ b off u, a = some ⟨b, off, none⟩ ∧ b < w.heap.size ∧ w.cell? ⟨b, off + j, none⟩ = some u ∧ CellsV w u size most (atC ls j).1 (atC ls j).2
theorem LisC.below {w w' : World} {v : Value} {size most : Nat} {ls : List (Nat × List Value)} (h : LisC w v size most ls) (hb : Below w.heap.size w w') : LisC w' v size most ls := by
  obtain ⟨a, len, cap, e, hl, hm, hs, hr⟩ := h
  refine ⟨a, len, cap, e, hl, hm, hs, fun j hj => ?_⟩
  obtain ⟨b, off, u, ha, hlt, hc, hu⟩ := hr j hj
  exact ⟨b, off, u, ha, Nat.lt_of_lt_of_le hlt hb.size, by rw [hb.cell (p := ⟨b, _, none⟩) hlt]; exact hc, hu.below hb⟩

/-- append of all of another slice, inside a region that draws its order. -/
theorem wpr_append_cells {t e : TypeId} {size bytes : Nat} (T : ElemT t e size bytes) {o : Oper} {a : Act} {K : Act → World → Prop} {Q : Exit → Act → World → Prop} {Y : Nat → Option Bool} (hwt : Region.wanted o Y = true) (s x : Operand)
    (ho : o.op = .call { callee := .builtin .append, args := #[s, x], argTypes := #[t, t] }) (B : Nat) (w wr : World) (v : Value) (n m c : Nat) (ad : Addr) (zs ys : List Value) (hG : OwnC B w wr e size v n zs)
    (hs : a.eval s = v) (hx : a.eval x = .slice (some ad) m c) (hlen : ys.length = m * size) (hr : ∀ j u, ys[j]? = some u → wr.cell? (ad.add j) = some u) (h1 : ∀ u ∈ ys, u.oneCell' = true) (hl : n + m ≤ maxLen) (hby : (n + m) * bytes ≤ 140737488355328)
    (h : ∀ v' w', OwnC B w w' e size v' (n + m) (zs ++ ys) → wr.grownBy w' v.ownBlock → K (a.put o.dst v') w') :
    if Region.wanted o Y = true then Oper.wp Try.prog o a wr K Q else K (a.put o.dst undef) wr := by
  obtain ⟨i0, z, hi, hz0, hz1, hz2, hz3⟩ := T.info
  obtain ⟨hown, hb, hB⟩ := hG
  refine wp_append_at _ hwt s x t ho B e i0 z size bytes T.under hi hz0 hz1 hz2 hz3 T.pos v n _ hs hown ad m c ys hx hlen hr h1 hl hby hB ?_
  intro v' w' hown' hgrow _
  exact h v' w' ⟨hown', hb.grown hgrow hB (fun k hk => (hown.lt k hk).1), Nat.le_trans hB hgrow.size⟩ hgrow

end Go.Proofs.Ytakgppoeikcepaa

/- A slice of ints that came in, read as a list. -/
namespace Go.Proofs.Ytakgppoeikcepaa
open Go.ChangeShapes Go.WideShapes Go.ChangeAt Go.RowKit
set_option linter.unusedVariables false
set_option maxRecDepth 4000

theorem own : ownKnob Try.prog.godebug = none := by kernel_rfl
theorem laidOut : laidOutB Try.prog = true := by kernel_rfl
theorem bytes_int : Try.prog.bytesOf 3 = 8 := by kernel_rfl

theorem cell_lt {w : World} {a : Addr} {v : Value} (h : w.cell? a = some v) : a.block < w.heap.size := by
  rcases Nat.lt_or_ge a.block w.heap.size with h1 | h1
  · exact h1
  · unfold World.cell? at h
    rw [Array.getElem?_eq_none h1] at h
    simp at h

theorem ints_arg {H : Type} {enc : TypeId × Value → H} {W : World} {base : Nat} {v : Value} {d : DataW H} {p : List MemPlace}
    (hval : Value.okWide Try.prog W .any base 25 v) (h : DataW.Trod enc Try.prog W 0 (fun _ => true) true 25 v d p)
    (hsz : ∀ elems spare, d = .slice elems spare → (elems.length + spare.length) * 8 ≤ reachBytes) : ∃ xs, Ints W v xs := by
  obtain ⟨a0, len, cap, rfl⟩ := okWide_slice Try.underlying25 hval
  obtain ⟨fuel, hf⟩ := h
  rcases open_ints Try.underlying25 Try.underlying3 (by kernel_rfl) hf with ⟨hcs, _⟩ | ⟨x, l, c, zs, hcs, _, hl, hm, hz, hx, hcell, hwz⟩
  · simp [Value.cells] at hcs
    obtain ⟨rfl, rfl, rfl⟩ := hcs
    exact ⟨[], Ints.nil _⟩
  · simp [Value.cells] at hcs
    obtain ⟨rfl, rfl, rfl⟩ := hcs
    simp only [Prod.mk.injEq] at hx
    simp only [if_true] at hz
    have hs := hsz _ _ hx.1
    simp only [lits, List.length_map, List.length_take, List.length_drop, reachBytes] at hs
    refine ⟨zs.take len, x, len, cap, rfl, by simp; omega, by omega, ⟨hl, by unfold maxLen at hm; omega, fun h => by cases h⟩, fun j hj => ?_⟩
    have hj' : j < len := by simp at hj; omega
    have hc := hcell j (by omega)
    obtain ⟨b, off, spot⟩ := x
    have hspot : spot = none := by simpa [Addr.add] using World.cell?_spot (hcell 0 (by omega))
    subst hspot
    rw [add_plain] at hc
    refine ⟨b, off, rfl, ?_, ?_⟩
    · exact cell_lt hc
    · rw [hc]
      simp [nth, List.getD, hj']

end Go.Proofs.Ytakgppoeikcepaa

/- What came in, read as lists and nets; and how much of it there is. -/
namespace Go.Proofs.Ytakgppoeikcepaa
open Go.ChangeShapes Go.WideShapes Go.ChangeAt Go.RowKit Go.Joins Go.Deep
set_option linter.unusedVariables false
set_option maxRecDepth 4000

theorem bulk_pos {H : Type} (d : DataW H) : 1 ≤ Rows.uptoBulk d := by
  cases d with
  | lit l => cases l <;> simp [Rows.uptoBulk]
  | nil => simp [Rows.uptoBulk]
  | ptr d => simp [Rows.uptoBulk]
  | slice elems spare => simp [Rows.uptoBulk]
  | agg parts => simp [Rows.uptoBulk]
  | iface t d => simp [Rows.uptoBulk]
  | map entries => simp [Rows.uptoBulk]
  | held h => simp [Rows.uptoBulk]
theorem bulk_part {H : Type} {d : DataW H} {l : List (DataW H)} (h : d ∈ l) : Rows.uptoBulk d ≤ Rows.uptoBulkAll l := by
  induction l with
  | nil => cases h
  | cons x r ih =>
    simp only [Rows.uptoBulkAll]
    cases List.mem_cons.1 h with
    | inl e => subst e; omega
    | inr e => have := ih e; omega
theorem bulk_length {H : Type} (l : List (DataW H)) : l.length ≤ Rows.uptoBulkAll l := by
  induction l with
  | nil => simp [Rows.uptoBulkAll]
  | cons x r ih => have := bulk_pos x; simp only [Rows.uptoBulkAll, List.length_cons]; omega

theorem weights_part {H : Type} {P : Program} {e : TypeId} {d : DataW H} {l : List (DataW H)} (h : d ∈ l) {x : Nat} (hx : x ∈ d.weights P e) : x ∈ DataW.weightsAll P e l := by
  induction l with
  | nil => cases h
  | cons y r ih =>
    simp only [DataW.weightsAll, List.mem_append]
    cases List.mem_cons.1 h with
    | inl q => subst q; exact .inl hx
    | inr q => exact .inr (ih q)

/-- Nothing in it is too great for a machine. -/
def Fits {H : Type} (t : TypeId) (d : DataW H) : Prop := ∀ x ∈ d.weights Try.prog t, x ≤ reachBytes

theorem ints_read {H : Type} {enc : TypeId × Value → H} {W : World} {fuel : Nat} {c : Value} {d : DataW H} {p : List MemPlace}
    (hf : DataW.trod enc Try.prog W 0 (fun _ => true) true fuel 25 [c] = some (d, p)) (hw : Fits 25 d) : ∃ xs, Ints W c xs ∧ xs.length + 1 ≤ Rows.uptoBulk d := by
  rcases open_ints Try.underlying25 Try.underlying3 (by kernel_rfl) hf with ⟨hcs, hx⟩ | ⟨x, l, cap, zs, hcs, _, hl, hm, hz, hx, hcell, hwz⟩
  · simp only [List.cons.injEq, and_true] at hcs
    subst hcs
    simp only [Prod.mk.injEq] at hx
    obtain ⟨rfl, _⟩ := hx
    exact ⟨[], Ints.nil _, by simp [Rows.uptoBulk]⟩
  · simp only [List.cons.injEq, and_true] at hcs
    subst hcs
    simp only [Prod.mk.injEq] at hx
    obtain ⟨rfl, _⟩ := hx
    simp only [if_true] at hz
    have hs := hw ((zs.take l).length * 8 + (zs.drop l).length * 8) (by
      simp only [DataW.weights, Try.underlying25, List.mem_cons]
      left
      rw [bytes_int]
      simp only [lits, List.length_map]
      omega)
    simp only [List.length_take, List.length_drop, reachBytes] at hs
    have hb := bulk_length (H := H) (lits .i64 (zs.take l))
    refine ⟨zs.take l, ⟨x, l, cap, rfl, by simp; omega, by omega, ⟨hl, by unfold maxLen at hm; omega, fun h => by cases h⟩, fun j hj => ?_⟩, ?_⟩
    · have hj' : j < l := by simp at hj; omega
      have hc := hcell j (by omega)
      obtain ⟨b, off, spot⟩ := x
      have hspot : spot = none := by simpa [Addr.add] using World.cell?_spot (hcell 0 (by omega))
      subst hspot
      rw [addr_add] at hc
      exact ⟨b, off, rfl, cell_lt hc, by rw [hc]; simp [nth, List.getD, hj']⟩
    · simp only [Rows.uptoBulk]
      simp only [lits, List.length_map] at hb
      simp only [lits] at hb ⊢
      omega

theorem ints_arg2 {H : Type} {enc : TypeId × Value → H} {W : World} {base : Nat} {v : Value} {d : DataW H} {p : List MemPlace}
    (hval : Value.okWide Try.prog W .any base 25 v) (h : DataW.Trod enc Try.prog W 0 (fun _ => true) true 25 v d p) (hw : Fits 25 d) : ∃ xs, Ints W v xs ∧ xs.length + 1 ≤ Rows.uptoBulk d := by
  obtain ⟨a0, len, cap, rfl⟩ := okWide_slice Try.underlying25 hval
  obtain ⟨fuel, hf⟩ := h
  exact ints_read (by simpa [Value.cells] using hf) hw

theorem ints_readw {H : Type} {enc : TypeId × Value → H} {W : World} {fuel : Nat} {c : Value} {d : DataW H} {p : List MemPlace}
    (hf : DataW.trod enc Try.prog W 0 (fun _ => true) true fuel 25 [c] = some (d, p)) (hw : Fits 25 d) : ∃ xs, Ints W c xs ∧ xs.length + 1 ≤ Rows.uptoBulk d ∧ ∀ z ∈ xs, (Lit.int .i64 z).wf = true := by
  rcases open_ints Try.underlying25 Try.underlying3 (by kernel_rfl) hf with ⟨hcs, hx⟩ | ⟨x, l, cap, zs, hcs, _, hl, hm, hz, hx, hcell, hwz⟩
  · simp only [List.cons.injEq, and_true] at hcs
    subst hcs
    simp only [Prod.mk.injEq] at hx
    obtain ⟨rfl, _⟩ := hx
    exact ⟨[], Ints.nil _, by simp [Rows.uptoBulk], by simp⟩
  · simp only [List.cons.injEq, and_true] at hcs
    subst hcs
    simp only [Prod.mk.injEq] at hx
    obtain ⟨rfl, _⟩ := hx
    simp only [if_true] at hz
    have hs := hw ((zs.take l).length * 8 + (zs.drop l).length * 8) (by
      simp only [DataW.weights, Try.underlying25, List.mem_cons]
      left
      rw [bytes_int]
      simp only [lits, List.length_map]
      omega)
    simp only [List.length_take, List.length_drop, reachBytes] at hs
    have hb := bulk_length (H := H) (lits .i64 (zs.take l))
    refine ⟨zs.take l, ⟨x, l, cap, rfl, by simp; omega, by omega, ⟨hl, by unfold maxLen at hm; omega, fun h => by cases h⟩, fun j hj => ?_⟩, ?_, fun z hz => hwz z (List.mem_of_mem_take hz)⟩
    · have hj' : j < l := by simp at hj; omega
      have hc := hcell j (by omega)
      obtain ⟨b, off, spot⟩ := x
      have hspot : spot = none := by simpa [Addr.add] using World.cell?_spot (hcell 0 (by omega))
      subst hspot
      rw [addr_add] at hc
      exact ⟨b, off, rfl, cell_lt hc, by rw [hc]; simp [nth, List.getD, hj']⟩
    · simp only [Rows.uptoBulk]
      simp only [lits, List.length_map] at hb
      simp only [lits] at hb ⊢
      omega

theorem ints_arg3 {H : Type} {enc : TypeId × Value → H} {W : World} {base : Nat} {v : Value} {d : DataW H} {p : List MemPlace}
    (hval : Value.okWide Try.prog W .any base 25 v) (h : DataW.Trod enc Try.prog W 0 (fun _ => true) true 25 v d p) (hw : Fits 25 d) : ∃ xs, Ints W v xs ∧ xs.length + 1 ≤ Rows.uptoBulk d ∧ ∀ z ∈ xs, (Lit.int .i64 z).wf = true := by
  obtain ⟨a0, len, cap, rfl⟩ := okWide_slice Try.underlying25 hval
  obtain ⟨fuel, hf⟩ := h
  exact ints_readw (by simpa [Value.cells] using hf) hw

theorem int_arg {H : Type} {enc : TypeId × Value → H} {W : World} {base : Nat} {v : Value} {d : DataW H} {p : List MemPlace}
    (hval : Value.okWide Try.prog W .any base 3 v) (h : DataW.Trod enc Try.prog W 0 (fun _ => true) true 3 v d p) : ∃ x, v = .int .i64 x ∧ 1 ≤ Rows.uptoBulk d := by
  obtain ⟨x, rfl, rfl, rfl, _⟩ := open_int Try.underlying3 hval h
  exact ⟨x, rfl, bulk_pos _⟩

theorem cells3 {w : World} {a : Addr} {cs : List Value} (h : w.cells? 0 a 3 = some cs) : ∃ c0 c1 c2, cs = [c0, c1, c2] ∧ w.cell? (a.add 0) = some c0 ∧ w.cell? (a.add 1) = some c1 ∧ w.cell? (a.add 2) = some c2 := by
  simp only [World.cells?, Nat.zero_le, if_true] at h
  simp only [show List.range 3 = [0, 1, 2] from rfl, List.mapM_cons, List.mapM_nil] at h
  cases h0 : w.cell? (a.add 0) with
  | none => simp [h0] at h
  | some c0 =>
    cases h1 : w.cell? (a.add 1) with
    | none => simp [h0, h1] at h
    | some c1 =>
      cases h2 : w.cell? (a.add 2) with
      | none => simp [h0, h1, h2] at h
      | some c2 =>
        simp [h0, h1, h2] at h
        exact ⟨c0, c1, c2, h.symm, rfl, rfl, rfl⟩

theorem cells_tran : Try.prog.cellsOf 37 = 3 := by kernel_rfl

theorem cells_int : Try.prog.cellsOf 3 = 1 := by kernel_rfl

theorem cells_ints : Try.prog.cellsOf 25 = 1 := by kernel_rfl

theorem cells_trans : Try.prog.cellsOf 22 = 1 := by kernel_rfl

theorem cells_net : Try.prog.cellsOf 24 = 2 := by kernel_rfl

theorem bytes_tran : Try.prog.bytesOf 37 = 56 := by kernel_rfl

theorem tran_one {H : Type} {enc : TypeId × Value → H} {W : World} {fuel : Nat} {c0 c1 c2 : Value} {d : DataW H} {p : List MemPlace}
    (hf : DataW.trod enc Try.prog W 0 (fun _ => true) true fuel 37 [c0, c1, c2] = some (d, p)) (hw : Fits 37 d) :
    ∃ t : TranL, IsTran W c0 c1 c2 t ∧ t.pre.length + t.post.length + 1 ≤ Rows.uptoBulk d := by
  obtain ⟨y0, y1, y2, n, hx, _, h0, h1, h2⟩ := trod_struct3 Try.underlying37 hf
  simp only [Prod.mk.injEq] at hx
  obtain ⟨rfl, _⟩ := hx
  simp only [cells_int, cells_ints, List.drop_zero, List.take_succ_cons, List.take_zero, List.drop_succ_cons] at h0 h1 h2
  have hw' : ∀ x, x ∈ y1.1.weights Try.prog 25 ∨ x ∈ y2.1.weights Try.prog 25 → x ≤ reachBytes := by
    intro x hx
    refine hw x ?_
    simp only [DataW.weights, Try.underlying37, DataW.weightsEach, List.map_cons, List.mem_append]
    rcases hx with hx | hx
    · exact .inr (.inl hx)
    · exact .inr (.inr (.inl hx))
  obtain ⟨l, e0, _, _⟩ := DataW.trod_int Try.underlying3 h0
  simp only [List.cons.injEq, and_true] at e0
  obtain ⟨xs, hxs, bx⟩ := ints_read h1 (fun x hx => hw' x (.inl hx))
  obtain ⟨ys, hys, bY⟩ := ints_read h2 (fun x hx => hw' x (.inr hx))
  refine ⟨⟨l, xs, ys⟩, ⟨e0, hxs, hys⟩, ?_⟩
  have := bulk_pos y0.1
  simp only [Rows.uptoBulk, Rows.uptoBulkAll]
  omega

theorem tranAt_range (len : Nat) (T : Nat → TranL) (j : Nat) (h : j < len) : tranAt ((List.range len).map T) j = T j := by
  simp [tranAt, List.getD, List.getElem?_map, List.getElem?_range h]

set_option maxRecDepth 4000 in
theorem trans_read {H : Type} {enc : TypeId × Value → H} {W : World} {fuel : Nat} {c : Value} {d : DataW H} {p : List MemPlace}
    (hf : DataW.trod enc Try.prog W 0 (fun _ => true) true fuel 22 [c] = some (d, p)) (hw : Fits 22 d) :
    ∃ ts, Trans W c ts ∧ ts.length + 1 ≤ Rows.uptoBulk d ∧ ∀ k, k < ts.length → (tranAt ts k).pre.length + (tranAt ts k).post.length + 1 ≤ Rows.uptoBulk d := by
  rcases open_slice Try.underlying22 hf with ⟨hcs, hx⟩ | ⟨a, len, cap, m, n, D, Pl, hcs, _, hl, hm, hmm, hx, hel⟩
  · simp only [List.cons.injEq, and_true] at hcs
    subst hcs
    simp only [Prod.mk.injEq] at hx
    obtain ⟨rfl, _⟩ := hx
    exact ⟨[], ⟨none, 0, 0, rfl, rfl, by omega, ⟨by omega, by omega, fun _ => rfl⟩, fun j hj => absurd hj (by simp)⟩, by simp [Rows.uptoBulk], fun k hk => absurd hk (by simp)⟩
  · simp only [List.cons.injEq, and_true] at hcs
    subst hcs
    simp only [Prod.mk.injEq] at hx
    obtain ⟨rfl, _⟩ := hx
    simp only [if_true] at hmm
    obtain rfl : cap = m := hmm.symm
    have hs := hw ((len + (cap - len)) * 56) (by
      simp only [DataW.weights, Try.underlying22, List.mem_cons]
      left
      rw [bytes_tran]
      simp)
    simp only [reachBytes] at hs
    have hone : ∀ i, i < len → ∃ t : TranL, (∃ b off c1 c2, a = ⟨b, off, none⟩ ∧ b < W.heap.size ∧ W.cell? ⟨b, off + i * 3, none⟩ = some (.int .i64 t.label) ∧ W.cell? ⟨b, off + i * 3 + 1, none⟩ = some c1 ∧ W.cell? ⟨b, off + i * 3 + 2, none⟩ = some c2 ∧ Ints W c1 t.pre ∧ Ints W c2 t.post) ∧
        t.pre.length + t.post.length + 1 ≤ Rows.uptoBulk (D i) := by
      intro i hi
      obtain ⟨cs', hc, ht⟩ := hel i (by omega)
      rw [cells_tran] at hc
      obtain ⟨c0, c1, c2, rfl, k0, k1, k2⟩ := cells3 hc
      have hmem : D i ∈ (List.range len).map D := List.mem_map.2 ⟨i, by simpa using hi, rfl⟩
      obtain ⟨t, ⟨e0, h1, h2⟩, hb⟩ := tran_one ht (fun x hx => hw x (by
        simp only [DataW.weights, Try.underlying22, List.mem_cons, List.mem_append]
        exact .inr (.inl (weights_part hmem hx))))
      obtain ⟨c0', _, _, _, z0, _, _⟩ : ∃ c0' c1' c2' : Value, ∃ _ : True, W.cell? (a.add 0) = some c0' ∧ True ∧ True := by
        obtain ⟨cs0, hc0, _⟩ := hel 0 (by omega)
        rw [cells_tran, Nat.zero_mul] at hc0
        have ha : a.add 0 = a := by simp [Addr.add]
        rw [ha] at hc0
        obtain ⟨x0, x1, x2, _, y0, _, _⟩ := cells3 hc0
        exact ⟨x0, x1, x2, trivial, y0, trivial, trivial⟩
      obtain ⟨b, off, spot⟩ := a
      have hspot : spot = none := by simpa [Addr.add] using World.cell?_spot z0
      subst hspot
      rw [addr_add, addr_add] at k0 k1 k2
      refine ⟨t, ⟨b, off, c1, c2, rfl, cell_lt k0, by rw [← e0]; simpa using k0, by simpa using k1, by simpa using k2, h1, h2⟩, hb⟩
    haveI : Inhabited TranL := ⟨noTran⟩
    obtain ⟨T, hT⟩ := choose_lt hone
    have hb1 := bulk_length (H := H) ((List.range len).map D)
    simp only [List.length_map, List.length_range] at hb1
    refine ⟨(List.range len).map T, ⟨some a, len, cap, rfl, by simp, by omega, ⟨hl, by unfold maxLen at hm; omega, fun h => by cases h⟩, fun j hj => ?_⟩, ?_, fun k hk => ?_⟩
    · have hj' : j < len := by simpa using hj
      rw [tranAt_range len T j hj']
      obtain ⟨⟨b, off, c1, c2, ha, r⟩, _⟩ := hT j hj'
      exact ⟨b, off, c1, c2, by rw [ha], r⟩
    · simp only [Rows.uptoBulk, List.length_map, List.length_range]; omega
    · have hk' : k < len := by simpa using hk
      rw [tranAt_range len T k hk']
      have h1 := (hT k hk').2
      have h2 : Rows.uptoBulk (D k) ≤ Rows.uptoBulkAll ((List.range len).map D) := bulk_part (List.mem_map.2 ⟨k, by simpa using hk', rfl⟩)
      simp only [Rows.uptoBulk]
      omega

theorem net_read {H : Type} {enc : TypeId × Value → H} {W : World} {base : Nat} {v : Value} {d : DataW H} {p : List MemPlace}
    (hval : Value.okWide Try.prog W .any base 24 v) (h : DataW.Trod enc Try.prog W 0 (fun _ => true) true 24 v d p) (hw : Fits 24 d) :
    ∃ n, Net W v n ∧ n.trans.length + 1 ≤ Rows.uptoBulk d ∧ ∀ k, k < n.trans.length → (tranAt n.trans k).pre.length + (tranAt n.trans k).post.length + 1 ≤ Rows.uptoBulk d := by
  obtain ⟨c0, c1, y0, y1, n, rfl, rfl, _, h0, h1⟩ := open_agg2 Try.underlying24 (by kernel_rfl) cells_net hval h
  obtain ⟨l, e0, _, _⟩ := DataW.trod_int Try.underlying3 h0
  simp only [List.cons.injEq, and_true] at e0
  subst e0
  obtain ⟨ts, hts, b1, b2⟩ := trans_read h1 (fun x hx => hw x (by
    simp only [DataW.weights, Try.underlying24, DataW.weightsEach, List.map_cons, List.mem_append]
    exact .inr (.inl hx)))
  refine ⟨⟨l, ts⟩, ⟨_, rfl, hts⟩, ?_, fun k hk => ?_⟩
  · simp only [Rows.uptoBulk, Rows.uptoBulkAll]; omega
  · have := b2 k hk
    simp only [Rows.uptoBulk, Rows.uptoBulkAll]; omega

end Go.Proofs.Ytakgppoeikcepaa
