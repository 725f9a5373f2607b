import Derived.Lib.TrailingZeros
import Derived.Laws.BitsAllLaws
import Derived.Test.YtakgppoeikcepaaGr00
import Derived.Maps.AppendAt
import Derived.Maps.RangeWalk
import Derived.WideKeyPair
import Derived.Maps.OwnSet
import Derived.DeepKeys3
import Derived.Lib.AppendZeros
import Derived.Lib.SliceRun
import Derived.Test.YtakgppoeikcepaaRows
import Derived.ProofKit
import Derived.OpenShut
import Derived.ShutString
import Derived.ChangeOld
import Derived.SizedLaws
import Derived.Lib.SmallJoins
import Derived.Deep.Strs
import Derived.Deep.Slices
/- Sets of numbers as words of 64 bits, plainly. -/
namespace Go.Proofs.Ytakgppoeikcepaa
open Go.Lib
set_option linter.unusedVariables false
set_option maxRecDepth 4000

theorem low_bit {x : Nat} (h0 : 0 < x) (hx : x < 18446744073709551616) : ∃ b, ctz 64 x = b ∧ b < 64 ∧ x.testBit b = true ∧ (∀ i, i < b → x.testBit i = false) ∧ ∀ i, (x &&& (x - 1)).testBit i = (x.testBit i && decide (i ≠ b)) := by
  obtain ⟨m, hm, hb⟩ := ctzFrom_spec 64 x h0 hx
  have e : ctz 64 x = ctzFrom 64 x := by unfold ctz; rw [if_neg (by omega)]
  obtain ⟨b, hbe⟩ : ∃ b, ctzFrom 64 x = b := ⟨_, rfl⟩
  rw [hbe] at hm hb e
  have hp : 0 < 2 ^ b := Nat.pow_pos (by omega)
  have hx1 : x - 1 = 2 ^ b * (2 * m) + (2 ^ b - 1) := by rw [hm, Nat.mul_add]; omega
  have t1 : ∀ i, x.testBit i = if i < b then false else (2 * m + 1).testBit (i - b) := by
    intro i
    have := Nat.testBit_two_pow_mul_add (2 * m + 1) (b := 0) (i := b) hp i
    rw [Nat.add_zero, ← hm] at this
    rw [this]; split <;> simp
  have t2 : ∀ i, (x - 1).testBit i = if i < b then (2 ^ b - 1).testBit i else (2 * m).testBit (i - b) := by
    intro i
    rw [hx1]
    exact Nat.testBit_two_pow_mul_add (2 * m) (by omega) i
  refine ⟨b, e, hb, by rw [t1, if_neg (by omega), Nat.sub_self]; simp, fun i hi => by rw [t1, if_pos hi], fun i => ?_⟩
  rw [Nat.testBit_and, t1, t2]
  by_cases h1 : i < b
  · simp [h1]
  · rw [if_neg h1, if_neg h1]
    by_cases h2 : i = b
    · subst h2; simp
    · obtain ⟨j, hj⟩ : ∃ j, i - b = j + 1 := ⟨i - b - 1, by omega⟩
      rw [hj, Nat.testBit_succ, Nat.testBit_succ, show (2 * m + 1) / 2 = m by omega, show (2 * m) / 2 = m by omega]
      simp [h2]

/-- A set: five words. -/
structure SetL where
  at_ : Nat → Nat
  fit : ∀ k, at_ k < 18446744073709551616
def SetL.has (s : SetL) (m : Nat) : Bool := (s.at_ (m / 64)).testBit (m % 64)
def noneS : SetL := ⟨fun _ => 0, fun _ => by omega⟩
def onlyS (m : Nat) : SetL := ⟨fun k => if k = m / 64 then 2 ^ (m % 64) else 0, fun k => by
  split
  · exact Nat.lt_of_lt_of_le (Nat.pow_lt_pow_right (by omega) (Nat.mod_lt _ (by omega))) (by decide : 2 ^ 64 ≤ 18446744073709551616)
  · omega⟩
def orS (s t : SetL) : SetL := ⟨fun k => s.at_ k ||| t.at_ k, fun k => by
  have := Nat.or_lt_two_pow (n := 64) (s.fit k) (t.fit k); exact this⟩
def andS (s t : SetL) : SetL := ⟨fun k => s.at_ k &&& t.at_ k, fun k => Nat.lt_of_le_of_lt Nat.and_le_left (s.fit k)⟩
def emptyS (s : SetL) : Bool := decide (s.at_ 0 = 0 ∧ s.at_ 1 = 0 ∧ s.at_ 2 = 0 ∧ s.at_ 3 = 0 ∧ s.at_ 4 = 0)
def eqS (s t : SetL) : Bool := (List.range 5).all fun j => (s.at_ j : Int) == (t.at_ j : Int)
/-- The same as far as five words go. -/
def SameS (s t : SetL) : Prop := ∀ k, k < 5 → s.at_ k = t.at_ k

theorem has_none (m : Nat) : noneS.has m = false := by simp [SetL.has, noneS]
theorem has_only (m j : Nat) : (onlyS m).has j = decide (j = m) := by
  unfold SetL.has onlyS
  simp only
  by_cases h : j / 64 = m / 64
  · rw [if_pos h, Nat.testBit_two_pow]
    by_cases h2 : m % 64 = j % 64
    · simp only [h2, decide_true]; rw [decide_eq_true]; omega
    · rw [decide_eq_false h2, decide_eq_false]; intro e; subst e; exact h2 rfl
  · rw [if_neg h, Nat.zero_testBit, decide_eq_false]; intro e; subst e; exact h rfl
theorem has_or (s t : SetL) (m : Nat) : (orS s t).has m = (s.has m || t.has m) := by unfold SetL.has orS; simp only [Nat.testBit_or]
theorem has_and (s t : SetL) (m : Nat) : (andS s t).has m = (s.has m && t.has m) := by unfold SetL.has andS; simp only [Nat.testBit_and]
theorem SameS.has {s t : SetL} (h : SameS s t) {m : Nat} (hm : m < 320) : s.has m = t.has m := by unfold SetL.has; rw [h _ (by omega)]
theorem SameS.of_has {s t : SetL} (h : ∀ m, m < 320 → s.has m = t.has m) : SameS s t := by
  intro k hk
  apply Nat.eq_of_testBit_eq
  intro i
  by_cases hi : i < 64
  · have := h (k * 64 + i) (by omega)
    unfold SetL.has at this
    rwa [show (k * 64 + i) / 64 = k by omega, show (k * 64 + i) % 64 = i by omega] at this
  · have e : (18446744073709551616 : Nat) ≤ 2 ^ i := Nat.le_trans (by decide : 18446744073709551616 ≤ 2 ^ 64) (Nat.pow_le_pow_right (by omega) (by omega))
    rw [Nat.testBit_lt_two_pow (Nat.lt_of_lt_of_le (s.fit k) e), Nat.testBit_lt_two_pow (Nat.lt_of_lt_of_le (t.fit k) e)]
theorem emptyS_iff (s : SetL) : emptyS s = true ↔ ∀ m, m < 320 → s.has m = false := by
  unfold emptyS
  rw [decide_eq_true_iff]
  constructor
  · rintro ⟨h0, h1, h2, h3, h4⟩ m hm
    have hk : m / 64 < 5 := by omega
    have : s.at_ (m / 64) = 0 := by
      obtain h | h | h | h | h : m / 64 = 0 ∨ m / 64 = 1 ∨ m / 64 = 2 ∨ m / 64 = 3 ∨ m / 64 = 4 := by omega
      all_goals (rw [h]; assumption)
    unfold SetL.has
    rw [this, Nat.zero_testBit]
  · intro h
    have : SameS s noneS := SameS.of_has fun m hm => by rw [h m hm, has_none]
    exact ⟨this 0 (by omega), this 1 (by omega), this 2 (by omega), this 3 (by omega), this 4 (by omega)⟩
theorem eqS_iff (s t : SetL) : eqS s t = true ↔ SameS s t := by
  unfold eqS SameS
  simp only [List.all_eq_true, List.mem_range, beq_iff_eq]
  exact ⟨fun h k hk => by have := h k hk; omega, fun h k hk => by rw [h k hk]⟩
theorem eqS_none (s : SetL) : eqS s noneS = emptyS s := by
  rw [Bool.eq_iff_iff, eqS_iff, emptyS_iff]
  exact ⟨fun h m hm => by rw [h.has hm, has_none], fun h => SameS.of_has fun m hm => by rw [h m hm, has_none]⟩

end Go.Proofs.Ytakgppoeikcepaa

/- What a reading hangs on: the blocks that must stand. -/
namespace Go.Proofs.Ytakgppoeikcepaa
open Go.RowKit
set_option linter.unusedVariables false
set_option maxRecDepth 4000

/-- It holds here, and wherever the blocks of D that are here stand as they do. -/
def On (D : Nat → Prop) (w : World) (R : World → Prop) : Prop :=
  ∀ w' : World, w.heap.size ≤ w'.heap.size → (∀ k, k < w.heap.size → D k → w'.heap[k]? = w.heap[k]?) → R w'

theorem On.now {D : Nat → Prop} {w : World} {R : World → Prop} (h : On D w R) : R w := h w (Nat.le_refl _) fun _ _ _ => rfl

theorem On.to {D : Nat → Prop} {w w' : World} {R : World → Prop} (h : On D w R) (hs : w.heap.size ≤ w'.heap.size) (hk : ∀ k, k < w.heap.size → D k → w'.heap[k]? = w.heap[k]?) : On D w' R :=
  fun w2 h2 hk2 => h w2 (Nat.le_trans hs h2) fun k hlt hD => (hk2 k (Nat.lt_of_lt_of_le hlt hs) hD).trans (hk k hlt hD)

theorem On.weaken {D D' : Nat → Prop} {w : World} {R : World → Prop} (h : On D w R) (hD : ∀ k, k < w.heap.size → D k → D' k) : On D' w R :=
  fun w2 h2 hk => h w2 h2 fun k hlt hd => hk k hlt (hD k hlt hd)

theorem On.mono {D : Nat → Prop} {w : World} {R R' : World → Prop} (h : On D w R) (hR : ∀ w', R w' → R' w') : On D w R' := fun w2 h2 hk => hR _ (h w2 h2 hk)

theorem On.below {D : Nat → Prop} {w w' : World} {R : World → Prop} (h : On D w R) (hb : Below w.heap.size w w') : On D w' R := h.to hb.size fun k hlt _ => hb.block k hlt

theorem On.grown {D : Nat → Prop} {w w' : World} {R : World → Prop} {row : Option Nat} (h : On D w R) (hg : w.grownBy w' row) (hD : ∀ k, k < w.heap.size → D k → some k ≠ row) : On D w' R :=
  h.to hg.size fun k hlt hd => hg.block k hlt (hD k hlt hd)

theorem On.set {D : Nat → Prop} {w : World} {R : World → Prop} (h : On D w R) {a : Addr} (ha : ¬ D a.block) (u : Value) : On D (w.setCell a u) R :=
  h.to (by simp [World.setCell]) fun k _ hd => Below.heap_setCell w a u k (fun e => ha (e ▸ hd))

/-- Readings that are kept by whatever leaves all old blocks as they were. -/
theorem on_all {w : World} {R : World → Prop} (h : ∀ w', w.heap.size ≤ w'.heap.size → (∀ k, k < w.heap.size → w'.heap[k]? = w.heap[k]?) → R w') : On (fun _ => True) w R := fun w' hs hk => h w' hs fun k hlt => hk k hlt trivial

theorem cell_kept {w w' : World} {p : Addr} (h : w'.heap[p.block]? = w.heap[p.block]?) : w'.cell? p = w.cell? p := World.cell?_of_block h

/-- The row that the call itself has made hangs on blocks that were made by it. -/
theorem ownsRow_on {B : Nat} {w : World} {e : TypeId} {size : Nat} {v : Value} {n : Nat} {xs : List Value} (h : w.ownsRow B e size v n xs) : On (fun k => v.ownBlock = some k ∧ B ≤ k) w (fun w' => w'.ownsRow B e size v n xs) := by
  intro w' hs hk
  refine ⟨h.1, ?_⟩
  rcases h.2 with hn | ⟨g, cap, cur, rfl, hb, hgg, rest⟩
  · exact .inl hn
  · refine .inr ⟨g, cap, cur, rfl, hb, ?_, rest⟩
    rw [hk g (Array.getElem?_eq_some_iff.1 hgg).1 ⟨rfl, hb⟩]
    exact hgg

theorem ownsRow_ints {B : Nat} {wr : World} {v : Value} {zs : List Int} (hown : wr.ownsRow B 3 1 v zs.length (zs.map (Value.int .i64))) (hl : zs.length ≤ 17592186044416) : Ints wr v zs := by
  have hown0 := hown
  obtain ⟨_, hcase⟩ := hown
  rcases hcase with ⟨rfl, h0⟩ | ⟨g, cap', cur, rfl, hg, hh, hn, hcap, hsz, htake⟩
  · exact ⟨none, zs.length, 0, by rw [h0], rfl, hl, ⟨by omega, by omega, fun _ => rfl⟩, fun j hj => absurd hj (by omega)⟩
  · refine ⟨_, _, _, rfl, rfl, hl, ⟨hn, by unfold maxLen at hcap; omega, fun h => by cases h⟩, fun j hj => ⟨g, 0, rfl, ?_, ?_⟩⟩
    · rcases Nat.lt_or_ge g wr.heap.size with h | h
      · exact h
      · rw [Array.getElem?_eq_none h] at hh; cases hh
    · rw [Nat.zero_add, hown0.cellAt j (by omega)]
      simp [nth, List.getD, List.getElem?_eq_getElem hj]

theorem Own.on {B : Nat} {w wr : World} {v : Value} {zs : List Int} (h : Own B w wr v zs) (hl : zs.length ≤ 17592186044416) : On (fun k => B ≤ k) wr (fun w' => Ints w' v zs) :=
  ((ownsRow_on h.1).weaken fun k _ hk => hk.2).mono fun w' h' => ownsRow_ints h' hl

theorem Own.slice {B : Nat} {w wr : World} {v : Value} {zs : List Int} (h : Own B w wr v zs) : ∃ a l c, v = .slice a l c := by
  rcases h.1.2 with ⟨rfl, _⟩ | ⟨g, cap', cur, rfl, _⟩
  · exact ⟨_, _, _, rfl⟩
  · exact ⟨_, _, _, rfl⟩

theorem ownsRow_slice {B : Nat} {w : World} {e : TypeId} {size : Nat} {v : Value} {n : Nat} {xs : List Value} (h : w.ownsRow B e size v n xs) : ∃ a l c, v = .slice a l c := by
  rcases h.2 with ⟨rfl, _⟩ | ⟨g, cap', cur, rfl, _⟩
  · exact ⟨_, _, _, rfl⟩
  · exact ⟨_, _, _, rfl⟩

theorem ownsRow_lt {B : Nat} {w : World} {e : TypeId} {size : Nat} {v : Value} {n : Nat} {xs : List Value} (h : w.ownsRow B e size v n xs) {k : Nat} (hk : v.ownBlock = some k) : B ≤ k ∧ k < w.heap.size := h.lt k hk

/-- append of one element of several cells onto a row that the call itself has made, where it lies. -/
theorem wp_append_at {P : Program} {o : Oper} {a : Act} {K : Act → World → Prop} {Q : Exit → Act → World → Prop} {Y : Nat → Option Bool} (w : World) (hwt : Region.wanted o Y = true) (s x : Operand) (t : TypeId)
    (ho : o.op = .call { callee := .builtin .append, args := #[s, x], argTypes := #[t, t] })
    (base : Nat) (e : TypeId) (i : TypeInfo) (z : Value) (size bytes : Nat) (ht : P.underlying t = some (.slice e)) (hi : P.info? e = some i) (hz : i.zero = some z)
    (hsize : i.size = size) (hby : i.bytes = bytes) (hzs : z.cells.size = size) (hsz : 0 < size)
    (v : Value) (n : Nat) (xs : List Value) (hs : a.eval s = v) (hown : w.ownsRow base e size v n xs)
    (ad : Addr) (m c : Nat) (news : List Value) (hx : a.eval x = .slice (some ad) m c) (hl : news.length = m * size) (hnews : ∀ j u, news[j]? = some u → w.cell? (ad.add j) = some u) (h1 : ∀ u ∈ news, u.oneCell' = true)
    (h63 : n + m ≤ maxLen) (hbytes : (n + m) * bytes ≤ 140737488355328) (hbase : base ≤ w.heap.size)
    (h : ∀ v' w', w'.ownsRow base e size v' (n + m) (xs ++ news) → w.grownBy w' v.ownBlock → (v'.ownBlock = v.ownBlock ∨ v'.ownBlock = some w.heap.size) → K (a.put o.dst v') w') :
    if Region.wanted o Y = true then Oper.wp P o a w K Q else K (a.put o.dst undef) w := by
  rw [if_pos hwt]
  obtain ⟨v', w', hr, h2, h3, h4, h5⟩ := run_append_own_at (P := P) w base t o.type e i z size bytes ht hi hz hsize hby hzs hsz v n xs hown ad m c news hl hnews h1 h63 hbytes hbase
  unfold Oper.wp execOp
  simp only [ho, resolve, invoke, builtin, Sem.run_bind, Sem.run_pure, Result.andThen_ok, List.map_toArray, List.map_cons, List.map_nil, hs, hx, hr]
  exact h v' w' h2 h3 h5

/-- append of one number, inside a region that draws its order. -/
theorem wpr_append_int {o : Oper} {a : Act} {K : Act → World → Prop} {Q : Exit → Act → World → Prop} {Y : Nat → Option Bool} (hwt : Region.wanted o Y = true) (s x : Operand)
    (ho : o.op = .call { callee := .builtin .append, args := #[s, x], argTypes := #[25, 25] }) (B : Nat) (w wr : World) (v : Value) (zs : List Int) (z : Int) (hG : Own B w wr v zs)
    (hs : a.eval s = v) (hx : a.eval x = .slice (some ⟨wr.heap.size, 0, none⟩) 1 1) (hl : zs.length + 1 ≤ 17592186044416)
    (h : ∀ v' w', Own B w w' v' (zs ++ [z]) → K (a.put o.dst v') w') :
    if Region.wanted o Y = true then Oper.wp Try.prog o a (wr.alloc (.cells #[.int .i64 z] 3)) K Q else K (a.put o.dst undef) (wr.alloc (.cells #[.int .i64 z] 3)) := by
  obtain ⟨i0, hi, hz0, hz1, hz2⟩ := info_parts info_int
  obtain ⟨hown, hb, hB⟩ := hG
  refine wp_append_at _ hwt s x 25 ho B 3 i0 (.int .i64 0) 1 8 Try.underlying25 hi hz0 hz1 hz2 rfl (by decide) v zs.length _ hs (hown.alloc _) ⟨wr.heap.size, 0, none⟩ 1 1 [.int .i64 z] hx rfl ?_ ?_ ?_ ?_ ?_ ?_
  · intro j u hj
    match j, hj with
    | 0, hj => simp at hj; subst hj; simp [Addr.add]
  · intro u hu; simp at hu; subst hu; rfl
  · unfold maxLen; omega
  · omega
  · simp; omega
  · intro v' w' hown' hgrow _
    refine h v' w' ⟨by simpa using hown', (hb.alloc hB _).grown hgrow (by simp; omega) (fun k hk => (hown.lt k hk).1), ?_⟩
    have := hgrow.size; simp at this; omega

end Go.Proofs.Ytakgppoeikcepaa

/- A row of ints that the call itself made, written at any index. -/
namespace Go.Proofs.Ytakgppoeikcepaa
open Go.RowKit
set_option linter.unusedVariables false
set_option maxRecDepth 4000

/-- A row of n ints that the call itself made, at block B, that holds f; nothing older has turned. -/
structure RowAt (B : Nat) (w wr : World) (n : Nat) (f : Nat → Int) : Prop where
  cells : ∀ j, j < n → wr.cell? ⟨B, j, none⟩ = some (.int .i64 (f j))
  frozen : ∀ j, j < n → wr.frozen? ⟨B, j, none⟩ = false
  below : Below B w wr
  size : B < wr.heap.size

theorem RowAt.put {B : Nat} {w wr : World} {n k : Nat} {f g : Nat → Int} (h : RowAt B w wr n f) (hk : k < n) {x : Int} (hx : g k = x) (hg : ∀ j, j < n → j ≠ k → g j = f j) :
    RowAt B w (wr.setCell ⟨B, k, none⟩ (.int .i64 x)) n g := by
  refine ⟨fun j hj => ?_, fun j hj => by rw [World.frozen?_setCell]; exact h.frozen j hj, h.below.setCell (Nat.le_refl _) _, by simpa [World.setCell] using h.size⟩
  by_cases e : j = k
  · subst e
    rw [World.cell?_setCell_same _ _ _ (h.cells j hj), hx]
  · rw [World.cell?_setCell_other _ _ _ _ (by intro q; apply e; injection q with _ q2; exact q2.symm), h.cells j hj, hg j hj e]

theorem RowAt.same {B : Nat} {w wr : World} {n : Nat} {f g : Nat → Int} (h : RowAt B w wr n f) (hg : ∀ j, j < n → g j = f j) : RowAt B w wr n g :=
  ⟨fun j hj => by rw [h.cells j hj, hg j hj], h.frozen, h.below, h.size⟩

theorem RowAt.to {B : Nat} {w wr w2 : World} {n : Nat} {f : Nat → Int} (h : RowAt B w wr n f) (hb : Below wr.heap.size wr w2) : RowAt B w w2 n f :=
  ⟨fun j hj => by rw [hb.cell (p := ⟨B, j, none⟩) h.size]; exact h.cells j hj, fun j hj => by rw [hb.frozen (p := ⟨B, j, none⟩) h.size]; exact h.frozen j hj, h.below.trans (hb.mono (Nat.le_of_lt h.size)), Nat.lt_of_lt_of_le h.size hb.size⟩

theorem RowAt.ints {B : Nat} {w wr : World} {n : Nat} {f : Nat → Int} (h : RowAt B w wr n f) {zs : List Int} (hl : zs.length = n) (hz : ∀ j, j < n → nth zs j = f j) (hn : n ≤ 17592186044416) {cap : Nat} (hc : n ≤ cap) (hc2 : cap ≤ 9223372036854775807) :
    Ints wr (.slice (some ⟨B, 0, none⟩) n cap) zs :=
  ⟨_, _, _, rfl, hl, hn, ⟨hc, hc2, fun h => by cases h⟩, fun j hj => ⟨B, 0, rfl, h.size, by rw [Nat.zero_add, h.cells j (by omega), hz j (by omega)]⟩⟩

theorem rowAt_new {w w1 : World} {n : Nat} (hb : Below w.heap.size w w1) (hs : w.heap.size < w1.heap.size) (hc : ∀ j, j < n → w1.cell? ⟨w.heap.size, j, none⟩ = some (.int .i64 0) ∧ w1.frozen? ⟨w.heap.size, j, none⟩ = false)
    {f : Nat → Int} (hf : ∀ j, j < n → f j = 0) : RowAt w.heap.size w w1 n f :=
  ⟨fun j hj => by rw [hf j hj]; exact (hc j hj).1, fun j hj => (hc j hj).2, hb, hs⟩

theorem RowAt.on {B : Nat} {w wr : World} {n : Nat} {f : Nat → Int} (h : RowAt B w wr n f) {zs : List Int} (hl : zs.length = n) (hz : ∀ j, j < n → nth zs j = f j) (hn : n ≤ 17592186044416) {cap : Nat} (hc : n ≤ cap) (hc2 : cap ≤ 9223372036854775807) :
    On (fun k => B ≤ k) wr (fun w' => Ints w' (.slice (some ⟨B, 0, none⟩) n cap) zs) := by
  intro w' hs hk
  exact ⟨_, _, _, rfl, hl, hn, ⟨hc, hc2, fun h => by cases h⟩, fun j hj => ⟨B, 0, rfl, Nat.lt_of_lt_of_le h.size hs, by rw [Nat.zero_add, World.cell?_of_block (a := ⟨B, j, none⟩) (hk B h.size (Nat.le_refl _)), h.cells j (by omega), hz j (by omega)]⟩⟩

/-- A row of as many as a number says. -/
theorem make_intsZ (w : World) (n : Nat) (z : Int) (hz : z = n) (hn : n ≤ 17592186044416) :
    ∃ w1, (Instr.makeSlice 25 (.int .i64 z) (.int .i64 z)).run Try.prog w = .ok (.slice (some ⟨w.heap.size, 0, none⟩) n n) w1 ∧ RowAt w.heap.size w w1 n (fun _ => 0) := by
  subst hz
  obtain ⟨w1, h1, h2, h3, h4⟩ := make_ints w n hn
  exact ⟨w1, h1, rowAt_new h2 h3 h4 fun _ _ => rfl⟩

end Go.Proofs.Ytakgppoeikcepaa

/- Sets: maps of struct{}, over whatever keys. -/
namespace Go.Proofs.Ytakgppoeikcepaa
open Go.RowKit
open Go.Maps (Keyed)
set_option linter.unusedVariables false
set_option maxRecDepth 4000

/-- What a type of keys is: the values, what they read as, which of them there are. -/
structure KeyT {α : Type} (K : TypeId) (mk : α → Value) (lit : α → Lit) (ok : α → Prop) : Prop where
  keyed : Keyed Try.prog K
  key : ∀ x, ok x → keyOf Try.prog K (mk x) = some (lit x)
  inv : ∀ v l, keyOf Try.prog K v = some l → ∃ x, v = mk x ∧ l = lit x ∧ ok x
  inj : ∀ x y, mk x = mk y → x = y

/-- Block b is a set of at most n keys: these. -/
def SetA {α : Type} (K : TypeId) (lit : α → Lit) (ok : α → Prop) (w : World) (b n : Nat) (S : α → Prop) : Prop :=
  ∃ D : DataW Unit, w.ownsMap Try.prog K unitElem b n D ∧ ∀ l, Maps.has D l = true ↔ ∃ x, ok x ∧ S x ∧ l = lit x
section
variable {α : Type} {K : TypeId} {mk : α → Value} {lit : α → Lit} {ok : α → Prop}
theorem SetA.lt {w : World} {b n : Nat} {S : α → Prop} (h : SetA K lit ok w b n S) : b < w.heap.size := by obtain ⟨D, h1, _⟩ := h; exact h1.lt
theorem SetA.kept {w w' : World} {b n : Nat} {S : α → Prop} {row : Option Nat} (h : SetA K lit ok w b n S) (hg : w.grownBy w' row) (hne : some b ≠ row) : SetA K lit ok w' b n S := by
  obtain ⟨D, h1, h2⟩ := h; exact ⟨D, h1.kept hg hne, h2⟩
theorem SetA.below {w w' : World} {b n : Nat} {S : α → Prop} (h : SetA K lit ok w b n S) (hb : Below w.heap.size w w') : SetA K lit ok w' b n S := by
  have hlt := h.lt
  obtain ⟨D, ⟨es, clock, h0, F, hs, hD⟩, h2⟩ := h
  exact ⟨D, ⟨es, clock, (hb.block b hlt).trans h0, F, hs, hD⟩, h2⟩
theorem SetA.block {w w' : World} {b n : Nat} {S : α → Prop} (h : SetA K lit ok w b n S) (hb : w'.heap[b]? = w.heap[b]?) : SetA K lit ok w' b n S := by
  obtain ⟨D, ⟨es, clock, h0, F, hs, hD⟩, h2⟩ := h
  exact ⟨D, ⟨es, clock, hb.trans h0, F, hs, hD⟩, h2⟩
theorem setA_made (w : World) : SetA K lit ok (w.alloc (.map #[] 0)) w.heap.size 0 (fun _ : α => False) :=
  ⟨.map [], World.ownsMap_made w Try.prog K unitElem, fun l => by simp [Maps.has]⟩
theorem SetA.same {w : World} {b n : Nat} {S S' : α → Prop} (h : SetA K lit ok w b n S) (hs : ∀ x, ok x → (S x ↔ S' x)) : SetA K lit ok w b n S' := by
  obtain ⟨D, h1, h2⟩ := h
  refine ⟨D, h1, fun l => (h2 l).trans ⟨?_, ?_⟩⟩
  · rintro ⟨x, hx, hS, e⟩; exact ⟨x, hx, (hs x hx).1 hS, e⟩
  · rintro ⟨x, hx, hS, e⟩; exact ⟨x, hx, (hs x hx).2 hS, e⟩
theorem setA_has {S : α → Prop} {D : DataW Unit} (T : KeyT K mk lit ok) (h2 : ∀ l, Maps.has D l = true ↔ ∃ x, ok x ∧ S x ∧ l = lit x) {x : α} (hx : ok x) : Maps.has D (lit x) = true ↔ S x := by
  rw [h2]
  constructor
  · rintro ⟨y, hy, hS, e⟩
    rw [T.inj x y (T.keyed.inj (T.key x hx) (by rw [e]; exact T.key y hy))]; exact hS
  · intro hS; exact ⟨x, hx, hS, rfl⟩

/-- 'm[x] = struct{}{}'. -/
theorem wp_set_add (T : KeyT K mk lit ok) {t e : TypeId} (ht : Try.prog.underlying t = some (.map K e)) {ops : Array Oper} {rest : List Oper} {o : Oper} {a : Act} {Q : Exit → Act → World → Prop} (hgd : o.guard = none) (m y u : Operand)
    (ho : o.op = .mapUpdate t m y u) (w : World) (b n : Nat) (S : α → Prop) (x : α) (h : SetA K lit ok w b n S) (hx : ok x) (hn : n < maxLen) (hm : a.eval m = .map (some b)) (hy : a.eval y = mk x) (hu : a.eval u = .agg #[])
    (hK : ∀ w', SetA K lit ok w' b (n + 1) (fun z => S z ∨ z = x) → w.grownBy w' (some b) → ∀ v, wpList Try.prog ops Q rest (a.put o.dst v) w') : wpList Try.prog ops Q (o :: rest) a w := by
  obtain ⟨D, h1, h2⟩ := h
  refine wpList_plain hgd fun K' hK' => ?_
  obtain ⟨w', hrun, r1, r2⟩ := h1.update T.keyed ht hn (T.key x hx) unitElem_mk
  unfold Oper.wp
  simp [execOp, ho, hm, hy, hu, hrun, Result.andThen]
  refine hK' _ _ (hK w' ⟨_, r1, fun l => ?_⟩ r2 _)
  have hkl : WideAt.IsKeyLit (lit x) := T.keyed.key (T.key x hx)
  by_cases e : l = lit x
  · subst e
    rw [Maps.has_put_same h1.isMap hkl]
    exact ⟨fun _ => ⟨x, hx, .inr rfl, rfl⟩, fun _ => rfl⟩
  · rw [Maps.has_put_other e, h2]
    constructor
    · rintro ⟨z, hz, hS, r⟩; exact ⟨z, hz, .inl hS, r⟩
    · rintro ⟨z, hz, hS | rfl, r⟩
      · exact ⟨z, hz, hS, r⟩
      · exact absurd r e
end

theorem types_some : ∃ m, Try.prog.types.size = m + 1 := ⟨Try.prog.types.size - 1, by have : 0 < Try.prog.types.size := of_decide_eq_true (by kernel_rfl); omega⟩

/-- Numbers as keys. -/
def okI (x : Int) : Prop := (Lit.int .i64 x).wf = true
theorem okI_of {x : Int} (h : -9223372036854775808 ≤ x ∧ x ≤ 9223372036854775807) : okI x := by
  unfold okI
  simp [Lit.wf, IntKind.min, IntKind.max, IntKind.signed, IntKind.bits]
  omega
theorem keyI : KeyT 3 (Value.int .i64) (Lit.int .i64) okI where
  keyed := Maps.int_keyed Try.underlying3
  key x hx := Maps.keyOf_int_mk Try.underlying3 hx
  inv v l h := by obtain ⟨x, e1, e2, hw⟩ := Maps.keyOf_int_inv Try.underlying3 h; exact ⟨x, e1, e2, hw⟩
  inj x y e := by injection e

end Go.Proofs.Ytakgppoeikcepaa

/- Maps from keys to whatever values: what they say, and what 'm[k]', 'm[k] = v' do. -/
namespace Go.Proofs.Ytakgppoeikcepaa
open Go.RowKit
open Go.Maps (Keyed)
set_option linter.unusedVariables false
set_option maxRecDepth 4000

/-- An element is read as itself. -/
def heldE (v : Value) : Option (DataW Value × List MemPlace) := some (.held v, [])
theorem heldE_inv {v : Value} {d : DataW Value} {ps : List MemPlace} (h : heldE v = some (d, ps)) : d = .held v := by
  unfold heldE at h
  injection h with h
  injection h with h _
  exact h.symm

/-- What a type of keys is. -/
structure KeyW {α : Type} (K : TypeId) (mk : α → Value) (lit : α → Lit) (ok : α → Prop) : Prop where
  keyed : Keyed Try.prog K
  key : ∀ x, ok x → keyOf Try.prog K (mk x) = some (lit x)
  inj : ∀ x y, ok x → ok y → lit x = lit y → x = y

/-- Block b is a map of at most n keys: f says what stands there. -/
def MapA {α : Type} (K : TypeId) (lit : α → Lit) (ok : α → Prop) (w : World) (b n : Nat) (f : α → Option Value) : Prop :=
  ∃ D : DataW Value, w.ownsMap Try.prog K heldE b n D ∧ (∀ x, ok x → Maps.has D (lit x) = (f x).isSome) ∧ ∀ x, ok x → ∀ zd, D.atKey (lit x) zd = match f x with | some v => .held v | none => zd
section
variable {α : Type} {K : TypeId} {mk : α → Value} {lit : α → Lit} {ok : α → Prop} {w : World} {b n : Nat} {f : α → Option Value}
theorem MapA.lt (h : MapA K lit ok w b n f) : b < w.heap.size := by obtain ⟨D, h1, _⟩ := h; exact h1.lt
theorem MapA.mono {n' : Nat} (h : MapA K lit ok w b n f) (hn : n ≤ n') : MapA K lit ok w b n' f := by obtain ⟨D, h1, h2⟩ := h; exact ⟨D, h1.mono hn, h2⟩
theorem MapA.kept {w' : World} {row : Option Nat} (h : MapA K lit ok w b n f) (hg : w.grownBy w' row) (hne : some b ≠ row) : MapA K lit ok w' b n f := by
  obtain ⟨D, h1, h2⟩ := h; exact ⟨D, h1.kept hg hne, h2⟩
theorem MapA.block {w' : World} (h : MapA K lit ok w b n f) (hb : w'.heap[b]? = w.heap[b]?) : MapA K lit ok w' b n f := by
  obtain ⟨D, ⟨es, clock, h0, F, hs, hD⟩, h2⟩ := h
  exact ⟨D, ⟨es, clock, hb.trans h0, F, hs, hD⟩, h2⟩
theorem MapA.below {w' : World} (h : MapA K lit ok w b n f) (hb : Below w.heap.size w w') : MapA K lit ok w' b n f := h.block (hb.block b h.lt)
theorem MapA.setCell (h : MapA K lit ok w b n f) {a : Addr} (ha : b ≠ a.block) (u : Value) : MapA K lit ok (w.setCell a u) b n f := h.block (RowKit.Below.heap_setCell _ _ _ _ ha)
theorem mapA_made (w : World) : MapA K lit ok (w.alloc (.map #[] 0)) w.heap.size 0 (fun _ : α => none) :=
  ⟨.map [], World.ownsMap_made w Try.prog K heldE, fun x _ => by simp [Maps.has], fun x _ zd => by simp [DataW.atKey]⟩
theorem MapA.same {f' : α → Option Value} (h : MapA K lit ok w b n f) (hf : ∀ x, ok x → f x = f' x) : MapA K lit ok w b n f' := by
  obtain ⟨D, h1, h2, h3⟩ := h
  exact ⟨D, h1, fun x hx => by rw [← hf x hx]; exact h2 x hx, fun x hx zd => by rw [← hf x hx]; exact h3 x hx zd⟩

/-- 'm[x] = v'. -/
theorem MapA.put (T : KeyW K mk lit ok) {t e : TypeId} (ht : Try.prog.underlying t = some (.map K e)) (h : MapA K lit ok w b n f) (hn : n < maxLen) {x : α} (hx : ok x) (v : Value) :
    ∃ w', (Instr.mapUpdate t (.map (some b)) (mk x) v).run Try.prog w = .ok () w' ∧ (∀ f', f' x = some v → (∀ y, y ≠ x → f' y = f y) → MapA K lit ok w' b (n + 1) f') ∧ w.grownBy w' (some b) := by
  obtain ⟨D, h1, h2, h3⟩ := h
  obtain ⟨w', hrun, r1, r2⟩ := h1.update T.keyed ht hn (T.key x hx) (show heldE v = some (.held v, []) from rfl)
  have hk : WideAt.IsKeyLit (lit x) := T.keyed.key (T.key x hx)
  refine ⟨w', hrun, fun f' e1 e2 => ⟨_, r1, fun y hy => ?_, fun y hy zd => ?_⟩, r2⟩
  · by_cases e : y = x
    · subst e; rw [Maps.has_put_same h1.isMap hk, e1]; rfl
    · have hne : lit y ≠ lit x := fun q => e (T.inj y x hy hx q)
      rw [Maps.has_put_other hne, e2 y e]; exact h2 y hy
  · by_cases e : y = x
    · subst e; rw [Maps.atKey_put_same h1.isMap hk, e1]
    · have hne : lit y ≠ lit x := fun q => e (T.inj y x hy hx q)
      rw [Maps.atKey_put_other hne, e2 y e]; exact h3 y hy zd
/-- 'm[x]'. -/
theorem MapA.look (T : KeyW K mk lit ok) {t e : TypeId} (ht : Try.prog.underlying t = some (.map K e)) {z : Value} (hz : (zeroValue e).run Try.prog w = .ok z w) (h : MapA K lit ok w b n f) {x : α} (hx : ok x) :
    (Instr.lookup t (.map (some b)) (mk x) false).run Try.prog w = .ok ((f x).getD z) w := by
  obtain ⟨D, h1, h2, h3⟩ := h
  obtain ⟨v, ps, hrun, hv⟩ := h1.lookup T.keyed ht hz (show heldE z = some (.held z, []) from rfl) (T.key x hx)
  rw [hrun]
  have := heldE_inv hv
  rw [h3 x hx] at this
  cases hf : f x with
  | none => rw [hf] at this; simp only at this; injection this with this; rw [this]; rfl
  | some u => rw [hf] at this; simp only at this; injection this with this; rw [this]; rfl
/-- 'v, ok := m[x]'. -/
theorem MapA.look_ok (T : KeyW K mk lit ok) {t e : TypeId} (ht : Try.prog.underlying t = some (.map K e)) {z : Value} (hz : (zeroValue e).run Try.prog w = .ok z w) (h : MapA K lit ok w b n f) {x : α} (hx : ok x) :
    (Instr.lookup t (.map (some b)) (mk x) true).run Try.prog w = .ok (.tuple #[(f x).getD z, .bool (f x).isSome]) w := by
  obtain ⟨D, h1, h2, h3⟩ := h
  obtain ⟨v, ps, hrun, hv⟩ := h1.look_ok T.keyed ht hz (show heldE z = some (.held z, []) from rfl) (T.key x hx)
  rw [hrun, h2 x hx]
  have := heldE_inv hv
  rw [h3 x hx] at this
  cases hf : f x with
  | none => rw [hf] at this; simp only at this; injection this with this; rw [this]; rfl
  | some u => rw [hf] at this; simp only at this; injection this with this; rw [this]; rfl
end

end Go.Proofs.Ytakgppoeikcepaa

/- Spots as keys; steps. -/
namespace Go.Proofs.Ytakgppoeikcepaa
open Go.RowKit
open Go.Maps (Keyed)
set_option linter.unusedVariables false
set_option maxRecDepth 4000

def spotV (p : Nat × Nat) : Value := .agg #[.int .i64 (p.1 : Int), .int .i64 (p.2 : Int)]
def spotLit (p : Nat × Nat) : Lit := .string (keyBytes [.int .i64 (p.1 : Int), .int .i64 (p.2 : Int)])
def okS (p : Nat × Nat) : Prop := p.1 ≤ 1000000 ∧ p.2 ≤ 1000000
theorem spot_wide : (match Try.prog.underlying 60 with | some (.array _ _) | some (.struct _) => true | _ => false) = true := by kernel_rfl
theorem spot_law : Keyed Try.prog 60 := Keyed.of_law (deep_law (m := 3) (by omega) (by kernel_rfl) (by kernel_rfl) spot_wide)
theorem wfN {k : Nat} (h : k ≤ 1000000) : (Lit.int .i64 (k : Int)).wf = true := okI_of (by omega)
theorem keyOf_spot (p : Nat × Nat) (h : okS p) : keyOf Try.prog 60 (spotV p) = some (spotLit p) := by
  have h1 := wfN h.1
  have h2 := wfN h.2
  obtain ⟨m, hm⟩ := types_some
  have hc : Try.prog.cellsOf 60 = 2 := by kernel_rfl
  have hi : Try.prog.cellsOf 3 = 1 := by kernel_rfl
  have hk : Try.prog.keyType 60 = true := by kernel_rfl
  unfold keyOf
  simp only [Try.underlying60]
  rw [if_pos (by simp [hk, Value.formed, Try.underlying60, hc, spotV]), hm]
  unfold Program.keyLits
  simp only [Try.underlying60, Value.cells, spotV]
  rw [if_pos (by simp [hc])]
  simp [hi, Program.keyLits, Try.underlying3, h1, h2, spotLit, List.mapM_cons]
theorem spot_key : KeyW 60 spotV spotLit okS where
  keyed := spot_law
  key := keyOf_spot
  inj x y hx hy e := by
    have h1 := keyOf_spot x hx
    rw [e] at h1
    have := spot_law.inj h1 (keyOf_spot y hy)
    unfold spotV at this
    injection this with e
    injection e with e
    injection e with e1 e
    injection e with e2 _
    injection e1 with _ e1
    injection e2 with _ e2
    exact Prod.ext (by omega) (by omega)

end Go.Proofs.Ytakgppoeikcepaa

/- Slices of structs as their cells, one behind the other. -/
namespace Go.Proofs.Ytakgppoeikcepaa
open Go.RowKit
set_option linter.unusedVariables false
set_option linter.unusedSimpArgs false
set_option maxRecDepth 4000

/-- A slice of n elements, 'size' cells each: these. -/
def CellsV (w : World) (v : Value) (size most n : Nat) (xs : List Value) : Prop :=
  ∃ a cap, v = .slice a n cap ∧ xs.length = n * size ∧ n ≤ most ∧ Shape a n cap ∧ (∀ u ∈ xs, u.oneCell' = true) ∧
    ∀ j u, xs[j]? = some u → ∃ b off, a = some ⟨b, off, none⟩ ∧ b < w.heap.size ∧ w.cell? ⟨b, off + j, none⟩ = some u
theorem CellsV.below {w w' : World} {v : Value} {size most n : Nat} {xs : List Value} (h : CellsV w v size most n xs) (hb : Below w.heap.size w w') : CellsV w' v size most n xs := by
  obtain ⟨a, cap, e, hl, hm, hs, h1, hr⟩ := h
  refine ⟨a, cap, e, hl, hm, hs, h1, fun j u hj => ?_⟩
  obtain ⟨b, off, ha, hlt, hc⟩ := hr j u hj
  exact ⟨b, off, ha, Nat.lt_of_lt_of_le hlt hb.size, by rw [hb.cell (p := ⟨b, _, none⟩) hlt]; exact hc⟩
theorem CellsV.slice {w : World} {v : Value} {size most n : Nat} {xs : List Value} (h : CellsV w v size most n xs) : ∃ a cap, v = .slice a n cap ∧ n ≤ most ∧ Shape a n cap := by
  obtain ⟨a, cap, e, hl, hm, hs, h1, hr⟩ := h
  exact ⟨a, cap, e, hm, hs⟩
theorem CellsV.nil (w : World) (size most : Nat) : CellsV w (.slice none 0 0) size most 0 [] := ⟨none, 0, rfl, by simp, by omega, ⟨by omega, by omega, fun _ => rfl⟩, fun u hu => absurd hu (by simp), fun j u hj => absurd hj (by simp)⟩
theorem CellsV.take {w : World} {a : Option Addr} {size most n cap m : Nat} {xs : List Value} (h : CellsV w (.slice a n cap) size most n xs) (hm : m ≤ n) : CellsV w (.slice a m cap) size most m (xs.take (m * size)) := by
  obtain ⟨a', cap', e, hl, hmx, ⟨s1, s2, s3⟩, h1, hr⟩ := h
  injection e with e1 e2 e3
  subst e1 e3
  have hms : m * size ≤ n * size := Nat.mul_le_mul_right _ hm
  refine ⟨a, cap, rfl, by rw [List.length_take]; omega, by omega, ⟨by omega, s2, s3⟩, fun u hu => h1 u (List.mem_of_mem_take hu), fun j u hj => ?_⟩
  have hjl : j < m * size := by
    rcases Nat.lt_or_ge j (m * size) with q | q
    · exact q
    · rw [List.getElem?_eq_none (by rw [List.length_take]; omega)] at hj; cases hj
  rw [List.getElem?_take, if_pos hjl] at hj
  exact hr j u hj

/-- A slice of such elements that the call itself has made. -/
def OwnC (B : Nat) (w wr : World) (e : TypeId) (size : Nat) (v : Value) (n : Nat) (xs : List Value) : Prop := wr.ownsRow B e size v n xs ∧ Below B w wr ∧ B ≤ wr.heap.size
theorem OwnC.nil (w : World) (e : TypeId) (size : Nat) : OwnC w.heap.size w w e size (.slice none 0 0) 0 [] := ⟨World.ownsRow_nil _ _ _ _, Below.refl _ _, Nat.le_refl _⟩
theorem OwnC.nil_of {B : Nat} {w wr : World} {e : TypeId} {size : Nat} (hb : Below B w wr) (hB : B ≤ wr.heap.size) : OwnC B w wr e size (.slice none 0 0) 0 [] := ⟨World.ownsRow_nil _ _ _ _, hb, hB⟩
theorem ownsRow_cells {B : Nat} {wr : World} {e : TypeId} {size : Nat} {v : Value} {n : Nat} {xs : List Value} (h : wr.ownsRow B e size v n xs) {most : Nat} (hl : n ≤ most) (h1 : ∀ u ∈ xs, u.oneCell' = true) : CellsV wr v size most n xs := by
  have h0 := h
  obtain ⟨hlen, hcase⟩ := h
  rcases hcase with ⟨rfl, h0'⟩ | ⟨g, cap', cur, rfl, hg, hh, hn, hcap, hsz, htake⟩
  · refine ⟨none, 0, by rw [h0'], hlen, hl, ⟨by omega, by omega, fun _ => rfl⟩, h1, fun j u hj => ?_⟩
    rw [List.getElem?_eq_none (by rw [hlen, h0']; omega)] at hj; cases hj
  · refine ⟨_, cap', rfl, hlen, hl, ⟨hn, by unfold maxLen at hcap; omega, fun h => by cases h⟩, h1, fun j u hj => ⟨g, 0, rfl, ?_, ?_⟩⟩
    · rcases Nat.lt_or_ge g wr.heap.size with h | h
      · exact h
      · rw [Array.getElem?_eq_none h] at hh; cases hh
    · have hjl : j < n * size := by
        rcases Nat.lt_or_ge j (n * size) with q | q
        · exact q
        · rw [List.getElem?_eq_none (by omega)] at hj; cases hj
      rw [Nat.zero_add, h0.cellAt j (by omega)]
      exact hj
theorem OwnC.cells {B : Nat} {w wr : World} {e : TypeId} {size : Nat} {v : Value} {n : Nat} {xs : List Value} (h : OwnC B w wr e size v n xs) {most : Nat} (hl : n ≤ most) (h1 : ∀ u ∈ xs, u.oneCell' = true) : CellsV wr v size most n xs := ownsRow_cells h.1 hl h1
theorem OwnC.trans {B : Nat} {w wr w2 : World} {e : TypeId} {size : Nat} {v : Value} {n : Nat} {xs : List Value} (h : OwnC B w wr e size v n xs) (hb : Below wr.heap.size wr w2) : OwnC B w w2 e size v n xs := by
  obtain ⟨hown, hb0, hB⟩ := h
  refine ⟨hown.kept (row := none) ⟨hb.os, hb.tape, hb.output, hb.size, fun k hk _ => hb.block k hk⟩ ?_, hb0.trans (hb.mono hB), Nat.le_trans hB hb.size⟩
  cases hv : v.ownBlock with
  | none => exact .inl rfl
  | some k => exact .inr (by simp)
theorem OwnC.slice {B : Nat} {w wr : World} {e : TypeId} {size : Nat} {v : Value} {n : Nat} {xs : List Value} (h : OwnC B w wr e size v n xs) : ∃ a c, v = .slice a n c := by
  rcases h.1.2 with ⟨rfl, h0⟩ | ⟨g, cap', cur, rfl, _⟩
  · exact ⟨_, _, by rw [h0]⟩
  · exact ⟨_, _, rfl⟩

/-- What a type of elements is: its cells, its bytes, its zero value. -/
structure ElemT (t e : TypeId) (size bytes : Nat) : Prop where
  under : Try.prog.underlying t = some (.slice e)
  info : ∃ i z, Try.prog.info? e = some i ∧ i.zero = some z ∧ i.size = size ∧ i.bytes = bytes ∧ z.cells.size = size
  pos : 0 < size
theorem ElemT.of {t e : TypeId} {size bytes : Nat} {z : Value} (ht : Try.prog.underlying t = some (.slice e)) (hi : (Try.prog.info? e).map (fun i => (i.zero, i.size, i.bytes)) = some (some z, size, bytes)) (hz : z.cells.size = size) (hp : 0 < size) : ElemT t e size bytes := by
  obtain ⟨i0, h0, h1, h2, h3⟩ := info_parts hi
  exact ⟨ht, ⟨i0, z, h0, h1, h2, h3, hz⟩, hp⟩

/-- append of all of another slice. -/
theorem wp_append_cells {t e : TypeId} {size bytes : Nat} (T : ElemT t e size bytes) {ops : Array Oper} {rest : List Oper} {o : Oper} {a : Act} {Q : Exit → Act → World → Prop} (hgd : o.guard = none) (s x : Operand)
    (ho : o.op = .call { callee := .builtin .append, args := #[s, x], argTypes := #[t, t] }) (B : Nat) (w wr : World) (v u : Value) (n m most : Nat) (zs ys : List Value) (hG : OwnC B w wr e size v n zs)
    (hs : a.eval s = v) (hx : a.eval x = u) (hu : CellsV wr u size most m ys) (hl : n + m ≤ maxLen) (hby : (n + m) * bytes ≤ 140737488355328)
    (h : ∀ v' w', OwnC B w w' e size v' (n + m) (zs ++ ys) → wr.grownBy w' v.ownBlock → wpList Try.prog ops Q rest (a.put o.dst v') w') : wpList Try.prog ops Q (o :: rest) a wr := by
  obtain ⟨i0, z, hi, hz0, hz1, hz2, hz3⟩ := T.info
  obtain ⟨ax, cap, rfl, hlen, hmx, hsh, h1, hr⟩ := hu
  have hG0 := hG
  obtain ⟨hown, hb, hB⟩ := hG
  cases ax with
  | none =>
    have hc0 : cap = 0 := hsh.2.2 rfl
    have hl0 : m = 0 := by have := hsh.1; omega
    subst hc0 hl0
    have hy : ys = [] := List.length_eq_zero_iff.1 (by rw [hlen, Nat.zero_mul])
    subst hy
    exact wpList_append_own_none hgd s x t ho B e i0 size T.under hi v n _ hs hown hx (h v wr (by simpa using hG0) (World.grownBy.refl _ _))
  | some ad =>
    refine wpList_append_own _ hgd s x t ho B e i0 z size bytes T.under hi hz0 hz1 hz2 hz3 T.pos v n _ hs hown ad m cap ys hx hlen ?_ h1 hl hby hB ?_
    · intro j u hj
      obtain ⟨b, off, e, hlt, hc⟩ := hr j u hj
      injection e with e
      subst e
      rw [addr_add]
      exact hc
    · intro v' w' hown' hgrow _
      exact h v' w' ⟨hown', hb.grown hgrow hB (fun k hk => (hown.lt k hk).1), Nat.le_trans hB hgrow.size⟩ hgrow

/-- append of one, laid down ahead of it. -/
theorem wp_append_cell1 {t e : TypeId} {size bytes : Nat} (T : ElemT t e size bytes) {ops : Array Oper} {rest : List Oper} {o : Oper} {a : Act} {Q : Exit → Act → World → Prop} (hgd : o.guard = none) (s x : Operand)
    (ho : o.op = .call { callee := .builtin .append, args := #[s, x], argTypes := #[t, t] }) (B : Nat) (w wr : World) (v : Value) (n : Nat) (zs : List Value) (cs : Array Value) (hG : OwnC B w wr e size v n zs) (hc : cs.size = size) (h1 : ∀ u ∈ cs.toList, u.oneCell' = true)
    (hs : a.eval s = v) (hx : a.eval x = .slice (some ⟨wr.heap.size, 0, none⟩) 1 1) (hl : n + 1 ≤ maxLen) (hby : (n + 1) * bytes ≤ 140737488355328)
    (h : ∀ v' w', OwnC B w w' e size v' (n + 1) (zs ++ cs.toList) → wr.grownBy w' v.ownBlock → wpList Try.prog ops Q rest (a.put o.dst v') w') : wpList Try.prog ops Q (o :: rest) a (wr.alloc (.cells cs e)) := by
  have hG' := hG.trans (below_new wr (.cells cs e))
  refine wp_append_cells T hgd s x ho B w _ v _ n 1 1 zs cs.toList hG' hs hx ⟨_, _, rfl, by simp [hc], Nat.le_refl _, ⟨Nat.le_refl _, by omega, fun h => by cases h⟩, h1, fun j u hj => ⟨_, _, rfl, by simp, ?_⟩⟩ hl hby fun v' w' hO hg => h v' w' hO ?_
  · rw [Nat.zero_add, World.cell?_alloc_at _ _ _ _ rfl]
    simpa using hj
  · refine ⟨hg.os, hg.tape, hg.output, ?_, fun k hk hn => ?_⟩
    · have := hg.size; simp at this; omega
    · rw [hg.block k (by simp; omega) hn, (below_new wr (.cells cs e)).block k hk]

/-- Several such slices, in a slice. -/
def catN (ls : List (Nat × List Value)) (k : Nat) : Nat := ((ls.take k).map (·.1)).sum
def catC (ls : List (Nat × List Value)) (k : Nat) : List Value := ((ls.take k).map (·.2)).flatten
def atC (ls : List (Nat × List Value)) (k : Nat) : Nat × List Value := ls.getD k (0, [])
theorem catN_succ {ls : List (Nat × List Value)} {k : Nat} (h : k < ls.length) : catN ls (k + 1) = catN ls k + (atC ls k).1 := by
  unfold catN atC
  rw [List.take_succ_eq_append_getElem h, List.map_append, List.sum_append, List.getD_eq_getElem?_getD, List.getElem?_eq_getElem h]
  rw [List.map_cons, List.map_nil, List.sum_cons, List.sum_nil, Nat.add_zero]
  rfl
theorem catC_succ {ls : List (Nat × List Value)} {k : Nat} (h : k < ls.length) : catC ls (k + 1) = catC ls k ++ (atC ls k).2 := by
  unfold catC atC
  rw [List.take_succ_eq_append_getElem h, List.map_append, List.flatten_append, List.getD_eq_getElem?_getD, List.getElem?_eq_getElem h]
  rw [List.map_cons, List.map_nil, List.flatten_cons, List.flatten_nil, List.append_nil]
  rfl
theorem catN_le {ls : List (Nat × List Value)} : ∀ {k : Nat}, k ≤ ls.length → catN ls k ≤ catN ls ls.length := by
  intro k hk
  obtain ⟨d, hd⟩ : ∃ d, ls.length = k + d := ⟨ls.length - k, by omega⟩
  induction d generalizing k with
  | zero => rw [hd]; exact Nat.le_refl _
  | succ d ih =>
    have := ih (k := k + 1) (by omega) (by omega)
    rw [catN_succ (by omega)] at this
    omega
def LisC (w : World) (v : Value) (size most : Nat) (ls : List (Nat × List Value)) : Prop :=
  ∃ a len cap, v = .slice a len cap ∧ ls.length = len ∧ len ≤ 1000000 ∧ Shape a len cap ∧
    ∀ j, j < ls.length → ∃ b off u, a = some ⟨b, off, none⟩ ∧ b < w.heap.size ∧ w.cell? ⟨b, off + j, none⟩ = some u ∧ CellsV w u size most (atC ls j).1 (atC ls j).2
theorem LisC.below {w w' : World} {v : Value} {size most : Nat} {ls : List (Nat × List Value)} (h : LisC w v size most ls) (hb : Below w.heap.size w w') : LisC w' v size most ls := by
  obtain ⟨a, len, cap, e, hl, hm, hs, hr⟩ := h
  refine ⟨a, len, cap, e, hl, hm, hs, fun j hj => ?_⟩
  obtain ⟨b, off, u, ha, hlt, hc, hu⟩ := hr j hj
  exact ⟨b, off, u, ha, Nat.lt_of_lt_of_le hlt hb.size, by rw [hb.cell (p := ⟨b, _, none⟩) hlt]; exact hc, hu.below hb⟩

/-- append of all of another slice, inside a region that draws its order. -/
theorem wpr_append_cells {t e : TypeId} {size bytes : Nat} (T : ElemT t e size bytes) {o : Oper} {a : Act} {K : Act → World → Prop} {Q : Exit → Act → World → Prop} {Y : Nat → Option Bool} (hwt : Region.wanted o Y = true) (s x : Operand)
    (ho : o.op = .call { callee := .builtin .append, args := #[s, x], argTypes := #[t, t] }) (B : Nat) (w wr : World) (v : Value) (n m c : Nat) (ad : Addr) (zs ys : List Value) (hG : OwnC B w wr e size v n zs)
    (hs : a.eval s = v) (hx : a.eval x = .slice (some ad) m c) (hlen : ys.length = m * size) (hr : ∀ j u, ys[j]? = some u → wr.cell? (ad.add j) = some u) (h1 : ∀ u ∈ ys, u.oneCell' = true) (hl : n + m ≤ maxLen) (hby : (n + m) * bytes ≤ 140737488355328)
    (h : ∀ v' w', OwnC B w w' e size v' (n + m) (zs ++ ys) → wr.grownBy w' v.ownBlock → K (a.put o.dst v') w') :
    if Region.wanted o Y = true then Oper.wp Try.prog o a wr K Q else K (a.put o.dst undef) wr := by
  obtain ⟨i0, z, hi, hz0, hz1, hz2, hz3⟩ := T.info
  obtain ⟨hown, hb, hB⟩ := hG
  refine wp_append_at _ hwt s x t ho B e i0 z size bytes T.under hi hz0 hz1 hz2 hz3 T.pos v n _ hs hown ad m c ys hx hlen hr h1 hl hby hB ?_
  intro v' w' hown' hgrow _
  exact h v' w' ⟨hown', hb.grown hgrow hB (fun k hk => (hown.lt k hk).1), Nat.le_trans hB hgrow.size⟩ hgrow

end Go.Proofs.Ytakgppoeikcepaa

/- Two rows of numbers that the call itself gathers side by side. -/
namespace Go.Proofs.Ytakgppoeikcepaa
open Go.RowKit
set_option linter.unusedVariables false
set_option maxRecDepth 4000

structure Two (B : Nat) (w wr : World) (v u : Value) (xs ys : List Int) : Prop where
  own1 : wr.ownsRow B 3 1 v xs.length (xs.map (Value.int .i64))
  own2 : wr.ownsRow B 3 1 u ys.length (ys.map (Value.int .i64))
  apart : v.ownBlock = none ∨ v.ownBlock ≠ u.ownBlock
  apart2 : u.ownBlock = none ∨ u.ownBlock ≠ v.ownBlock
  below : Below B w wr
  size : B ≤ wr.heap.size
theorem Two.start (w : World) : Two w.heap.size w w (.slice none 0 0) (.slice none 0 0) [] [] := ⟨World.ownsRow_nil _ _ _ _, World.ownsRow_nil _ _ _ _, .inl rfl, .inl rfl, Below.refl _ _, Nat.le_refl _⟩
theorem Two.swap {B : Nat} {w wr : World} {v u : Value} {xs ys : List Int} (h : Two B w wr v u xs ys) : Two B w wr u v ys xs := ⟨h.own2, h.own1, h.apart2, h.apart, h.below, h.size⟩
theorem Two.to {B : Nat} {w wr w2 : World} {v u : Value} {xs ys : List Int} (h : Two B w wr v u xs ys) (hb : Below wr.heap.size wr w2) : Two B w w2 v u xs ys :=
  ⟨((ownsRow_on h.own1).below hb).now, ((ownsRow_on h.own2).below hb).now, h.apart, h.apart2, h.below.trans (hb.mono h.size), Nat.le_trans h.size hb.size⟩
theorem Two.ints1 {B : Nat} {w wr : World} {v u : Value} {xs ys : List Int} (h : Two B w wr v u xs ys) (hl : xs.length ≤ 17592186044416) : Ints wr v xs := ownsRow_ints h.own1 hl
theorem Two.ints2 {B : Nat} {w wr : World} {v u : Value} {xs ys : List Int} (h : Two B w wr v u xs ys) (hl : ys.length ≤ 17592186044416) : Ints wr u ys := ownsRow_ints h.own2 hl
theorem Two.slices {B : Nat} {w wr : World} {v u : Value} {xs ys : List Int} (h : Two B w wr v u xs ys) : (∃ a l c, v = .slice a l c) ∧ ∃ a l c, u = .slice a l c := ⟨ownsRow_slice h.own1, ownsRow_slice h.own2⟩

/-- One number more onto the first. -/
theorem wp_append_two {ops : Array Oper} {rest : List Oper} {o : Oper} {a : Act} {Q : Exit → Act → World → Prop} (hgd : o.guard = none) (s x : Operand)
    (ho : o.op = .call { callee := .builtin .append, args := #[s, x], argTypes := #[25, 25] }) (B : Nat) (w wr : World) (v u : Value) (xs ys : List Int) (z : Int) (hG : Two B w wr v u xs ys)
    (hs : a.eval s = v) (hx : a.eval x = .slice (some ⟨wr.heap.size, 0, none⟩) 1 1) (hl : xs.length + 1 ≤ 17592186044416)
    (h : ∀ v' w', Two B w w' v' u (xs ++ [z]) ys → (wr.heap.size ≤ w'.heap.size ∧ ∀ k, k < wr.heap.size → v.ownBlock ≠ some k → w'.heap[k]? = wr.heap[k]?) → wpList Try.prog ops Q rest (a.put o.dst v') w') : wpList Try.prog ops Q (o :: rest) a (wr.alloc (.cells #[.int .i64 z] 3)) := by
  obtain ⟨i0, hi, hz0, hz1, hz2⟩ := info_parts info_int
  have hwt : Region.wanted o (yielded ops a.tmps) = true := by simp [Region.wanted, hgd]
  have hn := below_new wr (.cells #[.int .i64 z] 3)
  have hB := hG.size
  have hG1 := hG.to hn
  refine wpList_step fun K hK => ?_
  refine wp_append_at _ hwt s x 25 ho B 3 i0 (.int .i64 0) 1 8 Try.underlying25 hi hz0 hz1 hz2 rfl (by decide) v xs.length _ hs (hG.own1.alloc _) ⟨wr.heap.size, 0, none⟩ 1 1 [.int .i64 z] hx rfl ?_ ?_ ?_ ?_ ?_ ?_
  · intro j u hj
    match j, hj with
    | 0, hj => simp at hj; subst hj; simp [Addr.add]
  · intro u hu; simp at hu; subst hu; rfl
  · unfold maxLen; omega
  · omega
  · simp; omega
  · intro v' w' hown hg hat
    have hlt : ∀ k, u.ownBlock = some k → k < (wr.alloc (.cells #[.int .i64 z] 3)).heap.size := fun k hk => (ownsRow_lt hG1.own2 hk).2
    refine hK _ _ (h v' w' ⟨by simpa using hown, hG1.own2.kept hg hG1.apart2, ?_, ?_, hG1.below.grown hg hG1.size (fun k hk => (ownsRow_lt hG1.own1 hk).1), Nat.le_trans hG1.size hg.size⟩ ⟨Nat.le_trans hn.size hg.size, fun k hk hne => (hg.block k (Nat.lt_of_lt_of_le hk hn.size) (fun q => hne q.symm)).trans (hn.block k hk)⟩)
    · rcases hat with e | e
      · rw [e]; exact hG1.apart
      · rw [e]
        refine .inr fun q => ?_
        have := hlt _ q.symm
        omega
    · rcases hat with e | e
      · rw [e]; exact hG1.apart2
      · rw [e]
        refine .inr fun q => ?_
        have := hlt _ q
        omega

end Go.Proofs.Ytakgppoeikcepaa

/- A slice of ints that came in, read as a list. -/
namespace Go.Proofs.Ytakgppoeikcepaa
open Go.ChangeShapes Go.WideShapes Go.ChangeAt Go.RowKit
set_option linter.unusedVariables false
set_option maxRecDepth 4000

theorem own : ownKnob Try.prog.godebug = none := by kernel_rfl
theorem laidOut : laidOutB Try.prog = true := by kernel_rfl
theorem bytes_int : Try.prog.bytesOf 3 = 8 := by kernel_rfl

theorem cell_lt {w : World} {a : Addr} {v : Value} (h : w.cell? a = some v) : a.block < w.heap.size := by
  rcases Nat.lt_or_ge a.block w.heap.size with h1 | h1
  · exact h1
  · unfold World.cell? at h
    rw [Array.getElem?_eq_none h1] at h
    simp at h

theorem ints_arg {H : Type} {enc : TypeId × Value → H} {W : World} {base : Nat} {v : Value} {d : DataW H} {p : List MemPlace}
    (hval : Value.okWide Try.prog W .any base 25 v) (h : DataW.Trod enc Try.prog W 0 (fun _ => true) true 25 v d p)
    (hsz : ∀ elems spare, d = .slice elems spare → (elems.length + spare.length) * 8 ≤ reachBytes) : ∃ xs, Ints W v xs := by
  obtain ⟨a0, len, cap, rfl⟩ := okWide_slice Try.underlying25 hval
  obtain ⟨fuel, hf⟩ := h
  rcases open_ints Try.underlying25 Try.underlying3 (by kernel_rfl) hf with ⟨hcs, _⟩ | ⟨x, l, c, zs, hcs, _, hl, hm, hz, hx, hcell, hwz⟩
  · simp [Value.cells] at hcs
    obtain ⟨rfl, rfl, rfl⟩ := hcs
    exact ⟨[], Ints.nil _⟩
  · simp [Value.cells] at hcs
    obtain ⟨rfl, rfl, rfl⟩ := hcs
    simp only [Prod.mk.injEq] at hx
    simp only [if_true] at hz
    have hs := hsz _ _ hx.1
    simp only [lits, List.length_map, List.length_take, List.length_drop, reachBytes] at hs
    refine ⟨zs.take len, x, len, cap, rfl, by simp; omega, by omega, ⟨hl, by unfold maxLen at hm; omega, fun h => by cases h⟩, fun j hj => ?_⟩
    have hj' : j < len := by simp at hj; omega
    have hc := hcell j (by omega)
    obtain ⟨b, off, spot⟩ := x
    have hspot : spot = none := by simpa [Addr.add] using World.cell?_spot (hcell 0 (by omega))
    subst hspot
    rw [add_plain] at hc
    refine ⟨b, off, rfl, ?_, ?_⟩
    · exact cell_lt hc
    · rw [hc]
      simp [nth, List.getD, hj']

end Go.Proofs.Ytakgppoeikcepaa

/- What came in, read as lists and nets; and how much of it there is. -/
namespace Go.Proofs.Ytakgppoeikcepaa
open Go.ChangeShapes Go.WideShapes Go.ChangeAt Go.RowKit Go.Joins Go.Deep
set_option linter.unusedVariables false
set_option maxRecDepth 4000

theorem bulk_pos {H : Type} (d : DataW H) : 1 ≤ Rows.uptoBulk d := by
  cases d with
  | lit l => cases l <;> simp [Rows.uptoBulk]
  | nil => simp [Rows.uptoBulk]
  | ptr d => simp [Rows.uptoBulk]
  | slice elems spare => simp [Rows.uptoBulk]
  | agg parts => simp [Rows.uptoBulk]
  | iface t d => simp [Rows.uptoBulk]
  | map entries => simp [Rows.uptoBulk]
  | held h => simp [Rows.uptoBulk]
theorem bulk_part {H : Type} {d : DataW H} {l : List (DataW H)} (h : d ∈ l) : Rows.uptoBulk d ≤ Rows.uptoBulkAll l := by
  induction l with
  | nil => cases h
  | cons x r ih =>
    simp only [Rows.uptoBulkAll]
    cases List.mem_cons.1 h with
    | inl e => subst e; omega
    | inr e => have := ih e; omega
theorem bulk_length {H : Type} (l : List (DataW H)) : l.length ≤ Rows.uptoBulkAll l := by
  induction l with
  | nil => simp [Rows.uptoBulkAll]
  | cons x r ih => have := bulk_pos x; simp only [Rows.uptoBulkAll, List.length_cons]; omega

theorem weights_part {H : Type} {P : Program} {e : TypeId} {d : DataW H} {l : List (DataW H)} (h : d ∈ l) {x : Nat} (hx : x ∈ d.weights P e) : x ∈ DataW.weightsAll P e l := by
  induction l with
  | nil => cases h
  | cons y r ih =>
    simp only [DataW.weightsAll, List.mem_append]
    cases List.mem_cons.1 h with
    | inl q => subst q; exact .inl hx
    | inr q => exact .inr (ih q)

/-- Nothing in it is too great for a machine. -/
def Fits {H : Type} (t : TypeId) (d : DataW H) : Prop := ∀ x ∈ d.weights Try.prog t, x ≤ reachBytes

theorem ints_read {H : Type} {enc : TypeId × Value → H} {W : World} {fuel : Nat} {c : Value} {d : DataW H} {p : List MemPlace}
    (hf : DataW.trod enc Try.prog W 0 (fun _ => true) true fuel 25 [c] = some (d, p)) (hw : Fits 25 d) : ∃ xs, Ints W c xs ∧ xs.length + 1 ≤ Rows.uptoBulk d := by
  rcases open_ints Try.underlying25 Try.underlying3 (by kernel_rfl) hf with ⟨hcs, hx⟩ | ⟨x, l, cap, zs, hcs, _, hl, hm, hz, hx, hcell, hwz⟩
  · simp only [List.cons.injEq, and_true] at hcs
    subst hcs
    simp only [Prod.mk.injEq] at hx
    obtain ⟨rfl, _⟩ := hx
    exact ⟨[], Ints.nil _, by simp [Rows.uptoBulk]⟩
  · simp only [List.cons.injEq, and_true] at hcs
    subst hcs
    simp only [Prod.mk.injEq] at hx
    obtain ⟨rfl, _⟩ := hx
    simp only [if_true] at hz
    have hs := hw ((zs.take l).length * 8 + (zs.drop l).length * 8) (by
      simp only [DataW.weights, Try.underlying25, List.mem_cons]
      left
      rw [bytes_int]
      simp only [lits, List.length_map]
      omega)
    simp only [List.length_take, List.length_drop, reachBytes] at hs
    have hb := bulk_length (H := H) (lits .i64 (zs.take l))
    refine ⟨zs.take l, ⟨x, l, cap, rfl, by simp; omega, by omega, ⟨hl, by unfold maxLen at hm; omega, fun h => by cases h⟩, fun j hj => ?_⟩, ?_⟩
    · have hj' : j < l := by simp at hj; omega
      have hc := hcell j (by omega)
      obtain ⟨b, off, spot⟩ := x
      have hspot : spot = none := by simpa [Addr.add] using World.cell?_spot (hcell 0 (by omega))
      subst hspot
      rw [addr_add] at hc
      exact ⟨b, off, rfl, cell_lt hc, by rw [hc]; simp [nth, List.getD, hj']⟩
    · simp only [Rows.uptoBulk]
      simp only [lits, List.length_map] at hb
      simp only [lits] at hb ⊢
      omega

theorem ints_arg2 {H : Type} {enc : TypeId × Value → H} {W : World} {base : Nat} {v : Value} {d : DataW H} {p : List MemPlace}
    (hval : Value.okWide Try.prog W .any base 25 v) (h : DataW.Trod enc Try.prog W 0 (fun _ => true) true 25 v d p) (hw : Fits 25 d) : ∃ xs, Ints W v xs ∧ xs.length + 1 ≤ Rows.uptoBulk d := by
  obtain ⟨a0, len, cap, rfl⟩ := okWide_slice Try.underlying25 hval
  obtain ⟨fuel, hf⟩ := h
  exact ints_read (by simpa [Value.cells] using hf) hw

theorem ints_readw {H : Type} {enc : TypeId × Value → H} {W : World} {fuel : Nat} {c : Value} {d : DataW H} {p : List MemPlace}
    (hf : DataW.trod enc Try.prog W 0 (fun _ => true) true fuel 25 [c] = some (d, p)) (hw : Fits 25 d) : ∃ xs, Ints W c xs ∧ xs.length + 1 ≤ Rows.uptoBulk d ∧ ∀ z ∈ xs, (Lit.int .i64 z).wf = true := by
  rcases open_ints Try.underlying25 Try.underlying3 (by kernel_rfl) hf with ⟨hcs, hx⟩ | ⟨x, l, cap, zs, hcs, _, hl, hm, hz, hx, hcell, hwz⟩
  · simp only [List.cons.injEq, and_true] at hcs
    subst hcs
    simp only [Prod.mk.injEq] at hx
    obtain ⟨rfl, _⟩ := hx
    exact ⟨[], Ints.nil _, by simp [Rows.uptoBulk], by simp⟩
  · simp only [List.cons.injEq, and_true] at hcs
    subst hcs
    simp only [Prod.mk.injEq] at hx
    obtain ⟨rfl, _⟩ := hx
    simp only [if_true] at hz
    have hs := hw ((zs.take l).length * 8 + (zs.drop l).length * 8) (by
      simp only [DataW.weights, Try.underlying25, List.mem_cons]
      left
      rw [bytes_int]
      simp only [lits, List.length_map]
      omega)
    simp only [List.length_take, List.length_drop, reachBytes] at hs
    have hb := bulk_length (H := H) (lits .i64 (zs.take l))
    refine ⟨zs.take l, ⟨x, l, cap, rfl, by simp; omega, by omega, ⟨hl, by unfold maxLen at hm; omega, fun h => by cases h⟩, fun j hj => ?_⟩, ?_, fun z hz => hwz z (List.mem_of_mem_take hz)⟩
    · have hj' : j < l := by simp at hj; omega
      have hc := hcell j (by omega)
      obtain ⟨b, off, spot⟩ := x
      have hspot : spot = none := by simpa [Addr.add] using World.cell?_spot (hcell 0 (by omega))
      subst hspot
      rw [addr_add] at hc
      exact ⟨b, off, rfl, cell_lt hc, by rw [hc]; simp [nth, List.getD, hj']⟩
    · simp only [Rows.uptoBulk]
      simp only [lits, List.length_map] at hb
      simp only [lits] at hb ⊢
      omega

theorem ints_arg3 {H : Type} {enc : TypeId × Value → H} {W : World} {base : Nat} {v : Value} {d : DataW H} {p : List MemPlace}
    (hval : Value.okWide Try.prog W .any base 25 v) (h : DataW.Trod enc Try.prog W 0 (fun _ => true) true 25 v d p) (hw : Fits 25 d) : ∃ xs, Ints W v xs ∧ xs.length + 1 ≤ Rows.uptoBulk d ∧ ∀ z ∈ xs, (Lit.int .i64 z).wf = true := by
  obtain ⟨a0, len, cap, rfl⟩ := okWide_slice Try.underlying25 hval
  obtain ⟨fuel, hf⟩ := h
  exact ints_readw (by simpa [Value.cells] using hf) hw

theorem int_arg {H : Type} {enc : TypeId × Value → H} {W : World} {base : Nat} {v : Value} {d : DataW H} {p : List MemPlace}
    (hval : Value.okWide Try.prog W .any base 3 v) (h : DataW.Trod enc Try.prog W 0 (fun _ => true) true 3 v d p) : ∃ x, v = .int .i64 x ∧ 1 ≤ Rows.uptoBulk d := by
  obtain ⟨x, rfl, rfl, rfl, _⟩ := open_int Try.underlying3 hval h
  exact ⟨x, rfl, bulk_pos _⟩

theorem cells3 {w : World} {a : Addr} {cs : List Value} (h : w.cells? 0 a 3 = some cs) : ∃ c0 c1 c2, cs = [c0, c1, c2] ∧ w.cell? (a.add 0) = some c0 ∧ w.cell? (a.add 1) = some c1 ∧ w.cell? (a.add 2) = some c2 := by
  simp only [World.cells?, Nat.zero_le, if_true] at h
  simp only [show List.range 3 = [0, 1, 2] from rfl, List.mapM_cons, List.mapM_nil] at h
  cases h0 : w.cell? (a.add 0) with
  | none => simp [h0] at h
  | some c0 =>
    cases h1 : w.cell? (a.add 1) with
    | none => simp [h0, h1] at h
    | some c1 =>
      cases h2 : w.cell? (a.add 2) with
      | none => simp [h0, h1, h2] at h
      | some c2 =>
        simp [h0, h1, h2] at h
        exact ⟨c0, c1, c2, h.symm, rfl, rfl, rfl⟩

theorem cells_tran : Try.prog.cellsOf 37 = 3 := by kernel_rfl

theorem cells_int : Try.prog.cellsOf 3 = 1 := by kernel_rfl

theorem cells_ints : Try.prog.cellsOf 25 = 1 := by kernel_rfl

theorem cells_trans : Try.prog.cellsOf 22 = 1 := by kernel_rfl

theorem cells_net : Try.prog.cellsOf 24 = 2 := by kernel_rfl

theorem bytes_tran : Try.prog.bytesOf 37 = 56 := by kernel_rfl

theorem tran_one {H : Type} {enc : TypeId × Value → H} {W : World} {fuel : Nat} {c0 c1 c2 : Value} {d : DataW H} {p : List MemPlace}
    (hf : DataW.trod enc Try.prog W 0 (fun _ => true) true fuel 37 [c0, c1, c2] = some (d, p)) (hw : Fits 37 d) :
    ∃ t : TranL, IsTran W c0 c1 c2 t ∧ t.pre.length + t.post.length + 1 ≤ Rows.uptoBulk d := by
  obtain ⟨y0, y1, y2, n, hx, _, h0, h1, h2⟩ := trod_struct3 Try.underlying37 hf
  simp only [Prod.mk.injEq] at hx
  obtain ⟨rfl, _⟩ := hx
  simp only [cells_int, cells_ints, List.drop_zero, List.take_succ_cons, List.take_zero, List.drop_succ_cons] at h0 h1 h2
  have hw' : ∀ x, x ∈ y1.1.weights Try.prog 25 ∨ x ∈ y2.1.weights Try.prog 25 → x ≤ reachBytes := by
    intro x hx
    refine hw x ?_
    simp only [DataW.weights, Try.underlying37, DataW.weightsEach, List.map_cons, List.mem_append]
    rcases hx with hx | hx
    · exact .inr (.inl hx)
    · exact .inr (.inr (.inl hx))
  obtain ⟨l, e0, _, _⟩ := DataW.trod_int Try.underlying3 h0
  simp only [List.cons.injEq, and_true] at e0
  obtain ⟨xs, hxs, bx⟩ := ints_read h1 (fun x hx => hw' x (.inl hx))
  obtain ⟨ys, hys, bY⟩ := ints_read h2 (fun x hx => hw' x (.inr hx))
  refine ⟨⟨l, xs, ys⟩, ⟨e0, hxs, hys⟩, ?_⟩
  have := bulk_pos y0.1
  simp only [Rows.uptoBulk, Rows.uptoBulkAll]
  omega

theorem tranAt_range (len : Nat) (T : Nat → TranL) (j : Nat) (h : j < len) : tranAt ((List.range len).map T) j = T j := by
  simp [tranAt, List.getD, List.getElem?_map, List.getElem?_range h]

set_option maxRecDepth 4000 in
theorem trans_read {H : Type} {enc : TypeId × Value → H} {W : World} {fuel : Nat} {c : Value} {d : DataW H} {p : List MemPlace}
    (hf : DataW.trod enc Try.prog W 0 (fun _ => true) true fuel 22 [c] = some (d, p)) (hw : Fits 22 d) :
    ∃ ts, Trans W c ts ∧ ts.length + 1 ≤ Rows.uptoBulk d ∧ ∀ k, k < ts.length → (tranAt ts k).pre.length + (tranAt ts k).post.length + 1 ≤ Rows.uptoBulk d := by
  rcases open_slice Try.underlying22 hf with ⟨hcs, hx⟩ | ⟨a, len, cap, m, n, D, Pl, hcs, _, hl, hm, hmm, hx, hel⟩
  · simp only [List.cons.injEq, and_true] at hcs
    subst hcs
    simp only [Prod.mk.injEq] at hx
    obtain ⟨rfl, _⟩ := hx
    exact ⟨[], ⟨none, 0, 0, rfl, rfl, by omega, ⟨by omega, by omega, fun _ => rfl⟩, fun j hj => absurd hj (by simp)⟩, by simp [Rows.uptoBulk], fun k hk => absurd hk (by simp)⟩
  · simp only [List.cons.injEq, and_true] at hcs
    subst hcs
    simp only [Prod.mk.injEq] at hx
    obtain ⟨rfl, _⟩ := hx
    simp only [if_true] at hmm
    obtain rfl : cap = m := hmm.symm
    have hs := hw ((len + (cap - len)) * 56) (by
      simp only [DataW.weights, Try.underlying22, List.mem_cons]
      left
      rw [bytes_tran]
      simp)
    simp only [reachBytes] at hs
    have hone : ∀ i, i < len → ∃ t : TranL, (∃ b off c1 c2, a = ⟨b, off, none⟩ ∧ b < W.heap.size ∧ W.cell? ⟨b, off + i * 3, none⟩ = some (.int .i64 t.label) ∧ W.cell? ⟨b, off + i * 3 + 1, none⟩ = some c1 ∧ W.cell? ⟨b, off + i * 3 + 2, none⟩ = some c2 ∧ Ints W c1 t.pre ∧ Ints W c2 t.post) ∧
        t.pre.length + t.post.length + 1 ≤ Rows.uptoBulk (D i) := by
      intro i hi
      obtain ⟨cs', hc, ht⟩ := hel i (by omega)
      rw [cells_tran] at hc
      obtain ⟨c0, c1, c2, rfl, k0, k1, k2⟩ := cells3 hc
      have hmem : D i ∈ (List.range len).map D := List.mem_map.2 ⟨i, by simpa using hi, rfl⟩
      obtain ⟨t, ⟨e0, h1, h2⟩, hb⟩ := tran_one ht (fun x hx => hw x (by
        simp only [DataW.weights, Try.underlying22, List.mem_cons, List.mem_append]
        exact .inr (.inl (weights_part hmem hx))))
      obtain ⟨c0', _, _, _, z0, _, _⟩ : ∃ c0' c1' c2' : Value, ∃ _ : True, W.cell? (a.add 0) = some c0' ∧ True ∧ True := by
        obtain ⟨cs0, hc0, _⟩ := hel 0 (by omega)
        rw [cells_tran, Nat.zero_mul] at hc0
        have ha : a.add 0 = a := by simp [Addr.add]
        rw [ha] at hc0
        obtain ⟨x0, x1, x2, _, y0, _, _⟩ := cells3 hc0
        exact ⟨x0, x1, x2, trivial, y0, trivial, trivial⟩
      obtain ⟨b, off, spot⟩ := a
      have hspot : spot = none := by simpa [Addr.add] using World.cell?_spot z0
      subst hspot
      rw [addr_add, addr_add] at k0 k1 k2
      refine ⟨t, ⟨b, off, c1, c2, rfl, cell_lt k0, by rw [← e0]; simpa using k0, by simpa using k1, by simpa using k2, h1, h2⟩, hb⟩
    haveI : Inhabited TranL := ⟨noTran⟩
    obtain ⟨T, hT⟩ := choose_lt hone
    have hb1 := bulk_length (H := H) ((List.range len).map D)
    simp only [List.length_map, List.length_range] at hb1
    refine ⟨(List.range len).map T, ⟨some a, len, cap, rfl, by simp, by omega, ⟨hl, by unfold maxLen at hm; omega, fun h => by cases h⟩, fun j hj => ?_⟩, ?_, fun k hk => ?_⟩
    · have hj' : j < len := by simpa using hj
      rw [tranAt_range len T j hj']
      obtain ⟨⟨b, off, c1, c2, ha, r⟩, _⟩ := hT j hj'
      exact ⟨b, off, c1, c2, by rw [ha], r⟩
    · simp only [Rows.uptoBulk, List.length_map, List.length_range]; omega
    · have hk' : k < len := by simpa using hk
      rw [tranAt_range len T k hk']
      have h1 := (hT k hk').2
      have h2 : Rows.uptoBulk (D k) ≤ Rows.uptoBulkAll ((List.range len).map D) := bulk_part (List.mem_map.2 ⟨k, by simpa using hk', rfl⟩)
      simp only [Rows.uptoBulk]
      omega

theorem net_read {H : Type} {enc : TypeId × Value → H} {W : World} {base : Nat} {v : Value} {d : DataW H} {p : List MemPlace}
    (hval : Value.okWide Try.prog W .any base 24 v) (h : DataW.Trod enc Try.prog W 0 (fun _ => true) true 24 v d p) (hw : Fits 24 d) :
    ∃ n, Net W v n ∧ n.trans.length + 1 ≤ Rows.uptoBulk d ∧ ∀ k, k < n.trans.length → (tranAt n.trans k).pre.length + (tranAt n.trans k).post.length + 1 ≤ Rows.uptoBulk d := by
  obtain ⟨c0, c1, y0, y1, n, rfl, rfl, _, h0, h1⟩ := open_agg2 Try.underlying24 (by kernel_rfl) cells_net hval h
  obtain ⟨l, e0, _, _⟩ := DataW.trod_int Try.underlying3 h0
  simp only [List.cons.injEq, and_true] at e0
  subst e0
  obtain ⟨ts, hts, b1, b2⟩ := trans_read h1 (fun x hx => hw x (by
    simp only [DataW.weights, Try.underlying24, DataW.weightsEach, List.map_cons, List.mem_append]
    exact .inr (.inl hx)))
  refine ⟨⟨l, ts⟩, ⟨_, rfl, hts⟩, ?_, fun k hk => ?_⟩
  · simp only [Rows.uptoBulk, Rows.uptoBulkAll]; omega
  · have := b2 k hk
    simp only [Rows.uptoBulk, Rows.uptoBulkAll]; omega

end Go.Proofs.Ytakgppoeikcepaa
