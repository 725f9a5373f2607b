import Derived.WalkKit
import Derived.Below
import Derived.Deep.QuietTactic
import Derived.BigQuiet
import Derived.Deep.DeepCutAuto
import Derived.Deep.LoopGhost
import Derived.Deep.RegionHeld3
import Derived.Laws.AppendOwnNone
import Derived.Test.YtakgppoeikcepaaProg
import Derived.Lib.AppendZeros
/- Plain words for what a slice of ints holds in memory, kept by whatever writes nothing that was there. -/
namespace Go.Proofs.Ytakgppoeikcepaa
open Go.RowKit

/-- How many are at a place. -/
def nth (xs : List Int) (p : Nat) : Int := xs.getD p 0

theorem nth_past (xs : List Int) (p : Nat) (h : xs.length ≤ p) : nth xs p = 0 := by
  unfold nth; simp [List.getD, List.getElem?_eq_none h]

theorem ret_int {k : IntKind} {a b : Int} (h : a = b) : Ending.returned (.int k a) = .returned (.int k b) := by rw [h]
theorem ret_bool {a b : Bool} (h : a = b) : Ending.returned (.bool a) = .returned (.bool b) := by rw [h]

theorem addr_add (b off j : Nat) : (⟨b, off, none⟩ : Addr).add j = ⟨b, off + j, none⟩ := by
  unfold Addr.add
  by_cases h : j = 0 <;> simp [h]

/-- Where a slice of ints begins, and what its elements are. -/
def Row (w : World) (a : Option Addr) (xs : List Int) : Prop :=
  ∀ j, j < xs.length → ∃ b off, a = some ⟨b, off, none⟩ ∧ b < w.heap.size ∧ w.cell? ⟨b, off + j, none⟩ = some (.int .i64 (nth xs j))

theorem Row.below {w w' : World} {a : Option Addr} {xs : List Int} (h : Row w a xs) (hb : Below w.heap.size w w') : Row w' a xs := by
  intro j hj
  obtain ⟨b, off, ha, hlt, hc⟩ := h j hj
  exact ⟨b, off, ha, Nat.lt_of_lt_of_le hlt hb.size, by rw [hb.cell (p := ⟨b, off + j, none⟩) hlt]; exact hc⟩

theorem Row.drewN {w : World} {a : Option Addr} {xs : List Int} (h : Row w a xs) (n : Nat) : Row (w.drewN n) a xs := by
  intro j hj
  obtain ⟨b, off, ha, hlt, hc⟩ := h j hj
  exact ⟨b, off, ha, by simpa using hlt, by simpa using hc⟩

theorem Row.nil (w : World) (a : Option Addr) : Row w a [] := fun j hj => absurd hj (by simp)

/-- What every slice keeps. -/
def Shape (a : Option Addr) (len cap : Nat) : Prop := len ≤ cap ∧ cap ≤ 9223372036854775807 ∧ (a = none → cap = 0)

/-- A value that is a slice of these ints; what it holds has room in a machine. -/
def Ints (w : World) (v : Value) (xs : List Int) : Prop :=
  ∃ a len cap, v = .slice a len cap ∧ xs.length = len ∧ len ≤ 17592186044416 ∧ Shape a len cap ∧ Row w a xs

theorem Ints.below {w w' : World} {v : Value} {xs : List Int} (h : Ints w v xs) (hb : Below w.heap.size w w') : Ints w' v xs := by
  obtain ⟨a, len, cap, e, hl, hm, hs, hr⟩ := h
  exact ⟨a, len, cap, e, hl, hm, hs, hr.below hb⟩

theorem Ints.drewN {w : World} {v : Value} {xs : List Int} (h : Ints w v xs) (n : Nat) : Ints (w.drewN n) v xs := by
  obtain ⟨a, len, cap, e, hl, hm, hs, hr⟩ := h
  exact ⟨a, len, cap, e, hl, hm, hs, hr.drewN n⟩

/-- All but the first. -/
theorem ints_tail {w : World} {b off len cap : Nat} {t : Int} {ts : List Int} (hr : Row w (some ⟨b, off, none⟩) (t :: ts)) (hl : ts.length + 1 = len) (hm : len ≤ 17592186044416) (hs : Shape (some ⟨b, off, none⟩) len cap) :
    Ints w (.slice (if cap = 1 then some ⟨b, off, none⟩ else some ⟨b, off + 1, none⟩) (len - 1) (cap - 1)) ts := by
  obtain ⟨h1, h2, _⟩ := hs
  refine ⟨_, _, _, rfl, by omega, by omega, ⟨by omega, by omega, fun h => by split at h <;> cases h⟩, fun j hj => ?_⟩
  have hc : ¬ cap = 1 := by omega
  obtain ⟨b', off', e, hlt, hc'⟩ := hr (j + 1) (by simp; omega)
  injection e with e
  injection e with e1 e2
  subst e1 e2
  refine ⟨b, off + 1, by rw [if_neg hc], hlt, ?_⟩
  rw [show off + 1 + j = off + (j + 1) by omega, hc']
  simp [nth]

theorem Ints.nil (w : World) : Ints w (.slice none 0 0) [] := ⟨none, 0, 0, rfl, rfl, by omega, ⟨by omega, by omega, fun _ => rfl⟩, Row.nil _ _⟩

theorem below_drewN {B : Nat} {a w : World} (h : Below B a w) (n : Nat) : Below B a (w.drewN n) := by
  induction n generalizing w with
  | zero => exact h
  | succ n ih => exact (ih h).drew

theorem below_then {w w1 w2 : World} (h : Below w.heap.size w w1) (k : Below w1.heap.size w1 w2) : Below w.heap.size w w2 := h.trans (k.mono h.size)
theorem below_new (w : World) (o : Obj) : Below w.heap.size w (w.alloc o) := (Below.refl _ _).alloc (Nat.le_refl _) _

theorem below_of_drewN {w w' : World} (h : ∃ m, w' = w.drewN m) : Below w.heap.size w w' := by
  obtain ⟨m, rfl⟩ := h; exact below_drewN (Below.refl _ _) m

/-- A row of n ints that the call itself made, at block B, whose first k are those of zs, and the rest 0; nothing older has turned. -/
structure Filled (B : Nat) (w wr : World) (n k : Nat) (zs : List Int) : Prop where
  cells : ∀ j, j < n → wr.cell? ⟨B, j, none⟩ = some (.int .i64 (if j < k then nth zs j else 0))
  frozen : ∀ j, j < n → wr.frozen? ⟨B, j, none⟩ = false
  below : Below B w wr
  size : B < wr.heap.size

theorem Filled.step {B : Nat} {w wr : World} {n k : Nat} {zs : List Int} (h : Filled B w wr n k zs) (hk : k < n) {x : Int} (hx : nth zs k = x) : Filled B w (wr.setCell ⟨B, k, none⟩ (.int .i64 x)) n (k + 1) zs := by
  refine ⟨fun j hj => ?_, fun j hj => by rw [World.frozen?_setCell]; exact h.frozen j hj, h.below.setCell (Nat.le_refl _) _, by simpa [World.setCell] using h.size⟩
  by_cases e : j = k
  · subst e
    rw [World.cell?_setCell_same _ _ _ (h.cells j hj), if_pos (by omega), hx]
  · rw [World.cell?_setCell_other _ _ _ _ (by intro q; apply e; injection q with _ q2; exact q2.symm), h.cells j hj]
    congr 2
    by_cases hjk : j < k
    · rw [if_pos hjk, if_pos (by omega)]
    · rw [if_neg hjk, if_neg (by omega)]

theorem Filled.done {B : Nat} {w wr : World} {n : Nat} {zs : List Int} (h : Filled B w wr n n zs) (hl : zs.length = n) (hn : n ≤ 17592186044416) {cap : Nat} (hc : n ≤ cap) (hc2 : cap ≤ 9223372036854775807) : Ints wr (.slice (some ⟨B, 0, none⟩) n cap) zs :=
  ⟨_, _, _, rfl, hl, hn, ⟨hc, hc2, fun h => by cases h⟩, fun j hj => ⟨B, 0, rfl, h.size, by rw [Nat.zero_add, h.cells j (by omega), if_pos (by omega)]⟩⟩

theorem ints_lit (w : World) (b : Nat) (zs : List Int) (t : TypeId) (n : Nat) (hn : zs.length = n) (h : n ≤ 17592186044416) (hb : b = w.heap.size) :
    Ints (w.alloc (.cells (zs.map (Value.int .i64)).toArray t)) (.slice (some ⟨b, 0, none⟩) n n) zs := by
  subst hb
  refine ⟨_, _, _, rfl, hn, h, ⟨by omega, by omega, fun h => by cases h⟩, fun j hj => ⟨w.heap.size, 0, rfl, by simp, ?_⟩⟩
  rw [World.cell?_alloc_at _ _ _ _ rfl]
  simp [nth, List.getD, List.getElem?_eq_getElem hj]

end Go.Proofs.Ytakgppoeikcepaa

/- The order of words: shorter ones first, then letter by letter. -/
namespace Go.Proofs.Ytakgppoeikcepaa
set_option linter.unusedVariables false
set_option maxRecDepth 4000

/-- Letter by letter. -/
def LexI : List Int → List Int → Prop
  | a :: u, b :: v => a < b ∨ (a = b ∧ LexI u v)
  | _, _ => False
/-- Shorter, or as long and less. -/
def SLex (u v : List Int) : Prop := u.length < v.length ∨ (u.length = v.length ∧ LexI u v)

theorem LexI.irrefl : ∀ (u : List Int), ¬ LexI u u
  | [], h => h
  | a :: u, h => by rcases h with h | ⟨_, h⟩; exact absurd h (Int.lt_irrefl _); exact LexI.irrefl u h
theorem LexI.trans : ∀ {u v x : List Int}, LexI u v → LexI v x → LexI u x
  | a :: u, b :: v, c :: x, h, k => by
    rcases h with h | ⟨rfl, h⟩ <;> rcases k with k | ⟨rfl, k⟩
    · exact .inl (Int.lt_trans h k)
    · exact .inl h
    · exact .inl k
    · exact .inr ⟨rfl, h.trans k⟩
  | [], _, _, h, _ => h.elim
  | _ :: _, [], _, h, _ => h.elim
  | _ :: _, _ :: _, [], _, k => k.elim
theorem LexI.total : ∀ {u v : List Int}, u.length = v.length → LexI u v ∨ u = v ∨ LexI v u
  | [], [], _ => .inr (.inl rfl)
  | a :: u, b :: v, h => by
    rcases Int.lt_trichotomy a b with q | rfl | q
    · exact .inl (.inl q)
    · rcases LexI.total (u := u) (v := v) (by simpa using h) with r | rfl | r
      · exact .inl (.inr ⟨rfl, r⟩)
      · exact .inr (.inl rfl)
      · exact .inr (.inr (.inr ⟨rfl, r⟩))
    · exact .inr (.inr (.inl q))
  | [], _ :: _, h => by simp at h
  | _ :: _, [], h => by simp at h
theorem LexI.snoc {a b : Int} : ∀ {u v : List Int}, LexI u v → LexI (u ++ [a]) (v ++ [b])
  | x :: u, y :: v, h => by
    rcases h with h | ⟨rfl, h⟩
    · exact .inl h
    · exact .inr ⟨rfl, h.snoc⟩
  | [], _, h => h.elim
  | _ :: _, [], h => h.elim
theorem LexI.last {a b : Int} (h : a < b) : ∀ (u : List Int), LexI (u ++ [a]) (u ++ [b])
  | [] => .inl h
  | x :: u => .inr ⟨rfl, LexI.last h u⟩
theorem SLex.irrefl (u : List Int) : ¬ SLex u u := fun h => by
  rcases h with h | ⟨_, h⟩
  · omega
  · exact LexI.irrefl u h
theorem SLex.trans {u v x : List Int} (h : SLex u v) (k : SLex v x) : SLex u x := by
  rcases h with h | ⟨h1, h2⟩ <;> rcases k with k | ⟨k1, k2⟩
  · exact .inl (by omega)
  · exact .inl (by omega)
  · exact .inl (by omega)
  · exact .inr ⟨by omega, h2.trans k2⟩
theorem SLex.asymm {u v : List Int} (h : SLex u v) : ¬ SLex v u := fun k => SLex.irrefl u (h.trans k)
theorem SLex.len {u v : List Int} (h : SLex u v) : u.length ≤ v.length := by rcases h with h | ⟨h, _⟩ <;> omega
/-- A list that rises is one by its members. -/
theorem slex_unique : ∀ {l m : List (List Int)}, l.Pairwise SLex → m.Pairwise SLex → (∀ x, x ∈ l ↔ x ∈ m) → l = m
  | [], [], _, _, _ => rfl
  | [], y :: m, _, _, h => by have := (h y).2 (by simp); cases this
  | x :: l, [], _, _, h => by have := (h x).1 (by simp); cases this
  | x :: l, y :: m, hl, hm, h => by
    obtain ⟨l1, l2⟩ := List.pairwise_cons.1 hl
    obtain ⟨m1, m2⟩ := List.pairwise_cons.1 hm
    have e : x = y := by
      rcases List.mem_cons.1 ((h x).1 (by simp)) with q | q
      · exact q
      · rcases List.mem_cons.1 ((h y).2 (by simp)) with r | r
        · exact r.symm
        · exact absurd (m1 x q) (l1 y r).asymm
    subst e
    rw [slex_unique l2 m2 fun z => ?_]
    constructor
    · intro hz
      rcases List.mem_cons.1 ((h z).1 (List.mem_cons_of_mem _ hz)) with q | q
      · subst q; exact absurd (l1 z hz) (SLex.irrefl z)
      · exact q
    · intro hz
      rcases List.mem_cons.1 ((h z).2 (List.mem_cons_of_mem _ hz)) with q | q
      · subst q; exact absurd (m1 z hz) (SLex.irrefl z)
      · exact q
theorem slex_nodup : ∀ {l : List (List Int)}, l.Pairwise SLex → l.Nodup
  | [], _ => List.nodup_nil
  | a :: l, h => List.nodup_cons.2 ⟨fun hm => SLex.irrefl a ((List.pairwise_cons.1 h).1 a hm), slex_nodup (List.pairwise_cons.1 h).2⟩
theorem nodup_lists {l1 : List (List Int)} : ∀ {l2 : List (List Int)}, l1.Nodup → (∀ x ∈ l1, x ∈ l2) → l1.length ≤ l2.length := by
  induction l1 with
  | nil => intro l2 _ _; exact Nat.zero_le _
  | cons x l1 ih =>
    intro l2 hn hs
    obtain ⟨h1, h2⟩ := List.nodup_cons.1 hn
    have := ih (l2 := l2.erase x) h2 fun y hy => (List.mem_erase_of_ne (fun e => h1 (by rw [← e]; exact hy))).2 (hs y (by simp [hy]))
    rw [List.length_erase_of_mem (hs x (by simp))] at this
    have h0 : 0 < l2.length := List.length_pos_of_mem (hs x (by simp))
    simp only [List.length_cons]
    omega

end Go.Proofs.Ytakgppoeikcepaa

/- Plain words for what a net holds in memory. -/
namespace Go.Proofs.Ytakgppoeikcepaa
open Go.RowKit
set_option linter.unusedVariables false
set_option maxRecDepth 4000

/-- A transition. -/
structure TranL where
  label : Int
  pre : List Int
  post : List Int

/-- A net. -/
structure NetL where
  places : Int
  trans : List TranL

def noTran : TranL := ⟨0, [], []⟩
def tranAt (ts : List TranL) (k : Nat) : TranL := ts.getD k noTran

/-- Three cells that are a transition. -/
def IsTran (w : World) (c0 c1 c2 : Value) (t : TranL) : Prop := c0 = .int .i64 t.label ∧ Ints w c1 t.pre ∧ Ints w c2 t.post

theorem IsTran.below {w w' : World} {c0 c1 c2 : Value} {t : TranL} (h : IsTran w c0 c1 c2 t) (hb : Below w.heap.size w w') : IsTran w' c0 c1 c2 t :=
  ⟨h.1, h.2.1.below hb, h.2.2.below hb⟩

/-- Where a slice of transitions begins, and what they are. -/
def TranRow (w : World) (a : Option Addr) (ts : List TranL) : Prop :=
  ∀ j, j < ts.length → ∃ b off c1 c2, a = some ⟨b, off, none⟩ ∧ b < w.heap.size ∧ w.cell? ⟨b, off + j * 3, none⟩ = some (.int .i64 (tranAt ts j).label) ∧
    w.cell? ⟨b, off + j * 3 + 1, none⟩ = some c1 ∧ w.cell? ⟨b, off + j * 3 + 2, none⟩ = some c2 ∧ Ints w c1 (tranAt ts j).pre ∧ Ints w c2 (tranAt ts j).post

theorem TranRow.below {w w' : World} {a : Option Addr} {ts : List TranL} (h : TranRow w a ts) (hb : Below w.heap.size w w') : TranRow w' a ts := by
  intro j hj
  obtain ⟨b, off, c1, c2, ha, hlt, h0, h1, h2, h3, h4⟩ := h j hj
  exact ⟨b, off, c1, c2, ha, Nat.lt_of_lt_of_le hlt hb.size, by rw [hb.cell (p := ⟨b, _, none⟩) hlt]; exact h0, by rw [hb.cell (p := ⟨b, _, none⟩) hlt]; exact h1, by rw [hb.cell (p := ⟨b, _, none⟩) hlt]; exact h2, h3.below hb, h4.below hb⟩

/-- A value that is a slice of these transitions. -/
def Trans (w : World) (v : Value) (ts : List TranL) : Prop :=
  ∃ a len cap, v = .slice a len cap ∧ ts.length = len ∧ len ≤ 2513169434916 ∧ Shape a len cap ∧ TranRow w a ts

theorem Trans.below {w w' : World} {v : Value} {ts : List TranL} (h : Trans w v ts) (hb : Below w.heap.size w w') : Trans w' v ts := by
  obtain ⟨a, len, cap, e, hl, hm, hs, hr⟩ := h
  exact ⟨a, len, cap, e, hl, hm, hs, hr.below hb⟩

theorem Trans.at {w : World} {a : Option Addr} {len cap : Nat} {ts : List TranL} (h : Trans w (.slice a len cap) ts) {k : Nat} (hk : k < len) :
    ∃ b off c1 c2, a = some ⟨b, off, none⟩ ∧ b < w.heap.size ∧ w.cell? ⟨b, off + k * 3, none⟩ = some (.int .i64 (tranAt ts k).label) ∧
      w.cell? ⟨b, off + k * 3 + 1, none⟩ = some c1 ∧ w.cell? ⟨b, off + k * 3 + 2, none⟩ = some c2 ∧ Ints w c1 (tranAt ts k).pre ∧ Ints w c2 (tranAt ts k).post := by
  obtain ⟨a', len', cap', e, hl, hm, hs, hr⟩ := h
  injection e with e1 e2 e3
  subst e1 e2 e3
  exact hr k (by omega)

theorem trans_lit2 (w : World) (b : Nat) (c1 c2 d1 d2 : Value) (p1 q1 p2 q2 : List Int) (l1 l2 : Int) (t : TypeId) (h1 : Ints w c1 p1) (h2 : Ints w c2 q1) (h3 : Ints w d1 p2) (h4 : Ints w d2 q2) (hb : b = w.heap.size) :
    Trans (w.alloc (.cells #[.int .i64 l1, c1, c2, .int .i64 l2, d1, d2] t)) (.slice (some ⟨b, 0, none⟩) 2 2) [⟨l1, p1, q1⟩, ⟨l2, p2, q2⟩] := by
  subst hb
  have hn := below_new w (.cells #[.int .i64 l1, c1, c2, .int .i64 l2, d1, d2] t)
  refine ⟨_, _, _, rfl, rfl, by omega, ⟨by omega, by omega, fun h => by cases h⟩, fun j hj => ?_⟩
  match j, hj with
  | 0, _ => exact ⟨w.heap.size, 0, c1, c2, rfl, by simp, by rw [World.cell?_alloc_at _ _ _ _ rfl]; rfl, by rw [World.cell?_alloc_at _ _ _ _ rfl]; rfl, by rw [World.cell?_alloc_at _ _ _ _ rfl]; rfl, h1.below hn, h2.below hn⟩
  | 1, _ => exact ⟨w.heap.size, 0, d1, d2, rfl, by simp, by rw [World.cell?_alloc_at _ _ _ _ rfl]; rfl, by rw [World.cell?_alloc_at _ _ _ _ rfl]; rfl, by rw [World.cell?_alloc_at _ _ _ _ rfl]; rfl, h3.below hn, h4.below hn⟩
  | j + 2, h => simp at h; omega

/-- A value that is this net. -/
def Net (w : World) (v : Value) (n : NetL) : Prop := ∃ tv, v = .agg #[.int .i64 n.places, tv] ∧ Trans w tv n.trans

theorem Net.below {w w' : World} {v : Value} {n : NetL} (h : Net w v n) (hb : Below w.heap.size w w') : Net w' v n := by
  obtain ⟨tv, e, ht⟩ := h
  exact ⟨tv, e, ht.below hb⟩

/-- A net that is not great. -/
def BulkNet (n : NetL) : Prop := n.trans.length ≤ 1048576 ∧ ∀ k, k < n.trans.length → (tranAt n.trans k).pre.length + (tranAt n.trans k).post.length ≤ 1048576

/-- No transition has so much that it has no room. -/
def SmallNet (n : NetL) : Prop := ∀ k, k < n.trans.length → (tranAt n.trans k).pre.length + (tranAt n.trans k).post.length ≤ 17592186044416

theorem BulkNet.small {n : NetL} (h : BulkNet n) : SmallNet n := fun k hk => Nat.le_trans (h.2 k hk) (by omega)

/-- A slice of slices of ints. -/
def Lists (w : World) (v : Value) (ls : List (List Int)) : Prop :=
  ∃ a len cap, v = .slice a len cap ∧ ls.length = len ∧ len ≤ 17592186044416 ∧ Shape a len cap ∧
    ∀ j, j < ls.length → ∃ b off u, a = some ⟨b, off, none⟩ ∧ b < w.heap.size ∧ w.cell? ⟨b, off + j, none⟩ = some u ∧ Ints w u (ls.getD j [])

theorem Lists.below {w w' : World} {v : Value} {ls : List (List Int)} (h : Lists w v ls) (hb : Below w.heap.size w w') : Lists w' v ls := by
  obtain ⟨a, len, cap, e, hl, hm, hs, hr⟩ := h
  refine ⟨a, len, cap, e, hl, hm, hs, fun j hj => ?_⟩
  obtain ⟨b, off, u, ha, hlt, hc, hu⟩ := hr j hj
  exact ⟨b, off, u, ha, Nat.lt_of_lt_of_le hlt hb.size, by rw [hb.cell (p := ⟨b, _, none⟩) hlt]; exact hc, hu.below hb⟩

theorem lists_lit2 (w : World) (b : Nat) (x y : Value) (xs ys : List Int) (t : TypeId) (hx : Ints w x xs) (hy : Ints w y ys) (hb : b = w.heap.size) :
    Lists (w.alloc (.cells #[x, y] t)) (.slice (some ⟨b, 0, none⟩) 2 2) [xs, ys] := by
  subst hb
  have hn := below_new w (.cells #[x, y] t)
  refine ⟨_, _, _, rfl, rfl, by omega, ⟨by omega, by omega, fun h => by cases h⟩, fun j hj => ?_⟩
  match j, hj with
  | 0, _ => exact ⟨w.heap.size, 0, x, rfl, by simp, by rw [World.cell?_alloc_at _ _ _ _ rfl]; rfl, hx.below hn⟩
  | 1, _ => exact ⟨w.heap.size, 0, y, rfl, by simp, by rw [World.cell?_alloc_at _ _ _ _ rfl]; rfl, hy.below hn⟩
  | j + 2, h => simp at h; omega

end Go.Proofs.Ytakgppoeikcepaa

/- Structs of two and of three cells, in a box. -/
namespace Go.Proofs.Ytakgppoeikcepaa
open Go.RowKit
set_option linter.unusedVariables false
set_option maxRecDepth 4000

/-- Two cells of a block. -/
def Box2 (w : World) (b : Nat) (x y : Value) : Prop := b < w.heap.size ∧ w.cell? ⟨b, 0, none⟩ = some x ∧ w.cell? ⟨b, 1, none⟩ = some y
theorem Box2.below {w w' : World} {b : Nat} {x y : Value} (h : Box2 w b x y) (hb : Below w.heap.size w w') : Box2 w' b x y :=
  ⟨Nat.lt_of_lt_of_le h.1 hb.size, by rw [hb.cell (p := ⟨b, _, none⟩) h.1]; exact h.2.1, by rw [hb.cell (p := ⟨b, _, none⟩) h.1]; exact h.2.2⟩
theorem box2_new (w : World) (x y : Value) (t : TypeId) : Box2 (w.alloc (.cells #[x, y] t)) w.heap.size x y :=
  ⟨by simp, by rw [World.cell?_alloc_at _ _ _ _ rfl]; rfl, by rw [World.cell?_alloc_at _ _ _ _ rfl]; rfl⟩

/-- Three cells of a block. -/
def Box3 (w : World) (b : Nat) (x y z : Value) : Prop := b < w.heap.size ∧ w.cell? ⟨b, 0, none⟩ = some x ∧ w.cell? ⟨b, 1, none⟩ = some y ∧ w.cell? ⟨b, 2, none⟩ = some z
theorem Box3.below {w w' : World} {b : Nat} {x y z : Value} (h : Box3 w b x y z) (hb : Below w.heap.size w w') : Box3 w' b x y z :=
  ⟨Nat.lt_of_lt_of_le h.1 hb.size, by rw [hb.cell (p := ⟨b, _, none⟩) h.1]; exact h.2.1, by rw [hb.cell (p := ⟨b, _, none⟩) h.1]; exact h.2.2.1, by rw [hb.cell (p := ⟨b, _, none⟩) h.1]; exact h.2.2.2⟩
theorem box3_new (w : World) (x y z : Value) (t : TypeId) : Box3 (w.alloc (.cells #[x, y, z] t)) w.heap.size x y z :=
  ⟨by simp, by rw [World.cell?_alloc_at _ _ _ _ rfl]; rfl, by rw [World.cell?_alloc_at _ _ _ _ rfl]; rfl, by rw [World.cell?_alloc_at _ _ _ _ rfl]; rfl⟩

end Go.Proofs.Ytakgppoeikcepaa

/- A slice of ints that the call itself has made: 'make', and 'append' of one number. -/
namespace Go.Proofs.Ytakgppoeikcepaa
open Go.RowKit
set_option linter.unusedVariables false
set_option maxRecDepth 4000

theorem info_int : (Try.prog.info? 3).map (fun i => (i.zero, i.size, i.bytes)) = some (some (.int .i64 0), 1, 8) := by kernel_rfl

theorem make_ints (w : World) (n : Nat) (hn : n ≤ 17592186044416) :
    ∃ w1, (Instr.makeSlice 25 (.int .i64 (n : Int)) (.int .i64 (n : Int))).run Try.prog w = .ok (.slice (some ⟨w.heap.size, 0, none⟩) n n) w1 ∧
      Below w.heap.size w w1 ∧ w.heap.size < w1.heap.size ∧ ∀ j, j < n → w1.cell? ⟨w.heap.size, j, none⟩ = some (.int .i64 0) ∧ w1.frozen? ⟨w.heap.size, j, none⟩ = false := by
  obtain ⟨i0, hi, hz0, hz1, hz2⟩ := info_parts info_int
  have h := run_make (P := Try.prog) w 25 3 i0 (.int .i64 0) Try.underlying25 hi hz0 .i64 .i64 n n (by omega) (by omega) (by rw [hz2]; omega) (by omega)
  simp only [Int.toNat_natCast] at h
  refine ⟨_, h, (Below.refl _ _).alloc (Nat.le_refl _) _, by simp, fun j hj => ⟨?_, ?_⟩⟩
  · rw [World.cell?_alloc_at _ _ _ _ rfl]
    simp [madeCells, hz1, Value.cells, hj, Nat.mod_one]
  · exact World.frozen?_alloc_at _ _ _ _ rfl

/-- A slice of these ints, nil or in a block from B on; nothing older has turned. -/
def Own (B : Nat) (w wr : World) (v : Value) (zs : List Int) : Prop :=
  wr.ownsRow B 3 1 v zs.length (zs.map (Value.int .i64)) ∧ Below B w wr ∧ B ≤ wr.heap.size

theorem Own.nil (w : World) : Own w.heap.size w w (.slice none 0 0) [] := ⟨World.ownsRow_nil _ _ _ _, Below.refl _ _, Nat.le_refl _⟩

theorem Own.nil_of {B : Nat} {w wr : World} (hb : Below B w wr) (hB : B ≤ wr.heap.size) : Own B w wr (.slice none 0 0) [] := ⟨World.ownsRow_nil _ _ _ _, hb, hB⟩

theorem Own.ints {B : Nat} {w wr : World} {v : Value} {zs : List Int} (h : Own B w wr v zs) (hl : zs.length ≤ 17592186044416) : Ints wr v zs := by
  obtain ⟨hown, hb, hB⟩ := h
  have hown0 := hown
  obtain ⟨_, hcase⟩ := hown
  rcases hcase with ⟨rfl, h0⟩ | ⟨g, cap', cur, rfl, hg, hh, hn, hcap, hsz, htake⟩
  · exact ⟨none, zs.length, 0, by rw [h0], rfl, hl, ⟨by omega, by omega, fun _ => rfl⟩, fun j hj => absurd hj (by omega)⟩
  · refine ⟨_, _, _, rfl, rfl, hl, ⟨hn, by unfold maxLen at hcap; omega, fun h => by cases h⟩, fun j hj => ⟨g, 0, rfl, ?_, ?_⟩⟩
    · rcases Nat.lt_or_ge g wr.heap.size with h | h
      · exact h
      · rw [Array.getElem?_eq_none h] at hh; cases hh
    · rw [Nat.zero_add, hown0.cellAt j (by omega)]
      simp [nth, List.getD, List.getElem?_eq_getElem hj]

theorem Own.trans {B : Nat} {w wr w2 : World} {v : Value} {zs : List Int} (h : Own B w wr v zs) (hb : Below wr.heap.size wr w2) : Own B w w2 v zs := by
  obtain ⟨hown, hb0, hB⟩ := h
  have hlt := hown.lt
  refine ⟨hown.kept (row := none) ⟨hb.os, hb.tape, hb.output, hb.size, fun k hk _ => hb.block k hk⟩ ?_, hb0.trans (hb.mono hB), Nat.le_trans hB hb.size⟩
  cases hv : v.ownBlock with
  | none => exact .inl rfl
  | some k => exact .inr (by simp)

theorem wp_append_int {ops : Array Oper} {rest : List Oper} {o : Oper} {a : Act} {Q : Exit → Act → World → Prop} (hgd : o.guard = none) (s x : Operand)
    (ho : o.op = .call { callee := .builtin .append, args := #[s, x], argTypes := #[25, 25] }) (B : Nat) (w wr : World) (v : Value) (zs : List Int) (z : Int) (hG : Own B w wr v zs)
    (hs : a.eval s = v) (hx : a.eval x = .slice (some ⟨wr.heap.size, 0, none⟩) 1 1) (hl : zs.length + 1 ≤ 17592186044416)
    (h : ∀ v' w', Own B w w' v' (zs ++ [z]) → wpList Try.prog ops Q rest (a.put o.dst v') w') : wpList Try.prog ops Q (o :: rest) a (wr.alloc (.cells #[.int .i64 z] 3)) := by
  obtain ⟨i0, hi, hz0, hz1, hz2⟩ := info_parts info_int
  obtain ⟨hown, hb, hB⟩ := hG
  refine wpList_append_own _ hgd s x 25 ho B 3 i0 (.int .i64 0) 1 8 Try.underlying25 hi hz0 hz1 hz2 rfl (by decide) v zs.length _ hs (hown.alloc _) ⟨wr.heap.size, 0, none⟩ 1 1 [.int .i64 z] hx rfl ?_ ?_ ?_ ?_ ?_ ?_
  · intro j u hj
    match j, hj with
    | 0, hj => simp at hj; subst hj; simp [Addr.add]
  · intro u hu; simp at hu; subst hu; rfl
  · unfold maxLen; omega
  · omega
  · simp; omega
  · intro v' w' hown' hgrow _
    refine h v' w' ⟨by simpa using hown', (hb.alloc hB _).grown hgrow (by simp; omega) (fun k hk => (hown.lt k hk).1), ?_⟩
    have := hgrow.size; simp at this; omega

/-- append of all of another slice. -/
theorem wp_append_ints {ops : Array Oper} {rest : List Oper} {o : Oper} {a : Act} {Q : Exit → Act → World → Prop} (hgd : o.guard = none) (s x : Operand)
    (ho : o.op = .call { callee := .builtin .append, args := #[s, x], argTypes := #[25, 25] }) (B : Nat) (w wr : World) (v u : Value) (zs ys : List Int) (hG : Own B w wr v zs)
    (hs : a.eval s = v) (hx : a.eval x = u) (hu : Ints wr u ys) (hl : zs.length + ys.length ≤ 17592186044416)
    (h : ∀ v' w', Own B w w' v' (zs ++ ys) → wpList Try.prog ops Q rest (a.put o.dst v') w') : wpList Try.prog ops Q (o :: rest) a wr := by
  obtain ⟨i0, hi, hz0, hz1, hz2⟩ := info_parts info_int
  obtain ⟨ax, len, cap, rfl, hlen, hmx, hsh, hr⟩ := hu
  have hG0 := hG
  obtain ⟨hown, hb, hB⟩ := hG
  cases ax with
  | none =>
    have hc0 : cap = 0 := hsh.2.2 rfl
    have hl0 : len = 0 := by have := hsh.1; omega
    subst hc0 hl0
    have hy : ys = [] := List.length_eq_zero_iff.1 hlen
    subst hy
    exact wpList_append_own_none hgd s x 25 ho B 3 i0 1 Try.underlying25 hi v zs.length _ hs hown hx (h v wr (by simpa using hG0))
  | some ad =>
    refine wpList_append_own _ hgd s x 25 ho B 3 i0 (.int .i64 0) 1 8 Try.underlying25 hi hz0 hz1 hz2 rfl (by decide) v zs.length _ hs hown ad len cap (ys.map (Value.int .i64)) hx (by simp [hlen]) ?_ ?_ ?_ ?_ hB ?_
    · intro j u hj
      have hjl : j < ys.length := by
        rcases Nat.lt_or_ge j ys.length with h1 | h1
        · exact h1
        · rw [List.getElem?_eq_none (by simpa using h1)] at hj; cases hj
      obtain ⟨b, off, e, hlt, hc⟩ := hr j hjl
      injection e with e
      subst e
      rw [addr_add, hc]
      simp [List.getElem?_eq_getElem hjl] at hj
      subst hj
      simp [nth, List.getD, List.getElem?_eq_getElem hjl]
    · intro u hu
      obtain ⟨z, _, rfl⟩ := List.mem_map.1 hu
      rfl
    · unfold maxLen; omega
    · omega
    · intro v' w' hown' hgrow _
      refine h v' w' ⟨by simpa [hlen] using hown', hb.grown hgrow hB (fun k hk => (hown.lt k hk).1), Nat.le_trans hB hgrow.size⟩

end Go.Proofs.Ytakgppoeikcepaa

/- What functions of package slices answer over slices of ints. -/
namespace Go.Proofs.Ytakgppoeikcepaa
open Go.RowKit
set_option linter.unusedVariables false
set_option maxRecDepth 4000

set_option maxHeartbeats 400000 in
theorem grow_nil (n : Nat) (w : World) (hn : n ≤ 17592186044416) :
    Calls Try.prog 84 #[.slice none 0 0, .int .i64 n] w fun e w' => ∃ r, e = .returned r ∧ Own w.heap.size w w' r [] := by
  by_cases h0 : n = 0
  · subst h0
    go_enter Try.func84, Try.ntmps84
    go_wp2
    go_ret
    exact ⟨_, rfl, Own.nil _⟩
  · obtain ⟨i0, hi, hz0, hz1, hz2⟩ := info_parts info_int
    have hpos : 0 < n := by omega
    have hrun := fun ty => Lib.run_append_nil_zeros (P := Try.prog) w 25 3 ty 3 i0 (.int .i64 0) .i64 .i64 Try.underlying25 Try.underlying3 hi hz0 n hpos (by rw [hz1]; decide) (by omega) (by rw [hz2]; omega)
    have hge := grownCap_ge w n 0 3
    have hle := grownCap_le_maxLen w n 0 3 (by unfold maxLen; omega)
    have Hge : Hid (n ≤ grownCap w n 0 3) := hge
    have Hle : Hid (grownCap w n 0 3 ≤ maxLen) := hle
    have Hrun : Hid _ := hrun
    clear hrun hge hle hi hz0 hz1 hz2
    generalize grownCap w n 0 3 = cp at *
    go_enter Try.func84, Try.ntmps84
    go_wp2_with (at_builtin; refine Lib.wpList_append_run _ rfl _ _ _ _ rfl _ _ rfl rfl _ _ (Hrun.out _) ?_)
    go_ret
    refine ⟨_, rfl, ?_, ?_, ?_⟩
    · exact World.ownsRow.drew (World.ownsRow_made w _ _ (Nat.le_refl _) Hle.out (by have := Hge.out; simp [size_zeroCells]; omega))
    · exact (below_new w _).drew
    · simp

theorem flatten_take_succ (ls : List (List Int)) (k : Nat) (h : k < ls.length) : (ls.take (k + 1)).flatten = (ls.take k).flatten ++ ls.getD k [] := by
  rw [List.take_succ_eq_append_getElem h, List.flatten_append]
  simp [List.getD, List.getElem?_eq_getElem h]
theorem flatten_take_le (ls : List (List Int)) (k : Nat) : (ls.take k).flatten.length ≤ ls.flatten.length := by
  conv => rhs; rw [← List.take_append_drop k ls, List.flatten_append, List.length_append]
  omega

set_option maxHeartbeats 400000 in
theorem concat_own (v : Value) (ls : List (List Int)) (w : World) (h : Lists w v ls) (hb : ls.flatten.length ≤ 17592186044416) :
    Calls Try.prog 77 #[v] w fun e w' => ∃ r, e = .returned r ∧ Own w.heap.size w w' r ls.flatten := by
  obtain ⟨a, len, cap, rfl, hlen, hmx, hsh, hr⟩ := h
  have Hr : Hid _ := hr
  have Hb : Hid _ := hb
  clear hr hb
  go_enter Try.func77, Try.ntmps77
  go_wp2
  go_loop [3, 11] (fun s i => ∃ k : Nat, k ≤ len ∧ i = .int .i64 k ∧ s = .int .i64 ((ls.take k).flatten.length : Nat)) (fun _ i => len - (intOf i).toNat)
  case atStart => exact ⟨0, Nat.zero_le _, rfl, rfl⟩
  case round =>
    obtain ⟨k, hk, rfl, rfl⟩ := hrel
    have Hle : Hid _ := flatten_take_le ls k
    by_cases hkn : k < len
    · obtain ⟨b, off, u, rfl, hlt, hc, hu⟩ := Hr.out k (by omega)
      obtain ⟨ax, lx, cx, rfl, hlx, hmx2, hsx, hrx⟩ := hu
      have Hle2 := flatten_take_le ls (k + 1)
      have Hstep : Hid ((ls.take (k + 1)).flatten.length = (ls.take k).flatten.length + lx) := by
        show _ = _
        rw [flatten_take_succ ls k (by omega), List.length_append, hlx]
      obtain ⟨sz, Hsz⟩ : ∃ sz, Hid ((ls.take k).flatten.length = sz) := ⟨_, rfl⟩
      have hsz : sz + lx ≤ 17592186044416 := by have := Hb.out; have := Hstep.out; have := Hsz.out; omega
      rw [Hsz.out]
      clear Hle2 hlx hrx Hle
      go_wp2
      go_round
      case rel => exact ⟨k + 1, by omega, by go_num, by rw [Hstep.out, Hsz.out]; go_num⟩
      case measure => simp [intOf]; omega
    · have hkl : k = len := by omega
      have hf : ls.take k = ls := List.take_of_length_le (by omega)
      rw [hf]
      clear hf Hle
      obtain ⟨sz, Hsz⟩ : ∃ sz, Hid (ls.flatten.length = sz) := ⟨_, rfl⟩
      rw [Hsz.out]
      have hsz : sz ≤ 17592186044416 := by have := Hb.out; have := Hsz.out; omega
      go_wp2_with fail
      refine (grow_nil sz _ hsz).mono ?_
      rintro e w1 ⟨r, rfl, hG⟩
      go_wp2_with fail
      go_loopw [6, 27] (fun o i wr => ∃ k : Nat, k ≤ len ∧ i = .int .i64 k ∧ Own w.heap.size w wr o (ls.take k).flatten) (fun _ i _ => len - (intOf i).toNat)
      case atStart => exact ⟨0, Nat.zero_le _, rfl, hG⟩
      case round =>
        clear hG hk hkn hkl
        obtain ⟨j, hj, rfl, hG⟩ := hrel
        by_cases hjn : j < len
        · obtain ⟨b, off, u, rfl, hlt, hc, hu⟩ := Hr.out j (by omega)
          have hc' := (hG.2.1.cell (p := ⟨b, off + j, none⟩) hlt).trans hc
          have hu' := hu.below hG.2.1
          have Hle2 := flatten_take_le ls (j + 1)
          have Hst := flatten_take_succ ls j (by omega)
          have HL : Hid ((ls.take j).flatten.length + (ls.getD j []).length ≤ 17592186044416) := by
            have := Hb.out; rw [Hst, List.length_append] at Hle2; show _ ≤ _; omega
          have HS : Hid _ := Hst
          clear Hle2 Hst hc hu
          go_wp2_with (at_builtin; refine wp_append_ints rfl _ _ rfl w.heap.size w _ _ u _ _ hG rfl rfl hu' HL.out ?_; intro v' w2 hG')
          have R : Own w.heap.size w w2 v' (ls.take (j + 1)).flatten := by rw [HS.out]; exact hG'
          clear hG hG' hu' hc'
          go_wp2
          go_roundw
          case rel => exact ⟨j + 1, by omega, by go_num, R⟩
          case measure => simp [intOf]; omega
        · have hf : ls.take j = ls := List.take_of_length_le (by omega)
          rw [hf] at hG
          go_wp2
          go_ret
          exact ⟨_, rfl, hG⟩

theorem concat_any (v : Value) (ls : List (List Int)) (w : World) (h : Lists w v ls) (hb : ls.flatten.length ≤ 17592186044416) :
    Calls Try.prog 77 #[v] w fun e w' => ∃ r, e = .returned r ∧ Ints w' r ls.flatten ∧ Below w.heap.size w w' :=
  (concat_own v ls w h hb).mono fun e w' ⟨r, he, hO⟩ => ⟨r, he, hO.ints hb, hO.2.1⟩

end Go.Proofs.Ytakgppoeikcepaa

/- A slice of transitions that the call itself has made. -/
namespace Go.Proofs.Ytakgppoeikcepaa
open Go.RowKit
set_option linter.unusedVariables false
set_option maxRecDepth 4000

/-- The cells of some transitions. -/
def tvCells (tv : List (Int × Value × Value)) : List Value := tv.flatMap fun x => [.int .i64 x.1, x.2.1, x.2.2]
theorem tvCells_length (tv : List (Int × Value × Value)) : (tvCells tv).length = tv.length * 3 := by
  unfold tvCells
  induction tv with
  | nil => rfl
  | cons x r ih => simp only [List.flatMap_cons, List.length_append, ih, List.length_cons, List.length_nil]; omega
theorem tvCells_append (tv us : List (Int × Value × Value)) : tvCells (tv ++ us) = tvCells tv ++ tvCells us := by simp [tvCells]
theorem tvCells_at (tv : List (Int × Value × Value)) (j : Nat) (h : j < tv.length) :
    (tvCells tv)[j * 3]? = some (.int .i64 tv[j].1) ∧ (tvCells tv)[j * 3 + 1]? = some tv[j].2.1 ∧ (tvCells tv)[j * 3 + 2]? = some tv[j].2.2 := by
  induction tv generalizing j with
  | nil => simp at h
  | cons x r ih =>
    have ec : tvCells (x :: r) = .int .i64 x.1 :: x.2.1 :: x.2.2 :: tvCells r := rfl
    match j, h with
    | 0, _ => exact ⟨rfl, rfl, rfl⟩
    | j + 1, h =>
      obtain ⟨q1, q2, q3⟩ := ih j (by simpa using h)
      rw [ec, show (j + 1) * 3 = j * 3 + 3 by omega]
      exact ⟨q1, q2, q3⟩

def OwnT (B : Nat) (w wr : World) (v : Value) (tv : List (Int × Value × Value)) : Prop :=
  wr.ownsRow B 37 3 v tv.length (tvCells tv) ∧ Below B w wr ∧ B ≤ wr.heap.size

theorem OwnT.nil_of {B : Nat} {w wr : World} (hb : Below B w wr) (hB : B ≤ wr.heap.size) : OwnT B w wr (.slice none 0 0) [] := ⟨World.ownsRow_nil _ _ _ _, hb, hB⟩

theorem OwnT.trans {B : Nat} {w wr w2 : World} {v : Value} {tv : List (Int × Value × Value)} (h : OwnT B w wr v tv) (hb : Below wr.heap.size wr w2) : OwnT B w w2 v tv := by
  obtain ⟨hown, hb0, hB⟩ := h
  refine ⟨hown.kept (row := none) ⟨hb.os, hb.tape, hb.output, hb.size, fun k hk _ => hb.block k hk⟩ ?_, hb0.trans (hb.mono hB), Nat.le_trans hB hb.size⟩
  cases hv : v.ownBlock with
  | none => exact .inl rfl
  | some k => exact .inr (by simp)

/-- Read as transitions. -/
theorem tran_read {B : Nat} {wr : World} {v : Value} {tv : List (Int × Value × Value)} {ts : List TranL} (hown : wr.ownsRow B 37 3 v tv.length (tvCells tv)) (hl : tv.length ≤ 2513169434916) (he : ts.length = tv.length)
    (hx : ∀ j (hj : j < tv.length), tv[j].1 = (tranAt ts j).label ∧ Ints wr tv[j].2.1 (tranAt ts j).pre ∧ Ints wr tv[j].2.2 (tranAt ts j).post) : Trans wr v ts := by
  have hown0 := hown
  obtain ⟨_, hcase⟩ := hown
  rcases hcase with ⟨rfl, h0⟩ | ⟨g, cap', cur, rfl, hg, hh, hn, hcap, hsz, htake⟩
  · exact ⟨none, tv.length, 0, by rw [h0], he, hl, ⟨by omega, by omega, fun _ => rfl⟩, fun j hj => absurd hj (by omega)⟩
  · refine ⟨_, _, _, rfl, he, hl, ⟨hn, by unfold maxLen at hcap; omega, fun h => by cases h⟩, fun j hj => ?_⟩
    have hj' : j < tv.length := by omega
    obtain ⟨e1, e2, e3⟩ := hx j hj'
    obtain ⟨q1, q2, q3⟩ := tvCells_at tv j hj'
    refine ⟨g, 0, tv[j].2.1, tv[j].2.2, rfl, ?_, ?_, ?_, ?_, e2, e3⟩
    · rcases Nat.lt_or_ge g wr.heap.size with h | h
      · exact h
      · rw [Array.getElem?_eq_none h] at hh; cases hh
    · rw [Nat.zero_add, hown0.cellAt (j * 3) (by omega), q1, e1]
    · rw [Nat.zero_add, hown0.cellAt (j * 3 + 1) (by omega), q2]
    · rw [Nat.zero_add, hown0.cellAt (j * 3 + 2) (by omega), q3]

theorem info_tran : (Try.prog.info? 37).map (fun i => (i.zero, i.size, i.bytes)) = some (some (.agg #[.int .i64 0, .slice none 0 0, .slice none 0 0]), 3, 56) := by kernel_rfl

theorem wp_append_tran {ops : Array Oper} {rest : List Oper} {o : Oper} {a : Act} {Q : Exit → Act → World → Prop} (hgd : o.guard = none) (s x : Operand)
    (ho : o.op = .call { callee := .builtin .append, args := #[s, x], argTypes := #[22, 22] }) (B : Nat) (w wr : World) (v : Value) (tv : List (Int × Value × Value))
    (l : Int) (a1 a2 : Option Addr) (l1 l2 p1 p2 : Nat) (b : Nat) (hG : OwnT B w wr v tv)
    (hs : a.eval s = v) (hx : a.eval x = .slice (some ⟨b, 0, none⟩) 1 1) (hbk : b = wr.heap.size) (hl : tv.length + 1 ≤ 2513169434916)
    (h : ∀ v' w', OwnT B w w' v' (tv ++ [(l, .slice a1 l1 p1, .slice a2 l2 p2)]) → wpList Try.prog ops Q rest (a.put o.dst v') w') :
    wpList Try.prog ops Q (o :: rest) a (wr.alloc (.cells #[.int .i64 l, .slice a1 l1 p1, .slice a2 l2 p2] 37)) := by
  subst hbk
  obtain ⟨i0, hi, hz0, hz1, hz2⟩ := info_parts info_tran
  obtain ⟨hown, hb, hB⟩ := hG
  refine wpList_append_own _ hgd s x 22 ho B 37 i0 _ 3 56 Try.underlying22 hi hz0 hz1 hz2 rfl (by decide) v tv.length _ hs (hown.alloc _) ⟨wr.heap.size, 0, none⟩ 1 1 [.int .i64 l, .slice a1 l1 p1, .slice a2 l2 p2] hx rfl ?_ ?_ ?_ ?_ ?_ ?_
  · intro j u hj
    rw [addr_add, World.cell?_alloc_at _ _ _ _ rfl]
    match j, hj with
    | 0, hj => simpa using hj
    | 1, hj => simpa using hj
    | 2, hj => simpa using hj
  · intro u hu
    simp only [List.mem_cons, List.not_mem_nil, or_false] at hu
    rcases hu with rfl | rfl | rfl <;> rfl
  · unfold maxLen; omega
  · omega
  · simp; omega
  · intro v' w' hown' hgrow _
    refine h v' w' ⟨by rw [tvCells_append]; simpa [tvCells] using hown', (hb.alloc hB _).grown hgrow (by simp; omega) (fun k hk => (hown.lt k hk).1), ?_⟩
    have := hgrow.size; simp at this; omega

end Go.Proofs.Ytakgppoeikcepaa

/- The first numbers, and lists that rise. -/
namespace Go.Proofs.Ytakgppoeikcepaa
set_option linter.unusedVariables false
set_option maxRecDepth 4000

def rangeL (P : Nat) : List Int := (List.range P).map fun p : Nat => (p : Int)
theorem mem_range {P : Nat} {p : Int} : p ∈ rangeL P ↔ 0 ≤ p ∧ p < P := by
  unfold rangeL
  rw [List.mem_map]
  constructor
  · rintro ⟨a, ha, rfl⟩; rw [List.mem_range] at ha; omega
  · rintro ⟨h1, h2⟩; exact ⟨p.toNat, by rw [List.mem_range]; omega, by omega⟩
theorem pw_cast : ∀ {l : List Nat}, l.Pairwise (fun a b => a < b) → l.Pairwise (fun a b : Nat => (a : Int) < (b : Int))
  | [], _ => List.Pairwise.nil
  | a :: l, h => by
    rw [List.pairwise_cons] at h ⊢
    exact ⟨fun b hb => by have := h.1 b hb; omega, pw_cast h.2⟩
theorem range_sorted (P : Nat) : (rangeL P).Pairwise (· < ·) := by
  unfold rangeL
  rw [List.pairwise_map]
  exact pw_cast List.pairwise_lt_range

/-- Two lists that rise, of the same numbers, are one. -/
theorem up_unique : ∀ {xs ys : List Int}, xs.Pairwise (· < ·) → ys.Pairwise (· < ·) → (∀ t, t ∈ xs ↔ t ∈ ys) → xs = ys
  | [], [], _, _, _ => rfl
  | [], y :: yr, _, _, h => by have := (h y).2 (by simp); simp at this
  | x :: xr, [], _, _, h => by have := (h x).1 (by simp); simp at this
  | x :: xr, y :: yr, hx, hy, h => by
    obtain ⟨x1, x2⟩ := List.pairwise_cons.1 hx
    obtain ⟨y1, y2⟩ := List.pairwise_cons.1 hy
    have e : x = y := by
      have a1 := (h x).1 (by simp)
      have a2 := (h y).2 (by simp)
      rcases List.mem_cons.1 a1 with q | q
      · exact q
      · rcases List.mem_cons.1 a2 with r | r
        · exact r.symm
        · have := y1 x q; have := x1 y r; omega
    subst e
    have : xr = yr := up_unique x2 y2 fun t => by
      constructor
      · intro ht
        rcases List.mem_cons.1 ((h t).1 (by simp [ht])) with q | q
        · subst q; have := x1 t ht; omega
        · exact q
      · intro ht
        rcases List.mem_cons.1 ((h t).2 (by simp [ht])) with q | q
        · subst q; have := y1 t ht; omega
        · exact q
    rw [this]

end Go.Proofs.Ytakgppoeikcepaa

/- All blocks but one stand. -/
namespace Go.Proofs.Ytakgppoeikcepaa
open Go.RowKit
set_option linter.unusedVariables false
set_option maxRecDepth 4000

theorem cell_lt0 {w : World} {b off : Nat} {v : Value} (h : w.cell? ⟨b, off, none⟩ = some v) : b < w.heap.size := by
  rcases Nat.lt_or_ge b w.heap.size with h1 | h1
  · exact h1
  · simp [World.cell?, Array.getElem?_eq_none h1] at h

/-- All but one block are as they were. -/
structure OnlyB (g : Nat) (w w' : World) : Prop where
  below : Below g w w'
  size : w.heap.size ≤ w'.heap.size
  block : ∀ k, k < w.heap.size → k ≠ g → w'.heap[k]? = w.heap[k]?

theorem OnlyB.refl (g : Nat) (w : World) : OnlyB g w w := ⟨Below.refl _ _, Nat.le_refl _, fun _ _ _ => rfl⟩
theorem OnlyB.trans {g : Nat} {a b c : World} (h : OnlyB g a b) (k : OnlyB g b c) : OnlyB g a c := ⟨h.below.trans k.below, Nat.le_trans h.size k.size, fun i hi hne => (k.block i (Nat.lt_of_lt_of_le hi h.size) hne).trans (h.block i hi hne)⟩
theorem OnlyB.set (g off : Nat) (w : World) (u : Value) : OnlyB g w (w.setCell ⟨g, off, none⟩ u) := ⟨(Below.refl _ _).setCell (p := ⟨g, off, none⟩) (Nat.le_refl _) u, by simp [World.setCell], fun k _ hne => Below.heap_setCell w ⟨g, off, none⟩ u k (fun e => hne e)⟩
theorem OnlyB.drewN (g : Nat) (w : World) (m : Nat) : OnlyB g w (w.drewN m) := by
  have h := below_drewN (Below.refl w.heap.size w) m
  exact ⟨below_drewN (Below.refl _ _) m, h.size, fun k hk _ => h.block k hk⟩
theorem OnlyB.cell {g : Nat} {w w' : World} (h : OnlyB g w w') {b off : Nat} {v : Value} (hb : b ≠ g) (hc : w.cell? ⟨b, off, none⟩ = some v) : w'.cell? ⟨b, off, none⟩ = some v := by
  have hlt : b < w.heap.size := cell_lt0 hc
  exact (World.cell?_of_block (a := ⟨b, off, none⟩) (h.block b hlt hb)).trans hc

end Go.Proofs.Ytakgppoeikcepaa

/- Yes and no of numbers: how many are no; one more that is yes. -/
namespace Go.Proofs.Ytakgppoeikcepaa
set_option linter.unusedVariables false
set_option maxRecDepth 4000

def cntF (f : Nat → Bool) : Nat → Nat
  | 0 => 0
  | n + 1 => cntF f n + (if f n then 0 else 1)
theorem cntF_same {f g : Nat → Bool} : ∀ (n : Nat), (∀ j, j < n → g j = f j) → cntF g n = cntF f n
  | 0, _ => rfl
  | n + 1, h => by
    simp only [cntF]
    rw [cntF_same n fun j hj => h j (by omega), h n (by omega)]
theorem cntF_set {f g : Nat → Bool} {b : Nat} (hf : f b = false) (hg : g b = true) (ho : ∀ j, j ≠ b → g j = f j) : ∀ (n : Nat), b < n → cntF g n + 1 = cntF f n
  | 0, h => absurd h (Nat.not_lt_zero _)
  | n + 1, h => by
    simp only [cntF]
    by_cases e : b = n
    · subst e
      rw [cntF_same b fun j hj => ho j (by omega), hf, hg]
      simp
    · have := cntF_set hf hg ho n (by omega)
      rw [ho n (by omega)]
      omega
theorem cntF_le (f : Nat → Bool) : ∀ n, cntF f n ≤ n
  | 0 => Nat.le_refl _
  | n + 1 => by have := cntF_le f n; simp only [cntF]; split <;> omega
def updT (f : Nat → Bool) (x : Nat) : Nat → Bool := fun j => if j = x then true else f j
theorem updT_same (f : Nat → Bool) (x : Nat) : updT f x x = true := by simp [updT]
theorem updT_other (f : Nat → Bool) {x j : Nat} (h : j ≠ x) : updT f x j = f j := by simp [updT, h]
theorem updT_grew {f : Nat → Bool} {x j : Nat} (h : f j = true) : updT f x j = true := by
  unfold updT; split
  · rfl
  · exact h

end Go.Proofs.Ytakgppoeikcepaa

/- A row of yes and no, as it stands in memory. -/
namespace Go.Proofs.Ytakgppoeikcepaa
open Go.RowKit
set_option linter.unusedVariables false
set_option maxRecDepth 4000

/-- A row of yes and no that is being written. -/
structure BoolRow (w : World) (B n : Nat) (f : Nat → Bool) : Prop where
  cells : ∀ j, j < n → w.cell? ⟨B, j, none⟩ = some (.bool (f j))
  frozen : ∀ j, j < n → w.frozen? ⟨B, j, none⟩ = false
  lt : B < w.heap.size
theorem BoolRow.put {w : World} {B n k : Nat} {f g : Nat → Bool} (h : BoolRow w B n f) (hk : k < n) {x : Bool} (hx : g k = x) (hg : ∀ j, j < n → j ≠ k → g j = f j) : BoolRow (w.setCell ⟨B, k, none⟩ (.bool x)) B n g := by
  refine ⟨fun j hj => ?_, fun j hj => by rw [World.frozen?_setCell]; exact h.frozen j hj, by simpa [World.setCell] using h.lt⟩
  by_cases e : j = k
  · subst e
    rw [World.cell?_setCell_same _ _ _ (h.cells j hj), hx]
  · rw [World.cell?_setCell_other _ _ _ _ (by intro q; apply e; injection q with _ q2; exact q2.symm), h.cells j hj, hg j hj e]
theorem BoolRow.other {w : World} {B C n k : Nat} {f : Nat → Bool} (h : BoolRow w B n f) (hne : C ≠ B) (x : Value) : BoolRow (w.setCell ⟨C, k, none⟩ x) B n f := by
  refine ⟨fun j hj => ?_, fun j hj => by rw [World.frozen?_setCell]; exact h.frozen j hj, by simpa [World.setCell] using h.lt⟩
  rw [World.cell?_setCell_other _ _ _ _ (by intro q; injection q with q1 _; exact hne q1)]
  exact h.cells j hj
theorem BoolRow.same {w : World} {B n : Nat} {f g : Nat → Bool} (h : BoolRow w B n f) (hg : ∀ j, j < n → g j = f j) : BoolRow w B n g := ⟨fun j hj => by rw [hg j hj]; exact h.cells j hj, h.frozen, h.lt⟩
theorem BoolRow.below {w w' : World} {B n : Nat} {f : Nat → Bool} (h : BoolRow w B n f) (hb : Below w.heap.size w w') : BoolRow w' B n f :=
  ⟨fun j hj => (hb.cell (p := ⟨B, j, none⟩) h.lt).trans (h.cells j hj), fun j hj => (hb.frozen (p := ⟨B, j, none⟩) h.lt).trans (h.frozen j hj), Nat.lt_of_lt_of_le h.lt hb.size⟩

theorem info_bool : (Try.prog.info? 4).map (fun i => (i.zero, i.size, i.bytes)) = some (some (.bool false), 1, 1) := by kernel_rfl

theorem make_flags (w : World) (n : Nat) (hn : n ≤ 5864062014805) :
    ∃ w1, (Instr.makeSlice 113 (.int .i64 (n : Int)) (.int .i64 (n : Int))).run Try.prog w = .ok (.slice (some ⟨w.heap.size, 0, none⟩) n n) w1 ∧
      Below w.heap.size w w1 ∧ w1.heap.size = w.heap.size + 1 ∧ BoolRow w1 w.heap.size n (fun _ => false) := by
  obtain ⟨i0, hi, hz0, hz1, hz2⟩ := info_parts info_bool
  have h := run_make (P := Try.prog) w 113 4 i0 (.bool false) Try.underlying113 hi hz0 .i64 .i64 n n (by omega) (by omega) (by rw [hz2]; omega) (by omega)
  simp only [Int.toNat_natCast] at h
  refine ⟨_, h, (Below.refl _ _).alloc (Nat.le_refl _) _, by simp, ⟨fun j hj => ?_, fun j hj => ?_, by simp⟩⟩
  · rw [World.cell?_alloc_at _ _ _ _ rfl]
    simp [madeCells, hz1, Value.cells, hj, Nat.mod_one]
  · exact World.frozen?_alloc_at _ _ _ _ rfl

end Go.Proofs.Ytakgppoeikcepaa

/- A value in a box. -/
namespace Go.Proofs.Ytakgppoeikcepaa
open Go.RowKit
set_option linter.unusedVariables false
set_option maxRecDepth 4000

/-- A boxed value. -/
def Box1 (w : World) (b : Nat) (x : Value) : Prop := b < w.heap.size ∧ w.cell? ⟨b, 0, none⟩ = some x
theorem Box1.below {w w' : World} {b : Nat} {x : Value} (h : Box1 w b x) (hb : Below w.heap.size w w') : Box1 w' b x :=
  ⟨Nat.lt_of_lt_of_le h.1 hb.size, (hb.cell (p := ⟨b, 0, none⟩) h.1).trans h.2⟩
theorem box1_new (w : World) (x : Value) (t : TypeId) : Box1 (w.alloc (.cells #[x] t)) w.heap.size x :=
  ⟨by simp, by rw [World.cell?_alloc_at _ _ _ _ rfl]; rfl⟩

end Go.Proofs.Ytakgppoeikcepaa

/- A region that draws its order and whose last store, number z, writes a cell that other operations of it have loaded: what the loads hang on is asked up to that store alone. -/
namespace Go.Proofs.Ytakgppoeikcepaa
open Go
set_option linter.unusedVariables false
set_option maxRecDepth 4000

section
variable {P : Program} {ops : Array Oper} {Q : Exit → Act → World → Prop} {md : Region.Mode} {S : World → Prop} {z : Nat}

/-- Whatever order is picked from here on; S holds behind each operation as long as z has not come up. -/
def wpZ (P : Program) (md : Region.Mode) (ops : Array Oper) (Q : Exit → Act → World → Prop) (S : World → Prop) (z : Nat) : Nat → Array Bool → Act → World → Prop
  | 0, listed, a, w => Region.ready md ops listed = [] ∧ Q .normal a w
  | fuel + 1, listed, a, w =>
    (Region.ready md ops listed = [] → Q .normal a w) ∧
    ∀ i ∈ Region.ready md ops listed, wpOp P ops Q i (fun a' w' => ((listed.setIfInBounds i true).getD z true = false → S w') ∧ wpZ P md ops Q S z fuel (listed.setIfInBounds i true) a' w') a w

theorem wpZ_any : ∀ (fuel : Nat) (listed : Array Bool) (a : Act) (w : World), wpZ P md ops Q S z fuel listed a w → wpAny P md ops Q fuel listed a w
  | 0, _, _, _, h => h
  | fuel + 1, _, _, _, h => ⟨h.1, fun i hi => wpOp_mono (fun a' w' h' => wpZ_any fuel _ a' w' h'.2) (h.2 i hi)⟩

/-- What has come up came behind all that it waits for. -/
def shutZ (md : Region.Mode) (ops : Array Oper) (listed : Array Bool) : Prop :=
  ∀ k o, ops[k]? = some o → listed.getD k false = true → ∀ e ∈ o.after, Region.binds md e = true → listed.getD e.on false = true
theorem shutZ_new (n : Nat) : shutZ md ops (Array.replicate n false) := fun k o _ h => by
  exfalso
  simp only [Array.getD_eq_getD_getElem?] at h
  rcases Nat.lt_or_ge k n with h' | h' <;> simp [h'] at h
theorem shutZ_set {listed : Array Bool} {j : Nat} (h : shutZ md ops listed) (hj : j ∈ Region.ready md ops listed) : shutZ md ops (listed.setIfInBounds j true) := fun k o ho hk e he hb => by
  obtain ⟨_, oj, hoj, hall⟩ := mem_ready.1 hj
  by_cases hkj : j = k
  · subst hkj
    rw [hoj] at ho
    injection ho with ho
    subst ho
    exact getD_set_true (hall e he hb)
  · rw [getD_set_ne false hkj] at hk
    exact getD_set_true (h k o ho hk e he hb)
/-- k waits for i, through others. -/
def waitsZ (md : Region.Mode) (ops : Array Oper) (i : Nat) : Nat → Nat → Bool
  | 0, _ => false
  | f + 1, k => match ops[k]? with
    | some o => o.after.any fun e => Region.binds md e && (e.on == i || waitsZ md ops i f e.on)
    | none => false
theorem waitsZ_listed {listed : Array Bool} (h : shutZ md ops listed) {i : Nat} : ∀ (f : Nat) {k : Nat} {o : Oper}, ops[k]? = some o → waitsZ md ops i f k = true → (∀ e ∈ o.after, Region.binds md e = true → listed.getD e.on false = true) → listed.getD i false = true
  | 0, _, _, _, hw, _ => by cases hw
  | f + 1, k, o, ho, hw, hall => by
    simp only [waitsZ, ho] at hw
    obtain ⟨e, he, hb⟩ := Array.any_eq_true'.1 hw
    simp only [Bool.and_eq_true, Bool.or_eq_true, beq_iff_eq] at hb
    obtain ⟨hb1, hb2⟩ := hb
    have hl := hall e he hb1
    rcases hb2 with hb2 | hb2
    · rw [← hb2]; exact hl
    · cases hoe : ops[e.on]? with
      | none =>
        cases f with
        | zero => cases hb2
        | succ f => simp [waitsZ, hoe] at hb2
      | some oe => exact waitsZ_listed h f hoe hb2 (h e.on oe hoe hl)

/-- The same, as a test. -/
def goodZ (md : Region.Mode) (ops : Array Oper) (listed : Array Bool) : Bool :=
  listed.size == ops.size && (List.range ops.size).all fun k => !listed.getD k false || match ops[k]? with
    | some o => o.after.all fun e => !Region.binds md e || listed.getD e.on false
    | none => true
theorem goodZ_spec {listed : Array Bool} (h : goodZ md ops listed = true) : listed.size = ops.size ∧ shutZ md ops listed := by
  simp only [goodZ, Bool.and_eq_true, beq_iff_eq, List.all_eq_true, List.mem_range] at h
  refine ⟨h.1, fun k o ho hk e he hb => ?_⟩
  have h1 := h.2 k (Array.getElem?_eq_some_iff.1 ho).1
  simp only [ho, hk, Bool.not_true, Bool.false_or] at h1
  have h2 := Array.all_eq_true'.1 h1 e he
  simp only [hb, Bool.not_true, Bool.false_or] at h2
  exact h2

theorem wpZ_first {i : Nat} {oi oz : Oper} {v : Value} (hi : ops[i]? = some oi) (hsel : ∀ (j : Nat) (o : Oper) cs b, ops[j]? = some o → o.op ≠ .select cs b)
    (hQ : ∀ c a w, Q (.panic c) (a.put oi.dst v) w → Q (.panic c) a w) (hz : ops[z]? = some oz) (hzi : z ≠ i) {f : Nat} (hw : waitsZ md ops i f z = true) :
    ∀ (fuel : Nat) (listed : Array Bool) (a : Act) (w : World), listed.size = ops.size → shutZ md ops listed →
      (∀ j oj, ops[j]? = some oj → j ≠ i → listed.getD j true = false → (∀ e ∈ oj.after, Region.binds md e = true → e.on ≠ i) → oi.apart ops oj = true) →
      i ∈ Region.ready md ops listed → YieldsIf P ops S oi v a → S w →
      wpZ P md ops Q S z fuel (listed.setIfInBounds i true) (a.put oi.dst v) w → wpZ P md ops Q S z (fuel + 1) listed a w := by
  intro fuel
  induction fuel with
  | zero =>
    intro listed a w _ _ _ hr hy hS H
    refine ⟨fun h => (by rw [h] at hr; cases hr), fun j hj => ?_⟩
    by_cases hji : j = i
    · subst hji; exact hy.wpOp hi hS ⟨fun _ => hS, H⟩
    · have := ready_mono hj hji
      rw [H.1] at this
      cases this
  | succ fuel ih =>
    intro listed a w hsz hsh hfree hr hy hS H
    refine ⟨fun h => (by rw [h] at hr; cases hr), fun j hj => ?_⟩
    by_cases hji : j = i
    · subst hji; exact hy.wpOp hi hS ⟨fun _ => hS, H⟩
    · have h1 := H.2 j (ready_mono hj hji)
      obtain ⟨hjun, oj, hoj, hall⟩ := mem_ready.1 hj
      have hiun := (mem_ready.1 hr).1
      have hil : i < listed.size := by rw [hsz]; exact (Array.getElem?_eq_some_iff.1 hi).1
      have hzl : z < listed.size := by rw [hsz]; exact (Array.getElem?_eq_some_iff.1 hz).1
      have hno : listed.getD i false = true → False := fun h => by
        simp [hil] at h hiun; rw [h] at hiun; cases hiun
      have hnot : ∀ e ∈ oj.after, Region.binds md e = true → e.on ≠ i := fun e he hb heq => hno (by rw [← heq]; exact hall e he hb)
      have hjz : j ≠ z := fun e => by
        subst e
        exact hno (waitsZ_listed hsh f hoj hw hall)
      have hzun : listed.getD z true = false := by
        cases hq : listed.getD z true with
        | false => rfl
        | true => exact (hno (waitsZ_listed hsh f hz hw (hsh z oz hz (by simp [hzl] at hq ⊢; exact hq)))).elim
      have hzun2 : ((listed.setIfInBounds i true).setIfInBounds j true).getD z true = false := by
        rw [getD_set_ne true hjz, getD_set_ne true (Ne.symm hzi)]; exact hzun
      have h2 := wpOp_putIf hoj (hfree j oj hoj hji hjun hnot) (fun cs b => hsel i oi cs b hi) (fun cs b => hsel j oj cs b hoj) hQ hy h1
      have hfree' : ∀ k ok, ops[k]? = some ok → k ≠ i → (listed.setIfInBounds j true).getD k true = false →
          (∀ e ∈ ok.after, Region.binds md e = true → e.on ≠ i) → oi.apart ops ok = true := fun k ok hk hki hun hno => by
        refine hfree k ok hk hki ?_ hno
        by_cases hjk : j = k
        · subst hjk; exact hjun
        · rw [getD_set_ne true hjk] at hun; exact hun
      refine wpOp_mono (fun a' w' h3 => ⟨fun _ => h3.2.1 hzun2, ih (listed.setIfInBounds j true) a' w' (by simpa using hsz) (shutZ_set hsh hj) hfree' (ready_mono hr (Ne.symm hji)) h3.1 (h3.2.1 hzun2) ?_⟩) h2
      rw [Array.setIfInBounds_comm _ _ hji]
      exact h3.2.2

theorem wpZ_firstP {i : Nat} {oi : Oper} {v : Value} (hi : ops[i]? = some oi) (hsel : ∀ (j : Nat) (o : Oper) cs b, ops[j]? = some o → o.op ≠ .select cs b)
    (hQ : ∀ c a w, Q (.panic c) (a.put oi.dst v) w → Q (.panic c) a w) (hzi : z ≠ i) :
    ∀ (fuel : Nat) (listed : Array Bool) (a : Act) (w : World),
      (∀ j oj, ops[j]? = some oj → j ≠ i → listed.getD j true = false → (∀ e ∈ oj.after, Region.binds md e = true → e.on ≠ i) → oi.apart ops oj = true) →
      i ∈ Region.ready md ops listed → YieldsIf P ops (fun _ => True) oi v a → S w →
      wpZ P md ops Q S z fuel (listed.setIfInBounds i true) (a.put oi.dst v) w → wpZ P md ops Q S z (fuel + 1) listed a w := by
  have main : ∀ (fuel : Nat) (listed : Array Bool) (a : Act) (w : World),
      (∀ j oj, ops[j]? = some oj → j ≠ i → listed.getD j true = false → (∀ e ∈ oj.after, Region.binds md e = true → e.on ≠ i) → oi.apart ops oj = true) →
      i ∈ Region.ready md ops listed → YieldsIf P ops (fun _ => True) oi v a → (listed.getD z true = false → S w) →
      wpZ P md ops Q S z fuel (listed.setIfInBounds i true) (a.put oi.dst v) w → wpZ P md ops Q S z (fuel + 1) listed a w := by
    intro fuel
    induction fuel with
    | zero =>
      intro listed a w _ hr hy hS H
      refine ⟨fun h => (by rw [h] at hr; cases hr), fun j hj => ?_⟩
      by_cases hji : j = i
      · subst hji; exact hy.wpOp hi trivial ⟨fun h => hS (by rw [getD_set_ne true (Ne.symm hzi)] at h; exact h), H⟩
      · have := ready_mono hj hji
        rw [H.1] at this
        cases this
    | succ fuel ih =>
      intro listed a w hfree hr hy hS H
      refine ⟨fun h => (by rw [h] at hr; cases hr), fun j hj => ?_⟩
      by_cases hji : j = i
      · subst hji; exact hy.wpOp hi trivial ⟨fun h => hS (by rw [getD_set_ne true (Ne.symm hzi)] at h; exact h), H⟩
      · have h1 := H.2 j (ready_mono hj hji)
        obtain ⟨hjun, oj, hoj, hall⟩ := mem_ready.1 hj
        have hnot : ∀ e ∈ oj.after, Region.binds md e = true → e.on ≠ i := fun e he hb heq => by
          have h1 := hall e he hb
          have h0 := (mem_ready.1 hr).1
          rw [heq] at h1
          rcases Nat.lt_or_ge i listed.size with h' | h'
          · simp [h'] at h0 h1; rw [h0] at h1; cases h1
          · simp [Array.getElem?_eq_none h'] at h1
        have h2 := wpOp_putIf hoj (hfree j oj hoj hji hjun hnot) (fun cs b => hsel i oi cs b hi) (fun cs b => hsel j oj cs b hoj) hQ hy h1
        have hfree' : ∀ k ok, ops[k]? = some ok → k ≠ i → (listed.setIfInBounds j true).getD k true = false →
            (∀ e ∈ ok.after, Region.binds md e = true → e.on ≠ i) → oi.apart ops ok = true := fun k ok hk hki hun hno => by
          refine hfree k ok hk hki ?_ hno
          by_cases hjk : j = k
          · subst hjk; exact hjun
          · rw [getD_set_ne true hjk] at hun; exact hun
        have hcm : ((listed.setIfInBounds i true).setIfInBounds j true).getD z true = (listed.setIfInBounds j true).getD z true := by
          rw [Array.setIfInBounds_comm _ _ (Ne.symm hji), getD_set_ne true (Ne.symm hzi)]
        refine wpOp_mono (fun a' w' h3 => ⟨fun h => h3.2.1 (by rw [hcm]; exact h), ih (listed.setIfInBounds j true) a' w' hfree' (ready_mono hr (Ne.symm hji)) h3.1 (fun h => h3.2.1 (by rw [hcm]; exact h)) ?_⟩) h2
        rw [Array.setIfInBounds_comm _ _ hji]
        exact h3.2.2
  exact fun fuel listed a w h1 h2 h3 hS => main fuel listed a w h1 h2 h3 fun _ => hS

/-! The moves of a walk. -/
theorem wpZ_take {i : Nat} {oi oz : Oper} {v : Value} {fuel : Nat} {listed : Array Bool} {a : Act} {w : World} (hi : ops[i]? = some oi)
    (hs : Region.noSelect ops = true) (hf : Region.free md ops listed i = true) (hr : (Region.ready md ops listed).contains i = true)
    (hQ : ∀ c a w, Q (.panic c) (a.put oi.dst v) w → Q (.panic c) a w) (hy : YieldsIf P ops S oi v a) (hS : S w)
    (hz : ops[z]? = some oz) (hzi : z ≠ i) (hw : waitsZ md ops i 8 z = true) (hg : goodZ md ops listed = true)
    (h : wpZ P md ops Q S z fuel (listed.setIfInBounds i true) (a.put oi.dst v) w) : wpZ P md ops Q S z (fuel + 1) listed a w :=
  wpZ_first hi (Region.noSelect_spec hs) hQ hz hzi hw fuel listed a w (goodZ_spec hg).1 (goodZ_spec hg).2 (Region.free_spec hi hf) (by simpa using hr) hy hS h
theorem wpZ_takeP {i : Nat} {oi : Oper} {v : Value} {fuel : Nat} {listed : Array Bool} {a : Act} {w : World} (hi : ops[i]? = some oi)
    (hs : Region.noSelect ops = true) (hf : Region.free md ops listed i = true) (hr : (Region.ready md ops listed).contains i = true)
    (hQ : ∀ c a w, Q (.panic c) (a.put oi.dst v) w → Q (.panic c) a w) (hy : YieldsIf P ops (fun _ => True) oi v a) (hS : S w) (hzi : z ≠ i)
    (h : wpZ P md ops Q S z fuel (listed.setIfInBounds i true) (a.put oi.dst v) w) : wpZ P md ops Q S z (fuel + 1) listed a w :=
  wpZ_firstP hi (Region.noSelect_spec hs) hQ hzi fuel listed a w (Region.free_spec hi hf) (by simpa using hr) hy hS h
def AllZ (P : Program) (md : Region.Mode) (ops : Array Oper) (Q : Exit → Act → World → Prop) (S : World → Prop) (z fuel : Nat) (listed : Array Bool) (a : Act) (w : World) (rs : List Nat) : Prop :=
  ∀ i ∈ rs, wpOp P ops Q i (fun a' w' => ((listed.setIfInBounds i true).getD z true = false → S w') ∧ wpZ P md ops Q S z fuel (listed.setIfInBounds i true) a' w') a w
theorem AllZ.nil {fuel : Nat} {listed : Array Bool} {a : Act} {w : World} : AllZ P md ops Q S z fuel listed a w [] := fun _ h => by cases h
theorem AllZ.cons {fuel : Nat} {listed : Array Bool} {a : Act} {w : World} {i : Nat} {o : Oper} {rs : List Nat} (ho : ops[i]? = some o)
    (h : ∀ K' : Act → World → Prop, Shut (∀ a w, S w → (S w → wpZ P md ops Q S z fuel (listed.setIfInBounds i true) a w) → K' a w) → if Region.wanted o (yielded ops a.tmps) = true then Oper.wp P o a w K' Q else K' (a.put o.dst undef) w)
    (hs : AllZ P md ops Q S z fuel listed a w rs) : AllZ P md ops Q S z fuel listed a w (i :: rs) := fun j hj => by
  rcases List.mem_cons.1 hj with rfl | hj
  · exact wpOp_step ho (fun K' hK => h K' (fun a w hS hW => hK a w ⟨fun _ => hS, hW hS⟩))
  · exact hs j hj
theorem AllZ.last {fuel : Nat} {listed : Array Bool} {a : Act} {w : World} {o : Oper} {rs : List Nat} (ho : ops[z]? = some o) (hl : (listed.setIfInBounds z true).getD z true = true)
    (h : ∀ K' : Act → World → Prop, Shut (∀ a w, wpZ P md ops Q S z fuel (listed.setIfInBounds z true) a w → K' a w) → if Region.wanted o (yielded ops a.tmps) = true then Oper.wp P o a w K' Q else K' (a.put o.dst undef) w)
    (hs : AllZ P md ops Q S z fuel listed a w rs) : AllZ P md ops Q S z fuel listed a w (z :: rs) := fun j hj => by
  rcases List.mem_cons.1 hj with rfl | hj
  · exact wpOp_step ho (fun K' hK => h K' (fun a w hW => hK a w ⟨fun q => (by rw [hl] at q; cases q), hW⟩))
  · exact hs j hj
theorem wpZ_ready {rs : List Nat} {fuel : Nat} {listed : Array Bool} {a : Act} {w : World} (hr : Region.ready md ops listed = rs) (hne : rs ≠ [])
    (h : AllZ P md ops Q S z fuel listed a w rs) : wpZ P md ops Q S z (fuel + 1) listed a w := ⟨fun h0 => absurd (hr ▸ h0) hne, hr ▸ h⟩
theorem wpZ_done {listed : Array Bool} {a : Act} {w : World} (hr : Region.ready md ops listed = []) (h : Q .normal a w) : ∀ fuel, wpZ P md ops Q S z fuel listed a w
  | 0 => ⟨hr, h⟩
  | _ + 1 => ⟨fun _ => h, by rw [hr]; simp⟩
theorem wp_region_Z {id : Nat} {a : Act} {w : World} (hm : P.follows .mixedOrders = true) (z : Nat) (hS : S w.drew)
    (h : S w.drew → wpZ P .any ops Q S z ops.size (Array.replicate ops.size false) a w.drew) : (Code.region id ops true).wp P Q a w :=
  wp_region_any hm (wpZ_any _ _ _ _ (h hS))

end
end Go.Proofs.Ytakgppoeikcepaa

/- A list of numbers at a place. -/
namespace Go.Proofs.Ytakgppoeikcepaa
open Go.RowKit

theorem ints_atL {w : World} {a : Option Addr} {len cap : Nat} {xs : List Int} (h : Ints w (.slice a len cap) xs) {k : Nat} (hk : k < len) : ∃ b off, a = some ⟨b, off, none⟩ ∧ b < w.heap.size ∧ w.cell? ⟨b, off + k, none⟩ = some (.int .i64 (nth xs k)) := by
  obtain ⟨a', len', cap', e, hl, hm, hs, hr⟩ := h
  injection e with e1 e2 e3
  subst e1 e2 e3
  exact hr k (by omega)

end Go.Proofs.Ytakgppoeikcepaa
