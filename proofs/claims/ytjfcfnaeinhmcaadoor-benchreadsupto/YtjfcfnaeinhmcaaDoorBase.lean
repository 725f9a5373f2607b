/- Plain words for what a slice of ints holds in memory, kept by whatever writes nothing that was there. -/
import Derived.WalkKit
import Derived.Below
import Derived.Deep.QuietTactic
import Derived.BigQuiet
import Derived.Deep.DeepCutAuto
import Derived.Deep.LoopGhost
import Derived.Deep.RegionHeld3
namespace Go.Proofs.YtjfcfnaeinhmcaaDoor
open Go.RowKit

/-- How many are at a place. -/
def nth (xs : List Int) (p : Nat) : Int := xs.getD p 0

theorem nth_past (xs : List Int) (p : Nat) (h : xs.length ≤ p) : nth xs p = 0 := by
  unfold nth; simp [List.getD, List.getElem?_eq_none h]

theorem ret_int {k : IntKind} {a b : Int} (h : a = b) : Ending.returned (.int k a) = .returned (.int k b) := by rw [h]
theorem ret_bool {a b : Bool} (h : a = b) : Ending.returned (.bool a) = .returned (.bool b) := by rw [h]

theorem addr_add (b off j : Nat) : (⟨b, off, none⟩ : Addr).add j = ⟨b, off + j, none⟩ := by
  unfold Addr.add
  by_cases h : j = 0 <;> simp [h]

/-- Where a slice of ints begins, and what its elements are. -/
def Row (w : World) (a : Option Addr) (xs : List Int) : Prop :=
  ∀ j, j < xs.length → ∃ b off, a = some ⟨b, off, none⟩ ∧ b < w.heap.size ∧ w.cell? ⟨b, off + j, none⟩ = some (.int .i64 (nth xs j))

theorem Row.below {w w' : World} {a : Option Addr} {xs : List Int} (h : Row w a xs) (hb : Below w.heap.size w w') : Row w' a xs := by
  intro j hj
  obtain ⟨b, off, ha, hlt, hc⟩ := h j hj
  exact ⟨b, off, ha, Nat.lt_of_lt_of_le hlt hb.size, by rw [hb.cell (p := ⟨b, off + j, none⟩) hlt]; exact hc⟩

theorem Row.drewN {w : World} {a : Option Addr} {xs : List Int} (h : Row w a xs) (n : Nat) : Row (w.drewN n) a xs := by
  intro j hj
  obtain ⟨b, off, ha, hlt, hc⟩ := h j hj
  exact ⟨b, off, ha, by simpa using hlt, by simpa using hc⟩

theorem Row.nil (w : World) (a : Option Addr) : Row w a [] := fun j hj => absurd hj (by simp)

/-- What every slice keeps. -/
def Shape (a : Option Addr) (len cap : Nat) : Prop := len ≤ cap ∧ cap ≤ 9223372036854775807 ∧ (a = none → cap = 0)

/-- A value that is a slice of these ints; what it holds has room in a machine. -/
def Ints (w : World) (v : Value) (xs : List Int) : Prop :=
  ∃ a len cap, v = .slice a len cap ∧ xs.length = len ∧ len ≤ 17592186044416 ∧ Shape a len cap ∧ Row w a xs

theorem Ints.below {w w' : World} {v : Value} {xs : List Int} (h : Ints w v xs) (hb : Below w.heap.size w w') : Ints w' v xs := by
  obtain ⟨a, len, cap, e, hl, hm, hs, hr⟩ := h
  exact ⟨a, len, cap, e, hl, hm, hs, hr.below hb⟩

theorem Ints.drewN {w : World} {v : Value} {xs : List Int} (h : Ints w v xs) (n : Nat) : Ints (w.drewN n) v xs := by
  obtain ⟨a, len, cap, e, hl, hm, hs, hr⟩ := h
  exact ⟨a, len, cap, e, hl, hm, hs, hr.drewN n⟩

/-- All but the first. -/
theorem ints_tail {w : World} {b off len cap : Nat} {t : Int} {ts : List Int} (hr : Row w (some ⟨b, off, none⟩) (t :: ts)) (hl : ts.length + 1 = len) (hm : len ≤ 17592186044416) (hs : Shape (some ⟨b, off, none⟩) len cap) :
    Ints w (.slice (if cap = 1 then some ⟨b, off, none⟩ else some ⟨b, off + 1, none⟩) (len - 1) (cap - 1)) ts := by
  obtain ⟨h1, h2, _⟩ := hs
  refine ⟨_, _, _, rfl, by omega, by omega, ⟨by omega, by omega, fun h => by split at h <;> cases h⟩, fun j hj => ?_⟩
  have hc : ¬ cap = 1 := by omega
  obtain ⟨b', off', e, hlt, hc'⟩ := hr (j + 1) (by simp; omega)
  injection e with e
  injection e with e1 e2
  subst e1 e2
  refine ⟨b, off + 1, by rw [if_neg hc], hlt, ?_⟩
  rw [show off + 1 + j = off + (j + 1) by omega, hc']
  simp [nth]

theorem Ints.nil (w : World) : Ints w (.slice none 0 0) [] := ⟨none, 0, 0, rfl, rfl, by omega, ⟨by omega, by omega, fun _ => rfl⟩, Row.nil _ _⟩

theorem below_drewN {B : Nat} {a w : World} (h : Below B a w) (n : Nat) : Below B a (w.drewN n) := by
  induction n generalizing w with
  | zero => exact h
  | succ n ih => exact (ih h).drew

theorem below_then {w w1 w2 : World} (h : Below w.heap.size w w1) (k : Below w1.heap.size w1 w2) : Below w.heap.size w w2 := h.trans (k.mono h.size)
theorem below_new (w : World) (o : Obj) : Below w.heap.size w (w.alloc o) := (Below.refl _ _).alloc (Nat.le_refl _) _

theorem below_of_drewN {w w' : World} (h : ∃ m, w' = w.drewN m) : Below w.heap.size w w' := by
  obtain ⟨m, rfl⟩ := h; exact below_drewN (Below.refl _ _) m

/-- A row of n ints that the call itself made, at block B, whose first k are those of zs, and the rest 0; nothing older has turned. -/
structure Filled (B : Nat) (w wr : World) (n k : Nat) (zs : List Int) : Prop where
  cells : ∀ j, j < n → wr.cell? ⟨B, j, none⟩ = some (.int .i64 (if j < k then nth zs j else 0))
  frozen : ∀ j, j < n → wr.frozen? ⟨B, j, none⟩ = false
  below : Below B w wr
  size : B < wr.heap.size

theorem Filled.step {B : Nat} {w wr : World} {n k : Nat} {zs : List Int} (h : Filled B w wr n k zs) (hk : k < n) {x : Int} (hx : nth zs k = x) : Filled B w (wr.setCell ⟨B, k, none⟩ (.int .i64 x)) n (k + 1) zs := by
  refine ⟨fun j hj => ?_, fun j hj => by rw [World.frozen?_setCell]; exact h.frozen j hj, h.below.setCell (Nat.le_refl _) _, by simpa [World.setCell] using h.size⟩
  by_cases e : j = k
  · subst e
    rw [World.cell?_setCell_same _ _ _ (h.cells j hj), if_pos (by omega), hx]
  · rw [World.cell?_setCell_other _ _ _ _ (by intro q; apply e; injection q with _ q2; exact q2.symm), h.cells j hj]
    congr 2
    by_cases hjk : j < k
    · rw [if_pos hjk, if_pos (by omega)]
    · rw [if_neg hjk, if_neg (by omega)]

theorem Filled.done {B : Nat} {w wr : World} {n : Nat} {zs : List Int} (h : Filled B w wr n n zs) (hl : zs.length = n) (hn : n ≤ 17592186044416) {cap : Nat} (hc : n ≤ cap) (hc2 : cap ≤ 9223372036854775807) : Ints wr (.slice (some ⟨B, 0, none⟩) n cap) zs :=
  ⟨_, _, _, rfl, hl, hn, ⟨hc, hc2, fun h => by cases h⟩, fun j hj => ⟨B, 0, rfl, h.size, by rw [Nat.zero_add, h.cells j (by omega), if_pos (by omega)]⟩⟩

theorem ints_lit (w : World) (b : Nat) (zs : List Int) (t : TypeId) (n : Nat) (hn : zs.length = n) (h : n ≤ 17592186044416) (hb : b = w.heap.size) :
    Ints (w.alloc (.cells (zs.map (Value.int .i64)).toArray t)) (.slice (some ⟨b, 0, none⟩) n n) zs := by
  subst hb
  refine ⟨_, _, _, rfl, hn, h, ⟨by omega, by omega, fun h => by cases h⟩, fun j hj => ⟨w.heap.size, 0, rfl, by simp, ?_⟩⟩
  rw [World.cell?_alloc_at _ _ _ _ rfl]
  simp [nth, List.getD, List.getElem?_eq_getElem hj]

end Go.Proofs.YtjfcfnaeinhmcaaDoor
