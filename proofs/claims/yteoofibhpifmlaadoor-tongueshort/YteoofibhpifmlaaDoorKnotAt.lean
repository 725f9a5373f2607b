/- A tree while it is built: where it lies, and what it hangs on. -/
import Derived.Test.YteoofibhpifmlaaDoorKnotMem
namespace Go.Proofs.YteoofibhpifmlaaDoor
open Go.RowKit
set_option linter.unusedVariables false
set_option maxRecDepth 4000

def valAt (l : List Value) (j : Nat) : Value := l.getD j undef
theorem valAt_append {l r : List Value} {k : Nat} (h : k < l.length) : valAt (l ++ r) k = valAt l k := by
  rw [valAt, valAt, List.getD_eq_getElem?_getD, List.getD_eq_getElem?_getD, List.getElem?_append_left h]
theorem valAt_last (l : List Value) (x : Value) : valAt (l ++ [x]) l.length = x := by
  rw [valAt, List.getD_eq_getElem?_getD, List.getElem?_append_right (Nat.le_refl _)]; simp
theorem valAt_get {l : List Value} {k : Nat} (h : k < l.length) : l[k]? = some (valAt l k) := by
  rw [valAt, List.getD_eq_getElem?_getD, List.getElem?_eq_getElem h]; rfl
def valsAt (l : List (List Value)) (j : Nat) : List Value := l.getD j []
theorem valsAt_append {l r : List (List Value)} {k : Nat} (h : k < l.length) : valsAt (l ++ r) k = valsAt l k := by
  rw [valsAt, valsAt, List.getD_eq_getElem?_getD, List.getD_eq_getElem?_getD, List.getElem?_append_left h]
theorem valsAt_last (l : List (List Value)) (x : List Value) : valsAt (l ++ [x]) l.length = x := by
  rw [valsAt, List.getD_eq_getElem?_getD, List.getElem?_append_right (Nat.le_refl _)]; simp

/-- Three cells each. -/
def triTo (f g h : Nat → Value) : Nat → List Value
  | 0 => []
  | n + 1 => triTo f g h n ++ [f n, g n, h n]
theorem triTo_length (f g h : Nat → Value) : ∀ n, (triTo f g h n).length = n * 3
  | 0 => rfl
  | n + 1 => by rw [triTo, List.length_append, triTo_length f g h n]; simp; omega
theorem triTo_congr {f g h f' g' h' : Nat → Value} : ∀ {n : Nat}, (∀ j, j < n → f j = f' j ∧ g j = g' j ∧ h j = h' j) → triTo f g h n = triTo f' g' h' n
  | 0, _ => rfl
  | n + 1, e => by
    obtain ⟨e1, e2, e3⟩ := e n (by omega)
    rw [triTo, triTo, triTo_congr fun j hj => e j (by omega), e1, e2, e3]
theorem triTo_at (f g h : Nat → Value) : ∀ {n j : Nat}, j < n → (triTo f g h n)[j * 3]? = some (f j) ∧ (triTo f g h n)[j * 3 + 1]? = some (g j) ∧ (triTo f g h n)[j * 3 + 2]? = some (h j)
  | 0, j, hj => by omega
  | n + 1, j, hj => by
    have hl := triTo_length f g h n
    rw [triTo]
    by_cases e : j < n
    · obtain ⟨q1, q2, q3⟩ := triTo_at f g h e
      rw [List.getElem?_append_left (by omega), List.getElem?_append_left (by omega), List.getElem?_append_left (by omega)]
      exact ⟨q1, q2, q3⟩
    · have e : j = n := by omega
      subst e
      rw [List.getElem?_append_right (by omega), List.getElem?_append_right (by omega), List.getElem?_append_right (by omega), hl]
      have k1 : j * 3 - j * 3 = 0 := by omega
      have k2 : j * 3 + 1 - j * 3 = 1 := by omega
      have k3 : j * 3 + 2 - j * 3 = 2 := by omega
      rw [k1, k2, k3]
      exact ⟨rfl, rfl, rfl⟩

def knotCells (s : List KnotX) (ms : List Value) : List Value := triTo (fun j => .int .i64 (knotAt s j).up) (fun j => .int .i64 (knotAt s j).tran) (valAt ms) s.length
theorem knotCells_append (s : List KnotX) (ms : List Value) (x : KnotX) (v : Value) (hl : ms.length = s.length) : knotCells (s ++ [x]) (ms ++ [v]) = knotCells s ms ++ [.int .i64 x.up, .int .i64 x.tran, v] := by
  unfold knotCells
  rw [List.length_append]
  show triTo _ _ _ (s.length + 1) = _
  rw [triTo, knotAt_last]
  rw [triTo_congr (f' := fun j => .int .i64 (knotAt s j).up) (g' := fun j => .int .i64 (knotAt s j).tran) (h' := valAt ms) (fun j hj => by rw [knotAt_append hj, valAt_append (by omega)]; exact ⟨rfl, rfl, rfl⟩)]
  rw [← hl, valAt_last]

/-- A slice of these slices, whose elements are these values. -/
def ListsV (w : World) (v : Value) (us : List Value) (ls : List (List Int)) : Prop :=
  ∃ a len cap, v = .slice a len cap ∧ us.length = len ∧ ls.length = len ∧ Shape a len cap ∧
    ∀ j, j < len → ∃ b off, a = some ⟨b, off, none⟩ ∧ b < w.heap.size ∧ w.cell? ⟨b, off + j, none⟩ = some (valAt us j) ∧ (valAt us j).oneCell' = true ∧ Ints w (valAt us j) (markAt ls j)
theorem ListsV.lists {w : World} {v : Value} {us : List Value} {ls : List (List Int)} (h : ListsV w v us ls) (hl : ls.length ≤ 5864062014805) : Lists w v ls := by
  obtain ⟨a, len, cap, e, h1, h2, h3, h4⟩ := h
  refine ⟨a, len, cap, e, h2, by omega, h3, fun j hj => ?_⟩
  obtain ⟨b, off, q1, q2, q3, _, q4⟩ := h4 j (by omega)
  exact ⟨b, off, valAt us j, q1, q2, q3, q4⟩
theorem ListsV.nil (w : World) : ListsV w (.slice none 0 0) [] [] := ⟨none, 0, 0, rfl, rfl, rfl, ⟨by omega, by omega, fun _ => rfl⟩, fun j hj => absurd hj (by omega)⟩

/-- Apart from both rows. -/
def Off (ov lv : Value) (b : Nat) : Prop := ov.ownBlock ≠ some b ∧ lv.ownBlock ≠ some b

end Go.Proofs.YteoofibhpifmlaaDoor
