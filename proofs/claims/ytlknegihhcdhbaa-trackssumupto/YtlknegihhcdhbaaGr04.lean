import Derived.Test.YtlknegihhcdhbaaGr03
import Derived.Lib.SliceRun
import Derived.BigQuiet
/- More of package slices over slices of ints: a copy, whether a number is there. -/
namespace Go.Proofs.Ytlknegihhcdhbaa
open Go.RowKit
set_option linter.unusedVariables false
set_option maxRecDepth 4000

set_option maxHeartbeats 400000 in
theorem clone_any (v : Value) (xs : List Int) (w : World) (h : Ints w v xs) :
    Calls Try.prog 28 #[v] w fun e w' => ∃ r, e = .returned r ∧ Own w.heap.size w w' r xs := by
  have h' := h
  obtain ⟨a, len, cap, rfl, hlen, hmx, hsh, hr⟩ := h
  cases a with
  | none =>
    have hc0 : cap = 0 := hsh.2.2 rfl
    have hl0 : len = 0 := by have := hsh.1; omega
    subst hc0 hl0
    have hy : xs = [] := List.length_eq_zero_iff.1 hlen
    subst hy
    clear hr h' hsh
    have q22 : ∀ (w : World) (a : Option Addr) (n c n' c' : Nat), (binOp .eql 23 (.slice a n c) (.slice none n' c')).run Try.prog w = .ok (.bool a.isNone) w := fun w a n c n' c' => Lib.run_eql_slice_nil w _ _ a n c n' c' Try.underlying23
    go_enter Try.func28, Try.ntmps28
    go_wp2
    go_ret
    exact ⟨_, rfl, Own.nil _⟩
  | some ad =>
    have hn := below_new w (.cells #[] 3)
    have hG : Own w.heap.size w (w.alloc (.cells #[] 3)) (.slice (some ⟨w.heap.size, 0, none⟩) 0 0) [] :=
      ⟨World.ownsRow_made w #[] 0 (Nat.le_refl _) (by unfold maxLen; omega) rfl, hn, by simp⟩
    have h2 := h'.below hn
    have HL : Hid (([] : List Int).length + xs.length ≤ 17592186044416) := by show _ ≤ _; simp; omega
    clear hr h' hsh hlen
    have q22 : ∀ (w : World) (a : Option Addr) (n c n' c' : Nat), (binOp .eql 23 (.slice a n c) (.slice none n' c')).run Try.prog w = .ok (.bool a.isNone) w := fun w a n c n' c' => Lib.run_eql_slice_nil w _ _ a n c n' c' Try.underlying23
    go_enter Try.func28, Try.ntmps28
    go_wp2_with (at_builtin; refine wp_append_ints rfl _ _ rfl w.heap.size w _ _ _ [] xs hG (by rfl) (by rfl) h2 HL.out ?_; intro v' w2 hG2)
    have R : Own w.heap.size w w2 v' xs := by simpa using hG2
    clear hG hG2 h2
    go_wp2
    go_ret
    exact ⟨_, rfl, R⟩

/-- Whether a number is there. -/
def hasL (xs : List Int) (x : Int) : Bool := xs.contains x
def anyL (xs : List Int) (p : Int → Bool) : Bool := xs.any p

/-- It is at none of the first k places. -/
def idxTo (xs : List Int) (x : Int) (k : Nat) : Prop := ∀ j, j < k → nth xs j ≠ x

theorem contains_of_nth {xs : List Int} {x : Int} {k : Nat} (hk : k < xs.length) (h : nth xs k = x) : hasL xs x = true := by
  unfold hasL
  rw [List.contains_iff_mem, ← h]
  simp [nth, List.getD, List.getElem?_eq_getElem hk]
theorem not_contains {xs : List Int} {x : Int} (h : idxTo xs x xs.length) : hasL xs x = false := by
  unfold hasL
  rw [Bool.eq_false_iff]
  intro hc
  rw [List.contains_iff_mem] at hc
  obtain ⟨j, hj, e⟩ := List.mem_iff_getElem.1 hc
  exact h j hj (by simp [nth, List.getD, List.getElem?_eq_getElem hj, e])
theorem idxTo_succ {xs : List Int} {x : Int} {k : Nat} (h : idxTo xs x k) (hn : nth xs k ≠ x) : idxTo xs x (k + 1) := by
  intro j hj
  by_cases hjk : j < k
  · exact h j hjk
  · obtain rfl : j = k := by omega
    exact hn

set_option maxHeartbeats 400000 in
theorem index_any (v : Value) (xs : List Int) (x : Int) (w : World) (h : Ints w v xs) :
    Calls Try.prog 55 #[v, .int .i64 x] w fun e w' => ∃ i : Int, e = .returned (.int .i64 i) ∧ w' = w ∧ (decide (0 ≤ i) = hasL xs x) := by
  obtain ⟨a, len, cap, rfl, hlen, hmx, hsh, hr⟩ := h
  go_enter Try.func55, Try.ntmps55
  go_wp2
  go_loop [8] (fun i => ∃ k : Nat, k ≤ len ∧ i = .int .i64 k ∧ idxTo xs x k) (fun i => len - (intOf i).toNat)
  case atStart => exact ⟨0, Nat.zero_le _, rfl, fun j hj => absurd hj (Nat.not_lt_zero _)⟩
  case round =>
    obtain ⟨k, hk, rfl, hidx⟩ := hrel
    by_cases hkn : k < len
    · obtain ⟨b, off, rfl, hb, hc⟩ := hr k (by omega)
      by_cases hx : nth xs k = x
      · have e1 : (x == nth xs k) = true := by simp [hx]
        have F : Hid (hasL xs x = true) := contains_of_nth (by omega) hx
        clear hr hx
        go_wp2
        go_ret
        exact ⟨_, rfl, rfl, by rw [F.out]; simp⟩
      · have e1 : (x == nth xs k) = false := by rw [beq_eq_false_iff_ne]; exact fun h => hx h.symm
        have F : Hid (idxTo xs x (k + 1)) := idxTo_succ hidx hx
        clear hr hx
        go_wp2
        go_round
        case rel => exact ⟨k + 1, by omega, by go_num, F.out⟩
        case measure => simp [intOf]; omega
    · have F : Hid (hasL xs x = false) := not_contains (by rw [hlen]; have hkl : k = len := (by omega); rw [← hkl]; exact hidx)
      go_wp2
      go_ret
      exact ⟨_, rfl, rfl, by rw [F.out]; rfl⟩

set_option maxHeartbeats 400000 in
theorem contains_any (v : Value) (xs : List Int) (x : Int) (w : World) (h : Ints w v xs) :
    Calls Try.prog 26 #[v, .int .i64 x] w fun e w' => e = .returned (.bool (hasL xs x)) ∧ w' = w := by
  go_enter Try.func26, Try.ntmps26
  go_wp2_with fail
  refine (index_any _ xs x _ h).mono ?_
  rintro e w' ⟨i, rfl, rfl, hi⟩
  have F : Hid _ := hi
  clear hi
  by_cases h0 : 0 ≤ i
  · go_wp2
    go_ret
    exact ⟨ret_bool (by rw [← F.out, decide_eq_true h0]), rfl⟩
  · go_wp2
    go_ret
    exact ⟨ret_bool (by rw [← F.out, decide_eq_false (by omega)]), rfl⟩

/-- Function g of an int answers whether p. -/
def Asks1 (g : Nat) (p : Int → Bool) : Prop := ∀ x w, Calls Try.prog g #[.int .i64 x] w fun e w' => e = .returned (.bool (p x)) ∧ w' = w

def noneTo (xs : List Int) (p : Int → Bool) (k : Nat) : Prop := ∀ j, j < k → p (nth xs j) = false
theorem any_of_nth {xs : List Int} {p : Int → Bool} {k : Nat} (hk : k < xs.length) (h : p (nth xs k) = true) : anyL xs p = true := by
  unfold anyL
  rw [List.any_eq_true]
  exact ⟨nth xs k, by simp [nth, List.getD, List.getElem?_eq_getElem hk], h⟩
theorem not_any {xs : List Int} {p : Int → Bool} (h : noneTo xs p xs.length) : anyL xs p = false := by
  unfold anyL
  rw [List.any_eq_false]
  intro x hx
  obtain ⟨j, hj, e⟩ := List.mem_iff_getElem.1 hx
  have := h j hj
  simp only [nth, List.getD, List.getElem?_eq_getElem hj, e, Option.getD_some] at this
  simp [this]
theorem noneTo_succ {xs : List Int} {p : Int → Bool} {k : Nat} (h : noneTo xs p k) (hn : p (nth xs k) = false) : noneTo xs p (k + 1) := by
  intro j hj
  by_cases hjk : j < k
  · exact h j hjk
  · obtain rfl : j = k := by omega
    exact hn

set_option maxHeartbeats 400000 in
theorem indexfunc_any (g : Nat) (p : Int → Bool) (hg : Asks1 g p) (eg : ∀ args w, (callFunc g args).run Try.prog w = .ok (.enter g args) w) (v : Value) (xs : List Int) (w : World) (h : Ints w v xs) :
    Calls Try.prog 56 #[v, .func (.func g) #[] #[]] w fun e w' => ∃ i : Int, e = .returned (.int .i64 i) ∧ w' = w ∧ (decide (0 ≤ i) = anyL xs p) := by
  obtain ⟨a, len, cap, rfl, hlen, hmx, hsh, hr⟩ := h
  go_enter Try.func56, Try.ntmps56
  go_wp2
  go_loop [8] (fun i => ∃ k : Nat, k ≤ len ∧ i = .int .i64 k ∧ noneTo xs p k) (fun i => len - (intOf i).toNat)
  case atStart => exact ⟨0, Nat.zero_le _, rfl, fun j hj => absurd hj (Nat.not_lt_zero _)⟩
  case round =>
    obtain ⟨k, hk, rfl, hidx⟩ := hrel
    by_cases hkn : k < len
    · obtain ⟨b, off, rfl, hb, hc⟩ := hr k (by omega)
      have F1 : Hid _ := any_of_nth (xs := xs) (p := p) (k := k) (by omega)
      have F2 : Hid _ := noneTo_succ hidx
      clear hr hidx
      go_wp2_with fail
      refine (hg _ _).mono ?_
      rintro e w' ⟨rfl, rfl⟩
      cases hx : p (nth xs k)
      · have F : Hid (noneTo xs p (k + 1)) := F2.out hx
        clear hx
        go_wp2
        go_round
        case rel => exact ⟨k + 1, by omega, by go_num, F.out⟩
        case measure => simp [intOf]; omega
      · have F : Hid (anyL xs p = true) := F1.out hx
        clear hx
        go_wp2
        go_ret
        exact ⟨_, rfl, rfl, by rw [F.out]; simp⟩
    · have F : Hid (anyL xs p = false) := not_any (by rw [hlen]; have hkl : k = len := (by omega); rw [← hkl]; exact hidx)
      go_wp2
      go_ret
      exact ⟨_, rfl, rfl, by rw [F.out]; rfl⟩

set_option maxHeartbeats 400000 in
theorem containsfunc_any (g : Nat) (p : Int → Bool) (hg : Asks1 g p) (eg : ∀ args w, (callFunc g args).run Try.prog w = .ok (.enter g args) w) (v : Value) (xs : List Int) (w : World) (h : Ints w v xs) :
    Calls Try.prog 39 #[v, .func (.func g) #[] #[]] w fun e w' => e = .returned (.bool (anyL xs p)) ∧ w' = w := by
  go_enter Try.func39, Try.ntmps39
  go_wp2_with fail
  refine (indexfunc_any g p hg eg _ xs _ h).mono ?_
  rintro e w' ⟨i, rfl, rfl, hi⟩
  have F : Hid _ := hi
  clear hi
  by_cases h0 : 0 ≤ i
  · go_wp2
    go_ret
    exact ⟨ret_bool (by rw [← F.out, decide_eq_true h0]), rfl⟩
  · go_wp2
    go_ret
    exact ⟨ret_bool (by rw [← F.out, decide_eq_false (by omega)]), rfl⟩

end Go.Proofs.Ytlknegihhcdhbaa

/- slices.IndexFunc and ContainsFunc over numbers, with a function that has captured one variable, or two. -/
namespace Go.Proofs.Ytlknegihhcdhbaa
open Go.RowKit
set_option linter.unusedVariables false
set_option maxRecDepth 4000

/-- Where the first one is that p tells of. -/
def FirstAt (xs : List Int) (p : Int → Bool) (i : Int) : Prop := (i = -1 ∧ ∀ j, j < xs.length → p (nth xs j) = false) ∨ ∃ k : Nat, i = k ∧ k < xs.length ∧ p (nth xs k) = true ∧ ∀ j, j < k → p (nth xs j) = false

theorem FirstAt.any {xs : List Int} {p : Int → Bool} {i : Int} (h : FirstAt xs p i) : decide (0 ≤ i) = anyL xs p := by
  rcases h with ⟨rfl, h⟩ | ⟨k, rfl, hk, h, _⟩
  · rw [not_any (p := p) h]; rfl
  · rw [any_of_nth hk h]; simp

/-- The function g tells p of every number, in every world that comes of w0. -/
def AsksQ1 (w0 : World) (g : Nat) (q : Value) (p : Int → Bool) : Prop :=
  ∀ (x : Int) w, Below w0.heap.size w0 w → Calls Try.prog g #[.int .i64 x, q] w fun e w' => e = .returned (.bool (p x)) ∧ Below w.heap.size w w'

set_option maxHeartbeats 1000000 in
theorem indexfuncQ1 (w0 : World) (g : Nat) (q : Value) (p : Int → Bool) (hg : AsksQ1 w0 g q p) (eg : ∀ args w, (callFunc g args).run Try.prog w = .ok (.enter g args) w) (v : Value) (xs : List Int) (w : World) (hw : Below w0.heap.size w0 w) (hv : Ints w v xs) :
    Calls Try.prog 56 #[v, .func (.func g) #[] #[q]] w fun e w' => ∃ i : Int, e = .returned (.int .i64 i) ∧ FirstAt xs p i ∧ Below w.heap.size w w' := by
  obtain ⟨a, len, cap, rfl, hlen, hmx, hsh, hr⟩ := hv
  have Hg : Hid _ := hg
  clear hg
  go_enter Try.func56, Try.ntmps56
  go_wp2_with fail
  go_loopg [8] len (fun g i wr => ∃ k : Nat, k + g = len ∧ i = .int .i64 k ∧ Below w.heap.size w wr ∧ Hid (∀ j, j < k → p (nth xs j) = false))
  case atStart => exact ⟨0, by omega, rfl, Below.refl _ _, fun j hj => absurd hj (Nat.not_lt_zero _)⟩
  case round =>
    obtain ⟨k, hkg, rfl, hb, Hn⟩ := hrel
    by_cases hkn : k < len
    · obtain ⟨b1, o1, rfl, hb1, c0⟩ := (hr.below hb) k (by omega)
      have hw2 := below_then hw hb
      obtain ⟨z, Hz⟩ : ∃ z, Hid (nth xs k = z) := ⟨_, rfl⟩
      rw [Hz.out] at c0
      go_wp2_with fail
      refine (Hg.out z _ (by exact hw2)).mono ?_
      rintro e w2 ⟨rfl, b'⟩
      have R := below_then hb b'
      cases hp : p z
      · have Hn2 : Hid (∀ j, j < k + 1 → p (nth xs j) = false) := fun j hj => by
          by_cases e : j = k
          · subst e; rw [Hz.out]; exact hp
          · exact Hn.out j (by omega)
        clear b' hb c0 hp hw2
        go_wp2
        go_roundg (gk - 1)
        case measure => omega
        case rel => exact ⟨k + 1, by omega, by go_num, R, Hn2⟩
      · have F : Hid (FirstAt xs p k) := .inr ⟨k, rfl, by omega, by rw [Hz.out]; exact hp, Hn.out⟩
        clear b' hb c0 hp hw2
        go_wp2
        go_ret
        exact ⟨_, rfl, F.out, R⟩
    · have F : Hid (FirstAt xs p (-1)) := .inl ⟨rfl, fun j hj => Hn.out j (by omega)⟩
      go_wp2
      go_ret
      exact ⟨_, rfl, F.out, hb⟩

set_option maxHeartbeats 400000 in
theorem containsfuncQ1 (w0 : World) (g : Nat) (q : Value) (p : Int → Bool) (hg : AsksQ1 w0 g q p) (eg : ∀ args w, (callFunc g args).run Try.prog w = .ok (.enter g args) w) (v : Value) (xs : List Int) (w : World) (hw : Below w0.heap.size w0 w) (hv : Ints w v xs) :
    Calls Try.prog 39 #[v, .func (.func g) #[] #[q]] w fun e w' => e = .returned (.bool (anyL xs p)) ∧ Below w.heap.size w w' := by
  go_enter Try.func39, Try.ntmps39
  go_wp2_with fail
  refine (indexfuncQ1 w0 g q p hg eg _ xs _ hw hv).mono ?_
  rintro e w' ⟨i, rfl, hi, hb⟩
  have F : Hid _ := hi.any
  clear hi
  by_cases h0 : 0 ≤ i
  · go_wp2
    go_ret
    exact ⟨ret_bool (by rw [← F.out, decide_eq_true h0]), hb⟩
  · go_wp2
    go_ret
    exact ⟨ret_bool (by rw [← F.out, decide_eq_false (by omega)]), hb⟩

/-- The function g tells p of every number, in every world that comes of w0. -/
def AsksQ2 (w0 : World) (g : Nat) (q r : Value) (p : Int → Bool) : Prop :=
  ∀ (x : Int) w, Below w0.heap.size w0 w → Calls Try.prog g #[.int .i64 x, q, r] w fun e w' => e = .returned (.bool (p x)) ∧ Below w.heap.size w w'

set_option maxHeartbeats 1000000 in
theorem indexfuncQ2 (w0 : World) (g : Nat) (q r : Value) (p : Int → Bool) (hg : AsksQ2 w0 g q r p) (eg : ∀ args w, (callFunc g args).run Try.prog w = .ok (.enter g args) w) (v : Value) (xs : List Int) (w : World) (hw : Below w0.heap.size w0 w) (hv : Ints w v xs) :
    Calls Try.prog 56 #[v, .func (.func g) #[] #[q, r]] w fun e w' => ∃ i : Int, e = .returned (.int .i64 i) ∧ FirstAt xs p i ∧ Below w.heap.size w w' := by
  obtain ⟨a, len, cap, rfl, hlen, hmx, hsh, hr⟩ := hv
  have Hg : Hid _ := hg
  clear hg
  go_enter Try.func56, Try.ntmps56
  go_wp2_with fail
  go_loopg [8] len (fun g i wr => ∃ k : Nat, k + g = len ∧ i = .int .i64 k ∧ Below w.heap.size w wr ∧ Hid (∀ j, j < k → p (nth xs j) = false))
  case atStart => exact ⟨0, by omega, rfl, Below.refl _ _, fun j hj => absurd hj (Nat.not_lt_zero _)⟩
  case round =>
    obtain ⟨k, hkg, rfl, hb, Hn⟩ := hrel
    by_cases hkn : k < len
    · obtain ⟨b1, o1, rfl, hb1, c0⟩ := (hr.below hb) k (by omega)
      have hw2 := below_then hw hb
      obtain ⟨z, Hz⟩ : ∃ z, Hid (nth xs k = z) := ⟨_, rfl⟩
      rw [Hz.out] at c0
      go_wp2_with fail
      refine (Hg.out z _ (by exact hw2)).mono ?_
      rintro e w2 ⟨rfl, b'⟩
      have R := below_then hb b'
      cases hp : p z
      · have Hn2 : Hid (∀ j, j < k + 1 → p (nth xs j) = false) := fun j hj => by
          by_cases e : j = k
          · subst e; rw [Hz.out]; exact hp
          · exact Hn.out j (by omega)
        clear b' hb c0 hp hw2
        go_wp2
        go_roundg (gk - 1)
        case measure => omega
        case rel => exact ⟨k + 1, by omega, by go_num, R, Hn2⟩
      · have F : Hid (FirstAt xs p k) := .inr ⟨k, rfl, by omega, by rw [Hz.out]; exact hp, Hn.out⟩
        clear b' hb c0 hp hw2
        go_wp2
        go_ret
        exact ⟨_, rfl, F.out, R⟩
    · have F : Hid (FirstAt xs p (-1)) := .inl ⟨rfl, fun j hj => Hn.out j (by omega)⟩
      go_wp2
      go_ret
      exact ⟨_, rfl, F.out, hb⟩

set_option maxHeartbeats 400000 in
theorem containsfuncQ2 (w0 : World) (g : Nat) (q r : Value) (p : Int → Bool) (hg : AsksQ2 w0 g q r p) (eg : ∀ args w, (callFunc g args).run Try.prog w = .ok (.enter g args) w) (v : Value) (xs : List Int) (w : World) (hw : Below w0.heap.size w0 w) (hv : Ints w v xs) :
    Calls Try.prog 39 #[v, .func (.func g) #[] #[q, r]] w fun e w' => e = .returned (.bool (anyL xs p)) ∧ Below w.heap.size w w' := by
  go_enter Try.func39, Try.ntmps39
  go_wp2_with fail
  refine (indexfuncQ2 w0 g q r p hg eg _ xs _ hw hv).mono ?_
  rintro e w' ⟨i, rfl, hi, hb⟩
  have F : Hid _ := hi.any
  clear hi
  by_cases h0 : 0 ≤ i
  · go_wp2
    go_ret
    exact ⟨ret_bool (by rw [← F.out, decide_eq_true h0]), hb⟩
  · go_wp2
    go_ret
    exact ⟨ret_bool (by rw [← F.out, decide_eq_false (by omega)]), hb⟩

end Go.Proofs.Ytlknegihhcdhbaa

/- slices.DeleteFunc over numbers of an own row, with a function that has captured two variables and answers where C holds. -/
namespace Go.Proofs.Ytlknegihhcdhbaa
open Go.RowKit
set_option linter.unusedVariables false
set_option maxRecDepth 4000

/-- An own row, cell by cell. -/
structure RowF (B g : Nat) (w wr : World) (n : Nat) (f : Nat → Int) : Prop where
  cells : ∀ j, j < n → wr.cell? ⟨g, j, none⟩ = some (.int .i64 (f j))
  frozen : ∀ j, j < n → wr.frozen? ⟨g, j, none⟩ = false
  below : Below B w wr
  base : B ≤ g
  size : g < wr.heap.size

theorem RowF.to {B g : Nat} {w wr w2 : World} {n : Nat} {f : Nat → Int} (h : RowF B g w wr n f) (hb : Below wr.heap.size wr w2) : RowF B g w w2 n f :=
  ⟨fun j hj => by rw [hb.cell (p := ⟨g, j, none⟩) h.size]; exact h.cells j hj, fun j hj => by rw [hb.frozen (p := ⟨g, j, none⟩) h.size]; exact h.frozen j hj, h.below.trans (hb.mono (Nat.le_trans h.base (Nat.le_of_lt h.size))), h.base, Nat.lt_of_lt_of_le h.size hb.size⟩
theorem RowF.put {B g : Nat} {w wr : World} {n k : Nat} {f : Nat → Int} (h : RowF B g w wr n f) (hk : k < n) (x : Int) : RowF B g w (wr.setCell ⟨g, k, none⟩ (.int .i64 x)) n (fun j => if j = k then x else f j) := by
  refine ⟨fun j hj => ?_, fun j hj => by rw [World.frozen?_setCell]; exact h.frozen j hj, h.below.setCell h.base _, h.base, by simpa [World.setCell] using h.size⟩
  by_cases e : j = k
  · subst e
    rw [World.cell?_setCell_same _ _ _ (h.cells j hj), if_pos rfl]
  · rw [World.cell?_setCell_other _ _ _ _ (by intro q; apply e; injection q with _ q2; exact q2.symm), h.cells j hj, if_neg e]

theorem Own.row {B : Nat} {w wr : World} {v : Value} {zs : List Int} (h : Own B w wr v zs) (hz : 0 < zs.length) : ∃ g cap, v = .slice (some ⟨g, 0, none⟩) zs.length cap ∧ zs.length ≤ cap ∧ cap ≤ 9223372036854775807 ∧ RowF B g w wr zs.length (nth zs) := by
  obtain ⟨hown, hb, hB⟩ := h
  have hown0 := hown
  obtain ⟨_, hcase⟩ := hown
  rcases hcase with ⟨rfl, h0⟩ | ⟨g, cap', cur, rfl, hg, hh, hn, hcap, hsz, htake⟩
  · omega
  · have hlt : g < wr.heap.size := by
      rcases Nat.lt_or_ge g wr.heap.size with h | h
      · exact h
      · rw [Array.getElem?_eq_none h] at hh; cases hh
    refine ⟨g, cap', rfl, hn, by unfold maxLen at hcap; omega, fun j hj => ?_, fun j hj => ?_, hb, hg, hlt⟩
    · rw [hown0.cellAt j (by omega)]
      simp [nth, List.getD, List.getElem?_eq_getElem hj]
    · simp [World.frozen?, hh]

theorem Own.block {B : Nat} {w wr : World} {v : Value} {zs : List Int} (h : Own B w wr v zs) : ∀ a n c, v = .slice (some a) n c → B ≤ a.block := by
  rintro a n c rfl
  obtain ⟨⟨_, hcase⟩, _, _⟩ := h
  rcases hcase with ⟨e, _⟩ | ⟨g, cap', cur, e, hg, _⟩
  · cases e
  · injection e with e1 _ _
    injection e1 with e1
    rw [e1]; exact hg
theorem Ints.set {w : World} {a : Option Addr} {n c : Nat} {zs : List Int} {p : Addr} {x : Value} (h : Ints w (.slice a n c) zs) (hp : ∀ q, a = some q → q.block ≠ p.block) : Ints (w.setCell p x) (.slice a n c) zs := by
  obtain ⟨a', n', c', e, h1, h2, h3, h4⟩ := h
  injection e with e1 e2 e3
  subst e1 e2 e3
  refine ⟨_, _, _, rfl, h1, h2, h3, fun j hj => ?_⟩
  obtain ⟨b, off, ha, hb, hc⟩ := h4 j hj
  refine ⟨b, off, ha, by simpa [World.setCell] using hb, ?_⟩
  rw [World.cell?_setCell_other _ _ _ _ (by intro q; exact hp _ ha (by rw [q]))]
  exact hc

def filtTo (p : Int → Bool) (xs : List Int) (k : Nat) : List Int := (xs.take k).filter fun x => !p x
theorem filtTo_yes {p : Int → Bool} {xs : List Int} {k : Nat} (hk : k < xs.length) (h : p (nth xs k) = true) : filtTo p xs (k + 1) = filtTo p xs k := by
  have e : nth xs k = xs[k] := by simp [nth, List.getD, List.getElem?_eq_getElem hk]
  unfold filtTo; rw [List.take_succ_eq_append_getElem hk, List.filter_append, ← e]; simp [h]
theorem filtTo_no {p : Int → Bool} {xs : List Int} {k : Nat} (hk : k < xs.length) (h : p (nth xs k) = false) : filtTo p xs (k + 1) = filtTo p xs k ++ [nth xs k] := by
  have e : nth xs k = xs[k] := by simp [nth, List.getD, List.getElem?_eq_getElem hk]
  unfold filtTo; rw [List.take_succ_eq_append_getElem hk, List.filter_append, ← e]; simp [h]
theorem filtTo_le (p : Int → Bool) (xs : List Int) (k : Nat) : (filtTo p xs k).length ≤ k := by
  unfold filtTo
  refine Nat.le_trans (List.length_filter_le _ _) ?_
  simp; omega
theorem filtTo_first {p : Int → Bool} {xs : List Int} : ∀ {k : Nat}, k ≤ xs.length → (∀ j, j < k → p (nth xs j) = false) → filtTo p xs k = xs.take k
  | 0, _, _ => by simp [filtTo]
  | k + 1, hk, h => by
    rw [filtTo_no (by omega) (h k (by omega)), filtTo_first (by omega) fun j hj => h j (by omega), List.take_succ_eq_append_getElem (by omega)]
    congr 2
    simp [nth, List.getD, List.getElem?_eq_getElem (show k < xs.length by omega)]
theorem filtTo_all {p : Int → Bool} {xs : List Int} {k : Nat} (hk : k = xs.length) : filtTo p xs k = xs.filter fun x => !p x := by unfold filtTo; rw [List.take_of_length_le (by omega)]

/-- The row while what is left moves to its front. -/
structure Moved (B g : Nat) (w wr : World) (xs : List Int) (p : Int → Bool) (k : Nat) (f : Nat → Int) : Prop where
  row : RowF B g w wr xs.length f
  front : ∀ t, t < (filtTo p xs k).length → f t = nth (filtTo p xs k) t
  rest : ∀ t, k ≤ t → t < xs.length → f t = nth xs t
  less : (filtTo p xs k).length < k

theorem Moved.start {B g : Nat} {w wr : World} {xs : List Int} {p : Int → Bool} {k : Nat} (h : RowF B g w wr xs.length (nth xs)) (hk : k < xs.length) (hp : p (nth xs k) = true) (hn : ∀ j, j < k → p (nth xs j) = false) : Moved B g w wr xs p (k + 1) (nth xs) ∧ (filtTo p xs (k + 1)).length = k := by
  have e : filtTo p xs (k + 1) = xs.take k := by rw [filtTo_yes hk hp, filtTo_first (by omega) hn]
  have el : (filtTo p xs (k + 1)).length = k := by rw [e]; simp; omega
  refine ⟨⟨h, fun t ht => ?_, fun t _ _ => rfl, by omega⟩, el⟩
  rw [e]
  rw [el] at ht
  simp [nth, List.getD, ht]
theorem Moved.to {B g : Nat} {w wr w2 : World} {xs : List Int} {p : Int → Bool} {k : Nat} {f : Nat → Int} (h : Moved B g w wr xs p k f) (hb : Below wr.heap.size wr w2) : Moved B g w w2 xs p k f :=
  ⟨h.row.to hb, h.front, h.rest, h.less⟩
theorem Moved.skip {B g : Nat} {w wr : World} {xs : List Int} {p : Int → Bool} {k : Nat} {f : Nat → Int} (h : Moved B g w wr xs p k f) (hk : k < xs.length) (hp : p (nth xs k) = true) : Moved B g w wr xs p (k + 1) f := by
  have e := filtTo_yes hk hp
  refine ⟨h.row, fun t ht => ?_, fun t ht => h.rest t (by omega), by rw [e]; have := h.less; omega⟩
  rw [e] at ht ⊢
  exact h.front t ht
theorem Moved.put {B g : Nat} {w wr : World} {xs : List Int} {p : Int → Bool} {k : Nat} {f : Nat → Int} (h : Moved B g w wr xs p k f) (hk : k < xs.length) (hp : p (nth xs k) = false) {a : Nat} (ha : (filtTo p xs k).length = a) :
    ∃ f', Moved B g w (wr.setCell ⟨g, a, none⟩ (.int .i64 (nth xs k))) xs p (k + 1) f' := by
  have e := filtTo_no hk hp
  have hl := h.less
  refine ⟨_, h.row.put (k := a) (by omega) (nth xs k), fun t ht => ?_, fun t ht htl => ?_, by rw [e]; simp; omega⟩
  · rw [e] at ht ⊢
    simp only [List.length_append, List.length_singleton] at ht
    by_cases q : t = a
    · subst q
      rw [if_pos rfl]
      simp [nth, List.getD, ← ha]
    · rw [if_neg q, h.front t (by omega)]
      simp [nth, List.getD, List.getElem?_append_left (show t < (filtTo p xs k).length by omega)]
  · rw [if_neg (by omega)]
    exact h.rest t (by omega) htl

theorem zero_int : ∀ w, (zeroValue 3).run Try.prog w = .ok (.int .i64 0) w := Try.zeroValue3

/-- What is left of the row, when its end is cleared. -/
theorem Moved.done {B g : Nat} {w wr : World} {xs : List Int} {p : Int → Bool} {k : Nat} {f : Nat → Int} (h : Moved B g w wr xs p k f) (hk : k = xs.length) (hl : xs.length ≤ 17592186044416) {cap a : Nat} (hc : xs.length ≤ cap) (hc2 : cap ≤ 9223372036854775807) (ha : (filtTo p xs k).length = a) :
    (∀ ty c, (Builtin.clear_ #[23] ty #[.slice (some ⟨g, a, none⟩) (xs.length - a) c]).run Try.prog wr = .ok (.tuple #[]) (wr.setCells g a (List.replicate (xs.length - a) (.int .i64 0)))) ∧
    Ints (wr.setCells g a (List.replicate (xs.length - a) (.int .i64 0))) (.slice (some ⟨g, 0, none⟩) a cap) (xs.filter fun x => !p x) ∧ Below B w (wr.setCells g a (List.replicate (xs.length - a) (.int .i64 0))) := by
  have hla := h.less
  have hsz : ∀ (vs : List Value) (o : Nat) (w : World), (w.setCells g o vs).heap.size = w.heap.size := by
    intro vs
    induction vs with
    | nil => intro o w; rfl
    | cons v vs ih => intro o w; simp only [World.setCells]; rw [ih]; simp [World.setCell]
  have hbl : ∀ (vs : List Value) (o : Nat) (w1 : World), Below B w w1 → Below B w (w1.setCells g o vs) := by
    intro vs
    induction vs with
    | nil => intro o w1 hb; exact hb
    | cons v vs ih => intro o w1 hb; simp only [World.setCells]; exact ih _ _ (hb.setCell h.row.base _)
  refine ⟨fun ty c => Lib.run_clear_slice wr _ _ ty _ Try.underlying23 zero_int rfl rfl g a _ _ (by omega) (fun j hj => by rw [h.row.cells (a + j) (by omega)]; rfl) (fun j hj => h.row.frozen (a + j) (by omega)), ?_, hbl _ _ _ h.row.below⟩
  have e := filtTo_all (p := p) hk
  have ha2 : (xs.filter fun x => !p x).length = a := by rw [← e]; exact ha
  refine ⟨_, _, _, rfl, ha2, by omega, ⟨by omega, hc2, fun h => by cases h⟩, fun j hj => ⟨g, 0, rfl, by rw [hsz]; exact h.row.size, ?_⟩⟩
  rw [World.cell?_setCells_out _ _ _ _ _ (by intro _ _; left; simp; omega), Nat.zero_add, h.row.cells j (by omega), h.front j (by rw [e]; exact hj), e]

/-- The function g tells p of every number of which C holds, in every world that comes of w0. -/
def AsksC2 (w0 : World) (g : Nat) (q r : Value) (C : Int → Prop) (p : Int → Bool) : Prop :=
  ∀ (x : Int) w, C x → Below w0.heap.size w0 w → Calls Try.prog g #[.int .i64 x, q, r] w fun e w' => e = .returned (.bool (p x)) ∧ Below w.heap.size w w'

set_option maxHeartbeats 1000000 in
theorem indexfuncC2 (w0 : World) (g : Nat) (q r : Value) (C : Int → Prop) (p : Int → Bool) (hg : AsksC2 w0 g q r C p) (eg : ∀ args w, (callFunc g args).run Try.prog w = .ok (.enter g args) w) (v : Value) (xs : List Int) (hC : ∀ j, j < xs.length → C (nth xs j)) (w : World) (hw : Below w0.heap.size w0 w) (hv : Ints w v xs) :
    Calls Try.prog 56 #[v, .func (.func g) #[] #[q, r]] w fun e w' => ∃ i : Int, e = .returned (.int .i64 i) ∧ FirstAt xs p i ∧ Below w.heap.size w w' := by
  obtain ⟨a, len, cap, rfl, hlen, hmx, hsh, hr⟩ := hv
  have Hg : Hid _ := hg
  have HC : Hid _ := hC
  clear hg hC
  go_enter Try.func56, Try.ntmps56
  go_wp2_with fail
  go_loopg [8] len (fun g i wr => ∃ k : Nat, k + g = len ∧ i = .int .i64 k ∧ Below w.heap.size w wr ∧ Hid (∀ j, j < k → p (nth xs j) = false))
  case atStart => exact ⟨0, by omega, rfl, Below.refl _ _, fun j hj => absurd hj (Nat.not_lt_zero _)⟩
  case round =>
    obtain ⟨k, hkg, rfl, hb, Hn⟩ := hrel
    by_cases hkn : k < len
    · obtain ⟨b1, o1, rfl, hb1, c0⟩ := (hr.below hb) k (by omega)
      have hw2 := below_then hw hb
      have HCk : Hid (C (nth xs k)) := HC.out k (by omega)
      obtain ⟨z, Hz⟩ : ∃ z, Hid (nth xs k = z) := ⟨_, rfl⟩
      rw [Hz.out] at c0 HCk
      go_wp2_with fail
      refine (Hg.out z _ HCk.out (by exact hw2)).mono ?_
      rintro e w2 ⟨rfl, b'⟩
      have R := below_then hb b'
      cases hp : p z
      · have Hn2 : Hid (∀ j, j < k + 1 → p (nth xs j) = false) := fun j hj => by
          by_cases e : j = k
          · subst e; rw [Hz.out]; exact hp
          · exact Hn.out j (by omega)
        clear b' hb c0 hp hw2
        go_wp2
        go_roundg (gk - 1)
        case measure => omega
        case rel => exact ⟨k + 1, by omega, by go_num, R, Hn2⟩
      · have F : Hid (FirstAt xs p k) := .inr ⟨k, rfl, by omega, by rw [Hz.out]; exact hp, Hn.out⟩
        clear b' hb c0 hp hw2
        go_wp2
        go_ret
        exact ⟨_, rfl, F.out, R⟩
    · have F : Hid (FirstAt xs p (-1)) := .inl ⟨rfl, fun j hj => Hn.out j (by omega)⟩
      go_wp2
      go_ret
      exact ⟨_, rfl, F.out, hb⟩

set_option maxHeartbeats 2000000 in
theorem deletefuncC2 (w0 : World) (g : Nat) (q r : Value) (C : Int → Prop) (p : Int → Bool) (hg : AsksC2 w0 g q r C p) (eg : ∀ args w, (callFunc g args).run Try.prog w = .ok (.enter g args) w) (v : Value) (xs : List Int) (hC : ∀ j, j < xs.length → C (nth xs j)) (w : World) (hO : Own w0.heap.size w0 w v xs) (hl : xs.length ≤ 17592186044416) :
    Calls Try.prog 27 #[v, .func (.func g) #[] #[q, r]] w fun e w' => ∃ u, e = .returned u ∧ Ints w' u (xs.filter fun x => !p x) ∧ (∀ a n c, u = .slice (some a) n c → w0.heap.size ≤ a.block) ∧ Below w0.heap.size w0 w' := by
  have hI := hO.ints hl
  have Hg : Hid _ := hg
  have HC : Hid _ := hC
  obtain ⟨zs, Hz⟩ : ∃ zs, Hid ((xs.filter fun x => !p x) = zs) := ⟨_, rfl⟩
  rw [Hz.out]
  go_enter Try.func27, Try.ntmps27
  go_wp2_with fail
  refine (indexfuncC2 w0 g q r C p hg eg _ xs hC _ hO.2.1 (by exact hI)).mono ?_
  rintro e w1 ⟨i, rfl, hF, b⟩
  replace hI := hI.below b
  replace hO := hO.trans b
  clear b hg hC
  rcases hF with ⟨rfl, hn⟩ | ⟨k, rfl, hk, hp, hn⟩
  · have E : Hid (xs = zs) := by
      show _ = _
      rw [← Hz.out]
      refine (List.filter_eq_self.2 fun x hx => ?_).symm
      obtain ⟨j, hj, rfl⟩ := List.getElem_of_mem hx
      have := hn j hj
      simp only [nth, List.getD, List.getElem?_eq_getElem hj, Option.getD_some] at this
      rw [this]; rfl
    have R := hO.2.1
    have R3 : Hid _ := hO.block
    rw [E.out] at hI
    clear hO hn
    go_wp2
    go_ret
    exact ⟨_, rfl, hI, R3.out, R⟩
  · obtain ⟨gb, cap, rfl, hcap, hc63, hR⟩ := hO.row (by omega)
    obtain ⟨hM, hM2⟩ := Moved.start hR hk hp hn
    have HM : Hid _ := hM
    have HM2 : Hid _ := hM2
    obtain ⟨len, Hlen⟩ : ∃ len, Hid (xs.length = len) := ⟨_, rfl⟩
    rw [Hlen.out] at hk hl hcap hI ⊢
    clear hO hR hM hM2 hp hn hI
    have hk1 : ((k : Int) == -1) = false := by rw [beq_eq_false_iff_ne]; omega
    go_wp2_with fail
    go_loopg [5, 6] (len - (k + 1)) (fun gg i j wx => ∃ (a k : Nat) (f : Nat → Int), k + gg = len ∧ i = .int .i64 a ∧ j = .int .i64 k ∧ Hid ((filtTo p xs k).length = a) ∧ Moved w0.heap.size gb w0 wx xs p k f)
    case atStart => exact ⟨k, k + 1, _, by omega, rfl, by go_num, HM2, HM.out⟩
    case round =>
      clear HM HM2 hk1 hk
      obtain ⟨a, k, f, hkg, rfl, rfl, Ha, hM⟩ := hrel
      have hak := hM.less
      rw [Ha.out] at hak
      by_cases hkn : k < len
      · have hkl : k < xs.length := by have := Hlen.out; omega
        have hc := hM.row.cells k hkl
        rw [hM.rest k (Nat.le_refl _) hkl] at hc
        have hbb := hM.row.below
        have HCk : Hid (C (nth xs k)) := HC.out k hkl
        have Hy : Hid (p (nth xs k) = true → filtTo p xs (k + 1) = filtTo p xs k) := fun h => filtTo_yes hkl h
        have Hno : Hid (p (nth xs k) = false → filtTo p xs (k + 1) = filtTo p xs k ++ [nth xs k]) := fun h => filtTo_no hkl h
        have HMy : Hid (∀ w2, Below wr.heap.size wr w2 → p (nth xs k) = true → Moved w0.heap.size gb w0 w2 xs p (k + 1) f) := fun w2 b h => (hM.to b).skip hkl h
        have HMn : Hid (∀ w2, Below wr.heap.size wr w2 → p (nth xs k) = false → ((∃ u, w2.cell? ⟨gb, a, none⟩ = some u) ∧ w2.frozen? ⟨gb, a, none⟩ = false) ∧ ∃ f', Moved w0.heap.size gb w0 (w2.setCell ⟨gb, a, none⟩ (.int .i64 (nth xs k))) xs p (k + 1) f') :=
          fun w2 b h => ⟨⟨⟨_, (hM.to b).row.cells a (by omega)⟩, (hM.to b).row.frozen a (by omega)⟩, (hM.to b).put hkl h Ha.out⟩
        clear hM hkl
        generalize nth xs k = z at *
        go_wp2_with fail
        refine (Hg.out z _ HCk.out (by exact hbb)).mono ?_
        rintro e w2 ⟨rfl, b⟩
        cases hp : p z
        · obtain ⟨⟨⟨u, e1⟩, e2⟩, f', hM2⟩ := HMn.out w2 b hp
          have R : Hid ((filtTo p xs (k + 1)).length = a + 1) := by have := Ha.out; rw [Hno.out hp]; simp; omega
          clear HMn HMy Hy Hno b hbb hc hp
          go_wp2
          go_roundg (gk - 1)
          case measure => omega
          case rel => exact ⟨a + 1, k + 1, f', by omega, by go_num, by go_num, R, hM2⟩
        · have hM2 := HMy.out w2 b hp
          have R : Hid ((filtTo p xs (k + 1)).length = a) := by rw [Hy.out hp]; exact Ha.out
          clear HMn HMy Hy Hno b hbb hc hp
          go_wp2
          go_roundg (gk - 1)
          case measure => omega
          case rel => exact ⟨a, k + 1, f, by omega, rfl, by go_num, R, hM2⟩
      · obtain ⟨hcl, R1, R2⟩ := hM.done (by have := Hlen.out; omega) (by rw [Hlen.out]; exact hl) (cap := cap) (by rw [Hlen.out]; exact hcap) hc63 Ha.out
        rw [Hlen.out] at hcl R1 R2
        rw [Hz.out] at R1
        have R3 : Hid (w0.heap.size ≤ gb) := hM.row.base
        clear hM
        go_wp2
        go_ret
        exact ⟨_, rfl, R1, fun a n c e => by injection e with e1 _ _; injection e1 with e1; rw [← e1]; exact R3.out, R2⟩

end Go.Proofs.Ytlknegihhcdhbaa

/- slices.Compact over numbers of an own row. -/
namespace Go.Proofs.Ytlknegihhcdhbaa
open Go.RowKit
set_option linter.unusedVariables false
set_option maxRecDepth 4000

/-- The first j, each run of equals once. -/
def ddTo (xs : List Int) : Nat → List Int
  | 0 => []
  | j + 1 => if j = 0 ∨ nth xs j ≠ nth xs (j - 1) then ddTo xs j ++ [nth xs j] else ddTo xs j
theorem ddTo_yes {xs : List Int} {j : Nat} (h : j = 0 ∨ nth xs j ≠ nth xs (j - 1)) : ddTo xs (j + 1) = ddTo xs j ++ [nth xs j] := by simp only [ddTo]; rw [if_pos h]
theorem ddTo_no {xs : List Int} {j : Nat} (h : ¬ (j = 0 ∨ nth xs j ≠ nth xs (j - 1))) : ddTo xs (j + 1) = ddTo xs j := by simp only [ddTo]; rw [if_neg h]
theorem ddTo_le (xs : List Int) : ∀ j, (ddTo xs j).length ≤ j
  | 0 => by simp [ddTo]
  | j + 1 => by
    have := ddTo_le xs j
    simp only [ddTo]
    split
    · simp; omega
    · omega
theorem ddTo_take {xs : List Int} : ∀ {k : Nat}, k ≤ xs.length → (∀ j, 0 < j → j < k → nth xs j ≠ nth xs (j - 1)) → ddTo xs k = xs.take k
  | 0, _, _ => by simp [ddTo]
  | k + 1, hk, h => by
    rw [ddTo_yes (by by_cases e : k = 0; exact .inl e; exact .inr (h k (by omega) (by omega))), ddTo_take (by omega) fun j h0 hj => h j h0 (by omega), List.take_succ_eq_append_getElem (by omega)]
    congr 2
    simp [nth, List.getD, List.getElem?_eq_getElem (show k < xs.length by omega)]

theorem nth_mono {xs : List Int} (hs : xs.Pairwise (· ≤ ·)) {i j : Nat} (hij : i < j) (hj : j < xs.length) : nth xs i ≤ nth xs j := by
  have := List.pairwise_iff_getElem.1 hs i j (by omega) hj hij
  simpa [nth, List.getD, List.getElem?_eq_getElem hj, List.getElem?_eq_getElem (show i < xs.length by omega)] using this
/-- What is kept rises, ends with the last that has come, and is what has come. -/
theorem ddTo_ok {xs : List Int} (hs : xs.Pairwise (· ≤ ·)) : ∀ {j : Nat}, j ≤ xs.length → (ddTo xs j).Pairwise (· < ·) ∧ (∀ t, t ∈ ddTo xs j ↔ ∃ i, i < j ∧ nth xs i = t)
  | 0, _ => by simp [ddTo]
  | j + 1, hj => by
    obtain ⟨h1, h2⟩ := ddTo_ok hs (j := j) (by omega)
    by_cases h : j = 0 ∨ nth xs j ≠ nth xs (j - 1)
    · rw [ddTo_yes h]
      refine ⟨?_, fun t => ?_⟩
      · rw [List.pairwise_append]
        refine ⟨h1, List.pairwise_singleton _ _, fun a ha b hb => ?_⟩
        rw [List.mem_singleton] at hb
        subst hb
        obtain ⟨i, hi, rfl⟩ := (h2 a).1 ha
        have m1 := nth_mono hs (show i < j from hi) (by omega)
        rcases h with q | q
        · omega
        · by_cases e : i = j - 1
          · subst e; omega
          · have m2 := nth_mono hs (show i < j - 1 by omega) (by omega)
            have m3 := nth_mono hs (show j - 1 < j by omega) (by omega)
            omega
      · rw [List.mem_append, h2, List.mem_singleton]
        constructor
        · rintro (⟨i, hi, rfl⟩ | rfl)
          · exact ⟨i, by omega, rfl⟩
          · exact ⟨j, by omega, rfl⟩
        · rintro ⟨i, hi, rfl⟩
          by_cases e : i = j
          · subst e; exact .inr rfl
          · exact .inl ⟨i, by omega, rfl⟩
    · rw [ddTo_no h]
      refine ⟨h1, fun t => ?_⟩
      rw [h2]
      constructor
      · rintro ⟨i, hi, rfl⟩; exact ⟨i, by omega, rfl⟩
      · rintro ⟨i, hi, rfl⟩
        by_cases e : i = j
        · subst e
          exact ⟨i - 1, by omega, by omega⟩
        · exact ⟨i, by omega, rfl⟩
theorem ddTo_mem {xs : List Int} (hs : xs.Pairwise (· ≤ ·)) (t : Int) : t ∈ ddTo xs xs.length ↔ t ∈ xs := by
  rw [(ddTo_ok hs (Nat.le_refl _)).2]
  constructor
  · rintro ⟨i, hi, rfl⟩
    have e : nth xs i = xs[i] := by simp [nth, List.getD, List.getElem?_eq_getElem hi]
    rw [e]; exact List.getElem_mem hi
  · intro h
    obtain ⟨i, hi, rfl⟩ := List.getElem_of_mem h
    exact ⟨i, hi, by simp [nth, List.getD, List.getElem?_eq_getElem hi]⟩

end Go.Proofs.Ytlknegihhcdhbaa

/- slices.Compact over numbers of an own row, walked. -/
namespace Go.Proofs.Ytlknegihhcdhbaa
open Go.RowKit
set_option linter.unusedVariables false
set_option maxRecDepth 4000

theorem RowF.cut {B g : Nat} {w wr : World} {n : Nat} {f : Nat → Int} (h : RowF B g w wr n f) {zs : List Int} {a cap : Nat} (ha : a < n) (hz : zs.length = a) (hf : ∀ t, t < a → f t = nth zs t) (hn : n ≤ 17592186044416) (hc : n ≤ cap) (hc2 : cap ≤ 9223372036854775807) :
    (∀ ty c, (Builtin.clear_ #[23] ty #[.slice (some ⟨g, a, none⟩) (n - a) c]).run Try.prog wr = .ok (.tuple #[]) (wr.setCells g a (List.replicate (n - a) (.int .i64 0)))) ∧
    Ints (wr.setCells g a (List.replicate (n - a) (.int .i64 0))) (.slice (some ⟨g, 0, none⟩) a cap) zs ∧ Below B w (wr.setCells g a (List.replicate (n - a) (.int .i64 0))) := by
  have hsz : ∀ (vs : List Value) (o : Nat) (w : World), (w.setCells g o vs).heap.size = w.heap.size := by
    intro vs
    induction vs with
    | nil => intro o w; rfl
    | cons v vs ih => intro o w; simp only [World.setCells]; rw [ih]; simp [World.setCell]
  have hbl : ∀ (vs : List Value) (o : Nat) (w1 : World), Below B w w1 → Below B w (w1.setCells g o vs) := by
    intro vs
    induction vs with
    | nil => intro o w1 hb; exact hb
    | cons v vs ih => intro o w1 hb; simp only [World.setCells]; exact ih _ _ (hb.setCell h.base _)
  refine ⟨fun ty c => Lib.run_clear_slice wr _ _ ty _ Try.underlying23 zero_int rfl rfl g a _ _ (by omega) (fun j hj => by rw [h.cells (a + j) (by omega)]; rfl) (fun j hj => h.frozen (a + j) (by omega)), ?_, hbl _ _ _ h.below⟩
  refine ⟨_, _, _, rfl, hz, by omega, ⟨by omega, hc2, fun h => by cases h⟩, fun j hj => ⟨g, 0, rfl, by rw [hsz]; exact h.size, ?_⟩⟩
  rw [World.cell?_setCells_out _ _ _ _ _ (by intro _ _; left; simp; omega), Nat.zero_add, h.cells j (by omega), hf j (by omega)]

structure MoveD (B g : Nat) (w wr : World) (xs : List Int) (j : Nat) (f : Nat → Int) : Prop where
  row : RowF B g w wr xs.length f
  front : ∀ t, t < (ddTo xs j).length → f t = nth (ddTo xs j) t
  rest : ∀ t, j ≤ t + 1 → t < xs.length → f t = nth xs t
  less : (ddTo xs j).length < j
theorem MoveD.start {B g : Nat} {w wr : World} {xs : List Int} {k : Nat} (h : RowF B g w wr xs.length (nth xs)) (h0 : 0 < k) (hk : k < xs.length) (he : nth xs k = nth xs (k - 1)) (hn : ∀ j, 0 < j → j < k → nth xs j ≠ nth xs (j - 1)) :
    MoveD B g w wr xs (k + 1) (nth xs) ∧ (ddTo xs (k + 1)).length = k := by
  have e : ddTo xs (k + 1) = xs.take k := by rw [ddTo_no (by rintro (q | q); omega; exact q he), ddTo_take (by omega) hn]
  have el : (ddTo xs (k + 1)).length = k := by rw [e]; simp; omega
  refine ⟨⟨h, fun t ht => ?_, fun t _ _ => rfl, by omega⟩, el⟩
  rw [e]
  rw [el] at ht
  simp [nth, List.getD, ht]
theorem MoveD.to {B g : Nat} {w wr w2 : World} {xs : List Int} {j : Nat} {f : Nat → Int} (h : MoveD B g w wr xs j f) (hb : Below wr.heap.size wr w2) : MoveD B g w w2 xs j f := ⟨h.row.to hb, h.front, h.rest, h.less⟩
theorem MoveD.skip {B g : Nat} {w wr : World} {xs : List Int} {j : Nat} {f : Nat → Int} (h : MoveD B g w wr xs j f) (h0 : 0 < j) (he : nth xs j = nth xs (j - 1)) : MoveD B g w wr xs (j + 1) f := by
  have e := ddTo_no (xs := xs) (j := j) (by rintro (q | q); omega; exact q he)
  refine ⟨h.row, fun t ht => ?_, fun t ht => h.rest t (by omega), by rw [e]; have := h.less; omega⟩
  rw [e] at ht ⊢
  exact h.front t ht
theorem MoveD.put {B g : Nat} {w wr : World} {xs : List Int} {j : Nat} {f : Nat → Int} (h : MoveD B g w wr xs j f) (hj : j < xs.length) (hne : nth xs j ≠ nth xs (j - 1)) {a : Nat} (ha : (ddTo xs j).length = a) :
    ∃ f', MoveD B g w (wr.setCell ⟨g, a, none⟩ (.int .i64 (nth xs j))) xs (j + 1) f' := by
  have e := ddTo_yes (xs := xs) (j := j) (.inr hne)
  have hl := h.less
  refine ⟨_, h.row.put (k := a) (by omega) (nth xs j), fun t ht => ?_, fun t ht htl => ?_, by rw [e]; simp; omega⟩
  · rw [e] at ht ⊢
    simp only [List.length_append, List.length_singleton] at ht
    by_cases q : t = a
    · subst q
      rw [if_pos rfl]
      simp [nth, List.getD, ← ha]
    · rw [if_neg q, h.front t (by omega)]
      simp [nth, List.getD, List.getElem?_append_left (show t < (ddTo xs j).length by omega)]
  · rw [if_neg (by omega)]
    exact h.rest t (by omega) htl

set_option maxHeartbeats 2000000 in
theorem compact_own (B : Nat) (w wq : World) (v : Value) (xs : List Int) (hO : Own B w wq v xs) (hs : xs.Pairwise (· ≤ ·)) (hl : xs.length ≤ 17592186044416) :
    Calls Try.prog 53 #[v] wq fun e w' => ∃ r ys, e = .returned r ∧ Ints w' r ys ∧ ys.Pairwise (· < ·) ∧ (∀ t, t ∈ ys ↔ t ∈ xs) ∧ Below B w w' := by
  have hI := hO.ints hl
  have hbw := hO.2.1
  by_cases h2 : xs.length < 2
  · have hlt : xs.Pairwise (· < ·) := by
      match xs, h2 with
      | [], _ => exact List.Pairwise.nil
      | [a], _ => exact List.pairwise_singleton _ _
      | a :: b :: c, h => simp at h; omega
    obtain ⟨a, len, cap, rfl, hlen, _, _, _⟩ := id hI
    rw [hlen] at h2
    clear hO
    go_enter Try.func53, Try.ntmps53
    go_wp2
    go_ret
    first | exact ⟨_, xs, rfl, hI, hlt, fun t => Iff.rfl, hbw⟩ | exact ⟨_, rfl, xs, hI, hlt, fun t => Iff.rfl, hbw⟩
  obtain ⟨gb, cap, rfl, hcap, hc63, hR⟩ := hO.row (by omega)
  have HD : Hid ((ddTo xs xs.length).Pairwise (· < ·) ∧ ∀ t, t ∈ ddTo xs xs.length ↔ t ∈ xs) := ⟨(ddTo_ok hs (Nat.le_refl _)).1, ddTo_mem hs⟩
  have HT : Hid ((∀ j, 0 < j → j < xs.length → nth xs j ≠ nth xs (j - 1)) → ddTo xs xs.length = xs) := fun h => by show _ = _; rw [ddTo_take (Nat.le_refl _) h, List.take_of_length_le (Nat.le_refl _)]
  obtain ⟨len, Hlen⟩ : ∃ len, Hid (xs.length = len) := ⟨_, rfl⟩
  rw [Hlen.out] at hl h2 hcap hR hI HD HT ⊢
  clear hO hs
  go_enter Try.func53, Try.ntmps53
  go_wp2_with fail
  go_loopg [3] (len - 1) (fun g i wx => ∃ k : Nat, k + g = len ∧ 0 < k ∧ i = .int .i64 k ∧ Below wq.heap.size wq wx ∧ Hid (∀ j, 0 < j → j < k → nth xs j ≠ nth xs (j - 1)))
  case atStart => exact ⟨1, by omega, by omega, rfl, Below.refl _ _, fun j h1 h2 => by omega⟩
  case round =>
    obtain ⟨k, hkg, hk0, rfl, hb, Hn⟩ := hrel
    obtain ⟨G, hGk⟩ : ∃ G, G = gk := ⟨_, rfl⟩
    subst hGk
    by_cases hkn : k < len
    · have hR2 := hR.to hb
      have c0 := hR2.cells k hkn
      have c1 := hR2.cells (k - 1) (by omega)
      have hk1 : (k : Int) - 1 = ((k - 1 : Nat) : Int) := by omega
      have hkk : k - 1 < len := by omega
      have HS : Hid (nth xs k ≠ nth xs (k - 1) → ∀ j, 0 < j → j < k + 1 → nth xs j ≠ nth xs (j - 1)) := fun h j h1 h2 => by
        by_cases e : j = k
        · subst e; exact h
        · exact Hn.out j h1 (by omega)
      have HM : Hid (∀ w2, Below wq.heap.size wq w2 → nth xs k = nth xs (k - 1) → MoveD B gb w w2 xs (k + 1) (nth xs) ∧ (ddTo xs (k + 1)).length = k) := fun w2 b h => MoveD.start (by rw [Hlen.out]; exact hR.to b) hk0 (by rw [Hlen.out]; exact hkn) h Hn.out
      generalize nth xs k = x at *
      generalize nth xs (k - 1) = y at *
      cases he : (x == y)
      · have R2 : Hid _ := HS.out (by simpa using he)
        clear HS HM Hn hR2
        go_wp2_with fail
        go_quiet (fail)
        have R := below_then hb (below_drewN (Below.refl wr.heap.size wr) nq)
        clear hb c0 c1 hk1
        go_wp2
        go_roundg (G - 1)
        case measure => omega
        case rel => exact ⟨k + 1, by omega, by omega, by go_num, R, R2⟩
      · clear HS Hn hR2
        go_wp2_with fail
        go_quiet (fail)
        have R := below_then hb (below_drewN (Below.refl wr.heap.size wr) nq)
        obtain ⟨hM, hM2⟩ := HM.out _ R (by simpa using he)
        clear hb c0 c1 hk1 HM
        obtain ⟨wd, Hwd⟩ : ∃ wd, Hid (wr.drewN nq = wd) := ⟨_, rfl⟩
        rw [Hwd.out] at hM R ⊢
        clear Hwd
        have HM0 : Hid _ := hM
        have HM2 : Hid _ := hM2
        clear hM hM2
        go_wp2_with fail
        go_loopg [3, 5] (len - k - 1) (fun g kc k2 wx => ∃ (a q : Nat) (f : Nat → Int), k + q + g = len ∧ 0 < q ∧ kc = .int .i64 a ∧ k2 = .int .i64 q ∧ Hid ((ddTo xs (k + q)).length = a) ∧ MoveD B gb w wx xs (k + q) f)
        case atStart => exact ⟨k, 1, _, by omega, by omega, rfl, rfl, HM2, HM0.out⟩
        case round =>
          clear HM0 HM2
          obtain ⟨a, q, f, hqg, hq0, rfl, rfl, Ha, hM⟩ := hrel
          have hak := hM.less
          rw [Ha.out] at hak
          have hkn2 : k ≤ len := by omega
          by_cases hqn : q < len - k
          · have hql : k + q < xs.length := by have := Hlen.out; omega
            have c0 := hM.row.cells (k + q) hql
            have c1 := hM.row.cells (k + (q - 1)) (by omega)
            rw [hM.rest (k + q) (by omega) hql] at c0
            rw [hM.rest (k + (q - 1)) (by omega) (by omega)] at c1
            have hq1 : (q : Int) - 1 = ((q - 1 : Nat) : Int) := by omega
            have hqq : q - 1 < len - k := by omega
            have eq1 : k + q - 1 = k + (q - 1) := by omega
            have Hy : Hid (nth xs (k + q) ≠ nth xs (k + (q - 1)) → (ddTo xs (k + q + 1)).length = a + 1) := fun h => by have := Ha.out; rw [ddTo_yes (.inr (by rw [eq1]; exact h))]; simp; omega
            have Hno : Hid (nth xs (k + q) = nth xs (k + (q - 1)) → (ddTo xs (k + q + 1)).length = a) := fun h => by rw [ddTo_no (by rintro (r | r); omega; exact r (by rw [eq1]; exact h))]; exact Ha.out
            have HMs : Hid (∀ w2, Below wr.heap.size wr w2 → nth xs (k + q) = nth xs (k + (q - 1)) → MoveD B gb w w2 xs (k + q + 1) f) := fun w2 b h => (hM.to b).skip (by omega) (by rw [eq1]; exact h)
            have HMp : Hid (∀ w2, Below wr.heap.size wr w2 → nth xs (k + q) ≠ nth xs (k + (q - 1)) → ((∃ u, w2.cell? ⟨gb, a, none⟩ = some u) ∧ w2.frozen? ⟨gb, a, none⟩ = false ∧ w2.cell? ⟨gb, k + q, none⟩ = some (.int .i64 (nth xs (k + q)))) ∧ ∃ f', MoveD B gb w (w2.setCell ⟨gb, a, none⟩ (.int .i64 (nth xs (k + q)))) xs (k + q + 1) f') :=
              fun w2 b h => ⟨⟨⟨_, (hM.to b).row.cells a (by omega)⟩, (hM.to b).row.frozen a (by omega), by rw [(hM.to b).row.cells (k + q) hql, hM.rest (k + q) (by omega) hql]⟩, (hM.to b).put hql (by rw [eq1]; exact h) Ha.out⟩
            clear hM hql eq1
            generalize nth xs (k + q) = x2 at *
            generalize nth xs (k + (q - 1)) = y2 at *
            cases hne : (x2 != y2)
            · have he2 : x2 = y2 := by simpa using hne
              have R1 : Hid _ := Hno.out he2
              have HMs2 : Hid (∀ w2, Below wr.heap.size wr w2 → MoveD B gb w w2 xs (k + q + 1) f) := fun w2 b => HMs.out w2 b he2
              clear Hy Hno HMs HMp he2
              go_wp2_with fail
              go_quiet (fail)
              have hM2 := HMs2.out _ (below_drewN (Below.refl wr.heap.size wr) nq)
              clear HMs2 c0 c1 hq1
              go_wp2
              go_roundg (gk - 1)
              case measure => omega
              case rel => exact ⟨a, q + 1, f, by omega, by omega, rfl, by go_num, R1, hM2⟩
            · have he2 : x2 ≠ y2 := by simpa using hne
              have R1 : Hid _ := Hy.out he2
              have HMp2 : Hid _ := fun w2 b => HMp.out w2 b he2
              clear Hy Hno HMs HMp he2
              go_wp2_with fail
              go_quiet (fail)
              obtain ⟨⟨⟨u, e1⟩, e2, e3⟩, f', hM2⟩ := HMp2.out _ (below_drewN (Below.refl wr.heap.size wr) nq)
              clear HMp2 c0 c1 hq1
              go_wp2
              go_roundg (gk - 1)
              case measure => omega
              case rel => exact ⟨a + 1, q + 1, f', by omega, by omega, by go_num, by go_num, R1, hM2⟩
          · have ekq : k + q = len := by omega
            rw [ekq] at hM Ha hak
            obtain ⟨hcl, R1, R2⟩ := hM.row.cut (a := a) (zs := ddTo xs len) (cap := cap) (by have := Hlen.out; omega) Ha.out (by intro t ht; exact hM.front t (by have := Ha.out; omega)) (by rw [Hlen.out]; exact hl) (by rw [Hlen.out]; exact hcap) hc63
            rw [Hlen.out] at hcl R1 R2
            clear hM ekq
            go_wp2
            go_ret
            first | exact ⟨_, _, rfl, R1, HD.out.1, HD.out.2, R2⟩ | exact ⟨_, rfl, _, R1, HD.out.1, HD.out.2, R2⟩
    · have E : Hid (ddTo xs len = xs) := HT.out (by intro j h1 h2; exact Hn.out j h1 (by omega))
      have hI2 := hI.below hb
      have R := hbw.trans (hb.mono (by have := hR.base; have := hR.size; omega))
      have HD2 : Hid _ := HD.out
      rw [E.out] at HD2
      go_wp2
      go_ret
      exact ⟨_, rfl, xs, hI2, HD2.out.1, fun t => Iff.rfl, R⟩

end Go.Proofs.Ytlknegihhcdhbaa

/- Plain words for nets with a beginning and an end. -/
namespace Go.Proofs.Ytlknegihhcdhbaa
set_option linter.unusedVariables false
set_option maxRecDepth 4000

/-- One token, at one place. -/
def startL (P i : Int) : List Int := mapTo (min P 16).toNat fun p => if (p : Int) = i then 1 else 0

theorem start_length (P i : Int) : (startL P i).length = (min P 16).toNat := mapTo_length _ _

theorem start_at (P i : Int) (p : Nat) (hp : p < (min P 16).toNat) : nth (startL P i) p = if (p : Int) = i then 1 else 0 := mapTo_nth _ _ _ hp

theorem start_bounds (P i : Int) (p : Nat) : 0 ≤ nth (startL P i) p ∧ nth (startL P i) p ≤ 1 := by
  by_cases hp : p < (min P 16).toNat
  · rw [start_at P i p hp]
    split <;> omega
  · rw [nth_past _ _ (by rw [start_length]; omega)]; omega

theorem start_right (P i : Int) : rightL (startL P i) = true := (rightL_iff _).2 fun j => by have := start_bounds P i j; omega

/-- Which places are behind a place. -/
def WayP (n : NetL) (f p : Nat) : Prop := ∀ Q : Nat → Prop, Q f → (∀ k a b, k < n.trans.length → Q a → nth (tranAt n.trans k).pre a ≠ 0 → nth (tranAt n.trans k).post b ≠ 0 → Q b) → Q p
/-- Which transitions are. -/
def WayT (n : NetL) (f k : Nat) : Prop := ∃ p, WayP n f p ∧ nth (tranAt n.trans k).pre p ≠ 0

theorem WayP.here (n : NetL) (f : Nat) : WayP n f f := fun Q h _ => h
theorem WayP.step {n : NetL} {f k a b : Nat} (h : WayP n f a) (hk : k < n.trans.length) (h1 : nth (tranAt n.trans k).pre a ≠ 0) (h2 : nth (tranAt n.trans k).post b ≠ 0) : WayP n f b :=
  fun Q q1 q2 => q2 k a b hk (h Q q1 q2) h1 h2

structure ShapeOk (n : NetL) (i o : Int) : Prop where
  ok : netOk n = true
  ne : i ≠ o
  i0 : 0 ≤ i
  i1 : i < n.places
  o0 : 0 ≤ o
  o1 : o < n.places
  p1 : ∀ p : Nat, (p : Int) < n.places → WayP n i.toNat p
  p2 : ∀ p : Nat, (p : Int) < n.places → WayP (turnL n) o.toNat p
  t1 : ∀ k, k < n.trans.length → WayT n i.toNat k
  t2 : ∀ k, k < n.trans.length → WayT (turnL n) o.toNat k
  put : ∀ k, k < n.trans.length → nth (tranAt n.trans k).post i.toNat = 0
  take : ∀ k, k < n.trans.length → nth (tranAt n.trans k).pre o.toNat = 0

/-- What is wrong. -/
structure Judged (n : NetL) (i o e : Int) : Prop where
  bad : netOk n = false → e = 2
  form : netOk n = true → ¬ ShapeOk n i o → e = 1
  right : ShapeOk n i o → e = 0

theorem Judged.unique {n : NetL} {i o e f : Int} (h : Judged n i o e) (k : Judged n i o f) : e = f := by
  cases hn : netOk n with
  | false => rw [h.bad hn, k.bad hn]
  | true =>
    by_cases hs : ShapeOk n i o
    · rw [h.right hs, k.right hs]
    · rw [h.form hn hs, k.form hn hs]

theorem Judged.of_bad {n : NetL} {i o : Int} (h : netOk n = false) : Judged n i o 2 := ⟨fun _ => rfl, fun q => (by rw [h] at q; cases q), fun q => (by have := q.ok; rw [h] at this; cases this)⟩
theorem Judged.of_form {n : NetL} {i o : Int} (h : netOk n = true) (hs : ¬ ShapeOk n i o) : Judged n i o 1 := ⟨fun q => (by rw [h] at q; cases q), fun _ _ => rfl, fun q => absurd q hs⟩
theorem Judged.of_right {n : NetL} {i o : Int} (hs : ShapeOk n i o) : Judged n i o 0 := ⟨fun q => (by have := hs.ok; rw [q] at this; cases this), fun _ q => absurd hs q, fun _ => rfl⟩
theorem Judged.zero {n : NetL} {i o : Int} (h : Judged n i o 0) : ShapeOk n i o := by
  cases hn : netOk n with
  | false => have := h.bad hn; omega
  | true =>
    by_cases hs : ShapeOk n i o
    · exact hs
    · have := h.form hn hs; omega
theorem Judged.not_zero {n : NetL} {i o e : Int} (h : Judged n i o e) (he : e ≠ 0) : ¬ ShapeOk n i o := fun hs => he (h.right hs)

theorem turn_back (n : NetL) : turnL (turnL n) = n := by
  unfold turnL
  simp only [List.map_map]
  cases n with
  | mk P ts =>
    congr 1
    have : (turnT ∘ turnT) = id := by funext t; exact turn_turn t
    rw [this, List.map_id]

theorem turn_ok_iff (n : NetL) : netOk (turnL n) = netOk n := by
  cases h : netOk n with
  | true => exact turn_ok n h
  | false =>
    cases h2 : netOk (turnL n) with
    | false => rfl
    | true =>
      have h3 := turn_ok _ h2
      rw [turn_back, h] at h3
      cases h3

theorem turn_count (n : NetL) : (turnL n).trans.length = n.trans.length := by simp [turnL]

theorem turn_tran (n : NetL) {k : Nat} (hk : k < n.trans.length) : tranAt (turnL n).trans k = turnT (tranAt n.trans k) := turn_at _ _ hk

/-- The other way round it has one, too. -/
theorem ShapeOk.turned {n : NetL} {i o : Int} (h : ShapeOk n i o) : ShapeOk (turnL n) o i where
  ok := by rw [turn_ok_iff]; exact h.ok
  ne := fun e => h.ne e.symm
  i0 := h.o0
  i1 := h.o1
  o0 := h.i0
  o1 := h.i1
  p1 := h.p2
  p2 := by rw [turn_back]; exact h.p1
  t1 := by rw [turn_count]; exact h.t2
  t2 := by rw [turn_back, turn_count]; exact h.t1
  put := by
    rw [turn_count]
    intro k hk
    rw [turn_tran n hk]
    exact h.take k hk
  take := by
    rw [turn_count]
    intro k hk
    rw [turn_tran n hk]
    exact h.put k hk

theorem Judged.turned {n : NetL} {i o e : Int} (h : Judged n i o e) : Judged (turnL n) o i e where
  bad := by rw [turn_ok_iff]; exact h.bad
  form := by
    rw [turn_ok_iff]
    exact fun q hs => h.form q fun k => hs k.turned
  right := fun hs => h.right (by have := hs.turned; rwa [turn_back] at this)

/-- With one more transition, from the end to the beginning. -/
def closeL (n : NetL) (i o : Int) : NetL := ⟨n.places, n.trans ++ [⟨0, startL n.places o, startL n.places i⟩]⟩

/-- What Close answers. -/
structure Closed (n : NetL) (i o : Int) (c : NetL) (e : Int) : Prop where
  right : ShapeOk n i o → n.trans.length < 24 → e = 0 ∧ c = closeL n i o
  full : ShapeOk n i o → ¬ n.trans.length < 24 → e = 4 ∧ c = ⟨0, []⟩
  bad : ¬ ShapeOk n i o → Judged n i o e ∧ c = ⟨0, []⟩

theorem Closed.unique {n c d : NetL} {i o e f : Int} (h : Closed n i o c e) (k : Closed n i o d f) : c = d ∧ e = f := by
  by_cases hs : ShapeOk n i o
  · by_cases hl : n.trans.length < 24
    · obtain ⟨h1, h2⟩ := h.right hs hl
      obtain ⟨k1, k2⟩ := k.right hs hl
      exact ⟨by rw [h2, k2], by rw [h1, k1]⟩
    · obtain ⟨h1, h2⟩ := h.full hs hl
      obtain ⟨k1, k2⟩ := k.full hs hl
      exact ⟨by rw [h2, k2], by rw [h1, k1]⟩
  · obtain ⟨h1, h2⟩ := h.bad hs
    obtain ⟨k1, k2⟩ := k.bad hs
    exact ⟨by rw [h2, k2], h1.unique k1⟩

theorem Closed.zero {n c : NetL} {i o : Int} (h : Closed n i o c 0) : ShapeOk n i o ∧ n.trans.length < 24 ∧ c = closeL n i o := by
  by_cases hs : ShapeOk n i o
  · by_cases hl : n.trans.length < 24
    · exact ⟨hs, hl, (h.right hs hl).2⟩
    · have := (h.full hs hl).1; omega
  · obtain ⟨h1, h2⟩ := h.bad hs
    exact absurd h1.zero hs

theorem Closed.none {n c : NetL} {i o e : Int} (h : Closed n i o c e) (he : e ≠ 0) : c = ⟨0, []⟩ := by
  by_cases hs : ShapeOk n i o
  · by_cases hl : n.trans.length < 24
    · exact absurd (h.right hs hl).1 he
    · exact (h.full hs hl).2
  · exact (h.bad hs).2

theorem head_of {n : NetL} (h : netOk n = true) : 0 ≤ n.places ∧ n.places ≤ 16 ∧ n.trans.length ≤ 24 := by
  simp only [netOk, headOk, Bool.and_eq_true, decide_eq_true_eq] at h
  exact ⟨h.1.1.1, h.1.1.2, h.1.2⟩

theorem start_len {n : NetL} (h : netOk n = true) (i : Int) : ((startL n.places i).length : Int) = n.places := by
  obtain ⟨h0, h1, _⟩ := head_of h
  rw [start_length]; omega

theorem start_fits {n : NetL} (h : netOk n = true) (i : Int) : fitsL n (startL n.places i) = true := fits_mk h (start_len h i) (start_right _ _)

theorem mem_nth {xs : List Int} {x : Int} (h : x ∈ xs) : ∃ j, j < xs.length ∧ nth xs j = x := by
  obtain ⟨j, hj, e⟩ := List.getElem_of_mem h
  exact ⟨j, hj, by simp [nth, List.getD, List.getElem?_eq_getElem hj, e]⟩

theorem start_tran {n : NetL} (h : netOk n = true) (i o : Int) : tranOk n.places ⟨0, startL n.places o, startL n.places i⟩ = true := by
  have l1 := start_len h o
  have l2 := start_len h i
  simp only [tranOk, tranHead, Bool.and_eq_true, beq_iff_eq, decide_eq_true_eq, List.all_eq_true, List.mem_append]
  refine ⟨⟨⟨⟨by omega, by omega⟩, l1⟩, l2⟩, ?_⟩
  rintro x (hx | hx)
  all_goals
    obtain ⟨j, _, rfl⟩ := mem_nth hx
    simp only [weightOk, Bool.and_eq_true, decide_eq_true_eq]
  · have := start_bounds n.places o j; omega
  · have := start_bounds n.places i j; omega

theorem close_ok {n : NetL} (h : netOk n = true) (hl : n.trans.length < 24) (i o : Int) : netOk (closeL n i o) = true := by
  obtain ⟨h0, h1, _⟩ := head_of h
  have hs := start_tran h i o
  simp only [netOk, Bool.and_eq_true] at h
  simp only [netOk, headOk, closeL, Bool.and_eq_true, List.length_append, List.length_cons, List.length_nil, List.all_append, List.all_cons, List.all_nil]
  exact ⟨⟨⟨decide_eq_true h0, decide_eq_true h1⟩, decide_eq_true (by omega)⟩, h.2, hs, trivial⟩

theorem close_count (n : NetL) (i o : Int) : (closeL n i o).trans.length = n.trans.length + 1 := by simp [closeL]

theorem close_at (n : NetL) (i o : Int) {k : Nat} (hk : k < n.trans.length) : tranAt (closeL n i o).trans k = tranAt n.trans k := by
  unfold closeL tranAt List.getD
  simp [List.getElem?_append, hk]

theorem close_last (n : NetL) (i o : Int) : tranAt (closeL n i o).trans n.trans.length = ⟨0, startL n.places o, startL n.places i⟩ := by
  unfold closeL tranAt List.getD
  simp

theorem close_fits {n : NetL} (h : netOk n = true) (hl : n.trans.length < 24) (i o : Int) (m : List Int) : fitsL (closeL n i o) m = fitsL n m := by
  unfold fitsL
  rw [close_ok h hl, h]
  rfl

theorem close_fire {n : NetL} (h : netOk n = true) (hl : n.trans.length < 24) (i o : Int) (m : List Int) {t : Int} (ht : t ≠ n.trans.length) : fireL (closeL n i o) m t = fireL n m t := by
  unfold fireL
  rw [close_fits h hl, close_count]
  have e : decide (t < ((n.trans.length + 1 : Nat) : Int)) = decide (t < (n.trans.length : Int)) := by rw [decide_eq_decide]; omega
  rw [e]
  by_cases q : 0 ≤ t ∧ t < n.trans.length
  · rw [close_at n i o (show t.toNat < n.trans.length by omega)]
  · have f : (decide (0 ≤ t) && decide (t < (n.trans.length : Int))) = false := by
      rw [Bool.and_eq_false_iff, decide_eq_false_iff_not, decide_eq_false_iff_not]
      omega
    rw [f]
    simp

theorem close_run {n : NetL} (h : netOk n = true) (hl : n.trans.length < 24) (i o : Int) (seq : List Int) : ∀ (m : List Int), (n.trans.length : Int) ∉ seq → runL (closeL n i o) m seq = runL n m seq := by
  induction seq with
  | nil => intro m _; unfold runL; rw [close_fits h hl]
  | cons t ts ih =>
    intro m hm
    simp only [List.mem_cons, not_or] at hm
    rw [runL_cons, runL_cons, close_fits h hl, close_fire h hl i o m (fun e => hm.1 e.symm), ih _ hm.2]

/-- From the end the beginning is come to by one firing. -/
theorem close_round {n : NetL} (h : netOk n = true) (hl : n.trans.length < 24) (i o : Int) : fireL (closeL n i o) (startL n.places o) (n.trans.length : Nat) = (startL n.places i, 0) := by
  have hk : n.trans.length < (closeL n i o).trans.length := by rw [close_count]; omega
  have e : addL (subL (startL n.places o) (startL n.places o)) (startL n.places i) = startL n.places i := by
    refine eq_of_at ?_ fun j => ?_
    · rw [add_length, sub_length]
      simp only [start_length]
      omega
    · rw [add_at, sub_at]; omega
  have hf : fitsL (closeL n i o) (startL n.places o) = true := by rw [close_fits h hl]; exact start_fits h o
  have := fire_mk hk hf (by rw [close_last]; exact covers_self _) (by rw [close_last]; simp only; rw [e]; exact start_right _ _)
  rw [this, close_last]
  simp only
  rw [e]

/-- What was closed has no beginning. -/
theorem close_form {n : NetL} {i o : Int} (hs : ShapeOk n i o) (hl : n.trans.length < 24) : ¬ ShapeOk (closeL n i o) i o := by
  intro q
  have h1 := q.put n.trans.length (by rw [close_count]; omega)
  rw [close_last] at h1
  simp only at h1
  obtain ⟨h0, h16, _⟩ := head_of hs.ok
  have := hs.i0
  have := hs.i1
  rw [start_at n.places i i.toNat (by omega), if_pos (by omega)] at h1
  omega

theorem close_same (n : NetL) (i o : Int) : (closeL n i o).trans.take n.trans.length = n.trans := by simp [closeL]

/-! ### at the end nothing goes on -/
theorem end_none {n : NetL} {i o : Int} (hs : ShapeOk n i o) : canTo n (startL n.places o) n.trans.length = [] := by
  rw [List.eq_nil_iff_forall_not_mem]
  intro t ht
  obtain ⟨k, rfl, hk, hc⟩ := (can_mem n _ _ _).1 ht
  obtain ⟨p, _, hp⟩ := hs.t1 k hk
  have hcp := (coversL_iff _ _).1 hc p
  have hpo : (p : Int) ≠ o := fun e => hp (by have := hs.take k hk; rw [← e, Int.toNat_natCast] at this; exact this)
  have hb := (okTok_nth (tran_right (net_tran hs.ok hk)).1 p).1
  have : nth (startL n.places o) p = 0 := by
    by_cases q : p < (min n.places 16).toNat
    · rw [start_at _ _ _ q, if_neg hpo]
    · exact nth_past _ _ (by rw [start_length]; omega)
  omega

/-- Nothing comes to the beginning again. -/
theorem run_low {n : NetL} {i o : Int} (hs : ShapeOk n i o) (seq : List Int) : ∀ {m x : List Int}, runL n m seq = (x, 0) → nth m i.toNat = 0 → nth x i.toNat = 0 := by
  induction seq with
  | nil => intro m x h h0; obtain ⟨_, rfl⟩ := run_nil.1 h; exact h0
  | cons t ts ih =>
    intro m x h h0
    obtain ⟨y, h1, h2⟩ := run_cons.1 h
    refine ih h2 ?_
    obtain ⟨k, rfl, hk, hf, hc, hr, rfl⟩ := fire_ok h1
    have h3 := (coversL_iff _ _).1 hc i.toNat
    have h4 := (okTok_nth (tran_right (net_tran hs.ok hk)).1 i.toNat).1
    rw [add_at, sub_at, hs.put k hk]
    omega

theorem run_gone {n : NetL} {i o : Int} (hs : ShapeOk n i o) {seq x : List Int} (h : runL n (startL n.places i) seq = (x, 0)) (h0 : seq ≠ []) : nth x i.toNat = 0 := by
  cases seq with
  | nil => exact absurd rfl h0
  | cons t ts =>
    obtain ⟨y, h1, h2⟩ := run_cons.1 h
    refine run_low hs ts h2 ?_
    obtain ⟨k, rfl, hk, hf, hc, hr, rfl⟩ := fire_ok h1
    obtain ⟨p, _, hp⟩ := hs.t1 k hk
    have hcp := (coversL_iff _ _).1 hc p
    have hb := (okTok_nth (tran_right (net_tran hs.ok hk)).1 p).1
    have hsb := start_bounds n.places i p
    have hpi : (p : Int) = i := by
      by_cases q : p < (min n.places 16).toNat
      · rw [start_at _ _ _ q] at hcp
        by_cases e : (p : Int) = i
        · exact e
        · rw [if_neg e] at hcp; omega
      · rw [nth_past (startL n.places i) p (by rw [start_length]; omega)] at hcp; omega
    have : i.toNat = p := by omega
    rw [add_at, sub_at, hs.put k hk, this]
    omega

end Go.Proofs.Ytlknegihhcdhbaa

/- Plain words for cases: nets worked off, with work that takes its time. -/
namespace Go.Proofs.Ytlknegihhcdhbaa
set_option linter.unusedVariables false
set_option maxRecDepth 4000

structure CaseL where
  mark : List Int
  busy : List Int

def noCase : CaseL := ⟨[], []⟩
def rightC (n : NetL) (c : CaseL) : Bool := fitsL n c.mark && (c.busy.length == n.trans.length) && rightL c.busy
def zerosL (k : Nat) : List Int := List.replicate k 0
theorem zeros_length (k : Nat) : (zerosL k).length = k := List.length_replicate
theorem zeros_at (k j : Nat) : nth (zerosL k) j = 0 := by
  unfold nth zerosL
  rw [List.getD_eq_getElem?_getD, List.getElem?_replicate]
  split <;> rfl
theorem zeros_right (k : Nat) : rightL (zerosL k) = true := (rightL_iff _).2 fun j => by rw [zeros_at]; omega

/-- Where it begins. -/
def beginC (n : NetL) (i : Int) : CaseL × Int :=
  if netOk n then (if 0 ≤ i ∧ i < n.places then (⟨startL n.places i, zerosL n.trans.length⟩, 0) else (noCase, 3)) else (noCase, 2)
theorem begin_bad {n : NetL} {i : Int} (h : netOk n = false) : beginC n i = (noCase, 2) := by simp [beginC, h]
theorem begin_none {n : NetL} {i : Int} (h : netOk n = true) (hi : ¬ (0 ≤ i ∧ i < n.places)) : beginC n i = (noCase, 3) := by simp [beginC, h, hi]
theorem begin_ok {n : NetL} {i : Int} (h : netOk n = true) (hi : 0 ≤ i ∧ i < n.places) : beginC n i = (⟨startL n.places i, zerosL n.trans.length⟩, 0) := by simp [beginC, h, hi]

/-- What is taken, what is given, how many more go on. -/
def takeC (t : TranL) (kind : Int) : List Int := if kind = 1 ∨ kind = 2 then t.pre else []
def giveC (t : TranL) (kind : Int) : List Int := if kind = 1 ∨ kind = 3 then t.post else if kind = 4 then t.pre else []
def moreC (kind : Int) : Int := if kind = 2 then 1 else if kind = 3 ∨ kind = 4 then -1 else 0
def outC (n : NetL) (c : CaseL) (kind : Int) (k : Nat) : CaseL :=
  ⟨addL (subL c.mark (takeC (tranAt n.trans k) kind)) (giveC (tranAt n.trans k) kind), c.busy.set k (nth c.busy k + moreC kind)⟩
def doC (n : NetL) (c : CaseL) (kind tran : Int) : CaseL × Int :=
  if rightC n c = false then (noCase, 2)
  else if kind < 1 ∨ 4 < kind then (noCase, 5)
  else if tran < 0 ∨ (n.trans.length : Int) ≤ tran then (noCase, 3)
  else if ¬ ((tranAt n.trans tran.toNat).label = 0 ↔ kind = 1) then (noCase, 1)
  else if coversL c.mark (takeC (tranAt n.trans tran.toNat) kind) = false ∨ nth c.busy tran.toNat + moreC kind < 0 then (noCase, 3)
  else if rightC n (outC n c kind tran.toNat) then (outC n c kind tran.toNat, 0) else (noCase, 4)

theorem do_range {n : NetL} {c : CaseL} {kind tran : Int} (h : rightC n c = false) : doC n c kind tran = (noCase, 2) := by simp [doC, h]
theorem do_kind {n : NetL} {c : CaseL} {kind tran : Int} (h : rightC n c = true) (hk : kind < 1 ∨ 4 < kind) : doC n c kind tran = (noCase, 5) := by simp [doC, h, hk]
theorem do_none {n : NetL} {c : CaseL} {kind tran : Int} (h : rightC n c = true) (hk : ¬ (kind < 1 ∨ 4 < kind)) (ht : tran < 0 ∨ (n.trans.length : Int) ≤ tran) : doC n c kind tran = (noCase, 3) := by
  unfold doC; rw [if_neg (by simp [h]), if_neg hk, if_pos ht]
theorem do_form {n : NetL} {c : CaseL} {kind : Int} {k : Nat} (h : rightC n c = true) (hk : ¬ (kind < 1 ∨ 4 < kind)) (ht : k < n.trans.length) (hf : ¬ ((tranAt n.trans k).label = 0 ↔ kind = 1)) : doC n c kind k = (noCase, 1) := by
  unfold doC; rw [if_neg (by simp [h]), if_neg hk, if_neg (by omega), Int.toNat_natCast, if_pos hf]
theorem do_not {n : NetL} {c : CaseL} {kind : Int} {k : Nat} (h : rightC n c = true) (hk : ¬ (kind < 1 ∨ 4 < kind)) (ht : k < n.trans.length) (hf : ((tranAt n.trans k).label = 0 ↔ kind = 1))
    (hc : coversL c.mark (takeC (tranAt n.trans k) kind) = false ∨ nth c.busy k + moreC kind < 0) : doC n c kind k = (noCase, 3) := by
  unfold doC; rw [if_neg (by simp [h]), if_neg hk, if_neg (by omega), Int.toNat_natCast, if_neg (fun q => q hf), if_pos hc]
theorem do_out {n : NetL} {c : CaseL} {kind : Int} {k : Nat} (h : rightC n c = true) (hk : ¬ (kind < 1 ∨ 4 < kind)) (ht : k < n.trans.length) (hf : ((tranAt n.trans k).label = 0 ↔ kind = 1))
    (hc : ¬ (coversL c.mark (takeC (tranAt n.trans k) kind) = false ∨ nth c.busy k + moreC kind < 0)) : doC n c kind k = if rightC n (outC n c kind k) then (outC n c kind k, 0) else (noCase, 4) := by
  unfold doC; rw [if_neg (by simp [h]), if_neg hk, if_neg (by omega), Int.toNat_natCast, if_neg (fun q => q hf), if_neg hc]

structure DoOk (n : NetL) (c : CaseL) (kind : Int) (k : Nat) (x : CaseL) : Prop where
  right : rightC n c = true
  kind1 : 1 ≤ kind
  kind4 : kind ≤ 4
  lt : k < n.trans.length
  form : (tranAt n.trans k).label = 0 ↔ kind = 1
  covers : coversL c.mark (takeC (tranAt n.trans k) kind) = true
  more : 0 ≤ nth c.busy k + moreC kind
  out : x = outC n c kind k
  right2 : rightC n x = true
theorem do_ok {n : NetL} {c x : CaseL} {kind tran : Int} : doC n c kind tran = (x, 0) ↔ ∃ k : Nat, tran = k ∧ DoOk n c kind k x := by
  constructor
  · intro h
    cases hr : rightC n c with
    | false => rw [do_range hr] at h; injection h with _ h; cases h
    | true =>
      by_cases hk : kind < 1 ∨ 4 < kind
      · rw [do_kind hr hk] at h; injection h with _ h; cases h
      · by_cases ht : tran < 0 ∨ (n.trans.length : Int) ≤ tran
        · rw [do_none hr hk ht] at h; injection h with _ h; cases h
        · obtain ⟨k, rfl⟩ := Int.eq_ofNat_of_zero_le (show 0 ≤ tran by omega)
          by_cases hf : ((tranAt n.trans k).label = 0 ↔ kind = 1)
          · by_cases hc : coversL c.mark (takeC (tranAt n.trans k) kind) = false ∨ nth c.busy k + moreC kind < 0
            · rw [do_not hr hk (by omega) hf hc] at h; injection h with _ h; cases h
            · rw [do_out hr hk (by omega) hf hc] at h
              cases hr2 : rightC n (outC n c kind k) with
              | false => rw [hr2] at h; injection h with _ h; cases h
              | true =>
                rw [hr2, if_pos rfl] at h
                injection h with h _
                exact ⟨k, rfl, hr, by omega, by omega, by omega, hf, by cases q : coversL c.mark (takeC (tranAt n.trans k) kind) <;> simp_all, by omega, h.symm, by rw [← h]; exact hr2⟩
          · rw [do_form hr hk (by omega) hf] at h; injection h with _ h; cases h
  · rintro ⟨k, rfl, h⟩
    rw [do_out h.right (by have := h.kind1; have := h.kind4; omega) h.lt h.form (by rw [h.covers]; have := h.more; simp; omega), if_pos (by rw [← h.out]; exact h.right2), h.out]

theorem do_err {n : NetL} {c : CaseL} {kind tran : Int} (h : (doC n c kind tran).2 ≠ 0) : (doC n c kind tran).1 = noCase := by
  unfold doC at h ⊢
  repeat' split
  all_goals first | rfl | skip
  simp_all

theorem rightC_iff {n : NetL} {c : CaseL} : rightC n c = true ↔ fitsL n c.mark = true ∧ c.busy.length = n.trans.length ∧ rightL c.busy = true := by
  unfold rightC; simp [Bool.and_eq_true, and_assoc]

theorem sub_nil (m : List Int) : subL m [] = m := eq_of_at (by rw [sub_length]; simp) fun j => by rw [sub_at]; simp [nth]
theorem add_nil (m : List Int) : addL m [] = m := eq_of_at (by rw [add_length]; simp) fun j => by rw [add_at]; simp [nth]
theorem nth_set' (xs : List Int) (i : Nat) (x : Int) (p : Nat) (hi : i < xs.length) : nth (xs.set i x) p = if p = i then x else nth xs p := by
  unfold nth
  rw [List.getD_eq_getElem?_getD, List.getD_eq_getElem?_getD, List.getElem?_set]
  by_cases e : i = p
  · subst e; simp [hi]
  · rw [if_neg e, if_neg (fun q => e q.symm)]
theorem set_back (xs : List Int) (i : Nat) (x : Int) (hi : i < xs.length) : (xs.set i x).set i (nth xs i) = xs := eq_of_at (by simp) fun j => by
  rw [nth_set' _ _ _ _ (by simpa using hi), nth_set' _ _ _ _ hi]
  split
  · rename_i e; rw [e]
  · rfl

/-- What was begun and given back is as if it had not been. -/
theorem case_undo {n : NetL} {c x : CaseL} {t : Int} (h : doC n c 2 t = (x, 0)) : doC n x 4 t = (c, 0) := by
  replace h := do_ok.1 h
  obtain ⟨k, rfl, h⟩ := h
  obtain ⟨hf, hl, hr⟩ := rightC_iff.1 h.right
  obtain ⟨hn, hm, _⟩ := fits_net hf
  have hpl := (tran_length hn h.lt).1
  have ht : takeC (tranAt n.trans k) 2 = (tranAt n.trans k).pre := by simp [takeC]
  have hg : giveC (tranAt n.trans k) 2 = [] := by simp [giveC]
  have ht4 : takeC (tranAt n.trans k) 4 = [] := by simp [takeC]
  have hg4 : giveC (tranAt n.trans k) 4 = (tranAt n.trans k).pre := by simp [giveC]
  have hb := (rightL_iff _).1 hr k
  have e : outC n x 4 k = c := by
    rw [h.out]
    unfold outC
    rw [ht, hg, ht4, hg4, sub_nil, add_nil]
    cases c with
    | mk m b =>
      congr 1
      · refine eq_of_at ?_ fun j => ?_
        · show (addL (subL m _) _).length = m.length
          replace hm : (m.length : Int) = n.places := hm
          rw [add_length, sub_length]; omega
        · show nth (addL (subL m _) _) j = nth m j
          rw [add_at, sub_at]; omega
      · show (b.set k (nth b k + moreC 2)).set k (nth (b.set k (nth b k + moreC 2)) k + moreC 4) = b
        rw [nth_set' _ _ _ _ (by rw [show b.length = _ from hl]; exact h.lt), if_pos rfl, show nth b k + moreC 2 + moreC 4 = nth b k by simp [moreC]; try omega]
        exact set_back _ _ _ (by rw [show b.length = _ from hl]; exact h.lt)
  refine do_ok.2 ⟨k, rfl, h.right2, by omega, by omega, h.lt, ?_, ?_, ?_, e.symm, h.right⟩
  · have := h.form; constructor
    · intro q; have := this.1 q; omega
    · intro q; omega
  · rw [ht4, h.out]
    exact (coversL_iff _ _).2 fun j => by
      have := (rightL_iff _).1 (fits_net (rightC_iff.1 h.right2).1).2.2 j
      rw [h.out] at this
      simp [nth] at this ⊢
      omega
  · rw [h.out]
    show 0 ≤ nth (c.busy.set k _) k + moreC 4
    rw [nth_set' _ _ _ _ (by rw [hl]; exact h.lt), if_pos rfl]
    simp [moreC]; omega

/-- Begun and ended at once it is a firing. -/
theorem case_once {n : NetL} {c x : CaseL} {t : Int} (h : doC n c 2 t = (x, 0)) :
    (∃ m, fireL n c.mark t = (m, 0) ∧ doC n x 3 t = (⟨m, c.busy⟩, 0)) ∨ ((fireL n c.mark t).2 = 4 ∧ (doC n x 3 t).2 = 4) := by
  replace h := do_ok.1 h
  obtain ⟨k, rfl, h⟩ := h
  obtain ⟨hf, hl, hr⟩ := rightC_iff.1 h.right
  obtain ⟨hn, hm, hmr⟩ := fits_net hf
  obtain ⟨hpl, hql⟩ := tran_length hn h.lt
  have ht : takeC (tranAt n.trans k) 2 = (tranAt n.trans k).pre := by simp [takeC]
  have hg : giveC (tranAt n.trans k) 2 = [] := by simp [giveC]
  have ht3 : takeC (tranAt n.trans k) 3 = [] := by simp [takeC]
  have hg3 : giveC (tranAt n.trans k) 3 = (tranAt n.trans k).post := by simp [giveC]
  have hb := (rightL_iff _).1 hr k
  have hcov := h.covers
  rw [ht] at hcov
  have e : outC n x 3 k = ⟨addL (subL c.mark (tranAt n.trans k).pre) (tranAt n.trans k).post, c.busy⟩ := by
    rw [h.out]
    unfold outC
    rw [ht, hg, ht3, hg3, sub_nil, add_nil]
    congr 1
    show (c.busy.set k (nth c.busy k + moreC 2)).set k (nth (c.busy.set k (nth c.busy k + moreC 2)) k + moreC 3) = c.busy
    rw [nth_set' _ _ _ _ (by rw [hl]; exact h.lt), if_pos rfl, show nth c.busy k + moreC 2 + moreC 3 = nth c.busy k by simp [moreC]; try omega]
    exact set_back _ _ _ (by rw [hl]; exact h.lt)
  have hfm : (tranAt n.trans k).label = 0 ↔ (3 : Int) = 1 := by
    have := h.form; constructor
    · intro q; have := this.1 q; omega
    · intro q; omega
  have hnc : ¬ (coversL x.mark (takeC (tranAt n.trans k) 3) = false ∨ nth x.busy k + moreC 3 < 0) := by
    rw [ht3]
    rintro (q | q)
    · have : coversL x.mark [] = true := (coversL_iff _ _).2 fun j => by
        have := (rightL_iff _).1 (fits_net (rightC_iff.1 h.right2).1).2.2 j
        simp [nth] at this ⊢
        omega
      rw [this] at q; cases q
    · rw [h.out] at q
      have q : nth (c.busy.set k (nth c.busy k + moreC 2)) k + moreC 3 < 0 := q
      rw [nth_set' _ _ _ _ (by rw [hl]; exact h.lt), if_pos rfl] at q
      simp [moreC] at q; omega
  have hd := do_out h.right2 (kind := 3) (by omega) h.lt hfm hnc
  rw [e] at hd
  cases hr2 : rightL (addL (subL c.mark (tranAt n.trans k).pre) (tranAt n.trans k).post) with
  | true =>
    refine .inl ⟨_, fire_mk h.lt hf hcov hr2, ?_⟩
    rw [hd, if_pos]
    exact rightC_iff.2 ⟨fits_mk hn (by rw [add_length, sub_length]; omega) hr2, hl, hr⟩
  | false =>
    refine .inr ⟨?_, ?_⟩
    · unfold fireL
      rw [hf, decide_eq_true (show (0 : Int) ≤ k by omega), decide_eq_true (show (k : Int) < n.trans.length by have := h.lt; omega), Int.toNat_natCast, hcov, hr2]
      rfl
    · rw [hd, if_neg]
      intro q
      obtain ⟨q1, _, _⟩ := rightC_iff.1 q
      have := (fits_net q1).2.2
      rw [show (CaseL.mk (addL (subL c.mark (tranAt n.trans k).pre) (tranAt n.trans k).post) c.busy).mark = addL (subL c.mark (tranAt n.trans k).pre) (tranAt n.trans k).post from rfl, hr2] at this
      cases this

/-- One thing behind the other; what has an error changes nothing. -/
def playC (n : NetL) : CaseL → List (Int × Int) → CaseL × List Int
  | c, [] => (c, [])
  | c, o :: os => ((playC n (if (doC n c o.1 o.2).2 = 0 then (doC n c o.1 o.2).1 else c) os).1, (doC n c o.1 o.2).2 :: (playC n (if (doC n c o.1 o.2).2 = 0 then (doC n c o.1 o.2).1 else c) os).2)
def stepC (n : NetL) (c : CaseL) (o : Int × Int) : CaseL := if (doC n c o.1 o.2).2 = 0 then (doC n c o.1 o.2).1 else c
theorem play_snoc (n : NetL) : ∀ (os : List (Int × Int)) (c : CaseL) (o : Int × Int), playC n c (os ++ [o]) = (stepC n (playC n c os).1 o, (playC n c os).2 ++ [(doC n (playC n c os).1 o.1 o.2).2])
  | [], c, o => rfl
  | p :: os, c, o => by
    have := play_snoc n os (stepC n c p) o
    show ((playC n (stepC n c p) (os ++ [o])).1, _ :: (playC n (stepC n c p) (os ++ [o])).2) = _
    rw [this]; rfl
theorem play_length (n : NetL) : ∀ (os : List (Int × Int)) (c : CaseL), (playC n c os).2.length = os.length
  | [], _ => rfl
  | p :: os, c => by
    show ((doC n c p.1 p.2).2 :: (playC n (stepC n c p) os).2).length = _
    rw [List.length_cons, play_length n os, List.length_cons]
theorem step_right {n : NetL} {c : CaseL} (h : rightC n c = true) (o : Int × Int) : rightC n (stepC n c o) = true := by
  unfold stepC
  split
  · rename_i e
    obtain ⟨k, _, hk⟩ := do_ok.1 (show doC n c o.1 o.2 = ((doC n c o.1 o.2).1, 0) from Prod.ext rfl e)
    exact hk.right2
  · exact h
theorem play_right {n : NetL} : ∀ (os : List (Int × Int)) {c : CaseL}, rightC n c = true → rightC n (playC n c os).1 = true
  | [], _, h => h
  | p :: os, c, h => by
    show rightC n (playC n (stepC n c p) os).1 = true
    exact play_right os (step_right h p)
theorem begin_right {n : NetL} {i : Int} (h : (beginC n i).2 = 0) : rightC n (beginC n i).1 = true ∧ netOk n = true ∧ 0 ≤ i ∧ i < n.places := by
  cases hn : netOk n with
  | false => rw [begin_bad hn] at h; cases h
  | true =>
    by_cases hi : 0 ≤ i ∧ i < n.places
    · rw [begin_ok hn hi]
      refine ⟨rightC_iff.2 ⟨fits_mk hn ?_ (start_right _ _), zeros_length _, zeros_right _⟩, rfl, hi⟩
      rw [start_length]
      unfold netOk headOk at hn
      simp only [Bool.and_eq_true, decide_eq_true_eq] at hn
      omega
    · rw [begin_none hn hi] at h; cases h
def playAll (n : NetL) (i : Int) (os : List (Int × Int)) : CaseL × List Int × Int :=
  if (beginC n i).2 = 0 then ((playC n (beginC n i).1 os).1, (playC n (beginC n i).1 os).2, 0) else (noCase, [], (beginC n i).2)
theorem begin_err {n : NetL} {i : Int} (h : (beginC n i).2 ≠ 0) : (beginC n i).1 = noCase := by
  unfold beginC at h ⊢
  repeat' split
  all_goals first | rfl | skip
  simp_all

end Go.Proofs.Ytlknegihhcdhbaa

/- Plain words for desks: work handed out to people. -/
namespace Go.Proofs.Ytlknegihhcdhbaa
set_option linter.unusedVariables false
set_option maxRecDepth 4000

structure ItemL where
  user : Int
  tran : Int
  opn : Bool
structure DeskL where
  case : CaseL
  items : List ItemL
structure DOp where
  kind : Int
  user : Int
  tran : Int
  item : Int
  hand : Int
structure DAns where
  err : Int
  item : Int

def noItem : ItemL := ⟨0, 0, false⟩
def itemAt (l : List ItemL) (k : Nat) : ItemL := l.getD k noItem
def noDOp : DOp := ⟨0, 0, 0, 0, 0⟩
def dopAt (l : List DOp) (k : Nat) : DOp := l.getD k noDOp
def dansAt (l : List DAns) (k : Nat) : DAns := l.getD k ⟨0, 0⟩

/-- May this user do what has this label? -/
def mayL (roles : List (List Int)) (user label : Int) : Bool := decide (0 ≤ user) && decide (user < roles.length) && decide (user < 8) && (roles.getD user.toNat []).contains label
theorem may_iff {roles : List (List Int)} {user label : Int} : mayL roles user label = true ↔ ∃ u : Nat, user = u ∧ u < roles.length ∧ u < 8 ∧ label ∈ roles.getD u [] := by
  unfold mayL
  simp only [Bool.and_eq_true, decide_eq_true_eq, List.contains_iff_mem]
  constructor
  · rintro ⟨⟨⟨h0, h1⟩, h2⟩, h3⟩
    exact ⟨user.toNat, by omega, by omega, by omega, h3⟩
  · rintro ⟨u, rfl, h1, h2, h3⟩
    exact ⟨⟨⟨by omega, by omega⟩, by omega⟩, by simpa using h3⟩

/-- What a thing done at a desk does in the case: its kind there, and its transition. -/
def caseOp (d : DeskL) (o : DOp) : Int × Int :=
  if o.kind = 1 then (2, o.tran) else if o.kind = 2 then (3, (itemAt d.items o.item.toNat).tran) else if o.kind = 3 then (4, (itemAt d.items o.item.toNat).tran) else (1, o.tran)
/-- What it does to the items. -/
def newItems (d : DeskL) (o : DOp) : List ItemL :=
  if o.kind = 1 then d.items ++ [⟨o.user, o.tran, true⟩]
  else if o.kind = 2 ∨ o.kind = 3 then d.items.set o.item.toNat ⟨(itemAt d.items o.item.toNat).user, (itemAt d.items o.item.toNat).tran, false⟩
  else if o.kind = 4 then d.items.set o.item.toNat ⟨o.hand, (itemAt d.items o.item.toNat).tran, true⟩
  else d.items
/-- The item that it tells of. -/
def toldItem (d : DeskL) (o : DOp) : Int := if o.kind = 1 then d.items.length else if o.kind = 5 then 0 else o.item
/-- Why not, ahead of the case. -/
def deskErr (n : NetL) (roles : List (List Int)) (d : DeskL) (o : DOp) : Int :=
  if o.kind < 1 ∨ 5 < o.kind then 5
  else if o.kind = 5 then 0
  else if o.kind = 1 then
    (if o.tran < 0 ∨ (n.trans.length : Int) ≤ o.tran then 3 else if mayL roles o.user (tranAt n.trans o.tran.toNat).label then 0 else 6)
  else if o.item < 0 ∨ (d.items.length : Int) ≤ o.item ∨ (itemAt d.items o.item.toNat).opn = false then 3
  else if (itemAt d.items o.item.toNat).user ≠ o.user then 7
  else if o.kind = 4 ∧ mayL roles o.hand (tranAt n.trans (itemAt d.items o.item.toNat).tran.toNat).label = false then 6
  else 0
def deskDo (n : NetL) (roles : List (List Int)) (d : DeskL) (o : DOp) : DeskL × DAns :=
  if deskErr n roles d o ≠ 0 then (d, ⟨deskErr n roles d o, 0⟩)
  else if o.kind = 4 then (⟨d.case, newItems d o⟩, ⟨0, toldItem d o⟩)
  else if (doC n d.case (caseOp d o).1 (caseOp d o).2).2 ≠ 0 then (d, ⟨(doC n d.case (caseOp d o).1 (caseOp d o).2).2, 0⟩)
  else (⟨(doC n d.case (caseOp d o).1 (caseOp d o).2).1, newItems d o⟩, ⟨0, toldItem d o⟩)

theorem desk_err {n : NetL} {roles : List (List Int)} {d : DeskL} {o : DOp} (h : (deskDo n roles d o).2.err ≠ 0) : (deskDo n roles d o).1 = d := by
  unfold deskDo at h ⊢
  split
  · rfl
  · rename_i h1
    rw [if_neg h1] at h
    split
    · rename_i h2
      rw [if_pos h2] at h; exact absurd rfl h
    · rename_i h2
      rw [if_neg h2] at h
      split
      · rfl
      · rename_i h3
        rw [if_neg h3] at h; exact absurd rfl h

/-- It is done: what it takes. -/
structure DeskOk (n : NetL) (roles : List (List Int)) (d : DeskL) (o : DOp) (x : DeskL) : Prop where
  err : deskErr n roles d o = 0
  items : x.items = newItems d o
  give : o.kind = 4 → x.case = d.case
  done : o.kind ≠ 4 → doC n d.case (caseOp d o).1 (caseOp d o).2 = (x.case, 0)
theorem desk_ok {n : NetL} {roles : List (List Int)} {d : DeskL} {o : DOp} (h : (deskDo n roles d o).2.err = 0) : DeskOk n roles d o (deskDo n roles d o).1 ∧ (deskDo n roles d o).2.item = toldItem d o := by
  unfold deskDo at h ⊢
  by_cases h1 : deskErr n roles d o ≠ 0
  · rw [if_pos h1] at h; exact absurd h h1
  · rw [if_neg h1] at h ⊢
    by_cases h2 : o.kind = 4
    · rw [if_pos h2]; exact ⟨⟨by omega, rfl, fun _ => rfl, fun q => absurd h2 q⟩, rfl⟩
    · rw [if_neg h2] at h ⊢
      by_cases h3 : (doC n d.case (caseOp d o).1 (caseOp d o).2).2 ≠ 0
      · rw [if_pos h3] at h; exact absurd h h3
      · rw [if_neg h3]; exact ⟨⟨by omega, rfl, fun q => absurd q h2, fun _ => Prod.ext rfl (by omega)⟩, rfl⟩

/-- How many open items there are of a transition. -/
def cntI (t : Nat) (x : ItemL) : Nat := if x.opn = true ∧ x.tran = t then 1 else 0
theorem cnt_shut {t : Nat} {x : ItemL} (h : x.opn = false) : cntI t x = 0 := by simp [cntI, h]
theorem cnt_open {t a : Nat} {x : ItemL} (h : x.opn = true) (ha : x.tran = a) : cntI t x = if a = t then 1 else 0 := by
  unfold cntI
  by_cases e : a = t
  · rw [if_pos e, if_pos ⟨h, by omega⟩]
  · rw [if_neg e, if_neg (fun q => e (by have := q.2; omega))]
def openOf (t : Nat) : List ItemL → Nat
  | [] => 0
  | x :: l => cntI t x + openOf t l
theorem open_append (t : Nat) : ∀ (l m : List ItemL), openOf t (l ++ m) = openOf t l + openOf t m
  | [], m => by simp [openOf]
  | x :: l, m => by simp only [List.cons_append, openOf, open_append t l m]; omega
theorem open_set (t : Nat) (y : ItemL) : ∀ (l : List ItemL) (k : Nat), k < l.length → openOf t (l.set k y) + cntI t (itemAt l k) = openOf t l + cntI t y
  | [], k, h => absurd h (Nat.not_lt_zero _)
  | x :: l, 0, h => by
    show cntI t y + openOf t l + cntI t x = cntI t x + openOf t l + cntI t y
    omega
  | x :: l, k + 1, h => by
    have := open_set t y l k (by simpa using h)
    show cntI t x + openOf t (l.set k y) + cntI t (itemAt l k) = cntI t x + openOf t l + cntI t y
    omega

/-- What holds at a desk. -/
structure DeskInv (n : NetL) (roles : List (List Int)) (d : DeskL) : Prop where
  right : rightC n d.case = true
  may : ∀ k, k < d.items.length → ∃ t : Nat, (itemAt d.items k).tran = t ∧ t < n.trans.length ∧ mayL roles (itemAt d.items k).user (tranAt n.trans t).label = true
  busy : ∀ t, t < n.trans.length → nth d.case.busy t = openOf t d.items

theorem item_append_left {l m : List ItemL} {k : Nat} (h : k < l.length) : itemAt (l ++ m) k = itemAt l k := by
  unfold itemAt; rw [List.getD_eq_getElem?_getD, List.getD_eq_getElem?_getD, List.getElem?_append_left h]
theorem item_last (l : List ItemL) (x : ItemL) : itemAt (l ++ [x]) l.length = x := by
  unfold itemAt; rw [List.getD_eq_getElem?_getD, List.getElem?_append_right (Nat.le_refl _)]; simp
theorem item_set {l : List ItemL} {k j : Nat} {x : ItemL} (h : k < l.length) : itemAt (l.set k x) j = if j = k then x else itemAt l j := by
  unfold itemAt
  rw [List.getD_eq_getElem?_getD, List.getD_eq_getElem?_getD, List.getElem?_set]
  by_cases e : k = j
  · subst e; simp [h]
  · rw [if_neg e, if_neg (fun q => e q.symm)]

theorem DeskInv.step {n : NetL} {roles : List (List Int)} {d x : DeskL} {o : DOp} (h : DeskInv n roles d) (hd : DeskOk n roles d o x) : DeskInv n roles x := by
  have he := hd.err
  unfold deskErr at he
  by_cases k0 : o.kind < 1 ∨ 5 < o.kind
  · rw [if_pos k0] at he; omega
  rw [if_neg k0] at he
  obtain ⟨hf, hbl, _⟩ := rightC_iff.1 h.right
  by_cases k5 : o.kind = 5
  · obtain ⟨t, ht, hk⟩ := do_ok.1 (hd.done (by omega))
    have e1 : (caseOp d o).1 = 1 := by unfold caseOp; rw [if_neg (by omega), if_neg (by omega), if_neg (by omega)]
    rw [e1] at hk
    have ei : x.items = d.items := by rw [hd.items]; unfold newItems; rw [if_neg (by omega), if_neg (by omega), if_neg (by omega)]
    refine ⟨hk.right2, fun k hk' => by rw [ei] at hk' ⊢; exact h.may k hk', fun t' ht' => ?_⟩
    rw [ei, ← h.busy t' ht', hk.out]
    show nth (d.case.busy.set t _) t' = _
    rw [nth_set' _ _ _ _ (by rw [hbl]; exact hk.lt)]
    split
    · rename_i e; subst e; simp [moreC]
    · rfl
  rw [if_neg k5] at he
  by_cases k1 : o.kind = 1
  · rw [if_pos k1] at he
    by_cases ht : o.tran < 0 ∨ (n.trans.length : Int) ≤ o.tran
    · rw [if_pos ht] at he; omega
    rw [if_neg ht] at he
    obtain ⟨t, et⟩ := Int.eq_ofNat_of_zero_le (show 0 ≤ o.tran by omega)
    cases hm : mayL roles o.user (tranAt n.trans o.tran.toNat).label with
    | false => rw [hm] at he; exact absurd he (by decide)
    | true =>
      obtain ⟨t2, ht2, hk⟩ := do_ok.1 (hd.done (by omega))
      have e1 : caseOp d o = (2, o.tran) := by unfold caseOp; rw [if_pos k1]
      rw [e1] at hk ht2
      obtain rfl : t2 = t := by simp only at ht2; omega
      simp only at hk
      have ei : x.items = d.items ++ [⟨o.user, o.tran, true⟩] := by rw [hd.items]; unfold newItems; rw [if_pos k1]
      refine ⟨hk.right2, fun k hk' => ?_, fun t' ht' => ?_⟩
      · rw [ei] at hk' ⊢
        by_cases hkl : k < d.items.length
        · rw [item_append_left hkl]; exact h.may k hkl
        · obtain rfl : k = d.items.length := by simp at hk'; omega
          rw [item_last]
          exact ⟨t2, et, hk.lt, by rw [et] at hm; simpa using hm⟩
      · rw [ei, open_append, hk.out]
        show nth (d.case.busy.set t2 _) t' = _
        rw [nth_set' _ _ _ _ (by rw [hbl]; exact hk.lt)]
        have hb := h.busy t' ht'
        have hc : openOf t' [⟨o.user, o.tran, true⟩] = if t2 = t' then 1 else 0 := by
          show cntI t' ⟨o.user, o.tran, true⟩ + 0 = _
          rw [cnt_open (a := t2) rfl et]; rfl
        rw [hc]
        by_cases e : t' = t2
        · subst e
          rw [if_pos rfl, if_pos rfl, hb]
          simp [moreC]
        · rw [if_neg e, if_neg (fun q => e q.symm), hb]; rfl
  rw [if_neg k1] at he
  by_cases hi : o.item < 0 ∨ (d.items.length : Int) ≤ o.item ∨ (itemAt d.items o.item.toNat).opn = false
  · rw [if_pos hi] at he; omega
  rw [if_neg hi] at he
  obtain ⟨k, ek⟩ := Int.eq_ofNat_of_zero_le (show 0 ≤ o.item by omega)
  have hkn : o.item.toNat = k := by omega
  rw [hkn] at hi he
  have hkl : k < d.items.length := by omega
  have hopn : (itemAt d.items k).opn = true := by
    cases q : (itemAt d.items k).opn with
    | true => rfl
    | false => exact absurd (.inr (.inr q)) hi
  obtain ⟨t, et, htl, hmay⟩ := h.may k hkl
  by_cases hu : (itemAt d.items k).user ≠ o.user
  · rw [if_pos hu] at he; omega
  rw [if_neg hu] at he
  by_cases k4 : o.kind = 4
  · by_cases hm : o.kind = 4 ∧ mayL roles o.hand (tranAt n.trans (itemAt d.items k).tran.toNat).label = false
    · rw [if_pos hm] at he; omega
    have hm' : mayL roles o.hand (tranAt n.trans t).label = true := by
      cases q : mayL roles o.hand (tranAt n.trans t).label with
      | true => rfl
      | false => exact absurd ⟨k4, by rw [et]; simpa using q⟩ hm
    have ei : x.items = d.items.set k ⟨o.hand, (itemAt d.items k).tran, true⟩ := by rw [hd.items]; unfold newItems; rw [if_neg k1, if_neg (by omega), if_pos k4, hkn]
    have ec := hd.give k4
    refine ⟨by rw [ec]; exact h.right, fun j hj => ?_, fun t' ht' => ?_⟩
    · rw [ei] at hj ⊢
      rw [item_set hkl]
      by_cases e : j = k
      · rw [if_pos e]; exact ⟨t, et, htl, hm'⟩
      · rw [if_neg e]; exact h.may j (by simpa using hj)
    · have := open_set t' ⟨o.hand, (itemAt d.items k).tran, true⟩ d.items k hkl
      rw [cnt_open (a := t) hopn et, cnt_open (a := t) (x := ⟨o.hand, (itemAt d.items k).tran, true⟩) rfl et] at this
      rw [ei, ec, h.busy t' ht']
      omega
  · have ei : x.items = d.items.set k ⟨(itemAt d.items k).user, (itemAt d.items k).tran, false⟩ := by rw [hd.items]; unfold newItems; rw [if_neg k1, if_pos (by omega), hkn]
    obtain ⟨t2, ht2, hk⟩ := do_ok.1 (hd.done k4)
    have e1 : (caseOp d o).2 = (itemAt d.items k).tran ∧ moreC (caseOp d o).1 = -1 := by
      unfold caseOp
      rw [if_neg k1]
      by_cases k2 : o.kind = 2
      · rw [if_pos k2, hkn]; exact ⟨rfl, by simp [moreC]⟩
      · rw [if_neg k2, if_pos (by omega), hkn]; exact ⟨rfl, by simp [moreC]⟩
    obtain rfl : t2 = t := by rw [e1.1, et] at ht2; omega
    refine ⟨hk.right2, fun j hj => ?_, fun t' ht' => ?_⟩
    · rw [ei] at hj ⊢
      rw [item_set hkl]
      by_cases e : j = k
      · rw [if_pos e]; exact ⟨t2, et, htl, hmay⟩
      · rw [if_neg e]; exact h.may j (by simpa using hj)
    · have := open_set t' ⟨(itemAt d.items k).user, (itemAt d.items k).tran, false⟩ d.items k hkl
      rw [cnt_open (a := t2) hopn et, cnt_shut rfl] at this
      rw [ei, hk.out]
      show nth (d.case.busy.set t2 _) t' = _
      rw [nth_set' _ _ _ _ (by rw [hbl]; exact hk.lt), e1.2]
      have hb := h.busy t' ht'
      by_cases e : t' = t2
      · subst e
        rw [if_pos rfl] at this ⊢
        rw [hb]
        omega
      · rw [if_neg e, hb]
        rw [if_neg (fun q => e q.symm)] at this
        omega

/-- One behind the other. -/
def deskPlay (n : NetL) (roles : List (List Int)) : DeskL → List DOp → DeskL × List DAns
  | d, [] => (d, [])
  | d, o :: os => ((deskPlay n roles (deskDo n roles d o).1 os).1, (deskDo n roles d o).2 :: (deskPlay n roles (deskDo n roles d o).1 os).2)
theorem desk_length (n : NetL) (roles : List (List Int)) : ∀ (os : List DOp) (d : DeskL), (deskPlay n roles d os).2.length = os.length
  | [], _ => rfl
  | o :: os, d => by
    show ((deskDo n roles d o).2 :: (deskPlay n roles (deskDo n roles d o).1 os).2).length = _
    rw [List.length_cons, desk_length n roles os, List.length_cons]
theorem DeskInv.play {n : NetL} {roles : List (List Int)} : ∀ (os : List DOp) {d : DeskL}, DeskInv n roles d → DeskInv n roles (deskPlay n roles d os).1
  | [], _, h => h
  | o :: os, d, h => by
    show DeskInv n roles (deskPlay n roles (deskDo n roles d o).1 os).1
    refine DeskInv.play os ?_
    by_cases e : (deskDo n roles d o).2.err = 0
    · exact h.step (desk_ok e).1
    · rw [desk_err e]; exact h
def deskBegin (n : NetL) (i : Int) : DeskL := ⟨(beginC n i).1, []⟩
theorem desk_begin {n : NetL} {i : Int} (roles : List (List Int)) (h : (beginC n i).2 = 0) : DeskInv n roles (deskBegin n i) := by
  obtain ⟨h1, hn, h2⟩ := begin_right h
  refine ⟨h1, fun k hk => absurd hk (Nat.not_lt_zero _), fun t ht => ?_⟩
  show nth (beginC n i).1.busy t = _
  rw [begin_ok hn h2]
  show nth (zerosL _) t = _
  rw [zeros_at]; rfl
def noDesk : DeskL := ⟨noCase, []⟩
def deskAll (n : NetL) (i : Int) (roles : List (List Int)) (os : List DOp) : DeskL × List DAns × Int :=
  if (beginC n i).2 = 0 then ((deskPlay n roles (deskBegin n i) os).1, (deskPlay n roles (deskBegin n i) os).2, 0) else (noDesk, [], (beginC n i).2)

/-- The items only grow, and each keeps its transition. -/
theorem items_keep {n : NetL} {roles : List (List Int)} (o : DOp) {d : DeskL} {k : Nat} (h : k < d.items.length) : k < (deskDo n roles d o).1.items.length ∧ (itemAt (deskDo n roles d o).1.items k).tran = (itemAt d.items k).tran := by
  by_cases e : (deskDo n roles d o).2.err = 0
  · have hd := (desk_ok e).1
    rw [hd.items]
    unfold newItems
    split
    · rw [item_append_left h]; exact ⟨by simp; omega, rfl⟩
    · split
      · refine ⟨by simpa using h, ?_⟩
        by_cases hl : o.item.toNat < d.items.length
        · rw [item_set hl]; split
          · rename_i e; rw [e]
          · rfl
        · rw [List.set_eq_of_length_le (by omega)]
      · split
        · refine ⟨by simpa using h, ?_⟩
          by_cases hl : o.item.toNat < d.items.length
          · rw [item_set hl]; split
            · rename_i e; rw [e]
            · rfl
          · rw [List.set_eq_of_length_le (by omega)]
        · exact ⟨h, rfl⟩
  · rw [desk_err e]; exact ⟨h, rfl⟩
theorem items_play {n : NetL} {roles : List (List Int)} : ∀ (os : List DOp) {d : DeskL} {k : Nat}, k < d.items.length → k < (deskPlay n roles d os).1.items.length ∧ (itemAt (deskPlay n roles d os).1.items k).tran = (itemAt d.items k).tran
  | [], _, _, h => ⟨h, rfl⟩
  | o :: os, d, k, h => by
    obtain ⟨h1, h2⟩ := items_keep (n := n) (roles := roles) o h
    obtain ⟨h3, h4⟩ := items_play os h1
    exact ⟨h3, h4.trans h2⟩

end Go.Proofs.Ytlknegihhcdhbaa

/- What is done at a desk, in the case; what is refused. -/
namespace Go.Proofs.Ytlknegihhcdhbaa
set_option linter.unusedVariables false
set_option maxRecDepth 4000

theorem desk_snoc (n : NetL) (roles : List (List Int)) : ∀ (os : List DOp) (d : DeskL) (o : DOp), deskPlay n roles d (os ++ [o]) = ((deskDo n roles (deskPlay n roles d os).1 o).1, (deskPlay n roles d os).2 ++ [(deskDo n roles (deskPlay n roles d os).1 o).2])
  | [], d, o => rfl
  | p :: os, d, o => by
    have := desk_snoc n roles os (deskDo n roles d p).1 o
    show ((deskPlay n roles (deskDo n roles d p).1 (os ++ [o])).1, _ :: (deskPlay n roles (deskDo n roles d p).1 (os ++ [o])).2) = _
    rw [this]; rfl
theorem desk_append (n : NetL) (roles : List (List Int)) : ∀ (xs : List DOp) (d : DeskL) (ys : List DOp), deskPlay n roles d (xs ++ ys) = ((deskPlay n roles (deskPlay n roles d xs).1 ys).1, (deskPlay n roles d xs).2 ++ (deskPlay n roles (deskPlay n roles d xs).1 ys).2)
  | [], d, ys => rfl
  | x :: xs, d, ys => by
    have := desk_append n roles xs (deskDo n roles d x).1 ys
    show ((deskPlay n roles (deskDo n roles d x).1 (xs ++ ys)).1, _ :: (deskPlay n roles (deskDo n roles d x).1 (xs ++ ys)).2) = _
    rw [this]; rfl
/-- The desk behind the first so many. -/
def deskAt (n : NetL) (roles : List (List Int)) (d : DeskL) (os : List DOp) (k : Nat) : DeskL := (deskPlay n roles d (os.take k)).1
theorem dop_snoc {os : List DOp} {k : Nat} (h : k < os.length) : os.take (k + 1) = os.take k ++ [dopAt os k] := by
  rw [List.take_add_one, List.getElem?_eq_getElem h, dopAt, List.getD_eq_getElem?_getD, List.getElem?_eq_getElem h]; rfl
theorem deskAt_succ (n : NetL) (roles : List (List Int)) (d : DeskL) {os : List DOp} {k : Nat} (h : k < os.length) : deskAt n roles d os (k + 1) = (deskDo n roles (deskAt n roles d os k) (dopAt os k)).1 := by
  unfold deskAt; rw [dop_snoc h, desk_snoc]
theorem deskAt_all (n : NetL) (roles : List (List Int)) (d : DeskL) {os : List DOp} {k : Nat} (h : os.length ≤ k) : deskAt n roles d os k = (deskPlay n roles d os).1 := by
  unfold deskAt; rw [List.take_of_length_le h]
theorem dop_parts {os : List DOp} {k : Nat} (h : k < os.length) : os = os.take k ++ (dopAt os k :: os.drop (k + 1)) := by
  have h1 := (List.take_append_drop k os).symm
  rw [List.drop_eq_getElem_cons h] at h1
  rw [dopAt, List.getD_eq_getElem?_getD, List.getElem?_eq_getElem h]; exact h1
theorem ans_at (n : NetL) (roles : List (List Int)) (d : DeskL) {os : List DOp} {k : Nat} (h : k < os.length) : dansAt (deskPlay n roles d os).2 k = (deskDo n roles (deskAt n roles d os k) (dopAt os k)).2 := by
  have e := dop_parts h
  have hl : (deskPlay n roles d (os.take k)).2.length = k := by rw [desk_length, List.length_take]; omega
  have : dansAt (deskPlay n roles d (os.take k ++ (dopAt os k :: os.drop (k + 1)))).2 k = (deskDo n roles (deskAt n roles d os k) (dopAt os k)).2 := by
    rw [desk_append]
    show dansAt ((deskPlay n roles d (os.take k)).2 ++ _) k = _
    unfold dansAt
    rw [List.getD_eq_getElem?_getD, List.getElem?_append_right (by omega), hl, Nat.sub_self]
    rfl
  rw [← e] at this
  exact this
/-- What was there is there at the end, with its transition. -/
theorem item_end (n : NetL) (roles : List (List Int)) (d : DeskL) {os : List DOp} {k j : Nat} (h : k ≤ os.length) (hj : j < (deskAt n roles d os k).items.length) :
    j < (deskPlay n roles d os).1.items.length ∧ (itemAt (deskPlay n roles d os).1.items j).tran = (itemAt (deskAt n roles d os k).items j).tran := by
  have e : deskPlay n roles d os = deskPlay n roles d (os.take k ++ os.drop k) := by rw [List.take_append_drop]
  rw [e, desk_append]
  exact items_play _ hj

/-- What was done, as things done in the case. -/
def doneTo (n : NetL) (roles : List (List Int)) (d : DeskL) (os : List DOp) : Nat → List (Int × Int)
  | 0 => []
  | k + 1 => doneTo n roles d os k ++ (if (deskDo n roles (deskAt n roles d os k) (dopAt os k)).2.err = 0 ∧ (dopAt os k).kind ≠ 4 then [caseOp (deskAt n roles d os k) (dopAt os k)] else [])
theorem doneTo_le (n : NetL) (roles : List (List Int)) (d : DeskL) (os : List DOp) : ∀ k, (doneTo n roles d os k).length ≤ k
  | 0 => Nat.le_refl _
  | k + 1 => by
    have := doneTo_le n roles d os k
    simp only [doneTo, List.length_append]
    split <;> simp <;> omega
theorem done_case (n : NetL) (roles : List (List Int)) (d : DeskL) (os : List DOp) : ∀ k, k ≤ os.length → (playC n d.case (doneTo n roles d os k)).1 = (deskAt n roles d os k).case ∧ ∀ e ∈ (playC n d.case (doneTo n roles d os k)).2, e = 0
  | 0, _ => ⟨rfl, fun e he => by cases he⟩
  | k + 1, hk => by
    obtain ⟨h1, h2⟩ := done_case n roles d os k (by omega)
    rw [deskAt_succ n roles d (by omega)]
    by_cases h0 : (deskDo n roles (deskAt n roles d os k) (dopAt os k)).2.err = 0
    · have hd := (desk_ok h0).1
      by_cases h4 : (dopAt os k).kind = 4
      · have e : doneTo n roles d os (k + 1) = doneTo n roles d os k := by simp [doneTo, h4]
        rw [e, hd.give h4]
        exact ⟨h1, h2⟩
      · have e : doneTo n roles d os (k + 1) = doneTo n roles d os k ++ [caseOp (deskAt n roles d os k) (dopAt os k)] := by simp [doneTo, h4, h0]
        have hdo := hd.done h4
        rw [e, play_snoc, h1]
        unfold stepC
        rw [hdo, if_pos rfl]
        refine ⟨rfl, fun e he => ?_⟩
        rcases List.mem_append.1 he with h | h
        · exact h2 e h
        · exact List.mem_singleton.1 h
    · have e : doneTo n roles d os (k + 1) = doneTo n roles d os k := by simp [doneTo, h0]
      rw [e, desk_err h0]
      exact ⟨h1, h2⟩

/-- What was not refused, and its answers. -/
def goodTo (n : NetL) (roles : List (List Int)) (d : DeskL) (os : List DOp) : Nat → List DOp × List DAns
  | 0 => ([], [])
  | k + 1 => if (deskDo n roles (deskAt n roles d os k) (dopAt os k)).2.err = 0 then ((goodTo n roles d os k).1 ++ [dopAt os k], (goodTo n roles d os k).2 ++ [(deskDo n roles (deskAt n roles d os k) (dopAt os k)).2]) else goodTo n roles d os k
theorem goodTo_le (n : NetL) (roles : List (List Int)) (d : DeskL) (os : List DOp) : ∀ k, (goodTo n roles d os k).1.length ≤ k ∧ (goodTo n roles d os k).2.length ≤ k
  | 0 => ⟨Nat.le_refl _, Nat.le_refl _⟩
  | k + 1 => by
    have := goodTo_le n roles d os k
    simp only [goodTo]
    split
    · simp; omega
    · omega
theorem good_same (n : NetL) (roles : List (List Int)) (d : DeskL) (os : List DOp) : ∀ k, k ≤ os.length → deskPlay n roles d (goodTo n roles d os k).1 = (deskAt n roles d os k, (goodTo n roles d os k).2)
  | 0, _ => rfl
  | k + 1, hk => by
    have h := good_same n roles d os k (by omega)
    rw [deskAt_succ n roles d (by omega)]
    by_cases h0 : (deskDo n roles (deskAt n roles d os k) (dopAt os k)).2.err = 0
    · have e : goodTo n roles d os (k + 1) = ((goodTo n roles d os k).1 ++ [dopAt os k], (goodTo n roles d os k).2 ++ [(deskDo n roles (deskAt n roles d os k) (dopAt os k)).2]) := by simp [goodTo, h0]
      rw [e]
      show deskPlay n roles d ((goodTo n roles d os k).1 ++ [dopAt os k]) = _
      rw [desk_snoc, h]
    · have e : goodTo n roles d os (k + 1) = goodTo n roles d os k := by simp [goodTo, h0]
      rw [e, desk_err h0]
      exact h

/-- Of what was done with an item: the item was there. -/
theorem done_item {n : NetL} {roles : List (List Int)} {d : DeskL} {o : DOp} (h : (deskDo n roles d o).2.err = 0) (hk : o.kind = 2 ∨ o.kind = 3) : ∃ k : Nat, o.item = k ∧ k < d.items.length ∧ (deskDo n roles d o).2.item = k := by
  obtain ⟨hd, ht⟩ := desk_ok h
  have he := hd.err
  unfold deskErr at he
  rw [if_neg (by omega), if_neg (by omega), if_neg (by omega)] at he
  by_cases hi : o.item < 0 ∨ (d.items.length : Int) ≤ o.item ∨ (itemAt d.items o.item.toNat).opn = false
  · rw [if_pos hi] at he; omega
  obtain ⟨k, ek⟩ := Int.eq_ofNat_of_zero_le (show 0 ≤ o.item by omega)
  refine ⟨k, ek, by omega, ?_⟩
  rw [ht]; unfold toldItem; rw [if_neg (by omega), if_neg (by omega)]; exact ek
theorem done_kind {n : NetL} {roles : List (List Int)} {d : DeskL} {o : DOp} (h : (deskDo n roles d o).2.err = 0) : 1 ≤ o.kind ∧ o.kind ≤ 5 := by
  have he := (desk_ok h).1.err
  unfold deskErr at he
  by_cases hk : o.kind < 1 ∨ 5 < o.kind
  · rw [if_pos hk] at he; omega
  · omega

end Go.Proofs.Ytlknegihhcdhbaa

/- Plain words for the net with a place for each work; what is done in a case is a run of it. -/
namespace Go.Proofs.Ytlknegihhcdhbaa
set_option linter.unusedVariables false
set_option maxRecDepth 4000

/-- How many of the first so many transitions have a label. -/
def seenTo (ts : List TranL) : Nat → Nat
  | 0 => 0
  | k + 1 => seenTo ts k + (if (tranAt ts k).label = 0 then 0 else 1)
theorem seen_le (ts : List TranL) : ∀ k, seenTo ts k ≤ k
  | 0 => Nat.le_refl _
  | k + 1 => by have := seen_le ts k; simp only [seenTo]; split <;> omega
theorem seen_mono (ts : List TranL) {a b : Nat} (h : a ≤ b) : seenTo ts a ≤ seenTo ts b := by
  induction b with
  | zero => obtain rfl : a = 0 := by omega
            exact Nat.le_refl _
  | succ b ih =>
    by_cases e : a = b + 1
    · subst e; exact Nat.le_refl _
    · have := ih (by omega); simp only [seenTo]; omega
theorem seen_lt (ts : List TranL) {a b : Nat} (h : a < b) (hl : (tranAt ts a).label ≠ 0) : seenTo ts a < seenTo ts b := by
  have h1 : seenTo ts (a + 1) = seenTo ts a + 1 := by simp [seenTo, hl]
  have h2 := seen_mono ts (show a + 1 ≤ b by omega)
  omega
theorem seen_onto (ts : List TranL) : ∀ (m k : Nat), k < seenTo ts m → ∃ t, t < m ∧ (tranAt ts t).label ≠ 0 ∧ seenTo ts t = k
  | 0, k, h => absurd h (Nat.not_lt_zero _)
  | m + 1, k, h => by
    by_cases hk : k < seenTo ts m
    · obtain ⟨t, h1, h2⟩ := seen_onto ts m k hk
      exact ⟨t, by omega, h2⟩
    · simp only [seenTo] at h
      by_cases hl : (tranAt ts m).label = 0
      · rw [if_pos hl] at h; omega
      · rw [if_neg hl] at h
        exact ⟨m, by omega, hl, by omega⟩

def oneAt (S k : Nat) : List Int := mapTo S fun j => if j = k then 1 else 0
theorem one_length (S k : Nat) : (oneAt S k).length = S := mapTo_length _ _
theorem one_at {S k j : Nat} (h : j < S) : nth (oneAt S k) j = if j = k then 1 else 0 := mapTo_nth _ _ _ h

/-- What becomes of a transition: itself, or two, with a place between. -/
def busyT (P S k : Nat) (t : TranL) : List TranL :=
  if t.label = 0 then [⟨0, t.pre ++ zerosL S, t.post ++ zerosL S⟩]
  else [⟨0, t.pre ++ zerosL S, zerosL P ++ oneAt S k⟩, ⟨t.label, zerosL P ++ oneAt S k, t.post ++ zerosL S⟩]
def busyTo (ts : List TranL) (P S : Nat) : Nat → List TranL
  | 0 => []
  | m + 1 => busyTo ts P S m ++ busyT P S (seenTo ts m) (tranAt ts m)
theorem busyTo_length (ts : List TranL) (P S : Nat) : ∀ m, (busyTo ts P S m).length = m + seenTo ts m
  | 0 => rfl
  | m + 1 => by
    simp only [busyTo, seenTo, List.length_append, busyTo_length ts P S m, busyT]
    split
    · simp; omega
    · simp; omega
/-- The net with a place for each work. -/
def busyN (n : NetL) : NetL × Int :=
  if netOk n then
    (if n.places + (seenTo n.trans n.trans.length : Int) > 16 ∨ n.trans.length + seenTo n.trans n.trans.length > 24 then (⟨0, []⟩, 4)
     else (⟨n.places + (seenTo n.trans n.trans.length : Int), busyTo n.trans n.places.toNat (seenTo n.trans n.trans.length) n.trans.length⟩, 0))
  else (⟨0, []⟩, 2)
theorem busy_bad {n : NetL} (h : netOk n = false) : busyN n = (⟨0, []⟩, 2) := by simp [busyN, h]
theorem busy_full {n : NetL} (h : netOk n = true) (hf : n.places + (seenTo n.trans n.trans.length : Int) > 16 ∨ n.trans.length + seenTo n.trans n.trans.length > 24) : busyN n = (⟨0, []⟩, 4) := by simp [busyN, h, hf]
theorem busy_ok {n : NetL} (h : netOk n = true) (hf : ¬ (n.places + (seenTo n.trans n.trans.length : Int) > 16 ∨ n.trans.length + seenTo n.trans n.trans.length > 24)) :
    busyN n = (⟨n.places + (seenTo n.trans n.trans.length : Int), busyTo n.trans n.places.toNat (seenTo n.trans n.trans.length) n.trans.length⟩, 0) := by unfold busyN; rw [if_pos h, if_neg hf]

theorem tran_at_append {xs ys : List TranL} {j : Nat} (h : xs.length ≤ j) : tranAt (xs ++ ys) j = tranAt ys (j - xs.length) := by
  unfold tranAt
  rw [List.getD_eq_getElem?_getD, List.getD_eq_getElem?_getD, List.getElem?_append_right h]
theorem tran_at_left {xs ys : List TranL} {j : Nat} (h : j < xs.length) : tranAt (xs ++ ys) j = tranAt xs j := by
  unfold tranAt
  rw [List.getD_eq_getElem?_getD, List.getD_eq_getElem?_getD, List.getElem?_append_left h]
/-- Where each one lies. -/
theorem busyTo_at (ts : List TranL) (P S : Nat) {t : Nat} : ∀ {m : Nat}, t < m → ∀ j, j < (busyT P S (seenTo ts t) (tranAt ts t)).length → t + seenTo ts t + j < (busyTo ts P S m).length ∧ tranAt (busyTo ts P S m) (t + seenTo ts t + j) = tranAt (busyT P S (seenTo ts t) (tranAt ts t)) j
  | 0, h => absurd h (Nat.not_lt_zero _)
  | m + 1, h => by
    intro j hj
    by_cases e : t = m
    · subst e
      have hl := busyTo_length ts P S t
      simp only [busyTo, List.length_append]
      refine ⟨by omega, ?_⟩
      rw [tran_at_append (by omega), show t + seenTo ts t + j - (busyTo ts P S t).length = j by omega]
    · obtain ⟨h1, h2⟩ := busyTo_at ts P S (show t < m by omega) j hj
      simp only [busyTo, List.length_append]
      exact ⟨by omega, by rw [tran_at_left h1]; exact h2⟩

theorem nth_app {xs ys : List Int} {j : Nat} : nth (xs ++ ys) j = if j < xs.length then nth xs j else nth ys (j - xs.length) := by
  unfold nth
  rw [List.getD_eq_getElem?_getD, List.getD_eq_getElem?_getD, List.getD_eq_getElem?_getD]
  split
  · rename_i h; rw [List.getElem?_append_left h]
  · rename_i h; rw [List.getElem?_append_right (by omega)]

/-- The case is the mark. -/
structure Sim (n : NetL) (P S : Nat) (c : CaseL) (m : List Int) : Prop where
  len : m.length = P + S
  place : ∀ p, p < P → nth m p = nth c.mark p
  work : ∀ t, t < n.trans.length → (tranAt n.trans t).label ≠ 0 → nth m (P + seenTo n.trans t) = nth c.busy t
  none : ∀ t, t < n.trans.length → (tranAt n.trans t).label = 0 → nth c.busy t = 0

/-- What both nets are. -/
structure BusyOk (n : NetL) (P S : Nat) (b : NetL) : Prop where
  ok : netOk n = true
  places : n.places = (P : Int)
  seen : S = seenTo n.trans n.trans.length
  p16 : P + S ≤ 16
  t24 : n.trans.length + S ≤ 24
  net : b = ⟨((P + S : Nat) : Int), busyTo n.trans P S n.trans.length⟩

theorem busy_some {n : NetL} (h : (busyN n).2 = 0) : ∃ P S, BusyOk n P S (busyN n).1 := by
  cases hn : netOk n with
  | false => rw [busy_bad hn] at h; cases h
  | true =>
    by_cases hf : n.places + (seenTo n.trans n.trans.length : Int) > 16 ∨ n.trans.length + seenTo n.trans n.trans.length > 24
    · rw [busy_full hn hf] at h; cases h
    · have hp : 0 ≤ n.places := by
        unfold netOk headOk at hn
        simp only [Bool.and_eq_true, decide_eq_true_eq] at hn
        omega
      exact ⟨n.places.toNat, seenTo n.trans n.trans.length, hn, by omega, rfl, by omega, by omega, by
        rw [busy_ok hn hf]
        show NetL.mk (n.places + (seenTo n.trans n.trans.length : Int)) _ = _
        rw [show n.places + (seenTo n.trans n.trans.length : Int) = ((n.places.toNat + seenTo n.trans n.trans.length : Nat) : Int) by omega]⟩

theorem BusyOk.ok_net {n b : NetL} {P S : Nat} (h : BusyOk n P S b) : netOk b = true := by
  have hw : ∀ k, k < n.trans.length → (tranAt n.trans k).pre.all weightOk = true ∧ (tranAt n.trans k).post.all weightOk = true ∧ 0 ≤ (tranAt n.trans k).label ∧ (tranAt n.trans k).label ≤ 26 ∧ (tranAt n.trans k).pre.length = P ∧ (tranAt n.trans k).post.length = P := fun k hk => by
    have h1 := net_tran h.ok hk
    have h2 := h.places
    simp only [tranOk, tranHead, Bool.and_eq_true, beq_iff_eq, decide_eq_true_eq, List.all_append] at h1
    exact ⟨h1.2.1, h1.2.2, h1.1.1.1.1, h1.1.1.1.2, by omega, by omega⟩
  have hz : ∀ k, (zerosL k).all weightOk = true := fun k => by
    rw [List.all_eq_true]
    intro x hx
    rw [show x = 0 from (List.mem_replicate.1 hx).2]; rfl
  have ho : ∀ k j, (oneAt k j).all weightOk = true := fun k j => by
    rw [List.all_eq_true]
    intro x hx
    unfold oneAt mapTo at hx
    obtain ⟨i, _, rfl⟩ := List.mem_map.1 hx
    split <;> rfl
  have hT : ∀ m, m ≤ n.trans.length → (busyTo n.trans P S m).all (tranOk ((P + S : Nat) : Int)) = true := by
    intro m
    induction m with
    | zero => intro _; rfl
    | succ m ih =>
      intro hm
      obtain ⟨w1, w2, l1, l2, e1, e2⟩ := hw m (by omega)
      simp only [busyTo, List.all_append, Bool.and_eq_true]
      refine ⟨ih (by omega), ?_⟩
      unfold busyT
      split
      · simp [tranOk, tranHead, List.all_append, w1, w2, hz, e1, e2, zeros_length]
      · simp [tranOk, tranHead, List.all_append, w1, w2, hz, ho, e1, e2, zeros_length, one_length, l1, l2]
  rw [h.net]
  unfold netOk headOk
  simp only [Bool.and_eq_true, decide_eq_true_eq]
  have := h.p16
  have := h.t24
  have hs := h.seen
  exact ⟨⟨⟨by omega, by omega⟩, by rw [busyTo_length]; omega⟩, hT _ (Nat.le_refl _)⟩

theorem BusyOk.seen_lt {n b : NetL} {P S : Nat} (h : BusyOk n P S b) {t : Nat} (ht : t < n.trans.length) (hl : (tranAt n.trans t).label ≠ 0) : seenTo n.trans t < S := by
  rw [h.seen]; exact Proofs.Ytlknegihhcdhbaa.seen_lt n.trans ht hl

/-- What a firing of the wider net is. -/
theorem BusyOk.fire {n b : NetL} {P S : Nat} (h : BusyOk n P S b) {c c' : CaseL} {m : List Int} {k : Nat} {j : Nat} {pr po : List Int} (hs : Sim n P S c m) (hlt : k + seenTo n.trans k + j < b.trans.length)
    (ht : tranAt b.trans (k + seenTo n.trans k + j) = ⟨(tranAt b.trans (k + seenTo n.trans k + j)).label, pr, po⟩)
    (hm0 : ∀ q, 0 ≤ nth m q ∧ nth m q ≤ 1000000)
    (hcov : ∀ q, nth pr q ≤ nth m q) (hr : ∀ q, 0 ≤ nth m q - nth pr q + nth po q ∧ nth m q - nth pr q + nth po q ≤ 1000000)
    (h1 : ∀ p, p < P → nth c'.mark p = nth c.mark p - nth pr p + nth po p)
    (h2 : ∀ t, t < n.trans.length → (tranAt n.trans t).label ≠ 0 → nth c'.busy t = nth c.busy t - nth pr (P + seenTo n.trans t) + nth po (P + seenTo n.trans t))
    (h3 : ∀ t, t < n.trans.length → (tranAt n.trans t).label = 0 → nth c'.busy t = 0) (hlr : pr.length = P + S) (hlo : po.length = P + S) :
    ∃ m', fireL b m ((k + seenTo n.trans k + j : Nat) : Int) = (m', 0) ∧ Sim n P S c' m' := by
  have hbp : b.places = ((P + S : Nat) : Int) := by rw [h.net]
  have e1 : (tranAt b.trans (k + seenTo n.trans k + j)).pre = pr := by rw [ht]
  have e2 : (tranAt b.trans (k + seenTo n.trans k + j)).post = po := by rw [ht]
  refine ⟨_, fire_mk hlt (fits_mk h.ok_net (by rw [hs.len, hbp]) ((rightL_iff _).2 hm0)) ((coversL_iff _ _).2 fun q => by rw [e1]; exact hcov q) ((rightL_iff _).2 fun q => ?_), ?_⟩
  · rw [add_at, sub_at, e1, e2]; exact hr q
  · refine ⟨by rw [add_length, sub_length, hs.len, e1, e2, hlr, hlo]; omega, fun p hp => ?_, fun t htl hl => ?_, h3⟩
    · rw [add_at, sub_at, e1, e2, h1 p hp, hs.place p hp]
    · rw [add_at, sub_at, e1, e2, h2 t htl hl, hs.work t htl hl]

theorem Sim.bounds {n b : NetL} {P S : Nat} {c : CaseL} {m : List Int} (h : BusyOk n P S b) (hs : Sim n P S c m) (hr : rightC n c = true) : ∀ q, 0 ≤ nth m q ∧ nth m q ≤ 1000000 := by
  obtain ⟨hf, _, hb⟩ := rightC_iff.1 hr
  have hm := (rightL_iff _).1 (fits_net hf).2.2
  have hbb := (rightL_iff _).1 hb
  intro q
  by_cases h1 : q < P
  · rw [hs.place q h1]; exact hm q
  · by_cases h2 : q < P + S
    · obtain ⟨t, ht, hl, e⟩ := seen_onto n.trans n.trans.length (q - P) (by rw [← h.seen]; omega)
      have := hs.work t ht hl
      rw [e, show P + (q - P) = q by omega] at this
      rw [this]; exact hbb t
    · rw [nth_past _ _ (by rw [hs.len]; omega)]; omega

/-- One thing done, that is no giving back, is one firing. -/
theorem Sim.step {n b : NetL} {P S : Nat} {c x : CaseL} {m : List Int} {kind : Int} {k : Nat} (h : BusyOk n P S b) (hs : Sim n P S c m) (hd : DoOk n c kind k x) (h4 : kind ≠ 4) :
    ∃ m', fireL b m ((k + seenTo n.trans k + (if kind = 3 then 1 else 0) : Nat) : Int) = (m', 0) ∧ Sim n P S x m' := by
  obtain ⟨hf, hbl, hbr⟩ := rightC_iff.1 hd.right
  obtain ⟨hf2, _, hbr2⟩ := rightC_iff.1 hd.right2
  obtain ⟨hn, hml, hmr⟩ := fits_net hf
  have hm0 := hs.bounds h hd.right
  have hpl : (tranAt n.trans k).pre.length = P := by have := (tran_length hn hd.lt).1; have := h.places; omega
  have hql : (tranAt n.trans k).post.length = P := by have := (tran_length hn hd.lt).2; have := h.places; omega
  have hxm := (rightL_iff _).1 (fits_net hf2).2.2
  have hxb := (rightL_iff _).1 hbr2
  have hcov := (coversL_iff _ _).1 hd.covers
  have hmore := hd.more
  have hx := hd.out
  have hbt : b.trans = busyTo n.trans P S n.trans.length := by rw [h.net]
  have hk1 := hd.kind1
  have hk4 := hd.kind4
  have hdlt := hd.lt
  have prew := (rightL_iff _).1 (tran_right (net_tran hn hd.lt)).1
  have postw := (rightL_iff _).1 (tran_right (net_tran hn hd.lt)).2
  have hbusy : ∀ t, nth x.busy t = if t = k then nth c.busy k + moreC kind else nth c.busy t := fun t => by
    rw [hx]; exact nth_set' _ _ _ _ (by rw [hbl]; exact hd.lt)
  have hmark : ∀ p, nth x.mark p = nth c.mark p - nth (takeC (tranAt n.trans k) kind) p + nth (giveC (tranAt n.trans k) kind) p := fun p => by
    rw [hx]; show nth (addL (subL _ _) _) p = _; rw [add_at, sub_at]
  have wide : ∀ (l : List Int), l.length = P → ∀ q, nth (l ++ zerosL S) q = nth l q := fun l hl q => by
    rw [nth_app]; split
    · rfl
    · rw [zeros_at, nth_past _ _ (by omega)]
  have behind : ∀ q, nth (zerosL P ++ oneAt S (seenTo n.trans k)) q = if P ≤ q ∧ q < P + S ∧ q = P + seenTo n.trans k then 1 else 0 := fun q => by
    rw [nth_app, zeros_length]
    by_cases h1 : q < P
    · rw [if_pos h1, zeros_at, if_neg (by omega)]
    · rw [if_neg h1]
      by_cases h2 : q < P + S
      · rw [one_at (by omega)]
        by_cases h3 : q = P + seenTo n.trans k
        · rw [if_pos (by omega), if_pos (by omega)]
        · rw [if_neg (by omega), if_neg (by omega)]
      · rw [nth_past _ _ (by rw [one_length]; omega), if_neg (by omega)]
  have inj : ∀ t, t < n.trans.length → (tranAt n.trans t).label ≠ 0 → (tranAt n.trans k).label ≠ 0 → seenTo n.trans t = seenTo n.trans k → t = k := fun t ht hl hlk e => by
    rcases Nat.lt_trichotomy t k with h1 | h1 | h1
    · have := Proofs.Ytlknegihhcdhbaa.seen_lt n.trans h1 hl; omega
    · exact h1
    · have := Proofs.Ytlknegihhcdhbaa.seen_lt n.trans h1 hlk; omega
  by_cases hk : kind = 1
  · subst hk
    have hlab := hd.form.2 rfl
    have eT : busyT P S (seenTo n.trans k) (tranAt n.trans k) = [⟨0, (tranAt n.trans k).pre ++ zerosL S, (tranAt n.trans k).post ++ zerosL S⟩] := by unfold busyT; rw [if_pos hlab]
    obtain ⟨q1, q2⟩ := busyTo_at n.trans P S hd.lt 0 (by rw [eT]; simp)
    rw [eT] at q2
    simp only [takeC, giveC] at hcov hmark
    rw [if_pos (by simp)] at hcov
    have hmark : ∀ p, nth x.mark p = nth c.mark p - nth (tranAt n.trans k).pre p + nth (tranAt n.trans k).post p := fun p => by have := hmark p; simpa using this
    rw [if_neg (by omega)]
    refine h.fire (c := c) (c' := x) (pr := (tranAt n.trans k).pre ++ zerosL S) (po := (tranAt n.trans k).post ++ zerosL S) hs (by rw [hbt]; exact q1) (by rw [hbt, q2]; rfl) hm0 (fun q => ?_) (fun q => ?_) (fun p hp => ?_) (fun t ht hl => ?_) (fun t ht hl => ?_) (by simp [hpl, zeros_length]) (by simp [hql, zeros_length])
    · rw [wide _ hpl]
      by_cases hq : q < P
      · rw [hs.place q hq]; exact hcov q
      · rw [nth_past _ _ (by omega)]; exact (hm0 q).1
    · rw [wide _ hpl, wide _ hql]
      by_cases hq : q < P
      · rw [hs.place q hq, ← hmark q]; exact hxm q
      · rw [nth_past (tranAt n.trans k).pre _ (by omega), nth_past (tranAt n.trans k).post _ (by omega)]; have := hm0 q; omega
    · rw [wide _ hpl, wide _ hql]; exact hmark p
    · rw [wide _ hpl, wide _ hql, nth_past (tranAt n.trans k).pre _ (by omega), nth_past (tranAt n.trans k).post _ (by omega), hbusy t]
      rw [if_neg (fun e => by subst e; exact hl hlab)]; omega
    · rw [hbusy t]
      split
      · rename_i e; subst e; rw [hs.none t ht hl]; simp [moreC]
      · exact hs.none t ht hl
  · have hlab : (tranAt n.trans k).label ≠ 0 := fun e => hk (hd.form.1 e)
    have hsk := h.seen_lt hd.lt hlab
    have eT : busyT P S (seenTo n.trans k) (tranAt n.trans k) = [⟨0, (tranAt n.trans k).pre ++ zerosL S, zerosL P ++ oneAt S (seenTo n.trans k)⟩, ⟨(tranAt n.trans k).label, zerosL P ++ oneAt S (seenTo n.trans k), (tranAt n.trans k).post ++ zerosL S⟩] := by unfold busyT; rw [if_neg hlab]
    have hz : ∀ t, t < n.trans.length → (tranAt n.trans t).label = 0 → nth x.busy t = 0 := fun t ht hl => by
      rw [hbusy t, if_neg (fun e => by subst e; exact hlab hl)]; exact hs.none t ht hl
    have hwk := hs.work k hd.lt hlab
    by_cases hk2 : kind = 2
    · subst hk2
      obtain ⟨q1, q2⟩ := busyTo_at n.trans P S hd.lt 0 (by rw [eT]; simp)
      rw [eT] at q2
      simp only [takeC, giveC] at hcov hmark
      rw [if_pos (by simp)] at hcov
      have hmark : ∀ p, nth x.mark p = nth c.mark p - nth (tranAt n.trans k).pre p := fun p => by have := hmark p; simp [nth] at this ⊢; omega
      have hbk := hbusy k
      rw [if_pos rfl] at hbk
      simp only [moreC, if_pos] at hbk
      rw [if_neg (by omega)]
      refine h.fire (c := c) (c' := x) (pr := (tranAt n.trans k).pre ++ zerosL S) (po := zerosL P ++ oneAt S (seenTo n.trans k)) hs (by rw [hbt]; exact q1) (by rw [hbt, q2]; rfl) hm0 (fun q => ?_) (fun q => ?_) (fun p hp => ?_) (fun t ht hl => ?_) hz (by simp [hpl, zeros_length]) (by simp [zeros_length, one_length])
      · rw [wide _ hpl]
        by_cases hq : q < P
        · rw [hs.place q hq]; exact hcov q
        · rw [nth_past _ _ (by omega)]; exact (hm0 q).1
      · rw [wide _ hpl, behind]
        by_cases hq : q < P
        · rw [hs.place q hq, if_neg (by omega)]; have := hmark q; have := hxm q; omega
        · rw [nth_past (tranAt n.trans k).pre _ (by omega)]
          by_cases he : q = P + seenTo n.trans k
          · rw [if_pos (by omega), he, hwk]; have := hxb k; rw [hbk] at this; omega
          · rw [if_neg (by omega)]; have := hm0 q; omega
      · rw [wide _ hpl, behind, if_neg (by omega)]; have := hmark p; omega
      · rw [wide _ hpl, behind, nth_past (tranAt n.trans k).pre _ (by omega), hbusy t]
        have hst := h.seen_lt ht hl
        by_cases he : t = k
        · subst he; rw [if_pos rfl, if_pos (by omega)]; simp [moreC]
        · rw [if_neg he, if_neg (fun q => he (inj t ht hl hlab (by omega)))]; omega
    · have hk3 : kind = 3 := by omega
      subst hk3
      obtain ⟨q1, q2⟩ := busyTo_at n.trans P S hd.lt 1 (by rw [eT]; simp)
      rw [eT] at q2
      simp only [takeC, giveC] at hmark
      have hmark : ∀ p, nth x.mark p = nth c.mark p + nth (tranAt n.trans k).post p := fun p => by have := hmark p; simp [nth] at this ⊢; omega
      have hbk := hbusy k
      rw [if_pos rfl] at hbk
      have hm1 : moreC 3 = -1 := by simp [moreC]
      rw [hm1] at hbk hmore
      rw [if_pos rfl]
      refine h.fire (c := c) (c' := x) (pr := zerosL P ++ oneAt S (seenTo n.trans k)) (po := (tranAt n.trans k).post ++ zerosL S) hs (by rw [hbt]; exact q1) (by rw [hbt, q2]; rfl) hm0 (fun q => ?_) (fun q => ?_) (fun p hp => ?_) (fun t ht hl => ?_) hz (by simp [zeros_length, one_length]) (by simp [hql, zeros_length])
      · rw [behind]
        by_cases he : q = P + seenTo n.trans k
        · rw [if_pos (by omega), he, hwk]; omega
        · rw [if_neg (by omega)]; exact (hm0 q).1
      · rw [wide _ hql, behind]
        by_cases hq : q < P
        · rw [hs.place q hq, if_neg (by omega)]; have := hmark q; have := hxm q; omega
        · rw [nth_past (tranAt n.trans k).post _ (by omega)]
          by_cases he : q = P + seenTo n.trans k
          · rw [if_pos (by omega), he, hwk]; have := hxb k; rw [hbk] at this; omega
          · rw [if_neg (by omega)]; have := hm0 q; omega
      · rw [wide _ hql, behind, if_neg (by omega)]; have := hmark p; omega
      · rw [wide _ hql, behind, nth_past (tranAt n.trans k).post _ (by omega), hbusy t]
        have hst := h.seen_lt ht hl
        by_cases he : t = k
        · subst he; rw [if_pos rfl, if_pos (by omega)]; simp [moreC]; omega
        · rw [if_neg he, if_neg (fun q => he (inj t ht hl hlab (by omega)))]; omega

/-- At the beginning. -/
theorem Sim.start {n b : NetL} {P S : Nat} {i : Int} (h : BusyOk n P S b) (hi : 0 ≤ i ∧ i < n.places) : Sim n P S (beginC n i).1 (startL b.places i) := by
  rw [begin_ok h.ok hi]
  have hbp : b.places = ((P + S : Nat) : Int) := by rw [h.net]
  have h16 := h.p16
  have hP := h.places
  have hN : (min b.places 16).toNat = P + S := by rw [hbp]; omega
  have hN2 : (min n.places 16).toNat = P := by rw [hP]; omega
  refine ⟨by rw [start_length, hN], fun p hp => ?_, fun t ht hl => ?_, fun t ht hl => zeros_at _ _⟩
  · show _ = nth (startL n.places i) p
    rw [start_at _ _ _ (by omega), start_at _ _ _ (by omega)]
  · have := h.seen_lt ht hl
    show _ = nth (zerosL _) t
    rw [zeros_at, start_at _ _ _ (by omega), if_neg (by omega)]

end Go.Proofs.Ytlknegihhcdhbaa
