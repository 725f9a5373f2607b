import Derived.Test.YtlknegihhcdhbaaGr04
import Derived.Lib.SliceRun
/- More of package slices over slices of ints: a copy, whether a number is there. -/
namespace Go.Proofs.Ytlknegihhcdhbaa
open Go.RowKit
set_option linter.unusedVariables false
set_option maxRecDepth 4000

set_option maxHeartbeats 400000 in
theorem clone_any (v : Value) (xs : List Int) (w : World) (h : Ints w v xs) :
    Calls Try.prog 28 #[v] w fun e w' => ∃ r, e = .returned r ∧ Own w.heap.size w w' r xs := by
  have h' := h
  obtain ⟨a, len, cap, rfl, hlen, hmx, hsh, hr⟩ := h
  cases a with
  | none =>
    have hc0 : cap = 0 := hsh.2.2 rfl
    have hl0 : len = 0 := by have := hsh.1; omega
    subst hc0 hl0
    have hy : xs = [] := List.length_eq_zero_iff.1 hlen
    subst hy
    clear hr h' hsh
    have q22 : ∀ (w : World) (a : Option Addr) (n c n' c' : Nat), (binOp .eql 23 (.slice a n c) (.slice none n' c')).run Try.prog w = .ok (.bool a.isNone) w := fun w a n c n' c' => Lib.run_eql_slice_nil w _ _ a n c n' c' Try.underlying23
    go_enter Try.func28, Try.ntmps28
    go_wp2
    go_ret
    exact ⟨_, rfl, Own.nil _⟩
  | some ad =>
    have hn := below_new w (.cells #[] 3)
    have hG : Own w.heap.size w (w.alloc (.cells #[] 3)) (.slice (some ⟨w.heap.size, 0, none⟩) 0 0) [] :=
      ⟨World.ownsRow_made w #[] 0 (Nat.le_refl _) (by unfold maxLen; omega) rfl, hn, by simp⟩
    have h2 := h'.below hn
    have HL : Hid (([] : List Int).length + xs.length ≤ 17592186044416) := by show _ ≤ _; simp; omega
    clear hr h' hsh hlen
    have q22 : ∀ (w : World) (a : Option Addr) (n c n' c' : Nat), (binOp .eql 23 (.slice a n c) (.slice none n' c')).run Try.prog w = .ok (.bool a.isNone) w := fun w a n c n' c' => Lib.run_eql_slice_nil w _ _ a n c n' c' Try.underlying23
    go_enter Try.func28, Try.ntmps28
    go_wp2_with (at_builtin; refine wp_append_ints rfl _ _ rfl w.heap.size w _ _ _ [] xs hG (by rfl) (by rfl) h2 HL.out ?_; intro v' w2 hG2)
    have R : Own w.heap.size w w2 v' xs := by simpa using hG2
    clear hG hG2 h2
    go_wp2
    go_ret
    exact ⟨_, rfl, R⟩

/-- Whether a number is there. -/
def hasL (xs : List Int) (x : Int) : Bool := xs.contains x
def anyL (xs : List Int) (p : Int → Bool) : Bool := xs.any p

/-- It is at none of the first k places. -/
def idxTo (xs : List Int) (x : Int) (k : Nat) : Prop := ∀ j, j < k → nth xs j ≠ x

theorem contains_of_nth {xs : List Int} {x : Int} {k : Nat} (hk : k < xs.length) (h : nth xs k = x) : hasL xs x = true := by
  unfold hasL
  rw [List.contains_iff_mem, ← h]
  simp [nth, List.getD, List.getElem?_eq_getElem hk]
theorem not_contains {xs : List Int} {x : Int} (h : idxTo xs x xs.length) : hasL xs x = false := by
  unfold hasL
  rw [Bool.eq_false_iff]
  intro hc
  rw [List.contains_iff_mem] at hc
  obtain ⟨j, hj, e⟩ := List.mem_iff_getElem.1 hc
  exact h j hj (by simp [nth, List.getD, List.getElem?_eq_getElem hj, e])
theorem idxTo_succ {xs : List Int} {x : Int} {k : Nat} (h : idxTo xs x k) (hn : nth xs k ≠ x) : idxTo xs x (k + 1) := by
  intro j hj
  by_cases hjk : j < k
  · exact h j hjk
  · obtain rfl : j = k := by omega
    exact hn

set_option maxHeartbeats 400000 in
theorem index_any (v : Value) (xs : List Int) (x : Int) (w : World) (h : Ints w v xs) :
    Calls Try.prog 55 #[v, .int .i64 x] w fun e w' => ∃ i : Int, e = .returned (.int .i64 i) ∧ w' = w ∧ (decide (0 ≤ i) = hasL xs x) := by
  obtain ⟨a, len, cap, rfl, hlen, hmx, hsh, hr⟩ := h
  go_enter Try.func55, Try.ntmps55
  go_wp2
  go_loop [8] (fun i => ∃ k : Nat, k ≤ len ∧ i = .int .i64 k ∧ idxTo xs x k) (fun i => len - (intOf i).toNat)
  case atStart => exact ⟨0, Nat.zero_le _, rfl, fun j hj => absurd hj (Nat.not_lt_zero _)⟩
  case round =>
    obtain ⟨k, hk, rfl, hidx⟩ := hrel
    by_cases hkn : k < len
    · obtain ⟨b, off, rfl, hb, hc⟩ := hr k (by omega)
      by_cases hx : nth xs k = x
      · have e1 : (x == nth xs k) = true := by simp [hx]
        have F : Hid (hasL xs x = true) := contains_of_nth (by omega) hx
        clear hr hx
        go_wp2
        go_ret
        exact ⟨_, rfl, rfl, by rw [F.out]; simp⟩
      · have e1 : (x == nth xs k) = false := by rw [beq_eq_false_iff_ne]; exact fun h => hx h.symm
        have F : Hid (idxTo xs x (k + 1)) := idxTo_succ hidx hx
        clear hr hx
        go_wp2
        go_round
        case rel => exact ⟨k + 1, by omega, by go_num, F.out⟩
        case measure => simp [intOf]; omega
    · have F : Hid (hasL xs x = false) := not_contains (by rw [hlen]; have hkl : k = len := (by omega); rw [← hkl]; exact hidx)
      go_wp2
      go_ret
      exact ⟨_, rfl, rfl, by rw [F.out]; rfl⟩

set_option maxHeartbeats 400000 in
theorem contains_any (v : Value) (xs : List Int) (x : Int) (w : World) (h : Ints w v xs) :
    Calls Try.prog 26 #[v, .int .i64 x] w fun e w' => e = .returned (.bool (hasL xs x)) ∧ w' = w := by
  go_enter Try.func26, Try.ntmps26
  go_wp2_with fail
  refine (index_any _ xs x _ h).mono ?_
  rintro e w' ⟨i, rfl, rfl, hi⟩
  have F : Hid _ := hi
  clear hi
  by_cases h0 : 0 ≤ i
  · go_wp2
    go_ret
    exact ⟨ret_bool (by rw [← F.out, decide_eq_true h0]), rfl⟩
  · go_wp2
    go_ret
    exact ⟨ret_bool (by rw [← F.out, decide_eq_false (by omega)]), rfl⟩

/-- Function g of an int answers whether p. -/
def Asks1 (g : Nat) (p : Int → Bool) : Prop := ∀ x w, Calls Try.prog g #[.int .i64 x] w fun e w' => e = .returned (.bool (p x)) ∧ w' = w

def noneTo (xs : List Int) (p : Int → Bool) (k : Nat) : Prop := ∀ j, j < k → p (nth xs j) = false
theorem any_of_nth {xs : List Int} {p : Int → Bool} {k : Nat} (hk : k < xs.length) (h : p (nth xs k) = true) : anyL xs p = true := by
  unfold anyL
  rw [List.any_eq_true]
  exact ⟨nth xs k, by simp [nth, List.getD, List.getElem?_eq_getElem hk], h⟩
theorem not_any {xs : List Int} {p : Int → Bool} (h : noneTo xs p xs.length) : anyL xs p = false := by
  unfold anyL
  rw [List.any_eq_false]
  intro x hx
  obtain ⟨j, hj, e⟩ := List.mem_iff_getElem.1 hx
  have := h j hj
  simp only [nth, List.getD, List.getElem?_eq_getElem hj, e, Option.getD_some] at this
  simp [this]
theorem noneTo_succ {xs : List Int} {p : Int → Bool} {k : Nat} (h : noneTo xs p k) (hn : p (nth xs k) = false) : noneTo xs p (k + 1) := by
  intro j hj
  by_cases hjk : j < k
  · exact h j hjk
  · obtain rfl : j = k := by omega
    exact hn

set_option maxHeartbeats 400000 in
theorem indexfunc_any (g : Nat) (p : Int → Bool) (hg : Asks1 g p) (eg : ∀ args w, (callFunc g args).run Try.prog w = .ok (.enter g args) w) (v : Value) (xs : List Int) (w : World) (h : Ints w v xs) :
    Calls Try.prog 56 #[v, .func (.func g) #[] #[]] w fun e w' => ∃ i : Int, e = .returned (.int .i64 i) ∧ w' = w ∧ (decide (0 ≤ i) = anyL xs p) := by
  obtain ⟨a, len, cap, rfl, hlen, hmx, hsh, hr⟩ := h
  go_enter Try.func56, Try.ntmps56
  go_wp2
  go_loop [8] (fun i => ∃ k : Nat, k ≤ len ∧ i = .int .i64 k ∧ noneTo xs p k) (fun i => len - (intOf i).toNat)
  case atStart => exact ⟨0, Nat.zero_le _, rfl, fun j hj => absurd hj (Nat.not_lt_zero _)⟩
  case round =>
    obtain ⟨k, hk, rfl, hidx⟩ := hrel
    by_cases hkn : k < len
    · obtain ⟨b, off, rfl, hb, hc⟩ := hr k (by omega)
      have F1 : Hid _ := any_of_nth (xs := xs) (p := p) (k := k) (by omega)
      have F2 : Hid _ := noneTo_succ hidx
      clear hr hidx
      go_wp2_with fail
      refine (hg _ _).mono ?_
      rintro e w' ⟨rfl, rfl⟩
      cases hx : p (nth xs k)
      · have F : Hid (noneTo xs p (k + 1)) := F2.out hx
        clear hx
        go_wp2
        go_round
        case rel => exact ⟨k + 1, by omega, by go_num, F.out⟩
        case measure => simp [intOf]; omega
      · have F : Hid (anyL xs p = true) := F1.out hx
        clear hx
        go_wp2
        go_ret
        exact ⟨_, rfl, rfl, by rw [F.out]; simp⟩
    · have F : Hid (anyL xs p = false) := not_any (by rw [hlen]; have hkl : k = len := (by omega); rw [← hkl]; exact hidx)
      go_wp2
      go_ret
      exact ⟨_, rfl, rfl, by rw [F.out]; rfl⟩

set_option maxHeartbeats 400000 in
theorem containsfunc_any (g : Nat) (p : Int → Bool) (hg : Asks1 g p) (eg : ∀ args w, (callFunc g args).run Try.prog w = .ok (.enter g args) w) (v : Value) (xs : List Int) (w : World) (h : Ints w v xs) :
    Calls Try.prog 39 #[v, .func (.func g) #[] #[]] w fun e w' => e = .returned (.bool (anyL xs p)) ∧ w' = w := by
  go_enter Try.func39, Try.ntmps39
  go_wp2_with fail
  refine (indexfunc_any g p hg eg _ xs _ h).mono ?_
  rintro e w' ⟨i, rfl, rfl, hi⟩
  have F : Hid _ := hi
  clear hi
  by_cases h0 : 0 ≤ i
  · go_wp2
    go_ret
    exact ⟨ret_bool (by rw [← F.out, decide_eq_true h0]), rfl⟩
  · go_wp2
    go_ret
    exact ⟨ret_bool (by rw [← F.out, decide_eq_false (by omega)]), rfl⟩

end Go.Proofs.Ytlknegihhcdhbaa

/- slices.IndexFunc and ContainsFunc over numbers, with a function that has captured one variable, or two. -/
namespace Go.Proofs.Ytlknegihhcdhbaa
open Go.RowKit
set_option linter.unusedVariables false
set_option maxRecDepth 4000

/-- Where the first one is that p tells of. -/
def FirstAt (xs : List Int) (p : Int → Bool) (i : Int) : Prop := (i = -1 ∧ ∀ j, j < xs.length → p (nth xs j) = false) ∨ ∃ k : Nat, i = k ∧ k < xs.length ∧ p (nth xs k) = true ∧ ∀ j, j < k → p (nth xs j) = false

theorem FirstAt.any {xs : List Int} {p : Int → Bool} {i : Int} (h : FirstAt xs p i) : decide (0 ≤ i) = anyL xs p := by
  rcases h with ⟨rfl, h⟩ | ⟨k, rfl, hk, h, _⟩
  · rw [not_any (p := p) h]; rfl
  · rw [any_of_nth hk h]; simp

/-- The function g tells p of every number, in every world that comes of w0. -/
def AsksQ1 (w0 : World) (g : Nat) (q : Value) (p : Int → Bool) : Prop :=
  ∀ (x : Int) w, Below w0.heap.size w0 w → Calls Try.prog g #[.int .i64 x, q] w fun e w' => e = .returned (.bool (p x)) ∧ Below w.heap.size w w'

set_option maxHeartbeats 1000000 in
theorem indexfuncQ1 (w0 : World) (g : Nat) (q : Value) (p : Int → Bool) (hg : AsksQ1 w0 g q p) (eg : ∀ args w, (callFunc g args).run Try.prog w = .ok (.enter g args) w) (v : Value) (xs : List Int) (w : World) (hw : Below w0.heap.size w0 w) (hv : Ints w v xs) :
    Calls Try.prog 56 #[v, .func (.func g) #[] #[q]] w fun e w' => ∃ i : Int, e = .returned (.int .i64 i) ∧ FirstAt xs p i ∧ Below w.heap.size w w' := by
  obtain ⟨a, len, cap, rfl, hlen, hmx, hsh, hr⟩ := hv
  have Hg : Hid _ := hg
  clear hg
  go_enter Try.func56, Try.ntmps56
  go_wp2_with fail
  go_loopg [8] len (fun g i wr => ∃ k : Nat, k + g = len ∧ i = .int .i64 k ∧ Below w.heap.size w wr ∧ Hid (∀ j, j < k → p (nth xs j) = false))
  case atStart => exact ⟨0, by omega, rfl, Below.refl _ _, fun j hj => absurd hj (Nat.not_lt_zero _)⟩
  case round =>
    obtain ⟨k, hkg, rfl, hb, Hn⟩ := hrel
    by_cases hkn : k < len
    · obtain ⟨b1, o1, rfl, hb1, c0⟩ := (hr.below hb) k (by omega)
      have hw2 := below_then hw hb
      obtain ⟨z, Hz⟩ : ∃ z, Hid (nth xs k = z) := ⟨_, rfl⟩
      rw [Hz.out] at c0
      go_wp2_with fail
      refine (Hg.out z _ (by exact hw2)).mono ?_
      rintro e w2 ⟨rfl, b'⟩
      have R := below_then hb b'
      cases hp : p z
      · have Hn2 : Hid (∀ j, j < k + 1 → p (nth xs j) = false) := fun j hj => by
          by_cases e : j = k
          · subst e; rw [Hz.out]; exact hp
          · exact Hn.out j (by omega)
        clear b' hb c0 hp hw2
        go_wp2
        go_roundg (gk - 1)
        case measure => omega
        case rel => exact ⟨k + 1, by omega, by go_num, R, Hn2⟩
      · have F : Hid (FirstAt xs p k) := .inr ⟨k, rfl, by omega, by rw [Hz.out]; exact hp, Hn.out⟩
        clear b' hb c0 hp hw2
        go_wp2
        go_ret
        exact ⟨_, rfl, F.out, R⟩
    · have F : Hid (FirstAt xs p (-1)) := .inl ⟨rfl, fun j hj => Hn.out j (by omega)⟩
      go_wp2
      go_ret
      exact ⟨_, rfl, F.out, hb⟩

set_option maxHeartbeats 400000 in
theorem containsfuncQ1 (w0 : World) (g : Nat) (q : Value) (p : Int → Bool) (hg : AsksQ1 w0 g q p) (eg : ∀ args w, (callFunc g args).run Try.prog w = .ok (.enter g args) w) (v : Value) (xs : List Int) (w : World) (hw : Below w0.heap.size w0 w) (hv : Ints w v xs) :
    Calls Try.prog 39 #[v, .func (.func g) #[] #[q]] w fun e w' => e = .returned (.bool (anyL xs p)) ∧ Below w.heap.size w w' := by
  go_enter Try.func39, Try.ntmps39
  go_wp2_with fail
  refine (indexfuncQ1 w0 g q p hg eg _ xs _ hw hv).mono ?_
  rintro e w' ⟨i, rfl, hi, hb⟩
  have F : Hid _ := hi.any
  clear hi
  by_cases h0 : 0 ≤ i
  · go_wp2
    go_ret
    exact ⟨ret_bool (by rw [← F.out, decide_eq_true h0]), hb⟩
  · go_wp2
    go_ret
    exact ⟨ret_bool (by rw [← F.out, decide_eq_false (by omega)]), hb⟩

/-- The function g tells p of every number, in every world that comes of w0. -/
def AsksQ2 (w0 : World) (g : Nat) (q r : Value) (p : Int → Bool) : Prop :=
  ∀ (x : Int) w, Below w0.heap.size w0 w → Calls Try.prog g #[.int .i64 x, q, r] w fun e w' => e = .returned (.bool (p x)) ∧ Below w.heap.size w w'

set_option maxHeartbeats 1000000 in
theorem indexfuncQ2 (w0 : World) (g : Nat) (q r : Value) (p : Int → Bool) (hg : AsksQ2 w0 g q r p) (eg : ∀ args w, (callFunc g args).run Try.prog w = .ok (.enter g args) w) (v : Value) (xs : List Int) (w : World) (hw : Below w0.heap.size w0 w) (hv : Ints w v xs) :
    Calls Try.prog 56 #[v, .func (.func g) #[] #[q, r]] w fun e w' => ∃ i : Int, e = .returned (.int .i64 i) ∧ FirstAt xs p i ∧ Below w.heap.size w w' := by
  obtain ⟨a, len, cap, rfl, hlen, hmx, hsh, hr⟩ := hv
  have Hg : Hid _ := hg
  clear hg
  go_enter Try.func56, Try.ntmps56
  go_wp2_with fail
  go_loopg [8] len (fun g i wr => ∃ k : Nat, k + g = len ∧ i = .int .i64 k ∧ Below w.heap.size w wr ∧ Hid (∀ j, j < k → p (nth xs j) = false))
  case atStart => exact ⟨0, by omega, rfl, Below.refl _ _, fun j hj => absurd hj (Nat.not_lt_zero _)⟩
  case round =>
    obtain ⟨k, hkg, rfl, hb, Hn⟩ := hrel
    by_cases hkn : k < len
    · obtain ⟨b1, o1, rfl, hb1, c0⟩ := (hr.below hb) k (by omega)
      have hw2 := below_then hw hb
      obtain ⟨z, Hz⟩ : ∃ z, Hid (nth xs k = z) := ⟨_, rfl⟩
      rw [Hz.out] at c0
      go_wp2_with fail
      refine (Hg.out z _ (by exact hw2)).mono ?_
      rintro e w2 ⟨rfl, b'⟩
      have R := below_then hb b'
      cases hp : p z
      · have Hn2 : Hid (∀ j, j < k + 1 → p (nth xs j) = false) := fun j hj => by
          by_cases e : j = k
          · subst e; rw [Hz.out]; exact hp
          · exact Hn.out j (by omega)
        clear b' hb c0 hp hw2
        go_wp2
        go_roundg (gk - 1)
        case measure => omega
        case rel => exact ⟨k + 1, by omega, by go_num, R, Hn2⟩
      · have F : Hid (FirstAt xs p k) := .inr ⟨k, rfl, by omega, by rw [Hz.out]; exact hp, Hn.out⟩
        clear b' hb c0 hp hw2
        go_wp2
        go_ret
        exact ⟨_, rfl, F.out, R⟩
    · have F : Hid (FirstAt xs p (-1)) := .inl ⟨rfl, fun j hj => Hn.out j (by omega)⟩
      go_wp2
      go_ret
      exact ⟨_, rfl, F.out, hb⟩

set_option maxHeartbeats 400000 in
theorem containsfuncQ2 (w0 : World) (g : Nat) (q r : Value) (p : Int → Bool) (hg : AsksQ2 w0 g q r p) (eg : ∀ args w, (callFunc g args).run Try.prog w = .ok (.enter g args) w) (v : Value) (xs : List Int) (w : World) (hw : Below w0.heap.size w0 w) (hv : Ints w v xs) :
    Calls Try.prog 39 #[v, .func (.func g) #[] #[q, r]] w fun e w' => e = .returned (.bool (anyL xs p)) ∧ Below w.heap.size w w' := by
  go_enter Try.func39, Try.ntmps39
  go_wp2_with fail
  refine (indexfuncQ2 w0 g q r p hg eg _ xs _ hw hv).mono ?_
  rintro e w' ⟨i, rfl, hi, hb⟩
  have F : Hid _ := hi.any
  clear hi
  by_cases h0 : 0 ≤ i
  · go_wp2
    go_ret
    exact ⟨ret_bool (by rw [← F.out, decide_eq_true h0]), hb⟩
  · go_wp2
    go_ret
    exact ⟨ret_bool (by rw [← F.out, decide_eq_false (by omega)]), hb⟩

end Go.Proofs.Ytlknegihhcdhbaa

/- slices.DeleteFunc over numbers of an own row, with a function that has captured two variables and answers where C holds. -/
namespace Go.Proofs.Ytlknegihhcdhbaa
open Go.RowKit
set_option linter.unusedVariables false
set_option maxRecDepth 4000

/-- An own row, cell by cell. -/
structure RowF (B g : Nat) (w wr : World) (n : Nat) (f : Nat → Int) : Prop where
  cells : ∀ j, j < n → wr.cell? ⟨g, j, none⟩ = some (.int .i64 (f j))
  frozen : ∀ j, j < n → wr.frozen? ⟨g, j, none⟩ = false
  below : Below B w wr
  base : B ≤ g
  size : g < wr.heap.size

theorem RowF.to {B g : Nat} {w wr w2 : World} {n : Nat} {f : Nat → Int} (h : RowF B g w wr n f) (hb : Below wr.heap.size wr w2) : RowF B g w w2 n f :=
  ⟨fun j hj => by rw [hb.cell (p := ⟨g, j, none⟩) h.size]; exact h.cells j hj, fun j hj => by rw [hb.frozen (p := ⟨g, j, none⟩) h.size]; exact h.frozen j hj, h.below.trans (hb.mono (Nat.le_trans h.base (Nat.le_of_lt h.size))), h.base, Nat.lt_of_lt_of_le h.size hb.size⟩
theorem RowF.put {B g : Nat} {w wr : World} {n k : Nat} {f : Nat → Int} (h : RowF B g w wr n f) (hk : k < n) (x : Int) : RowF B g w (wr.setCell ⟨g, k, none⟩ (.int .i64 x)) n (fun j => if j = k then x else f j) := by
  refine ⟨fun j hj => ?_, fun j hj => by rw [World.frozen?_setCell]; exact h.frozen j hj, h.below.setCell h.base _, h.base, by simpa [World.setCell] using h.size⟩
  by_cases e : j = k
  · subst e
    rw [World.cell?_setCell_same _ _ _ (h.cells j hj), if_pos rfl]
  · rw [World.cell?_setCell_other _ _ _ _ (by intro q; apply e; injection q with _ q2; exact q2.symm), h.cells j hj, if_neg e]

theorem Own.row {B : Nat} {w wr : World} {v : Value} {zs : List Int} (h : Own B w wr v zs) (hz : 0 < zs.length) : ∃ g cap, v = .slice (some ⟨g, 0, none⟩) zs.length cap ∧ zs.length ≤ cap ∧ cap ≤ 9223372036854775807 ∧ RowF B g w wr zs.length (nth zs) := by
  obtain ⟨hown, hb, hB⟩ := h
  have hown0 := hown
  obtain ⟨_, hcase⟩ := hown
  rcases hcase with ⟨rfl, h0⟩ | ⟨g, cap', cur, rfl, hg, hh, hn, hcap, hsz, htake⟩
  · omega
  · have hlt : g < wr.heap.size := by
      rcases Nat.lt_or_ge g wr.heap.size with h | h
      · exact h
      · rw [Array.getElem?_eq_none h] at hh; cases hh
    refine ⟨g, cap', rfl, hn, by unfold maxLen at hcap; omega, fun j hj => ?_, fun j hj => ?_, hb, hg, hlt⟩
    · rw [hown0.cellAt j (by omega)]
      simp [nth, List.getD, List.getElem?_eq_getElem hj]
    · simp [World.frozen?, hh]

theorem Own.block {B : Nat} {w wr : World} {v : Value} {zs : List Int} (h : Own B w wr v zs) : ∀ a n c, v = .slice (some a) n c → B ≤ a.block := by
  rintro a n c rfl
  obtain ⟨⟨_, hcase⟩, _, _⟩ := h
  rcases hcase with ⟨e, _⟩ | ⟨g, cap', cur, e, hg, _⟩
  · cases e
  · injection e with e1 _ _
    injection e1 with e1
    rw [e1]; exact hg
theorem Ints.set {w : World} {a : Option Addr} {n c : Nat} {zs : List Int} {p : Addr} {x : Value} (h : Ints w (.slice a n c) zs) (hp : ∀ q, a = some q → q.block ≠ p.block) : Ints (w.setCell p x) (.slice a n c) zs := by
  obtain ⟨a', n', c', e, h1, h2, h3, h4⟩ := h
  injection e with e1 e2 e3
  subst e1 e2 e3
  refine ⟨_, _, _, rfl, h1, h2, h3, fun j hj => ?_⟩
  obtain ⟨b, off, ha, hb, hc⟩ := h4 j hj
  refine ⟨b, off, ha, by simpa [World.setCell] using hb, ?_⟩
  rw [World.cell?_setCell_other _ _ _ _ (by intro q; exact hp _ ha (by rw [q]))]
  exact hc

def filtTo (p : Int → Bool) (xs : List Int) (k : Nat) : List Int := (xs.take k).filter fun x => !p x
theorem filtTo_yes {p : Int → Bool} {xs : List Int} {k : Nat} (hk : k < xs.length) (h : p (nth xs k) = true) : filtTo p xs (k + 1) = filtTo p xs k := by
  have e : nth xs k = xs[k] := by simp [nth, List.getD, List.getElem?_eq_getElem hk]
  unfold filtTo; rw [List.take_succ_eq_append_getElem hk, List.filter_append, ← e]; simp [h]
theorem filtTo_no {p : Int → Bool} {xs : List Int} {k : Nat} (hk : k < xs.length) (h : p (nth xs k) = false) : filtTo p xs (k + 1) = filtTo p xs k ++ [nth xs k] := by
  have e : nth xs k = xs[k] := by simp [nth, List.getD, List.getElem?_eq_getElem hk]
  unfold filtTo; rw [List.take_succ_eq_append_getElem hk, List.filter_append, ← e]; simp [h]
theorem filtTo_le (p : Int → Bool) (xs : List Int) (k : Nat) : (filtTo p xs k).length ≤ k := by
  unfold filtTo
  refine Nat.le_trans (List.length_filter_le _ _) ?_
  simp; omega
theorem filtTo_first {p : Int → Bool} {xs : List Int} : ∀ {k : Nat}, k ≤ xs.length → (∀ j, j < k → p (nth xs j) = false) → filtTo p xs k = xs.take k
  | 0, _, _ => by simp [filtTo]
  | k + 1, hk, h => by
    rw [filtTo_no (by omega) (h k (by omega)), filtTo_first (by omega) fun j hj => h j (by omega), List.take_succ_eq_append_getElem (by omega)]
    congr 2
    simp [nth, List.getD, List.getElem?_eq_getElem (show k < xs.length by omega)]
theorem filtTo_all {p : Int → Bool} {xs : List Int} {k : Nat} (hk : k = xs.length) : filtTo p xs k = xs.filter fun x => !p x := by unfold filtTo; rw [List.take_of_length_le (by omega)]

/-- The row while what is left moves to its front. -/
structure Moved (B g : Nat) (w wr : World) (xs : List Int) (p : Int → Bool) (k : Nat) (f : Nat → Int) : Prop where
  row : RowF B g w wr xs.length f
  front : ∀ t, t < (filtTo p xs k).length → f t = nth (filtTo p xs k) t
  rest : ∀ t, k ≤ t → t < xs.length → f t = nth xs t
  less : (filtTo p xs k).length < k

theorem Moved.start {B g : Nat} {w wr : World} {xs : List Int} {p : Int → Bool} {k : Nat} (h : RowF B g w wr xs.length (nth xs)) (hk : k < xs.length) (hp : p (nth xs k) = true) (hn : ∀ j, j < k → p (nth xs j) = false) : Moved B g w wr xs p (k + 1) (nth xs) ∧ (filtTo p xs (k + 1)).length = k := by
  have e : filtTo p xs (k + 1) = xs.take k := by rw [filtTo_yes hk hp, filtTo_first (by omega) hn]
  have el : (filtTo p xs (k + 1)).length = k := by rw [e]; simp; omega
  refine ⟨⟨h, fun t ht => ?_, fun t _ _ => rfl, by omega⟩, el⟩
  rw [e]
  rw [el] at ht
  simp [nth, List.getD, ht]
theorem Moved.to {B g : Nat} {w wr w2 : World} {xs : List Int} {p : Int → Bool} {k : Nat} {f : Nat → Int} (h : Moved B g w wr xs p k f) (hb : Below wr.heap.size wr w2) : Moved B g w w2 xs p k f :=
  ⟨h.row.to hb, h.front, h.rest, h.less⟩
theorem Moved.skip {B g : Nat} {w wr : World} {xs : List Int} {p : Int → Bool} {k : Nat} {f : Nat → Int} (h : Moved B g w wr xs p k f) (hk : k < xs.length) (hp : p (nth xs k) = true) : Moved B g w wr xs p (k + 1) f := by
  have e := filtTo_yes hk hp
  refine ⟨h.row, fun t ht => ?_, fun t ht => h.rest t (by omega), by rw [e]; have := h.less; omega⟩
  rw [e] at ht ⊢
  exact h.front t ht
theorem Moved.put {B g : Nat} {w wr : World} {xs : List Int} {p : Int → Bool} {k : Nat} {f : Nat → Int} (h : Moved B g w wr xs p k f) (hk : k < xs.length) (hp : p (nth xs k) = false) {a : Nat} (ha : (filtTo p xs k).length = a) :
    ∃ f', Moved B g w (wr.setCell ⟨g, a, none⟩ (.int .i64 (nth xs k))) xs p (k + 1) f' := by
  have e := filtTo_no hk hp
  have hl := h.less
  refine ⟨_, h.row.put (k := a) (by omega) (nth xs k), fun t ht => ?_, fun t ht htl => ?_, by rw [e]; simp; omega⟩
  · rw [e] at ht ⊢
    simp only [List.length_append, List.length_singleton] at ht
    by_cases q : t = a
    · subst q
      rw [if_pos rfl]
      simp [nth, List.getD, ← ha]
    · rw [if_neg q, h.front t (by omega)]
      simp [nth, List.getD, List.getElem?_append_left (show t < (filtTo p xs k).length by omega)]
  · rw [if_neg (by omega)]
    exact h.rest t (by omega) htl

theorem zero_int : ∀ w, (zeroValue 3).run Try.prog w = .ok (.int .i64 0) w := Try.zeroValue3

/-- What is left of the row, when its end is cleared. -/
theorem Moved.done {B g : Nat} {w wr : World} {xs : List Int} {p : Int → Bool} {k : Nat} {f : Nat → Int} (h : Moved B g w wr xs p k f) (hk : k = xs.length) (hl : xs.length ≤ 17592186044416) {cap a : Nat} (hc : xs.length ≤ cap) (hc2 : cap ≤ 9223372036854775807) (ha : (filtTo p xs k).length = a) :
    (∀ ty c, (Builtin.clear_ #[23] ty #[.slice (some ⟨g, a, none⟩) (xs.length - a) c]).run Try.prog wr = .ok (.tuple #[]) (wr.setCells g a (List.replicate (xs.length - a) (.int .i64 0)))) ∧
    Ints (wr.setCells g a (List.replicate (xs.length - a) (.int .i64 0))) (.slice (some ⟨g, 0, none⟩) a cap) (xs.filter fun x => !p x) ∧ Below B w (wr.setCells g a (List.replicate (xs.length - a) (.int .i64 0))) := by
  have hla := h.less
  have hsz : ∀ (vs : List Value) (o : Nat) (w : World), (w.setCells g o vs).heap.size = w.heap.size := by
    intro vs
    induction vs with
    | nil => intro o w; rfl
    | cons v vs ih => intro o w; simp only [World.setCells]; rw [ih]; simp [World.setCell]
  have hbl : ∀ (vs : List Value) (o : Nat) (w1 : World), Below B w w1 → Below B w (w1.setCells g o vs) := by
    intro vs
    induction vs with
    | nil => intro o w1 hb; exact hb
    | cons v vs ih => intro o w1 hb; simp only [World.setCells]; exact ih _ _ (hb.setCell h.row.base _)
  refine ⟨fun ty c => Lib.run_clear_slice wr _ _ ty _ Try.underlying23 zero_int rfl rfl g a _ _ (by omega) (fun j hj => by rw [h.row.cells (a + j) (by omega)]; rfl) (fun j hj => h.row.frozen (a + j) (by omega)), ?_, hbl _ _ _ h.row.below⟩
  have e := filtTo_all (p := p) hk
  have ha2 : (xs.filter fun x => !p x).length = a := by rw [← e]; exact ha
  refine ⟨_, _, _, rfl, ha2, by omega, ⟨by omega, hc2, fun h => by cases h⟩, fun j hj => ⟨g, 0, rfl, by rw [hsz]; exact h.row.size, ?_⟩⟩
  rw [World.cell?_setCells_out _ _ _ _ _ (by intro _ _; left; simp; omega), Nat.zero_add, h.row.cells j (by omega), h.front j (by rw [e]; exact hj), e]

/-- The function g tells p of every number of which C holds, in every world that comes of w0. -/
def AsksC2 (w0 : World) (g : Nat) (q r : Value) (C : Int → Prop) (p : Int → Bool) : Prop :=
  ∀ (x : Int) w, C x → Below w0.heap.size w0 w → Calls Try.prog g #[.int .i64 x, q, r] w fun e w' => e = .returned (.bool (p x)) ∧ Below w.heap.size w w'

set_option maxHeartbeats 1000000 in
theorem indexfuncC2 (w0 : World) (g : Nat) (q r : Value) (C : Int → Prop) (p : Int → Bool) (hg : AsksC2 w0 g q r C p) (eg : ∀ args w, (callFunc g args).run Try.prog w = .ok (.enter g args) w) (v : Value) (xs : List Int) (hC : ∀ j, j < xs.length → C (nth xs j)) (w : World) (hw : Below w0.heap.size w0 w) (hv : Ints w v xs) :
    Calls Try.prog 56 #[v, .func (.func g) #[] #[q, r]] w fun e w' => ∃ i : Int, e = .returned (.int .i64 i) ∧ FirstAt xs p i ∧ Below w.heap.size w w' := by
  obtain ⟨a, len, cap, rfl, hlen, hmx, hsh, hr⟩ := hv
  have Hg : Hid _ := hg
  have HC : Hid _ := hC
  clear hg hC
  go_enter Try.func56, Try.ntmps56
  go_wp2_with fail
  go_loopg [8] len (fun g i wr => ∃ k : Nat, k + g = len ∧ i = .int .i64 k ∧ Below w.heap.size w wr ∧ Hid (∀ j, j < k → p (nth xs j) = false))
  case atStart => exact ⟨0, by omega, rfl, Below.refl _ _, fun j hj => absurd hj (Nat.not_lt_zero _)⟩
  case round =>
    obtain ⟨k, hkg, rfl, hb, Hn⟩ := hrel
    by_cases hkn : k < len
    · obtain ⟨b1, o1, rfl, hb1, c0⟩ := (hr.below hb) k (by omega)
      have hw2 := below_then hw hb
      have HCk : Hid (C (nth xs k)) := HC.out k (by omega)
      obtain ⟨z, Hz⟩ : ∃ z, Hid (nth xs k = z) := ⟨_, rfl⟩
      rw [Hz.out] at c0 HCk
      go_wp2_with fail
      refine (Hg.out z _ HCk.out (by exact hw2)).mono ?_
      rintro e w2 ⟨rfl, b'⟩
      have R := below_then hb b'
      cases hp : p z
      · have Hn2 : Hid (∀ j, j < k + 1 → p (nth xs j) = false) := fun j hj => by
          by_cases e : j = k
          · subst e; rw [Hz.out]; exact hp
          · exact Hn.out j (by omega)
        clear b' hb c0 hp hw2
        go_wp2
        go_roundg (gk - 1)
        case measure => omega
        case rel => exact ⟨k + 1, by omega, by go_num, R, Hn2⟩
      · have F : Hid (FirstAt xs p k) := .inr ⟨k, rfl, by omega, by rw [Hz.out]; exact hp, Hn.out⟩
        clear b' hb c0 hp hw2
        go_wp2
        go_ret
        exact ⟨_, rfl, F.out, R⟩
    · have F : Hid (FirstAt xs p (-1)) := .inl ⟨rfl, fun j hj => Hn.out j (by omega)⟩
      go_wp2
      go_ret
      exact ⟨_, rfl, F.out, hb⟩

set_option maxHeartbeats 2000000 in
theorem deletefuncC2 (w0 : World) (g : Nat) (q r : Value) (C : Int → Prop) (p : Int → Bool) (hg : AsksC2 w0 g q r C p) (eg : ∀ args w, (callFunc g args).run Try.prog w = .ok (.enter g args) w) (v : Value) (xs : List Int) (hC : ∀ j, j < xs.length → C (nth xs j)) (w : World) (hO : Own w0.heap.size w0 w v xs) (hl : xs.length ≤ 17592186044416) :
    Calls Try.prog 27 #[v, .func (.func g) #[] #[q, r]] w fun e w' => ∃ u, e = .returned u ∧ Ints w' u (xs.filter fun x => !p x) ∧ (∀ a n c, u = .slice (some a) n c → w0.heap.size ≤ a.block) ∧ Below w0.heap.size w0 w' := by
  have hI := hO.ints hl
  have Hg : Hid _ := hg
  have HC : Hid _ := hC
  obtain ⟨zs, Hz⟩ : ∃ zs, Hid ((xs.filter fun x => !p x) = zs) := ⟨_, rfl⟩
  rw [Hz.out]
  go_enter Try.func27, Try.ntmps27
  go_wp2_with fail
  refine (indexfuncC2 w0 g q r C p hg eg _ xs hC _ hO.2.1 (by exact hI)).mono ?_
  rintro e w1 ⟨i, rfl, hF, b⟩
  replace hI := hI.below b
  replace hO := hO.trans b
  clear b hg hC
  rcases hF with ⟨rfl, hn⟩ | ⟨k, rfl, hk, hp, hn⟩
  · have E : Hid (xs = zs) := by
      show _ = _
      rw [← Hz.out]
      refine (List.filter_eq_self.2 fun x hx => ?_).symm
      obtain ⟨j, hj, rfl⟩ := List.getElem_of_mem hx
      have := hn j hj
      simp only [nth, List.getD, List.getElem?_eq_getElem hj, Option.getD_some] at this
      rw [this]; rfl
    have R := hO.2.1
    have R3 : Hid _ := hO.block
    rw [E.out] at hI
    clear hO hn
    go_wp2
    go_ret
    exact ⟨_, rfl, hI, R3.out, R⟩
  · obtain ⟨gb, cap, rfl, hcap, hc63, hR⟩ := hO.row (by omega)
    obtain ⟨hM, hM2⟩ := Moved.start hR hk hp hn
    have HM : Hid _ := hM
    have HM2 : Hid _ := hM2
    obtain ⟨len, Hlen⟩ : ∃ len, Hid (xs.length = len) := ⟨_, rfl⟩
    rw [Hlen.out] at hk hl hcap hI ⊢
    clear hO hR hM hM2 hp hn hI
    have hk1 : ((k : Int) == -1) = false := by rw [beq_eq_false_iff_ne]; omega
    go_wp2_with fail
    go_loopg [5, 6] (len - (k + 1)) (fun gg i j wx => ∃ (a k : Nat) (f : Nat → Int), k + gg = len ∧ i = .int .i64 a ∧ j = .int .i64 k ∧ Hid ((filtTo p xs k).length = a) ∧ Moved w0.heap.size gb w0 wx xs p k f)
    case atStart => exact ⟨k, k + 1, _, by omega, rfl, by go_num, HM2, HM.out⟩
    case round =>
      clear HM HM2 hk1 hk
      obtain ⟨a, k, f, hkg, rfl, rfl, Ha, hM⟩ := hrel
      have hak := hM.less
      rw [Ha.out] at hak
      by_cases hkn : k < len
      · have hkl : k < xs.length := by have := Hlen.out; omega
        have hc := hM.row.cells k hkl
        rw [hM.rest k (Nat.le_refl _) hkl] at hc
        have hbb := hM.row.below
        have HCk : Hid (C (nth xs k)) := HC.out k hkl
        have Hy : Hid (p (nth xs k) = true → filtTo p xs (k + 1) = filtTo p xs k) := fun h => filtTo_yes hkl h
        have Hno : Hid (p (nth xs k) = false → filtTo p xs (k + 1) = filtTo p xs k ++ [nth xs k]) := fun h => filtTo_no hkl h
        have HMy : Hid (∀ w2, Below wr.heap.size wr w2 → p (nth xs k) = true → Moved w0.heap.size gb w0 w2 xs p (k + 1) f) := fun w2 b h => (hM.to b).skip hkl h
        have HMn : Hid (∀ w2, Below wr.heap.size wr w2 → p (nth xs k) = false → ((∃ u, w2.cell? ⟨gb, a, none⟩ = some u) ∧ w2.frozen? ⟨gb, a, none⟩ = false) ∧ ∃ f', Moved w0.heap.size gb w0 (w2.setCell ⟨gb, a, none⟩ (.int .i64 (nth xs k))) xs p (k + 1) f') :=
          fun w2 b h => ⟨⟨⟨_, (hM.to b).row.cells a (by omega)⟩, (hM.to b).row.frozen a (by omega)⟩, (hM.to b).put hkl h Ha.out⟩
        clear hM hkl
        generalize nth xs k = z at *
        go_wp2_with fail
        refine (Hg.out z _ HCk.out (by exact hbb)).mono ?_
        rintro e w2 ⟨rfl, b⟩
        cases hp : p z
        · obtain ⟨⟨⟨u, e1⟩, e2⟩, f', hM2⟩ := HMn.out w2 b hp
          have R : Hid ((filtTo p xs (k + 1)).length = a + 1) := by have := Ha.out; rw [Hno.out hp]; simp; omega
          clear HMn HMy Hy Hno b hbb hc hp
          go_wp2
          go_roundg (gk - 1)
          case measure => omega
          case rel => exact ⟨a + 1, k + 1, f', by omega, by go_num, by go_num, R, hM2⟩
        · have hM2 := HMy.out w2 b hp
          have R : Hid ((filtTo p xs (k + 1)).length = a) := by rw [Hy.out hp]; exact Ha.out
          clear HMn HMy Hy Hno b hbb hc hp
          go_wp2
          go_roundg (gk - 1)
          case measure => omega
          case rel => exact ⟨a, k + 1, f, by omega, rfl, by go_num, R, hM2⟩
      · obtain ⟨hcl, R1, R2⟩ := hM.done (by have := Hlen.out; omega) (by rw [Hlen.out]; exact hl) (cap := cap) (by rw [Hlen.out]; exact hcap) hc63 Ha.out
        rw [Hlen.out] at hcl R1 R2
        rw [Hz.out] at R1
        have R3 : Hid (w0.heap.size ≤ gb) := hM.row.base
        clear hM
        go_wp2
        go_ret
        exact ⟨_, rfl, R1, fun a n c e => by injection e with e1 _ _; injection e1 with e1; rw [← e1]; exact R3.out, R2⟩

end Go.Proofs.Ytlknegihhcdhbaa

/- slices.DeleteFunc over numbers of an own row, with a function that has captured one variable. (After Slices7.) -/
namespace Go.Proofs.Ytlknegihhcdhbaa
open Go.RowKit
set_option linter.unusedVariables false
set_option maxRecDepth 4000

set_option maxHeartbeats 2000000 in
theorem deletefuncQ1 (w0 : World) (g : Nat) (q : Value) (p : Int → Bool) (hg : AsksQ1 w0 g q p) (eg : ∀ args w, (callFunc g args).run Try.prog w = .ok (.enter g args) w) (v : Value) (xs : List Int) (w : World) (hO : Own w0.heap.size w0 w v xs) (hl : xs.length ≤ 17592186044416) :
    Calls Try.prog 27 #[v, .func (.func g) #[] #[q]] w fun e w' => ∃ u, e = .returned u ∧ Ints w' u (xs.filter fun x => !p x) ∧ (∀ a n c, u = .slice (some a) n c → w0.heap.size ≤ a.block) ∧ Below w0.heap.size w0 w' := by
  have hI := hO.ints hl
  have Hg : Hid _ := hg
  obtain ⟨zs, Hz⟩ : ∃ zs, Hid ((xs.filter fun x => !p x) = zs) := ⟨_, rfl⟩
  rw [Hz.out]
  go_enter Try.func27, Try.ntmps27
  go_wp2_with fail
  refine (indexfuncQ1 w0 g q p hg eg _ xs _ hO.2.1 (by exact hI)).mono ?_
  rintro e w1 ⟨i, rfl, hF, b⟩
  replace hI := hI.below b
  replace hO := hO.trans b
  clear b hg
  rcases hF with ⟨rfl, hn⟩ | ⟨k, rfl, hk, hp, hn⟩
  · have E : Hid (xs = zs) := by
      show _ = _
      rw [← Hz.out]
      refine (List.filter_eq_self.2 fun x hx => ?_).symm
      obtain ⟨j, hj, rfl⟩ := List.getElem_of_mem hx
      have := hn j hj
      simp only [nth, List.getD, List.getElem?_eq_getElem hj, Option.getD_some] at this
      rw [this]; rfl
    have R := hO.2.1
    have R3 : Hid _ := hO.block
    rw [E.out] at hI
    clear hO hn
    go_wp2
    go_ret
    exact ⟨_, rfl, hI, R3.out, R⟩
  · obtain ⟨gb, cap, rfl, hcap, hc63, hR⟩ := hO.row (by omega)
    obtain ⟨hM, hM2⟩ := Moved.start hR hk hp hn
    have HM : Hid _ := hM
    have HM2 : Hid _ := hM2
    obtain ⟨len, Hlen⟩ : ∃ len, Hid (xs.length = len) := ⟨_, rfl⟩
    rw [Hlen.out] at hk hl hcap hI ⊢
    clear hO hR hM hM2 hp hn hI
    have hk1 : ((k : Int) == -1) = false := by rw [beq_eq_false_iff_ne]; omega
    go_wp2_with fail
    go_loopg [5, 6] (len - (k + 1)) (fun gg i j wx => ∃ (a k : Nat) (f : Nat → Int), k + gg = len ∧ i = .int .i64 a ∧ j = .int .i64 k ∧ Hid ((filtTo p xs k).length = a) ∧ Moved w0.heap.size gb w0 wx xs p k f)
    case atStart => exact ⟨k, k + 1, _, by omega, rfl, by go_num, HM2, HM.out⟩
    case round =>
      clear HM HM2 hk1 hk
      obtain ⟨a, k, f, hkg, rfl, rfl, Ha, hM⟩ := hrel
      have hak := hM.less
      rw [Ha.out] at hak
      by_cases hkn : k < len
      · have hkl : k < xs.length := by have := Hlen.out; omega
        have hc := hM.row.cells k hkl
        rw [hM.rest k (Nat.le_refl _) hkl] at hc
        have hbb := hM.row.below
        have Hy : Hid (p (nth xs k) = true → filtTo p xs (k + 1) = filtTo p xs k) := fun h => filtTo_yes hkl h
        have Hno : Hid (p (nth xs k) = false → filtTo p xs (k + 1) = filtTo p xs k ++ [nth xs k]) := fun h => filtTo_no hkl h
        have HMy : Hid (∀ w2, Below wr.heap.size wr w2 → p (nth xs k) = true → Moved w0.heap.size gb w0 w2 xs p (k + 1) f) := fun w2 b h => (hM.to b).skip hkl h
        have HMn : Hid (∀ w2, Below wr.heap.size wr w2 → p (nth xs k) = false → ((∃ u, w2.cell? ⟨gb, a, none⟩ = some u) ∧ w2.frozen? ⟨gb, a, none⟩ = false) ∧ ∃ f', Moved w0.heap.size gb w0 (w2.setCell ⟨gb, a, none⟩ (.int .i64 (nth xs k))) xs p (k + 1) f') :=
          fun w2 b h => ⟨⟨⟨_, (hM.to b).row.cells a (by omega)⟩, (hM.to b).row.frozen a (by omega)⟩, (hM.to b).put hkl h Ha.out⟩
        clear hM hkl
        generalize nth xs k = z at *
        go_wp2_with fail
        refine (Hg.out z _ (by exact hbb)).mono ?_
        rintro e w2 ⟨rfl, b⟩
        cases hp : p z
        · obtain ⟨⟨⟨u, e1⟩, e2⟩, f', hM2⟩ := HMn.out w2 b hp
          have R : Hid ((filtTo p xs (k + 1)).length = a + 1) := by have := Ha.out; rw [Hno.out hp]; simp; omega
          clear HMn HMy Hy Hno b hbb hc hp
          go_wp2
          go_roundg (gk - 1)
          case measure => omega
          case rel => exact ⟨a + 1, k + 1, f', by omega, by go_num, by go_num, R, hM2⟩
        · have hM2 := HMy.out w2 b hp
          have R : Hid ((filtTo p xs (k + 1)).length = a) := by rw [Hy.out hp]; exact Ha.out
          clear HMn HMy Hy Hno b hbb hc hp
          go_wp2
          go_roundg (gk - 1)
          case measure => omega
          case rel => exact ⟨a, k + 1, f, by omega, rfl, by go_num, R, hM2⟩
      · obtain ⟨hcl, R1, R2⟩ := hM.done (by have := Hlen.out; omega) (by rw [Hlen.out]; exact hl) (cap := cap) (by rw [Hlen.out]; exact hcap) hc63 Ha.out
        rw [Hlen.out] at hcl R1 R2
        rw [Hz.out] at R1
        have R3 : Hid (w0.heap.size ≤ gb) := hM.row.base
        clear hM
        go_wp2
        go_ret
        exact ⟨_, rfl, R1, fun a n c e => by injection e with e1 _ _; injection e1 with e1; rw [← e1]; exact R3.out, R2⟩

end Go.Proofs.Ytlknegihhcdhbaa
