import Derived.Test.YtplfflnkidcglaaGr00
import Derived.Lib.SliceRun
/- More of package slices over slices of ints: a copy, whether a number is there. -/
namespace Go.Proofs.Ytplfflnkidcglaa
open Go.RowKit
set_option linter.unusedVariables false
set_option maxRecDepth 4000

set_option maxHeartbeats 400000 in
theorem clone_any (v : Value) (xs : List Int) (w : World) (h : Ints w v xs) :
    Calls Try.prog 40 #[v] w fun e w' => ∃ r, e = .returned r ∧ Own w.heap.size w w' r xs := by
  have h' := h
  obtain ⟨a, len, cap, rfl, hlen, hmx, hsh, hr⟩ := h
  cases a with
  | none =>
    have hc0 : cap = 0 := hsh.2.2 rfl
    have hl0 : len = 0 := by have := hsh.1; omega
    subst hc0 hl0
    have hy : xs = [] := List.length_eq_zero_iff.1 hlen
    subst hy
    clear hr h' hsh
    have q22 : ∀ (w : World) (a : Option Addr) (n c n' c' : Nat), (binOp .eql 27 (.slice a n c) (.slice none n' c')).run Try.prog w = .ok (.bool a.isNone) w := fun w a n c n' c' => Lib.run_eql_slice_nil w _ _ a n c n' c' Try.underlying27
    go_enter Try.func40, Try.ntmps40
    go_wp2
    go_ret
    exact ⟨_, rfl, Own.nil _⟩
  | some ad =>
    have hn := below_new w (.cells #[] 3)
    have hG : Own w.heap.size w (w.alloc (.cells #[] 3)) (.slice (some ⟨w.heap.size, 0, none⟩) 0 0) [] :=
      ⟨World.ownsRow_made w #[] 0 (Nat.le_refl _) (by unfold maxLen; omega) rfl, hn, by simp⟩
    have h2 := h'.below hn
    have HL : Hid (([] : List Int).length + xs.length ≤ 17592186044416) := by show _ ≤ _; simp; omega
    clear hr h' hsh hlen
    have q22 : ∀ (w : World) (a : Option Addr) (n c n' c' : Nat), (binOp .eql 27 (.slice a n c) (.slice none n' c')).run Try.prog w = .ok (.bool a.isNone) w := fun w a n c n' c' => Lib.run_eql_slice_nil w _ _ a n c n' c' Try.underlying27
    go_enter Try.func40, Try.ntmps40
    go_wp2_with (at_builtin; refine wp_append_ints rfl _ _ rfl w.heap.size w _ _ _ [] xs hG (by rfl) (by rfl) h2 HL.out ?_; intro v' w2 hG2)
    have R : Own w.heap.size w w2 v' xs := by simpa using hG2
    clear hG hG2 h2
    go_wp2
    go_ret
    exact ⟨_, rfl, R⟩

/-- Whether a number is there. -/
def hasL (xs : List Int) (x : Int) : Bool := xs.contains x
def anyL (xs : List Int) (p : Int → Bool) : Bool := xs.any p

/-- It is at none of the first k places. -/
def idxTo (xs : List Int) (x : Int) (k : Nat) : Prop := ∀ j, j < k → nth xs j ≠ x

theorem contains_of_nth {xs : List Int} {x : Int} {k : Nat} (hk : k < xs.length) (h : nth xs k = x) : hasL xs x = true := by
  unfold hasL
  rw [List.contains_iff_mem, ← h]
  simp [nth, List.getD, List.getElem?_eq_getElem hk]
theorem not_contains {xs : List Int} {x : Int} (h : idxTo xs x xs.length) : hasL xs x = false := by
  unfold hasL
  rw [Bool.eq_false_iff]
  intro hc
  rw [List.contains_iff_mem] at hc
  obtain ⟨j, hj, e⟩ := List.mem_iff_getElem.1 hc
  exact h j hj (by simp [nth, List.getD, List.getElem?_eq_getElem hj, e])
theorem idxTo_succ {xs : List Int} {x : Int} {k : Nat} (h : idxTo xs x k) (hn : nth xs k ≠ x) : idxTo xs x (k + 1) := by
  intro j hj
  by_cases hjk : j < k
  · exact h j hjk
  · obtain rfl : j = k := by omega
    exact hn

set_option maxHeartbeats 400000 in
theorem index_any (v : Value) (xs : List Int) (x : Int) (w : World) (h : Ints w v xs) :
    Calls Try.prog 24 #[v, .int .i64 x] w fun e w' => ∃ i : Int, e = .returned (.int .i64 i) ∧ w' = w ∧ (decide (0 ≤ i) = hasL xs x) := by
  obtain ⟨a, len, cap, rfl, hlen, hmx, hsh, hr⟩ := h
  go_enter Try.func24, Try.ntmps24
  go_wp2
  go_loop [8] (fun i => ∃ k : Nat, k ≤ len ∧ i = .int .i64 k ∧ idxTo xs x k) (fun i => len - (intOf i).toNat)
  case atStart => exact ⟨0, Nat.zero_le _, rfl, fun j hj => absurd hj (Nat.not_lt_zero _)⟩
  case round =>
    obtain ⟨k, hk, rfl, hidx⟩ := hrel
    by_cases hkn : k < len
    · obtain ⟨b, off, rfl, hb, hc⟩ := hr k (by omega)
      by_cases hx : nth xs k = x
      · have e1 : (x == nth xs k) = true := by simp [hx]
        have F : Hid (hasL xs x = true) := contains_of_nth (by omega) hx
        clear hr hx
        go_wp2
        go_ret
        exact ⟨_, rfl, rfl, by rw [F.out]; simp⟩
      · have e1 : (x == nth xs k) = false := by rw [beq_eq_false_iff_ne]; exact fun h => hx h.symm
        have F : Hid (idxTo xs x (k + 1)) := idxTo_succ hidx hx
        clear hr hx
        go_wp2
        go_round
        case rel => exact ⟨k + 1, by omega, by go_num, F.out⟩
        case measure => simp [intOf]; omega
    · have F : Hid (hasL xs x = false) := not_contains (by rw [hlen]; have hkl : k = len := (by omega); rw [← hkl]; exact hidx)
      go_wp2
      go_ret
      exact ⟨_, rfl, rfl, by rw [F.out]; rfl⟩

set_option maxHeartbeats 400000 in
theorem contains_any (v : Value) (xs : List Int) (x : Int) (w : World) (h : Ints w v xs) :
    Calls Try.prog 13 #[v, .int .i64 x] w fun e w' => e = .returned (.bool (hasL xs x)) ∧ w' = w := by
  go_enter Try.func13, Try.ntmps13
  go_wp2_with fail
  refine (index_any _ xs x _ h).mono ?_
  rintro e w' ⟨i, rfl, rfl, hi⟩
  have F : Hid _ := hi
  clear hi
  by_cases h0 : 0 ≤ i
  · go_wp2
    go_ret
    exact ⟨ret_bool (by rw [← F.out, decide_eq_true h0]), rfl⟩
  · go_wp2
    go_ret
    exact ⟨ret_bool (by rw [← F.out, decide_eq_false (by omega)]), rfl⟩

/-- Function g of an int answers whether p. -/
def Asks1 (g : Nat) (p : Int → Bool) : Prop := ∀ x w, Calls Try.prog g #[.int .i64 x] w fun e w' => e = .returned (.bool (p x)) ∧ w' = w

def noneTo (xs : List Int) (p : Int → Bool) (k : Nat) : Prop := ∀ j, j < k → p (nth xs j) = false
theorem any_of_nth {xs : List Int} {p : Int → Bool} {k : Nat} (hk : k < xs.length) (h : p (nth xs k) = true) : anyL xs p = true := by
  unfold anyL
  rw [List.any_eq_true]
  exact ⟨nth xs k, by simp [nth, List.getD, List.getElem?_eq_getElem hk], h⟩
theorem not_any {xs : List Int} {p : Int → Bool} (h : noneTo xs p xs.length) : anyL xs p = false := by
  unfold anyL
  rw [List.any_eq_false]
  intro x hx
  obtain ⟨j, hj, e⟩ := List.mem_iff_getElem.1 hx
  have := h j hj
  simp only [nth, List.getD, List.getElem?_eq_getElem hj, e, Option.getD_some] at this
  simp [this]
theorem noneTo_succ {xs : List Int} {p : Int → Bool} {k : Nat} (h : noneTo xs p k) (hn : p (nth xs k) = false) : noneTo xs p (k + 1) := by
  intro j hj
  by_cases hjk : j < k
  · exact h j hjk
  · obtain rfl : j = k := by omega
    exact hn

end Go.Proofs.Ytplfflnkidcglaa

/- Whether a list of errnos has one that a function tells of. -/
namespace Go.Proofs.Ytplfflnkidcglaa
open Go.RowKit
set_option linter.unusedVariables false
set_option maxRecDepth 4000

set_option maxHeartbeats 400000 in
theorem indexerr_any (g : Nat) (p : Int → Bool) (hg : Asks1 g p) (eg : ∀ args w, (callFunc g args).run Try.prog w = .ok (.enter g args) w) (v : Value) (xs : List Int) (w : World) (h : Ints w v xs) :
    Calls Try.prog 28 #[v, .func (.func g) #[] #[]] w fun e w' => ∃ i : Int, e = .returned (.int .i64 i) ∧ w' = w ∧ (decide (0 ≤ i) = anyL xs p) := by
  obtain ⟨a, len, cap, rfl, hlen, hmx, hsh, hr⟩ := h
  go_enter Try.func28, Try.ntmps28
  go_wp2
  go_loop [8] (fun i => ∃ k : Nat, k ≤ len ∧ i = .int .i64 k ∧ noneTo xs p k) (fun i => len - (intOf i).toNat)
  case atStart => exact ⟨0, Nat.zero_le _, rfl, fun j hj => absurd hj (Nat.not_lt_zero _)⟩
  case round =>
    obtain ⟨k, hk, rfl, hidx⟩ := hrel
    by_cases hkn : k < len
    · obtain ⟨b, off, rfl, hb, hc⟩ := hr k (by omega)
      have F1 : Hid _ := any_of_nth (xs := xs) (p := p) (k := k) (by omega)
      have F2 : Hid _ := noneTo_succ hidx
      clear hr hidx
      go_wp2_with fail
      refine (hg _ _).mono ?_
      rintro e w' ⟨rfl, rfl⟩
      cases hx : p (nth xs k)
      · have F : Hid (noneTo xs p (k + 1)) := F2.out hx
        clear hx
        go_wp2
        go_round
        case rel => exact ⟨k + 1, by omega, by go_num, F.out⟩
        case measure => simp [intOf]; omega
      · have F : Hid (anyL xs p = true) := F1.out hx
        clear hx
        go_wp2
        go_ret
        exact ⟨_, rfl, rfl, by rw [F.out]; simp⟩
    · have F : Hid (anyL xs p = false) := not_any (by rw [hlen]; have hkl : k = len := (by omega); rw [← hkl]; exact hidx)
      go_wp2
      go_ret
      exact ⟨_, rfl, rfl, by rw [F.out]; rfl⟩

set_option maxHeartbeats 400000 in
theorem containserr_any (g : Nat) (p : Int → Bool) (hg : Asks1 g p) (eg : ∀ args w, (callFunc g args).run Try.prog w = .ok (.enter g args) w) (v : Value) (xs : List Int) (w : World) (h : Ints w v xs) :
    Calls Try.prog 17 #[v, .func (.func g) #[] #[]] w fun e w' => e = .returned (.bool (anyL xs p)) ∧ w' = w := by
  go_enter Try.func17, Try.ntmps17
  go_wp2_with fail
  refine (indexerr_any g p hg eg _ xs _ h).mono ?_
  rintro e w' ⟨i, rfl, rfl, hi⟩
  have F : Hid _ := hi
  clear hi
  by_cases h0 : 0 ≤ i
  · go_wp2
    go_ret
    exact ⟨ret_bool (by rw [← F.out, decide_eq_true h0]), rfl⟩
  · go_wp2
    go_ret
    exact ⟨ret_bool (by rw [← F.out, decide_eq_false (by omega)]), rfl⟩

end Go.Proofs.Ytplfflnkidcglaa
