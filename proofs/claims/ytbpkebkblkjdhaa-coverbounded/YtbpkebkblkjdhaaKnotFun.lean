/- Whether a list of knots has one that a function tells of. -/
import Derived.Test.YtbpkebkblkjdhaaKnotMem
namespace Go.Proofs.Ytbpkebkblkjdhaa
open Go.RowKit
set_option linter.unusedVariables false

theorem anyK_of {ls : List KnotL} {p : KnotL → Bool} {k : Nat} (hk : k < ls.length) (h : p (knotOf ls k) = true) : ls.any p = true :=
  List.any_eq_true.2 ⟨_, List.getElem_mem hk, by rw [← knotOf_get hk]; exact h⟩
theorem anyK_not {ls : List KnotL} {p : KnotL → Bool} (h : ∀ j, j < ls.length → p (knotOf ls j) = false) : ls.any p = false := by
  rw [List.any_eq_false]
  intro x hx
  obtain ⟨j, hj, rfl⟩ := List.getElem_of_mem hx
  have := h j hj
  rw [knotOf_get hj] at this
  simpa using this

/-- The function g tells p of every knot, in every world that comes of w0. -/
def AsksKQ (w0 : World) (g : Nat) (q : Value) (p : KnotL → Bool) : Prop :=
  ∀ u (x : KnotL) w, Below w0.heap.size w0 w → Ints w u x.mark → Calls Try.prog g #[.agg #[.int .i64 x.up, .int .i64 x.tran, u], q] w fun e w' => e = .returned (.bool (p x)) ∧ Below w.heap.size w w'

set_option maxHeartbeats 1000000 in
theorem indexknotsQ (w0 : World) (g : Nat) (q : Value) (p : KnotL → Bool) (hg : AsksKQ w0 g q p) (eg : ∀ args w, (callFunc g args).run Try.prog w = .ok (.enter g args) w) (v : Value) (ls : List KnotL) (w : World) (hw : Below w0.heap.size w0 w) (hv : Knots w v ls) :
    Calls Try.prog 39 #[v, .func (.func g) #[] #[q]] w fun e w' => ∃ i : Int, e = .returned (.int .i64 i) ∧ decide (0 ≤ i) = ls.any p ∧ Below w.heap.size w w' := by
  obtain ⟨a, ca, rfl, hla, _⟩ := hv.slice
  obtain ⟨len, Hlen⟩ : ∃ len, Hid (ls.length = len) := ⟨_, rfl⟩
  rw [Hlen.out] at hv hla ⊢
  have Hg : Hid _ := hg
  clear hg
  go_enter Try.func39, Try.ntmps39
  go_wp2_with fail
  go_loopg [8] len (fun g i wr => ∃ k : Nat, k + g = len ∧ i = .int .i64 k ∧ Below w.heap.size w wr ∧ Hid (∀ j, j < k → p (knotOf ls j) = false))
  case atStart => exact ⟨0, by omega, rfl, Below.refl _ _, fun j hj => absurd hj (Nat.not_lt_zero _)⟩
  case round =>
    obtain ⟨k, hkg, rfl, hb, Hn⟩ := hrel
    by_cases hkn : k < len
    · obtain ⟨b1, o1, u1, rfl, _, c0, c1, c2, i1⟩ := (hv.below hb).at hkn
      have hw2 := below_then hw hb
      obtain ⟨kn, Hkn⟩ : ∃ kn, Hid (knotOf ls k = kn) := ⟨_, rfl⟩
      rw [Hkn.out] at c0 c1 i1
      obtain ⟨au, lu, cu, rfl, _, _, _, _⟩ := id i1
      go_wp2_with fail
      refine (Hg.out _ kn _ (by exact hw2) (by exact i1)).mono ?_
      rintro e w2 ⟨rfl, b'⟩
      have R := below_then hb b'
      cases hp : p kn
      · have Hn2 : Hid (∀ j, j < k + 1 → p (knotOf ls j) = false) := fun j hj => by
          by_cases e : j = k
          · subst e; rw [Hkn.out]; exact hp
          · exact Hn.out j (by omega)
        clear b' hb i1 c0 c1 c2 hp hw2
        go_wp2
        go_roundg (gk - 1)
        case measure => omega
        case rel => exact ⟨k + 1, by omega, by go_num, R, Hn2⟩
      · have F : Hid (ls.any p = true) := anyK_of (k := k) (by have := Hlen.out; omega) (by rw [Hkn.out]; exact hp)
        clear b' hb i1 c0 c1 c2 hp hw2
        go_wp2
        go_ret
        exact ⟨_, rfl, by rw [F.out]; simp, R⟩
    · have F : Hid (ls.any p = false) := anyK_not fun j hj => Hn.out j (by have := Hlen.out; omega)
      go_wp2
      go_ret
      exact ⟨_, rfl, by rw [F.out]; simp, hb⟩

theorem containsknotsQ (w0 : World) (g : Nat) (q : Value) (p : KnotL → Bool) (hg : AsksKQ w0 g q p) (eg : ∀ args w, (callFunc g args).run Try.prog w = .ok (.enter g args) w) (v : Value) (ls : List KnotL) (w : World) (hw : Below w0.heap.size w0 w) (hv : Knots w v ls) :
    Calls Try.prog 15 #[v, .func (.func g) #[] #[q]] w fun e w' => e = .returned (.bool (ls.any p)) ∧ Below w.heap.size w w' := by
  go_enter Try.func15, Try.ntmps15
  go_wp2_with fail
  refine (indexknotsQ w0 g q p hg eg _ ls _ hw (by exact hv)).mono ?_
  rintro e w1 ⟨i, rfl, hi, b⟩
  go_wp2
  go_ret
  exact ⟨rfl, b⟩

/-- The function g tells p of every knot, in every world that comes of w0. -/
def AsksK0 (w0 : World) (g : Nat) (p : KnotL → Bool) : Prop :=
  ∀ u (x : KnotL) w, Below w0.heap.size w0 w → Ints w u x.mark → Calls Try.prog g #[.agg #[.int .i64 x.up, .int .i64 x.tran, u]] w fun e w' => e = .returned (.bool (p x)) ∧ Below w.heap.size w w'

set_option maxHeartbeats 1000000 in
theorem indexknots0 (w0 : World) (g : Nat) (p : KnotL → Bool) (hg : AsksK0 w0 g p) (eg : ∀ args w, (callFunc g args).run Try.prog w = .ok (.enter g args) w) (v : Value) (ls : List KnotL) (w : World) (hw : Below w0.heap.size w0 w) (hv : Knots w v ls) :
    Calls Try.prog 39 #[v, .func (.func g) #[] #[]] w fun e w' => ∃ i : Int, e = .returned (.int .i64 i) ∧ decide (0 ≤ i) = ls.any p ∧ Below w.heap.size w w' := by
  obtain ⟨a, ca, rfl, hla, _⟩ := hv.slice
  obtain ⟨len, Hlen⟩ : ∃ len, Hid (ls.length = len) := ⟨_, rfl⟩
  rw [Hlen.out] at hv hla ⊢
  have Hg : Hid _ := hg
  clear hg
  go_enter Try.func39, Try.ntmps39
  go_wp2_with fail
  go_loopg [8] len (fun g i wr => ∃ k : Nat, k + g = len ∧ i = .int .i64 k ∧ Below w.heap.size w wr ∧ Hid (∀ j, j < k → p (knotOf ls j) = false))
  case atStart => exact ⟨0, by omega, rfl, Below.refl _ _, fun j hj => absurd hj (Nat.not_lt_zero _)⟩
  case round =>
    obtain ⟨k, hkg, rfl, hb, Hn⟩ := hrel
    by_cases hkn : k < len
    · obtain ⟨b1, o1, u1, rfl, _, c0, c1, c2, i1⟩ := (hv.below hb).at hkn
      have hw2 := below_then hw hb
      obtain ⟨kn, Hkn⟩ : ∃ kn, Hid (knotOf ls k = kn) := ⟨_, rfl⟩
      rw [Hkn.out] at c0 c1 i1
      obtain ⟨au, lu, cu, rfl, _, _, _, _⟩ := id i1
      go_wp2_with fail
      refine (Hg.out _ kn _ (by exact hw2) (by exact i1)).mono ?_
      rintro e w2 ⟨rfl, b'⟩
      have R := below_then hb b'
      cases hp : p kn
      · have Hn2 : Hid (∀ j, j < k + 1 → p (knotOf ls j) = false) := fun j hj => by
          by_cases e : j = k
          · subst e; rw [Hkn.out]; exact hp
          · exact Hn.out j (by omega)
        clear b' hb i1 c0 c1 c2 hp hw2
        go_wp2
        go_roundg (gk - 1)
        case measure => omega
        case rel => exact ⟨k + 1, by omega, by go_num, R, Hn2⟩
      · have F : Hid (ls.any p = true) := anyK_of (k := k) (by have := Hlen.out; omega) (by rw [Hkn.out]; exact hp)
        clear b' hb i1 c0 c1 c2 hp hw2
        go_wp2
        go_ret
        exact ⟨_, rfl, by rw [F.out]; simp, R⟩
    · have F : Hid (ls.any p = false) := anyK_not fun j hj => Hn.out j (by have := Hlen.out; omega)
      go_wp2
      go_ret
      exact ⟨_, rfl, by rw [F.out]; simp, hb⟩

theorem containsknots0 (w0 : World) (g : Nat) (p : KnotL → Bool) (hg : AsksK0 w0 g p) (eg : ∀ args w, (callFunc g args).run Try.prog w = .ok (.enter g args) w) (v : Value) (ls : List KnotL) (w : World) (hw : Below w0.heap.size w0 w) (hv : Knots w v ls) :
    Calls Try.prog 15 #[v, .func (.func g) #[] #[]] w fun e w' => e = .returned (.bool (ls.any p)) ∧ Below w.heap.size w w' := by
  go_enter Try.func15, Try.ntmps15
  go_wp2_with fail
  refine (indexknots0 w0 g p hg eg _ ls _ hw (by exact hv)).mono ?_
  rintro e w1 ⟨i, rfl, hi, b⟩
  go_wp2
  go_ret
  exact ⟨rfl, b⟩

end Go.Proofs.Ytbpkebkblkjdhaa
