/- Whether a list of transitions has one that a function with two captured variables tells of. -/
import Derived.Test.YteoofibhpifmlaaDoorNetBase
import Derived.Test.YteoofibhpifmlaaDoorOwn
namespace Go.Proofs.YteoofibhpifmlaaDoor
open Go.RowKit
set_option linter.unusedVariables false
set_option maxRecDepth 4000

theorem tranAt_get {ts : List TranL} {k : Nat} (hk : k < ts.length) : tranAt ts k = ts[k] := by simp [tranAt, List.getD, List.getElem?_eq_getElem hk]
theorem anyT_of {ls : List TranL} {p : TranL → Bool} {k : Nat} (hk : k < ls.length) (h : p (tranAt ls k) = true) : ls.any p = true :=
  List.any_eq_true.2 ⟨_, List.getElem_mem hk, by rw [← tranAt_get hk]; exact h⟩
theorem anyT_not {ls : List TranL} {p : TranL → Bool} (h : ∀ j, j < ls.length → p (tranAt ls j) = false) : ls.any p = false := by
  rw [List.any_eq_false]
  intro x hx
  obtain ⟨j, hj, rfl⟩ := List.getElem_of_mem hx
  have := h j hj
  rw [tranAt_get hj] at this
  simpa using this

/-- The function g with the captured values q, r tells p of every transition of which C holds, in every world that comes of w0. -/
def AsksT2 (w0 : World) (g : Nat) (q r : Value) (C : TranL → Prop) (p : TranL → Bool) : Prop :=
  ∀ u1 u2 (x : TranL) w, C x → Below w0.heap.size w0 w → Ints w u1 x.pre → Ints w u2 x.post → Calls Tryd.prog g #[.agg #[.int .i64 x.label, u1, u2], q, r] w fun e w' => e = .returned (.bool (p x)) ∧ Below w.heap.size w w'

set_option maxHeartbeats 1000000 in
theorem indextransQ (w0 : World) (g : Nat) (q r : Value) (C : TranL → Prop) (p : TranL → Bool) (hg : AsksT2 w0 g q r C p) (eg : ∀ args w, (callFunc g args).run Tryd.prog w = .ok (.enter g args) w) (v : Value) (ls : List TranL) (hC : ∀ j, j < ls.length → C (tranAt ls j)) (w : World) (hw : Below w0.heap.size w0 w) (hv : Trans w v ls) :
    Calls Tryd.prog 96 #[v, .func (.func g) #[] #[q, r]] w fun e w' => ∃ i : Int, e = .returned (.int .i64 i) ∧ decide (0 ≤ i) = ls.any p ∧ Below w.heap.size w w' := by
  obtain ⟨a, len, ca, rfl, hlen, hla, hsh, _⟩ := id hv
  have Hg : Hid _ := hg
  have HC : Hid _ := hC
  have Hlen : Hid (ls.length = len) := hlen
  clear hg hC hlen
  go_enter Tryd.func96, Tryd.ntmps96
  go_wp2_with fail
  go_loopg [8] len (fun g i wr => ∃ k : Nat, k + g = len ∧ i = .int .i64 k ∧ Below w.heap.size w wr ∧ Hid (∀ j, j < k → p (tranAt ls j) = false))
  case atStart => exact ⟨0, by omega, rfl, Below.refl _ _, fun j hj => absurd hj (Nat.not_lt_zero _)⟩
  case round =>
    obtain ⟨k, hkg, rfl, hb, Hn⟩ := hrel
    by_cases hkn : k < len
    · obtain ⟨b, off, c1, c2, rfl, hblt, h0, h1, h2, i1, i2⟩ := (hv.below hb).at hkn
      have hw2 := below_then hw hb
      have HCk : Hid (C (tranAt ls k)) := HC.out k (by have := Hlen.out; omega)
      obtain ⟨t, Ht⟩ : ∃ t, Hid (tranAt ls k = t) := ⟨_, rfl⟩
      rw [Ht.out] at h0 i1 i2 HCk
      obtain ⟨a1, l1, p1, rfl, _, _, _, _⟩ := id i1
      obtain ⟨a2, l2, p2, rfl, _, _, _, _⟩ := id i2
      go_wp2_with fail
      refine (Hg.out _ _ t _ HCk.out (by exact hw2) (by exact i1) (by exact i2)).mono ?_
      rintro e w2 ⟨rfl, b'⟩
      have R := below_then hb b'
      cases hp : p t
      · have Hn2 : Hid (∀ j, j < k + 1 → p (tranAt ls j) = false) := fun j hj => by
          by_cases e : j = k
          · subst e; rw [Ht.out]; exact hp
          · exact Hn.out j (by omega)
        clear b' hb i1 i2 h0 h1 h2 hp hw2 HCk
        go_wp2
        go_roundg (gk - 1)
        case measure => omega
        case rel => exact ⟨k + 1, by omega, by go_num, R, Hn2⟩
      · have F : Hid (ls.any p = true) := anyT_of (k := k) (by have := Hlen.out; omega) (by rw [Ht.out]; exact hp)
        clear b' hb i1 i2 h0 h1 h2 hp hw2 HCk
        go_wp2
        go_ret
        exact ⟨_, rfl, by rw [F.out]; simp, R⟩
    · have F : Hid (ls.any p = false) := anyT_not fun j hj => Hn.out j (by have := Hlen.out; omega)
      go_wp2
      go_ret
      exact ⟨_, rfl, by rw [F.out]; simp, hb⟩

theorem containstransQ (w0 : World) (g : Nat) (q r : Value) (C : TranL → Prop) (p : TranL → Bool) (hg : AsksT2 w0 g q r C p) (eg : ∀ args w, (callFunc g args).run Tryd.prog w = .ok (.enter g args) w) (v : Value) (ls : List TranL) (hC : ∀ j, j < ls.length → C (tranAt ls j)) (w : World) (hw : Below w0.heap.size w0 w) (hv : Trans w v ls) :
    Calls Tryd.prog 82 #[v, .func (.func g) #[] #[q, r]] w fun e w' => e = .returned (.bool (ls.any p)) ∧ Below w.heap.size w w' := by
  go_enter Tryd.func82, Tryd.ntmps82
  go_wp2_with fail
  refine (indextransQ w0 g q r C p hg eg _ ls hC _ hw (by exact hv)).mono ?_
  rintro e w1 ⟨i, rfl, hi, b⟩
  go_wp2
  go_ret
  exact ⟨rfl, b⟩

end Go.Proofs.YteoofibhpifmlaaDoor
