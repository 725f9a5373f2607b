/- Blocks that the laws make; the small trial of package grow that they make first: it answers true. -/
import Derived.Test.YteoofibhpifmlaaDoorGrowDev
import Derived.Test.YteoofibhpifmlaaDoorNetBoth
namespace Go.Proofs.YteoofibhpifmlaaDoor
open Go.RowKit
set_option linter.unusedVariables false
set_option linter.unusedSimpArgs false
set_option maxRecDepth 4000

theorem kids_nil (w : World) : KidsV w (.slice none 0 0) [] := ⟨none, 0, 0, rfl, rfl, by omega, ⟨by omega, by omega, fun _ => rfl⟩, fun j hj => absurd hj (by simp)⟩
theorem block_of {w : World} {kv : Value} {k l : Int} {ks : List BlockL} (h : KidsV w kv ks) : BlockV w (.agg #[.int .i64 k, .int .i64 l, kv]) ⟨k, l, ks⟩ := blockV_iff.2 ⟨kv, rfl, h⟩
def stepL (n : Int) : BlockL := ⟨2, n, []⟩
def manyL (k : Int) (l : List BlockL) : BlockL := ⟨k, 0, l⟩
abbrev stepV (n : Int) : Value := .agg #[.int .i64 2, .int .i64 n, .slice none 0 0]
theorem step_read (w : World) (n : Int) : BlockV w (stepV n) (stepL n) := block_of (kids_nil w)

theorem step_any (n : Int) (w : World) : Calls Tryd.prog 23 #[.int .i64 n] w fun e w' => e = .returned (stepV n) ∧ w' = w.alloc (.cells #[.int .i64 2, .int .i64 n, .slice none 0 0] 68) := by
  go_enter Tryd.func23, Tryd.ntmps23
  go_wp2
  refine bodyPost_ret (v := stepV n) ?_ rfl ⟨rfl, rfl⟩
  simp [results, Tryd.results23, go_sem]
theorem many_any (k : Int) (a : Option Addr) (l c : Nat) (w : World) : Calls Tryd.prog 22 #[.int .i64 k, .slice a l c] w fun e w' => e = .returned (.agg #[.int .i64 k, .int .i64 0, .slice a l c]) ∧ w' = w.alloc (.cells #[.int .i64 k, .int .i64 0, .slice a l c] 68) := by
  go_enter Tryd.func22, Tryd.ntmps22
  go_wp2
  refine bodyPost_ret (v := .agg #[.int .i64 k, .int .i64 0, .slice a l c]) ?_ rfl ⟨rfl, rfl⟩
  simp [results, Tryd.results22, go_sem]

/-- Two kids that lie in a new block. -/
theorem kids_two (w : World) (b : Nat) (x y : BlockL) (xv yv : Value) (t : TypeId) (hx : BlockV w (.agg #[.int .i64 x.kind, .int .i64 x.label, xv]) x) (hy : BlockV w (.agg #[.int .i64 y.kind, .int .i64 y.label, yv]) y) (hb : b = w.heap.size) :
    KidsV (w.alloc (.cells #[.int .i64 x.kind, .int .i64 x.label, xv, .int .i64 y.kind, .int .i64 y.label, yv] t)) (.slice (some ⟨b, 0, none⟩) 2 2) [x, y] := by
  subst hb
  have hn := below_new w (.cells #[.int .i64 x.kind, .int .i64 x.label, xv, .int .i64 y.kind, .int .i64 y.label, yv] t)
  refine ⟨_, _, _, rfl, rfl, by omega, ⟨by omega, by omega, fun h => by cases h⟩, fun j hj => ?_⟩
  match j, hj with
  | 0, _ => exact ⟨w.heap.size, 0, _, _, _, rfl, by simp, by rw [World.cell?_alloc_at _ _ _ _ rfl]; rfl, by rw [World.cell?_alloc_at _ _ _ _ rfl]; rfl, by rw [World.cell?_alloc_at _ _ _ _ rfl]; rfl, hx.below hn⟩
  | 1, _ => exact ⟨w.heap.size, 0, _, _, _, rfl, by simp, by rw [World.cell?_alloc_at _ _ _ _ rfl]; rfl, by rw [World.cell?_alloc_at _ _ _ _ rfl]; rfl, by rw [World.cell?_alloc_at _ _ _ _ rfl]; rfl, hy.below hn⟩
  | j + 2, h => simp at h; omega

theorem grown11 : growL (manyL 3 [stepL 4, stepL 5]) = (⟨3, [⟨4, [1, 0, 0], [0, 0, 1]⟩, ⟨5, [0, 0, 1], [0, 1, 0]⟩]⟩, 0) := by rfl

end Go.Proofs.YteoofibhpifmlaaDoor
