/- byFirst: pairs held against each other. -/
import Derived.Test.YtlknegihhcdhbaaGr00
import Derived.Shelf.SlSortCmp.WholeK
namespace Go.Proofs.Ytlknegihhcdhbaa
open Go.RowKit Go.Lib Go.Sort Go.Shelf
set_option linter.unusedVariables false
set_option linter.unusedSimpArgs false
set_option maxRecDepth 4000

def cmpP (x y : Int × Int) : Int := if Lib.compareInt x.1 y.1 = 0 then Lib.compareInt x.2 y.2 else Lib.compareInt x.1 y.1
def cmpN (x y : Int) : Int := Lib.compareInt x y
def encP (x : Int × Int) : List Value := [.int .i64 x.1, .int .i64 x.2]
theorem ltP_iff (x y : Int × Int) : ltOf cmpP x y = decide (x.1 < y.1 ∨ x.1 = y.1 ∧ x.2 < y.2) := by
  unfold ltOf cmpP Lib.compareInt
  rw [Bool.eq_iff_iff, decide_eq_true_eq, decide_eq_true_eq]
  by_cases h1 : x.1 < y.1
  · simp [h1]
  · by_cases h2 : y.1 < x.1
    · simp [h1, h2]; omega
    · have e : x.1 = y.1 := by omega
      by_cases h3 : x.2 < y.2
      · simp [e, h3]
      · by_cases h4 : y.2 < x.2 <;> simp [e, h3, h4]
theorem swoP : SWO (ltOf cmpP) where
  irrefl x := by rw [ltP_iff]; simp
  trans x y z h1 h2 := by rw [ltP_iff] at *; simp only [decide_eq_true_eq] at *; omega
  ntrans x y z h1 h2 := by rw [ltP_iff] at *; simp only [decide_eq_false_iff_not] at *; omega

/-- cmp.Or of two. -/
theorem or_any (p q : Int) (b : Nat) (w : World) (h0 : w.cell? ⟨b, 0, none⟩ = some (.int .i64 p)) (h1 : w.cell? ⟨b, 1, none⟩ = some (.int .i64 q)) :
    Calls Try.prog 78 #[.slice (some ⟨b, 0, none⟩) 2 2] w fun e w' => e = .returned (.int .i64 (if p = 0 then q else p)) ∧ w' = w := by
  go_enter Try.func78, Try.ntmps78
  go_upto_region 2 with fail
  go_wp2_with fail
  go_loopg [8] 2 (fun gk i' wr => ∃ k : Nat, k + gk = 2 ∧ i' = .int .i64 (k : Int) ∧ wr = w ∧ (1 ≤ k → p = 0) ∧ (2 ≤ k → q = 0))
  case atStart => exact ⟨0, rfl, rfl, rfl, by omega, by omega⟩
  case round =>
    obtain ⟨k, hk, rfl, rfl, hp, hq⟩ := hrel
    obtain rfl | rfl | rfl : k = 0 ∨ k = 1 ∨ k = 2 := by omega
    · by_cases hz : p = 0
      · subst hz
        go_wp2
        go_roundg 1
        case measure => omega
        case rel => exact ⟨1, by omega, rfl, rfl, by simp, by simp⟩
      · go_wp2
        go_ret
        exact ⟨by simp [hz], rfl⟩
    · obtain rfl := hp (by omega)
      by_cases hz : q = 0
      · subst hz
        go_wp2
        go_roundg 0
        case measure => omega
        case rel => exact ⟨2, by omega, rfl, rfl, by simp, by simp⟩
      · go_wp2
        go_ret
        exact ⟨by simp, rfl⟩
    · obtain rfl := hp (by omega)
      obtain rfl := hq (by omega)
      go_wp2
      go_ret
      exact ⟨by simp, rfl⟩

set_option maxHeartbeats 1000000 in
theorem byFirst_any (x y : Int × Int) (W : World) : Calls Try.prog 62 #[.agg #[.int .i64 x.1, .int .i64 x.2], .agg #[.int .i64 y.1, .int .i64 y.2]] W fun e w' => e = .returned (.int .i64 (cmpP x y)) ∧ ∃ q os', w' = grow (W.drewN q) os' := by
  obtain ⟨x1, x2⟩ := x
  obtain ⟨y1, y2⟩ := y
  have hc : ∀ x y w, Calls Try.prog 50 #[.int .i64 x, .int .i64 y] w fun e w' => e = .returned (.int .i64 (cmpN x y)) ∧ w' = w := compare_any
  have HP : Hid (cmpP (x1, x2) (y1, y2) = if cmpN x1 y1 = 0 then cmpN x2 y2 else cmpN x1 y1) := rfl
  have ho : ∀ b w, w.cell? ⟨b, 0, none⟩ = some (.int .i64 (cmpN x1 y1)) → w.cell? ⟨b, 1, none⟩ = some (.int .i64 (cmpN x2 y2)) → Calls Try.prog 78 #[.slice (some ⟨b, 0, none⟩) 2 2] w fun e w' => e = .returned (.int .i64 (cmpP (x1, x2) (y1, y2))) ∧ w' = w := by
    rw [HP.out]; exact fun b w => or_any _ _ b w
  clear HP
  generalize cmpP (x1, x2) (y1, y2) = r at ho ⊢
  obtain ⟨c0, c1⟩ : (W.alloc (.cells #[.int .i64 x1, .int .i64 x2] 38)).cell? ⟨W.heap.size, 0, none⟩ = some (.int .i64 x1) ∧ (W.alloc (.cells #[.int .i64 x1, .int .i64 x2] 38)).cell? ⟨W.heap.size, 1, none⟩ = some (.int .i64 x2) := ⟨by rw [World.cell?_alloc_at _ _ _ _ rfl]; rfl, by rw [World.cell?_alloc_at _ _ _ _ rfl]; rfl⟩
  have hs1 : (W.alloc (.cells #[.int .i64 x1, .int .i64 x2] 38)).heap.size = W.heap.size + 1 := by simp
  obtain ⟨w1, H1⟩ : ∃ v, Hid (W.alloc (.cells #[.int .i64 x1, .int .i64 x2] 38) = v) := ⟨_, rfl⟩
  rw [H1.out] at c0 c1 hs1
  obtain ⟨b0, b1⟩ : (w1.alloc (.cells #[.int .i64 y1, .int .i64 y2] 38)).cell? ⟨w1.heap.size, 0, none⟩ = some (.int .i64 y1) ∧ (w1.alloc (.cells #[.int .i64 y1, .int .i64 y2] 38)).cell? ⟨w1.heap.size, 1, none⟩ = some (.int .i64 y2) := ⟨by rw [World.cell?_alloc_at _ _ _ _ rfl]; rfl, by rw [World.cell?_alloc_at _ _ _ _ rfl]; rfl⟩
  have a0 := ((below_new w1 (.cells #[.int .i64 y1, .int .i64 y2] 38)).cell (p := ⟨W.heap.size, 0, none⟩) (by show W.heap.size < _; omega)).trans c0
  have a1 := ((below_new w1 (.cells #[.int .i64 y1, .int .i64 y2] 38)).cell (p := ⟨W.heap.size, 1, none⟩) (by show W.heap.size < _; omega)).trans c1
  rw [hs1] at b0 b1
  clear c0 c1 hs1
  obtain ⟨w2, H2⟩ : ∃ v, Hid (w1.alloc (.cells #[.int .i64 y1, .int .i64 y2] 38) = v) := ⟨_, rfl⟩
  rw [H2.out] at a0 a1 b0 b1
  go_enter Try.func62, Try.ntmps62
  go_upto_region 1 with fail
  rw [H1.out, H2.out]
  go_region_held3 (fun w' => w'.cell? ⟨W.heap.size, 0, none⟩ = some (.int .i64 x1) ∧ w'.cell? ⟨W.heap.size, 1, none⟩ = some (.int .i64 x2) ∧ w'.cell? ⟨W.heap.size + 1, 0, none⟩ = some (.int .i64 y1) ∧ w'.cell? ⟨W.heap.size + 1, 1, none⟩ = some (.int .i64 y2))
    (go_keep)
    (first
      | (go_at_call 50; refine (hc _ _ _).mono ?_; rintro e w' ⟨rfl, rfl⟩)
      | (go_at_call 78; refine (ho _ _ ?_ ?_).mono ?_; (show (w2.alloc _).cell? _ = _; rw [World.cell?_alloc_at _ _ _ _ rfl]; rfl); (show (w2.alloc _).cell? _ = _; rw [World.cell?_alloc_at _ _ _ _ rfl]; rfl); rintro e w' ⟨rfl, rfl⟩))
  all_goals
    go_wp2
    go_ret
    refine ⟨rfl, 1, #[.cells #[.int .i64 x1, .int .i64 x2] 38, .cells #[.int .i64 y1, .int .i64 y2] 38, .cells #[.int .i64 (cmpN x1 y1), .int .i64 (cmpN x2 y2)] 3], ?_⟩
    rw [← H2.out, ← H1.out]
    show (((W.alloc _).alloc _).alloc _).drewN 1 = _
    rw [alloc_eq_grow, alloc_eq_grow, alloc_eq_grow, grow_grow, grow_grow]
    rfl

end Go.Proofs.Ytlknegihhcdhbaa
