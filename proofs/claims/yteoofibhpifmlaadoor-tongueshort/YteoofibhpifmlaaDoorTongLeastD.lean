/- Package tongue as it landed: leastTo. -/
import Derived.Test.YteoofibhpifmlaaDoorTongLeast
import Derived.Test.YteoofibhpifmlaaDoorTongUnseen2
import Derived.Test.YteoofibhpifmlaaDoorRowAt
import Derived.Test.YteoofibhpifmlaaDoorMarkAll
namespace Go.Proofs.YteoofibhpifmlaaDoor
open Go.RowKit Go.Shelf
set_option linter.unusedVariables false
set_option linter.unusedSimpArgs false
set_option maxRecDepth 4000

/-- A row of numbers. -/
structure IntRow (w : World) (B n : Nat) (f : Nat → Int) : Prop where
  cells : ∀ j, j < n → w.cell? ⟨B, j, none⟩ = some (.int .i64 (f j))
  frozen : ∀ j, j < n → w.frozen? ⟨B, j, none⟩ = false
  lt : B < w.heap.size
theorem IntRow.put {w : World} {B n k : Nat} {f g : Nat → Int} (h : IntRow w B n f) (hk : k < n) {x : Int} (hx : g k = x) (hg : ∀ j, j < n → j ≠ k → g j = f j) : IntRow (w.setCell ⟨B, k, none⟩ (.int .i64 x)) B n g := by
  refine ⟨fun j hj => ?_, fun j hj => by rw [World.frozen?_setCell]; exact h.frozen j hj, by simpa [World.setCell] using h.lt⟩
  by_cases e : j = k
  · subst e
    rw [World.cell?_setCell_same _ _ _ (h.cells j hj), hx]
  · rw [World.cell?_setCell_other _ _ _ _ (by intro q; apply e; injection q with _ q2; exact q2.symm), h.cells j hj, hg j hj e]
theorem IntRow.keep {w w' : World} {B n : Nat} {f : Nat → Int} (h : IntRow w B n f) (hs : w.heap.size ≤ w'.heap.size) (hb : w'.heap[B]? = w.heap[B]?) : IntRow w' B n f := by
  refine ⟨fun j hj => ?_, fun j hj => ?_, Nat.lt_of_lt_of_le h.lt hs⟩
  · have := h.cells j hj; simp only [World.cell?] at this ⊢; rw [hb]; exact this
  · have := h.frozen j hj; simp only [World.frozen?] at this ⊢; rw [hb]; exact this
theorem IntRow.same {w : World} {B n : Nat} {f g : Nat → Int} (h : IntRow w B n f) (hg : ∀ j, j < n → g j = f j) : IntRow w B n g := ⟨fun j hj => by rw [hg j hj]; exact h.cells j hj, h.frozen, h.lt⟩

/-- The numbers in memory, and what else the change of an arc reads. -/
structure LeastJ (w : World) (Bl b7 b5 Bn N : Nat) (f : Nat → Int) (W : World) : Prop where
  row : IntRow W Bl N f
  box7 : W.heap[b7]? = some (.cells #[.slice (some ⟨Bl, 0, none⟩) N N] 25 (0, 0))
  box5 : W.heap[b5]? = some (.cells #[.func (.func 31) #[] #[.pointer (some ⟨Bn, 0, none⟩)]] 79 (0, 0))
  below : Below w.heap.size w W
theorem LeastJ.to {w : World} {Bl b7 b5 Bn N : Nat} {f : Nat → Int} {W W' : World} (h : LeastJ w Bl b7 b5 Bn N f W) {B : Nat} (hb : Below B W W') (h1 : w.heap.size ≤ B) (h2 : Bl < B) (h3 : b7 < B) (h4 : b5 < B) : LeastJ w Bl b7 b5 Bn N f W' :=
  ⟨h.row.keep hb.size (hb.block Bl h2), (hb.block b7 h3).trans h.box7, (hb.block b5 h4).trans h.box5, h.below.trans (hb.mono h1)⟩

set_option maxRecDepth 100000 in
set_option maxHeartbeats 4000000 in
theorem least_step (n : NetL) (tv : Value) (s : SpaceL) (E : List Int) (N : Nat) (hNs : s.marks.length = N) (hN : N ≤ 300) (w : World) (Bl b7 b5 Bn ws : Nat) (hL : LabAt w Bn n tv) (hBl : w.heap.size ≤ Bl ∧ Bl < ws) (hb7 : w.heap.size ≤ b7 ∧ b7 < ws) (hb5 : w.heap.size ≤ b5 ∧ b5 < ws) (hne7 : b7 ≠ Bl) (hne5 : b5 ≠ Bl)
    (f : Nat → Int) (W : World) (x k y : Nat) (ha : (⟨x, k, y⟩ : ArcL) ∈ s.arcs) (hx : x < N) (hy : y < N) (hk : k < n.trans.length) (hlb : 0 ≤ labT n k) (hJ : LeastJ w Bl b7 b5 Bn N f W) (hF : LeastOk n s E f) (hws : ws ≤ W.heap.size) :
    Calls Tryd.prog 59 #[.agg #[.int .i64 (x : Int), .int .i64 (k : Int), .int .i64 (y : Int)], .pointer (some ⟨b7, 0, none⟩), .pointer (some ⟨b5, 0, none⟩)] W fun e W' =>
      ∃ f' b, e = .returned (.bool b) ∧ (LeastJ w Bl b7 b5 Bn N f' W' ∧ LeastOk n s E f') ∧ (b = true → sumI N f' < sumI N f) ∧ (b = false → f' = f ∧ LeastShut n f ((x : Int), (k : Int), (y : Int))) ∧ Newer ws W W' := by
  have hA1 := heap_alloc_at W (.cells #[.int .i64 (x : Int), .int .i64 (k : Int), .int .i64 (y : Int)] 63)
  have b1 := below_new W (.cells #[.int .i64 (x : Int), .int .i64 (k : Int), .int .i64 (y : Int)] 63)
  have hs1 : (W.alloc (.cells #[.int .i64 (x : Int), .int .i64 (k : Int), .int .i64 (y : Int)] 63)).heap.size = W.heap.size + 1 := by simp
  obtain ⟨w1, Hw1⟩ : ∃ w1, Hid (W.alloc (.cells #[.int .i64 (x : Int), .int .i64 (k : Int), .int .i64 (y : Int)] 63) = w1) := ⟨_, rfl⟩
  rw [Hw1.out] at hA1 b1 hs1
  have hJ1 : LeastJ w Bl b7 b5 Bn N f w1 := hJ.to b1 hJ.below.size (by omega) (by omega) (by omega)
  have px := hF.pos x (by omega)
  have py := hF.pos y (by omega)
  have hcp := cost_pos hlb
  obtain ⟨c, Hc⟩ : ∃ c, Hid (costL (labT n k) = c) := ⟨_, rfl⟩
  have hc1 : (if (1 : Int) < labT n k then 1 else labT n k) = c := Hc.out
  rw [Hc.out] at hcp
  obtain ⟨t, Ht⟩ : ∃ t, Hid ((if f y + c < f x then f y + c else f x) = t) := ⟨_, rfl⟩
  have ht1 := Ht.out
  have hst : stepI n f ⟨x, k, y⟩ = t := by unfold stepI; rw [← Ht.out, ← Hc.out]
  have htx : t ≤ f x ∧ 0 ≤ t := by rw [← Ht.out]; split <;> omega
  obtain ⟨c7, _⟩ := box_cell hJ1.box7
  obtain ⟨c5, _⟩ := box_cell hJ1.box5
  obtain ⟨z0, z1, z2⟩ := arc_cells hA1
  have rx := hJ1.row.cells x hx
  have ry := hJ1.row.cells y hy
  have Hall : Hid (∀ w' : World, Below w1.heap.size w1 w' → (fun w' => w'.cell? ⟨b7, 0, none⟩ = some (.slice (some ⟨Bl, 0, none⟩) N N) ∧ w'.cell? ⟨b5, 0, none⟩ = some (.func (.func 31) #[] #[.pointer (some ⟨Bn, 0, none⟩)]) ∧ w'.cell? ⟨W.heap.size, 0, none⟩ = some (.int .i64 (x : Int)) ∧ w'.cell? ⟨W.heap.size, 1, none⟩ = some (.int .i64 (k : Int)) ∧ w'.cell? ⟨W.heap.size, 2, none⟩ = some (.int .i64 (y : Int)) ∧ w'.cell? ⟨Bl, y, none⟩ = some (.int .i64 (f y))) w') := fun w' hb => by
    obtain ⟨g0, g1, g2⟩ := arc_cells ((hb.block _ (Array.getElem?_eq_some_iff.1 hA1).1).trans hA1)
    exact ⟨(hb.cell (p := ⟨b7, 0, none⟩) (cell_lt0 c7)).trans c7, (hb.cell (p := ⟨b5, 0, none⟩) (cell_lt0 c5)).trans c5, g0, g1, g2, (hb.cell (p := ⟨Bl, y, none⟩) hJ1.row.lt).trans ry⟩
  have Hcp : Hid _ := hcp
  have Hst : Hid _ := hst
  have Htx : Hid _ := htx
  have hwrap : IntKind.i64.wrap (f y + c) = f y + c := by rw [IntKind.wrap_i64]; omega
  clear ht1 hst hcp htx
  go_enter Tryd.func59, Tryd.ntmps59
  go_upto_region 1 with fail
  rw [Hw1.out]
  clear Hw1
  go_upto_region 2 with fail
  clear c7 c5 z0 z1 z2 rx ry
  have eg := enters_of Tryd.func31 (by kernel_rfl) rfl
  refine wp_region_held_drew (S := (fun w' => w'.cell? ⟨b7, 0, none⟩ = some (.slice (some ⟨Bl, 0, none⟩) N N) ∧ w'.cell? ⟨b5, 0, none⟩ = some (.func (.func 31) #[] #[.pointer (some ⟨Bn, 0, none⟩)]) ∧ w'.cell? ⟨W.heap.size, 0, none⟩ = some (.int .i64 (x : Int)) ∧ w'.cell? ⟨W.heap.size, 1, none⟩ = some (.int .i64 (k : Int)) ∧ w'.cell? ⟨W.heap.size, 2, none⟩ = some (.int .i64 (y : Int)) ∧ w'.cell? ⟨Bl, y, none⟩ = some (.int .i64 (f y)))) (by kernel_rfl) (Hall.out _ (Below.refl _ _).drew) (fun hH => ?_)
  refine wpAnyH_take (i := 0) (v := .slice (some ⟨Bl, 0, none⟩) N N) rfl (by kernel_rfl) (by kernel_rfl) (by kernel_rfl) (fun _ _ _ h => h) (.inl ⟨by rfl, fun w' hS' => by obtain ⟨s7, s5, sa0, sa1, sa2, sy⟩ := hS'; go_simp⟩) hH ?_
  simp only [List.getElem_toArray, List.getElem_cons_succ, List.getElem_cons_zero, Act.put, List.setIfInBounds_toArray, List.set_cons_zero, List.set_cons_succ]
  refine wpAnyH_take (i := 1) (v := .pointer (some ⟨W.heap.size, 0, none⟩)) rfl (by kernel_rfl) (by kernel_rfl) (by kernel_rfl) (fun _ _ _ h => h) (.inl ⟨by rfl, fun w' hS' => by first | (go_simp; done) | (go_simp; rfl) | (go_simp; intro h; omega)⟩) hH ?_
  simp only [List.getElem_toArray, List.getElem_cons_succ, List.getElem_cons_zero, Act.put, List.setIfInBounds_toArray, List.set_cons_zero, List.set_cons_succ]
  refine wpAnyH_take (i := 2) (v := .int .i64 (x : Int)) rfl (by kernel_rfl) (by kernel_rfl) (by kernel_rfl) (fun _ _ _ h => h) (.inl ⟨by rfl, fun w' hS' => by obtain ⟨s7, s5, sa0, sa1, sa2, sy⟩ := hS'; go_simp⟩) hH ?_
  simp only [List.getElem_toArray, List.getElem_cons_succ, List.getElem_cons_zero, Act.put, List.setIfInBounds_toArray, List.set_cons_zero, List.set_cons_succ]
  refine wpAnyH_take (i := 3) rfl (by kernel_rfl) (by kernel_rfl) (by kernel_rfl) (fun _ _ _ h => h) (.inl ⟨by rfl, fun _ _ => rfl⟩) hH ?_
  simp only [List.getElem_toArray, List.getElem_cons_succ, List.getElem_cons_zero, Act.put, List.setIfInBounds_toArray, List.set_cons_zero, List.set_cons_succ]
  refine wpAnyH_take (i := 4) (v := .slice (some ⟨Bl, 0, none⟩) N N) rfl (by kernel_rfl) (by kernel_rfl) (by kernel_rfl) (fun _ _ _ h => h) (.inl ⟨by rfl, fun w' hS' => by obtain ⟨s7, s5, sa0, sa1, sa2, sy⟩ := hS'; go_simp⟩) hH ?_
  simp only [List.getElem_toArray, List.getElem_cons_succ, List.getElem_cons_zero, Act.put, List.setIfInBounds_toArray, List.set_cons_zero, List.set_cons_succ]
  refine wpAnyH_take (i := 5) (v := .pointer (some ⟨W.heap.size, 2, none⟩)) rfl (by kernel_rfl) (by kernel_rfl) (by kernel_rfl) (fun _ _ _ h => h) (.inl ⟨by rfl, fun w' hS' => by first | (go_simp; done) | (go_simp; rfl) | (go_simp; intro h; omega)⟩) hH ?_
  simp only [List.getElem_toArray, List.getElem_cons_succ, List.getElem_cons_zero, Act.put, List.setIfInBounds_toArray, List.set_cons_zero, List.set_cons_succ]
  refine wpAnyH_take (i := 6) (v := .int .i64 (y : Int)) rfl (by kernel_rfl) (by kernel_rfl) (by kernel_rfl) (fun _ _ _ h => h) (.inl ⟨by rfl, fun w' hS' => by obtain ⟨s7, s5, sa0, sa1, sa2, sy⟩ := hS'; go_simp⟩) hH ?_
  simp only [List.getElem_toArray, List.getElem_cons_succ, List.getElem_cons_zero, Act.put, List.setIfInBounds_toArray, List.set_cons_zero, List.set_cons_succ]
  refine wpAnyH_take (i := 7) (v := .pointer (some ⟨Bl, y, none⟩)) rfl (by kernel_rfl) (by kernel_rfl) (by kernel_rfl) (fun _ _ _ h => h) (.inl ⟨by rfl, fun w' hS' => by first | (go_simp; done) | (go_simp; rfl) | (go_simp; intro h; omega)⟩) hH ?_
  simp only [List.getElem_toArray, List.getElem_cons_succ, List.getElem_cons_zero, Act.put, List.setIfInBounds_toArray, List.set_cons_zero, List.set_cons_succ]
  refine wpAnyH_take (i := 8) (v := .int .i64 (f y)) rfl (by kernel_rfl) (by kernel_rfl) (by kernel_rfl) (fun _ _ _ h => h) (.inl ⟨by rfl, fun w' hS' => by obtain ⟨s7, s5, sa0, sa1, sa2, sy⟩ := hS'; go_simp⟩) hH ?_
  simp only [List.getElem_toArray, List.getElem_cons_succ, List.getElem_cons_zero, Act.put, List.setIfInBounds_toArray, List.set_cons_zero, List.set_cons_succ]
  refine wpAnyH_take (i := 9) (v := .func (.func 31) #[] #[.pointer (some ⟨Bn, 0, none⟩)]) rfl (by kernel_rfl) (by kernel_rfl) (by kernel_rfl) (fun _ _ _ h => h) (.inl ⟨by rfl, fun w' hS' => by obtain ⟨s7, s5, sa0, sa1, sa2, sy⟩ := hS'; go_simp⟩) hH ?_
  simp only [List.getElem_toArray, List.getElem_cons_succ, List.getElem_cons_zero, Act.put, List.setIfInBounds_toArray, List.set_cons_zero, List.set_cons_succ]
  refine wpAnyH_take (i := 10) (v := .agg #[.int .i64 (x : Int), .int .i64 (k : Int), .int .i64 (y : Int)]) rfl (by kernel_rfl) (by kernel_rfl) (by kernel_rfl) (fun _ _ _ h => h) (.inl ⟨by rfl, fun w' hS' => by obtain ⟨s7, s5, sa0, sa1, sa2, sy⟩ := hS'; go_simp⟩) hH ?_
  simp only [List.getElem_toArray, List.getElem_cons_succ, List.getElem_cons_zero, Act.put, List.setIfInBounds_toArray, List.set_cons_zero, List.set_cons_succ]
  refine wpAnyH_ready (rs := [11]) (by kernel_rfl) (by simp) ?_
  refine AllReadyH.cons rfl (fun K hK => ?_) AllReadyH.nil
  simp only [List.getElem_toArray, List.getElem_cons_succ, List.getElem_cons_zero]
  rw [if_pos (by rfl)]
  go_wp2_with fail
  refine (label_any Bn n tv (x : Int) (y : Int) k _ (by exact (hL.below hJ1.below).below ((Below.refl _ _).drew)) hk).mono ?_
  rintro e w3 ⟨rfl, rfl⟩
  have bn3 : Below w1.heap.size w1 (w1.drew.alloc (.cells #[.int .i64 (x : Int), .int .i64 (k : Int), .int .i64 (y : Int)] 63)) := (Below.refl w1.heap.size w1).drew.trans (below_new w1.drew _)
  obtain ⟨w3, Hw3⟩ : ∃ w3, Hid (w1.drew.alloc (.cells #[.int .i64 (x : Int), .int .i64 (k : Int), .int .i64 (y : Int)] 63) = w3) := ⟨_, rfl⟩
  rw [Hw3.out] at bn3
  have hJ3 : LeastJ w Bl b7 b5 Bn N f w3 := hJ1.to bn3 hJ1.below.size hJ1.row.lt (by omega) (by omega)
  have hA3 := (bn3.block _ (by omega)).trans hA1
  rw [Hw3.out]
  refine hK.out _ _ (Hall.out w3 bn3) (fun hH => ?_)
  refine wpAnyH_take (i := 12) (v := .int .i64 c) rfl (by kernel_rfl) (by kernel_rfl) (by kernel_rfl) (fun _ _ _ h => h) (.inl ⟨by rfl, fun w' hS' => by first | (go_simp; done) | (go_simp; rfl) | (go_simp; intro h; omega)⟩) hH ?_
  simp only [List.getElem_toArray, List.getElem_cons_succ, List.getElem_cons_zero, Act.put, List.setIfInBounds_toArray, List.set_cons_zero, List.set_cons_succ]
  refine wpAnyH_take (i := 13) (v := .int .i64 (f y + c)) rfl (by kernel_rfl) (by kernel_rfl) (by kernel_rfl) (fun _ _ _ h => h) (.inl ⟨by rfl, fun w' hS' => by first | (go_simp; done) | (go_simp; rfl) | (go_simp; intro h; omega)⟩) hH ?_
  simp only [List.getElem_toArray, List.getElem_cons_succ, List.getElem_cons_zero, Act.put, List.setIfInBounds_toArray, List.set_cons_zero, List.set_cons_succ]
  have ht1 := Ht.out
  refine wpAnyH_take (i := 14) (v := .int .i64 t) rfl (by kernel_rfl) (by kernel_rfl) (by kernel_rfl) (fun _ _ _ h => h) (.inl ⟨by rfl, fun w' hS' => by first | (go_simp; done) | (go_simp; rfl) | (go_simp; intro h; omega)⟩) hH ?_
  simp only [List.getElem_toArray, List.getElem_cons_succ, List.getElem_cons_zero, Act.put, List.setIfInBounds_toArray, List.set_cons_zero, List.set_cons_succ]
  refine wpAnyH_take (i := 15) (v := .pointer (some ⟨Bl, x, none⟩)) rfl (by kernel_rfl) (by kernel_rfl) (by kernel_rfl) (fun _ _ _ h => h) (.inl ⟨by rfl, fun w' hS' => by first | (go_simp; done) | (go_simp; rfl) | (go_simp; intro h; omega)⟩) hH ?_
  simp only [List.getElem_toArray, List.getElem_cons_succ, List.getElem_cons_zero, Act.put, List.setIfInBounds_toArray, List.set_cons_zero, List.set_cons_succ]
  clear ht1
  have o0 := hJ3.row.cells x hx
  have f0 := hJ3.row.frozen x hx
  refine wpAnyH_ready (rs := [16]) (by kernel_rfl) (by simp) ?_
  refine AllReadyH.cons rfl (fun K hK => ?_) AllReadyH.nil
  simp only [List.getElem_toArray, List.getElem_cons_succ, List.getElem_cons_zero]
  rw [if_pos (by rfl)]
  go_wp2_with fail
  have hR5 : IntRow (w3.setCell ⟨Bl, x, none⟩ (.int .i64 t)) Bl N (updI f x t) := hJ3.row.put hx (updI_same f x t) (fun j hj hne => updI_other f t hne)
  have hB5 : Below Bl w3 (w3.setCell ⟨Bl, x, none⟩ (.int .i64 t)) := (Below.refl _ _).setCell (p := ⟨Bl, x, none⟩) (Nat.le_refl _) _
  have ho5 : ∀ i, i ≠ Bl → (w3.setCell ⟨Bl, x, none⟩ (.int .i64 t)).heap[i]? = w3.heap[i]? := fun i hi => Below.heap_setCell _ _ _ _ (by exact hi)
  have hz5 : (w3.setCell ⟨Bl, x, none⟩ (.int .i64 t)).heap.size = w3.heap.size := by simp [World.setCell]
  obtain ⟨W5, HW5⟩ : ∃ W5, Hid (w3.setCell ⟨Bl, x, none⟩ (.int .i64 t) = W5) := ⟨_, rfl⟩
  rw [HW5.out] at hR5 hB5 ho5 hz5 ⊢
  have hA5 := (ho5 W.heap.size (by omega)).trans hA3
  have hJ5 : LeastJ w Bl b7 b5 Bn N (updI f x t) W5 := ⟨hR5, (ho5 _ hne7).trans hJ3.box7, (ho5 _ hne5).trans hJ3.box5, hJ3.below.trans (hB5.mono (by omega))⟩
  have hcy : W5.cell? ⟨Bl, y, none⟩ = some (.int .i64 (f y)) := by
    rw [hR5.cells y hy]
    by_cases e : y = x
    · subst e
      rw [updI_same]
      have := Ht.out
      have := Hcp.out
      rw [if_neg (by omega)] at Ht
      rw [Ht.out]
    · rw [updI_other _ _ e]
  obtain ⟨z0, z1, z2⟩ := arc_cells hA5
  obtain ⟨c7, _⟩ := box_cell hJ5.box7
  obtain ⟨c5, _⟩ := box_cell hJ5.box5
  refine hK.out _ _ ⟨c7, c5, z0, z1, z2, hcy⟩ (fun hH => ?_)
  refine wpAnyH_done (by kernel_rfl) ?_ _
  have rx : W5.cell? ⟨Bl, x, none⟩ = some (.int .i64 t) := by rw [hR5.cells x hx, updI_same]
  have hN5 : Newer ws W W5 := ⟨by rw [hz5]; have := bn3.size; omega, fun i h1 h2 => by rw [ho5 i (by omega), bn3.block i (by omega), b1.block i h2]⟩
  have hF5 : LeastOk n s E (updI f x t) := by rw [← Hst.out]; exact hF.step ha (by rw [hNs]; exact hx) (by rw [hNs]; exact hy) hlb
  have Hres : Hid (∀ b : Bool, b = (t != f x) → ∃ f' b', Ending.returned (.bool b) = .returned (.bool b') ∧ (LeastJ w Bl b7 b5 Bn N f' W5 ∧ LeastOk n s E f') ∧ (b' = true → sumI N f' < sumI N f) ∧ (b' = false → f' = f ∧ LeastShut n f ((x : Int), (k : Int), (y : Int))) ∧ Newer ws W W5) := by
    intro b hb
    subst hb
    cases he : (t != f x)
    · have hte : t = f x := by simpa using he
      have hsame : ∀ j, j < N → f j = updI f x t j := fun j hj => by
        by_cases e : j = x
        · subst e; rw [updI_same, hte]
        · rw [updI_other _ _ e]
      refine ⟨f, false, rfl, ⟨⟨hJ5.row.same hsame, hJ5.box7, hJ5.box5, hJ5.below⟩, hF⟩, fun h => (by cases h), fun _ => ⟨rfl, ?_⟩, hN5⟩
      unfold LeastShut
      simp only [Int.toNat_natCast]
      rw [Hc.out]
      have h1 := Ht.out
      rw [hte] at h1
      split at h1 <;> omega
    · have hte : t ≠ f x := by simpa using he
      have h2 := Htx.out
      exact ⟨updI f x t, true, rfl, ⟨hJ5, hF5⟩, fun _ => sumI_less hx (by omega) h2.2, fun h => (by cases h), hN5⟩
  clear hJ3 hA3 hJ1 hA1 Hall hH o0 f0 HW5 hR5 hB5 ho5 hz5 hcy Hw3 hc1 hF5 hF eg
  go_wp2
  go_ret
  exact Hres.out _ rfl

end Go.Proofs.YteoofibhpifmlaaDoor
