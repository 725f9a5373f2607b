/- Package tongue as it landed: what is seen of an arc; unseen. -/
import Derived.Deep.RegionHeld3
import Derived.Test.YteoofibhpifmlaaDoorTongFar
import Derived.Test.YteoofibhpifmlaaDoorTongSettle
import Derived.Test.YteoofibhpifmlaaDoorNetDevAll
namespace Go.Proofs.YteoofibhpifmlaaDoor
open Go.RowKit Go.Shelf
set_option linter.unusedVariables false
set_option linter.unusedSimpArgs false
set_option maxRecDepth 4000

/-- A net's box, for the label of an arc. -/
structure LabAt (w : World) (Bn : Nat) (n : NetL) (tv : Value) : Prop where
  box : Box2 w Bn (.int .i64 n.places) tv
  trans : Trans w tv n.trans
theorem LabAt.below {w w' : World} {Bn : Nat} {n : NetL} {tv : Value} (h : LabAt w Bn n tv) (hb : Below w.heap.size w w') : LabAt w' Bn n tv := ⟨h.box.below hb, h.trans.below hb⟩

set_option maxHeartbeats 1000000 in
theorem label_any (Bn : Nat) (n : NetL) (tv : Value) (x1 x3 : Int) (k : Nat) (w : World) (h : LabAt w Bn n tv) (hk : k < n.trans.length) :
    Calls Tryd.prog 31 #[.agg #[.int .i64 x1, .int .i64 (k : Int), .int .i64 x3], .pointer (some ⟨Bn, 0, none⟩)] w fun e w' => e = .returned (.int .i64 (labT n k)) ∧ w' = w.alloc (.cells #[.int .i64 x1, .int .i64 (k : Int), .int .i64 x3] 63) := by
  obtain ⟨⟨hlt, c0, c1⟩, hT⟩ := h
  obtain ⟨a, len, cap, rfl, hl, hm, _, hr⟩ := id hT
  obtain ⟨b, off, d1, d2, rfl, hb, e0, e1, e2, _⟩ := hT.at (k := k) (by omega)
  have bn := below_new w (.cells #[.int .i64 x1, .int .i64 (k : Int), .int .i64 x3] 63)
  have c1' := (bn.cell (p := ⟨Bn, 1, none⟩) hlt).trans c1
  have e0' := (bn.cell (p := ⟨b, off + k * 3, none⟩) hb).trans e0
  clear hr hT c0 c1 e0 e1 e2
  go_enter Tryd.func31, Tryd.ntmps31
  go_wp2
  go_ret
  exact ⟨rfl, rfl⟩

/-- The sets in memory, and what else the change of an arc reads. -/
structure FarJ (w : World) (Bf b5 b3 Bn N : Nat) (f : Nat → SetL) (W : World) : Prop where
  row : SetRow W Bf N f
  box5 : W.heap[b5]? = some (.cells #[.slice (some ⟨Bf, 0, none⟩) N N] 80 (0, 0))
  box3 : W.heap[b3]? = some (.cells #[.func (.func 31) #[] #[.pointer (some ⟨Bn, 0, none⟩)]] 79 (0, 0))
  below : Below w.heap.size w W
theorem FarJ.to {w : World} {Bf b5 b3 Bn N : Nat} {f : Nat → SetL} {W W' : World} (h : FarJ w Bf b5 b3 Bn N f W) {B : Nat} (hb : Below B W W') (h1 : w.heap.size ≤ B) (h2 : Bf < B) (h3 : b5 < B) (h4 : b3 < B) : FarJ w Bf b5 b3 Bn N f W' :=
  ⟨h.row.keep hb.size (hb.block Bf h2), (hb.block b5 h3).trans h.box5, (hb.block b3 h4).trans h.box3, h.below.trans (hb.mono h1)⟩

theorem boxesU (W : World) (x k y : Int) (s : SetL) : ∃ w2, Hid ((W.alloc (.cells #[.int .i64 x, .int .i64 k, .int .i64 y] 63)).alloc (.cells #[.int .u64 (s.at_ 0 : Nat), .int .u64 (s.at_ 1 : Nat), .int .u64 (s.at_ 2 : Nat), .int .u64 (s.at_ 3 : Nat), .int .u64 (s.at_ 4 : Nat)] 48) = w2) ∧ Below W.heap.size W w2 ∧ w2.heap.size = W.heap.size + 2 ∧
    w2.heap[W.heap.size]? = some (.cells #[.int .i64 x, .int .i64 k, .int .i64 y] 63 (0, 0)) ∧ SetAt w2 (W.heap.size + 1) s := by
  have b1 := below_new W (.cells #[.int .i64 x, .int .i64 k, .int .i64 y] 63)
  have b2 := below_new (W.alloc (.cells #[.int .i64 x, .int .i64 k, .int .i64 y] 63)) (.cells (setC s) 48)
  have e : (W.alloc (.cells #[.int .i64 x, .int .i64 k, .int .i64 y] 63)).heap.size = W.heap.size + 1 := by simp
  have a := setAt_new (W.alloc (.cells #[.int .i64 x, .int .i64 k, .int .i64 y] 63)) s
  rw [e] at a
  exact ⟨_, rfl, below_then b1 b2, by simp, (b2.block _ (by omega)).trans (heap_alloc_at _ _), a⟩
theorem arc_cells {w : World} {b : Nat} {x k y : Int} (h : w.heap[b]? = some (.cells #[.int .i64 x, .int .i64 k, .int .i64 y] 63 (0, 0))) : w.cell? ⟨b, 0, none⟩ = some (.int .i64 x) ∧ w.cell? ⟨b, 1, none⟩ = some (.int .i64 k) ∧ w.cell? ⟨b, 2, none⟩ = some (.int .i64 y) := by
  refine ⟨?_, ?_, ?_⟩ <;> simp [World.cell?, h]

set_option maxRecDepth 100000 in
set_option maxHeartbeats 4000000 in
theorem far_step (n : NetL) (tv : Value) (A : List ArcL) (N : Nat) (hN : N ≤ 300) (w : World) (Bf b5 b3 Bn ws : Nat) (hL : LabAt w Bn n tv) (hBf : w.heap.size ≤ Bf ∧ Bf < ws) (hb5 : w.heap.size ≤ b5 ∧ b5 < ws) (hb3 : w.heap.size ≤ b3 ∧ b3 < ws) (hne5 : b5 ≠ Bf) (hne3 : b3 ≠ Bf)
    (f : Nat → SetL) (W : World) (x k y : Nat) (ha : (⟨x, k, y⟩ : ArcL) ∈ A) (hx : x < N) (hy : y < N) (hk : k < n.trans.length) (hJ : FarJ w Bf b5 b3 Bn N f W) (hF : FarOk A (labT n) N f) (hws : ws ≤ W.heap.size) :
    Calls Tryd.prog 57 #[.agg #[.int .i64 (x : Int), .int .i64 (k : Int), .int .i64 (y : Int)], .pointer (some ⟨b5, 0, none⟩), .pointer (some ⟨b3, 0, none⟩)] W fun e W' =>
      ∃ f' b, e = .returned (.bool b) ∧ (FarJ w Bf b5 b3 Bn N f' W' ∧ FarOk A (labT n) N f') ∧ (b = true → lackM N f' < lackM N f) ∧ (b = false → f' = f ∧ FarShut (labT n) f ((x : Int), (k : Int), (y : Int))) ∧ Newer ws W W' := by
  obtain ⟨w2, Hw2, b2, hs2, hA2, hS2⟩ := boxesU W (x : Int) (k : Int) (y : Int) (f x)
  obtain ⟨c5, _⟩ := box_cell hJ.box5
  obtain ⟨_, r0, r1, r2, r3, r4⟩ := hJ.row.c hx
  have bn := below_new W (.cells #[.int .i64 (x : Int), .int .i64 (k : Int), .int .i64 (y : Int)] 63)
  have c5' := (bn.cell (p := ⟨b5, 0, none⟩) (cell_lt0 c5)).trans c5
  have r0' := (bn.cell (p := ⟨Bf, _, none⟩) hJ.row.lt).trans r0
  have r1' := (bn.cell (p := ⟨Bf, _, none⟩) hJ.row.lt).trans r1
  have r2' := (bn.cell (p := ⟨Bf, _, none⟩) hJ.row.lt).trans r2
  have r3' := (bn.cell (p := ⟨Bf, _, none⟩) hJ.row.lt).trans r3
  have r4' := (bn.cell (p := ⟨Bf, _, none⟩) hJ.row.lt).trans r4
  have hJ2 : FarJ w Bf b5 b3 Bn N f w2 := hJ.to b2 hJ.below.size (by omega) (by omega) (by omega)
  clear c5 r0 r1 r2 r3 r4 bn
  go_enter Tryd.func57, Tryd.ntmps57
  go_upto_region 2 with fail
  rw [Hw2.out]
  clear c5' r0' r1' r2' r3' r4' Hw2
  obtain ⟨z0, z1, z2⟩ := arc_cells hA2
  obtain ⟨c3, _⟩ := box_cell hJ2.box3
  have eg := enters_of Tryd.func31 (by kernel_rfl) rfl
  go_wp2_with fail
  refine (label_any Bn n tv (x : Int) (y : Int) k w2 (by exact (hL.below hJ2.below)) hk).mono ?_
  rintro e w3 ⟨rfl, rfl⟩
  have bn3 := below_new w2 (.cells #[.int .i64 (x : Int), .int .i64 (k : Int), .int .i64 (y : Int)] 63)
  obtain ⟨w3, Hw3⟩ : ∃ w3, Hid (w2.alloc (.cells #[.int .i64 (x : Int), .int .i64 (k : Int), .int .i64 (y : Int)] 63) = w3) := ⟨_, rfl⟩
  rw [Hw3.out] at bn3
  have hJ3 : FarJ w Bf b5 b3 Bn N f w3 := hJ2.to bn3 hJ2.below.size (by omega) (by omega) (by omega)
  have hA3 := (bn3.block _ (by omega)).trans hA2
  have hS3 := hS2.below bn3
  have hB3 : Below W.heap.size W w3 := below_then b2 bn3
  clear z0 z1 z2 c3 eg hJ2 hA2 hS2
  by_cases h0 : labT n k = 0
  · have h0' : (labT n k == 0) = true := by simpa using h0
    obtain ⟨c5, _⟩ := box_cell hJ3.box5
    obtain ⟨y0, y1, y2⟩ := arc_cells hA3
    obtain ⟨_, v0, v1, v2, v3, v4⟩ := hS3.c
    simp only [Nat.zero_add] at v1 v2 v3 v4
    have Hall : Hid (∀ w' : World, Below w3.heap.size w3 w' → (fun w' => w'.cell? ⟨b5, 0, none⟩ = some (.slice (some ⟨Bf, 0, none⟩) N N) ∧ w'.cell? ⟨W.heap.size, 0, none⟩ = some (.int .i64 (x : Int)) ∧ w'.cell? ⟨W.heap.size, 2, none⟩ = some (.int .i64 (y : Int)) ∧ w'.cell? ⟨W.heap.size + 1, 0, none⟩ = some (.int .u64 ((f x).at_ 0 : Nat)) ∧ w'.cell? ⟨W.heap.size + 1, 1, none⟩ = some (.int .u64 ((f x).at_ 1 : Nat)) ∧ w'.cell? ⟨W.heap.size + 1, 2, none⟩ = some (.int .u64 ((f x).at_ 2 : Nat)) ∧ w'.cell? ⟨W.heap.size + 1, 3, none⟩ = some (.int .u64 ((f x).at_ 3 : Nat)) ∧ w'.cell? ⟨W.heap.size + 1, 4, none⟩ = some (.int .u64 ((f x).at_ 4 : Nat))) w') := fun w' hb => by
      obtain ⟨g0, g1, g2⟩ := arc_cells ((hb.block _ (Array.getElem?_eq_some_iff.1 hA3).1).trans hA3)
      obtain ⟨_, u0, u1, u2, u3, u4⟩ := (hS3.below hb).c
      simp only [Nat.zero_add] at u1 u2 u3 u4
      exact ⟨(hb.cell (p := ⟨b5, 0, none⟩) (cell_lt0 c5)).trans c5, g0, g2, u0, u1, u2, u3, u4⟩
    go_upto_region 3 with fail
    rw [Hw3.out]
    refine wp_region_held_drew (S := (fun w' => w'.cell? ⟨b5, 0, none⟩ = some (.slice (some ⟨Bf, 0, none⟩) N N) ∧ w'.cell? ⟨W.heap.size, 0, none⟩ = some (.int .i64 (x : Int)) ∧ w'.cell? ⟨W.heap.size, 2, none⟩ = some (.int .i64 (y : Int)) ∧ w'.cell? ⟨W.heap.size + 1, 0, none⟩ = some (.int .u64 ((f x).at_ 0 : Nat)) ∧ w'.cell? ⟨W.heap.size + 1, 1, none⟩ = some (.int .u64 ((f x).at_ 1 : Nat)) ∧ w'.cell? ⟨W.heap.size + 1, 2, none⟩ = some (.int .u64 ((f x).at_ 2 : Nat)) ∧ w'.cell? ⟨W.heap.size + 1, 3, none⟩ = some (.int .u64 ((f x).at_ 3 : Nat)) ∧ w'.cell? ⟨W.heap.size + 1, 4, none⟩ = some (.int .u64 ((f x).at_ 4 : Nat)))) (by kernel_rfl) (Hall.out _ (Below.refl _ _).drew) (fun hH => ?_)
    refine wpAnyH_take (i := 0) (v := .slice (some ⟨Bf, 0, none⟩) N N) rfl (by kernel_rfl) (by kernel_rfl) (by kernel_rfl) (fun _ _ _ h => h) (.inl ⟨by rfl, fun w' hS' => by obtain ⟨s5, sa0, sa2, q0, q1, q2, q3, q4⟩ := hS'; go_simp⟩) hH ?_
    simp only [List.getElem_toArray, List.getElem_cons_succ, List.getElem_cons_zero, Act.put, List.setIfInBounds_toArray, List.set_cons_zero, List.set_cons_succ]
    refine wpAnyH_take (i := 1) (v := .pointer (some ⟨W.heap.size, 0, none⟩)) rfl (by kernel_rfl) (by kernel_rfl) (by kernel_rfl) (fun _ _ _ h => h) (.inl ⟨by rfl, fun w' hS' => by first | (go_simp; done) | (go_simp; rfl) | (go_simp; intro h; omega)⟩) hH ?_
    simp only [List.getElem_toArray, List.getElem_cons_succ, List.getElem_cons_zero, Act.put, List.setIfInBounds_toArray, List.set_cons_zero, List.set_cons_succ]
    refine wpAnyH_take (i := 2) (v := .int .i64 (x : Int)) rfl (by kernel_rfl) (by kernel_rfl) (by kernel_rfl) (fun _ _ _ h => h) (.inl ⟨by rfl, fun w' hS' => by obtain ⟨s5, sa0, sa2, q0, q1, q2, q3, q4⟩ := hS'; go_simp⟩) hH ?_
    simp only [List.getElem_toArray, List.getElem_cons_succ, List.getElem_cons_zero, Act.put, List.setIfInBounds_toArray, List.set_cons_zero, List.set_cons_succ]
    refine wpAnyH_take (i := 3) (v := setV (f x)) rfl (by kernel_rfl) (by kernel_rfl) (by kernel_rfl) (fun _ _ _ h => h) (.inl ⟨by rfl, fun w' hS' => by obtain ⟨s5, sa0, sa2, q0, q1, q2, q3, q4⟩ := hS'; go_simp⟩) hH ?_
    simp only [List.getElem_toArray, List.getElem_cons_succ, List.getElem_cons_zero, Act.put, List.setIfInBounds_toArray, List.set_cons_zero, List.set_cons_succ]
    refine wpAnyH_take (i := 4) (v := .slice (some ⟨Bf, 0, none⟩) N N) rfl (by kernel_rfl) (by kernel_rfl) (by kernel_rfl) (fun _ _ _ h => h) (.inl ⟨by rfl, fun w' hS' => by obtain ⟨s5, sa0, sa2, q0, q1, q2, q3, q4⟩ := hS'; go_simp⟩) hH ?_
    simp only [List.getElem_toArray, List.getElem_cons_succ, List.getElem_cons_zero, Act.put, List.setIfInBounds_toArray, List.set_cons_zero, List.set_cons_succ]
    refine wpAnyH_take (i := 5) (v := .pointer (some ⟨W.heap.size, 2, none⟩)) rfl (by kernel_rfl) (by kernel_rfl) (by kernel_rfl) (fun _ _ _ h => h) (.inl ⟨by rfl, fun w' hS' => by first | (go_simp; done) | (go_simp; rfl) | (go_simp; intro h; omega)⟩) hH ?_
    simp only [List.getElem_toArray, List.getElem_cons_succ, List.getElem_cons_zero, Act.put, List.setIfInBounds_toArray, List.set_cons_zero, List.set_cons_succ]
    refine wpAnyH_take (i := 6) (v := .int .i64 (y : Int)) rfl (by kernel_rfl) (by kernel_rfl) (by kernel_rfl) (fun _ _ _ h => h) (.inl ⟨by rfl, fun w' hS' => by obtain ⟨s5, sa0, sa2, q0, q1, q2, q3, q4⟩ := hS'; go_simp⟩) hH ?_
    simp only [List.getElem_toArray, List.getElem_cons_succ, List.getElem_cons_zero, Act.put, List.setIfInBounds_toArray, List.set_cons_zero, List.set_cons_succ]
    refine wpAnyH_take (i := 7) (v := .pointer (some ⟨Bf, y * 5, none⟩)) rfl (by kernel_rfl) (by kernel_rfl) (by kernel_rfl) (fun _ _ _ h => h) (.inl ⟨by rfl, fun w' hS' => by first | (go_simp; done) | (go_simp; rfl) | (go_simp; intro h; omega)⟩) hH ?_
    simp only [List.getElem_toArray, List.getElem_cons_succ, List.getElem_cons_zero, Act.put, List.setIfInBounds_toArray, List.set_cons_zero, List.set_cons_succ]
    obtain ⟨_, p0, p1, p2, p3, p4⟩ := hJ3.row.c hy
    refine wpAnyH_ready (rs := [8]) (by kernel_rfl) (by simp) ?_
    refine AllReadyH.cons rfl (fun K hK => ?_) AllReadyH.nil
    simp only [List.getElem_toArray, List.getElem_cons_succ, List.getElem_cons_zero]
    rw [if_pos (by rfl)]
    go_wp2_with fail
    refine hK.out _ _ hH (fun hH => ?_)
    refine wpAnyH_ready (rs := [9]) (by kernel_rfl) (by simp) ?_
    refine AllReadyH.cons rfl (fun K hK => ?_) AllReadyH.nil
    simp only [List.getElem_toArray, List.getElem_cons_succ, List.getElem_cons_zero]
    rw [if_pos (by rfl)]
    go_wp2_with fail
    refine (or_any (f x) (f y) _).mono ?_
    rintro e w4 ⟨rfl, bo⟩
    have bo' : Below w3.heap.size w3 w4 := (Below.refl w3.heap.size w3).drew.trans bo
    have hJ4 : FarJ w Bf b5 b3 Bn N f w4 := hJ3.to bo' hJ3.below.size (by omega) (by omega) (by omega)
    refine hK.out _ _ (Hall.out w4 bo') (fun hH => ?_)
    refine wpAnyH_take (i := 10) (v := .pointer (some ⟨Bf, x * 5, none⟩)) rfl (by kernel_rfl) (by kernel_rfl) (by kernel_rfl) (fun _ _ _ h => h) (.inl ⟨by rfl, fun w' hS' => by first | (go_simp; done) | (go_simp; rfl) | (go_simp; intro h; omega)⟩) hH ?_
    simp only [List.getElem_toArray, List.getElem_cons_succ, List.getElem_cons_zero, Act.put, List.setIfInBounds_toArray, List.set_cons_zero, List.set_cons_succ]
    obtain ⟨_, o0, o1, o2, o3, o4⟩ := hJ4.row.c hx
    have f0 := hJ4.row.frozen (x * 5) (by omega)
    have f1 := hJ4.row.frozen (x * 5 + 1) (by omega)
    have f2 := hJ4.row.frozen (x * 5 + 2) (by omega)
    have f3 := hJ4.row.frozen (x * 5 + 3) (by omega)
    have f4 := hJ4.row.frozen (x * 5 + 4) (by omega)
    obtain ⟨W5, HW5, hR5, hB5, ho5, hz5⟩ := hJ4.row.store hx (orS (f x) (f y))
    refine wpAnyH_ready (rs := [11]) (by kernel_rfl) (by simp) ?_
    refine AllReadyH.cons rfl (fun K hK => ?_) AllReadyH.nil
    simp only [List.getElem_toArray, List.getElem_cons_succ, List.getElem_cons_zero]
    rw [if_pos (by rfl)]
    go_wp2_with fail
    rw [HW5.out]
    have hA4 := (bo'.block _ (Array.getElem?_eq_some_iff.1 hA3).1).trans hA3
    have hS4 := hS3.below bo'
    have hA5 := (ho5 _ (by omega)).trans hA4
    have hS5 : SetAt W5 (W.heap.size + 1) (f x) := (ho5 _ (by omega)).trans hS4
    have hJ5 : FarJ w Bf b5 b3 Bn N (updS f x (orS (f x) (f y))) W5 := ⟨hR5, (ho5 _ hne5).trans hJ4.box5, (ho5 _ hne3).trans hJ4.box3, hJ4.below.trans (hB5.mono (by omega))⟩
    refine hK.out _ _ ?_ (fun hH => ?_)
    · obtain ⟨g0, g1, g2⟩ := arc_cells hA5
      obtain ⟨_, u0, u1, u2, u3, u4⟩ := hS5.c
      simp only [Nat.zero_add] at u1 u2 u3 u4
      exact ⟨(box_cell hJ5.box5).1, g0, g2, u0, u1, u2, u3, u4⟩
    refine wpAnyH_done (by kernel_rfl) ?_ _
    have hN5 : Newer ws W W5 := ⟨by rw [hz5]; exact Nat.le_trans hB3.size bo'.size, fun i h1 h2 => by rw [ho5 i (by omega), bo'.block i (by have := hB3.size; omega), hB3.block i h2]⟩
    have hF5 := hF.step ha h0 hy
    have hl := lackM_less (u := f y) (f := f) hx
    obtain ⟨g, Hg⟩ : ∃ g, Hid (updS f x (orS (f x) (f y)) = g) := ⟨_, rfl⟩
    have Hgx : Hid (g x = orS (f x) (f y)) := by show _ = _; rw [← Hg.out, updS_same]
    clear hJ3 hA3 hS3 hJ4 hA4 hS4 o0 o1 o2 o3 o4 f0 f1 f2 f3 f4 p0 p1 p2 p3 p4 c5 y0 y1 y2 v0 v1 v2 v3 v4 hH HW5 Hall Hw3
    simp only [Hg.out] at hJ5 hF5 hl
    rw [← Hgx.out] at hl
    have hJ4 := hJ5
    have hA4 := hA5
    have hS4 := hS5
    obtain ⟨c5, _⟩ := box_cell hJ4.box5
    obtain ⟨_, r0, r1, r2, r3, r4⟩ := hJ4.row.c hx
    obtain ⟨y0, y1, y2⟩ := arc_cells hA4
    obtain ⟨_, v0, v1, v2, v3, v4⟩ := hS4.c
    simp only [Nat.zero_add] at v1 v2 v3 v4
    have heq : ∀ w', (Op.equalIn 10000 48 (.agg #[.int .u64 ((g x).at_ 0 : Nat), .int .u64 ((g x).at_ 1 : Nat), .int .u64 ((g x).at_ 2 : Nat), .int .u64 ((g x).at_ 3 : Nat), .int .u64 ((g x).at_ 4 : Nat)]) (.agg #[.int .u64 ((f x).at_ 0 : Nat), .int .u64 ((f x).at_ 1 : Nat), .int .u64 ((f x).at_ 2 : Nat), .int .u64 ((f x).at_ 3 : Nat), .int .u64 ((f x).at_ 4 : Nat)])).run Tryd.prog w' = .ok (eqS (g x) (f x)) w' := fun w' => equal_set w' 9998 (g x) (f x)
    go_wp2_with fail
    go_quiet (fail)
    go_wp2
    go_ret
    have bd : Below W5.heap.size W5 (W5.drewN nq) := below_drewN (Below.refl _ _) nq
    have hJ6 : FarJ w Bf b5 b3 Bn N g (W5.drewN nq) := hJ4.to bd hJ4.below.size (by omega) (by omega) (by omega)
    have hN6 : Newer ws W (W5.drewN nq) := hN5.trans (Newer.ofBelow bd)
    cases he : eqS (g x) (f x)
    · exact ⟨g, true, rfl, ⟨hJ6, hF5⟩, fun _ => hl he, fun h => (by cases h), hN6⟩
    · have hsame : SameS (g x) (f x) := (eqS_iff _ _).1 he
      have hall : ∀ m, m < N → SameS (g m) (f m) := fun m hm => by
        by_cases e : m = x
        · subst e; exact hsame
        · rw [← Hg.out, updS_other _ _ e]; exact fun _ _ => rfl
      refine ⟨f, false, rfl, ⟨⟨hJ6.row.sameS hall, hJ6.box5, hJ6.box3, hJ6.below⟩, hF⟩, fun h => (by cases h), fun _ => ⟨rfl, fun _ j hj hh => ?_⟩, hN6⟩
      simp only [Int.toNat_natCast] at hh ⊢
      rw [← hsame.has hj, Hgx.out, has_or, hh, Bool.or_true]
  · have h0' : (labT n k == 0) = false := by simpa using h0
    have hJ4 := hJ3
    have hA4 := hA3
    have hS4 := hS3
    obtain ⟨c5, _⟩ := box_cell hJ4.box5
    obtain ⟨_, r0, r1, r2, r3, r4⟩ := hJ4.row.c hx
    obtain ⟨y0, y1, y2⟩ := arc_cells hA4
    obtain ⟨_, v0, v1, v2, v3, v4⟩ := hS4.c
    simp only [Nat.zero_add] at v1 v2 v3 v4
    have heq : ∀ w', (Op.equalIn 10000 48 (.agg #[.int .u64 ((f x).at_ 0 : Nat), .int .u64 ((f x).at_ 1 : Nat), .int .u64 ((f x).at_ 2 : Nat), .int .u64 ((f x).at_ 3 : Nat), .int .u64 ((f x).at_ 4 : Nat)]) (.agg #[.int .u64 ((f x).at_ 0 : Nat), .int .u64 ((f x).at_ 1 : Nat), .int .u64 ((f x).at_ 2 : Nat), .int .u64 ((f x).at_ 3 : Nat), .int .u64 ((f x).at_ 4 : Nat)])).run Tryd.prog w' = .ok (eqS (f x) (f x)) w' := fun w' => equal_set w' 9998 (f x) (f x)
    go_wp2_with fail
    rw [Hw3.out]
    go_quiet (fail)
    go_wp2
    go_ret
    have bd : Below w3.heap.size w3 (w3.drewN nq) := below_drewN (Below.refl _ _) nq
    have he : eqS (f x) (f x) = true := (eqS_iff _ _).2 (fun _ _ => rfl)
    exact ⟨f, false, by rw [he]; rfl, ⟨hJ4.to bd hJ4.below.size (by omega) (by omega) (by omega), hF⟩, fun h => (by cases h), fun _ => ⟨rfl, fun h => absurd (by simpa using h) h0⟩, Newer.ofBelow (below_then hB3 bd)⟩

end Go.Proofs.YteoofibhpifmlaaDoor
