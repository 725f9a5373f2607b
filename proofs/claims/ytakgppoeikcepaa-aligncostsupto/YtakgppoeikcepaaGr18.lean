import Derived.Deep.RegionHeld3
import Derived.Test.YtakgppoeikcepaaGr17
import Derived.Test.YtakgppoeikcepaaGr08
import Derived.Test.YtakgppoeikcepaaGr10
import Derived.Test.YtakgppoeikcepaaGr06
import Derived.Test.YtakgppoeikcepaaGr02
import Derived.Test.YtakgppoeikcepaaGr03
/- Package tongue as it landed: what is seen of an arc; unseen. -/
namespace Go.Proofs.Ytakgppoeikcepaa
open Go.RowKit Go.Shelf
set_option linter.unusedVariables false
set_option linter.unusedSimpArgs false
set_option maxRecDepth 4000

/-- A net's box, for the label of an arc. -/
structure LabAt (w : World) (Bn : Nat) (n : NetL) (tv : Value) : Prop where
  box : Box2 w Bn (.int .i64 n.places) tv
  trans : Trans w tv n.trans
theorem LabAt.below {w w' : World} {Bn : Nat} {n : NetL} {tv : Value} (h : LabAt w Bn n tv) (hb : Below w.heap.size w w') : LabAt w' Bn n tv := ⟨h.box.below hb, h.trans.below hb⟩

set_option maxHeartbeats 1000000 in
theorem label_any (Bn : Nat) (n : NetL) (tv : Value) (x1 x3 : Int) (k : Nat) (w : World) (h : LabAt w Bn n tv) (hk : k < n.trans.length) :
    Calls Try.prog 38 #[.agg #[.int .i64 x1, .int .i64 (k : Int), .int .i64 x3], .pointer (some ⟨Bn, 0, none⟩)] w fun e w' => e = .returned (.int .i64 (labT n k)) ∧ w' = w.alloc (.cells #[.int .i64 x1, .int .i64 (k : Int), .int .i64 x3] 69) := by
  obtain ⟨⟨hlt, c0, c1⟩, hT⟩ := h
  obtain ⟨a, len, cap, rfl, hl, hm, _, hr⟩ := id hT
  obtain ⟨b, off, d1, d2, rfl, hb, e0, e1, e2, _⟩ := hT.at (k := k) (by omega)
  have bn := below_new w (.cells #[.int .i64 x1, .int .i64 (k : Int), .int .i64 x3] 69)
  have c1' := (bn.cell (p := ⟨Bn, 1, none⟩) hlt).trans c1
  have e0' := (bn.cell (p := ⟨b, off + k * 3, none⟩) hb).trans e0
  clear hr hT c0 c1 e0 e1 e2
  go_enter Try.func38, Try.ntmps38
  go_wp2
  go_ret
  exact ⟨rfl, rfl⟩

/-- The sets in memory, and what else the change of an arc reads. -/
structure FarJ (w : World) (Bf b5 b3 Bn N : Nat) (f : Nat → SetL) (W : World) : Prop where
  row : SetRow W Bf N f
  box5 : W.heap[b5]? = some (.cells #[.slice (some ⟨Bf, 0, none⟩) N N] 95 (0, 0))
  box3 : W.heap[b3]? = some (.cells #[.func (.func 38) #[] #[.pointer (some ⟨Bn, 0, none⟩)]] 94 (0, 0))
  below : Below w.heap.size w W
theorem FarJ.to {w : World} {Bf b5 b3 Bn N : Nat} {f : Nat → SetL} {W W' : World} (h : FarJ w Bf b5 b3 Bn N f W) {B : Nat} (hb : Below B W W') (h1 : w.heap.size ≤ B) (h2 : Bf < B) (h3 : b5 < B) (h4 : b3 < B) : FarJ w Bf b5 b3 Bn N f W' :=
  ⟨h.row.keep hb.size (hb.block Bf h2), (hb.block b5 h3).trans h.box5, (hb.block b3 h4).trans h.box3, h.below.trans (hb.mono h1)⟩

theorem boxesU (W : World) (x k y : Int) (s : SetL) : ∃ w2, Hid ((W.alloc (.cells #[.int .i64 x, .int .i64 k, .int .i64 y] 69)).alloc (.cells #[.int .u64 (s.at_ 0 : Nat), .int .u64 (s.at_ 1 : Nat), .int .u64 (s.at_ 2 : Nat), .int .u64 (s.at_ 3 : Nat), .int .u64 (s.at_ 4 : Nat)] 77) = w2) ∧ Below W.heap.size W w2 ∧ w2.heap.size = W.heap.size + 2 ∧
    w2.heap[W.heap.size]? = some (.cells #[.int .i64 x, .int .i64 k, .int .i64 y] 69 (0, 0)) ∧ SetAt w2 (W.heap.size + 1) s := by
  have b1 := below_new W (.cells #[.int .i64 x, .int .i64 k, .int .i64 y] 69)
  have b2 := below_new (W.alloc (.cells #[.int .i64 x, .int .i64 k, .int .i64 y] 69)) (.cells (setC s) 77)
  have e : (W.alloc (.cells #[.int .i64 x, .int .i64 k, .int .i64 y] 69)).heap.size = W.heap.size + 1 := by simp
  have a := setAt_new (W.alloc (.cells #[.int .i64 x, .int .i64 k, .int .i64 y] 69)) s
  rw [e] at a
  exact ⟨_, rfl, below_then b1 b2, by simp, (b2.block _ (by omega)).trans (heap_alloc_at _ _), a⟩
theorem arc_cells {w : World} {b : Nat} {x k y : Int} (h : w.heap[b]? = some (.cells #[.int .i64 x, .int .i64 k, .int .i64 y] 69 (0, 0))) : w.cell? ⟨b, 0, none⟩ = some (.int .i64 x) ∧ w.cell? ⟨b, 1, none⟩ = some (.int .i64 k) ∧ w.cell? ⟨b, 2, none⟩ = some (.int .i64 y) := by
  refine ⟨?_, ?_, ?_⟩ <;> simp [World.cell?, h]

set_option maxRecDepth 100000 in
set_option maxHeartbeats 4000000 in
theorem far_step (n : NetL) (tv : Value) (A : List ArcL) (N : Nat) (hN : N ≤ 300) (w : World) (Bf b5 b3 Bn ws : Nat) (hL : LabAt w Bn n tv) (hBf : w.heap.size ≤ Bf ∧ Bf < ws) (hb5 : w.heap.size ≤ b5 ∧ b5 < ws) (hb3 : w.heap.size ≤ b3 ∧ b3 < ws) (hne5 : b5 ≠ Bf) (hne3 : b3 ≠ Bf)
    (f : Nat → SetL) (W : World) (x k y : Nat) (ha : (⟨x, k, y⟩ : ArcL) ∈ A) (hx : x < N) (hy : y < N) (hk : k < n.trans.length) (hJ : FarJ w Bf b5 b3 Bn N f W) (hF : FarOk A (labT n) N f) (hws : ws ≤ W.heap.size) :
    Calls Try.prog 67 #[.agg #[.int .i64 (x : Int), .int .i64 (k : Int), .int .i64 (y : Int)], .pointer (some ⟨b5, 0, none⟩), .pointer (some ⟨b3, 0, none⟩)] W fun e W' =>
      ∃ f' b, e = .returned (.bool b) ∧ (FarJ w Bf b5 b3 Bn N f' W' ∧ FarOk A (labT n) N f') ∧ (b = true → lackM N f' < lackM N f) ∧ (b = false → f' = f ∧ FarShut (labT n) f ((x : Int), (k : Int), (y : Int))) ∧ Newer ws W W' := by
  obtain ⟨w2, Hw2, b2, hs2, hA2, hS2⟩ := boxesU W (x : Int) (k : Int) (y : Int) (f x)
  obtain ⟨c5, _⟩ := box_cell hJ.box5
  obtain ⟨_, r0, r1, r2, r3, r4⟩ := hJ.row.c hx
  have bn := below_new W (.cells #[.int .i64 (x : Int), .int .i64 (k : Int), .int .i64 (y : Int)] 69)
  have c5' := (bn.cell (p := ⟨b5, 0, none⟩) (cell_lt0 c5)).trans c5
  have r0' := (bn.cell (p := ⟨Bf, _, none⟩) hJ.row.lt).trans r0
  have r1' := (bn.cell (p := ⟨Bf, _, none⟩) hJ.row.lt).trans r1
  have r2' := (bn.cell (p := ⟨Bf, _, none⟩) hJ.row.lt).trans r2
  have r3' := (bn.cell (p := ⟨Bf, _, none⟩) hJ.row.lt).trans r3
  have r4' := (bn.cell (p := ⟨Bf, _, none⟩) hJ.row.lt).trans r4
  have hJ2 : FarJ w Bf b5 b3 Bn N f w2 := hJ.to b2 hJ.below.size (by omega) (by omega) (by omega)
  clear c5 r0 r1 r2 r3 r4 bn
  go_enter Try.func67, Try.ntmps67
  go_upto_region 2 with fail
  rw [Hw2.out]
  clear c5' r0' r1' r2' r3' r4' Hw2
  obtain ⟨z0, z1, z2⟩ := arc_cells hA2
  obtain ⟨c3, _⟩ := box_cell hJ2.box3
  have eg := enters_of Try.func38 (by kernel_rfl) rfl
  go_wp2_with fail
  refine (label_any Bn n tv (x : Int) (y : Int) k w2 (by exact (hL.below hJ2.below)) hk).mono ?_
  rintro e w3 ⟨rfl, rfl⟩
  have bn3 := below_new w2 (.cells #[.int .i64 (x : Int), .int .i64 (k : Int), .int .i64 (y : Int)] 69)
  obtain ⟨w3, Hw3⟩ : ∃ w3, Hid (w2.alloc (.cells #[.int .i64 (x : Int), .int .i64 (k : Int), .int .i64 (y : Int)] 69) = w3) := ⟨_, rfl⟩
  rw [Hw3.out] at bn3
  have hJ3 : FarJ w Bf b5 b3 Bn N f w3 := hJ2.to bn3 hJ2.below.size (by omega) (by omega) (by omega)
  have hA3 := (bn3.block _ (by omega)).trans hA2
  have hS3 := hS2.below bn3
  have hB3 : Below W.heap.size W w3 := below_then b2 bn3
  clear z0 z1 z2 c3 eg hJ2 hA2 hS2
  by_cases h0 : labT n k = 0
  · have h0' : (labT n k == 0) = true := by simpa using h0
    obtain ⟨c5, _⟩ := box_cell hJ3.box5
    obtain ⟨y0, y1, y2⟩ := arc_cells hA3
    obtain ⟨_, v0, v1, v2, v3, v4⟩ := hS3.c
    simp only [Nat.zero_add] at v1 v2 v3 v4
    have Hall : Hid (∀ w' : World, Below w3.heap.size w3 w' → (fun w' => w'.cell? ⟨b5, 0, none⟩ = some (.slice (some ⟨Bf, 0, none⟩) N N) ∧ w'.cell? ⟨W.heap.size, 0, none⟩ = some (.int .i64 (x : Int)) ∧ w'.cell? ⟨W.heap.size, 2, none⟩ = some (.int .i64 (y : Int)) ∧ w'.cell? ⟨W.heap.size + 1, 0, none⟩ = some (.int .u64 ((f x).at_ 0 : Nat)) ∧ w'.cell? ⟨W.heap.size + 1, 1, none⟩ = some (.int .u64 ((f x).at_ 1 : Nat)) ∧ w'.cell? ⟨W.heap.size + 1, 2, none⟩ = some (.int .u64 ((f x).at_ 2 : Nat)) ∧ w'.cell? ⟨W.heap.size + 1, 3, none⟩ = some (.int .u64 ((f x).at_ 3 : Nat)) ∧ w'.cell? ⟨W.heap.size + 1, 4, none⟩ = some (.int .u64 ((f x).at_ 4 : Nat))) w') := fun w' hb => by
      obtain ⟨g0, g1, g2⟩ := arc_cells ((hb.block _ (Array.getElem?_eq_some_iff.1 hA3).1).trans hA3)
      obtain ⟨_, u0, u1, u2, u3, u4⟩ := (hS3.below hb).c
      simp only [Nat.zero_add] at u1 u2 u3 u4
      exact ⟨(hb.cell (p := ⟨b5, 0, none⟩) (cell_lt0 c5)).trans c5, g0, g2, u0, u1, u2, u3, u4⟩
    go_upto_region 3 with fail
    rw [Hw3.out]
    refine wp_region_held_drew (S := (fun w' => w'.cell? ⟨b5, 0, none⟩ = some (.slice (some ⟨Bf, 0, none⟩) N N) ∧ w'.cell? ⟨W.heap.size, 0, none⟩ = some (.int .i64 (x : Int)) ∧ w'.cell? ⟨W.heap.size, 2, none⟩ = some (.int .i64 (y : Int)) ∧ w'.cell? ⟨W.heap.size + 1, 0, none⟩ = some (.int .u64 ((f x).at_ 0 : Nat)) ∧ w'.cell? ⟨W.heap.size + 1, 1, none⟩ = some (.int .u64 ((f x).at_ 1 : Nat)) ∧ w'.cell? ⟨W.heap.size + 1, 2, none⟩ = some (.int .u64 ((f x).at_ 2 : Nat)) ∧ w'.cell? ⟨W.heap.size + 1, 3, none⟩ = some (.int .u64 ((f x).at_ 3 : Nat)) ∧ w'.cell? ⟨W.heap.size + 1, 4, none⟩ = some (.int .u64 ((f x).at_ 4 : Nat)))) (by kernel_rfl) (Hall.out _ (Below.refl _ _).drew) (fun hH => ?_)
    refine wpAnyH_take (i := 0) (v := .slice (some ⟨Bf, 0, none⟩) N N) rfl (by kernel_rfl) (by kernel_rfl) (by kernel_rfl) (fun _ _ _ h => h) (.inl ⟨by rfl, fun w' hS' => by obtain ⟨s5, sa0, sa2, q0, q1, q2, q3, q4⟩ := hS'; go_simp⟩) hH ?_
    simp only [List.getElem_toArray, List.getElem_cons_succ, List.getElem_cons_zero, Act.put, List.setIfInBounds_toArray, List.set_cons_zero, List.set_cons_succ]
    refine wpAnyH_take (i := 1) (v := .pointer (some ⟨W.heap.size, 0, none⟩)) rfl (by kernel_rfl) (by kernel_rfl) (by kernel_rfl) (fun _ _ _ h => h) (.inl ⟨by rfl, fun w' hS' => by first | (go_simp; done) | (go_simp; rfl) | (go_simp; intro h; omega)⟩) hH ?_
    simp only [List.getElem_toArray, List.getElem_cons_succ, List.getElem_cons_zero, Act.put, List.setIfInBounds_toArray, List.set_cons_zero, List.set_cons_succ]
    refine wpAnyH_take (i := 2) (v := .int .i64 (x : Int)) rfl (by kernel_rfl) (by kernel_rfl) (by kernel_rfl) (fun _ _ _ h => h) (.inl ⟨by rfl, fun w' hS' => by obtain ⟨s5, sa0, sa2, q0, q1, q2, q3, q4⟩ := hS'; go_simp⟩) hH ?_
    simp only [List.getElem_toArray, List.getElem_cons_succ, List.getElem_cons_zero, Act.put, List.setIfInBounds_toArray, List.set_cons_zero, List.set_cons_succ]
    refine wpAnyH_take (i := 3) (v := setV (f x)) rfl (by kernel_rfl) (by kernel_rfl) (by kernel_rfl) (fun _ _ _ h => h) (.inl ⟨by rfl, fun w' hS' => by obtain ⟨s5, sa0, sa2, q0, q1, q2, q3, q4⟩ := hS'; go_simp⟩) hH ?_
    simp only [List.getElem_toArray, List.getElem_cons_succ, List.getElem_cons_zero, Act.put, List.setIfInBounds_toArray, List.set_cons_zero, List.set_cons_succ]
    refine wpAnyH_take (i := 4) (v := .slice (some ⟨Bf, 0, none⟩) N N) rfl (by kernel_rfl) (by kernel_rfl) (by kernel_rfl) (fun _ _ _ h => h) (.inl ⟨by rfl, fun w' hS' => by obtain ⟨s5, sa0, sa2, q0, q1, q2, q3, q4⟩ := hS'; go_simp⟩) hH ?_
    simp only [List.getElem_toArray, List.getElem_cons_succ, List.getElem_cons_zero, Act.put, List.setIfInBounds_toArray, List.set_cons_zero, List.set_cons_succ]
    refine wpAnyH_take (i := 5) (v := .pointer (some ⟨W.heap.size, 2, none⟩)) rfl (by kernel_rfl) (by kernel_rfl) (by kernel_rfl) (fun _ _ _ h => h) (.inl ⟨by rfl, fun w' hS' => by first | (go_simp; done) | (go_simp; rfl) | (go_simp; intro h; omega)⟩) hH ?_
    simp only [List.getElem_toArray, List.getElem_cons_succ, List.getElem_cons_zero, Act.put, List.setIfInBounds_toArray, List.set_cons_zero, List.set_cons_succ]
    refine wpAnyH_take (i := 6) (v := .int .i64 (y : Int)) rfl (by kernel_rfl) (by kernel_rfl) (by kernel_rfl) (fun _ _ _ h => h) (.inl ⟨by rfl, fun w' hS' => by obtain ⟨s5, sa0, sa2, q0, q1, q2, q3, q4⟩ := hS'; go_simp⟩) hH ?_
    simp only [List.getElem_toArray, List.getElem_cons_succ, List.getElem_cons_zero, Act.put, List.setIfInBounds_toArray, List.set_cons_zero, List.set_cons_succ]
    refine wpAnyH_take (i := 7) (v := .pointer (some ⟨Bf, y * 5, none⟩)) rfl (by kernel_rfl) (by kernel_rfl) (by kernel_rfl) (fun _ _ _ h => h) (.inl ⟨by rfl, fun w' hS' => by first | (go_simp; done) | (go_simp; rfl) | (go_simp; intro h; omega)⟩) hH ?_
    simp only [List.getElem_toArray, List.getElem_cons_succ, List.getElem_cons_zero, Act.put, List.setIfInBounds_toArray, List.set_cons_zero, List.set_cons_succ]
    obtain ⟨_, p0, p1, p2, p3, p4⟩ := hJ3.row.c hy
    refine wpAnyH_ready (rs := [8]) (by kernel_rfl) (by simp) ?_
    refine AllReadyH.cons rfl (fun K hK => ?_) AllReadyH.nil
    simp only [List.getElem_toArray, List.getElem_cons_succ, List.getElem_cons_zero]
    rw [if_pos (by rfl)]
    go_wp2_with fail
    refine hK.out _ _ hH (fun hH => ?_)
    refine wpAnyH_ready (rs := [9]) (by kernel_rfl) (by simp) ?_
    refine AllReadyH.cons rfl (fun K hK => ?_) AllReadyH.nil
    simp only [List.getElem_toArray, List.getElem_cons_succ, List.getElem_cons_zero]
    rw [if_pos (by rfl)]
    go_wp2_with fail
    refine (or_any (f x) (f y) _).mono ?_
    rintro e w4 ⟨rfl, bo⟩
    have bo' : Below w3.heap.size w3 w4 := (Below.refl w3.heap.size w3).drew.trans bo
    have hJ4 : FarJ w Bf b5 b3 Bn N f w4 := hJ3.to bo' hJ3.below.size (by omega) (by omega) (by omega)
    refine hK.out _ _ (Hall.out w4 bo') (fun hH => ?_)
    refine wpAnyH_take (i := 10) (v := .pointer (some ⟨Bf, x * 5, none⟩)) rfl (by kernel_rfl) (by kernel_rfl) (by kernel_rfl) (fun _ _ _ h => h) (.inl ⟨by rfl, fun w' hS' => by first | (go_simp; done) | (go_simp; rfl) | (go_simp; intro h; omega)⟩) hH ?_
    simp only [List.getElem_toArray, List.getElem_cons_succ, List.getElem_cons_zero, Act.put, List.setIfInBounds_toArray, List.set_cons_zero, List.set_cons_succ]
    obtain ⟨_, o0, o1, o2, o3, o4⟩ := hJ4.row.c hx
    have f0 := hJ4.row.frozen (x * 5) (by omega)
    have f1 := hJ4.row.frozen (x * 5 + 1) (by omega)
    have f2 := hJ4.row.frozen (x * 5 + 2) (by omega)
    have f3 := hJ4.row.frozen (x * 5 + 3) (by omega)
    have f4 := hJ4.row.frozen (x * 5 + 4) (by omega)
    obtain ⟨W5, HW5, hR5, hB5, ho5, hz5⟩ := hJ4.row.store hx (orS (f x) (f y))
    refine wpAnyH_ready (rs := [11]) (by kernel_rfl) (by simp) ?_
    refine AllReadyH.cons rfl (fun K hK => ?_) AllReadyH.nil
    simp only [List.getElem_toArray, List.getElem_cons_succ, List.getElem_cons_zero]
    rw [if_pos (by rfl)]
    go_wp2_with fail
    rw [HW5.out]
    have hA4 := (bo'.block _ (Array.getElem?_eq_some_iff.1 hA3).1).trans hA3
    have hS4 := hS3.below bo'
    have hA5 := (ho5 _ (by omega)).trans hA4
    have hS5 : SetAt W5 (W.heap.size + 1) (f x) := (ho5 _ (by omega)).trans hS4
    have hJ5 : FarJ w Bf b5 b3 Bn N (updS f x (orS (f x) (f y))) W5 := ⟨hR5, (ho5 _ hne5).trans hJ4.box5, (ho5 _ hne3).trans hJ4.box3, hJ4.below.trans (hB5.mono (by omega))⟩
    refine hK.out _ _ ?_ (fun hH => ?_)
    · obtain ⟨g0, g1, g2⟩ := arc_cells hA5
      obtain ⟨_, u0, u1, u2, u3, u4⟩ := hS5.c
      simp only [Nat.zero_add] at u1 u2 u3 u4
      exact ⟨(box_cell hJ5.box5).1, g0, g2, u0, u1, u2, u3, u4⟩
    refine wpAnyH_done (by kernel_rfl) ?_ _
    have hN5 : Newer ws W W5 := ⟨by rw [hz5]; exact Nat.le_trans hB3.size bo'.size, fun i h1 h2 => by rw [ho5 i (by omega), bo'.block i (by have := hB3.size; omega), hB3.block i h2]⟩
    have hF5 := hF.step ha h0 hy
    have hl := lackM_less (u := f y) (f := f) hx
    obtain ⟨g, Hg⟩ : ∃ g, Hid (updS f x (orS (f x) (f y)) = g) := ⟨_, rfl⟩
    have Hgx : Hid (g x = orS (f x) (f y)) := by show _ = _; rw [← Hg.out, updS_same]
    clear hJ3 hA3 hS3 hJ4 hA4 hS4 o0 o1 o2 o3 o4 f0 f1 f2 f3 f4 p0 p1 p2 p3 p4 c5 y0 y1 y2 v0 v1 v2 v3 v4 hH HW5 Hall Hw3
    simp only [Hg.out] at hJ5 hF5 hl
    rw [← Hgx.out] at hl
    have hJ4 := hJ5
    have hA4 := hA5
    have hS4 := hS5
    obtain ⟨c5, _⟩ := box_cell hJ4.box5
    obtain ⟨_, r0, r1, r2, r3, r4⟩ := hJ4.row.c hx
    obtain ⟨y0, y1, y2⟩ := arc_cells hA4
    obtain ⟨_, v0, v1, v2, v3, v4⟩ := hS4.c
    simp only [Nat.zero_add] at v1 v2 v3 v4
    have heq : ∀ w', (Op.equalIn 10000 77 (.agg #[.int .u64 ((g x).at_ 0 : Nat), .int .u64 ((g x).at_ 1 : Nat), .int .u64 ((g x).at_ 2 : Nat), .int .u64 ((g x).at_ 3 : Nat), .int .u64 ((g x).at_ 4 : Nat)]) (.agg #[.int .u64 ((f x).at_ 0 : Nat), .int .u64 ((f x).at_ 1 : Nat), .int .u64 ((f x).at_ 2 : Nat), .int .u64 ((f x).at_ 3 : Nat), .int .u64 ((f x).at_ 4 : Nat)])).run Try.prog w' = .ok (eqS (g x) (f x)) w' := fun w' => equal_set w' 9998 (g x) (f x)
    go_wp2_with fail
    go_quiet (fail)
    go_wp2
    go_ret
    have bd : Below W5.heap.size W5 (W5.drewN nq) := below_drewN (Below.refl _ _) nq
    have hJ6 : FarJ w Bf b5 b3 Bn N g (W5.drewN nq) := hJ4.to bd hJ4.below.size (by omega) (by omega) (by omega)
    have hN6 : Newer ws W (W5.drewN nq) := hN5.trans (Newer.ofBelow bd)
    cases he : eqS (g x) (f x)
    · exact ⟨g, true, rfl, ⟨hJ6, hF5⟩, fun _ => hl he, fun h => (by cases h), hN6⟩
    · have hsame : SameS (g x) (f x) := (eqS_iff _ _).1 he
      have hall : ∀ m, m < N → SameS (g m) (f m) := fun m hm => by
        by_cases e : m = x
        · subst e; exact hsame
        · rw [← Hg.out, updS_other _ _ e]; exact fun _ _ => rfl
      refine ⟨f, false, rfl, ⟨⟨hJ6.row.sameS hall, hJ6.box5, hJ6.box3, hJ6.below⟩, hF⟩, fun h => (by cases h), fun _ => ⟨rfl, fun _ j hj hh => ?_⟩, hN6⟩
      simp only [Int.toNat_natCast] at hh ⊢
      rw [← hsame.has hj, Hgx.out, has_or, hh, Bool.or_true]
  · have h0' : (labT n k == 0) = false := by simpa using h0
    have hJ4 := hJ3
    have hA4 := hA3
    have hS4 := hS3
    obtain ⟨c5, _⟩ := box_cell hJ4.box5
    obtain ⟨_, r0, r1, r2, r3, r4⟩ := hJ4.row.c hx
    obtain ⟨y0, y1, y2⟩ := arc_cells hA4
    obtain ⟨_, v0, v1, v2, v3, v4⟩ := hS4.c
    simp only [Nat.zero_add] at v1 v2 v3 v4
    have heq : ∀ w', (Op.equalIn 10000 77 (.agg #[.int .u64 ((f x).at_ 0 : Nat), .int .u64 ((f x).at_ 1 : Nat), .int .u64 ((f x).at_ 2 : Nat), .int .u64 ((f x).at_ 3 : Nat), .int .u64 ((f x).at_ 4 : Nat)]) (.agg #[.int .u64 ((f x).at_ 0 : Nat), .int .u64 ((f x).at_ 1 : Nat), .int .u64 ((f x).at_ 2 : Nat), .int .u64 ((f x).at_ 3 : Nat), .int .u64 ((f x).at_ 4 : Nat)])).run Try.prog w' = .ok (eqS (f x) (f x)) w' := fun w' => equal_set w' 9998 (f x) (f x)
    go_wp2_with fail
    rw [Hw3.out]
    go_quiet (fail)
    go_wp2
    go_ret
    have bd : Below w3.heap.size w3 (w3.drewN nq) := below_drewN (Below.refl _ _) nq
    have he : eqS (f x) (f x) = true := (eqS_iff _ _).2 (fun _ _ => rfl)
    exact ⟨f, false, by rw [he]; rfl, ⟨hJ4.to bd hJ4.below.size (by omega) (by omega) (by omega), hF⟩, fun h => (by cases h), fun _ => ⟨rfl, fun h => absurd (by simpa using h) h0⟩, Newer.ofBelow (below_then hB3 bd)⟩

end Go.Proofs.Ytakgppoeikcepaa

/- Package tongue as it landed: unseen. -/
namespace Go.Proofs.Ytakgppoeikcepaa
open Go.RowKit Go.Shelf
set_option linter.unusedVariables false
set_option linter.unusedSimpArgs false
set_option maxRecDepth 4000

/-- The first k marks are alone in their sets. -/
def aloneTo (k : Nat) : Nat → SetL := fun m => if m < k then onlyS m else noneS

theorem boxesS (w : World) (mv av fv : Value) (t2 : TypeId) : ∃ w2, Hid ((w.alloc (.cells #[mv, av] 49)).alloc (.cells #[fv] t2) = w2) ∧ Below w.heap.size w w2 ∧ w2.heap.size = w.heap.size + 2 ∧
    w2.heap[w.heap.size]? = some (.cells #[mv, av] 49 (0, 0)) ∧ w2.heap[w.heap.size + 1]? = some (.cells #[fv] t2 (0, 0)) := by
  have b1 := below_new w (.cells #[mv, av] 49)
  have b2 := below_new (w.alloc (.cells #[mv, av] 49)) (.cells #[fv] t2)
  have e : (w.alloc (.cells #[mv, av] 49)).heap.size = w.heap.size + 1 := by simp
  have a := heap_alloc_at (w.alloc (.cells #[mv, av] 49)) (.cells #[fv] t2)
  rw [e] at a
  exact ⟨_, rfl, below_then b1 b2, by simp, (b2.block _ (by omega)).trans (heap_alloc_at _ _), a⟩
theorem pair_cells {w : World} {b : Nat} {x y : Value} {t : TypeId} (h : w.heap[b]? = some (.cells #[x, y] t (0, 0))) : w.cell? ⟨b, 0, none⟩ = some x ∧ w.cell? ⟨b, 1, none⟩ = some y := by
  refine ⟨?_, ?_⟩ <;> simp [World.cell?, h]

set_option maxRecDepth 100000 in
set_option maxHeartbeats 4000000 in
theorem unseen_any (n : NetL) (tv mv av : Value) (s : SpaceL) (Bn : Nat) (w : World) (hL : LabAt w Bn n tv) (hM : Lists w mv s.marks) (hA : Arcs w av (s.arcs.map arcZ)) (hN : s.marks.length ≤ 300)
    (hs : ∀ a ∈ s.arcs, a.frm < s.marks.length ∧ a.dst < s.marks.length ∧ a.tran < n.trans.length) :
    Calls Try.prog 39 #[.agg #[mv, av], .func (.func 38) #[] #[.pointer (some ⟨Bn, 0, none⟩)]] w fun e w' => ∃ (Bf : Nat) (f : Nat → SetL), e = .returned (.slice (some ⟨Bf, 0, none⟩) s.marks.length s.marks.length) ∧ SetRow w' Bf s.marks.length f ∧
      FarAll s.arcs (labT n) s.marks.length f ∧ w.heap.size ≤ Bf ∧ Below w.heap.size w w' := by
  obtain ⟨am, cm, rfl, _, _⟩ := hM.slice
  obtain ⟨aa, ca, rfl, _⟩ := hA.slice
  obtain ⟨N, HN⟩ : ∃ N, Hid (s.marks.length = N) := ⟨_, rfl⟩
  obtain ⟨la, Hla⟩ : ∃ la, Hid ((s.arcs.map arcZ).length = la) := ⟨_, rfl⟩
  rw [HN.out] at hN hs hM ⊢
  rw [Hla.out] at hA ⊢
  obtain ⟨w2, Hw2, b2, hs2, hX2, hF2⟩ := boxesS w (.slice am N cm) (.slice aa la ca) (.func (.func 38) #[] #[.pointer (some ⟨Bn, 0, none⟩)]) 94
  obtain ⟨w3, hmk, b3, hs3, hR3⟩ := make_sets w2 N hN
  rw [hs2] at hmk hs3 hR3
  obtain ⟨x0, x1⟩ := pair_cells hX2
  have b4 := below_new w3 (.cells #[.slice (some ⟨w.heap.size + 2, 0, none⟩) N N] 95)
  have hb4 := heap_alloc_at w3 (.cells #[.slice (some ⟨w.heap.size + 2, 0, none⟩) N N] 95)
  have hsz4 : (w3.alloc (.cells #[.slice (some ⟨w.heap.size + 2, 0, none⟩) N N] 95)).heap.size = w.heap.size + 2 + 1 + 1 := by simp [hs3]
  obtain ⟨w4, Hw4⟩ : ∃ w4, Hid (w3.alloc (.cells #[.slice (some ⟨w.heap.size + 2, 0, none⟩) N N] 95) = w4) := ⟨_, rfl⟩
  rw [Hw4.out] at b4 hb4 hsz4
  rw [hs3] at hb4
  have hX4 := (b4.block _ (by omega)).trans ((b3.block _ (by omega)).trans hX2)
  have hJ4 : FarJ w (w.heap.size + 2) (w.heap.size + 2 + 1) (w.heap.size + 1) Bn N (aloneTo 0) w4 :=
    ⟨(hR3.below b4).same (fun m hm => by simp [aloneTo]), hb4, (b4.block _ (by omega)).trans ((b3.block _ (by omega)).trans hF2), below_then (below_then b2 b3) b4⟩
  go_enter Try.func39, Try.ntmps39
  go_upto_region 1 with fail
  rw [Hw2.out]
  go_upto_region 2 with fail
  rw [Hw4.out]
  clear Hw2 Hw4 hmk x0 x1 hX2 hF2 hR3 b2 b3 b4 hb4 hs2 hs3
  obtain ⟨c5, _⟩ := box_cell hJ4.box5
  go_wp2_with fail
  clear c5
  have Hs4 : Hid (w4.heap.size = w.heap.size + 2 + 1 + 1) := hsz4
  clear hsz4
  go_loopg [13] N (fun g i wr => ∃ k : Nat, k + g = N ∧ i = .int .i64 (k : Int) ∧ FarJ w (w.heap.size + 2) (w.heap.size + 2 + 1) (w.heap.size + 1) Bn N (aloneTo k) wr ∧ wr.heap[w.heap.size]? = some (.cells #[.slice am N cm, .slice aa la ca] 49 (0, 0)))
  case atStart => exact ⟨0, by omega, rfl, hJ4, hX4⟩
  case round =>
    clear hJ4 hX4 Hs4
    obtain ⟨k, hkg, rfl, hJ, hX⟩ := hrel
    by_cases hk : k < N
    · have hk' : decide ((k : Int) < (N : Int)) = true := by rw [decide_eq_true_eq]; omega
      obtain ⟨c5, _⟩ := box_cell hJ.box5
      have hlt5 : w.heap.size + 2 + 1 < wr.heap.size := cell_lt0 c5
      have Hall : Hid (∀ w' : World, Below wr.heap.size wr w' → (fun w' => w'.cell? ⟨w.heap.size + 2 + 1, 0, none⟩ = some (.slice (some ⟨w.heap.size + 2, 0, none⟩) N N)) w') := fun w' hb => (hb.cell (p := ⟨w.heap.size + 2 + 1, 0, none⟩) hlt5).trans c5
      go_upto_region 5 with fail
      refine wp_region_held_drew (S := (fun w' => w'.cell? ⟨w.heap.size + 2 + 1, 0, none⟩ = some (.slice (some ⟨w.heap.size + 2, 0, none⟩) N N))) (by kernel_rfl) (Hall.out _ (Below.refl _ _).drew) (fun hH => ?_)
      refine wpAnyH_take (i := 0) (v := .slice (some ⟨w.heap.size + 2, 0, none⟩) N N) rfl (by kernel_rfl) (by kernel_rfl) (by kernel_rfl) (fun _ _ _ h => h) (.inl ⟨by rfl, fun w' hS' => by go_simp⟩) hH ?_
      simp only [List.getElem_toArray, List.getElem_cons_succ, List.getElem_cons_zero, Act.put, List.setIfInBounds_toArray, List.set_cons_zero, List.set_cons_succ]
      refine wpAnyH_take (i := 1) rfl (by kernel_rfl) (by kernel_rfl) (by kernel_rfl) (fun _ _ _ h => h) (.inl ⟨by rfl, fun _ _ => rfl⟩) hH ?_
      simp only [List.getElem_toArray, List.getElem_cons_succ, List.getElem_cons_zero, Act.put, List.setIfInBounds_toArray, List.set_cons_zero, List.set_cons_succ]
      refine wpAnyH_take (i := 2) rfl (by kernel_rfl) (by kernel_rfl) (by kernel_rfl) (fun _ _ _ h => h) (.inl ⟨by rfl, fun _ _ => rfl⟩) hH ?_
      simp only [List.getElem_toArray, List.getElem_cons_succ, List.getElem_cons_zero, Act.put, List.setIfInBounds_toArray, List.set_cons_zero, List.set_cons_succ]
      refine wpAnyH_ready (rs := [3]) (by kernel_rfl) (by simp) ?_
      refine AllReadyH.cons rfl (fun K hK => ?_) AllReadyH.nil
      simp only [List.getElem_toArray, List.getElem_cons_succ, List.getElem_cons_zero]
      rw [if_pos (by rfl)]
      go_wp2_with fail
      refine (only_any k (by omega) _).mono ?_
      rintro e w5 ⟨rfl, bo⟩
      have bo' : Below wr.heap.size wr w5 := (Below.refl wr.heap.size wr).drew.trans bo
      have hJ5 : FarJ w (w.heap.size + 2) (w.heap.size + 2 + 1) (w.heap.size + 1) Bn N (aloneTo k) w5 := hJ.to bo' hJ.below.size hJ.row.lt (by omega) (by omega)
      refine hK.out _ _ (Hall.out w5 bo') (fun hH => ?_)
      refine wpAnyH_take (i := 4) (v := .pointer (some ⟨w.heap.size + 2, k * 5, none⟩)) rfl (by kernel_rfl) (by kernel_rfl) (by kernel_rfl) (fun _ _ _ h => h) (.inl ⟨by rfl, fun w' hS' => by first | (go_simp; done) | (go_simp; rfl) | (go_simp; intro h; omega)⟩) hH ?_
      simp only [List.getElem_toArray, List.getElem_cons_succ, List.getElem_cons_zero, Act.put, List.setIfInBounds_toArray, List.set_cons_zero, List.set_cons_succ]
      obtain ⟨_, o0, o1, o2, o3, o4⟩ := hJ5.row.c hk
      have f0 := hJ5.row.frozen (k * 5) (by omega)
      have f1 := hJ5.row.frozen (k * 5 + 1) (by omega)
      have f2 := hJ5.row.frozen (k * 5 + 2) (by omega)
      have f3 := hJ5.row.frozen (k * 5 + 3) (by omega)
      have f4 := hJ5.row.frozen (k * 5 + 4) (by omega)
      obtain ⟨W5, HW5, hR5, hB5, ho5, hz5⟩ := hJ5.row.store hk (onlyS k)
      refine wpAnyH_ready (rs := [5]) (by kernel_rfl) (by simp) ?_
      refine AllReadyH.cons rfl (fun K hK => ?_) AllReadyH.nil
      simp only [List.getElem_toArray, List.getElem_cons_succ, List.getElem_cons_zero]
      rw [if_pos (by rfl)]
      go_wp2_with fail
      rw [HW5.out]
      have hJ6 : FarJ w (w.heap.size + 2) (w.heap.size + 2 + 1) (w.heap.size + 1) Bn N (aloneTo (k + 1)) W5 := by
        refine ⟨hR5.same (fun m hm => ?_), (ho5 _ (by omega)).trans hJ5.box5, (ho5 _ (by omega)).trans hJ5.box3, hJ5.below.trans (hB5.mono (by omega))⟩
        by_cases e : m = k
        · subst e; rw [updS_same]; simp [aloneTo]
        · rw [updS_other _ _ e]
          have : (m < k + 1) ↔ (m < k) := by omega
          simp only [aloneTo, this]
      have hX6 := (ho5 w.heap.size (by omega)).trans ((bo'.block _ (Array.getElem?_eq_some_iff.1 hX).1).trans hX)
      refine hK.out _ _ (box_cell hJ6.box5).1 (fun hH => ?_)
      refine wpAnyH_done (by kernel_rfl) ?_ _
      clear hJ hX hJ5 o0 o1 o2 o3 o4 f0 f1 f2 f3 f4 HW5 hR5 hB5 ho5 hz5 Hall hH c5
      go_wp2
      go_roundg (gk - 1)
      case measure => omega
      case rel => exact ⟨k + 1, by omega, by go_num, hJ6, hX6⟩
    · obtain rfl : k = N := by omega
      obtain ⟨x0, x1⟩ := pair_cells hX
      have hJs : FarOk s.arcs (labT n) k (aloneTo k) := FarOk.start fun m hm => by simp [aloneTo, hm]
      have hltF : w.heap.size + 2 + 1 < wr.heap.size := (Array.getElem?_eq_some_iff.1 hJ.box5).1
      go_wp2_with fail
      refine (settle_any (σ := Nat → SetL) (.slice aa la ca) (s.arcs.map arcZ) 67 #[.pointer (some ⟨w.heap.size + 2 + 1, 0, none⟩), .pointer (some ⟨w.heap.size + 1, 0, none⟩)] (enters_of Try.func67 (by kernel_rfl) rfl) wr
        (fun f W => FarJ w (w.heap.size + 2) (w.heap.size + 2 + 1) (w.heap.size + 1) Bn k f W ∧ FarOk s.arcs (labT n) k f) (lackM k) (FarShut (labT n)) (fun f W h => hA.below h.1.below)
        (fun f W W' h hb => ⟨h.1.to hb hJ.below.size (by omega) (by omega) (by omega), h.2⟩)
        (fun f W a ha h hw => by
          obtain ⟨b, hb, rfl⟩ := List.mem_map.1 ha
          obtain ⟨q1, q2, q3⟩ := hs b hb
          exact far_step n tv s.arcs k hN w (w.heap.size + 2) (w.heap.size + 2 + 1) (w.heap.size + 1) Bn wr.heap.size hL ⟨by omega, by omega⟩ ⟨by omega, by omega⟩ ⟨by omega, by omega⟩ (by omega) (by omega) f W b.frm b.tran b.dst hb q1 q2 q3 h.1 h.2 hw)
        (aloneTo k) ⟨hJ, hJs⟩).mono ?_
      rintro e w5 ⟨⟨v, rfl⟩, f, ⟨hJf, hFf⟩, hsh, _⟩
      have R := hFf.done hN (fun a ha => ⟨(hs a ha).1, (hs a ha).2.1⟩) hsh
      obtain ⟨c5, _⟩ := box_cell hJf.box5
      clear hJ hX x0 x1 hJs
      go_wp2
      go_ret
      exact ⟨_, f, rfl, hJf.row, R, by omega, hJf.below⟩

end Go.Proofs.Ytakgppoeikcepaa

/- Package tongue as it landed: leastTo. -/
namespace Go.Proofs.Ytakgppoeikcepaa
open Go.RowKit Go.Shelf
set_option linter.unusedVariables false
set_option linter.unusedSimpArgs false
set_option maxRecDepth 4000

/-- A row of numbers. -/
structure IntRow (w : World) (B n : Nat) (f : Nat → Int) : Prop where
  cells : ∀ j, j < n → w.cell? ⟨B, j, none⟩ = some (.int .i64 (f j))
  frozen : ∀ j, j < n → w.frozen? ⟨B, j, none⟩ = false
  lt : B < w.heap.size
theorem IntRow.put {w : World} {B n k : Nat} {f g : Nat → Int} (h : IntRow w B n f) (hk : k < n) {x : Int} (hx : g k = x) (hg : ∀ j, j < n → j ≠ k → g j = f j) : IntRow (w.setCell ⟨B, k, none⟩ (.int .i64 x)) B n g := by
  refine ⟨fun j hj => ?_, fun j hj => by rw [World.frozen?_setCell]; exact h.frozen j hj, by simpa [World.setCell] using h.lt⟩
  by_cases e : j = k
  · subst e
    rw [World.cell?_setCell_same _ _ _ (h.cells j hj), hx]
  · rw [World.cell?_setCell_other _ _ _ _ (by intro q; apply e; injection q with _ q2; exact q2.symm), h.cells j hj, hg j hj e]
theorem IntRow.keep {w w' : World} {B n : Nat} {f : Nat → Int} (h : IntRow w B n f) (hs : w.heap.size ≤ w'.heap.size) (hb : w'.heap[B]? = w.heap[B]?) : IntRow w' B n f := by
  refine ⟨fun j hj => ?_, fun j hj => ?_, Nat.lt_of_lt_of_le h.lt hs⟩
  · have := h.cells j hj; simp only [World.cell?] at this ⊢; rw [hb]; exact this
  · have := h.frozen j hj; simp only [World.frozen?] at this ⊢; rw [hb]; exact this
theorem IntRow.same {w : World} {B n : Nat} {f g : Nat → Int} (h : IntRow w B n f) (hg : ∀ j, j < n → g j = f j) : IntRow w B n g := ⟨fun j hj => by rw [hg j hj]; exact h.cells j hj, h.frozen, h.lt⟩

/-- The numbers in memory, and what else the change of an arc reads. -/
structure LeastJ (w : World) (Bl b7 b5 Bn N : Nat) (f : Nat → Int) (W : World) : Prop where
  row : IntRow W Bl N f
  box7 : W.heap[b7]? = some (.cells #[.slice (some ⟨Bl, 0, none⟩) N N] 25 (0, 0))
  box5 : W.heap[b5]? = some (.cells #[.func (.func 38) #[] #[.pointer (some ⟨Bn, 0, none⟩)]] 94 (0, 0))
  below : Below w.heap.size w W
theorem LeastJ.to {w : World} {Bl b7 b5 Bn N : Nat} {f : Nat → Int} {W W' : World} (h : LeastJ w Bl b7 b5 Bn N f W) {B : Nat} (hb : Below B W W') (h1 : w.heap.size ≤ B) (h2 : Bl < B) (h3 : b7 < B) (h4 : b5 < B) : LeastJ w Bl b7 b5 Bn N f W' :=
  ⟨h.row.keep hb.size (hb.block Bl h2), (hb.block b7 h3).trans h.box7, (hb.block b5 h4).trans h.box5, h.below.trans (hb.mono h1)⟩

set_option maxRecDepth 100000 in
set_option maxHeartbeats 4000000 in
theorem least_step (n : NetL) (tv : Value) (s : SpaceL) (E : List Int) (N : Nat) (hNs : s.marks.length = N) (hN : N ≤ 300) (w : World) (Bl b7 b5 Bn ws : Nat) (hL : LabAt w Bn n tv) (hBl : w.heap.size ≤ Bl ∧ Bl < ws) (hb7 : w.heap.size ≤ b7 ∧ b7 < ws) (hb5 : w.heap.size ≤ b5 ∧ b5 < ws) (hne7 : b7 ≠ Bl) (hne5 : b5 ≠ Bl)
    (f : Nat → Int) (W : World) (x k y : Nat) (ha : (⟨x, k, y⟩ : ArcL) ∈ s.arcs) (hx : x < N) (hy : y < N) (hk : k < n.trans.length) (hlb : 0 ≤ labT n k) (hJ : LeastJ w Bl b7 b5 Bn N f W) (hF : LeastOk n s E f) (hws : ws ≤ W.heap.size) :
    Calls Try.prog 69 #[.agg #[.int .i64 (x : Int), .int .i64 (k : Int), .int .i64 (y : Int)], .pointer (some ⟨b7, 0, none⟩), .pointer (some ⟨b5, 0, none⟩)] W fun e W' =>
      ∃ f' b, e = .returned (.bool b) ∧ (LeastJ w Bl b7 b5 Bn N f' W' ∧ LeastOk n s E f') ∧ (b = true → sumI N f' < sumI N f) ∧ (b = false → f' = f ∧ LeastShut n f ((x : Int), (k : Int), (y : Int))) ∧ Newer ws W W' := by
  have hA1 := heap_alloc_at W (.cells #[.int .i64 (x : Int), .int .i64 (k : Int), .int .i64 (y : Int)] 69)
  have b1 := below_new W (.cells #[.int .i64 (x : Int), .int .i64 (k : Int), .int .i64 (y : Int)] 69)
  have hs1 : (W.alloc (.cells #[.int .i64 (x : Int), .int .i64 (k : Int), .int .i64 (y : Int)] 69)).heap.size = W.heap.size + 1 := by simp
  obtain ⟨w1, Hw1⟩ : ∃ w1, Hid (W.alloc (.cells #[.int .i64 (x : Int), .int .i64 (k : Int), .int .i64 (y : Int)] 69) = w1) := ⟨_, rfl⟩
  rw [Hw1.out] at hA1 b1 hs1
  have hJ1 : LeastJ w Bl b7 b5 Bn N f w1 := hJ.to b1 hJ.below.size (by omega) (by omega) (by omega)
  have px := hF.pos x (by omega)
  have py := hF.pos y (by omega)
  have hcp := cost_pos hlb
  obtain ⟨c, Hc⟩ : ∃ c, Hid (costL (labT n k) = c) := ⟨_, rfl⟩
  have hc1 : (if (1 : Int) < labT n k then 1 else labT n k) = c := Hc.out
  rw [Hc.out] at hcp
  obtain ⟨t, Ht⟩ : ∃ t, Hid ((if f y + c < f x then f y + c else f x) = t) := ⟨_, rfl⟩
  have ht1 := Ht.out
  have hst : stepI n f ⟨x, k, y⟩ = t := by unfold stepI; rw [← Ht.out, ← Hc.out]
  have htx : t ≤ f x ∧ 0 ≤ t := by rw [← Ht.out]; split <;> omega
  obtain ⟨c7, _⟩ := box_cell hJ1.box7
  obtain ⟨c5, _⟩ := box_cell hJ1.box5
  obtain ⟨z0, z1, z2⟩ := arc_cells hA1
  have rx := hJ1.row.cells x hx
  have ry := hJ1.row.cells y hy
  have Hall : Hid (∀ w' : World, Below w1.heap.size w1 w' → (fun w' => w'.cell? ⟨b7, 0, none⟩ = some (.slice (some ⟨Bl, 0, none⟩) N N) ∧ w'.cell? ⟨b5, 0, none⟩ = some (.func (.func 38) #[] #[.pointer (some ⟨Bn, 0, none⟩)]) ∧ w'.cell? ⟨W.heap.size, 0, none⟩ = some (.int .i64 (x : Int)) ∧ w'.cell? ⟨W.heap.size, 1, none⟩ = some (.int .i64 (k : Int)) ∧ w'.cell? ⟨W.heap.size, 2, none⟩ = some (.int .i64 (y : Int)) ∧ w'.cell? ⟨Bl, y, none⟩ = some (.int .i64 (f y))) w') := fun w' hb => by
    obtain ⟨g0, g1, g2⟩ := arc_cells ((hb.block _ (Array.getElem?_eq_some_iff.1 hA1).1).trans hA1)
    exact ⟨(hb.cell (p := ⟨b7, 0, none⟩) (cell_lt0 c7)).trans c7, (hb.cell (p := ⟨b5, 0, none⟩) (cell_lt0 c5)).trans c5, g0, g1, g2, (hb.cell (p := ⟨Bl, y, none⟩) hJ1.row.lt).trans ry⟩
  have Hcp : Hid _ := hcp
  have Hst : Hid _ := hst
  have Htx : Hid _ := htx
  have hwrap : IntKind.i64.wrap (f y + c) = f y + c := by rw [IntKind.wrap_i64]; omega
  clear ht1 hst hcp htx
  go_enter Try.func69, Try.ntmps69
  go_upto_region 1 with fail
  rw [Hw1.out]
  clear Hw1
  go_upto_region 2 with fail
  clear c7 c5 z0 z1 z2 rx ry
  have eg := enters_of Try.func38 (by kernel_rfl) rfl
  refine wp_region_held_drew (S := (fun w' => w'.cell? ⟨b7, 0, none⟩ = some (.slice (some ⟨Bl, 0, none⟩) N N) ∧ w'.cell? ⟨b5, 0, none⟩ = some (.func (.func 38) #[] #[.pointer (some ⟨Bn, 0, none⟩)]) ∧ w'.cell? ⟨W.heap.size, 0, none⟩ = some (.int .i64 (x : Int)) ∧ w'.cell? ⟨W.heap.size, 1, none⟩ = some (.int .i64 (k : Int)) ∧ w'.cell? ⟨W.heap.size, 2, none⟩ = some (.int .i64 (y : Int)) ∧ w'.cell? ⟨Bl, y, none⟩ = some (.int .i64 (f y)))) (by kernel_rfl) (Hall.out _ (Below.refl _ _).drew) (fun hH => ?_)
  refine wpAnyH_take (i := 0) (v := .slice (some ⟨Bl, 0, none⟩) N N) rfl (by kernel_rfl) (by kernel_rfl) (by kernel_rfl) (fun _ _ _ h => h) (.inl ⟨by rfl, fun w' hS' => by obtain ⟨s7, s5, sa0, sa1, sa2, sy⟩ := hS'; go_simp⟩) hH ?_
  simp only [List.getElem_toArray, List.getElem_cons_succ, List.getElem_cons_zero, Act.put, List.setIfInBounds_toArray, List.set_cons_zero, List.set_cons_succ]
  refine wpAnyH_take (i := 1) (v := .pointer (some ⟨W.heap.size, 0, none⟩)) rfl (by kernel_rfl) (by kernel_rfl) (by kernel_rfl) (fun _ _ _ h => h) (.inl ⟨by rfl, fun w' hS' => by first | (go_simp; done) | (go_simp; rfl) | (go_simp; intro h; omega)⟩) hH ?_
  simp only [List.getElem_toArray, List.getElem_cons_succ, List.getElem_cons_zero, Act.put, List.setIfInBounds_toArray, List.set_cons_zero, List.set_cons_succ]
  refine wpAnyH_take (i := 2) (v := .int .i64 (x : Int)) rfl (by kernel_rfl) (by kernel_rfl) (by kernel_rfl) (fun _ _ _ h => h) (.inl ⟨by rfl, fun w' hS' => by obtain ⟨s7, s5, sa0, sa1, sa2, sy⟩ := hS'; go_simp⟩) hH ?_
  simp only [List.getElem_toArray, List.getElem_cons_succ, List.getElem_cons_zero, Act.put, List.setIfInBounds_toArray, List.set_cons_zero, List.set_cons_succ]
  refine wpAnyH_take (i := 3) rfl (by kernel_rfl) (by kernel_rfl) (by kernel_rfl) (fun _ _ _ h => h) (.inl ⟨by rfl, fun _ _ => rfl⟩) hH ?_
  simp only [List.getElem_toArray, List.getElem_cons_succ, List.getElem_cons_zero, Act.put, List.setIfInBounds_toArray, List.set_cons_zero, List.set_cons_succ]
  refine wpAnyH_take (i := 4) (v := .slice (some ⟨Bl, 0, none⟩) N N) rfl (by kernel_rfl) (by kernel_rfl) (by kernel_rfl) (fun _ _ _ h => h) (.inl ⟨by rfl, fun w' hS' => by obtain ⟨s7, s5, sa0, sa1, sa2, sy⟩ := hS'; go_simp⟩) hH ?_
  simp only [List.getElem_toArray, List.getElem_cons_succ, List.getElem_cons_zero, Act.put, List.setIfInBounds_toArray, List.set_cons_zero, List.set_cons_succ]
  refine wpAnyH_take (i := 5) (v := .pointer (some ⟨W.heap.size, 2, none⟩)) rfl (by kernel_rfl) (by kernel_rfl) (by kernel_rfl) (fun _ _ _ h => h) (.inl ⟨by rfl, fun w' hS' => by first | (go_simp; done) | (go_simp; rfl) | (go_simp; intro h; omega)⟩) hH ?_
  simp only [List.getElem_toArray, List.getElem_cons_succ, List.getElem_cons_zero, Act.put, List.setIfInBounds_toArray, List.set_cons_zero, List.set_cons_succ]
  refine wpAnyH_take (i := 6) (v := .int .i64 (y : Int)) rfl (by kernel_rfl) (by kernel_rfl) (by kernel_rfl) (fun _ _ _ h => h) (.inl ⟨by rfl, fun w' hS' => by obtain ⟨s7, s5, sa0, sa1, sa2, sy⟩ := hS'; go_simp⟩) hH ?_
  simp only [List.getElem_toArray, List.getElem_cons_succ, List.getElem_cons_zero, Act.put, List.setIfInBounds_toArray, List.set_cons_zero, List.set_cons_succ]
  refine wpAnyH_take (i := 7) (v := .pointer (some ⟨Bl, y, none⟩)) rfl (by kernel_rfl) (by kernel_rfl) (by kernel_rfl) (fun _ _ _ h => h) (.inl ⟨by rfl, fun w' hS' => by first | (go_simp; done) | (go_simp; rfl) | (go_simp; intro h; omega)⟩) hH ?_
  simp only [List.getElem_toArray, List.getElem_cons_succ, List.getElem_cons_zero, Act.put, List.setIfInBounds_toArray, List.set_cons_zero, List.set_cons_succ]
  refine wpAnyH_take (i := 8) (v := .int .i64 (f y)) rfl (by kernel_rfl) (by kernel_rfl) (by kernel_rfl) (fun _ _ _ h => h) (.inl ⟨by rfl, fun w' hS' => by obtain ⟨s7, s5, sa0, sa1, sa2, sy⟩ := hS'; go_simp⟩) hH ?_
  simp only [List.getElem_toArray, List.getElem_cons_succ, List.getElem_cons_zero, Act.put, List.setIfInBounds_toArray, List.set_cons_zero, List.set_cons_succ]
  refine wpAnyH_take (i := 9) (v := .func (.func 38) #[] #[.pointer (some ⟨Bn, 0, none⟩)]) rfl (by kernel_rfl) (by kernel_rfl) (by kernel_rfl) (fun _ _ _ h => h) (.inl ⟨by rfl, fun w' hS' => by obtain ⟨s7, s5, sa0, sa1, sa2, sy⟩ := hS'; go_simp⟩) hH ?_
  simp only [List.getElem_toArray, List.getElem_cons_succ, List.getElem_cons_zero, Act.put, List.setIfInBounds_toArray, List.set_cons_zero, List.set_cons_succ]
  refine wpAnyH_take (i := 10) (v := .agg #[.int .i64 (x : Int), .int .i64 (k : Int), .int .i64 (y : Int)]) rfl (by kernel_rfl) (by kernel_rfl) (by kernel_rfl) (fun _ _ _ h => h) (.inl ⟨by rfl, fun w' hS' => by obtain ⟨s7, s5, sa0, sa1, sa2, sy⟩ := hS'; go_simp⟩) hH ?_
  simp only [List.getElem_toArray, List.getElem_cons_succ, List.getElem_cons_zero, Act.put, List.setIfInBounds_toArray, List.set_cons_zero, List.set_cons_succ]
  refine wpAnyH_ready (rs := [11]) (by kernel_rfl) (by simp) ?_
  refine AllReadyH.cons rfl (fun K hK => ?_) AllReadyH.nil
  simp only [List.getElem_toArray, List.getElem_cons_succ, List.getElem_cons_zero]
  rw [if_pos (by rfl)]
  go_wp2_with fail
  refine (label_any Bn n tv (x : Int) (y : Int) k _ (by exact (hL.below hJ1.below).below ((Below.refl _ _).drew)) hk).mono ?_
  rintro e w3 ⟨rfl, rfl⟩
  have bn3 : Below w1.heap.size w1 (w1.drew.alloc (.cells #[.int .i64 (x : Int), .int .i64 (k : Int), .int .i64 (y : Int)] 69)) := (Below.refl w1.heap.size w1).drew.trans (below_new w1.drew _)
  obtain ⟨w3, Hw3⟩ : ∃ w3, Hid (w1.drew.alloc (.cells #[.int .i64 (x : Int), .int .i64 (k : Int), .int .i64 (y : Int)] 69) = w3) := ⟨_, rfl⟩
  rw [Hw3.out] at bn3
  have hJ3 : LeastJ w Bl b7 b5 Bn N f w3 := hJ1.to bn3 hJ1.below.size hJ1.row.lt (by omega) (by omega)
  have hA3 := (bn3.block _ (by omega)).trans hA1
  rw [Hw3.out]
  refine hK.out _ _ (Hall.out w3 bn3) (fun hH => ?_)
  refine wpAnyH_take (i := 12) (v := .int .i64 c) rfl (by kernel_rfl) (by kernel_rfl) (by kernel_rfl) (fun _ _ _ h => h) (.inl ⟨by rfl, fun w' hS' => by first | (go_simp; done) | (go_simp; rfl) | (go_simp; intro h; omega)⟩) hH ?_
  simp only [List.getElem_toArray, List.getElem_cons_succ, List.getElem_cons_zero, Act.put, List.setIfInBounds_toArray, List.set_cons_zero, List.set_cons_succ]
  refine wpAnyH_take (i := 13) (v := .int .i64 (f y + c)) rfl (by kernel_rfl) (by kernel_rfl) (by kernel_rfl) (fun _ _ _ h => h) (.inl ⟨by rfl, fun w' hS' => by first | (go_simp; done) | (go_simp; rfl) | (go_simp; intro h; omega)⟩) hH ?_
  simp only [List.getElem_toArray, List.getElem_cons_succ, List.getElem_cons_zero, Act.put, List.setIfInBounds_toArray, List.set_cons_zero, List.set_cons_succ]
  have ht1 := Ht.out
  refine wpAnyH_take (i := 14) (v := .int .i64 t) rfl (by kernel_rfl) (by kernel_rfl) (by kernel_rfl) (fun _ _ _ h => h) (.inl ⟨by rfl, fun w' hS' => by first | (go_simp; done) | (go_simp; rfl) | (go_simp; intro h; omega)⟩) hH ?_
  simp only [List.getElem_toArray, List.getElem_cons_succ, List.getElem_cons_zero, Act.put, List.setIfInBounds_toArray, List.set_cons_zero, List.set_cons_succ]
  refine wpAnyH_take (i := 15) (v := .pointer (some ⟨Bl, x, none⟩)) rfl (by kernel_rfl) (by kernel_rfl) (by kernel_rfl) (fun _ _ _ h => h) (.inl ⟨by rfl, fun w' hS' => by first | (go_simp; done) | (go_simp; rfl) | (go_simp; intro h; omega)⟩) hH ?_
  simp only [List.getElem_toArray, List.getElem_cons_succ, List.getElem_cons_zero, Act.put, List.setIfInBounds_toArray, List.set_cons_zero, List.set_cons_succ]
  clear ht1
  have o0 := hJ3.row.cells x hx
  have f0 := hJ3.row.frozen x hx
  refine wpAnyH_ready (rs := [16]) (by kernel_rfl) (by simp) ?_
  refine AllReadyH.cons rfl (fun K hK => ?_) AllReadyH.nil
  simp only [List.getElem_toArray, List.getElem_cons_succ, List.getElem_cons_zero]
  rw [if_pos (by rfl)]
  go_wp2_with fail
  have hR5 : IntRow (w3.setCell ⟨Bl, x, none⟩ (.int .i64 t)) Bl N (updI f x t) := hJ3.row.put hx (updI_same f x t) (fun j hj hne => updI_other f t hne)
  have hB5 : Below Bl w3 (w3.setCell ⟨Bl, x, none⟩ (.int .i64 t)) := (Below.refl _ _).setCell (p := ⟨Bl, x, none⟩) (Nat.le_refl _) _
  have ho5 : ∀ i, i ≠ Bl → (w3.setCell ⟨Bl, x, none⟩ (.int .i64 t)).heap[i]? = w3.heap[i]? := fun i hi => Below.heap_setCell _ _ _ _ (by exact hi)
  have hz5 : (w3.setCell ⟨Bl, x, none⟩ (.int .i64 t)).heap.size = w3.heap.size := by simp [World.setCell]
  obtain ⟨W5, HW5⟩ : ∃ W5, Hid (w3.setCell ⟨Bl, x, none⟩ (.int .i64 t) = W5) := ⟨_, rfl⟩
  rw [HW5.out] at hR5 hB5 ho5 hz5 ⊢
  have hA5 := (ho5 W.heap.size (by omega)).trans hA3
  have hJ5 : LeastJ w Bl b7 b5 Bn N (updI f x t) W5 := ⟨hR5, (ho5 _ hne7).trans hJ3.box7, (ho5 _ hne5).trans hJ3.box5, hJ3.below.trans (hB5.mono (by omega))⟩
  have hcy : W5.cell? ⟨Bl, y, none⟩ = some (.int .i64 (f y)) := by
    rw [hR5.cells y hy]
    by_cases e : y = x
    · subst e
      rw [updI_same]
      have := Ht.out
      have := Hcp.out
      rw [if_neg (by omega)] at Ht
      rw [Ht.out]
    · rw [updI_other _ _ e]
  obtain ⟨z0, z1, z2⟩ := arc_cells hA5
  obtain ⟨c7, _⟩ := box_cell hJ5.box7
  obtain ⟨c5, _⟩ := box_cell hJ5.box5
  refine hK.out _ _ ⟨c7, c5, z0, z1, z2, hcy⟩ (fun hH => ?_)
  refine wpAnyH_done (by kernel_rfl) ?_ _
  have rx : W5.cell? ⟨Bl, x, none⟩ = some (.int .i64 t) := by rw [hR5.cells x hx, updI_same]
  have hN5 : Newer ws W W5 := ⟨by rw [hz5]; have := bn3.size; omega, fun i h1 h2 => by rw [ho5 i (by omega), bn3.block i (by omega), b1.block i h2]⟩
  have hF5 : LeastOk n s E (updI f x t) := by rw [← Hst.out]; exact hF.step ha (by rw [hNs]; exact hx) (by rw [hNs]; exact hy) hlb
  have Hres : Hid (∀ b : Bool, b = (t != f x) → ∃ f' b', Ending.returned (.bool b) = .returned (.bool b') ∧ (LeastJ w Bl b7 b5 Bn N f' W5 ∧ LeastOk n s E f') ∧ (b' = true → sumI N f' < sumI N f) ∧ (b' = false → f' = f ∧ LeastShut n f ((x : Int), (k : Int), (y : Int))) ∧ Newer ws W W5) := by
    intro b hb
    subst hb
    cases he : (t != f x)
    · have hte : t = f x := by simpa using he
      have hsame : ∀ j, j < N → f j = updI f x t j := fun j hj => by
        by_cases e : j = x
        · subst e; rw [updI_same, hte]
        · rw [updI_other _ _ e]
      refine ⟨f, false, rfl, ⟨⟨hJ5.row.same hsame, hJ5.box7, hJ5.box5, hJ5.below⟩, hF⟩, fun h => (by cases h), fun _ => ⟨rfl, ?_⟩, hN5⟩
      unfold LeastShut
      simp only [Int.toNat_natCast]
      rw [Hc.out]
      have h1 := Ht.out
      rw [hte] at h1
      split at h1 <;> omega
    · have hte : t ≠ f x := by simpa using he
      have h2 := Htx.out
      exact ⟨updI f x t, true, rfl, ⟨hJ5, hF5⟩, fun _ => sumI_less hx (by omega) h2.2, fun h => (by cases h), hN5⟩
  clear hJ3 hA3 hJ1 hA1 Hall hH o0 f0 HW5 hR5 hB5 ho5 hz5 hcy Hw3 hc1 hF5 hF eg
  go_wp2
  go_ret
  exact Hres.out _ rfl

end Go.Proofs.Ytakgppoeikcepaa

/- Package tongue as it landed: leastTo, walked. -/
namespace Go.Proofs.Ytakgppoeikcepaa
open Go.RowKit Go.Shelf
set_option linter.unusedVariables false
set_option linter.unusedSimpArgs false
set_option maxRecDepth 4000

theorem same_len {x E : List Int} (hl : x.length = E.length) : (coversL x E && coversL E x) = true ↔ x = E := by
  rw [sameL_iff]
  constructor
  · intro h
    apply List.ext_getElem?
    intro j
    have := h j
    unfold nth at this
    by_cases hj : j < x.length
    · rw [List.getElem?_eq_getElem hj, List.getElem?_eq_getElem (by omega)]
      simp only [List.getD, List.getElem?_eq_getElem hj, List.getElem?_eq_getElem (show j < E.length by omega), Option.getD_some] at this
      rw [this]
    · rw [List.getElem?_eq_none (by omega), List.getElem?_eq_none (by omega)]
  · rintro rfl j; rfl

theorem make_introw (w : World) (n : Nat) (hn : n ≤ 300) :
    ∃ w1, (Instr.makeSlice 25 (.int .i64 (n : Int)) (.int .i64 (n : Int))).run Try.prog w = .ok (.slice (some ⟨w.heap.size, 0, none⟩) n n) w1 ∧
      Below w.heap.size w w1 ∧ w1.heap.size = w.heap.size + 1 ∧ IntRow w1 w.heap.size n (fun _ => 0) := by
  obtain ⟨i0, hi, hz0, hz1, hz2⟩ := info_parts info_int
  have h := run_make (P := Try.prog) w 25 3 i0 (.int .i64 0) Try.underlying25 hi hz0 .i64 .i64 n n (by omega) (by omega) (by rw [hz2]; omega) (by omega)
  simp only [Int.toNat_natCast] at h
  refine ⟨_, h, (Below.refl _ _).alloc (Nat.le_refl _) _, by simp, fun j hj => ?_, fun j hj => World.frozen?_alloc_at _ _ _ _ rfl, by simp⟩
  rw [World.cell?_alloc_at _ _ _ _ rfl]
  simp [madeCells, hz1, Value.cells, hj, Nat.mod_one]

/-- The first k marks have their first numbers. -/
def firstTo' (s : SpaceL) (E : List Int) (k : Nat) : Nat → Int := fun m => if m < k then (if markAt s.marks m = E then 0 else 300) else 0

set_option maxRecDepth 100000 in
set_option maxHeartbeats 4000000 in
theorem leastTo_any (n : NetL) (tv mv av u : Value) (s : SpaceL) (E : List Int) (Bn : Nat) (w : World) (hL : LabAt w Bn n tv) (hM : Lists w mv s.marks) (hA : Arcs w av (s.arcs.map arcZ)) (hu : Ints w u E) (hN : s.marks.length ≤ 300)
    (hml : ∀ m, m < s.marks.length → (markAt s.marks m).length = E.length)
    (hs : ∀ a ∈ s.arcs, a.frm < s.marks.length ∧ a.dst < s.marks.length ∧ a.tran < n.trans.length ∧ 0 ≤ labT n a.tran) :
    Calls Try.prog 40 #[.agg #[mv, av], u, .func (.func 38) #[] #[.pointer (some ⟨Bn, 0, none⟩)]] w fun e w' => ∃ (Bl : Nat) (f : Nat → Int), e = .returned (.slice (some ⟨Bl, 0, none⟩) s.marks.length s.marks.length) ∧ IntRow w' Bl s.marks.length f ∧
      LeastAll n s E f ∧ w.heap.size ≤ Bl ∧ Below w.heap.size w w' := by
  obtain ⟨am, cm, rfl, _, _⟩ := hM.slice
  obtain ⟨aa, ca, rfl, _⟩ := hA.slice
  obtain ⟨N, HN⟩ : ∃ N, Hid (s.marks.length = N) := ⟨_, rfl⟩
  obtain ⟨la, Hla⟩ : ∃ la, Hid ((s.arcs.map arcZ).length = la) := ⟨_, rfl⟩
  have hdone := @LeastOk.done n s E
  rw [HN.out] at hN hs hM hml hdone ⊢
  rw [Hla.out] at hA ⊢
  obtain ⟨w2, Hw2, b2, hs2, hX2, hF2⟩ := boxesS w (.slice am N cm) (.slice aa la ca) (.func (.func 38) #[] #[.pointer (some ⟨Bn, 0, none⟩)]) 94
  obtain ⟨w3, hmk, b3, hs3, hR3⟩ := make_introw w2 N hN
  rw [hs2] at hmk hs3 hR3
  obtain ⟨x0, x1⟩ := pair_cells hX2
  have b4 := below_new w3 (.cells #[.slice (some ⟨w.heap.size + 2, 0, none⟩) N N] 25)
  have hb4 := heap_alloc_at w3 (.cells #[.slice (some ⟨w.heap.size + 2, 0, none⟩) N N] 25)
  obtain ⟨w4, Hw4⟩ : ∃ w4, Hid (w3.alloc (.cells #[.slice (some ⟨w.heap.size + 2, 0, none⟩) N N] 25) = w4) := ⟨_, rfl⟩
  rw [Hw4.out] at b4 hb4
  rw [hs3] at hb4
  have hX4 := (b4.block _ (by omega)).trans ((b3.block _ (by omega)).trans hX2)
  have hJ4 : LeastJ w (w.heap.size + 2) (w.heap.size + 2 + 1) (w.heap.size + 1) Bn N (firstTo' s E 0) w4 :=
    ⟨(hR3.keep b4.size (b4.block _ (by omega))).same (fun m hm => by simp [firstTo']), hb4, (b4.block _ (by omega)).trans ((b3.block _ (by omega)).trans hF2), below_then (below_then b2 b3) b4⟩
  go_enter Try.func40, Try.ntmps40
  go_upto_region 1 with fail
  rw [Hw2.out]
  go_upto_region 2 with fail
  rw [Hw4.out]
  clear Hw2 Hw4 hmk x0 x1 hX2 hF2 hR3 b2 b3 b4 hb4 hs2 hs3
  obtain ⟨x0, x1⟩ := pair_cells hX4
  go_wp2_with fail
  clear x0 x1
  go_loopg [17] N (fun g i wr => ∃ k : Nat, k + g = N ∧ i = .int .i64 (k : Int) ∧ LeastJ w (w.heap.size + 2) (w.heap.size + 2 + 1) (w.heap.size + 1) Bn N (firstTo' s E k) wr ∧ wr.heap[w.heap.size]? = some (.cells #[.slice am N cm, .slice aa la ca] 49 (0, 0)))
  case atStart => exact ⟨0, by omega, rfl, hJ4, hX4⟩
  case round =>
    clear hJ4 hX4
    obtain ⟨k, hkg, rfl, hJ, hX⟩ := hrel
    by_cases hk : k < N
    · have hk' : decide ((k : Int) < (N : Int)) = true := by rw [decide_eq_true_eq]; omega
      obtain ⟨c7, _⟩ := box_cell hJ.box7
      have Hnext : Hid (∀ (t : Int) (W5 : World), (t = if markAt s.marks k = E then 0 else 300) → IntRow W5 (w.heap.size + 2) N (updI (firstTo' s E k) k t) → (∀ i, i ≠ w.heap.size + 2 → W5.heap[i]? = wr.heap[i]?) → Below (w.heap.size + 2) wr W5 → LeastJ w (w.heap.size + 2) (w.heap.size + 2 + 1) (w.heap.size + 1) Bn N (firstTo' s E (k + 1)) W5 ∧ W5.heap[w.heap.size]? = some (.cells #[.slice am N cm, .slice aa la ca] 49 (0, 0))) := by
        intro t W5 ht hR ho hB
        refine ⟨⟨hR.same (fun m hm => ?_), (ho _ (by omega)).trans hJ.box7, (ho _ (by omega)).trans hJ.box5, hJ.below.trans (hB.mono (by omega))⟩, (ho _ (by omega)).trans hX⟩
        by_cases e : m = k
        · subst e; rw [updI_same, ht]; simp [firstTo']
        · rw [updI_other _ _ e]
          have : (m < k + 1) ↔ (m < k) := by omega
          simp only [firstTo', this]
      obtain ⟨b1, o1, u1, rfl, _, e1, i1⟩ := (hM.below hJ.below).at hk
      have hu' := hu.below hJ.below
      have hsame := same_len (hml k hk)
      have ro := hJ.row.cells k hk
      have fo := hJ.row.frozen k hk
      have hk0 : firstTo' s E k k = 0 := by simp [firstTo']
      rw [hk0] at ro
      have HJ : Hid _ := hJ
      have HX : Hid _ := hX
      clear hJ hX
      cases hc : (coversL (markAt s.marks k) E && coversL E (markAt s.marks k))
      · have hne : ¬ markAt s.marks k = E := fun e => by rw [hsame.2 e] at hc; cases hc
        have hR5 := HJ.out.row.put (g := updI (firstTo' s E k) k 300) hk (updI_same _ k 300) (fun j hj hne => updI_other _ 300 hne)
        have R := Hnext.out 300 (wr.setCell ⟨w.heap.size + 2, k, none⟩ (.int .i64 300)) (by rw [if_neg hne]) hR5 (fun i hi => Below.heap_setCell _ _ _ _ (by exact hi)) ((Below.refl _ _).setCell (p := ⟨w.heap.size + 2, k, none⟩) (Nat.le_refl _) _)
        clear hsame hR5 hk0
        go_wp2_with fail
        refine (same_any _ _ _ _ _ i1 hu').mono ?_
        rintro e w5 ⟨rfl, rfl⟩
        rw [hc]
        go_wp2
        go_roundg (gk - 1)
        case measure => omega
        case rel => exact ⟨k + 1, by omega, by go_num, R.1, R.2⟩
      · have he : markAt s.marks k = E := hsame.1 hc
        have R := Hnext.out 0 wr (by rw [if_pos he]) (HJ.out.row.same (fun j hj => by
          by_cases e : j = k
          · subst e; rw [updI_same, hk0]
          · rw [updI_other _ _ e])) (fun _ _ => rfl) (Below.refl _ _)
        clear hsame hk0
        go_wp2_with fail
        refine (same_any _ _ _ _ _ i1 hu').mono ?_
        rintro e w5 ⟨rfl, rfl⟩
        rw [hc]
        go_wp2
        go_roundg (gk - 1)
        case measure => omega
        case rel => exact ⟨k + 1, by omega, by go_num, R.1, R.2⟩
    · obtain rfl : k = N := by omega
      obtain ⟨x0, x1⟩ := pair_cells hX
      have hJs : LeastOk n s E (firstTo' s E k) := LeastOk.start fun m hm => by rw [HN.out] at hm; simp [firstTo', hm]
      have hltF : w.heap.size + 2 + 1 < wr.heap.size := (Array.getElem?_eq_some_iff.1 hJ.box7).1
      go_wp2_with fail
      refine (settle_any (σ := Nat → Int) (.slice aa la ca) (s.arcs.map arcZ) 69 #[.pointer (some ⟨w.heap.size + 2 + 1, 0, none⟩), .pointer (some ⟨w.heap.size + 1, 0, none⟩)] (enters_of Try.func69 (by kernel_rfl) rfl) wr
        (fun f W => LeastJ w (w.heap.size + 2) (w.heap.size + 2 + 1) (w.heap.size + 1) Bn k f W ∧ LeastOk n s E f) (sumI k) (LeastShut n) (fun f W h => hA.below h.1.below)
        (fun f W W' h hb => ⟨h.1.to hb hJ.below.size (by omega) (by omega) (by omega), h.2⟩)
        (fun f W a ha h hw => by
          obtain ⟨b, hb, rfl⟩ := List.mem_map.1 ha
          obtain ⟨q1, q2, q3, q4⟩ := hs b hb
          exact least_step n tv s E k HN.out hN w (w.heap.size + 2) (w.heap.size + 2 + 1) (w.heap.size + 1) Bn wr.heap.size hL ⟨by omega, by omega⟩ ⟨by omega, by omega⟩ ⟨by omega, by omega⟩ (by omega) (by omega) f W b.frm b.tran b.dst hb q1 q2 q3 q4 h.1 h.2 hw)
        (firstTo' s E k) ⟨hJ, hJs⟩).mono ?_
      rintro e w5 ⟨⟨v, rfl⟩, f, ⟨hJf, hFf⟩, hsh, _⟩
      have R := hdone hFf hN (fun a ha => ⟨(hs a ha).1, (hs a ha).2.1, (hs a ha).2.2.2⟩) hsh
      obtain ⟨c7, _⟩ := box_cell hJf.box7
      clear hJ hX x0 x1 hJs
      go_wp2
      go_ret
      exact ⟨_, f, rfl, hJf.row, R, by omega, hJf.below⟩

end Go.Proofs.Ytakgppoeikcepaa
