/- Package tongue as it landed: unseen. -/
import Derived.Test.YteoofibhpifmlaaDoorTongUnseen
namespace Go.Proofs.YteoofibhpifmlaaDoor
open Go.RowKit Go.Shelf
set_option linter.unusedVariables false
set_option linter.unusedSimpArgs false
set_option maxRecDepth 4000

/-- The first k marks are alone in their sets. -/
def aloneTo (k : Nat) : Nat → SetL := fun m => if m < k then onlyS m else noneS

theorem boxesS (w : World) (mv av fv : Value) (t2 : TypeId) : ∃ w2, Hid ((w.alloc (.cells #[mv, av] 56)).alloc (.cells #[fv] t2) = w2) ∧ Below w.heap.size w w2 ∧ w2.heap.size = w.heap.size + 2 ∧
    w2.heap[w.heap.size]? = some (.cells #[mv, av] 56 (0, 0)) ∧ w2.heap[w.heap.size + 1]? = some (.cells #[fv] t2 (0, 0)) := by
  have b1 := below_new w (.cells #[mv, av] 56)
  have b2 := below_new (w.alloc (.cells #[mv, av] 56)) (.cells #[fv] t2)
  have e : (w.alloc (.cells #[mv, av] 56)).heap.size = w.heap.size + 1 := by simp
  have a := heap_alloc_at (w.alloc (.cells #[mv, av] 56)) (.cells #[fv] t2)
  rw [e] at a
  exact ⟨_, rfl, below_then b1 b2, by simp, (b2.block _ (by omega)).trans (heap_alloc_at _ _), a⟩
theorem pair_cells {w : World} {b : Nat} {x y : Value} {t : TypeId} (h : w.heap[b]? = some (.cells #[x, y] t (0, 0))) : w.cell? ⟨b, 0, none⟩ = some x ∧ w.cell? ⟨b, 1, none⟩ = some y := by
  refine ⟨?_, ?_⟩ <;> simp [World.cell?, h]

set_option maxRecDepth 100000 in
set_option maxHeartbeats 4000000 in
theorem unseen_any (n : NetL) (tv mv av : Value) (s : SpaceL) (Bn : Nat) (w : World) (hL : LabAt w Bn n tv) (hM : Lists w mv s.marks) (hA : Arcs w av (s.arcs.map arcZ)) (hN : s.marks.length ≤ 300)
    (hs : ∀ a ∈ s.arcs, a.frm < s.marks.length ∧ a.dst < s.marks.length ∧ a.tran < n.trans.length) :
    Calls Tryd.prog 32 #[.agg #[mv, av], .func (.func 31) #[] #[.pointer (some ⟨Bn, 0, none⟩)]] w fun e w' => ∃ (Bf : Nat) (f : Nat → SetL), e = .returned (.slice (some ⟨Bf, 0, none⟩) s.marks.length s.marks.length) ∧ SetRow w' Bf s.marks.length f ∧
      FarAll s.arcs (labT n) s.marks.length f ∧ w.heap.size ≤ Bf ∧ Below w.heap.size w w' := by
  obtain ⟨am, cm, rfl, _, _⟩ := hM.slice
  obtain ⟨aa, ca, rfl, _⟩ := hA.slice
  obtain ⟨N, HN⟩ : ∃ N, Hid (s.marks.length = N) := ⟨_, rfl⟩
  obtain ⟨la, Hla⟩ : ∃ la, Hid ((s.arcs.map arcZ).length = la) := ⟨_, rfl⟩
  rw [HN.out] at hN hs hM ⊢
  rw [Hla.out] at hA ⊢
  obtain ⟨w2, Hw2, b2, hs2, hX2, hF2⟩ := boxesS w (.slice am N cm) (.slice aa la ca) (.func (.func 31) #[] #[.pointer (some ⟨Bn, 0, none⟩)]) 79
  obtain ⟨w3, hmk, b3, hs3, hR3⟩ := make_sets w2 N hN
  rw [hs2] at hmk hs3 hR3
  obtain ⟨x0, x1⟩ := pair_cells hX2
  have b4 := below_new w3 (.cells #[.slice (some ⟨w.heap.size + 2, 0, none⟩) N N] 80)
  have hb4 := heap_alloc_at w3 (.cells #[.slice (some ⟨w.heap.size + 2, 0, none⟩) N N] 80)
  have hsz4 : (w3.alloc (.cells #[.slice (some ⟨w.heap.size + 2, 0, none⟩) N N] 80)).heap.size = w.heap.size + 2 + 1 + 1 := by simp [hs3]
  obtain ⟨w4, Hw4⟩ : ∃ w4, Hid (w3.alloc (.cells #[.slice (some ⟨w.heap.size + 2, 0, none⟩) N N] 80) = w4) := ⟨_, rfl⟩
  rw [Hw4.out] at b4 hb4 hsz4
  rw [hs3] at hb4
  have hX4 := (b4.block _ (by omega)).trans ((b3.block _ (by omega)).trans hX2)
  have hJ4 : FarJ w (w.heap.size + 2) (w.heap.size + 2 + 1) (w.heap.size + 1) Bn N (aloneTo 0) w4 :=
    ⟨(hR3.below b4).same (fun m hm => by simp [aloneTo]), hb4, (b4.block _ (by omega)).trans ((b3.block _ (by omega)).trans hF2), below_then (below_then b2 b3) b4⟩
  go_enter Tryd.func32, Tryd.ntmps32
  go_upto_region 1 with fail
  rw [Hw2.out]
  go_upto_region 2 with fail
  rw [Hw4.out]
  clear Hw2 Hw4 hmk x0 x1 hX2 hF2 hR3 b2 b3 b4 hb4 hs2 hs3
  obtain ⟨c5, _⟩ := box_cell hJ4.box5
  go_wp2_with fail
  clear c5
  have Hs4 : Hid (w4.heap.size = w.heap.size + 2 + 1 + 1) := hsz4
  clear hsz4
  go_loopg [13] N (fun g i wr => ∃ k : Nat, k + g = N ∧ i = .int .i64 (k : Int) ∧ FarJ w (w.heap.size + 2) (w.heap.size + 2 + 1) (w.heap.size + 1) Bn N (aloneTo k) wr ∧ wr.heap[w.heap.size]? = some (.cells #[.slice am N cm, .slice aa la ca] 56 (0, 0)))
  case atStart => exact ⟨0, by omega, rfl, hJ4, hX4⟩
  case round =>
    clear hJ4 hX4 Hs4
    obtain ⟨k, hkg, rfl, hJ, hX⟩ := hrel
    by_cases hk : k < N
    · have hk' : decide ((k : Int) < (N : Int)) = true := by rw [decide_eq_true_eq]; omega
      obtain ⟨c5, _⟩ := box_cell hJ.box5
      have hlt5 : w.heap.size + 2 + 1 < wr.heap.size := cell_lt0 c5
      have Hall : Hid (∀ w' : World, Below wr.heap.size wr w' → (fun w' => w'.cell? ⟨w.heap.size + 2 + 1, 0, none⟩ = some (.slice (some ⟨w.heap.size + 2, 0, none⟩) N N)) w') := fun w' hb => (hb.cell (p := ⟨w.heap.size + 2 + 1, 0, none⟩) hlt5).trans c5
      go_upto_region 5 with fail
      refine wp_region_held_drew (S := (fun w' => w'.cell? ⟨w.heap.size + 2 + 1, 0, none⟩ = some (.slice (some ⟨w.heap.size + 2, 0, none⟩) N N))) (by kernel_rfl) (Hall.out _ (Below.refl _ _).drew) (fun hH => ?_)
      refine wpAnyH_take (i := 0) (v := .slice (some ⟨w.heap.size + 2, 0, none⟩) N N) rfl (by kernel_rfl) (by kernel_rfl) (by kernel_rfl) (fun _ _ _ h => h) (.inl ⟨by rfl, fun w' hS' => by go_simp⟩) hH ?_
      simp only [List.getElem_toArray, List.getElem_cons_succ, List.getElem_cons_zero, Act.put, List.setIfInBounds_toArray, List.set_cons_zero, List.set_cons_succ]
      refine wpAnyH_take (i := 1) rfl (by kernel_rfl) (by kernel_rfl) (by kernel_rfl) (fun _ _ _ h => h) (.inl ⟨by rfl, fun _ _ => rfl⟩) hH ?_
      simp only [List.getElem_toArray, List.getElem_cons_succ, List.getElem_cons_zero, Act.put, List.setIfInBounds_toArray, List.set_cons_zero, List.set_cons_succ]
      refine wpAnyH_take (i := 2) rfl (by kernel_rfl) (by kernel_rfl) (by kernel_rfl) (fun _ _ _ h => h) (.inl ⟨by rfl, fun _ _ => rfl⟩) hH ?_
      simp only [List.getElem_toArray, List.getElem_cons_succ, List.getElem_cons_zero, Act.put, List.setIfInBounds_toArray, List.set_cons_zero, List.set_cons_succ]
      refine wpAnyH_ready (rs := [3]) (by kernel_rfl) (by simp) ?_
      refine AllReadyH.cons rfl (fun K hK => ?_) AllReadyH.nil
      simp only [List.getElem_toArray, List.getElem_cons_succ, List.getElem_cons_zero]
      rw [if_pos (by rfl)]
      go_wp2_with fail
      refine (only_any k (by omega) _).mono ?_
      rintro e w5 ⟨rfl, bo⟩
      have bo' : Below wr.heap.size wr w5 := (Below.refl wr.heap.size wr).drew.trans bo
      have hJ5 : FarJ w (w.heap.size + 2) (w.heap.size + 2 + 1) (w.heap.size + 1) Bn N (aloneTo k) w5 := hJ.to bo' hJ.below.size hJ.row.lt (by omega) (by omega)
      refine hK.out _ _ (Hall.out w5 bo') (fun hH => ?_)
      refine wpAnyH_take (i := 4) (v := .pointer (some ⟨w.heap.size + 2, k * 5, none⟩)) rfl (by kernel_rfl) (by kernel_rfl) (by kernel_rfl) (fun _ _ _ h => h) (.inl ⟨by rfl, fun w' hS' => by first | (go_simp; done) | (go_simp; rfl) | (go_simp; intro h; omega)⟩) hH ?_
      simp only [List.getElem_toArray, List.getElem_cons_succ, List.getElem_cons_zero, Act.put, List.setIfInBounds_toArray, List.set_cons_zero, List.set_cons_succ]
      obtain ⟨_, o0, o1, o2, o3, o4⟩ := hJ5.row.c hk
      have f0 := hJ5.row.frozen (k * 5) (by omega)
      have f1 := hJ5.row.frozen (k * 5 + 1) (by omega)
      have f2 := hJ5.row.frozen (k * 5 + 2) (by omega)
      have f3 := hJ5.row.frozen (k * 5 + 3) (by omega)
      have f4 := hJ5.row.frozen (k * 5 + 4) (by omega)
      obtain ⟨W5, HW5, hR5, hB5, ho5, hz5⟩ := hJ5.row.store hk (onlyS k)
      refine wpAnyH_ready (rs := [5]) (by kernel_rfl) (by simp) ?_
      refine AllReadyH.cons rfl (fun K hK => ?_) AllReadyH.nil
      simp only [List.getElem_toArray, List.getElem_cons_succ, List.getElem_cons_zero]
      rw [if_pos (by rfl)]
      go_wp2_with fail
      rw [HW5.out]
      have hJ6 : FarJ w (w.heap.size + 2) (w.heap.size + 2 + 1) (w.heap.size + 1) Bn N (aloneTo (k + 1)) W5 := by
        refine ⟨hR5.same (fun m hm => ?_), (ho5 _ (by omega)).trans hJ5.box5, (ho5 _ (by omega)).trans hJ5.box3, hJ5.below.trans (hB5.mono (by omega))⟩
        by_cases e : m = k
        · subst e; rw [updS_same]; simp [aloneTo]
        · rw [updS_other _ _ e]
          have : (m < k + 1) ↔ (m < k) := by omega
          simp only [aloneTo, this]
      have hX6 := (ho5 w.heap.size (by omega)).trans ((bo'.block _ (Array.getElem?_eq_some_iff.1 hX).1).trans hX)
      refine hK.out _ _ (box_cell hJ6.box5).1 (fun hH => ?_)
      refine wpAnyH_done (by kernel_rfl) ?_ _
      clear hJ hX hJ5 o0 o1 o2 o3 o4 f0 f1 f2 f3 f4 HW5 hR5 hB5 ho5 hz5 Hall hH c5
      go_wp2
      go_roundg (gk - 1)
      case measure => omega
      case rel => exact ⟨k + 1, by omega, by go_num, hJ6, hX6⟩
    · obtain rfl : k = N := by omega
      obtain ⟨x0, x1⟩ := pair_cells hX
      have hJs : FarOk s.arcs (labT n) k (aloneTo k) := FarOk.start fun m hm => by simp [aloneTo, hm]
      have hltF : w.heap.size + 2 + 1 < wr.heap.size := (Array.getElem?_eq_some_iff.1 hJ.box5).1
      go_wp2_with fail
      refine (settle_any (σ := Nat → SetL) (.slice aa la ca) (s.arcs.map arcZ) 57 #[.pointer (some ⟨w.heap.size + 2 + 1, 0, none⟩), .pointer (some ⟨w.heap.size + 1, 0, none⟩)] (enters_of Tryd.func57 (by kernel_rfl) rfl) wr
        (fun f W => FarJ w (w.heap.size + 2) (w.heap.size + 2 + 1) (w.heap.size + 1) Bn k f W ∧ FarOk s.arcs (labT n) k f) (lackM k) (FarShut (labT n)) (fun f W h => hA.below h.1.below)
        (fun f W W' h hb => ⟨h.1.to hb hJ.below.size (by omega) (by omega) (by omega), h.2⟩)
        (fun f W a ha h hw => by
          obtain ⟨b, hb, rfl⟩ := List.mem_map.1 ha
          obtain ⟨q1, q2, q3⟩ := hs b hb
          exact far_step n tv s.arcs k hN w (w.heap.size + 2) (w.heap.size + 2 + 1) (w.heap.size + 1) Bn wr.heap.size hL ⟨by omega, by omega⟩ ⟨by omega, by omega⟩ ⟨by omega, by omega⟩ (by omega) (by omega) f W b.frm b.tran b.dst hb q1 q2 q3 h.1 h.2 hw)
        (aloneTo k) ⟨hJ, hJs⟩).mono ?_
      rintro e w5 ⟨⟨v, rfl⟩, f, ⟨hJf, hFf⟩, hsh, _⟩
      have R := hFf.done hN (fun a ha => ⟨(hs a ha).1, (hs a ha).2.1⟩) hsh
      obtain ⟨c5, _⟩ := box_cell hJf.box5
      clear hJ hX x0 x1 hJs
      go_wp2
      go_ret
      exact ⟨_, f, rfl, hJf.row, R, by omega, hJf.below⟩

end Go.Proofs.YteoofibhpifmlaaDoor
