/- behind: where one can be behind a letter. -/
import Derived.Test.YteoofibhpifmlaaDoorTongTalk
import Derived.Test.YteoofibhpifmlaaDoorRoundHeld
namespace Go.Proofs.YteoofibhpifmlaaDoor
open Go.RowKit Go.Shelf
set_option linter.unusedVariables false
set_option linter.unusedSimpArgs false
set_option maxRecDepth 4000

attribute [local go_sem] Oper.semAt_some

theorem SetAt.kept {W W' : World} {row : Option Nat} {b : Nat} {s : SetL} (h : SetAt W b s) (hg : W.grownBy W' row) (hr : ∀ r, row = some r → ∃ o : Obj, W.heap[r]? = some o ∧ o.isCells = false) : SetAt W' b s :=
  (hg.block b h.lt (fun e => by obtain ⟨o, h1, h2⟩ := hr b e.symm; rw [show W.heap[b]? = _ from h] at h1; cases h1; cases h2)).trans h

/-- Where one is behind a letter, of these marks. -/
def BehindT (t : TalkL) (s : SetL) (letter : Int) (u : SetL) : Prop := ∀ j, j < 320 → (u.has j = true ↔ 1 ≤ letter ∧ letter ≤ 26 ∧ ∃ m, m < t.n ∧ s.has m = true ∧ (t.next m letter.toNat).has j = true)

theorem boxesB (w : World) (v0 v2 : Value) (s : SetL) (t0 t2 : TypeId) : ∃ w5, Hid (((((w.alloc (.cells #[v0] t0)).alloc (.cells #[.int .u64 (s.at_ 0 : Nat), .int .u64 (s.at_ 1 : Nat), .int .u64 (s.at_ 2 : Nat), .int .u64 (s.at_ 3 : Nat), .int .u64 (s.at_ 4 : Nat)] 48)).alloc (.cells #[v2] t2)).alloc (.cells #[.int .u64 0, .int .u64 0, .int .u64 0, .int .u64 0, .int .u64 0] 48)).alloc (.cells #[.int .u64 0, .int .u64 0, .int .u64 0, .int .u64 0, .int .u64 0] 48) = w5) ∧ Below w.heap.size w w5 ∧ w5.heap.size = w.heap.size + 5 ∧
    w5.cell? ⟨w.heap.size, 0, none⟩ = some v0 ∧ SetAt w5 (w.heap.size + 1) s ∧ w5.cell? ⟨w.heap.size + 2, 0, none⟩ = some v2 ∧ SetAt w5 (w.heap.size + 3) noneS ∧ SetAt w5 (w.heap.size + 4) noneS := by
  obtain ⟨w3, H, b, hs, c0, A1, h2⟩ := boxesM w v0 v2 s t0 t2
  have b4 := below_new w3 (.cells #[.int .u64 0, .int .u64 0, .int .u64 0, .int .u64 0, .int .u64 0] 48)
  have b5 := below_new (w3.alloc (.cells #[.int .u64 0, .int .u64 0, .int .u64 0, .int .u64 0, .int .u64 0] 48)) (.cells #[.int .u64 0, .int .u64 0, .int .u64 0, .int .u64 0, .int .u64 0] 48)
  have a4 : SetAt (w3.alloc (.cells #[.int .u64 0, .int .u64 0, .int .u64 0, .int .u64 0, .int .u64 0] 48)) w3.heap.size noneS := setAt_new w3 noneS
  have a5 : SetAt ((w3.alloc (.cells #[.int .u64 0, .int .u64 0, .int .u64 0, .int .u64 0, .int .u64 0] 48)).alloc (.cells #[.int .u64 0, .int .u64 0, .int .u64 0, .int .u64 0, .int .u64 0] 48)) (w3.heap.size + 1) noneS := by
    have e : (w3.alloc (.cells #[.int .u64 0, .int .u64 0, .int .u64 0, .int .u64 0, .int .u64 0] 48)).heap.size = w3.heap.size + 1 := by simp
    have := setAt_new (w3.alloc (.cells #[.int .u64 0, .int .u64 0, .int .u64 0, .int .u64 0, .int .u64 0] 48)) noneS
    rw [e] at this
    exact this
  rw [H.out]
  rw [hs] at a4 a5
  have b45 := below_then b4 b5
  exact ⟨_, rfl, below_then b b45, by simp [hs], (b45.cell (p := ⟨w.heap.size, 0, none⟩) (show w.heap.size < w3.heap.size by omega)).trans c0, A1.below b45, (b45.cell (p := ⟨w.heap.size + 2, 0, none⟩) (show w.heap.size + 2 < w3.heap.size by omega)).trans (box_cell h2).1, a4.below b5, a5⟩

/-- What holds while marks are gone through. -/
structure BehindI (w : World) (T : Nat) (t : TalkL) (letter : Nat) (pre : List Nat) (W : World) : Prop where
  ex : ∃ u, SetAt W (w.heap.size + 4) u ∧ ∀ j, j < 320 → (u.has j = true ↔ ∃ m ∈ pre, (t.next m letter).has j = true)
  c0 : W.cell? ⟨w.heap.size, 0, none⟩ = some (.pointer (some ⟨T, 0, none⟩))
  c2 : W.cell? ⟨w.heap.size + 2, 0, none⟩ = some (.int .i64 (letter : Int))
  a3 : SetAt W (w.heap.size + 3) noneS
  below : Below w.heap.size w W

theorem behindI_own {w : World} {T : Nat} {t : TalkL} {letter : Nat} {B : Nat} (hB : w.heap.size ≤ B) : OwnFrom B (fun pre W => BehindI w T t letter pre W) := by
  intro pre W W' row hs hg hr
  obtain ⟨⟨u, h1, h2⟩, c0, c2, a3, hb⟩ := hs
  exact ⟨⟨u, h1.kept hg (fun r e => (hr r e).2), h2⟩, Go.cell_kept c0 hg (fun r e => (hr r e).2), Go.cell_kept c2 hg (fun r e => (hr r e).2), a3.kept hg (fun r e => (hr r e).2), ownFrom_below (β := List Nat) (Nat.le_refl _) hB pre W W' row hb hg hr⟩

set_option maxRecDepth 100000 in
set_option maxHeartbeats 4000000 in
theorem tbehind_any (T bn : Nat) (lv : Value) (t : TalkL) (s : SetL) (letter : Int) (w : World) (hT : TalkAt w T bn lv t) (hTab : Tab w) (hs : ∀ m, m < 320 → s.has m = true → m < t.n) :
    Calls Tryd.prog 16 #[.pointer (some ⟨T, 0, none⟩), setV s, .int .i64 letter] w fun e w' => ∃ u, e = .returned (setV u) ∧ BehindT t s letter u ∧ Below w.heap.size w w' := by
  refine (callsIn_wide (n := 5)).1 ?_
  refine callsIn_of_wp_marks Tryd.func16 rfl trivial ?_ rfl
  simp only [Tryd.ntmps16, List.size_toArray, List.length_cons, List.length_nil, Nat.reduceAdd, Nat.reduceSub, Array.replicate_succ, Array.replicate_zero, List.push_toArray, List.append_toArray, List.nil_append, List.cons_append]
  refine wpIn_wide.2 ?_
  refine Code.wp_mono (fun e a w h => noPanicOut h) ?_
  obtain ⟨w5, Hw5, b5, hs5, c0, A1, c2, A3, A4⟩ := boxesB w (.pointer (some ⟨T, 0, none⟩)) (.int .i64 letter) s 43 3
  go_upto_region 2 with fail
  rw [Hw5.out]
  clear Hw5
  by_cases hlet : 1 ≤ letter ∧ letter ≤ 26
  · obtain ⟨l, rfl⟩ := Int.eq_ofNat_of_zero_le (show 0 ≤ letter by omega)
    have t1 : decide ((l : Int) < 1) = false := by rw [decide_eq_false_iff_not]; omega
    have t2 : decide ((l : Int) > 26) = false := by rw [decide_eq_false_iff_not]; omega
    obtain ⟨_, d0, d1, d2, d3, d4⟩ := A1.c
    simp only [Nat.zero_add] at d1 d2 d3 d4
    go_wp2
    have hl26 : l < 27 := by omega
    refine (wpIn_wide (n := 5)).1 ?_
    refine range_each (n := 5) (by omega) (s := s) rfl (fun pre W => BehindI w T t l pre W) (fun c pre W => False) (behindI_own (by omega)) (fun c s A B row hs hg hr => hs)
      ⟨⟨noneS, A4, fun j hj => by rw [has_none]; simp⟩, c0, c2, A3, b5⟩ (fun pre W h => hTab.below h.below)
      (fun m => { tmps := #[.pointer (some ⟨T, 0, none⟩), setV s, .int .i64 (l : Int), .pointer (some ⟨w.heap.size, 0, none⟩), .pointer (some ⟨w.heap.size + 1, 0, none⟩), .pointer (some ⟨w.heap.size + 1 + 1, 0, none⟩), .pointer (some ⟨w.heap.size + 1 + 1 + 1, 0, none⟩), .pointer (some ⟨w.heap.size + 1 + 1 + 1 + 1, 0, none⟩), .int .i64 (m : Int), .int .i64 (l : Int), .bool false, .bool false, .int .i64 (l : Int), .bool false, .bool false, undef, setV s, .func (.func 35) #[setV s] #[], .int .i64 (m : Int), undef, undef, undef, undef, undef, undef, undef, undef, undef, undef, undef, undef], defers := [] }) ?assign ?body ?done ?stop
    case assign =>
      intro r m W K hK
      gi_wp2
      exact hK
    case body =>
      rintro r pre m W hr ⟨⟨u, hU, hu⟩, k0, k2, k3, hB⟩ hm hhas
      have hmn := hs m hm hhas
      have hTW := hT.below hB
      have t5 := hTW.c5
      have hn300 := hT.small
      obtain ⟨_, v0, v1, v2, v3, v4⟩ := hU.c
      simp only [Nat.zero_add] at v1 v2 v3 v4
      obtain ⟨_, n0, n1, n2, n3, n4⟩ := hTW.next m l hmn hl26
      clear c0 c2 A1 A3 A4 d0 d1 d2 d3 d4
      have Hall : Hid (∀ w' : World, Below w.heap.size w w' → w'.cell? ⟨w.heap.size, 0, none⟩ = W.cell? ⟨w.heap.size, 0, none⟩ → w'.cell? ⟨w.heap.size + 2, 0, none⟩ = W.cell? ⟨w.heap.size + 2, 0, none⟩ → (fun w' => w'.cell? ⟨w.heap.size, 0, none⟩ = some (.pointer (some ⟨T, 0, none⟩)) ∧ w'.cell? ⟨w.heap.size + 2, 0, none⟩ = some (.int .i64 (l : Int)) ∧ w'.cell? ⟨T, 5, none⟩ = some (.slice (some ⟨bn, 0, none⟩) t.n t.n) ∧ w'.cell? ⟨bn, m * 135 + l * 5, none⟩ = some (.int .u64 ((t.next m l).at_ 0 : Nat)) ∧ w'.cell? ⟨bn, m * 135 + l * 5 + 1, none⟩ = some (.int .u64 ((t.next m l).at_ 1 : Nat)) ∧ w'.cell? ⟨bn, m * 135 + l * 5 + 2, none⟩ = some (.int .u64 ((t.next m l).at_ 2 : Nat)) ∧ w'.cell? ⟨bn, m * 135 + l * 5 + 3, none⟩ = some (.int .u64 ((t.next m l).at_ 3 : Nat)) ∧ w'.cell? ⟨bn, m * 135 + l * 5 + 4, none⟩ = some (.int .u64 ((t.next m l).at_ 4 : Nat))) w') := fun w' hb e0 e2 => by
        have hTW' := hT.below hb
        obtain ⟨_, n0, n1, n2, n3, n4⟩ := hTW'.next m l hmn hl26
        exact ⟨e0.trans k0, e2.trans k2, hTW'.c5, n0, n1, n2, n3, n4⟩
      clear n0 n1 n2 n3 n4 t5
      gi_wp2
      refine region_round (S := (fun w' => w'.cell? ⟨w.heap.size, 0, none⟩ = some (.pointer (some ⟨T, 0, none⟩)) ∧ w'.cell? ⟨w.heap.size + 2, 0, none⟩ = some (.int .i64 (l : Int)) ∧ w'.cell? ⟨T, 5, none⟩ = some (.slice (some ⟨bn, 0, none⟩) t.n t.n) ∧ w'.cell? ⟨bn, m * 135 + l * 5, none⟩ = some (.int .u64 ((t.next m l).at_ 0 : Nat)) ∧ w'.cell? ⟨bn, m * 135 + l * 5 + 1, none⟩ = some (.int .u64 ((t.next m l).at_ 1 : Nat)) ∧ w'.cell? ⟨bn, m * 135 + l * 5 + 2, none⟩ = some (.int .u64 ((t.next m l).at_ 2 : Nat)) ∧ w'.cell? ⟨bn, m * 135 + l * 5 + 3, none⟩ = some (.int .u64 ((t.next m l).at_ 3 : Nat)) ∧ w'.cell? ⟨bn, m * 135 + l * 5 + 4, none⟩ = some (.int .u64 ((t.next m l).at_ 4 : Nat)))) (by kernel_rfl) (by kernel_rfl) (fun _ _ h => h) (Hall.out W.drew hB.drew rfl rfl) (fun hH => ?_)
      refine wpAnyH_take (i := 1) (v := .pointer (some ⟨T, 0, none⟩)) rfl (by kernel_rfl) (by kernel_rfl) (by kernel_rfl) (fun _ _ _ h => h) (.inl ⟨by rfl, fun w' hS' => by obtain ⟨s0, s2, s5, q0, q1, q2, q3, q4⟩ := hS'; go_simp⟩) hH ?_
      simp only [List.getElem_toArray, List.getElem_cons_succ, List.getElem_cons_zero, Act.put, List.setIfInBounds_toArray, List.set_cons_zero, List.set_cons_succ]
      refine wpAnyH_take (i := 2) (v := .pointer (some ⟨T, 0, none⟩)) rfl (by kernel_rfl) (by kernel_rfl) (by kernel_rfl) (fun _ _ _ h => h) (.inl ⟨by rfl, fun w' hS' => by first | (go_simp; done) | (go_simp; rfl) | (go_simp; intro h; omega)⟩) hH ?_
      simp only [List.getElem_toArray, List.getElem_cons_succ, List.getElem_cons_zero, Act.put, List.setIfInBounds_toArray, List.set_cons_zero, List.set_cons_succ]
      refine wpAnyH_take (i := 3) (v := .pointer (some ⟨T, 5, none⟩)) rfl (by kernel_rfl) (by kernel_rfl) (by kernel_rfl) (fun _ _ _ h => h) (.inl ⟨by rfl, fun w' hS' => by first | (go_simp; done) | (go_simp; rfl) | (go_simp; intro h; omega)⟩) hH ?_
      simp only [List.getElem_toArray, List.getElem_cons_succ, List.getElem_cons_zero, Act.put, List.setIfInBounds_toArray, List.set_cons_zero, List.set_cons_succ]
      refine wpAnyH_take (i := 4) (v := .slice (some ⟨bn, 0, none⟩) t.n t.n) rfl (by kernel_rfl) (by kernel_rfl) (by kernel_rfl) (fun _ _ _ h => h) (.inl ⟨by rfl, fun w' hS' => by obtain ⟨s0, s2, s5, q0, q1, q2, q3, q4⟩ := hS'; go_simp⟩) hH ?_
      simp only [List.getElem_toArray, List.getElem_cons_succ, List.getElem_cons_zero, Act.put, List.setIfInBounds_toArray, List.set_cons_zero, List.set_cons_succ]
      refine wpAnyH_take (i := 5) rfl (by kernel_rfl) (by kernel_rfl) (by kernel_rfl) (fun _ _ _ h => h) (.inl ⟨by rfl, fun _ _ => rfl⟩) hH ?_
      simp only [List.getElem_toArray, List.getElem_cons_succ, List.getElem_cons_zero, Act.put, List.setIfInBounds_toArray, List.set_cons_zero, List.set_cons_succ]
      refine wpAnyH_take (i := 6) (v := .int .i64 (l : Int)) rfl (by kernel_rfl) (by kernel_rfl) (by kernel_rfl) (fun _ _ _ h => h) (.inl ⟨by rfl, fun w' hS' => by obtain ⟨s0, s2, s5, q0, q1, q2, q3, q4⟩ := hS'; go_simp⟩) hH ?_
      simp only [List.getElem_toArray, List.getElem_cons_succ, List.getElem_cons_zero, Act.put, List.setIfInBounds_toArray, List.set_cons_zero, List.set_cons_succ]
      refine wpAnyH_take (i := 7) (v := .pointer (some ⟨bn, m * 135, none⟩)) rfl (by kernel_rfl) (by kernel_rfl) (by kernel_rfl) (fun _ _ _ h => h) (.inl ⟨by rfl, fun w' hS' => by first | (go_simp; done) | (go_simp; rfl) | (go_simp; intro h; omega)⟩) hH ?_
      simp only [List.getElem_toArray, List.getElem_cons_succ, List.getElem_cons_zero, Act.put, List.setIfInBounds_toArray, List.set_cons_zero, List.set_cons_succ]
      refine wpAnyH_take (i := 8) (v := .pointer (some ⟨bn, m * 135 + l * 5, none⟩)) rfl (by kernel_rfl) (by kernel_rfl) (by kernel_rfl) (fun _ _ _ h => h) (.inl ⟨by rfl, fun w' hS' => by first | (go_simp; done) | (go_simp; rfl) | (go_simp; intro h; omega)⟩) hH ?_
      simp only [List.getElem_toArray, List.getElem_cons_succ, List.getElem_cons_zero, Act.put, List.setIfInBounds_toArray, List.set_cons_zero, List.set_cons_succ]
      refine wpAnyH_take (i := 9) (v := setV (t.next m l)) rfl (by kernel_rfl) (by kernel_rfl) (by kernel_rfl) (fun _ _ _ h => h) (.inl ⟨by rfl, fun w' hS' => by obtain ⟨s0, s2, s5, q0, q1, q2, q3, q4⟩ := hS'; go_simp⟩) hH ?_
      simp only [List.getElem_toArray, List.getElem_cons_succ, List.getElem_cons_zero, Act.put, List.setIfInBounds_toArray, List.set_cons_zero, List.set_cons_succ]
      refine wpAnyH_ready (rs := [0]) (by kernel_rfl) (by simp) ?_
      refine AllReadyH.cons rfl (fun K hK => ?_) AllReadyH.nil
      simp only [List.getElem_toArray, List.getElem_cons_succ, List.getElem_cons_zero]
      rw [if_pos (by rfl)]
      go_wp2_with fail
      refine hK.out _ _ hH (fun hH => ?_)
      refine wpAnyH_ready (rs := [10]) (by kernel_rfl) (by simp) ?_
      refine AllReadyH.cons rfl (fun K hK => ?_) AllReadyH.nil
      simp only [List.getElem_toArray, List.getElem_cons_succ, List.getElem_cons_zero]
      rw [if_pos (by rfl)]
      go_wp2_with fail
      refine (or_any u (t.next m l) _).mono ?_
      rintro e w' ⟨rfl, bo⟩
      have hUw : SetAt w' (w.heap.size + 4) u := SetAt.below (w := W.drew) hU bo
      have hw' : Below w.heap.size w w' := hB.drew.trans (bo.mono hB.size)
      have hc0 : w'.cell? ⟨w.heap.size, 0, none⟩ = W.cell? ⟨w.heap.size, 0, none⟩ := bo.cell (p := ⟨w.heap.size, 0, none⟩) (cell_lt0 k0)
      have hc2 : w'.cell? ⟨w.heap.size + 2, 0, none⟩ = W.cell? ⟨w.heap.size + 2, 0, none⟩ := bo.cell (p := ⟨w.heap.size + 2, 0, none⟩) (cell_lt0 k2)
      refine hK.out _ _ (Hall.out w' hw' hc0 hc2) (fun hH => ?_)
      obtain ⟨_, p0, p1, p2, p3, p4⟩ := hUw.c
      simp only [Nat.zero_add] at p1 p2 p3 p4
      have f0 := hUw.frozen 0
      have f1 := hUw.frozen 1
      have f2 := hUw.frozen 2
      have f3 := hUw.frozen 3
      have f4 := hUw.frozen 4
      obtain ⟨W3, HW3, hS3, hB3, ho3, hz3⟩ := hUw.store (orS u (t.next m l))
      refine wpAnyH_ready (rs := [11]) (by kernel_rfl) (by simp) ?_
      refine AllReadyH.cons rfl (fun K hK => ?_) AllReadyH.nil
      simp only [List.getElem_toArray, List.getElem_cons_succ, List.getElem_cons_zero]
      rw [if_pos (by rfl)]
      go_wp2_with fail
      rw [HW3.out]
      have hc03 : W3.cell? ⟨w.heap.size, 0, none⟩ = W.cell? ⟨w.heap.size, 0, none⟩ := by rw [← hc0]; simp only [World.cell?]; rw [ho3 _ (by omega)]
      have hc23 : W3.cell? ⟨w.heap.size + 2, 0, none⟩ = W.cell? ⟨w.heap.size + 2, 0, none⟩ := by rw [← hc2]; simp only [World.cell?]; rw [ho3 _ (by omega)]
      have hb3 : Below w.heap.size w W3 := hw'.trans (hB3.mono (by omega))
      refine hK.out _ _ (Hall.out W3 hb3 hc03 hc23) (fun hH => ?_)
      refine wpAnyH_done (by kernel_rfl) ?_ _
      have hk3 : KeepsFrom w5.heap.size W W3 := by
        refine ⟨by rw [hz3]; exact bo.size, fun k o hk h1 h2 => ?_⟩
        have hkl : k < W.heap.size := (Array.getElem?_eq_some_iff.1 h1).1
        rw [ho3 k (by omega), bo.block k hkl]
        exact h1
      have hk3a : SetAt W3 (w.heap.size + 3) noneS := by
        have : SetAt w' (w.heap.size + 3) noneS := SetAt.below (w := W.drew) k3 bo
        exact (ho3 _ (by omega)).trans this
      refine ⟨hk3, ⟨_, hS3, fun j hj => ?_⟩, hc03.trans k0, hc23.trans k2, hk3a, hb3⟩
      rw [has_or, Bool.or_eq_true, hu j hj]
      constructor
      · rintro (⟨x, hx, hx2⟩ | hx)
        · exact ⟨x, List.mem_append_left _ hx, hx2⟩
        · exact ⟨m, List.mem_append_right _ (List.mem_singleton.2 rfl), hx⟩
      · rintro ⟨x, hx, hx2⟩
        rcases List.mem_append.1 hx with h | h
        · exact .inl ⟨x, h, hx2⟩
        · rw [List.mem_singleton.1 h] at hx2; exact .inr hx2
    case done =>
      rintro D ys W hD hys ⟨⟨u, hU, hu⟩, k0, k2, k3, hB⟩ hK
      have R : Hid (BehindT t s (l : Int) u) := fun j hj => by
        rw [hu j hj]
        constructor
        · rintro ⟨m, hm, h1⟩
          exact ⟨hlet.1, hlet.2, m, hs m ((hys m).1 hm).1 ((hys m).1 hm).2, ((hys m).1 hm).2, h1⟩
        · rintro ⟨_, _, m, h1, h2, h3⟩
          exact ⟨m, (hys m).2 ⟨by have := hT.small; omega, h2⟩, h3⟩
      obtain ⟨_, v0, v1, v2, v3, v4⟩ := hU.c
      obtain ⟨_, e0, e1, e2, e3, e4⟩ := k3.c
      simp only [Nat.zero_add] at v1 v2 v3 v4 e1 e2 e3 e4
      have f0 := k3.frozen 0
      have f1 := k3.frozen 1
      have f2 := k3.frozen 2
      have f3 := k3.frozen 3
      have f4 := k3.frozen 4
      obtain ⟨W3, HW3, hS3, hB3, ho3, hz3⟩ := k3.store u
      clear c0 c2 A1 A3 A4 d0 d1 d2 d3 d4 hys hu k0 k2
      go_wp2
      rw [HW3.out]
      have hK' : W3.heap[D]? = some (.deferred (some [])) := (ho3 D (by omega)).trans hK
      refine ⟨by simp, .inl ⟨_, _, rfl, run_takeDeferred hK', ?_⟩⟩
      have hS4 : SetAt (W3.putObj D (.deferred none)) (w.heap.size + 3) u := hS3.kept (grownBy_putObj' _ D (.deferred none)) (fun r e => by cases e; exact ⟨_, hK', rfl⟩)
      exact ⟨setV u, results_set rfl rfl hS4.c, u, rfl, R.out, (hB.trans (hB3.mono (by omega))).trans (belowK_b (w := w) (Nat.le_refl _) _ D _ _ (by omega) hK' rfl rfl)⟩
    case stop =>
      rintro D pre W hD hpre h hK
      exact h.elim
  · have R : Hid (BehindT t s letter noneS) := fun j hj => by rw [has_none]; constructor; intro h; cases h; rintro ⟨h1, h2, _⟩; omega
    obtain ⟨_, d0, d1, d2, d3, d4⟩ := A4.c
    obtain ⟨_, e0, e1, e2, e3, e4⟩ := A3.c
    simp only [Nat.zero_add] at d1 d2 d3 d4 e1 e2 e3 e4
    have f0 := A3.frozen 0
    have f1 := A3.frozen 1
    have f2 := A3.frozen 2
    have f3 := A3.frozen 3
    have f4 := A3.frozen 4
    obtain ⟨W, HW, hS, hBW, _, _⟩ := A3.store noneS
    have B : Below w.heap.size w W := b5.trans (hBW.mono (by omega))
    by_cases h1 : letter < 1
    · have t1 : decide (letter < 1) = true := by simpa using h1
      go_wp2
      rw [HW.out]
      exact ⟨setV noneS, results_set rfl rfl hS.c, noneS, rfl, R.out, B⟩
    · have t1 : decide (letter < 1) = false := by simpa using h1
      have t2 : decide (letter > 26) = true := by rw [decide_eq_true_eq]; omega
      clear h1
      go_wp2
      rw [HW.out]
      exact ⟨setV noneS, results_set rfl rfl hS.c, noneS, rfl, R.out, B⟩

end Go.Proofs.YteoofibhpifmlaaDoor
