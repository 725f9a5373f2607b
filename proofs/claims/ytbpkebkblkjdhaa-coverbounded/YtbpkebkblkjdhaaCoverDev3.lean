/- Package cover as it landed: whether nothing comes of a knot. -/
import Derived.Deep.RegionHeld3
import Derived.Test.YtbpkebkblkjdhaaCoverDev2
import Derived.Test.YtbpkebkblkjdhaaMark2
namespace Go.Proofs.Ytbpkebkblkjdhaa
open Go.RowKit Go.Shelf
set_option linter.unusedVariables false

attribute [local go_sem] Oper.semAt_some

theorem noPanicOut {Q : Exit → Act → World → Prop} {e : Exit} {a : Act} {w : World} (h : NoPanic Q e a w) : Q e a w := by
  cases e <;> first | exact h | exact (h : False).elim

theorem boxes3 (w : World) (v0 v1 v2 : Value) (t0 t1 t2 : TypeId) : ∃ w3, Hid (((w.alloc (.cells #[v0] t0)).alloc (.cells #[v1] t1)).alloc (.cells #[v2] t2) = w3) ∧ Below w.heap.size w w3 ∧ w3.heap.size = w.heap.size + 3 ∧
    w3.cell? ⟨w.heap.size, 0, none⟩ = some v0 ∧ w3.cell? ⟨w.heap.size + 1, 0, none⟩ = some v1 ∧ w3.heap[w.heap.size + 2]? = some (.cells #[v2] t2 (0, 0)) := by
  refine ⟨_, rfl, below_then (below_then (below_new w _) (below_new _ _)) (below_new _ _), by simp, cell_alloc_k (cell_alloc_k (cell_new_k w v0 t0)), ?_, ?_⟩
  · have := cell_alloc_k (o := .cells #[v2] t2) (cell_new_k (w.alloc (.cells #[v0] t0)) v1 t1)
    simpa using this
  · have := heap_alloc_at ((w.alloc (.cells #[v0] t0)).alloc (.cells #[v1] t1)) (.cells #[v2] t2)
    simpa using this

def NoneIs (m : List Int) (l : List (List Int)) : Prop := ¬ m ∈ l
def OneIs (m : List Int) (l : List (List Int)) : Prop := m ∈ l
theorem NoneIs.nil (m : List Int) : NoneIs m [] := by simp [NoneIs]
theorem NoneIs.snoc {m y : List Int} {l : List (List Int)} (h : NoneIs m l) (hy : y ≠ m) : NoneIs m (l ++ [y]) := by
  intro h'
  rcases List.mem_append.1 h' with q | q
  · exact h q
  · exact hy (List.mem_singleton.1 q).symm
theorem OneIs.last {m y : List Int} (l : List (List Int)) (hy : y = m) : OneIs m (l ++ [y]) := by subst hy; simp [OneIs]

theorem boxes2 (w : World) (v0 v1 : Value) (t0 t1 : TypeId) : ∃ w3, Hid (((w.alloc (.cells #[v0] t0)).alloc (.cells #[v1] t1)).drew = w3) ∧ Below w.heap.size w w3 ∧ w3.heap.size = w.heap.size + 2 ∧
    w3.heap[w.heap.size]? = some (.cells #[v0] t0 (0, 0)) ∧ w3.cell? ⟨w.heap.size + 1, 0, none⟩ = some v1 := by
  refine ⟨_, rfl, below_then (below_then (below_new w _) (below_new _ _)) (below_drewN (Below.refl _ _) 1), by simp, ?_, ?_⟩
  · show ((w.alloc (.cells #[v0] t0)).alloc (.cells #[v1] t1)).heap[w.heap.size]? = _
    rw [(below_new (w.alloc (.cells #[v0] t0)) (.cells #[v1] t1)).block w.heap.size (by simp), heap_alloc_at]
  · simp

set_option maxRecDepth 100000 in
set_option maxHeartbeats 2000000 in
theorem tree_ends (x : Nat) (M : Int) (s : List KnotX) (kv : Value) (k : Nat) (w : World) (hT : TreeR w x M s kv) (hL : Linked s) (hk : k < s.length) (hsl : s.length ≤ 300) :
    Calls Try.prog 28 #[.pointer (some ⟨x, 0, none⟩), .int .i64 k] w fun e w' => e = .returned (.bool (seenK (knotAt s k))) ∧ Below w.heap.size w w' := by
  refine (callsIn_wide (n := 5)).1 ?_
  refine callsIn_of_wp_marks Try.func28 rfl trivial ?_ rfl
  simp only [Try.ntmps28, List.size_toArray, List.length_cons, List.length_nil, Nat.reduceAdd, Nat.reduceSub, Array.replicate_succ, Array.replicate_zero, List.push_toArray, List.append_toArray, List.nil_append, List.cons_append]
  refine wpIn_wide.2 ?_
  refine Code.wp_mono (fun e a w h => noPanicOut h) ?_
  obtain ⟨w3, Hw3, b3, hs3, c0, c1, hb2⟩ := boxes3 w (.pointer (some ⟨x, 0, none⟩)) (.int .i64 (k : Int)) (.bool false) 76 3 4
  have hT3 := hT.below b3
  obtain ⟨t0, t1⟩ := hT3.at
  obtain ⟨b, off, cap, u, hkv, hb, hc0, hc2, hi⟩ := hT3.knot hk
  subst hkv
  go_upto_region 1 with fail
  rw [Hw3.out]
  have Hup := hL.up k hk
  go_region_held3 (fun w' => w'.cell? ⟨w.heap.size, 0, none⟩ = some (.pointer (some ⟨x, 0, none⟩)) ∧ w'.cell? ⟨w.heap.size + 1, 0, none⟩ = some (.int .i64 (k : Int)) ∧ w'.cell? ⟨x, 1, none⟩ = some (.slice (some ⟨b, off, none⟩) s.length cap) ∧ w'.cell? ⟨b, off + k * 3, none⟩ = some (.int .i64 (knotAt s k).up))
    (go_keep)
    (first | (go_at_call 43; refine (marksUp_any x (knotAt s k).up _).mono ?_; rintro e w4 ⟨rfl, rfl⟩))
  go_wp2
  have hU : -1 ≤ (knotAt s k).up ∧ (knotAt s k).up < s.length := ⟨Hup.1, by omega⟩
  obtain ⟨w5, Hw5, b5, hs5, c5t, c5k⟩ := boxes2 w3 (.pointer (some ⟨x, 0, none⟩)) (.int .i64 (knotAt s k).up) 76 3
  rw [Hw5.out]
  rw [hs3] at hs5 c5t c5k
  have b05 := below_then b3 b5
  have q0 := (b5.cell (p := ⟨w.heap.size, 0, none⟩) (show w.heap.size < w3.heap.size by omega)).trans c0
  have q1 := (b5.cell (p := ⟨w.heap.size + 1, 0, none⟩) (show w.heap.size + 1 < w3.heap.size by omega)).trans c1
  have q2 := (b5.block (w.heap.size + 2) (by omega)).trans hb2
  have q2c : w5.cell? ⟨w.heap.size + 2, 0, none⟩ = some (.bool false) := by simp [World.cell?, q2]
  have q2f : w5.frozen? ⟨w.heap.size + 2, 0, none⟩ = false := by simp [World.frozen?, q2]
  have HS : Hid (seenK (knotAt s k) = (upMarks s (knotAt s k).up).contains (knotAt s k).mark) := by
    show _ = _
    rw [upMarks_line hL hk, seenK]
    simp
  refine (wpIn_wide (n := 5)).1 ?_
  refine wpIn_rangeFunc_ownF rfl (by omega) (gf := 55) (lb := #[.pointer (some ⟨w.heap.size + 3 + 1, 0, none⟩), .pointer (some ⟨w.heap.size + 3, 0, none⟩)]) rfl trivial (enters_of Try.func55 (by kernel_rfl) rfl)
    (marksUp_stops (5 - 1) (by omega) w x M s _ hT hL (knotAt s k).up hU hsl (fun _ => True) (fun _ _ => trivial) (w.heap.size + 3 + 1) (w.heap.size + 3) w5 b05 c5k c5t) keepT_t (keepT_b b05.size (by omega)) (Below.refl _ _) (fun _ => rfl)
    (fun pre W => (NoneIs (knotAt s k).mark (marksOf pre) ∧ W.cell? ⟨w.heap.size, 0, none⟩ = some (.pointer (some ⟨x, 0, none⟩)) ∧ W.cell? ⟨w.heap.size + 1, 0, none⟩ = some (.int .i64 (k : Int)) ∧ W.cell? ⟨w.heap.size + 2, 0, none⟩ = some (.bool false) ∧ W.frozen? ⟨w.heap.size + 2, 0, none⟩ = false) ∧ Below w.heap.size w W)
    (fun c pre W => (c = .ret ∧ OneIs (knotAt s k).mark (marksOf pre) ∧ W.cell? ⟨w.heap.size + 2, 0, none⟩ = some (.bool true)) ∧ Below w.heap.size w W)
    (OwnFrom.and (Go.Own.from (fun s A B row hs hg hr => ⟨hs.1, Go.cell_kept hs.2.1 hg hr, Go.cell_kept hs.2.2.1 hg hr, Go.cell_kept hs.2.2.2.1 hg hr, (Go.frozen_kept hs.2.2.2.1 hg hr).trans hs.2.2.2.2⟩) _) (ownFrom_below (Nat.le_refl _) (by omega)))
    (fun c => OwnFrom.and (Go.Own.from (fun s A B row hs hg hr => ⟨hs.1, hs.2.1, Go.cell_kept hs.2.2 hg hr⟩) _) (ownFrom_below (Nat.le_refl _) (by omega)))
    ⟨⟨NoneIs.nil _, q0, q1, q2c, q2f⟩, b05⟩
    (fun y => { tmps := #[.pointer (some ⟨x, 0, none⟩), .int .i64 k, .pointer (some ⟨w.heap.size, 0, none⟩), .pointer (some ⟨w.heap.size + 1, 0, none⟩), .pointer (some ⟨w.heap.size + 1 + 1, 0, none⟩), y.1.1, .pointer (some ⟨x, 0, none⟩), .pointer (some ⟨x, 0, none⟩), .pointer (some ⟨x, 0, none⟩), .pointer (some ⟨x, 1, none⟩), .slice (some ⟨b, off, none⟩) s.length cap, .int .i64 k, .pointer (some ⟨b, off + k * 3, none⟩), .pointer (some ⟨b, off + k * 3, none⟩), .int .i64 (knotAt s k).up, .func (.func 55) #[] #[.pointer (some ⟨w.heap.size + 3 + 1, 0, none⟩), .pointer (some ⟨w.heap.size + 3, 0, none⟩)], y.1.1, undef, undef, undef, undef, undef, undef, undef, undef, undef, undef], defers := [] }) ?assign ?body ?done ?stop
  case assign =>
    intro l y W K hK
    gi_wp2
    exact hK
  case body =>
    rintro l pre y W ⟨⟨hp, hc0', hc1', hcr, hfr⟩, hB⟩ _
    have hTW := hT.below hB
    obtain ⟨t0', t1'⟩ := hTW.at
    have hcm : W.cell? ⟨b, off + k * 3 + 2, none⟩ = some u := by
      obtain ⟨b', off', cap', u', e1, hlt, _, e2, _⟩ := hT.knot hk
      injection e1 with e1
      injection e1 with e1
      injection e1 with e1 e3
      subst e1 e3
      have h1 := (b3.cell (p := ⟨b, off + k * 3 + 2, none⟩) hlt).trans e2
      have h2 := hc2.symm.trans h1
      exact (hB.cell (p := ⟨b, off + k * 3 + 2, none⟩) hlt).trans (e2.trans h2.symm)
    have hmk : Ints W u (knotAt s k).mark := by
      obtain ⟨b', off', cap', u', e1, hlt, _, e2, e4⟩ := hTW.knot hk
      injection e1 with e1
      injection e1 with e1
      injection e1 with e1 e3
      subst e1 e3
      have h2 := hcm.symm.trans e2
      injection h2 with h2
      rw [h2]; exact e4
    have hyW : Ints W y.1.1 y.1.2 := y.2.1.below hB
    gi_wp2
    have hmx : Try.prog.follows .mixedOrders = true := by kernel_rfl
    gi_region_with_o (refine ⟨trivial, ?_⟩; gi_at_call 24; refine (CallsIn.inRound l (callsIn_wide.2 (equal_any y.1.1 u y.1.2 (knotAt s k).mark _ (by exact Ints.drewN hyW 1) (by exact Ints.drewN hmk 1)))).mono ?_; rintro e w' ⟨rfl, m, rfl⟩)
    all_goals
      obtain ⟨wd, Hwd⟩ : ∃ wd, Hid (W.drewN (1 + m) = wd) := ⟨_, rfl⟩
      have hbd : Below W.heap.size W wd := by rw [← Hwd.out]; exact below_drewN (Below.refl _ _) _
      have hko : KeepsOthers W wd := by rw [← Hwd.out]; exact keepsOthers_drewN W _
      have hBt : wd.heap[w.heap.size + 3]? = W.heap[w.heap.size + 3]? := by rw [← Hwd.out]; simp
      have d0 := (hbd.cell (p := ⟨w.heap.size, 0, none⟩) (cell_lt0 hc0')).trans hc0'
      have d1 := (hbd.cell (p := ⟨w.heap.size + 1, 0, none⟩) (cell_lt0 hc1')).trans hc1'
      have d2 := (hbd.cell (p := ⟨w.heap.size + 2, 0, none⟩) (cell_lt0 hcr)).trans hcr
      have d3 := (hbd.frozen (p := ⟨w.heap.size + 2, 0, none⟩) (cell_lt0 hcr)).trans hfr
      have hBd : Below w.heap.size w wd := below_then hB hbd
      rw [Hwd.out]
      clear Hwd hc0' hc1' hcr hfr hTW t0' t1' hcm hmk hyW c0 c1 hb2 t0 t1 hc0 hc2 hi hT3 q0 q1 q2 q2c q2f Hw5 Hw3
      cases hE : (y.1.2 == (knotAt s k).mark)
      · have hne : y.1.2 ≠ (knotAt s k).mark := by simpa using hE
        gi_wp2
        exact ⟨hko, ⟨hbd.mono hB.size, hBt⟩, ⟨by rw [marksOf_snoc]; exact hp.snoc hne, d0, d1, d2, d3⟩, hBd⟩
      · have heq : y.1.2 = (knotAt s k).mark := by simpa using hE
        gi_wp2
        exact ⟨hko.trans (KeepsOthers.setCell _ _ _), ⟨rfl, by rw [marksOf_snoc]; exact OneIs.last _ heq, World.cell?_setCell_same' _ _ _ (by rw [d2]; rfl)⟩, hBd.setCell (p := ⟨w.heap.size + 2, 0, none⟩) (by simp) _⟩
  case done =>
    rintro D ys W hD hys ⟨⟨hne, _, _, hcr, hfr⟩, hB⟩ hK
    go_wp2
    have hK' := (KeepsOthers.setCell W ⟨w.heap.size + 2, 0, none⟩ (.bool false)).same D _ hK rfl
    refine ⟨by simp, .inl ⟨_, _, rfl, run_takeDeferred hK', ?_⟩⟩
    have hc5 := Go.cell_kept (World.cell?_setCell_same' W ⟨w.heap.size + 2, 0, none⟩ (.bool false) (by rw [hcr]; rfl)) (grownBy_putObj' _ D (.deferred none)) (fun r e => by cases e; exact ⟨_, hK', rfl⟩)
    refine ⟨.bool false, ?_, ?_, (hB.setCell (p := ⟨w.heap.size + 2, 0, none⟩) (by simp) _).trans (belowK_b (w := w) (Nat.le_refl _) _ D _ _ (by omega) hK' rfl rfl)⟩
    · simp [results, Try.f28, go_sem, hc5]
    · rw [HS.out, ← hys]
      refine congrArg Ending.returned (congrArg Value.bool ?_)
      symm
      rw [← Bool.not_eq_true, List.contains_iff_mem]
      exact hne
  case stop =>
    rintro D c pre W hD hpre ⟨⟨rfl, hin, hcr⟩, hB⟩ hK
    refine wpIn_wide.2 ?_
    go_wp2
    refine ⟨by simp, .inl ⟨_, _, rfl, run_takeDeferred hK, ?_⟩⟩
    have hc5 := Go.cell_kept hcr (grownBy_putObj' _ D (.deferred none)) (fun r e => by cases e; exact ⟨_, hK, rfl⟩)
    refine ⟨.bool true, ?_, ?_, hB.trans (belowK_b (w := w) (Nat.le_refl _) W D _ _ (by omega) hK rfl rfl)⟩
    · simp [results, Try.f28, go_sem, hc5]
    · rw [HS.out]
      refine congrArg Ending.returned (congrArg Value.bool ?_)
      symm
      rw [List.contains_iff_mem]
      obtain ⟨r, hr⟩ := hpre
      rw [← hr]
      exact List.mem_append_left _ hin

end Go.Proofs.Ytbpkebkblkjdhaa
