/- What can be seen of a net, in memory; mayEnd. -/
import Derived.Test.YteoofibhpifmlaaDoorTongRange
import Derived.Test.YteoofibhpifmlaaDoorNet1
import Derived.Test.YteoofibhpifmlaaDoorMarkAll
namespace Go.Proofs.YteoofibhpifmlaaDoor
open Go.RowKit Go.Shelf
set_option linter.unusedVariables false
set_option maxRecDepth 4000

attribute [local go_sem] Oper.semAt_some

/-- All that can be seen of a net, plainly. -/
structure TalkL where
  n : Nat
  bg : SetL
  next : Nat → Nat → SetL
  least : List Int

structure TalkAt (w : World) (T bn : Nat) (lv : Value) (t : TalkL) : Prop where
  cells : w.heap[T]? = some (.cells #[.int .u64 (t.bg.at_ 0 : Nat), .int .u64 (t.bg.at_ 1 : Nat), .int .u64 (t.bg.at_ 2 : Nat), .int .u64 (t.bg.at_ 3 : Nat), .int .u64 (t.bg.at_ 4 : Nat), .slice (some ⟨bn, 0, none⟩) t.n t.n, lv] 51 (0, 0))
  next : ∀ m c, m < t.n → c < 27 → SetC w bn (m * 135 + c * 5) (t.next m c)
  least : Ints w lv t.least
  len : t.least.length = t.n
  small : t.n ≤ 300

theorem TalkAt.below {w w' : World} {T bn : Nat} {lv : Value} {t : TalkL} (h : TalkAt w T bn lv t) (hb : Below w.heap.size w w') : TalkAt w' T bn lv t :=
  ⟨(hb.block T (Array.getElem?_eq_some_iff.1 h.cells).1).trans h.cells, fun m c hm hc => (h.next m c hm hc).below hb, h.least.below hb, h.len, h.small⟩
theorem TalkAt.c5 {w : World} {T bn : Nat} {lv : Value} {t : TalkL} (h : TalkAt w T bn lv t) : w.cell? ⟨T, 5, none⟩ = some (.slice (some ⟨bn, 0, none⟩) t.n t.n) := by simp [World.cell?, h.cells]
theorem TalkAt.c6 {w : World} {T bn : Nat} {lv : Value} {t : TalkL} (h : TalkAt w T bn lv t) : w.cell? ⟨T, 6, none⟩ = some lv := by simp [World.cell?, h.cells]
theorem TalkAt.least_at {w : World} {T bn : Nat} {lv : Value} {t : TalkL} (h : TalkAt w T bn lv t) {m : Nat} (hm : m < t.n) : ∃ b off cap, lv = .slice (some ⟨b, off, none⟩) t.n cap ∧ b < w.heap.size ∧ w.cell? ⟨b, off + m, none⟩ = some (.int .i64 (nth t.least m)) := by
  obtain ⟨a, len, cap, e, hl, _, _, hr⟩ := h.least
  obtain ⟨b, off, ha, hlt, hc⟩ := hr m (by rw [h.len]; exact hm)
  exact ⟨b, off, cap, by rw [e, ha, ← hl, h.len], hlt, hc⟩

/-- Does one of these marks end without letters? -/
def endsT (t : TalkL) (at_ : SetL) (b : Bool) : Prop := b = true ↔ ∃ m, m < t.n ∧ at_.has m = true ∧ nth t.least m = 0

theorem boxesM (w : World) (v0 v2 : Value) (s : SetL) (t0 t2 : TypeId) : ∃ w3, Hid (((w.alloc (.cells #[v0] t0)).alloc (.cells #[.int .u64 (s.at_ 0 : Nat), .int .u64 (s.at_ 1 : Nat), .int .u64 (s.at_ 2 : Nat), .int .u64 (s.at_ 3 : Nat), .int .u64 (s.at_ 4 : Nat)] 48)).alloc (.cells #[v2] t2) = w3) ∧ Below w.heap.size w w3 ∧ w3.heap.size = w.heap.size + 3 ∧
    w3.cell? ⟨w.heap.size, 0, none⟩ = some v0 ∧ SetAt w3 (w.heap.size + 1) s ∧ w3.heap[w.heap.size + 2]? = some (.cells #[v2] t2 (0, 0)) := by
  refine ⟨_, rfl, below_then (below_then (below_new w _) (below_new _ _)) (below_new _ _), by simp, cell_alloc_k (cell_alloc_k (cell_new_k w v0 t0)), ?_, ?_⟩
  · have := (setAt_new (w.alloc (.cells #[v0] t0)) s).below (below_new _ (.cells #[v2] t2))
    simpa using this
  · have := heap_alloc_at ((w.alloc (.cells #[v0] t0)).alloc (.cells (setC s) 48)) (.cells #[v2] t2)
    simpa using this

set_option maxRecDepth 100000 in
set_option maxHeartbeats 2000000 in
theorem mayEnd_any (T bn : Nat) (lv : Value) (t : TalkL) (s : SetL) (w : World) (hT : TalkAt w T bn lv t) (hTab : Tab w) (hs : ∀ m, m < 320 → s.has m = true → m < t.n) :
    Calls Tryd.prog 18 #[.pointer (some ⟨T, 0, none⟩), setV s] w fun e w' => ∃ b, e = .returned (.bool b) ∧ endsT t s b ∧ Below w.heap.size w w' := by
  refine (callsIn_wide (n := 5)).1 ?_
  refine callsIn_of_wp_marks Tryd.func18 rfl trivial ?_ rfl
  simp only [Tryd.ntmps18, List.size_toArray, List.length_cons, List.length_nil, Nat.reduceAdd, Nat.reduceSub, Array.replicate_succ, Array.replicate_zero, List.push_toArray, List.append_toArray, List.nil_append, List.cons_append]
  refine wpIn_wide.2 ?_
  refine Code.wp_mono (fun e a w h => noPanicOut h) ?_
  obtain ⟨w3, Hw3, b3, hs3, c0, A1, hb2⟩ := boxesM w (.pointer (some ⟨T, 0, none⟩)) (.bool false) s 43 4
  obtain ⟨_, d0, d1, d2, d3, d4⟩ := A1.c
  simp only [Nat.zero_add] at d1 d2 d3 d4
  obtain ⟨q2c, q2f⟩ := box_cell hb2
  go_upto_region 1 with fail
  rw [Hw3.out]
  go_wp2
  have q0 := c0
  have b03 : Below w.heap.size w w3 := b3
  refine (wpIn_wide (n := 5)).1 ?_
  refine range_each (n := 5) (by omega) (s := s) rfl
    (fun pre W => ((∀ m ∈ pre, nth t.least m ≠ 0) ∧ W.cell? ⟨w.heap.size, 0, none⟩ = some (.pointer (some ⟨T, 0, none⟩)) ∧ W.cell? ⟨w.heap.size + 2, 0, none⟩ = some (.bool false) ∧ W.frozen? ⟨w.heap.size + 2, 0, none⟩ = false) ∧ Below w.heap.size w W)
    (fun c pre W => ((∃ m ∈ pre, nth t.least m = 0) ∧ W.cell? ⟨w.heap.size + 2, 0, none⟩ = some (.bool true)) ∧ Below w.heap.size w W)
    (OwnFrom.and (Go.Own.from (fun s A B row hs hg hr => ⟨hs.1, Go.cell_kept hs.2.1 hg hr, Go.cell_kept hs.2.2.1 hg hr, (Go.frozen_kept hs.2.2.1 hg hr).trans hs.2.2.2⟩) _) (ownFrom_below (Nat.le_refl _) (by omega)))
    (fun c => OwnFrom.and (Go.Own.from (fun s A B row hs hg hr => ⟨hs.1, Go.cell_kept hs.2 hg hr⟩) _) (ownFrom_below (Nat.le_refl _) (by omega)))
    ⟨⟨by simp, c0, q2c, q2f⟩, b3⟩ (fun pre W h => hTab.below h.2)
    (fun m => { tmps := #[.pointer (some ⟨T, 0, none⟩), setV s, .pointer (some ⟨w.heap.size, 0, none⟩), .pointer (some ⟨w.heap.size + 1, 0, none⟩), .pointer (some ⟨w.heap.size + 1 + 1, 0, none⟩), .int .i64 (m : Int), setV s, .func (.func 35) #[setV s] #[], .int .i64 (m : Int), undef, undef, undef, undef, undef, undef, undef, undef], defers := [] }) ?assign ?body ?done ?stop
  case assign =>
    intro l m W K hK
    gi_wp2
    exact hK
  case body =>
    rintro l pre m W hl ⟨⟨hp, hc0, hcr, hfr⟩, hB⟩ hm hhas
    have hmn := hs m hm hhas
    have hTW := hT.below hB
    have t6 := hTW.c6
    obtain ⟨b, off, cap, rfl, hlt, hcl⟩ := hTW.least_at hmn
    have hn300 := hT.small
    clear c0 A1 hb2 d0 d1 d2 d3 d4 q2c q2f q0
    by_cases hz : nth t.least m = 0
    · rw [hz] at hcl
      gi_wp2
      exact ⟨(KeepsOthers.setCell _ _ _).from _, ⟨⟨m, by simp, hz⟩, World.cell?_setCell_same' _ _ _ (by rw [hcr]; rfl)⟩, hB.setCell (p := ⟨w.heap.size + 2, 0, none⟩) (by simp) _⟩
    · have hz' : (nth t.least m == 0) = false := by simpa using hz
      gi_wp2
      exact ⟨KeepsFrom.refl _ _, ⟨fun x hx => by rcases List.mem_append.1 hx with h | h; exact hp x h; rw [List.mem_singleton.1 h]; exact hz, hc0, hcr, hfr⟩, hB⟩
  case done =>
    rintro D ys W hD hys ⟨⟨hne, _, hcr, hfr⟩, hB⟩ hK
    have R : Hid (endsT t s false) := ⟨fun h => (by cases h), fun ⟨m, h1, h2, h3⟩ => absurd h3 (hne m ((hys m).2 ⟨by have := hT.small; omega, h2⟩))⟩
    clear c0 A1 hb2 d0 d1 d2 d3 d4 q2c q2f q0 hne hys
    go_wp2
    have hK' := (KeepsOthers.setCell W ⟨w.heap.size + 2, 0, none⟩ (.bool false)).same D _ hK rfl
    refine ⟨by simp, .inl ⟨_, _, rfl, run_takeDeferred hK', ?_⟩⟩
    have hc5 := Go.cell_kept (World.cell?_setCell_same' W ⟨w.heap.size + 2, 0, none⟩ (.bool false) (by rw [hcr]; rfl)) (grownBy_putObj' _ D (.deferred none)) (fun r e => by cases e; exact ⟨_, hK', rfl⟩)
    refine ⟨.bool false, ?_, false, rfl, R.out, (hB.setCell (p := ⟨w.heap.size + 2, 0, none⟩) (by simp) _).trans (belowK_b (w := w) (Nat.le_refl _) _ D _ _ (by omega) hK' rfl rfl)⟩
    simp [results, Tryd.f18, go_sem, hc5]
  case stop =>
    rintro D pre W hD hpre ⟨⟨⟨m, hm, hz⟩, hcr⟩, hB⟩ hK
    have R : Hid (endsT t s true) := ⟨fun _ => ⟨m, hs m (hpre m hm).1 (hpre m hm).2, (hpre m hm).2, hz⟩, fun _ => rfl⟩
    refine ⟨by simp, .inl ⟨_, _, rfl, run_takeDeferred hK, ?_⟩⟩
    have hc5 := Go.cell_kept hcr (grownBy_putObj' _ D (.deferred none)) (fun r e => by cases e; exact ⟨_, hK, rfl⟩)
    refine ⟨.bool true, ?_, true, rfl, R.out, hB.trans (belowK_b (w := w) (Nat.le_refl _) W D _ _ (by omega) hK rfl rfl)⟩
    simp [results, Tryd.f18, go_sem, hc5]

end Go.Proofs.YteoofibhpifmlaaDoor
