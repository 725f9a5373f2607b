import Derived.Test.YtakgppoeikcepaaGr01
import Derived.Test.YtakgppoeikcepaaGr04
import Derived.Test.YtakgppoeikcepaaGr06
/- Package sound as it landed: going through arcs from the last one on; which marks are found to come to the end, plainly. -/
namespace Go.Proofs.Ytakgppoeikcepaa
open Go.RowKit Go.Shelf
set_option linter.unusedVariables false
set_option maxRecDepth 4000

attribute [local go_sem] Oper.semAt_some

/-- An arc with its place. -/
abbrev ArcY (ls : List (Int × Int × Int)) := { y : Int × (Int × Int × Int) // y.2 ∈ ls }
def arcV (a : Int × Int × Int) : Value := .agg #[.int .i64 a.1, .int .i64 a.2.1, .int .i64 a.2.2]
def arcsOf {ls : List (Int × Int × Int)} (l : List (ArcY ls)) : List (Int × Int × Int) := l.map fun y => y.1.2
theorem arcsOf_snoc {ls : List (Int × Int × Int)} (l : List (ArcY ls)) (y : ArcY ls) : arcsOf (l ++ [y]) = arcsOf l ++ [y.1.2] := by simp [arcsOf]
theorem arcsOf_nil {ls : List (Int × Int × Int)} : arcsOf ([] : List (ArcY ls)) = [] := rfl

set_option maxRecDepth 100000 in
set_option maxHeartbeats 2000000 in
theorem backward1_in (n : Nat) (hn : 1 ≤ n) (l : Nat) (w0 : World) (b : Nat) (v : Value) (ls : List (Int × Int × Int)) (hv : Arcs w0 v ls) (J Jx : List (ArcY ls) → World → Prop)
    (hY : ∀ pre (y : ArcY ls) W, J pre W → pre.length < ls.length → YieldAt Fence.wide (n - 1) Try.prog l #[.int .i64 y.1.1, arcV y.1.2] W fun e W' =>
      (e = .returned (.bool true) ∧ J (pre ++ [y]) W' ∧ KeepT w0.heap.size b W W') ∨ (e = .returned (.bool false) ∧ Jx (pre ++ [y]) W'))
    (W : World) (hW : Below w0.heap.size w0 W) (hB : W.heap[b]? = some (.cells #[v] 47 (0, 0))) (h0 : J [] W) :
    CallsIn Fence.wide n Try.prog 86 #[.func (.yield l) #[] #[], .pointer (some ⟨b, 0, none⟩)] W fun e W' => (∃ v, e = .returned v) ∧
      ((∃ ys : List (ArcY ls), arcsOf ys = ls.reverse ∧ J ys W') ∨ (∃ pre : List (ArcY ls), (∃ r, arcsOf pre ++ r = ls.reverse) ∧ Jx pre W')) := by
  obtain ⟨a, len, cap, rfl, hlen, hmx, hsh, hr⟩ := hv
  obtain ⟨c0, _⟩ := box_cell hB
  refine callsIn_of_wp Try.func86 rfl trivial ?_ rfl
  simp only [Try.ntmps86, List.size_toArray, List.length_cons, List.length_nil, Nat.reduceAdd, Nat.reduceSub, Array.replicate_succ, Array.replicate_zero, List.push_toArray, List.append_toArray, List.nil_append, List.cons_append]
  gi_wp2
  gi_loopw [3] (fun i wr => ∃ (pre : List (ArcY ls)) (k : Nat), k ≤ len ∧ i = .int .i64 ((k : Int) - 1) ∧ pre.length + k = len ∧ arcsOf pre ++ (ls.take k).reverse = ls.reverse ∧ Below w0.heap.size w0 wr ∧ wr.heap[b]? = some (.cells #[.slice a len cap] 47 (0, 0)) ∧ J pre wr) (fun i _ => (intOf i + 1).toNat)
  case atStart => exact ⟨[], len, Nat.le_refl _, by go_num, by simp, by rw [← hlen, List.take_length]; rfl, hW, hB, h0⟩
  case round =>
    obtain ⟨pre, k, hk, rfl, hpl, hpe, hb, hBr, hJ⟩ := hrel
    obtain ⟨c1, _⟩ := box_cell hBr
    by_cases hk0 : k = 0
    · subst hk0
      have e : arcsOf pre = ls.reverse := by simpa using hpe
      gi_wp2
      go_end0
      exact ⟨⟨_, rfl⟩, .inl ⟨pre, e, hJ⟩⟩
    · obtain ⟨j, rfl⟩ : ∃ j, k = j + 1 := ⟨k - 1, by omega⟩
      have hj : j < ls.length := by omega
      obtain ⟨b1, o1, rfl, hb1, d0, d1, d2⟩ := hr j hj
      have d0 := (hb.cell (p := ⟨b1, o1 + j * 3, none⟩) hb1).trans d0
      have d1 := (hb.cell (p := ⟨b1, o1 + j * 3 + 1, none⟩) hb1).trans d1
      have d2 := (hb.cell (p := ⟨b1, o1 + j * 3 + 2, none⟩) hb1).trans d2
      have ej : (((j + 1 : Nat) : Int) - 1) = (j : Int) := by omega
      rw [ej]
      obtain ⟨x, hx, hmem⟩ : ∃ x, ls[j] = x ∧ x ∈ ls := ⟨_, rfl, List.getElem_mem hj⟩
      have Hnx : Hid (arcsOf (pre ++ [⟨((j : Int), x), hmem⟩]) ++ (ls.take j).reverse = ls.reverse) := by
        show _ = _
        rw [arcsOf_snoc, ← hpe, List.take_succ_eq_append_getElem hj, hx]
        simp
      rw [hx] at d0 d1 d2
      obtain ⟨fn, tmps, assign, body, hy, hR⟩ := hY pre ⟨((j : Int), x), hmem⟩ wr hJ (by omega)
      dsimp only [arcV] at hy
      clear hr hpe hx
      gi_wp2
      refine hR.mono ?_
      rintro e W3 (⟨rfl, hJ3, hk3⟩ | ⟨rfl, hJx3⟩)
      · gi_wp2
        go_roundw
        case rel => exact ⟨_, j, by omega, by go_num, by simp; omega, Hnx.out, hb.trans hk3.1, hk3.2.trans hBr, hJ3⟩
        case measure => simp [intOf]
      · gi_wp2
        refine bodyPost_ret (results_none rfl _ _ _) rfl ?_
        exact ⟨⟨_, rfl⟩, .inr ⟨_, ⟨_, Hnx.out⟩, hJx3⟩⟩

theorem backward_any (v : Value) (w : World) (hv : ∃ a l c, v = .slice a l c) :
    Calls Try.prog 83 #[v] w fun e w' =>
      e = .returned (.func (.func 86) #[] #[.pointer (some ⟨w.heap.size, 0, none⟩)]) ∧ w' = w.alloc (.cells #[v] 47) := by
  obtain ⟨a, l, c, rfl⟩ := hv
  go_enter Try.func83, Try.ntmps83
  go_wp2
  go_ret
  exact ⟨rfl, rfl⟩

theorem backward_stops (n : Nat) (hn : 1 ≤ n) (w0 : World) (b : Nat) (v : Value) (ls : List (Int × Int × Int)) (hv : Arcs w0 v ls) (w : World) (h0 : Below w0.heap.size w0 w) (hB : w.heap[b]? = some (.cells #[v] 47 (0, 0))) :
    SeqStopsK Fence.wide n Try.prog 86 #[.pointer (some ⟨b, 0, none⟩)] (fun y : ArcY ls => #[.int .i64 y.1.1, arcV y.1.2]) (KeepT w0.heap.size b)
      (fun ys => arcsOf ys = ls.reverse) (fun pre => ∃ r, arcsOf pre ++ r = ls.reverse) ls.length w := fun l J Jx W hW _ _ hY hJ0 =>
  backward1_in n hn l w0 b v ls hv J Jx hY W (h0.trans (hW.mono h0.size)) ((hW.block b (Array.getElem?_eq_some_iff.1 hB).1).trans hB) hJ0

/-! ### plainly -/
/-- What one pass over some arcs has come to: f at its beginning, g now; b: something was noted. -/
structure PassA (G : Nat → Prop) (n : Nat) (f g : Nat → Bool) (b : Bool) (pre : List (Int × Int × Int)) : Prop where
  grew : ∀ j, f j = true → g j = true
  sound : ∀ j, j < n → g j = true → G j
  none : b = false → g = f ∧ ∀ a ∈ pre, f a.2.2.toNat = true → f a.1.toNat = true
  some : b = true → cntF g n < cntF f n
theorem PassA.start {G : Nat → Prop} {n : Nat} {f : Nat → Bool} (h : ∀ j, j < n → f j = true → G j) : PassA G n f f false [] := ⟨fun _ h => h, h, fun _ => ⟨rfl, by simp⟩, fun h => by cases h⟩
theorem PassA.stay {G : Nat → Prop} {n : Nat} {f g : Nat → Bool} {b : Bool} {pre : List (Int × Int × Int)} (h : PassA G n f g b pre) {a : Int × Int × Int} (ha : g a.2.2.toNat = true → g a.1.toNat = true) : PassA G n f g b (pre ++ [a]) := by
  refine ⟨h.grew, h.sound, fun e => ⟨(h.none e).1, fun c hc => ?_⟩, h.some⟩
  rcases List.mem_append.1 hc with q | q
  · exact (h.none e).2 c q
  · rw [List.mem_singleton.1 q, ← (h.none e).1]; exact ha
theorem PassA.note {G : Nat → Prop} {n : Nat} {f g : Nat → Bool} {b : Bool} {pre : List (Int × Int × Int)} (h : PassA G n f g b pre) {a : Int × Int × Int} {x : Nat} (hx : a.1.toNat = x) (hxn : x < n) (hg : g x = false) (hG : G x) : PassA G n f (updT g x) true (pre ++ [a]) := by
  have hc := cntF_set hg (updT_same g x) (fun j hj => updT_other g hj) n hxn
  refine ⟨fun j hj => updT_grew (h.grew j hj), fun j hj hu => ?_, fun e => (by cases e), fun _ => ?_⟩
  · by_cases e : j = x
    · subst e; exact hG
    · rw [updT_other g e] at hu; exact h.sound j hj hu
  · cases b
    · rw [← (h.none rfl).1]; omega
    · have := h.some rfl; omega
end Go.Proofs.Ytakgppoeikcepaa

/- slices.Backward over arcs as an iterator whose rounds may change whatever but the arcs. -/
namespace Go.Proofs.Ytakgppoeikcepaa
open Go.RowKit Go.Shelf
set_option linter.unusedVariables false
set_option maxRecDepth 4000

attribute [local go_sem] Oper.semAt_some

set_option maxRecDepth 100000 in
set_option maxHeartbeats 2000000 in
theorem back_it (n : Nat) (hn : 1 ≤ n) (b : Nat) (v : Value) (ls : List (Int × Int × Int)) :
    IterOk (α := ArcY ls) n 86 #[] #[.pointer (some ⟨b, 0, none⟩)] (fun y : ArcY ls => #[.int .i64 y.1.1, arcV y.1.2]) (fun _ => True) (fun ys => arcsOf ys = ls.reverse) (fun pre => ∃ r, arcsOf pre ++ r = ls.reverse)
      (fun W => Arcs W v ls ∧ W.heap[b]? = some (.cells #[v] 47 (0, 0))) ls.length := by
  intro l J Jx hT _ hY W h0
  obtain ⟨hv, hB⟩ := hT _ _ h0
  obtain ⟨a, len, cap, rfl, hlen, hmx, hsh, hr⟩ := hv
  obtain ⟨c0, _⟩ := box_cell hB
  simp only [List.append_toArray, List.nil_append, List.cons_append]
  refine callsIn_of_wp Try.func86 rfl trivial ?_ rfl
  simp only [Try.ntmps86, List.size_toArray, List.length_cons, List.length_nil, Nat.reduceAdd, Nat.reduceSub, Array.replicate_succ, Array.replicate_zero, List.push_toArray, List.append_toArray, List.nil_append, List.cons_append]
  gi_wp2
  gi_loopw [3] (fun i wr => ∃ (pre : List (ArcY ls)) (k : Nat), k ≤ len ∧ i = .int .i64 ((k : Int) - 1) ∧ pre.length + k = len ∧ arcsOf pre ++ (ls.take k).reverse = ls.reverse ∧ J pre wr) (fun i _ => (intOf i + 1).toNat)
  case atStart => exact ⟨[], len, Nat.le_refl _, by go_num, by simp, by rw [← hlen, List.take_length]; rfl, h0⟩
  case round =>
    obtain ⟨pre, k, hk, rfl, hpl, hpe, hJ⟩ := hrel
    obtain ⟨hvr, hBr⟩ := hT _ _ hJ
    obtain ⟨c1, _⟩ := box_cell hBr
    by_cases hk0 : k = 0
    · subst hk0
      have e : arcsOf pre = ls.reverse := by simpa using hpe
      gi_wp2
      go_end0
      exact ⟨⟨_, rfl⟩, .inl ⟨pre, e, hJ⟩⟩
    · obtain ⟨j, rfl⟩ : ∃ j, k = j + 1 := ⟨k - 1, by omega⟩
      have hj : j < ls.length := by omega
      obtain ⟨b1, o1, rfl, hb1, d0, d1, d2⟩ := hvr.at hj
      have ej : (((j + 1 : Nat) : Int) - 1) = (j : Int) := by omega
      rw [ej]
      obtain ⟨x, hx, hmem⟩ : ∃ x, ls[j] = x ∧ x ∈ ls := ⟨_, rfl, List.getElem_mem hj⟩
      have Hnx : Hid (arcsOf (pre ++ [⟨((j : Int), x), hmem⟩]) ++ (ls.take j).reverse = ls.reverse) := by
        show _ = _
        rw [arcsOf_snoc, ← hpe, List.take_succ_eq_append_getElem hj, hx]
        simp
      rw [hx] at d0 d1 d2
      obtain ⟨fn, tmps, assign, body, hy, hR⟩ := hY pre ⟨((j : Int), x), hmem⟩ wr hJ (by omega) trivial
      dsimp only [arcV] at hy
      clear hr hpe hx
      gi_wp2
      refine hR.mono ?_
      rintro e W3 (⟨rfl, hJ3⟩ | ⟨rfl, hJx3⟩)
      · gi_wp2
        go_roundw
        case rel => exact ⟨_, j, by omega, by go_num, by simp; omega, Hnx.out, hJ3⟩
        case measure => simp [intOf]
      · gi_wp2
        refine bodyPost_ret (results_none rfl _ _ _) rfl ?_
        exact ⟨⟨_, rfl⟩, .inr ⟨_, ⟨_, Hnx.out⟩, hJx3⟩⟩

end Go.Proofs.Ytakgppoeikcepaa

/- settle: a change is done for all arcs, again and again, until nothing changes any more. -/
namespace Go.Proofs.Ytakgppoeikcepaa
open Go.RowKit Go.Shelf
set_option linter.unusedVariables false
set_option maxRecDepth 4000

attribute [local go_sem] Oper.semAt_some

/-- All from n on that was there is as it was. -/
def Newer (n : Nat) (W W' : World) : Prop := W.heap.size ≤ W'.heap.size ∧ ∀ k, n ≤ k → k < W.heap.size → W'.heap[k]? = W.heap[k]?
theorem Newer.from {n m : Nat} {W W' : World} (h : Newer n W W') (hm : n ≤ m) : KeepsFrom m W W' := ⟨h.1, fun k o hk h1 _ => (h.2 k (by omega) (Array.getElem?_eq_some_iff.1 h1).1).trans h1⟩
theorem Newer.ofBelow {n : Nat} {W W' : World} (h : Below W.heap.size W W') : Newer n W W' := ⟨h.size, fun k _ hk => h.block k hk⟩
theorem Newer.trans {n : Nat} {a b c : World} (h : Newer n a b) (k : Newer n b c) : Newer n a c := ⟨Nat.le_trans h.1 k.1, fun i h1 h2 => (k.2 i h1 (Nat.lt_of_lt_of_le h2 h.1)).trans (h.2 i h1 h2)⟩

theorem Marked.kept {B : Nat} {ds : List Deferred} {Ds : List Nat} {W W' : World} (h : Marked B ds Ds W) (hk : ∀ (k : Nat) (o : Obj), B ≤ k → W.heap[k]? = some o → o.isCells = false → W'.heap[k]? = some o) : Marked B ds Ds W' :=
  ⟨h.eq, h.nodup, fun D hD => ⟨(h.all D hD).1, hk D _ (h.all D hD).1 (h.all D hD).2 rfl⟩⟩

/-- What one pass over some arcs has come to: s at its beginning, s1 now; b: something was changed. -/
structure PassS {σ : Type} (M : σ → Nat) (G : σ → Int × Int × Int → Prop) (s s1 : σ) (b : Bool) (pre : List (Int × Int × Int)) : Prop where
  none : b = false → s1 = s ∧ ∀ a ∈ pre, G s a
  some : b = true → M s1 < M s
theorem PassS.start {σ : Type} {M : σ → Nat} {G : σ → Int × Int × Int → Prop} (s : σ) : PassS M G s s false [] := ⟨fun _ => ⟨rfl, by simp⟩, fun h => by cases h⟩
theorem PassS.stay {σ : Type} {M : σ → Nat} {G : σ → Int × Int × Int → Prop} {s s1 : σ} {b : Bool} {pre : List (Int × Int × Int)} (h : PassS M G s s1 b pre) {a : Int × Int × Int} (ha : G s1 a) : PassS M G s s1 b (pre ++ [a]) := by
  refine ⟨fun e => ?_, h.some⟩
  obtain ⟨rfl, h2⟩ := h.none e
  refine ⟨rfl, fun x hx => ?_⟩
  rcases List.mem_append.1 hx with q | q
  · exact h2 x q
  · rw [List.mem_singleton.1 q]; exact ha
theorem PassS.more {σ : Type} {M : σ → Nat} {G : σ → Int × Int × Int → Prop} {s s1 s2 : σ} {b : Bool} {pre pre' : List (Int × Int × Int)} (h : PassS M G s s1 b pre) (hm : M s2 < M s1) : PassS M G s s2 true pre' := by
  refine ⟨fun e => (by cases e), fun _ => ?_⟩
  cases b
  · rw [← (h.none rfl).1]; exact hm
  · exact Nat.lt_trans hm (h.some rfl)

/-- What holds at the head of the loop. -/
structure SetI {σ : Type} (w : World) (cv : Value) (ls : List (Int × Int × Int)) (J : σ → World → Prop) (M : σ → Nat) (G : σ → Int × Int × Int → Prop) (m b4 : Nat) (c : Bool) (s : σ) (ds : List Deferred) (Ds : List Nat) (wr : World) : Prop where
  meas : m = 2 * M s + (if c then 1 else 0)
  more : wr.heap[b4]? = some (.cells #[.bool c] 4 (0, 0))
  far : w.heap.size < b4
  fn : wr.heap[w.heap.size]? = some (.cells #[cv] 121 (0, 0))
  j : J s wr
  shut : c = false → ∀ a ∈ ls, G s a
  marks : Marked (w.heap.size + 1) ds Ds wr

/-- What holds within a pass. -/
structure SetP {σ : Type} (w w5 : World) (b4 : Nat) (J : σ → World → Prop) (M : σ → Nat) (G : σ → Int × Int × Int → Prop) (s : σ) {ls : List (Int × Int × Int)} (pre : List (ArcY ls)) (W : World) : Prop where
  ex : ∃ (b : Bool) (s1 : σ), W.heap[b4]? = some (.cells #[.bool b] 4 (0, 0)) ∧ J s1 W ∧ PassS M G s s1 b (arcsOf pre)
  size : w5.heap.size ≤ W.heap.size
  only : ∀ k, w.heap.size ≤ k → k < w5.heap.size → k ≠ b4 → W.heap[k]? = w5.heap[k]?

theorem setP_own {σ : Type} {w w5 : World} {b4 : Nat} {J : σ → World → Prop} {M : σ → Nat} {G : σ → Int × Int × Int → Prop} {s : σ} {ls : List (Int × Int × Int)} (hw : w.heap.size ≤ w5.heap.size)
    (hJ : ∀ s W W', J s W → Below w.heap.size W W' → J s W') : OwnFrom w5.heap.size (fun (pre : List (ArcY ls)) W => SetP w w5 b4 J M G s pre W) := by
  intro pre W W' row hs hg hr
  obtain ⟨⟨b, s1, h1, h2, h3⟩, h4, h5⟩ := hs
  have hne : ∀ k o, W.heap[k]? = some o → k < w5.heap.size → some k ≠ row := fun k o _ hk e => by have := (hr k e.symm).1; omega
  refine ⟨⟨b, s1, ?_, hJ s1 W W' h2 ((Below.refl w.heap.size W).grown hg (by omega) (fun k e => by have := (hr k e).1; omega)), h3⟩, Nat.le_trans h4 hg.size, fun k k1 k2 k3 => ?_⟩
  · rw [hg.block b4 (Array.getElem?_eq_some_iff.1 h1).1 (fun e => by
      obtain ⟨_, o, q1, q2⟩ := hr b4 e.symm
      rw [h1] at q1
      cases q1
      cases q2)]
    exact h1
  · rw [hg.block k (by omega) (fun e => by have := (hr k e.symm).1; omega)]
    exact h5 k k1 k2 k3

theorem settle_round {wr : World} {b4 : Nat} {av : Value} {c : Bool} (h : wr.heap[b4]? = some (.cells #[.bool c] 4 (0, 0))) :
    ∃ w5, Hid ((wr.setCell ⟨b4, 0, none⟩ (.bool false)).alloc (.cells #[av] 47) = w5) ∧ w5.heap.size = wr.heap.size + 1 ∧ w5.heap[b4]? = some (.cells #[.bool false] 4 (0, 0)) ∧
      Below b4 wr w5 ∧ (∀ k, k < wr.heap.size → k ≠ b4 → w5.heap[k]? = wr.heap[k]?) ∧ w5.heap[wr.heap.size]? = some (.cells #[av] 47 (0, 0)) := by
  have hlt : b4 < wr.heap.size := (Array.getElem?_eq_some_iff.1 h).1
  obtain ⟨w2, hw2⟩ : ∃ w2, wr.setCell ⟨b4, 0, none⟩ (.bool false) = w2 := ⟨_, rfl⟩
  have hs : w2.heap.size = wr.heap.size := by rw [← hw2]; simp [World.setCell]
  have h2 : w2.heap[b4]? = some (.cells #[.bool false] 4 (0, 0)) := by rw [← hw2]; exact setBox h
  have ho : ∀ k, k ≠ b4 → w2.heap[k]? = wr.heap[k]? := fun k hk => by rw [← hw2]; exact Below.heap_setCell _ _ _ _ hk
  rw [hw2]
  have b1 := below_new w2 (.cells #[av] 47)
  have hb2 : Below b4 wr w2 := by rw [← hw2]; exact (Below.refl _ _).setCell (p := ⟨b4, 0, none⟩) (Nat.le_refl _) _
  refine ⟨_, rfl, by simp [hs], (b1.block b4 (by omega)).trans h2, hb2.trans (b1.mono (by omega)), fun k hk hne => (b1.block k (by omega)).trans (ho k hne), ?_⟩
  rw [← hs]; exact heap_alloc_at _ _

set_option maxRecDepth 100000 in
set_option maxHeartbeats 4000000 in
theorem settle_any {σ : Type} (av : Value) (ls : List (Int × Int × Int)) (g : Nat) (qs : Array Value) (eg : ∀ args w, (callFunc g args).run Try.prog w = .ok (.enter g args) w) (w : World)
    (J : σ → World → Prop) (M : σ → Nat) (G : σ → Int × Int × Int → Prop) (hA : ∀ s W, J s W → Arcs W av ls)
    (hJ : ∀ s W W', J s W → Below w.heap.size W W' → J s W')
    (hstep : ∀ s W (a : Int × Int × Int), a ∈ ls → J s W → w.heap.size ≤ W.heap.size → Calls Try.prog g (#[.agg #[.int .i64 a.1, .int .i64 a.2.1, .int .i64 a.2.2]] ++ qs) W fun e W' =>
      ∃ s' b, e = .returned (.bool b) ∧ J s' W' ∧ (b = true → M s' < M s) ∧ (b = false → s' = s ∧ G s a) ∧ Newer w.heap.size W W')
    (s0 : σ) (h0 : J s0 w) :
    Calls Try.prog 66 #[av, .func (.func g) #[] qs] w fun e w' => (∃ v, e = .returned v) ∧ ∃ s', J s' w' ∧ (∀ a ∈ ls, G s' a) ∧ w.heap.size ≤ w'.heap.size := by
  obtain ⟨aa, ca, rfl, hla⟩ := (hA _ _ h0).slice
  obtain ⟨la, Hla⟩ : ∃ la, Hid (ls.length = la) := ⟨_, rfl⟩
  rw [Hla.out] at hA hla ⊢
  refine (callsIn_wide (n := 5)).1 ?_
  refine callsIn_of_wp_marks Try.func66 rfl trivial ?_ rfl
  simp only [Try.ntmps66, List.size_toArray, List.length_cons, List.length_nil, Nat.reduceAdd, Nat.reduceSub, Array.replicate_succ, Array.replicate_zero, List.push_toArray, List.append_toArray, List.nil_append, List.cons_append]
  refine wpIn_wide.2 ?_
  refine Code.wp_mono (fun e a w h => noPanicOut h) ?_
  have b1 := below_new w (.cells #[.func (.func g) #[] qs] 121)
  have b2 := below_new (w.alloc (.cells #[.func (.func g) #[] qs] 121)) (.cells #[.bool true] 4)
  have e1 : (w.alloc (.cells #[.func (.func g) #[] qs] 121)).heap.size = w.heap.size + 1 := by simp
  have hI0 : SetI w (.func (.func g) #[] qs) ls J M G (2 * M s0 + 1) (w.heap.size + 1) true s0 [] [] ((w.alloc (.cells #[.func (.func g) #[] qs] 121)).alloc (.cells #[.bool true] 4)) := by
    have b12 := below_then b1 b2
    refine ⟨rfl, by rw [← e1]; exact heap_alloc_at _ _, by omega, (b2.block _ (by omega)).trans (heap_alloc_at _ _), hJ s0 w _ h0 b12, fun h => (by cases h), ⟨rfl, List.nodup_nil, by simp⟩⟩
  obtain ⟨w6, Hw6⟩ : ∃ w6, Hid ((w.alloc (.cells #[.func (.func g) #[] qs] 121)).alloc (.cells #[.bool true] 4) = w6) := ⟨_, rfl⟩
  rw [Hw6.out] at hI0
  have Hst : Hid (∀ s W (a : Int × Int × Int), a ∈ ls → J s W → w.heap.size ≤ W.heap.size → Calls Try.prog g (#[.agg #[.int .i64 a.1, .int .i64 a.2.1, .int .i64 a.2.2]] ++ qs) W fun e W' =>
      ∃ s' b, e = .returned (.bool b) ∧ J s' W' ∧ (b = true → M s' < M s) ∧ (b = false → s' = s ∧ G s a) ∧ Newer w.heap.size W W') := hstep
  have HJ : Hid _ := hJ
  have HA : Hid _ := hA
  clear b1 b2 e1 h0 hstep hJ hA
  go_wp2_with fail
  rw [Hw6.out]
  refine wp_loop_ghost_k (fun m a wr => ∃ (u1 u2 u5 u6 u7 u8 u9 u10 u11 u12 u13 u14 u15 : Value) (b4 : Nat) (c : Bool) (s : σ) (ds : List Deferred) (Ds : List Nat), SetI w (.func (.func g) #[] qs) ls J M G m b4 c s ds Ds wr ∧
        a = { tmps := #[.slice aa la ca, u1, u2, .pointer (some ⟨w.heap.size, 0, none⟩), .pointer (some ⟨b4, 0, none⟩), u5, u6, u7, u8, u9, u10, u11, u12, u13, u14, u15], defers := ds }) (2 * M s0 + 1) ?_ ?_
  · exact ⟨_, _, _, _, _, _, _, _, _, _, _, _, _, _, _, _, _, _, hI0, rfl⟩
  · rintro m _ wr ⟨u1, u2, u5, u6, u7, u8, u9, u10, u11, u12, u13, u14, u15, b4, c, s, ds, Ds, hI, rfl⟩ J2 K hJ2 hK
    clear hI0 Hw6
    obtain ⟨e4, f4⟩ := box_cell hI.more
    obtain ⟨e3, f3⟩ := box_cell hI.fn
    cases c
    · have R := hI.shut rfl
      have hj := hI.j
      have hmk := hI.marks
      have hfar := hI.far
      have hlt : w.heap.size < wr.heap.size := (Array.getElem?_eq_some_iff.1 hI.fn).1
      clear hI
      go_wp2
      refine leaves_marks (B := w.heap.size + 1) (fun W => J s W ∧ w.heap.size ≤ W.heap.size) ?_ ?_ hmk ⟨hj, by omega⟩
      · rintro W D hD hW ⟨q1, q2⟩
        have hg := grownBy_putObj' W D (.deferred none)
        exact ⟨HJ.out s W _ q1 (belowK_b (w := w) (Nat.le_refl _) W D _ _ (by omega) hW rfl rfl), Nat.le_trans q2 hg.size⟩
      · intro W hW
        exact ⟨_, results_none rfl _ _ _, ⟨_, rfl⟩, s, hW.1, R, hW.2⟩
    · obtain ⟨w5, Hw5, hs5, h4', hB5, ho5, hbt5⟩ := settle_round (av := .slice aa la ca) hI.more
      go_wp2_with fail
      refine (backward_any _ _ ⟨_, _, _, rfl⟩).mono ?_
      rintro e w2 ⟨rfl, rfl⟩
      go_wp2_with fail
      rw [Hw5.out]
      clear Hw5 e4 f4 e3 f3
      have hfar := hI.far
      have hlt4 : b4 < wr.heap.size := (Array.getElem?_eq_some_iff.1 hI.more).1
      have hfn5 : w5.heap[w.heap.size]? = some (.cells #[.func (.func g) #[] qs] 121 (0, 0)) := (ho5 _ (by omega) (by omega)).trans hI.fn
      have hj5 : J s w5 := HJ.out s wr w5 hI.j (hB5.mono (by omega))
      have hMk5 : Marked (w.heap.size + 1) ds Ds w5 := hI.marks.to fun k o hk ho => (ho5 k (Array.getElem?_eq_some_iff.1 hk).1 (fun e => by subst e; rw [hI.more] at hk; injection hk with hk; subst hk; cases ho)).trans hk
      have hDs : ∀ D ∈ Ds, D < w5.heap.size := fun D hD => (Array.getElem?_eq_some_iff.1 (hMk5.all D hD).2).1
      have hw5 : w.heap.size ≤ w5.heap.size := by omega
      have Hmeas : Hid _ := hI.meas
      clear hI
      refine (wpIn_wide (n := 5)).1 ?_
      refine range_it (n := 5) (by omega) (gf := 86) (rb := #[]) (lb := #[.pointer (some ⟨wr.heap.size, 0, none⟩)]) rfl (enters_of Try.func86 (by kernel_rfl) rfl)
        (back_it (5 - 1) (by omega) wr.heap.size (.slice aa la ca) ls) (fun _ => rfl)
        (fun pre W => SetP w w5 b4 J M G s pre W) (fun _ _ _ => False) (setP_own hw5 HJ.out) (fun c s A B row hs hg hr => hs)
        ⟨⟨false, s, h4', hj5, PassS.start s⟩, Nat.le_refl _, fun k _ _ _ => rfl⟩ (fun pre W h => by
          obtain ⟨⟨b, s1, _, hj1, _⟩, h1, h2⟩ := h
          exact ⟨HA.out _ _ hj1, (h2 wr.heap.size (by omega) (by omega) (by omega)).trans hbt5⟩)
        (fun y a' W => ∃ b10, (w5.heap.size ≤ b10 ∧ W.heap[b10]? = some (.cells #[.int .i64 y.1.2.1, .int .i64 y.1.2.2.1, .int .i64 y.1.2.2.2] 69 (0, 0))) ∧
          a' = { tmps := #[.slice aa la ca, u1, u2, .pointer (some ⟨w.heap.size, 0, none⟩), .pointer (some ⟨b4, 0, none⟩), u5, .pointer (some ⟨b10, 0, none⟩), .bool true, .slice aa la ca, .func (.func 86) #[] #[.pointer (some ⟨wr.heap.size, 0, none⟩)], .int .i64 y.1.1, arcV y.1.2, u12, u13, u14, u15], defers := [] })
        (fun y a' _ A B row hs hg hr => by
          obtain ⟨b10, ⟨q1, q2⟩, rfl⟩ := hs
          refine ⟨b10, ⟨q1, ?_⟩, rfl⟩
          rw [hg.block b10 (Array.getElem?_eq_some_iff.1 q2).1 (fun e => by
            obtain ⟨_, o, z1, z2⟩ := hr b10 e.symm
            rw [q2] at z1
            cases z1
            cases z2)]
          exact q2) ?assign ?body ?done ?stop
      case stop =>
        rintro D pre W _ _ h _
        exact h.elim
      case assign =>
        intro l pre y W K hP _ hK2
        dsimp only [arcV]
        gi_wp2
        have hlw : w5.heap.size ≤ W.heap.size := hP.size
        exact hK2 _ _ (KeepsFrom.of_grownBy (World.grownBy_alloc W _ none) (fun j e => by cases e)) ((setP_own hw5 HJ.out).alloc _ hP) ⟨_, ⟨hlw, heap_alloc_at _ _⟩, rfl⟩
      case body =>
        rintro l pre y _ W _ hP ⟨b10, ⟨q1, q2⟩, rfl⟩ _
        obtain ⟨⟨b, s1, h4, hj1, hPass⟩, hsz, hO⟩ := hP
        have hsn := arcsOf_snoc pre y
        have hc := Hst.out s1 W y.1.2 y.2 hj1 (by omega)
        obtain ⟨⟨ix, ⟨x1, x2, x3⟩⟩, hy⟩ := y
        simp only at q2 hsn hc ⊢
        obtain ⟨e4, f4⟩ := box_cell h4
        obtain ⟨e3, f3⟩ := box_cell ((hO _ (by omega) (by omega) (by omega)).trans hfn5)
        have z0 : W.cell? ⟨b10, 0, none⟩ = some (.int .i64 x1) := by simp [World.cell?, q2]
        have z1 : W.cell? ⟨b10, 1, none⟩ = some (.int .i64 x2) := by simp [World.cell?, q2]
        have z2 : W.cell? ⟨b10, 2, none⟩ = some (.int .i64 x3) := by simp [World.cell?, q2]
        have Hc : Hid _ := hc
        have HO : Hid _ := hO
        have H4 : Hid _ := h4
        have HP : Hid _ := hPass
        clear hc hO h4 hPass hfn5 hj5 hMk5 hDs hbt5 h4' ho5
        gi_wp2
        refine ⟨trivial, (CallsIn.inRound l (callsIn_wide.2 Hc.out)).mono ?_⟩
        rintro e W2 ⟨s2, b2, rfl, hj2, hm2, hg2, hN⟩
        have hb4W : W2.heap[b4]? = some (.cells #[.bool b] 4 (0, 0)) := (hN.2 b4 (by omega) (Array.getElem?_eq_some_iff.1 H4.out).1).trans H4.out
        have hO2 : ∀ k, w.heap.size ≤ k → k < w5.heap.size → k ≠ b4 → W2.heap[k]? = w5.heap[k]? := fun k k1 k2 k3 => (hN.2 k k1 (by omega)).trans (HO.out k k1 k2 k3)
        have hsz2 : w5.heap.size ≤ W2.heap.size := Nat.le_trans hsz hN.1
        obtain ⟨e4', f4'⟩ := box_cell hb4W
        cases b2
        · obtain ⟨rfl, hG⟩ := hg2 rfl
          gi_wp2
          exact ⟨hN.from hw5, ⟨b, s2, hb4W, hj2, by rw [hsn]; exact HP.out.stay hG⟩, hsz2, hO2⟩
        · have hlt := hm2 rfl
          gi_wp2
          refine ⟨(hN.from hw5).trans ((KeepsOthers.setCell _ _ _).from _), ⟨true, s2, setBox hb4W, HJ.out s2 W2 _ hj2 ((Below.refl _ _).setCell (p := ⟨b4, 0, none⟩) (by show w.heap.size ≤ b4; omega) _), HP.out.more hlt⟩, by simpa [World.setCell] using hsz2, fun k k1 k2 k3 => (Below.heap_setCell _ _ _ _ (by exact k3)).trans (hO2 k k1 k2 k3)⟩
      case done =>
        rintro D ys W hD hys ⟨⟨b, s1, h4, hj1, hP⟩, hsz, hO⟩ hKD
        rw [hys] at hP
        obtain ⟨e4, f4⟩ := box_cell h4
        have hC : Hid (SetI w (.func (.func g) #[] qs) ls J M G (2 * M s1 + (if b then 1 else 0)) W.heap.size b s1 ({ target := .collected D, args := #[] } :: ds) (D :: Ds) (W.alloc (.cells #[.bool b] 4))) := by
          have bn := below_new W (.cells #[.bool b] 4)
          have hfnW := (hO _ (Nat.le_refl _) (by omega) (by omega)).trans hfn5
          refine ⟨rfl, heap_alloc_at _ _, by omega, (bn.block _ (by omega)).trans hfnW, HJ.out s1 W _ hj1 (bn.mono (by omega)), fun e a ha => ?_, ?_⟩
          · obtain ⟨rfl, h2⟩ := hP.none e
            exact h2 a (by simpa using ha)
          · refine Marked.cons (hMk5.kept fun t o hbt ht ho => ?_) (by omega) (fun h => by have := hDs D h; omega) ?_
            · have htl := (Array.getElem?_eq_some_iff.1 ht).1
              rw [bn.block t (by omega), hO t (by omega) htl (fun e => by subst e; rw [h4'] at ht; injection ht with ht; subst ht; cases ho)]
              exact ht
            · rw [bn.block D (Array.getElem?_eq_some_iff.1 hKD).1]; exact hKD
        have hM2 : Hid (2 * M s1 + (if b then 1 else 0) < m) := by
          show _ < _
          have hmeas := Hmeas.out
          cases b
          · rw [(hP.none rfl).1]; simp at hmeas ⊢; omega
          · have := hP.some rfl; simp at hmeas ⊢; omega
        clear hP hO hMk5 hDs hfn5 h4' hbt5 ho5 hj5
        go_wp2
        refine Handed.intro _ hM2.out (hJ2 _ _ _ ⟨_, _, _, _, _, _, _, _, _, _, _, _, _, _, _, _, _, _, hC.out, rfl⟩)

end Go.Proofs.Ytakgppoeikcepaa
