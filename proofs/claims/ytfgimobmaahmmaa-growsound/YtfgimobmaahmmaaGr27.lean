import Derived.Test.YtfgimobmaahmmaaMarked
import Derived.Test.YtfgimobmaahmmaaGr06
import Derived.Test.YtfgimobmaahmmaaGr07
import Derived.Test.YtfgimobmaahmmaaGr10
import Derived.Deep.RegionHeld3
import Derived.Test.YtfgimobmaahmmaaGr01
import Derived.Test.YtfgimobmaahmmaaGr05
import Derived.Test.YtfgimobmaahmmaaGr03
/- Package sound as it landed: going through arcs from the last one on; which marks are found to come to the end, plainly. -/
namespace Go.Proofs.Ytfgimobmaahmmaa
open Go.RowKit Go.Shelf
set_option linter.unusedVariables false
set_option maxRecDepth 4000

attribute [local go_sem] Oper.semAt_some

/-- An arc with its place. -/
abbrev ArcY (ls : List (Int × Int × Int)) := { y : Int × (Int × Int × Int) // y.2 ∈ ls }
def arcV (a : Int × Int × Int) : Value := .agg #[.int .i64 a.1, .int .i64 a.2.1, .int .i64 a.2.2]
def arcsOf {ls : List (Int × Int × Int)} (l : List (ArcY ls)) : List (Int × Int × Int) := l.map fun y => y.1.2
theorem arcsOf_snoc {ls : List (Int × Int × Int)} (l : List (ArcY ls)) (y : ArcY ls) : arcsOf (l ++ [y]) = arcsOf l ++ [y.1.2] := by simp [arcsOf]
theorem arcsOf_nil {ls : List (Int × Int × Int)} : arcsOf ([] : List (ArcY ls)) = [] := rfl

set_option maxRecDepth 100000 in
set_option maxHeartbeats 2000000 in
theorem backward1_in (n : Nat) (hn : 1 ≤ n) (l : Nat) (w0 : World) (b : Nat) (v : Value) (ls : List (Int × Int × Int)) (hv : Arcs w0 v ls) (J Jx : List (ArcY ls) → World → Prop)
    (hY : ∀ pre (y : ArcY ls) W, J pre W → pre.length < ls.length → YieldAt Fence.wide (n - 1) Try.prog l #[.int .i64 y.1.1, arcV y.1.2] W fun e W' =>
      (e = .returned (.bool true) ∧ J (pre ++ [y]) W' ∧ KeepT w0.heap.size b W W') ∨ (e = .returned (.bool false) ∧ Jx (pre ++ [y]) W'))
    (W : World) (hW : Below w0.heap.size w0 W) (hB : W.heap[b]? = some (.cells #[v] 69 (0, 0))) (h0 : J [] W) :
    CallsIn Fence.wide n Try.prog 84 #[.func (.yield l) #[] #[], .pointer (some ⟨b, 0, none⟩)] W fun e W' => (∃ v, e = .returned v) ∧
      ((∃ ys : List (ArcY ls), arcsOf ys = ls.reverse ∧ J ys W') ∨ (∃ pre : List (ArcY ls), (∃ r, arcsOf pre ++ r = ls.reverse) ∧ Jx pre W')) := by
  obtain ⟨a, len, cap, rfl, hlen, hmx, hsh, hr⟩ := hv
  obtain ⟨c0, _⟩ := box_cell hB
  refine callsIn_of_wp Try.func84 rfl trivial ?_ rfl
  simp only [Try.ntmps84, List.size_toArray, List.length_cons, List.length_nil, Nat.reduceAdd, Nat.reduceSub, Array.replicate_succ, Array.replicate_zero, List.push_toArray, List.append_toArray, List.nil_append, List.cons_append]
  gi_wp2
  gi_loopw [3] (fun i wr => ∃ (pre : List (ArcY ls)) (k : Nat), k ≤ len ∧ i = .int .i64 ((k : Int) - 1) ∧ pre.length + k = len ∧ arcsOf pre ++ (ls.take k).reverse = ls.reverse ∧ Below w0.heap.size w0 wr ∧ wr.heap[b]? = some (.cells #[.slice a len cap] 69 (0, 0)) ∧ J pre wr) (fun i _ => (intOf i + 1).toNat)
  case atStart => exact ⟨[], len, Nat.le_refl _, by go_num, by simp, by rw [← hlen, List.take_length]; rfl, hW, hB, h0⟩
  case round =>
    obtain ⟨pre, k, hk, rfl, hpl, hpe, hb, hBr, hJ⟩ := hrel
    obtain ⟨c1, _⟩ := box_cell hBr
    by_cases hk0 : k = 0
    · subst hk0
      have e : arcsOf pre = ls.reverse := by simpa using hpe
      gi_wp2
      go_end0
      exact ⟨⟨_, rfl⟩, .inl ⟨pre, e, hJ⟩⟩
    · obtain ⟨j, rfl⟩ : ∃ j, k = j + 1 := ⟨k - 1, by omega⟩
      have hj : j < ls.length := by omega
      obtain ⟨b1, o1, rfl, hb1, d0, d1, d2⟩ := hr j hj
      have d0 := (hb.cell (p := ⟨b1, o1 + j * 3, none⟩) hb1).trans d0
      have d1 := (hb.cell (p := ⟨b1, o1 + j * 3 + 1, none⟩) hb1).trans d1
      have d2 := (hb.cell (p := ⟨b1, o1 + j * 3 + 2, none⟩) hb1).trans d2
      have ej : (((j + 1 : Nat) : Int) - 1) = (j : Int) := by omega
      rw [ej]
      obtain ⟨x, hx, hmem⟩ : ∃ x, ls[j] = x ∧ x ∈ ls := ⟨_, rfl, List.getElem_mem hj⟩
      have Hnx : Hid (arcsOf (pre ++ [⟨((j : Int), x), hmem⟩]) ++ (ls.take j).reverse = ls.reverse) := by
        show _ = _
        rw [arcsOf_snoc, ← hpe, List.take_succ_eq_append_getElem hj, hx]
        simp
      rw [hx] at d0 d1 d2
      obtain ⟨fn, tmps, assign, body, hy, hR⟩ := hY pre ⟨((j : Int), x), hmem⟩ wr hJ (by omega)
      dsimp only [arcV] at hy
      clear hr hpe hx
      gi_wp2
      refine hR.mono ?_
      rintro e W3 (⟨rfl, hJ3, hk3⟩ | ⟨rfl, hJx3⟩)
      · gi_wp2
        go_roundw
        case rel => exact ⟨_, j, by omega, by go_num, by simp; omega, Hnx.out, hb.trans hk3.1, hk3.2.trans hBr, hJ3⟩
        case measure => simp [intOf]
      · gi_wp2
        refine bodyPost_ret (results_none rfl _ _ _) rfl ?_
        exact ⟨⟨_, rfl⟩, .inr ⟨_, ⟨_, Hnx.out⟩, hJx3⟩⟩

theorem backward_any (v : Value) (w : World) (hv : ∃ a l c, v = .slice a l c) :
    Calls Try.prog 69 #[v] w fun e w' =>
      e = .returned (.func (.func 84) #[] #[.pointer (some ⟨w.heap.size, 0, none⟩)]) ∧ w' = w.alloc (.cells #[v] 69) := by
  obtain ⟨a, l, c, rfl⟩ := hv
  go_enter Try.func69, Try.ntmps69
  go_wp2
  go_ret
  exact ⟨rfl, rfl⟩

theorem backward_stops (n : Nat) (hn : 1 ≤ n) (w0 : World) (b : Nat) (v : Value) (ls : List (Int × Int × Int)) (hv : Arcs w0 v ls) (w : World) (h0 : Below w0.heap.size w0 w) (hB : w.heap[b]? = some (.cells #[v] 69 (0, 0))) :
    SeqStopsK Fence.wide n Try.prog 84 #[.pointer (some ⟨b, 0, none⟩)] (fun y : ArcY ls => #[.int .i64 y.1.1, arcV y.1.2]) (KeepT w0.heap.size b)
      (fun ys => arcsOf ys = ls.reverse) (fun pre => ∃ r, arcsOf pre ++ r = ls.reverse) ls.length w := fun l J Jx W hW _ _ hY hJ0 =>
  backward1_in n hn l w0 b v ls hv J Jx hY W (h0.trans (hW.mono h0.size)) ((hW.block b (Array.getElem?_eq_some_iff.1 hB).1).trans hB) hJ0

/-! ### plainly -/
/-- What one pass over some arcs has come to: f at its beginning, g now; b: something was noted. -/
structure PassA (G : Nat → Prop) (n : Nat) (f g : Nat → Bool) (b : Bool) (pre : List (Int × Int × Int)) : Prop where
  grew : ∀ j, f j = true → g j = true
  sound : ∀ j, j < n → g j = true → G j
  none : b = false → g = f ∧ ∀ a ∈ pre, f a.2.2.toNat = true → f a.1.toNat = true
  some : b = true → cntF g n < cntF f n
theorem PassA.start {G : Nat → Prop} {n : Nat} {f : Nat → Bool} (h : ∀ j, j < n → f j = true → G j) : PassA G n f f false [] := ⟨fun _ h => h, h, fun _ => ⟨rfl, by simp⟩, fun h => by cases h⟩
theorem PassA.stay {G : Nat → Prop} {n : Nat} {f g : Nat → Bool} {b : Bool} {pre : List (Int × Int × Int)} (h : PassA G n f g b pre) {a : Int × Int × Int} (ha : g a.2.2.toNat = true → g a.1.toNat = true) : PassA G n f g b (pre ++ [a]) := by
  refine ⟨h.grew, h.sound, fun e => ⟨(h.none e).1, fun c hc => ?_⟩, h.some⟩
  rcases List.mem_append.1 hc with q | q
  · exact (h.none e).2 c q
  · rw [List.mem_singleton.1 q, ← (h.none e).1]; exact ha
theorem PassA.note {G : Nat → Prop} {n : Nat} {f g : Nat → Bool} {b : Bool} {pre : List (Int × Int × Int)} (h : PassA G n f g b pre) {a : Int × Int × Int} {x : Nat} (hx : a.1.toNat = x) (hxn : x < n) (hg : g x = false) (hG : G x) : PassA G n f (updT g x) true (pre ++ [a]) := by
  have hc := cntF_set hg (updT_same g x) (fun j hj => updT_other g hj) n hxn
  refine ⟨fun j hj => updT_grew (h.grew j hj), fun j hj hu => ?_, fun e => (by cases e), fun _ => ?_⟩
  · by_cases e : j = x
    · subst e; exact hG
    · rw [updT_other g e] at hu; exact h.sound j hj hu
  · cases b
    · rw [← (h.none rfl).1]; omega
    · have := h.some rfl; omega
end Go.Proofs.Ytfgimobmaahmmaa

/- Package sound as it landed: comesTo, walked. -/
namespace Go.Proofs.Ytfgimobmaahmmaa
open Go.RowKit Go.Shelf
set_option linter.unusedVariables false
set_option maxRecDepth 4000

attribute [local go_sem] Oper.semAt_some

def sameM (x E : List Int) : Bool := coversL x E && coversL E x
def endTo (l : List (List Int)) (E : List Int) (k : Nat) : Nat → Bool := fun j => decide (j < k) && sameM (markAt l j) E
theorem endTo_zero (l : List (List Int)) (E : List Int) : endTo l E 0 = fun _ => false := by funext j; simp [endTo]

/-- What a row of yes and no is while the blocks beside it may change. -/
theorem BoolRow.keep {w w' : World} {B n : Nat} {f : Nat → Bool} (h : BoolRow w B n f) (hb : w'.heap[B]? = w.heap[B]?) : BoolRow w' B n f := by
  have hlt : B < w'.heap.size := by
    rcases Nat.lt_or_ge B w'.heap.size with q | q
    · exact q
    · rw [Array.getElem?_eq_none q] at hb
      have := h.lt
      rw [Array.getElem?_eq_getElem this] at hb
      cases hb
  refine ⟨fun j hj => ?_, fun j hj => ?_, hlt⟩
  · have := h.cells j hj; simp only [World.cell?] at this ⊢; rw [hb]; exact this
  · have := h.frozen j hj; simp only [World.frozen?] at this ⊢; rw [hb]; exact this

/-- What holds at the head of the second loop. -/
structure ComeI (w : World) (s : SpaceZ) (sp av cv : Value) (lm : Nat) (G : Nat → Prop) (f0 : Nat → Bool) (k b8 : Nat) (c : Bool) (f : Nat → Bool) (ds : List Deferred) (Ds : List Nat) (wr : World) : Prop where
  meas : k = 2 * cntF f lm + (if c then 1 else 0)
  more : wr.heap[b8]? = some (.cells #[.bool c] 4 (0, 0))
  far : w.heap.size + 2 < b8
  can : wr.heap[w.heap.size + 1 + 1]? = some (.cells #[cv] 97 (0, 0))
  row : BoolRow wr (w.heap.size + 1) lm f
  space : wr.heap[w.heap.size]? = some (.cells #[sp, av] 71 (0, 0))
  grew : ∀ j, f0 j = true → f j = true
  sound : ∀ j, j < lm → f j = true → G j
  shut : c = false → ∀ a ∈ s.arcs, f a.2.2.toNat = true → f a.1.toNat = true
  below : Below w.heap.size w wr
  marks : Marked (w.heap.size + 2) ds Ds wr

theorem box2_of {w : World} {b : Nat} {t : TypeId} {x y : Value} (h : w.heap[b]? = some (.cells #[x, y] t (0, 0))) : Box2 w b x y := ⟨(Array.getElem?_eq_some_iff.1 h).1, by simp [World.cell?, h], by simp [World.cell?, h]⟩

theorem BoolRow.grown {W W' : World} {B n : Nat} {f : Nat → Bool} {row : Option Nat} (h : BoolRow W B n f) (hg : W.grownBy W' row) (hr : ∀ r, row = some r → ∃ o : Obj, W.heap[r]? = some o ∧ o.isCells = false) : BoolRow W' B n f := by
  by_cases e : row = some B
  · obtain ⟨o, h1, h2⟩ := hr B e
    have h0 : n = 0 := by
      rcases Nat.eq_zero_or_pos n with q | q
      · exact q
      · have := h.cells 0 q
        simp only [World.cell?, h1] at this
        cases o <;> first | (cases this; done) | (cases h2; done)
    subst h0
    exact ⟨fun j hj => absurd hj (Nat.not_lt_zero _), fun j hj => absurd hj (Nat.not_lt_zero _), Nat.lt_of_lt_of_le h.lt hg.size⟩
  · exact h.keep (hg.block B h.lt (fun q => e q.symm))

theorem Marked.to2 {B : Nat} {ds : List Deferred} {Ds : List Nat} {W W' : World} (h : Marked B ds Ds W) (hk : ∀ (k : Nat) (o : Obj), B ≤ k → W.heap[k]? = some o → o.isCells = false → W'.heap[k]? = some o) : Marked B ds Ds W' :=
  ⟨h.eq, h.nodup, fun D hD => ⟨(h.all D hD).1, hk D _ (h.all D hD).1 (h.all D hD).2 rfl⟩⟩

/-- What holds within a pass. -/
structure ComeP (w w5 : World) (lm b8 : Nat) (G : Nat → Prop) (f : Nat → Bool) {ls : List (Int × Int × Int)} (pre : List (ArcY ls)) (W : World) : Prop where
  ex : ∃ (b : Bool) (g : Nat → Bool), W.heap[b8]? = some (.cells #[.bool b] 4 (0, 0)) ∧ BoolRow W (w.heap.size + 1) lm g ∧ PassA G lm f g b (arcsOf pre)
  only : Only2 (w.heap.size + 1) b8 w5 W
  below : Below w.heap.size w W
theorem comeP_own {w w5 : World} {lm b8 : Nat} {G : Nat → Prop} {f : Nat → Bool} {ls : List (Int × Int × Int)} (hw : w.heap.size ≤ w5.heap.size) : OwnFrom w5.heap.size (fun (pre : List (ArcY ls)) W => ComeP w w5 lm b8 G f pre W) := by
  intro pre W W' row hs hg hr
  obtain ⟨⟨b, g, h1, h2, h3⟩, h4, h5⟩ := hs
  refine ⟨⟨b, g, ?_, h2.grown hg (fun r e => (hr r e).2), h3⟩, only2_own (α := ArcY ls) (Nat.le_refl _) pre W W' row h4 hg hr, ownFrom_below (β := List (ArcY ls)) (Nat.le_refl _) hw pre W W' row h5 hg hr⟩
  rw [hg.block b8 (Array.getElem?_eq_some_iff.1 h1).1 (fun e => by
    obtain ⟨_, o, q1, q2⟩ := hr b8 e.symm
    rw [h1] at q1
    injection q1 with q1
    subst q1
    cases q2)]
  exact h1

theorem come_round {wr : World} {b8 : Nat} {av : Value} {c : Bool} (h : wr.heap[b8]? = some (.cells #[.bool c] 4 (0, 0))) :
    ∃ w5, Hid ((wr.setCell ⟨b8, 0, none⟩ (.bool false)).alloc (.cells #[av] 69) = w5) ∧ w5.heap.size = wr.heap.size + 1 ∧ w5.heap[b8]? = some (.cells #[.bool false] 4 (0, 0)) ∧
      Below b8 wr w5 ∧ (∀ k, k < wr.heap.size → k ≠ b8 → w5.heap[k]? = wr.heap[k]?) ∧ w5.heap[wr.heap.size]? = some (.cells #[av] 69 (0, 0)) := by
  have hlt : b8 < wr.heap.size := (Array.getElem?_eq_some_iff.1 h).1
  obtain ⟨w2, hw2⟩ : ∃ w2, wr.setCell ⟨b8, 0, none⟩ (.bool false) = w2 := ⟨_, rfl⟩
  have hs : w2.heap.size = wr.heap.size := by rw [← hw2]; simp [World.setCell]
  have h2 : w2.heap[b8]? = some (.cells #[.bool false] 4 (0, 0)) := by rw [← hw2]; exact setBox h
  have hb2 : Below b8 wr w2 := by rw [← hw2]; exact (Below.refl _ _).setCell (p := ⟨b8, 0, none⟩) (Nat.le_refl _) _
  have ho : ∀ k, k ≠ b8 → w2.heap[k]? = wr.heap[k]? := fun k hk => by rw [← hw2]; exact Below.heap_setCell _ _ _ _ hk
  rw [hw2]
  have b1 := below_new w2 (.cells #[av] 69)
  refine ⟨_, rfl, by simp [hs], (b1.block b8 (by omega)).trans h2, hb2.trans (b1.mono (by omega)), fun k hk hne => (b1.block k (by omega)).trans (ho k hne), ?_⟩
  rw [← hs]; exact heap_alloc_at _ _

theorem only2_below {g b : Nat} {a c d : World} (h : Only2 g b a c) {n : Nat} (hg : n ≤ g) (hb : n ≤ b) : ∀ k, k < n → k < a.heap.size → c.heap[k]? = a.heap[k]? := fun k hk hl => h.2 k hl (by omega) (by omega)


set_option maxRecDepth 100000 in
set_option maxHeartbeats 4000000 in
theorem comesTo_any (v u : Value) (s : SpaceZ) (E : List Int) (w : World) (hv : SpaceV w v s) (hr : rightS s = true) (hu : Ints w u E) :
    Calls Try.prog 52 #[v, u] w fun e w' => ∃ (B : Nat) (f : Nat → Bool), e = .returned (.slice (some ⟨B, 0, none⟩) s.marks.length s.marks.length) ∧ BoolRow w' B s.marks.length f ∧
      (∀ j : Nat, j < s.marks.length → (f j = true ↔ ∃ k : Nat, k < s.marks.length ∧ sameM (markAt s.marks k) E = true ∧ Comes s j k)) ∧ Below w.heap.size w w' := by
  obtain ⟨hN, mv, av, rfl, hM, hA⟩ := hv
  obtain ⟨am, cm, rfl, _, _⟩ := hM.slice
  obtain ⟨lm, Hlm⟩ : ∃ lm, Hid (s.marks.length = lm) := ⟨_, rfl⟩
  rw [Hlm.out] at hN ⊢
  rw [Hlm.out] at hM
  obtain ⟨aa, ca, rfl, hla⟩ := hA.slice
  obtain ⟨la, Hla⟩ : ∃ la, Hid (s.arcs.length = la) := ⟨_, rfl⟩
  rw [Hla.out] at hA hla ⊢
  refine (callsIn_wide (n := 5)).1 ?_
  refine callsIn_of_wp_marks Try.func52 rfl trivial ?_ rfl
  simp only [Try.ntmps52, List.size_toArray, List.length_cons, List.length_nil, Nat.reduceAdd, Nat.reduceSub, Array.replicate_succ, Array.replicate_zero, List.push_toArray, List.append_toArray, List.nil_append, List.cons_append]
  refine wpIn_wide.2 ?_
  refine Code.wp_mono (fun e a w h => noPanicOut h) ?_
  have b1 := below_new w (.cells #[.slice am lm cm, .slice aa la ca] 71)
  have hbx : (w.alloc (.cells #[.slice am lm cm, .slice aa la ca] 71)).heap[w.heap.size]? = some (.cells #[.slice am lm cm, .slice aa la ca] 71 (0, 0)) := heap_alloc_at _ _
  obtain ⟨w1, Hmk, b2, hs2, hR⟩ := make_flags (w.alloc (.cells #[.slice am lm cm, .slice aa la ca] 71)) lm hN
  replace hbx := (b2.block _ (Array.getElem?_eq_some_iff.1 hbx).1).trans hbx
  have es : (w.alloc (.cells #[.slice am lm cm, .slice aa la ca] 71)).heap.size = w.heap.size + 1 := by simp
  rw [es] at hs2 hR Hmk
  have c1 := below_then b1 b2
  clear b1 b2
  have b3 := below_new w1 (.cells #[.slice (some ⟨w.heap.size + 1, 0, none⟩) lm lm] 97)
  have hbc : (w1.alloc (.cells #[.slice (some ⟨w.heap.size + 1, 0, none⟩) lm lm] 97)).heap[w1.heap.size]? = some (.cells #[.slice (some ⟨w.heap.size + 1, 0, none⟩) lm lm] 97 (0, 0)) := heap_alloc_at _ _
  replace hbx := (b3.block _ (Array.getElem?_eq_some_iff.1 hbx).1).trans hbx
  replace hR := hR.below b3
  replace c1 := below_then c1 b3
  rw [hs2] at hbc
  obtain ⟨w2, Hw2⟩ : ∃ w2, Hid (w1.alloc (.cells #[.slice (some ⟨w.heap.size + 1, 0, none⟩) lm lm] 97) = w2) := ⟨_, rfl⟩
  rw [Hw2.out] at hbx hR c1 hbc
  obtain ⟨x0, x1, x2⟩ := box2_of hbx
  go_upto_region 2 with fail
  rw [Hw2.out]
  clear Hmk Hw2 hs2 b3 es
  have hlt1 : w.heap.size + 1 < w2.heap.size := hR.lt
  go_wp2_with fail
  clear x0 x1 x2
  rw [← endTo_zero s.marks E] at hR
  go_loopg [18] lm (fun g i wr => ∃ k : Nat, k + g = lm ∧ i = .int .i64 k ∧ BoolRow wr (w.heap.size + 1) lm (endTo s.marks E k) ∧ wr.heap[w.heap.size]? = some (.cells #[.slice am lm cm, .slice aa la ca] 71 (0, 0)) ∧ wr.heap[w.heap.size + 1 + 1]? = some (.cells #[.slice (some ⟨w.heap.size + 1, 0, none⟩) lm lm] 97 (0, 0)) ∧ Below w.heap.size w wr)
  case atStart => exact ⟨0, by omega, rfl, hR, hbx, hbc, c1⟩
  case round =>
    clear hR hbx hbc c1
    obtain ⟨k, hkg, rfl, hR, hbx, hbc, c⟩ := hrel
    by_cases hk : k < lm
    · obtain ⟨b1, o1, u1, rfl, _, e1, i1⟩ := (hM.below c).at hk
      have hu' := hu.below c
      obtain ⟨X, HX⟩ : ∃ X, Hid (markAt s.marks k = X) := ⟨_, rfl⟩
      rw [HX.out] at i1
      have HE : Hid (endTo s.marks E (k + 1) k = (coversL X E && coversL E X)) := by show _ = _; simp [endTo, sameM, HX.out]
      have HO : Hid (∀ j, j < lm → j ≠ k → endTo s.marks E (k + 1) j = endTo s.marks E k j) := fun j hj hne => by
        show (decide _ && _) = (decide _ && _)
        have : (j < k + 1) ↔ (j < k) := by omega
        simp [this]
      obtain ⟨au, lu, cu, rfl, _⟩ := id i1
      obtain ⟨av, lv, cv, rfl, _⟩ := id hu'
      obtain ⟨y1, y2⟩ := box_cell hbc
      have r1 := hR.cells k hk
      have r2 := hR.frozen k hk
      go_upto_region 5 with fail
      clear e1
      go_region_held3 (fun w' => w'.cell? ⟨w.heap.size + 1 + 1, 0, none⟩ = some (.slice (some ⟨w.heap.size + 1, 0, none⟩) lm lm)) (go_keep)
        (first | (go_at_call 49; refine (same_any _ _ X E _ ?_ ?_).mono ?_; exact i1.drewN 1; exact hu'.drewN 1; rintro e w5 ⟨rfl, rfl⟩))
      have q1 := hR.put (g := endTo s.marks E (k + 1)) hk (x := coversL X E && coversL E X) HE.out HO.out
      have bs : Below (w.heap.size + 1) wr (wr.setCell ⟨w.heap.size + 1, k, none⟩ (.bool (coversL X E && coversL E X))) := (Below.refl _ _).setCell (p := ⟨w.heap.size + 1, k, none⟩) (Nat.le_refl _) _
      have bc : (wr.setCell ⟨w.heap.size + 1, k, none⟩ (.bool (coversL X E && coversL E X))).heap[w.heap.size + 1 + 1]? = wr.heap[w.heap.size + 1 + 1]? := Below.heap_setCell _ _ _ _ (by show w.heap.size + 1 + 1 ≠ w.heap.size + 1; omega)
      obtain ⟨w5, Hw5⟩ : ∃ w5, Hid (wr.setCell ⟨w.heap.size + 1, k, none⟩ (.bool (coversL X E && coversL E X)) = w5) := ⟨_, rfl⟩
      have q2 := (bs.block w.heap.size (Nat.lt_succ_self _)).trans hbx
      have q3 := c.trans (bs.mono (Nat.le_succ _))
      rw [Hw5.out] at q1 bc q2 q3 ⊢
      have q4 := bc.trans hbc
      have dd : Below w5.heap.size w5 w5.drew := (Below.refl _ _).drew
      replace q1 := q1.below dd
      replace q2 := (dd.block _ (Array.getElem?_eq_some_iff.1 q2).1).trans q2
      replace q3 := below_then q3 dd
      replace q4 := (dd.block _ (Array.getElem?_eq_some_iff.1 q4).1).trans q4
      clear hR hbx hbc c r1 r2 y1 y2 bs bc Hw5 HE HO i1 hu'
      go_wp2
      go_roundg (gk - 1)
      case measure => omega
      case rel => exact ⟨k + 1, by omega, by go_num, q1, q2, q4, q3⟩
    · obtain rfl : k = lm := by omega
      clear hk
      have Hf : Hid (∀ j, j < k → endTo s.marks E k j = sameM (markAt s.marks j) E) := fun j hj => by simp [endTo, hj]
      obtain ⟨G, HG⟩ : ∃ G : Nat → Prop, Hid (G = fun j : Nat => ∃ i : Nat, i < k ∧ sameM (markAt s.marks i) E = true ∧ Comes s j i) := ⟨_, rfl⟩
      obtain ⟨f0, Hf0⟩ : ∃ f0, Hid (endTo s.marks E k = f0) := ⟨_, rfl⟩
      rw [Hf0.out] at hR Hf
      clear Hf0
      have hGa : ∀ a ∈ s.arcs, G a.2.2.toNat → G a.1.toNat := by
        intro a ha hq
        rw [HG.out] at hq ⊢
        obtain ⟨i, h1, h2, h3⟩ := hq
        obtain ⟨r1, r2, r3, r4⟩ := rightS_iff.1 hr a ha
        refine ⟨i, h1, h2, ?_⟩
        have e1 : ((a.2.2.toNat : Nat) : Int) = a.2.2 := Int.toNat_of_nonneg r3
        have e2 : ((a.1.toNat : Nat) : Int) = a.1 := Int.toNat_of_nonneg r1
        rw [e1] at h3
        rw [e2]
        exact fun P q0 q1 => h3 P (q1 a q0 ha) q1
      have hI0 : ComeI w s (.slice am k cm) (.slice aa la ca) (.slice (some ⟨w.heap.size + 1, 0, none⟩) k k) k G f0 (2 * cntF f0 k + 1) wr.heap.size true f0 [] [] (wr.alloc (.cells #[.bool true] 4)) := by
        have bn := below_new wr (.cells #[.bool true] 4)
        refine ⟨rfl, heap_alloc_at _ _, ?_, (bn.block _ (Array.getElem?_eq_some_iff.1 hbc).1).trans hbc, hR.below bn, (bn.block _ (Array.getElem?_eq_some_iff.1 hbx).1).trans hbx, fun _ h => h, fun j hj h => ?_, fun h => (by cases h), below_then c bn, ⟨rfl, List.nodup_nil, by simp⟩⟩
        · exact (Array.getElem?_eq_some_iff.1 hbc).1
        · rw [HG.out]; exact ⟨j, hj, by rw [← Hf.out j hj]; exact h, Comes.here _⟩
      have Hend : Hid (∀ f : Nat → Bool, (∀ j, f0 j = true → f j = true) → (∀ j, j < k → f j = true → G j) → (∀ a ∈ s.arcs, f a.2.2.toNat = true → f a.1.toNat = true) → ∀ j : Nat, j < k → (f j = true ↔ ∃ i : Nat, i < k ∧ sameM (markAt s.marks i) E = true ∧ Comes s j i)) := by
        intro f h1 h2 h3 j hj
        constructor
        · intro h; have := h2 j hj h; rw [HG.out] at this; exact this
        · rintro ⟨i, hi, hs, hc⟩
          have hfi : f i = true := h1 i (by rw [Hf.out i hi]; exact hs)
          have key : f ((j : Int).toNat) = true := by
            refine hc (fun z => (f (i : Int).toNat = true → f (j : Int).toNat = true) ∨ True) (.inr trivial) (fun _ _ _ => .inr trivial) |>.elim (fun h => h (by simpa using hfi)) (fun _ => ?_)
            refine Classical.byContradiction fun hn => ?_
            have := hc (fun z => f z.toNat = false) (by simpa using hn) (fun a ha hm => by
              cases hq : f a.2.2.toNat
              · rfl
              · rw [h3 a hm hq] at ha; cases ha)
            simp [hfi] at this
          simpa using key
      clear Hf HG hR hbx hbc c
      obtain ⟨w6, Hw6⟩ : ∃ w6, Hid (wr.alloc (.cells #[.bool true] 4) = w6) := ⟨_, rfl⟩
      rw [Hw6.out] at hI0
      go_wp2_with fail
      rw [Hw6.out]
      refine wp_loop_ghost_k (fun m a wr => ∃ (u0 u1 u3 u4 u6 u7 u9 u10 u11 u12 u13 u14 u15 u16 u17 u18 u19 u20 u21 u22 u23 u24 u25 u26 u27 u28 u29 u30 u31 u32 u33 u34 u35 u36 u37 u38 u39 u40 u41 u42 u43 u44 u45 u46 u47 u48 u49 u50 u51 u52 u53 u54 : Value) (b8 : Nat) (c : Bool) (f : Nat → Bool) (ds : List Deferred) (Ds : List Nat), ComeI w s (.slice am k cm) (.slice aa la ca) (.slice (some ⟨w.heap.size + 1, 0, none⟩) k k) k G f0 m b8 c f ds Ds wr ∧
        a = { tmps := #[u0, u1, .pointer (some ⟨w.heap.size, 0, none⟩), u3, u4, .pointer (some ⟨w.heap.size + 1 + 1, 0, none⟩), u6, u7, .pointer (some ⟨b8, 0, none⟩), u9, u10, u11, u12, u13, u14, u15, u16, u17, u18, u19, u20, u21, u22, u23, u24, u25, u26, u27, u28, u29, u30, u31, u32, u33, u34, u35, u36, u37, u38, u39, u40, u41, u42, u43, u44, u45, u46, u47, u48, u49, u50, u51, u52, u53, u54], defers := ds }) (2 * cntF f0 k + 1) ?_ ?_
      · exact ⟨_, _, _, _, _, _, _, _, _, _, _, _, _, _, _, _, _, _, _, _, _, _, _, _, _, _, _, _, _, _, _, _, _, _, _, _, _, _, _, _, _, _, _, _, _, _, _, _, _, _, _, _, _, _, _, _, _, hI0, rfl⟩
      · rintro m _ wr ⟨u0, u1, u3, u4, u6, u7, u9, u10, u11, u12, u13, u14, u15, u16, u17, u18, u19, u20, u21, u22, u23, u24, u25, u26, u27, u28, u29, u30, u31, u32, u33, u34, u35, u36, u37, u38, u39, u40, u41, u42, u43, u44, u45, u46, u47, u48, u49, u50, u51, u52, u53, u54, b8, c, f, ds, Ds, hI, rfl⟩ J K hJ hK
        clear hI0 Hw6
        obtain ⟨e8, f8⟩ := box_cell hI.more
        obtain ⟨e5, f5⟩ := box_cell hI.can
        obtain ⟨y0, y1, y2⟩ := box2_of hI.space
        cases c
        · have He : Hid _ := Hend.out f hI.grew hI.sound (hI.shut rfl)
          have hrow := hI.row
          have hbw := hI.below
          have hmk := hI.marks
          clear hI Hend hGa hM hA hu
          go_wp2
          refine leaves_marks (B := w.heap.size + 2) (fun W => BoolRow W (w.heap.size + 1) k f ∧ Below w.heap.size w W) ?_ ?_ hmk ⟨hrow, hbw⟩
          · rintro W D hD hW ⟨q1, q2⟩
            exact ⟨q1.grown (grownBy_putObj' W D _) (fun r e => by cases e; exact ⟨_, hW, rfl⟩), q2.trans (belowK_b (w := w) (Nat.le_refl _) W D _ _ (by omega) hW rfl rfl)⟩
          · intro W hW
            refine ⟨.slice (some ⟨w.heap.size + 1, 0, none⟩) k k, by simp [results, Try.f52, go_sem], ?_⟩
            exact ⟨w.heap.size + 1, rfl, f, hW.1, He.out, hW.2⟩
        · obtain ⟨w5, Hw5, hs5, h8', hB5, ho5, hbt5⟩ := come_round (av := .slice aa la ca) hI.more
          go_wp2_with fail
          refine (backward_any _ _ ⟨_, _, _, rfl⟩).mono ?_
          rintro e w2 ⟨rfl, rfl⟩
          go_wp2_with fail
          rw [Hw5.out]
          clear Hw5 e8 f8 e5 f5 y0 y1 y2
          have hfar := hI.far
          have hlt8 : b8 < wr.heap.size := (Array.getElem?_eq_some_iff.1 hI.more).1
          have hR5 : BoolRow w5 (w.heap.size + 1) k f := hI.row.keep (ho5 _ hI.row.lt (by omega))
          have hc5 := (ho5 _ (Array.getElem?_eq_some_iff.1 hI.can).1 (by omega)).trans hI.can
          have hsp5 := (ho5 _ (Array.getElem?_eq_some_iff.1 hI.space).1 (by omega)).trans hI.space
          have c5 : Below w.heap.size w w5 := hI.below.trans (hB5.mono (by omega))
          have hMk5 : Marked (w.heap.size + 2) ds Ds w5 := hI.marks.to fun k o hk ho => (ho5 k (Array.getElem?_eq_some_iff.1 hk).1 (fun e => by subst e; rw [hI.more] at hk; injection hk with hk; subst hk; cases ho)).trans hk
          have hDs : ∀ D ∈ Ds, D < w5.heap.size := fun D hD => (Array.getElem?_eq_some_iff.1 (hMk5.all D hD).2).1
          have hw5 : w.heap.size ≤ w5.heap.size := c5.size
          refine (wpIn_wide (n := 5)).1 ?_
          refine wpIn_rangeFunc_ownH rfl (by omega) (gf := 84) (lb := #[.pointer (some ⟨wr.heap.size, 0, none⟩)]) rfl trivial (enters_of Try.func84 (by kernel_rfl) rfl)
            (backward_stops (5 - 1) (by omega) w wr.heap.size _ s.arcs hA w5 c5 hbt5) keepT_t (keepT_b hw5 (by omega)) (Below.refl _ _) (fun _ => rfl)
            (fun pre W => ComeP w w5 k b8 G f pre W) (fun _ _ _ => False) (comeP_own hw5) (fun _ _ _ _ _ hs _ _ => hs)
            ⟨⟨false, f, h8', hR5, PassA.start hI.sound⟩, ⟨Nat.le_refl _, fun _ _ _ _ => rfl⟩, c5⟩
            (fun y a' W => ∃ b10, (w5.heap.size ≤ b10 ∧ W.heap[b10]? = some (.cells #[.int .i64 y.1.2.1, .int .i64 y.1.2.2.1, .int .i64 y.1.2.2.2] 109 (0, 0))) ∧ a' = { tmps := #[u0, u1, .pointer (some ⟨w.heap.size, 0, none⟩), u3, u4, .pointer (some ⟨w.heap.size + 1 + 1, 0, none⟩), u6, u7, .pointer (some ⟨b8, 0, none⟩), u9, .pointer (some ⟨b10, 0, none⟩), u11, u12, u13, u14, u15, u16, u17, u18, u19, u20, u21, u22, u23, u24, u25, u26, u27, u28, u29, .bool true, .pointer (some ⟨w.heap.size, 1, none⟩), .slice aa la ca, .func (.func 84) #[] #[.pointer (some ⟨wr.heap.size, 0, none⟩)], .int .i64 y.1.1, .agg #[.int .i64 y.1.2.1, .int .i64 y.1.2.2.1, .int .i64 y.1.2.2.2], u36, u37, u38, u39, u40, u41, u42, u43, u44, u45, u46, u47, u48, u49, u50, u51, u52, u53, u54], defers := [] })
            ?ax ?assign ?body ?done ?stop
          case ax =>
            rintro y a' _ W W' row ⟨b10, ⟨q1, q2⟩, rfl⟩ hg hrw
            refine ⟨b10, ⟨q1, ?_⟩, rfl⟩
            rw [hg.block b10 (Array.getElem?_eq_some_iff.1 q2).1 (fun e => by
              obtain ⟨_, o, z1, z2⟩ := hrw b10 e.symm
              rw [q2] at z1
              injection z1 with z1
              subst z1
              cases z2)]
            exact q2
          case stop =>
            rintro D c pre W _ _ h _
            exact h.elim
          case assign =>
            intro l pre y W K hP hK2
            dsimp only [arcV]
            gi_wp2
            have bn := below_new W (.cells #[.int .i64 y.1.2.1, .int .i64 y.1.2.2.1, .int .i64 y.1.2.2.2] 109)
            have hlw : w5.heap.size ≤ W.heap.size := hP.only.1
            exact hK2 _ _ (KeepsFrom.of_grownBy (World.grownBy_alloc W _ none) (fun j e => by cases e)) ⟨bn.mono hP.below.size, bn.block _ (by omega)⟩ ((comeP_own hw5).alloc _ hP) ⟨_, ⟨hlw, heap_alloc_at _ _⟩, rfl⟩
          case body =>
            rintro l pre y _ W _ _ hP ⟨b10, ⟨q1, q2⟩, rfl⟩ _
            obtain ⟨⟨b, g, h8, hg, hA2⟩, hO, hB⟩ := hP
            have hs2 := hO.1
            have hsn := arcsOf_snoc pre y
            obtain ⟨i0, i1, j0, j1⟩ := rightS_iff.1 hr y.1.2 y.2
            have hGy := hGa y.1.2 y.2
            obtain ⟨⟨ix, ⟨x1, x2, x3⟩⟩, hy⟩ := y
            simp only at i0 i1 j0 j1 hGy q2 hsn ⊢
            obtain ⟨i, rfl⟩ := Int.eq_ofNat_of_zero_le i0
            obtain ⟨j, rfl⟩ := Int.eq_ofNat_of_zero_le j0
            simp only [Int.toNat_natCast] at hGy
            have hil : i < k := by have := Hlm.out; omega
            have hjl : j < k := by have := Hlm.out; omega
            obtain ⟨e8, f8⟩ := box_cell h8
            obtain ⟨e5, f5⟩ := box_cell ((hO.2 _ (Array.getElem?_eq_some_iff.1 hc5).1 (by omega) (by omega)).trans hc5)
            have z0 : W.cell? ⟨b10, 0, none⟩ = some (.int .i64 (i : Int)) := by simp [World.cell?, q2]
            have z2 : W.cell? ⟨b10, 2, none⟩ = some (.int .i64 (j : Int)) := by simp [World.cell?, q2]
            have r1 := hg.cells j hjl
            have r2 := hg.cells i hil
            have r3 := hg.frozen i hil
            have HO : Hid _ := hO
            have HB : Hid _ := hB
            have Hg : Hid _ := hg
            have H8 : Hid _ := h8
            have HA : Hid _ := hA2
            clear hO hB hg h8 hA2 q2 hM hA hu hI hR5 hc5 hsp5 c5 hMk5 hDs hbt5 h8'
            cases hgj : g j
            · have R : Hid (PassA G k f g b (arcsOf (pre ++ [⟨(ix, ((i : Int), x2, (j : Int))), hy⟩]))) := by show PassA _ _ _ _ _ _; rw [hsn]; exact HA.out.stay (fun h => by simp only [Int.toNat_natCast] at h; rw [hgj] at h; cases h)
              rw [hgj] at r1
              gi_wp2
              exact ⟨KeepsFrom.refl _ _, ⟨Below.refl _ _, rfl⟩, ⟨b, g, H8.out, Hg.out, R.out⟩, HO.out, HB.out⟩
            · rw [hgj] at r1
              cases hgi : g i
              · rw [hgi] at r2
                have R : Hid (PassA G k f (updT g i) true (arcsOf (pre ++ [⟨(ix, ((i : Int), x2, (j : Int))), hy⟩]))) := by show PassA _ _ _ _ _ _; rw [hsn]; exact HA.out.note (x := i) (by simp) hil hgi (hGy (HA.out.sound j hjl hgj))
                have R1 : Hid (BoolRow (W.setCell ⟨w.heap.size + 1, i, none⟩ (.bool true)) (w.heap.size + 1) k (updT g i)) := Hg.out.put hil (updT_same g i) (fun t _ hne => updT_other g hne)
                have ne8 : b8 ≠ w.heap.size + 1 := by omega
                have R2 : Hid ((W.setCell ⟨w.heap.size + 1, i, none⟩ (.bool true)).heap[b8]? = some (.cells #[.bool b] 4 (0, 0))) := (Below.heap_setCell _ _ _ _ (by exact ne8)).trans H8.out
                have R3 : Hid (Only2 (w.heap.size + 1) b8 w5 (W.setCell ⟨w.heap.size + 1, i, none⟩ (.bool true))) := Only2.trans HO.out (Only2.ofB (OnlyB.set _ _ _ _))
                have R4 : Hid (Below w.heap.size w (W.setCell ⟨w.heap.size + 1, i, none⟩ (.bool true))) := HB.out.setCell (p := ⟨w.heap.size + 1, i, none⟩) (Nat.le_succ _) _
                have R5 : Hid (KeepsOthers W (W.setCell ⟨w.heap.size + 1, i, none⟩ (.bool true))) := KeepsOthers.setCell _ _ _
                have R6 : Hid (KeepT w.heap.size wr.heap.size W (W.setCell ⟨w.heap.size + 1, i, none⟩ (.bool true))) := ⟨(Below.refl _ _).setCell (p := ⟨w.heap.size + 1, i, none⟩) (Nat.le_succ _) _, Below.heap_setCell _ _ _ _ (by show wr.heap.size ≠ w.heap.size + 1; omega)⟩
                obtain ⟨W1, HW1⟩ : ∃ W1, Hid (W.setCell ⟨w.heap.size + 1, i, none⟩ (.bool true) = W1) := ⟨_, rfl⟩
                rw [HW1.out] at R1 R2 R3 R4 R5 R6
                obtain ⟨e8', f8'⟩ := box_cell R2.out
                have S1 : Hid (BoolRow (W1.setCell ⟨b8, 0, none⟩ (.bool true)) (w.heap.size + 1) k (updT g i)) := R1.out.other (by exact ne8) _
                have S2 : Hid ((W1.setCell ⟨b8, 0, none⟩ (.bool true)).heap[b8]? = some (.cells #[.bool true] 4 (0, 0))) := setBox R2.out
                have S3 : Hid (Only2 (w.heap.size + 1) b8 w5 (W1.setCell ⟨b8, 0, none⟩ (.bool true))) := Only2.trans R3.out (Only2.set _ _ _ _)
                have S4 : Hid (Below w.heap.size w (W1.setCell ⟨b8, 0, none⟩ (.bool true))) := R4.out.setCell (p := ⟨b8, 0, none⟩) (by show w.heap.size ≤ b8; omega) _
                have S5 : Hid (KeepsOthers W (W1.setCell ⟨b8, 0, none⟩ (.bool true))) := R5.out.trans (KeepsOthers.setCell _ _ _)
                have S6 : Hid (KeepT w.heap.size wr.heap.size W (W1.setCell ⟨b8, 0, none⟩ (.bool true))) := ⟨R6.out.1.setCell (p := ⟨b8, 0, none⟩) (by show w.heap.size ≤ b8; omega) _, (Below.heap_setCell _ _ _ _ (by show wr.heap.size ≠ b8; omega)).trans R6.out.2⟩
                gi_wp2_with fail
                first | rw [HW1.out] | skip
                exact ⟨S5.out.from _, S6.out, ⟨true, updT g i, S2.out, S1.out, R.out⟩, S3.out, S4.out⟩
              · rw [hgi] at r2
                have R : Hid (PassA G k f g b (arcsOf (pre ++ [⟨(ix, ((i : Int), x2, (j : Int))), hy⟩]))) := by show PassA _ _ _ _ _ _; rw [hsn]; exact HA.out.stay (fun _ => by simpa using hgi)
                gi_wp2
                exact ⟨KeepsFrom.refl _ _, ⟨Below.refl _ _, rfl⟩, ⟨b, g, H8.out, Hg.out, R.out⟩, HO.out, HB.out⟩
          case done =>
            rintro D ys W hD hys ⟨⟨b, g, h8, hg, hP⟩, hO, hB⟩ hKD
            rw [hys] at hP
            obtain ⟨e8, f8⟩ := box_cell h8
            have hs2 := hO.1
            have hC : Hid (ComeI w s (.slice am k cm) (.slice aa la ca) (.slice (some ⟨w.heap.size + 1, 0, none⟩) k k) k G f0 (2 * cntF g k + (if b then 1 else 0)) W.heap.size b g ({ target := .collected D, args := #[] } :: ds) (D :: Ds) (W.alloc (.cells #[.bool b] 4))) := by
              have bn := below_new W (.cells #[.bool b] 4)
              have hcW := (hO.2 _ (Array.getElem?_eq_some_iff.1 hc5).1 (by omega) (by omega)).trans hc5
              have hsW := (hO.2 _ (Array.getElem?_eq_some_iff.1 hsp5).1 (by omega) (by omega)).trans hsp5
              refine ⟨rfl, heap_alloc_at _ _, by omega, (bn.block _ (Array.getElem?_eq_some_iff.1 hcW).1).trans hcW, hg.below bn, (bn.block _ (Array.getElem?_eq_some_iff.1 hsW).1).trans hsW, fun j hj => hP.grew j (hI.grew j hj), hP.sound, fun e a ha => ?_, below_then hB bn, ?_⟩
              · rw [(hP.none e).1]; exact (hP.none e).2 a (by simpa using ha)
              · refine Marked.cons (hMk5.to2 fun t o hbt ht ho => ?_) (by omega) (fun h => by have := hDs D h; omega) ?_
                · have htl := (Array.getElem?_eq_some_iff.1 ht).1
                  rw [bn.block t (by omega), hO.2 t htl (by omega) (fun e => by subst e; rw [h8'] at ht; injection ht with ht; subst ht; cases ho)]
                  exact ht
                · rw [bn.block D (Array.getElem?_eq_some_iff.1 hKD).1]; exact hKD
            have hM2 : Hid (2 * cntF g k + (if b then 1 else 0) < m) := by
              show _ < _
              have hm := hI.meas
              cases b
              · rw [(hP.none rfl).1]; simp at hm ⊢; omega
              · have := hP.some rfl; simp at hm ⊢; omega
            clear hP hg hO hB hMk5 hDs hc5 hsp5 hR5 h8' c5 hbt5
            go_wp2
            refine Handed.intro _ hM2.out (hJ _ _ _ ⟨_, _, _, _, _, _, _, _, _, _, _, _, _, _, _, _, _, _, _, _, _, _, _, _, _, _, _, _, _, _, _, _, _, _, _, _, _, _, _, _, _, _, _, _, _, _, _, _, _, _, _, _, _, _, _, _, _, hC.out, rfl⟩)

end Go.Proofs.Ytfgimobmaahmmaa
