import Derived.Test.YtfgimobmaahmmaaGr10
import Derived.Test.YtfgimobmaahmmaaGr06
import Derived.BigQuiet
import Derived.Laws.EntriesVeiled
/- Package live as it landed: the steps of each mark. -/
namespace Go.Proofs.Ytfgimobmaahmmaa
open Go.RowKit
set_option linter.unusedVariables false
set_option maxRecDepth 4000

/-! ### plainly -/
def stepsL (p q : Int × Int × Int → Int) (l : List (Int × Int × Int)) (k i : Nat) : List Int := ((l.take k).filter fun a => p a == (i : Int)).map q
theorem stepsL_zero (p q : Int × Int × Int → Int) (l : List (Int × Int × Int)) (i : Nat) : stepsL p q l 0 i = [] := by simp [stepsL]
theorem stepsL_yes (p q : Int × Int × Int → Int) {l : List (Int × Int × Int)} {k i : Nat} (hk : k < l.length) (h : p l[k] = (i : Int)) : stepsL p q l (k + 1) i = stepsL p q l k i ++ [q l[k]] := by
  unfold stepsL; rw [List.take_succ_eq_append_getElem hk, List.filter_append, List.map_append]; simp [h]
theorem stepsL_no (p q : Int × Int × Int → Int) {l : List (Int × Int × Int)} {k i : Nat} (hk : k < l.length) (h : p l[k] ≠ (i : Int)) : stepsL p q l (k + 1) i = stepsL p q l k i := by
  unfold stepsL; rw [List.take_succ_eq_append_getElem hk, List.filter_append, List.map_append]; simp [h]
theorem stepsL_le (p q : Int × Int × Int → Int) (l : List (Int × Int × Int)) (k i : Nat) : (stepsL p q l k i).length ≤ k := by
  unfold stepsL
  rw [List.length_map]
  refine Nat.le_trans (List.length_filter_le _ _) ?_
  simp; omega
theorem mem_stepsL {p q : Int × Int × Int → Int} {l : List (Int × Int × Int)} {k i : Nat} (hk : k = l.length) {z : Int} : z ∈ stepsL p q l k i ↔ ∃ a ∈ l, p a = i ∧ q a = z := by
  unfold stepsL
  rw [List.take_of_length_le (by omega), List.mem_map]
  simp only [List.mem_filter, beq_iff_eq, and_assoc]

/-! ### in memory -/
structure StepsAt (X : Nat) (w wr : World) (n : Nat) (rv : Nat → Value) (R : Nat → List Int) : Prop where
  cells : ∀ i, i < n → wr.cell? ⟨X, i, none⟩ = some (rv i)
  frozen : ∀ i, i < n → wr.frozen? ⟨X, i, none⟩ = false
  own : ∀ i, i < n → wr.ownsRow (X + 1) 3 1 (rv i) (R i).length ((R i).map (Value.int .i64))
  apart : ∀ i j, i < n → j < n → i ≠ j → ∀ k, (rv i).ownBlock = some k → (rv j).ownBlock ≠ some k
  below : Below X w wr
  size : X < wr.heap.size
section
variable {X n : Nat} {w wr : World} {rv : Nat → Value} {R : Nat → List Int}
theorem StepsAt.to {w2 : World} (h : StepsAt X w wr n rv R) (hb : Below wr.heap.size wr w2) : StepsAt X w w2 n rv R :=
  ⟨fun i hi => by rw [hb.cell (p := ⟨X, i, none⟩) h.size]; exact h.cells i hi, fun i hi => by rw [hb.frozen (p := ⟨X, i, none⟩) h.size]; exact h.frozen i hi,
   fun i hi => ((ownsRow_on (h.own i hi)).below hb).now, h.apart, h.below.trans (hb.mono (Nat.le_of_lt h.size)), Nat.lt_of_lt_of_le h.size hb.size⟩
theorem StepsAt.grown {wC : World} (h : StepsAt X w wr n rv R) {i : Nat} (hi : i < n) (hg : wr.grownBy wC (rv i).ownBlock) : wC.cell? ⟨X, i, none⟩ = some (rv i) ∧ wC.frozen? ⟨X, i, none⟩ = false := by
  have hx : wC.heap[X]? = wr.heap[X]? := hg.block X h.size (fun e => by have := (ownsRow_lt (h.own i hi) e.symm).1; omega)
  exact ⟨(World.cell?_of_block (a := ⟨X, i, none⟩) hx).trans (h.cells i hi), by have := h.frozen i hi; unfold World.frozen? at this ⊢; simp only [hx]; exact this⟩
/-- A row has grown, and its cell is written. -/
theorem StepsAt.put {wC : World} {i : Nat} {v' : Value} {z : Int} {R' : Nat → List Int} (h : StepsAt X w wr n rv R) (hi : i < n) (hown : wC.ownsRow (X + 1) 3 1 v' ((R i).length + 1) ((R i).map (Value.int .i64) ++ [.int .i64 z])) (hg : wr.grownBy wC (rv i).ownBlock)
    (hat : v'.ownBlock = (rv i).ownBlock ∨ v'.ownBlock = some wr.heap.size) (h1 : R' i = R i ++ [z]) (h2 : ∀ j, j ≠ i → R' j = R j) :
    StepsAt X w (wC.setCell ⟨X, i, none⟩ v') n (fun j => if j = i then v' else rv j) R' := by
  have hlt : ∀ j, j < n → ∀ k, (rv j).ownBlock = some k → X + 1 ≤ k ∧ k < wr.heap.size := fun j hj k hk => ownsRow_lt (h.own j hj) hk
  have hbg : Below (X + 1) wr wC := (Below.refl _ _).grown hg (by have := h.size; omega) (fun k hk => (hlt i hi k hk).1)
  have hb2 : Below X wr (wC.setCell ⟨X, i, none⟩ v') := (hbg.mono (Nat.le_succ X)).setCell (p := ⟨X, i, none⟩) (Nat.le_refl _) _
  have hcC : ∀ j, j < n → wC.cell? ⟨X, j, none⟩ = some (rv j) := fun j hj => by rw [hbg.cell (p := ⟨X, j, none⟩) (Nat.lt_succ_self X)]; exact h.cells j hj
  refine ⟨fun j hj => ?_, fun j hj => ?_, fun j hj => ?_, fun a b ha hb hne k hk => ?_, h.below.trans hb2, Nat.lt_of_lt_of_le h.size hb2.size⟩
  · by_cases e : j = i
    · subst e
      rw [World.cell?_setCell_same _ _ _ (hcC j hj), if_pos rfl]
    · rw [World.cell?_setCell_other _ _ _ _ (by intro q; injection q with _ q2; omega), if_neg e]
      exact hcC j hj
  · rw [World.frozen?_setCell, hbg.frozen (p := ⟨X, j, none⟩) (Nat.lt_succ_self X)]
    exact h.frozen j hj
  · by_cases e : j = i
    · subst e
      simp only [if_true]
      rw [h1]
      have := ((ownsRow_on hown).set (a := ⟨X, j, none⟩) (fun e => by have := e.2; simp only at this; omega) v').now
      simpa using this
    · simp only [if_neg e]
      rw [h2 j e]
      refine ((ownsRow_on (h.own j hj)).to hb2.size fun k hk q => ?_).now
      rw [Below.heap_setCell wC ⟨X, i, none⟩ v' k (fun e => by have := q.2; simp only at e; omega)]
      exact hg.block k hk (fun e2 => h.apart j i hj hi e k q.1 e2.symm)
  · by_cases e1 : a = i
    · have e2 : b ≠ i := by omega
      simp only [if_pos e1] at hk
      simp only [if_neg e2]
      intro q
      rcases hat with r | r
      · rw [r] at hk; exact h.apart i b hi hb (fun e => e2 e.symm) k hk q
      · rw [r] at hk; injection hk with hk; have := (hlt b hb k q).2; omega
    · simp only [if_neg e1] at hk
      by_cases e2 : b = i
      · simp only [if_pos e2]
        intro q
        rcases hat with r | r
        · rw [r] at q; exact h.apart a i ha hi e1 k hk q
        · rw [r] at q; injection q with q; have := (hlt a ha k hk).2; omega
      · simp only [if_neg e2]
        exact h.apart a b ha hb hne k hk
theorem StepsAt.next (h : StepsAt X w wr n rv R) (hR : ∀ i, i < n → (R i).length ≤ 5864062014805) : NextAt wr (fun k => X ≤ k) (.slice (some ⟨X, 0, none⟩) n n) ((List.range n).map R) := by
  refine ⟨some ⟨X, 0, none⟩, n, by simp, fun p hp => ?_⟩
  have hp' : p < n := by simpa using hp
  have e : markAt ((List.range n).map R) p = R p := by simp [markAt, List.getD, hp']
  rw [e]
  have hown := h.own p hp'
  rcases id hown.2 with ⟨e2, h0⟩ | ⟨g, cap, cur, e2, hb, hg, _⟩
  · refine ⟨X, 0, none, 0, rfl, h.size, Nat.le_refl _, by rw [Nat.zero_add, h.cells p hp', e2, h0], hR p hp', fun k hk => by omega⟩
  · refine ⟨X, 0, some ⟨g, 0, none⟩, cap, rfl, h.size, Nat.le_refl _, by rw [Nat.zero_add, h.cells p hp', e2], hR p hp', fun k hk => ⟨g, 0, rfl, (Array.getElem?_eq_some_iff.1 hg).1, (by omega : X ≤ g), ?_⟩⟩
    rw [e2] at hown
    rw [Nat.zero_add, hown.cellAt k (by omega)]
    simp [nth, List.getD, List.getElem?_eq_getElem hk]
theorem StepsAt.slice (h : StepsAt X w wr n rv R) {i : Nat} (hi : i < n) : ∃ a c, rv i = .slice a (R i).length c := by
  rcases (h.own i hi).2 with ⟨e, h0⟩ | ⟨g, cap, cur, e, _⟩
  · exact ⟨none, 0, by rw [h0]; exact e⟩
  · exact ⟨_, _, e⟩
end
theorem markAt_ranged {n i : Nat} (R : Nat → List Int) (hi : i < n) : markAt ((List.range n).map R) i = R i := by simp [markAt, List.getD, hi]

/-- append of one number, and where it lies. -/
theorem wp_append_int_at {ops : Array Oper} {rest : List Oper} {o : Oper} {a : Act} {Q : Exit → Act → World → Prop} (hgd : o.guard = none) (s x : Operand)
    (ho : o.op = .call { callee := .builtin .append, args := #[s, x], argTypes := #[35, 35] }) (B : Nat) (wr : World) (v : Value) (zs : List Int) (z : Int) (hown : wr.ownsRow B 3 1 v zs.length (zs.map (Value.int .i64)))
    (hs : a.eval s = v) (hx : a.eval x = .slice (some ⟨wr.heap.size, 0, none⟩) 1 1) (hl : zs.length + 1 ≤ 17592186044416) (hB : B ≤ wr.heap.size)
    (h : ∀ v' w', w'.ownsRow B 3 1 v' (zs.length + 1) (zs.map (Value.int .i64) ++ [.int .i64 z]) → (wr.alloc (.cells #[.int .i64 z] 3)).grownBy w' v.ownBlock →
      (v'.ownBlock = v.ownBlock ∨ v'.ownBlock = some (wr.alloc (.cells #[.int .i64 z] 3)).heap.size) → wpList Try.prog ops Q rest (a.put o.dst v') w') :
    wpList Try.prog ops Q (o :: rest) a (wr.alloc (.cells #[.int .i64 z] 3)) := by
  obtain ⟨i0, hi, hz0, hz1, hz2⟩ := info_parts info_int
  refine wpList_append_own_at _ hgd s x 35 ho B 3 i0 _ 1 8 Try.underlying35 hi hz0 hz1 hz2 rfl (by decide) v zs.length _ hs (hown.alloc _) ⟨wr.heap.size, 0, none⟩ 1 1 [.int .i64 z] hx rfl (cell_one_new _ _ _) ?_ ?_ ?_ ?_ ?_
  · intro u hu; simp at hu; subst hu; rfl
  · unfold maxLen; omega
  · omega
  · simp; omega
  · intro v' w' h1 h2 _ h3
    exact h v' w' h1 h2 h3

/-- Function g tells both ends of an arc. -/
def AsksE (g : Nat) (p q : Int × Int × Int → Int) : Prop :=
  ∀ (x y z : Int) w, Calls Try.prog g #[.agg #[.int .i64 x, .int .i64 y, .int .i64 z]] w fun e w' => e = .returned (.tuple #[.int .i64 (p (x, y, z)), .int .i64 (q (x, y, z))]) ∧ Below w.heap.size w w'

/-- The steps of a space, by these ends. -/
structure IsSteps (s : SpaceZ) (p q : Int × Int × Int → Int) (nx : List (List Int)) : Prop where
  len : nx.length = s.marks.length
  mem : ∀ i : Nat, i < s.marks.length → ∀ z, z ∈ markAt nx i ↔ ∃ a ∈ s.arcs, p a = i ∧ q a = z

end Go.Proofs.Ytfgimobmaahmmaa

/- Steps back and forth, plainly; whether all is noted; a box as a block. -/
namespace Go.Proofs.Ytfgimobmaahmmaa
open Go.RowKit
set_option linter.unusedVariables false
set_option maxRecDepth 4000

theorem Comes.trans {s : SpaceZ} {i j k : Int} (h : Comes s i j) (g : Comes s j k) : Comes s i k := fun P h0 h1 => g P (h P h0 h1) h1
theorem IsSteps.inside {s : SpaceZ} {p q : Int × Int × Int → Int} {nx : List (List Int)} (h : IsSteps s p q nx) (hq : ∀ a ∈ s.arcs, 0 ≤ q a ∧ q a < s.marks.length) : Inside nx s.marks.length := by
  intro i hi z hz
  obtain ⟨a, ha, _, rfl⟩ := (h.mem i hi z).1 hz
  exact hq a ha
theorem back_goes {s : SpaceZ} {nx : List (List Int)} (hr : rightS s = true) (h : IsSteps s (fun a => a.2.2) (fun a => a.1) nx) {i j : Nat} (hi : i < s.marks.length) (hj : j < s.marks.length) : Goes nx i j ↔ Comes s j i := by
  constructor
  · intro g
    refine (g (fun j => j < s.marks.length ∧ Comes s j i) ⟨hi, Comes.here _⟩ fun a b ha hb => ?_).2
    obtain ⟨c, hc, e1, e2⟩ := (h.mem a ha.1 _).1 hb
    have hin := rightS_iff.1 hr c hc
    refine ⟨by omega, ?_⟩
    have hgo : Comes s c.1 c.2.2 := (Comes.here c.1).go hc
    rw [e1, e2] at hgo
    exact hgo.trans ha.2
  · intro g
    have key : ∃ i' : Nat, (i : Int) = i' ∧ i' < s.marks.length ∧ Goes nx i' j := by
      refine g (fun x => ∃ i' : Nat, x = i' ∧ i' < s.marks.length ∧ Goes nx i' j) ⟨j, rfl, hj, Goes.here j⟩ fun a ha hc => ?_
      obtain ⟨f, e, hf, hg⟩ := ha
      have hin := rightS_iff.1 hr a hc
      obtain ⟨b, hb⟩ := Int.eq_ofNat_of_zero_le hin.2.2.1
      refine ⟨b, hb, by omega, Goes.trans ((Goes.here b).go ?_) hg⟩
      exact (h.mem b (by omega) _).2 ⟨a, hc, hb, e⟩
    obtain ⟨i', e, _, hg⟩ := key
    obtain rfl : i = i' := by omega
    exact hg
theorem forw_goes {s : SpaceZ} {nx : List (List Int)} (hr : rightS s = true) (h : IsSteps s (fun a => a.1) (fun a => a.2.2) nx) {i j : Nat} (hi : i < s.marks.length) (hj : j < s.marks.length) : Goes nx i j ↔ Comes s i j := by
  constructor
  · intro g
    refine (g (fun j => j < s.marks.length ∧ Comes s i j) ⟨hi, Comes.here _⟩ fun a b ha hb => ?_).2
    obtain ⟨c, hc, e1, e2⟩ := (h.mem a ha.1 _).1 hb
    have hin := rightS_iff.1 hr c hc
    refine ⟨by omega, ?_⟩
    have hgo : Comes s c.1 c.2.2 := (Comes.here c.1).go hc
    rw [e1, e2] at hgo
    exact ha.2.trans hgo
  · intro g
    have key : ∃ j' : Nat, (j : Int) = j' ∧ j' < s.marks.length ∧ Goes nx i j' := by
      refine g (fun x => ∃ j' : Nat, x = j' ∧ j' < s.marks.length ∧ Goes nx i j') ⟨i, rfl, hi, Goes.here i⟩ fun a ha hc => ?_
      obtain ⟨f, e, hf, hg⟩ := ha
      have hin := rightS_iff.1 hr a hc
      obtain ⟨b, hb⟩ := Int.eq_ofNat_of_zero_le hin.2.2.1
      refine ⟨b, hb, by omega, hg.go ?_⟩
      exact (h.mem f hf _).2 ⟨a, hc, e, hb⟩
    obtain ⟨j', e, _, hg⟩ := key
    obtain rfl : j = j' := by omega
    exact hg

/-- All of the first n. -/
def allT (f : Nat → Bool) (n : Nat) : Bool := (List.range n).all f
theorem allT_iff {f : Nat → Bool} {n : Nat} : allT f n = true ↔ ∀ j, j < n → f j = true := by simp [allT]
theorem allT_not {f : Nat → Bool} {n j : Nat} (hj : j < n) (hf : f j = false) : allT f n = false := by
  rw [Bool.eq_false_iff]
  intro h
  have := allT_iff.1 h j hj
  rw [hf] at this; cases this

set_option maxHeartbeats 400000 in
theorem indexb_any (B n : Nat) (f : Nat → Bool) (w : World) (h : BoolRow w B n f) (hn : n ≤ 5864062014805) :
    Calls Try.prog 51 #[.slice (some ⟨B, 0, none⟩) n n, .bool false] w fun e w' => ∃ i : Int, e = .returned (.int .i64 i) ∧ w' = w ∧ (decide (0 ≤ i) = !allT f n) := by
  go_enter Try.func51, Try.ntmps51
  go_wp2
  go_loop [8] (fun i => ∃ k : Nat, k ≤ n ∧ i = .int .i64 k ∧ Hid (∀ j, j < k → f j = true)) (fun i => n - (intOf i).toNat)
  case atStart => exact ⟨0, Nat.zero_le _, rfl, fun j hj => absurd hj (Nat.not_lt_zero _)⟩
  case round =>
    obtain ⟨k, hk, rfl, hidx⟩ := hrel
    by_cases hkn : k < n
    · have hc := h.cells k hkn
      cases hf : f k
      · rw [hf] at hc
        have F : Hid (allT f n = false) := allT_not hkn hf
        clear h
        go_wp2
        go_ret
        exact ⟨_, rfl, rfl, by rw [F.out]; simp⟩
      · rw [hf] at hc
        have F : Hid (∀ j, j < k + 1 → f j = true) := fun j hj => by
          by_cases e : j = k
          · subst e; exact hf
          · exact hidx.out j (by omega)
        clear h
        go_wp2
        go_round
        case rel => exact ⟨k + 1, by omega, by go_num, F⟩
        case measure => simp [intOf]; omega
    · have F : Hid (allT f n = true) := allT_iff.2 fun j hj => hidx.out j (by omega)
      go_wp2
      go_ret
      exact ⟨_, rfl, rfl, by rw [F.out]; rfl⟩

/-- A box of one cell, as a block. -/
def BoxC (w : World) (b : Nat) (v : Value) (t : TypeId) : Prop := w.heap[b]? = some (.cells #[v] t (0, 0))
section
variable {w w' : World} {b : Nat} {v : Value} {t : TypeId}
theorem BoxC.lt (h : BoxC w b v t) : b < w.heap.size := (Array.getElem?_eq_some_iff.1 h).1
theorem BoxC.box (h : BoxC w b v t) : Box1 w b v := ⟨h.lt, by unfold BoxC at h; simp [World.cell?, h]⟩
theorem BoxC.free (h : BoxC w b v t) : w.frozen? ⟨b, 0, none⟩ = false := by unfold BoxC at h; simp [World.frozen?, h]
theorem BoxC.below (h : BoxC w b v t) (hb : Below w.heap.size w w') : BoxC w' b v t := by unfold BoxC at *; rw [hb.block b (Array.getElem?_eq_some_iff.1 h).1]; exact h
theorem BoxC.only (h : BoxC w b v t) {B : Nat} (hb : OnlyB B w w') (hne : b ≠ B) : BoxC w' b v t := by unfold BoxC at *; rw [hb.block b (Array.getElem?_eq_some_iff.1 h).1 hne]; exact h
theorem boxC_new (w : World) (v : Value) (t : TypeId) : BoxC (w.alloc (.cells #[v] t)) w.heap.size v t := by
  show (w.heap.push _)[w.heap.size]? = _
  exact Array.getElem?_push_size
theorem BoxC.set (h : BoxC w b v t) (u : Value) : BoxC (w.setCell ⟨b, 0, none⟩ u) b u t := by
  unfold BoxC at *
  rw [setCell_eq_setRow w b 0 _ _ _ u h]
  have := setRow_heap w b #[v] (#[v].setIfInBounds 0 u) t (0, 0) h
  simpa using this
end

end Go.Proofs.Ytfgimobmaahmmaa
