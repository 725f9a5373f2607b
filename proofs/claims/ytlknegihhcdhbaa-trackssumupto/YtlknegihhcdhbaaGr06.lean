import Derived.Test.YtlknegihhcdhbaaGr00
import Derived.Maps.AppendAt
import Derived.RangeFuncBox
import Derived.RangeFuncLeaves
import Derived.Shelf.Abstract
import Derived.OwnWalkIn
import Derived.TacticsInMore
import Derived.LoopNIn
import Derived.LoopIn
import Derived.Test.YtlknegihhcdhbaaGr03
/- What a reading hangs on: the blocks that must stand. -/
namespace Go.Proofs.Ytlknegihhcdhbaa
open Go.RowKit
set_option linter.unusedVariables false
set_option maxRecDepth 4000

/-- It holds here, and wherever the blocks of D that are here stand as they do. -/
def On (D : Nat → Prop) (w : World) (R : World → Prop) : Prop :=
  ∀ w' : World, w.heap.size ≤ w'.heap.size → (∀ k, k < w.heap.size → D k → w'.heap[k]? = w.heap[k]?) → R w'

theorem On.now {D : Nat → Prop} {w : World} {R : World → Prop} (h : On D w R) : R w := h w (Nat.le_refl _) fun _ _ _ => rfl

theorem On.to {D : Nat → Prop} {w w' : World} {R : World → Prop} (h : On D w R) (hs : w.heap.size ≤ w'.heap.size) (hk : ∀ k, k < w.heap.size → D k → w'.heap[k]? = w.heap[k]?) : On D w' R :=
  fun w2 h2 hk2 => h w2 (Nat.le_trans hs h2) fun k hlt hD => (hk2 k (Nat.lt_of_lt_of_le hlt hs) hD).trans (hk k hlt hD)

theorem On.weaken {D D' : Nat → Prop} {w : World} {R : World → Prop} (h : On D w R) (hD : ∀ k, k < w.heap.size → D k → D' k) : On D' w R :=
  fun w2 h2 hk => h w2 h2 fun k hlt hd => hk k hlt (hD k hlt hd)

theorem On.mono {D : Nat → Prop} {w : World} {R R' : World → Prop} (h : On D w R) (hR : ∀ w', R w' → R' w') : On D w R' := fun w2 h2 hk => hR _ (h w2 h2 hk)

theorem On.below {D : Nat → Prop} {w w' : World} {R : World → Prop} (h : On D w R) (hb : Below w.heap.size w w') : On D w' R := h.to hb.size fun k hlt _ => hb.block k hlt

theorem On.grown {D : Nat → Prop} {w w' : World} {R : World → Prop} {row : Option Nat} (h : On D w R) (hg : w.grownBy w' row) (hD : ∀ k, k < w.heap.size → D k → some k ≠ row) : On D w' R :=
  h.to hg.size fun k hlt hd => hg.block k hlt (hD k hlt hd)

theorem On.set {D : Nat → Prop} {w : World} {R : World → Prop} (h : On D w R) {a : Addr} (ha : ¬ D a.block) (u : Value) : On D (w.setCell a u) R :=
  h.to (by simp [World.setCell]) fun k _ hd => Below.heap_setCell w a u k (fun e => ha (e ▸ hd))

/-- Readings that are kept by whatever leaves all old blocks as they were. -/
theorem on_all {w : World} {R : World → Prop} (h : ∀ w', w.heap.size ≤ w'.heap.size → (∀ k, k < w.heap.size → w'.heap[k]? = w.heap[k]?) → R w') : On (fun _ => True) w R := fun w' hs hk => h w' hs fun k hlt => hk k hlt trivial

theorem cell_kept {w w' : World} {p : Addr} (h : w'.heap[p.block]? = w.heap[p.block]?) : w'.cell? p = w.cell? p := World.cell?_of_block h

/-- The row that the call itself has made hangs on blocks that were made by it. -/
theorem ownsRow_on {B : Nat} {w : World} {e : TypeId} {size : Nat} {v : Value} {n : Nat} {xs : List Value} (h : w.ownsRow B e size v n xs) : On (fun k => v.ownBlock = some k ∧ B ≤ k) w (fun w' => w'.ownsRow B e size v n xs) := by
  intro w' hs hk
  refine ⟨h.1, ?_⟩
  rcases h.2 with hn | ⟨g, cap, cur, rfl, hb, hgg, rest⟩
  · exact .inl hn
  · refine .inr ⟨g, cap, cur, rfl, hb, ?_, rest⟩
    rw [hk g (Array.getElem?_eq_some_iff.1 hgg).1 ⟨rfl, hb⟩]
    exact hgg

theorem ownsRow_ints {B : Nat} {wr : World} {v : Value} {zs : List Int} (hown : wr.ownsRow B 3 1 v zs.length (zs.map (Value.int .i64))) (hl : zs.length ≤ 17592186044416) : Ints wr v zs := by
  have hown0 := hown
  obtain ⟨_, hcase⟩ := hown
  rcases hcase with ⟨rfl, h0⟩ | ⟨g, cap', cur, rfl, hg, hh, hn, hcap, hsz, htake⟩
  · exact ⟨none, zs.length, 0, by rw [h0], rfl, hl, ⟨by omega, by omega, fun _ => rfl⟩, fun j hj => absurd hj (by omega)⟩
  · refine ⟨_, _, _, rfl, rfl, hl, ⟨hn, by unfold maxLen at hcap; omega, fun h => by cases h⟩, fun j hj => ⟨g, 0, rfl, ?_, ?_⟩⟩
    · rcases Nat.lt_or_ge g wr.heap.size with h | h
      · exact h
      · rw [Array.getElem?_eq_none h] at hh; cases hh
    · rw [Nat.zero_add, hown0.cellAt j (by omega)]
      simp [nth, List.getD, List.getElem?_eq_getElem hj]

theorem Own.on {B : Nat} {w wr : World} {v : Value} {zs : List Int} (h : Own B w wr v zs) (hl : zs.length ≤ 17592186044416) : On (fun k => B ≤ k) wr (fun w' => Ints w' v zs) :=
  ((ownsRow_on h.1).weaken fun k _ hk => hk.2).mono fun w' h' => ownsRow_ints h' hl

theorem Own.slice {B : Nat} {w wr : World} {v : Value} {zs : List Int} (h : Own B w wr v zs) : ∃ a l c, v = .slice a l c := by
  rcases h.1.2 with ⟨rfl, _⟩ | ⟨g, cap', cur, rfl, _⟩
  · exact ⟨_, _, _, rfl⟩
  · exact ⟨_, _, _, rfl⟩

theorem ownsRow_slice {B : Nat} {w : World} {e : TypeId} {size : Nat} {v : Value} {n : Nat} {xs : List Value} (h : w.ownsRow B e size v n xs) : ∃ a l c, v = .slice a l c := by
  rcases h.2 with ⟨rfl, _⟩ | ⟨g, cap', cur, rfl, _⟩
  · exact ⟨_, _, _, rfl⟩
  · exact ⟨_, _, _, rfl⟩

theorem ownsRow_lt {B : Nat} {w : World} {e : TypeId} {size : Nat} {v : Value} {n : Nat} {xs : List Value} (h : w.ownsRow B e size v n xs) {k : Nat} (hk : v.ownBlock = some k) : B ≤ k ∧ k < w.heap.size := h.lt k hk

/-- append of one element of several cells onto a row that the call itself has made, where it lies. -/
theorem wp_append_at {P : Program} {o : Oper} {a : Act} {K : Act → World → Prop} {Q : Exit → Act → World → Prop} {Y : Nat → Option Bool} (w : World) (hwt : Region.wanted o Y = true) (s x : Operand) (t : TypeId)
    (ho : o.op = .call { callee := .builtin .append, args := #[s, x], argTypes := #[t, t] })
    (base : Nat) (e : TypeId) (i : TypeInfo) (z : Value) (size bytes : Nat) (ht : P.underlying t = some (.slice e)) (hi : P.info? e = some i) (hz : i.zero = some z)
    (hsize : i.size = size) (hby : i.bytes = bytes) (hzs : z.cells.size = size) (hsz : 0 < size)
    (v : Value) (n : Nat) (xs : List Value) (hs : a.eval s = v) (hown : w.ownsRow base e size v n xs)
    (ad : Addr) (m c : Nat) (news : List Value) (hx : a.eval x = .slice (some ad) m c) (hl : news.length = m * size) (hnews : ∀ j u, news[j]? = some u → w.cell? (ad.add j) = some u) (h1 : ∀ u ∈ news, u.oneCell' = true)
    (h63 : n + m ≤ maxLen) (hbytes : (n + m) * bytes ≤ 140737488355328) (hbase : base ≤ w.heap.size)
    (h : ∀ v' w', w'.ownsRow base e size v' (n + m) (xs ++ news) → w.grownBy w' v.ownBlock → (v'.ownBlock = v.ownBlock ∨ v'.ownBlock = some w.heap.size) → K (a.put o.dst v') w') :
    if Region.wanted o Y = true then Oper.wp P o a w K Q else K (a.put o.dst undef) w := by
  rw [if_pos hwt]
  obtain ⟨v', w', hr, h2, h3, h4, h5⟩ := run_append_own_at (P := P) w base t o.type e i z size bytes ht hi hz hsize hby hzs hsz v n xs hown ad m c news hl hnews h1 h63 hbytes hbase
  unfold Oper.wp execOp
  simp only [ho, resolve, invoke, builtin, Sem.run_bind, Sem.run_pure, Result.andThen_ok, List.map_toArray, List.map_cons, List.map_nil, hs, hx, hr]
  exact h v' w' h2 h3 h5

/-- append of one number, inside a region that draws its order. -/
theorem wpr_append_int {o : Oper} {a : Act} {K : Act → World → Prop} {Q : Exit → Act → World → Prop} {Y : Nat → Option Bool} (hwt : Region.wanted o Y = true) (s x : Operand)
    (ho : o.op = .call { callee := .builtin .append, args := #[s, x], argTypes := #[23, 23] }) (B : Nat) (w wr : World) (v : Value) (zs : List Int) (z : Int) (hG : Own B w wr v zs)
    (hs : a.eval s = v) (hx : a.eval x = .slice (some ⟨wr.heap.size, 0, none⟩) 1 1) (hl : zs.length + 1 ≤ 17592186044416)
    (h : ∀ v' w', Own B w w' v' (zs ++ [z]) → K (a.put o.dst v') w') :
    if Region.wanted o Y = true then Oper.wp Try.prog o a (wr.alloc (.cells #[.int .i64 z] 3)) K Q else K (a.put o.dst undef) (wr.alloc (.cells #[.int .i64 z] 3)) := by
  obtain ⟨i0, hi, hz0, hz1, hz2⟩ := info_parts info_int
  obtain ⟨hown, hb, hB⟩ := hG
  refine wp_append_at _ hwt s x 23 ho B 3 i0 (.int .i64 0) 1 8 Try.underlying23 hi hz0 hz1 hz2 rfl (by decide) v zs.length _ hs (hown.alloc _) ⟨wr.heap.size, 0, none⟩ 1 1 [.int .i64 z] hx rfl ?_ ?_ ?_ ?_ ?_ ?_
  · intro j u hj
    match j, hj with
    | 0, hj => simp at hj; subst hj; simp [Addr.add]
  · intro u hu; simp at hu; subst hu; rfl
  · unfold maxLen; omega
  · omega
  · simp; omega
  · intro v' w' hown' hgrow _
    refine h v' w' ⟨by simpa using hown', (hb.alloc hB _).grown hgrow (by simp; omega) (fun k hk => (hown.lt k hk).1), ?_⟩
    have := hgrow.size; simp at this; omega

end Go.Proofs.Ytlknegihhcdhbaa

/- Rows of numbers that each grow by append, in a slice. (StepsAt as LiveSteps has it.) -/
namespace Go.Proofs.Ytlknegihhcdhbaa
open Go.RowKit
set_option linter.unusedVariables false
set_option maxRecDepth 4000

structure StepsAt (X : Nat) (w wr : World) (n : Nat) (rv : Nat → Value) (R : Nat → List Int) : Prop where
  cells : ∀ i, i < n → wr.cell? ⟨X, i, none⟩ = some (rv i)
  frozen : ∀ i, i < n → wr.frozen? ⟨X, i, none⟩ = false
  own : ∀ i, i < n → wr.ownsRow (X + 1) 3 1 (rv i) (R i).length ((R i).map (Value.int .i64))
  apart : ∀ i j, i < n → j < n → i ≠ j → ∀ k, (rv i).ownBlock = some k → (rv j).ownBlock ≠ some k
  below : Below X w wr
  size : X < wr.heap.size
section
variable {X n : Nat} {w wr : World} {rv : Nat → Value} {R : Nat → List Int}
theorem StepsAt.to {w2 : World} (h : StepsAt X w wr n rv R) (hb : Below wr.heap.size wr w2) : StepsAt X w w2 n rv R :=
  ⟨fun i hi => by rw [hb.cell (p := ⟨X, i, none⟩) h.size]; exact h.cells i hi, fun i hi => by rw [hb.frozen (p := ⟨X, i, none⟩) h.size]; exact h.frozen i hi,
   fun i hi => ((ownsRow_on (h.own i hi)).below hb).now, h.apart, h.below.trans (hb.mono (Nat.le_of_lt h.size)), Nat.lt_of_lt_of_le h.size hb.size⟩
theorem StepsAt.grown {wC : World} (h : StepsAt X w wr n rv R) {i : Nat} (hi : i < n) (hg : wr.grownBy wC (rv i).ownBlock) : wC.cell? ⟨X, i, none⟩ = some (rv i) ∧ wC.frozen? ⟨X, i, none⟩ = false := by
  have hx : wC.heap[X]? = wr.heap[X]? := hg.block X h.size (fun e => by have := (ownsRow_lt (h.own i hi) e.symm).1; omega)
  exact ⟨(World.cell?_of_block (a := ⟨X, i, none⟩) hx).trans (h.cells i hi), by have := h.frozen i hi; unfold World.frozen? at this ⊢; simp only [hx]; exact this⟩
/-- A row has grown, and its cell is written. -/
theorem StepsAt.put {wC : World} {i : Nat} {v' : Value} {z : Int} {R' : Nat → List Int} (h : StepsAt X w wr n rv R) (hi : i < n) (hown : wC.ownsRow (X + 1) 3 1 v' ((R i).length + 1) ((R i).map (Value.int .i64) ++ [.int .i64 z])) (hg : wr.grownBy wC (rv i).ownBlock)
    (hat : v'.ownBlock = (rv i).ownBlock ∨ v'.ownBlock = some wr.heap.size) (h1 : R' i = R i ++ [z]) (h2 : ∀ j, j ≠ i → R' j = R j) :
    StepsAt X w (wC.setCell ⟨X, i, none⟩ v') n (fun j => if j = i then v' else rv j) R' := by
  have hlt : ∀ j, j < n → ∀ k, (rv j).ownBlock = some k → X + 1 ≤ k ∧ k < wr.heap.size := fun j hj k hk => ownsRow_lt (h.own j hj) hk
  have hbg : Below (X + 1) wr wC := (Below.refl _ _).grown hg (by have := h.size; omega) (fun k hk => (hlt i hi k hk).1)
  have hb2 : Below X wr (wC.setCell ⟨X, i, none⟩ v') := (hbg.mono (Nat.le_succ X)).setCell (p := ⟨X, i, none⟩) (Nat.le_refl _) _
  have hcC : ∀ j, j < n → wC.cell? ⟨X, j, none⟩ = some (rv j) := fun j hj => by rw [hbg.cell (p := ⟨X, j, none⟩) (Nat.lt_succ_self X)]; exact h.cells j hj
  refine ⟨fun j hj => ?_, fun j hj => ?_, fun j hj => ?_, fun a b ha hb hne k hk => ?_, h.below.trans hb2, Nat.lt_of_lt_of_le h.size hb2.size⟩
  · by_cases e : j = i
    · subst e
      rw [World.cell?_setCell_same _ _ _ (hcC j hj), if_pos rfl]
    · rw [World.cell?_setCell_other _ _ _ _ (by intro q; injection q with _ q2; omega), if_neg e]
      exact hcC j hj
  · rw [World.frozen?_setCell, hbg.frozen (p := ⟨X, j, none⟩) (Nat.lt_succ_self X)]
    exact h.frozen j hj
  · by_cases e : j = i
    · subst e
      simp only [if_true]
      rw [h1]
      have := ((ownsRow_on hown).set (a := ⟨X, j, none⟩) (fun e => by have := e.2; simp only at this; omega) v').now
      simpa using this
    · simp only [if_neg e]
      rw [h2 j e]
      refine ((ownsRow_on (h.own j hj)).to hb2.size fun k hk q => ?_).now
      rw [Below.heap_setCell wC ⟨X, i, none⟩ v' k (fun e => by have := q.2; simp only at e; omega)]
      exact hg.block k hk (fun e2 => h.apart j i hj hi e k q.1 e2.symm)
  · by_cases e1 : a = i
    · have e2 : b ≠ i := by omega
      simp only [if_pos e1] at hk
      simp only [if_neg e2]
      intro q
      rcases hat with r | r
      · rw [r] at hk; exact h.apart i b hi hb (fun e => e2 e.symm) k hk q
      · rw [r] at hk; injection hk with hk; have := (hlt b hb k q).2; omega
    · simp only [if_neg e1] at hk
      by_cases e2 : b = i
      · simp only [if_pos e2]
        intro q
        rcases hat with r | r
        · rw [r] at q; exact h.apart a i ha hi e1 k hk q
        · rw [r] at q; injection q with q; have := (hlt a ha k hk).2; omega
      · simp only [if_neg e2]
        exact h.apart a b ha hb hne k hk
theorem StepsAt.slice (h : StepsAt X w wr n rv R) {i : Nat} (hi : i < n) : ∃ a c, rv i = .slice a (R i).length c := by
  rcases (h.own i hi).2 with ⟨e, h0⟩ | ⟨g, cap, cur, e, _⟩
  · exact ⟨none, 0, by rw [h0]; exact e⟩
  · exact ⟨_, _, e⟩
end
theorem info_rowI : (Try.prog.info? 23).map (fun i => (i.zero, i.size, i.bytes)) = some (some (.slice none 0 0), 1, 24) := by kernel_rfl
theorem make_rows (w : World) (n : Nat) (hn : n ≤ 5864062014805) :
    ∃ w1, (Instr.makeSlice 22 (.int .i64 (n : Int)) (.int .i64 (n : Int))).run Try.prog w = .ok (.slice (some ⟨w.heap.size, 0, none⟩) n n) w1 ∧ StepsAt w.heap.size w w1 n (fun _ => .slice none 0 0) (fun _ => []) := by
  obtain ⟨i0, hi, hz0, hz1, hz2⟩ := info_parts info_rowI
  have h := run_make (P := Try.prog) w 22 23 i0 (.slice none 0 0) Try.underlying22 hi hz0 .i64 .i64 n n (by omega) (by omega) (by rw [hz2]; omega) (by omega)
  simp only [Int.toNat_natCast] at h
  refine ⟨_, h, fun j hj => ?_, fun j hj => World.frozen?_alloc_at _ _ _ _ rfl, fun j hj => World.ownsRow_nil _ _ _ _, fun i j _ _ _ k hk => by simp [Value.ownBlock] at hk, (Below.refl _ _).alloc (Nat.le_refl _) _, by simp⟩
  rw [World.cell?_alloc_at _ _ _ _ rfl]
  simp [madeCells, hz1, Value.cells, hj, Nat.mod_one]

/-- append of one number, and where it lies. -/
theorem wp_append_int_at {ops : Array Oper} {rest : List Oper} {o : Oper} {a : Act} {Q : Exit → Act → World → Prop} (hgd : o.guard = none) (s x : Operand)
    (ho : o.op = .call { callee := .builtin .append, args := #[s, x], argTypes := #[23, 23] }) (B : Nat) (wr : World) (v : Value) (zs : List Int) (z : Int) (hown : wr.ownsRow B 3 1 v zs.length (zs.map (Value.int .i64)))
    (hs : a.eval s = v) (hx : a.eval x = .slice (some ⟨wr.heap.size, 0, none⟩) 1 1) (hl : zs.length + 1 ≤ 17592186044416) (hB : B ≤ wr.heap.size)
    (h : ∀ v' w', w'.ownsRow B 3 1 v' (zs.length + 1) (zs.map (Value.int .i64) ++ [.int .i64 z]) → (wr.alloc (.cells #[.int .i64 z] 3)).grownBy w' v.ownBlock →
      (v'.ownBlock = v.ownBlock ∨ v'.ownBlock = some (wr.alloc (.cells #[.int .i64 z] 3)).heap.size) → wpList Try.prog ops Q rest (a.put o.dst v') w') :
    wpList Try.prog ops Q (o :: rest) a (wr.alloc (.cells #[.int .i64 z] 3)) := by
  obtain ⟨i0, hi, hz0, hz1, hz2⟩ := info_parts info_int
  refine wpList_append_own_at _ hgd s x 23 ho B 3 i0 _ 1 8 Try.underlying23 hi hz0 hz1 hz2 rfl (by decide) v zs.length _ hs (hown.alloc _) ⟨wr.heap.size, 0, none⟩ 1 1 [.int .i64 z] hx rfl (cell_one_new _ _ _) ?_ ?_ ?_ ?_ ?_
  · intro u hu; simp at hu; subst hu; rfl
  · unfold maxLen; omega
  · omega
  · simp; omega
  · intro v' w' h1 h2 _ h3
    exact h v' w' h1 h2 h3


theorem StepsAt.lists {X n : Nat} {w wr : World} {rv : Nat → Value} {R : Nat → List Int} (h : StepsAt X w wr n rv R) (hn : n ≤ 5864062014805) (hR : ∀ i, i < n → (R i).length ≤ 17592186044416) : Lists wr (.slice (some ⟨X, 0, none⟩) n n) ((List.range n).map R) := by
  refine ⟨_, _, _, rfl, by simp, by omega, ⟨Nat.le_refl _, by omega, fun q => by cases q⟩, fun j hj => ?_⟩
  have hj' : j < n := by simpa using hj
  refine ⟨X, 0, rv j, rfl, h.size, by rw [Nat.zero_add]; exact h.cells j hj', ?_⟩
  rw [show ((List.range n).map R).getD j [] = R j by simp [List.getD, hj']]
  exact ownsRow_ints (h.own j hj') (by have := hR j hj'; omega)

end Go.Proofs.Ytlknegihhcdhbaa

/- slices.Values over numbers, slices.AppendSeq and slices.Collect over it. -/
namespace Go.Proofs.Ytlknegihhcdhbaa
open Go.RowKit Go.Shelf
set_option linter.unusedVariables false
set_option maxRecDepth 4000

attribute [local go_sem] Oper.semAt_some

end Go.Proofs.Ytlknegihhcdhbaa
