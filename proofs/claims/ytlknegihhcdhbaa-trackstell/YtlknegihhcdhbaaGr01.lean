import Derived.Test.YtlknegihhcdhbaaGr00
import Derived.Maps.AppendAt
import Derived.Carry
/- What a reading hangs on: the blocks that must stand. -/
namespace Go.Proofs.Ytlknegihhcdhbaa
open Go.RowKit
set_option linter.unusedVariables false
set_option maxRecDepth 4000

/-- It holds here, and wherever the blocks of D that are here stand as they do. -/
def On (D : Nat → Prop) (w : World) (R : World → Prop) : Prop :=
  ∀ w' : World, w.heap.size ≤ w'.heap.size → (∀ k, k < w.heap.size → D k → w'.heap[k]? = w.heap[k]?) → R w'

theorem On.now {D : Nat → Prop} {w : World} {R : World → Prop} (h : On D w R) : R w := h w (Nat.le_refl _) fun _ _ _ => rfl

theorem On.to {D : Nat → Prop} {w w' : World} {R : World → Prop} (h : On D w R) (hs : w.heap.size ≤ w'.heap.size) (hk : ∀ k, k < w.heap.size → D k → w'.heap[k]? = w.heap[k]?) : On D w' R :=
  fun w2 h2 hk2 => h w2 (Nat.le_trans hs h2) fun k hlt hD => (hk2 k (Nat.lt_of_lt_of_le hlt hs) hD).trans (hk k hlt hD)

theorem On.weaken {D D' : Nat → Prop} {w : World} {R : World → Prop} (h : On D w R) (hD : ∀ k, k < w.heap.size → D k → D' k) : On D' w R :=
  fun w2 h2 hk => h w2 h2 fun k hlt hd => hk k hlt (hD k hlt hd)

theorem On.mono {D : Nat → Prop} {w : World} {R R' : World → Prop} (h : On D w R) (hR : ∀ w', R w' → R' w') : On D w R' := fun w2 h2 hk => hR _ (h w2 h2 hk)

theorem On.below {D : Nat → Prop} {w w' : World} {R : World → Prop} (h : On D w R) (hb : Below w.heap.size w w') : On D w' R := h.to hb.size fun k hlt _ => hb.block k hlt

theorem On.grown {D : Nat → Prop} {w w' : World} {R : World → Prop} {row : Option Nat} (h : On D w R) (hg : w.grownBy w' row) (hD : ∀ k, k < w.heap.size → D k → some k ≠ row) : On D w' R :=
  h.to hg.size fun k hlt hd => hg.block k hlt (hD k hlt hd)

theorem On.set {D : Nat → Prop} {w : World} {R : World → Prop} (h : On D w R) {a : Addr} (ha : ¬ D a.block) (u : Value) : On D (w.setCell a u) R :=
  h.to (by simp [World.setCell]) fun k _ hd => Below.heap_setCell w a u k (fun e => ha (e ▸ hd))

/-- Readings that are kept by whatever leaves all old blocks as they were. -/
theorem on_all {w : World} {R : World → Prop} (h : ∀ w', w.heap.size ≤ w'.heap.size → (∀ k, k < w.heap.size → w'.heap[k]? = w.heap[k]?) → R w') : On (fun _ => True) w R := fun w' hs hk => h w' hs fun k hlt => hk k hlt trivial

theorem cell_kept {w w' : World} {p : Addr} (h : w'.heap[p.block]? = w.heap[p.block]?) : w'.cell? p = w.cell? p := World.cell?_of_block h

/-- The row that the call itself has made hangs on blocks that were made by it. -/
theorem ownsRow_on {B : Nat} {w : World} {e : TypeId} {size : Nat} {v : Value} {n : Nat} {xs : List Value} (h : w.ownsRow B e size v n xs) : On (fun k => v.ownBlock = some k ∧ B ≤ k) w (fun w' => w'.ownsRow B e size v n xs) := by
  intro w' hs hk
  refine ⟨h.1, ?_⟩
  rcases h.2 with hn | ⟨g, cap, cur, rfl, hb, hgg, rest⟩
  · exact .inl hn
  · refine .inr ⟨g, cap, cur, rfl, hb, ?_, rest⟩
    rw [hk g (Array.getElem?_eq_some_iff.1 hgg).1 ⟨rfl, hb⟩]
    exact hgg

theorem ownsRow_ints {B : Nat} {wr : World} {v : Value} {zs : List Int} (hown : wr.ownsRow B 3 1 v zs.length (zs.map (Value.int .i64))) (hl : zs.length ≤ 17592186044416) : Ints wr v zs := by
  have hown0 := hown
  obtain ⟨_, hcase⟩ := hown
  rcases hcase with ⟨rfl, h0⟩ | ⟨g, cap', cur, rfl, hg, hh, hn, hcap, hsz, htake⟩
  · exact ⟨none, zs.length, 0, by rw [h0], rfl, hl, ⟨by omega, by omega, fun _ => rfl⟩, fun j hj => absurd hj (by omega)⟩
  · refine ⟨_, _, _, rfl, rfl, hl, ⟨hn, by unfold maxLen at hcap; omega, fun h => by cases h⟩, fun j hj => ⟨g, 0, rfl, ?_, ?_⟩⟩
    · rcases Nat.lt_or_ge g wr.heap.size with h | h
      · exact h
      · rw [Array.getElem?_eq_none h] at hh; cases hh
    · rw [Nat.zero_add, hown0.cellAt j (by omega)]
      simp [nth, List.getD, List.getElem?_eq_getElem hj]

theorem Own.on {B : Nat} {w wr : World} {v : Value} {zs : List Int} (h : Own B w wr v zs) (hl : zs.length ≤ 17592186044416) : On (fun k => B ≤ k) wr (fun w' => Ints w' v zs) :=
  ((ownsRow_on h.1).weaken fun k _ hk => hk.2).mono fun w' h' => ownsRow_ints h' hl

theorem Own.slice {B : Nat} {w wr : World} {v : Value} {zs : List Int} (h : Own B w wr v zs) : ∃ a l c, v = .slice a l c := by
  rcases h.1.2 with ⟨rfl, _⟩ | ⟨g, cap', cur, rfl, _⟩
  · exact ⟨_, _, _, rfl⟩
  · exact ⟨_, _, _, rfl⟩

theorem ownsRow_slice {B : Nat} {w : World} {e : TypeId} {size : Nat} {v : Value} {n : Nat} {xs : List Value} (h : w.ownsRow B e size v n xs) : ∃ a l c, v = .slice a l c := by
  rcases h.2 with ⟨rfl, _⟩ | ⟨g, cap', cur, rfl, _⟩
  · exact ⟨_, _, _, rfl⟩
  · exact ⟨_, _, _, rfl⟩

theorem ownsRow_lt {B : Nat} {w : World} {e : TypeId} {size : Nat} {v : Value} {n : Nat} {xs : List Value} (h : w.ownsRow B e size v n xs) {k : Nat} (hk : v.ownBlock = some k) : B ≤ k ∧ k < w.heap.size := h.lt k hk

/-- append of one element of several cells onto a row that the call itself has made, where it lies. -/
theorem wp_append_at {P : Program} {o : Oper} {a : Act} {K : Act → World → Prop} {Q : Exit → Act → World → Prop} {Y : Nat → Option Bool} (w : World) (hwt : Region.wanted o Y = true) (s x : Operand) (t : TypeId)
    (ho : o.op = .call { callee := .builtin .append, args := #[s, x], argTypes := #[t, t] })
    (base : Nat) (e : TypeId) (i : TypeInfo) (z : Value) (size bytes : Nat) (ht : P.underlying t = some (.slice e)) (hi : P.info? e = some i) (hz : i.zero = some z)
    (hsize : i.size = size) (hby : i.bytes = bytes) (hzs : z.cells.size = size) (hsz : 0 < size)
    (v : Value) (n : Nat) (xs : List Value) (hs : a.eval s = v) (hown : w.ownsRow base e size v n xs)
    (ad : Addr) (m c : Nat) (news : List Value) (hx : a.eval x = .slice (some ad) m c) (hl : news.length = m * size) (hnews : ∀ j u, news[j]? = some u → w.cell? (ad.add j) = some u) (h1 : ∀ u ∈ news, u.oneCell' = true)
    (h63 : n + m ≤ maxLen) (hbytes : (n + m) * bytes ≤ 140737488355328) (hbase : base ≤ w.heap.size)
    (h : ∀ v' w', w'.ownsRow base e size v' (n + m) (xs ++ news) → w.grownBy w' v.ownBlock → (v'.ownBlock = v.ownBlock ∨ v'.ownBlock = some w.heap.size) → K (a.put o.dst v') w') :
    if Region.wanted o Y = true then Oper.wp P o a w K Q else K (a.put o.dst undef) w := by
  rw [if_pos hwt]
  obtain ⟨v', w', hr, h2, h3, h4, h5⟩ := run_append_own_at (P := P) w base t o.type e i z size bytes ht hi hz hsize hby hzs hsz v n xs hown ad m c news hl hnews h1 h63 hbytes hbase
  unfold Oper.wp execOp
  simp only [ho, resolve, invoke, builtin, Sem.run_bind, Sem.run_pure, Result.andThen_ok, List.map_toArray, List.map_cons, List.map_nil, hs, hx, hr]
  exact h v' w' h2 h3 h5

/-- append of one number, inside a region that draws its order. -/
theorem wpr_append_int {o : Oper} {a : Act} {K : Act → World → Prop} {Q : Exit → Act → World → Prop} {Y : Nat → Option Bool} (hwt : Region.wanted o Y = true) (s x : Operand)
    (ho : o.op = .call { callee := .builtin .append, args := #[s, x], argTypes := #[23, 23] }) (B : Nat) (w wr : World) (v : Value) (zs : List Int) (z : Int) (hG : Own B w wr v zs)
    (hs : a.eval s = v) (hx : a.eval x = .slice (some ⟨wr.heap.size, 0, none⟩) 1 1) (hl : zs.length + 1 ≤ 17592186044416)
    (h : ∀ v' w', Own B w w' v' (zs ++ [z]) → K (a.put o.dst v') w') :
    if Region.wanted o Y = true then Oper.wp Try.prog o a (wr.alloc (.cells #[.int .i64 z] 3)) K Q else K (a.put o.dst undef) (wr.alloc (.cells #[.int .i64 z] 3)) := by
  obtain ⟨i0, hi, hz0, hz1, hz2⟩ := info_parts info_int
  obtain ⟨hown, hb, hB⟩ := hG
  refine wp_append_at _ hwt s x 23 ho B 3 i0 (.int .i64 0) 1 8 Try.underlying23 hi hz0 hz1 hz2 rfl (by decide) v zs.length _ hs (hown.alloc _) ⟨wr.heap.size, 0, none⟩ 1 1 [.int .i64 z] hx rfl ?_ ?_ ?_ ?_ ?_ ?_
  · intro j u hj
    match j, hj with
    | 0, hj => simp at hj; subst hj; simp [Addr.add]
  · intro u hu; simp at hu; subst hu; rfl
  · unfold maxLen; omega
  · omega
  · simp; omega
  · intro v' w' hown' hgrow _
    refine h v' w' ⟨by simpa using hown', (hb.alloc hB _).grown hgrow (by simp; omega) (fun k hk => (hown.lt k hk).1), ?_⟩
    have := hgrow.size; simp at this; omega

end Go.Proofs.Ytlknegihhcdhbaa

/- Rows of numbers that each grow by append, in a slice. (StepsAt as LiveSteps has it.) -/
namespace Go.Proofs.Ytlknegihhcdhbaa
open Go.RowKit
set_option linter.unusedVariables false
set_option maxRecDepth 4000

structure StepsAt (X : Nat) (w wr : World) (n : Nat) (rv : Nat → Value) (R : Nat → List Int) : Prop where
  cells : ∀ i, i < n → wr.cell? ⟨X, i, none⟩ = some (rv i)
  frozen : ∀ i, i < n → wr.frozen? ⟨X, i, none⟩ = false
  own : ∀ i, i < n → wr.ownsRow (X + 1) 3 1 (rv i) (R i).length ((R i).map (Value.int .i64))
  apart : ∀ i j, i < n → j < n → i ≠ j → ∀ k, (rv i).ownBlock = some k → (rv j).ownBlock ≠ some k
  below : Below X w wr
  size : X < wr.heap.size
section
variable {X n : Nat} {w wr : World} {rv : Nat → Value} {R : Nat → List Int}
theorem StepsAt.to {w2 : World} (h : StepsAt X w wr n rv R) (hb : Below wr.heap.size wr w2) : StepsAt X w w2 n rv R :=
  ⟨fun i hi => by rw [hb.cell (p := ⟨X, i, none⟩) h.size]; exact h.cells i hi, fun i hi => by rw [hb.frozen (p := ⟨X, i, none⟩) h.size]; exact h.frozen i hi,
   fun i hi => ((ownsRow_on (h.own i hi)).below hb).now, h.apart, h.below.trans (hb.mono (Nat.le_of_lt h.size)), Nat.lt_of_lt_of_le h.size hb.size⟩
theorem StepsAt.grown {wC : World} (h : StepsAt X w wr n rv R) {i : Nat} (hi : i < n) (hg : wr.grownBy wC (rv i).ownBlock) : wC.cell? ⟨X, i, none⟩ = some (rv i) ∧ wC.frozen? ⟨X, i, none⟩ = false := by
  have hx : wC.heap[X]? = wr.heap[X]? := hg.block X h.size (fun e => by have := (ownsRow_lt (h.own i hi) e.symm).1; omega)
  exact ⟨(World.cell?_of_block (a := ⟨X, i, none⟩) hx).trans (h.cells i hi), by have := h.frozen i hi; unfold World.frozen? at this ⊢; simp only [hx]; exact this⟩
/-- A row has grown, and its cell is written. -/
theorem StepsAt.put {wC : World} {i : Nat} {v' : Value} {z : Int} {R' : Nat → List Int} (h : StepsAt X w wr n rv R) (hi : i < n) (hown : wC.ownsRow (X + 1) 3 1 v' ((R i).length + 1) ((R i).map (Value.int .i64) ++ [.int .i64 z])) (hg : wr.grownBy wC (rv i).ownBlock)
    (hat : v'.ownBlock = (rv i).ownBlock ∨ v'.ownBlock = some wr.heap.size) (h1 : R' i = R i ++ [z]) (h2 : ∀ j, j ≠ i → R' j = R j) :
    StepsAt X w (wC.setCell ⟨X, i, none⟩ v') n (fun j => if j = i then v' else rv j) R' := by
  have hlt : ∀ j, j < n → ∀ k, (rv j).ownBlock = some k → X + 1 ≤ k ∧ k < wr.heap.size := fun j hj k hk => ownsRow_lt (h.own j hj) hk
  have hbg : Below (X + 1) wr wC := (Below.refl _ _).grown hg (by have := h.size; omega) (fun k hk => (hlt i hi k hk).1)
  have hb2 : Below X wr (wC.setCell ⟨X, i, none⟩ v') := (hbg.mono (Nat.le_succ X)).setCell (p := ⟨X, i, none⟩) (Nat.le_refl _) _
  have hcC : ∀ j, j < n → wC.cell? ⟨X, j, none⟩ = some (rv j) := fun j hj => by rw [hbg.cell (p := ⟨X, j, none⟩) (Nat.lt_succ_self X)]; exact h.cells j hj
  refine ⟨fun j hj => ?_, fun j hj => ?_, fun j hj => ?_, fun a b ha hb hne k hk => ?_, h.below.trans hb2, Nat.lt_of_lt_of_le h.size hb2.size⟩
  · by_cases e : j = i
    · subst e
      rw [World.cell?_setCell_same _ _ _ (hcC j hj), if_pos rfl]
    · rw [World.cell?_setCell_other _ _ _ _ (by intro q; injection q with _ q2; omega), if_neg e]
      exact hcC j hj
  · rw [World.frozen?_setCell, hbg.frozen (p := ⟨X, j, none⟩) (Nat.lt_succ_self X)]
    exact h.frozen j hj
  · by_cases e : j = i
    · subst e
      simp only [if_true]
      rw [h1]
      have := ((ownsRow_on hown).set (a := ⟨X, j, none⟩) (fun e => by have := e.2; simp only at this; omega) v').now
      simpa using this
    · simp only [if_neg e]
      rw [h2 j e]
      refine ((ownsRow_on (h.own j hj)).to hb2.size fun k hk q => ?_).now
      rw [Below.heap_setCell wC ⟨X, i, none⟩ v' k (fun e => by have := q.2; simp only at e; omega)]
      exact hg.block k hk (fun e2 => h.apart j i hj hi e k q.1 e2.symm)
  · by_cases e1 : a = i
    · have e2 : b ≠ i := by omega
      simp only [if_pos e1] at hk
      simp only [if_neg e2]
      intro q
      rcases hat with r | r
      · rw [r] at hk; exact h.apart i b hi hb (fun e => e2 e.symm) k hk q
      · rw [r] at hk; injection hk with hk; have := (hlt b hb k q).2; omega
    · simp only [if_neg e1] at hk
      by_cases e2 : b = i
      · simp only [if_pos e2]
        intro q
        rcases hat with r | r
        · rw [r] at q; exact h.apart a i ha hi e1 k hk q
        · rw [r] at q; injection q with q; have := (hlt a ha k hk).2; omega
      · simp only [if_neg e2]
        exact h.apart a b ha hb hne k hk
theorem StepsAt.slice (h : StepsAt X w wr n rv R) {i : Nat} (hi : i < n) : ∃ a c, rv i = .slice a (R i).length c := by
  rcases (h.own i hi).2 with ⟨e, h0⟩ | ⟨g, cap, cur, e, _⟩
  · exact ⟨none, 0, by rw [h0]; exact e⟩
  · exact ⟨_, _, e⟩
end
theorem info_rowI : (Try.prog.info? 23).map (fun i => (i.zero, i.size, i.bytes)) = some (some (.slice none 0 0), 1, 24) := by kernel_rfl
theorem make_rows (w : World) (n : Nat) (hn : n ≤ 5864062014805) :
    ∃ w1, (Instr.makeSlice 22 (.int .i64 (n : Int)) (.int .i64 (n : Int))).run Try.prog w = .ok (.slice (some ⟨w.heap.size, 0, none⟩) n n) w1 ∧ StepsAt w.heap.size w w1 n (fun _ => .slice none 0 0) (fun _ => []) := by
  obtain ⟨i0, hi, hz0, hz1, hz2⟩ := info_parts info_rowI
  have h := run_make (P := Try.prog) w 22 23 i0 (.slice none 0 0) Try.underlying22 hi hz0 .i64 .i64 n n (by omega) (by omega) (by rw [hz2]; omega) (by omega)
  simp only [Int.toNat_natCast] at h
  refine ⟨_, h, fun j hj => ?_, fun j hj => World.frozen?_alloc_at _ _ _ _ rfl, fun j hj => World.ownsRow_nil _ _ _ _, fun i j _ _ _ k hk => by simp [Value.ownBlock] at hk, (Below.refl _ _).alloc (Nat.le_refl _) _, by simp⟩
  rw [World.cell?_alloc_at _ _ _ _ rfl]
  simp [madeCells, hz1, Value.cells, hj, Nat.mod_one]

/-- append of one number, and where it lies. -/
theorem wp_append_int_at {ops : Array Oper} {rest : List Oper} {o : Oper} {a : Act} {Q : Exit → Act → World → Prop} (hgd : o.guard = none) (s x : Operand)
    (ho : o.op = .call { callee := .builtin .append, args := #[s, x], argTypes := #[23, 23] }) (B : Nat) (wr : World) (v : Value) (zs : List Int) (z : Int) (hown : wr.ownsRow B 3 1 v zs.length (zs.map (Value.int .i64)))
    (hs : a.eval s = v) (hx : a.eval x = .slice (some ⟨wr.heap.size, 0, none⟩) 1 1) (hl : zs.length + 1 ≤ 17592186044416) (hB : B ≤ wr.heap.size)
    (h : ∀ v' w', w'.ownsRow B 3 1 v' (zs.length + 1) (zs.map (Value.int .i64) ++ [.int .i64 z]) → (wr.alloc (.cells #[.int .i64 z] 3)).grownBy w' v.ownBlock →
      (v'.ownBlock = v.ownBlock ∨ v'.ownBlock = some (wr.alloc (.cells #[.int .i64 z] 3)).heap.size) → wpList Try.prog ops Q rest (a.put o.dst v') w') :
    wpList Try.prog ops Q (o :: rest) a (wr.alloc (.cells #[.int .i64 z] 3)) := by
  obtain ⟨i0, hi, hz0, hz1, hz2⟩ := info_parts info_int
  refine wpList_append_own_at _ hgd s x 23 ho B 3 i0 _ 1 8 Try.underlying23 hi hz0 hz1 hz2 rfl (by decide) v zs.length _ hs (hown.alloc _) ⟨wr.heap.size, 0, none⟩ 1 1 [.int .i64 z] hx rfl (cell_one_new _ _ _) ?_ ?_ ?_ ?_ ?_
  · intro u hu; simp at hu; subst hu; rfl
  · unfold maxLen; omega
  · omega
  · simp; omega
  · intro v' w' h1 h2 _ h3
    exact h v' w' h1 h2 h3


theorem StepsAt.lists {X n : Nat} {w wr : World} {rv : Nat → Value} {R : Nat → List Int} (h : StepsAt X w wr n rv R) (hn : n ≤ 5864062014805) (hR : ∀ i, i < n → (R i).length ≤ 17592186044416) : Lists wr (.slice (some ⟨X, 0, none⟩) n n) ((List.range n).map R) := by
  refine ⟨_, _, _, rfl, by simp, by omega, ⟨Nat.le_refl _, by omega, fun q => by cases q⟩, fun j hj => ?_⟩
  have hj' : j < n := by simpa using hj
  refine ⟨X, 0, rv j, rfl, h.size, by rw [Nat.zero_add]; exact h.cells j hj', ?_⟩
  rw [show ((List.range n).map R).getD j [] = R j by simp [List.getD, hj']]
  exact ownsRow_ints (h.own j hj') (by have := hR j hj'; omega)

end Go.Proofs.Ytlknegihhcdhbaa

/- Package tracks as it landed: sets, and Onto. -/
namespace Go.Proofs.Ytlknegihhcdhbaa
open Go.RowKit
set_option linter.unusedVariables false
set_option linter.unusedSimpArgs false
set_option maxRecDepth 4000

theorem nth_get {xs : List Int} {k : Nat} (h : k < xs.length) : nth xs k = xs[k] := by simp [nth, List.getD, List.getElem?_eq_getElem h]
theorem take_succ_nth {xs : List Int} {k : Nat} (h : k < xs.length) : xs.take (k + 1) = xs.take k ++ [nth xs k] := by
  rw [List.take_add_one, List.getElem?_eq_getElem h, nth_get h]; rfl
abbrev SetI (w : World) (b n : Nat) (S : Int → Prop) : Prop := SetA 3 (Lit.int .i64) okI w b n S
abbrev SetP (w : World) (b n : Nat) (S : Int × Int → Prop) : Prop := SetA 38 pairLit okP w b n S

set_option maxHeartbeats 400000 in
theorem addI_any (b n : Nat) (x : Int) (S : Int → Prop) (w : World) (h : SetI w b n S) (hx : okI x) (hn : n < 17592186044416) :
    Calls Try.prog 57 #[.map (some b), .int .i64 x] w fun e w' => e = .returned (.tuple #[]) ∧ SetI w' b (n + 1) (fun y => S y ∨ y = x) ∧ w.grownBy w' (some b) := by
  have Hn : Hid (n < maxLen) := by show _ < _; unfold maxLen; omega
  go_enter Try.func57, Try.ntmps57
  go_wp2_with (at_mapUpdate; refine wp_set_add keyI Try.underlying54 rfl _ _ _ rfl w b n S x h hx Hn.out rfl rfl rfl ?_; intro w1 h1 g1 v1)
  go_end0
  exact ⟨rfl, h1, g1⟩

set_option maxHeartbeats 400000 in
theorem addP_any (b n : Nat) (x : Int × Int) (S : Int × Int → Prop) (w : World) (h : SetP w b n S) (hx : okP x) (hn : n < 17592186044416) :
    Calls Try.prog 58 #[.map (some b), .agg #[.int .i64 x.1, .int .i64 x.2]] w fun e w' => e = .returned (.tuple #[]) ∧ SetP w' b (n + 1) (fun y => S y ∨ y = x) ∧ w.grownBy w' (some b) := by
  have Hn : Hid (n < maxLen) := by show _ < _; unfold maxLen; omega
  obtain ⟨p, q⟩ := x
  have b1 := below_new w (.cells #[.int .i64 p, .int .i64 q] 38)
  have g0 := World.grownBy_alloc w (.cells #[.int .i64 p, .int .i64 q] 38) none
  obtain ⟨c0, c1⟩ : (w.alloc (.cells #[.int .i64 p, .int .i64 q] 38)).cell? ⟨w.heap.size, 0, none⟩ = some (.int .i64 p) ∧ (w.alloc (.cells #[.int .i64 p, .int .i64 q] 38)).cell? ⟨w.heap.size, 1, none⟩ = some (.int .i64 q) := ⟨by rw [World.cell?_alloc_at _ _ _ _ rfl]; rfl, by rw [World.cell?_alloc_at _ _ _ _ rfl]; rfl⟩
  obtain ⟨w0, Hw0⟩ : ∃ v, Hid (w.alloc (.cells #[.int .i64 p, .int .i64 q] 38) = v) := ⟨_, rfl⟩
  rw [Hw0.out] at b1 g0 c0 c1
  have h0 := h.below b1
  show Calls _ _ #[_, .agg #[.int .i64 p, .int .i64 q]] _ _
  go_enter Try.func58, Try.ntmps58
  go_upto_region 1 with fail
  rw [Hw0.out]
  go_wp2_with (at_mapUpdate; refine wp_set_add keyP Try.underlying56 rfl _ _ _ rfl w0 b n S (p, q) h0 hx Hn.out rfl rfl rfl ?_; intro w1 h1 g1 v1)
  go_end0
  exact ⟨rfl, h1, (g0.but (some b)).andThen g1 (fun j e => .inr e)⟩

theorem zeroU (w : World) : (zeroValue 85).run Try.prog w = .ok (.agg #[]) w := by kernel_rfl

set_option maxHeartbeats 400000 in
theorem hasI_any (b n : Nat) (x : Int) (S : Int → Prop) [DecidablePred S] (w : World) (h : SetI w b n S) (hx : okI x) :
    Calls Try.prog 44 #[.map (some b), .int .i64 x] w fun e w' => e = .returned (.bool (decide (S x))) ∧ Below w.heap.size w w' := by
  obtain ⟨D, h1, h2⟩ := h
  have hh : Hid (Maps.has D (.int .i64 x) = decide (S x)) := by
    show _ = _
    rw [Bool.eq_iff_iff, setA_has keyI h2 hx, decide_eq_true_eq]
  go_enter Try.func44, Try.ntmps44
  go_wp2_with (at_lookup; refine wpList_lookup_own_unit _ rfl _ _ 54 rfl 3 85 keyI.keyed Try.underlying54 (zeroU _) b n D rfl h1 _ _ rfl (keyI.key x hx) ?_; rw [hh.out])
  go_ret
  exact ⟨rfl, below_new w _⟩

theorem below_grown {B b : Nat} {w w1 w2 : World} (hb : Below B w w1) (hB : B ≤ b) (hB1 : B ≤ w1.heap.size) (hg : w1.grownBy w2 (some b)) : Below B w w2 := hb.grown hg hB1 (fun j e => by injection e with e; omega)

set_option maxHeartbeats 1000000 in
theorem setOf_any (v : Value) (xs : List Int) (w : World) (hv : Ints w v xs) (hx : ∀ x ∈ xs, okI x) (hl : xs.length ≤ 17592186044416) :
    Calls Try.prog 43 #[v] w fun e w' => e = .returned (.map (some w.heap.size)) ∧ SetI w' w.heap.size xs.length (fun y => y ∈ xs) ∧ Below w.heap.size w w' := by
  obtain ⟨a, len, cap, rfl, hlen, hmx, hsh, hr⟩ := id hv
  have Hlen : Hid (xs.length = len) := hlen
  rw [Hlen.out] at hl ⊢
  clear hlen hsh hr
  have Hx : Hid (∀ x ∈ xs, okI x) := hx
  clear hx
  have hmm := @run_makeMap Try.prog
  have b1 := below_new w (.map #[] 0)
  have h0 : SetI (w.alloc (.map #[] 0)) w.heap.size 0 (fun y => y ∈ xs.take 0) := (setA_made w).same (fun x _ => by simp)
  obtain ⟨B, HB⟩ : ∃ B, Hid (w.heap.size = B) := ⟨_, rfl⟩
  obtain ⟨w0, Hw0⟩ : ∃ v, Hid (w.alloc (.map #[] 0) = v) := ⟨_, rfl⟩
  rw [Hw0.out, HB.out] at h0
  rw [Hw0.out] at b1
  rw [HB.out] at b1 ⊢
  go_enter Try.func43, Try.ntmps43
  go_upto_region 2 with fail
  rw [Hw0.out, HB.out]
  clear hmm
  go_wp2_with fail
  go_loopg [9] len (fun gk i' wr => ∃ k : Nat, k + gk = len ∧ i' = .int .i64 (k : Int) ∧ SetI wr B k (fun y => y ∈ xs.take k) ∧ Below B w wr)
  case atStart => exact ⟨0, by omega, rfl, h0, b1⟩
  case round =>
    clear h0 b1
    obtain ⟨k, hkg, rfl, h0, b1⟩ := hrel
    by_cases hk : k < len
    · have hvr : Ints wr (.slice a len cap) xs := hv.below (by rw [HB.out]; exact b1)
      obtain ⟨b2, o2, rfl, hlt2, c2⟩ := ints_atL hvr hk
      have Hkx : Hid (k < xs.length) := by show _ < _; rw [Hlen.out]; exact hk
      have Hz : Hid (okI (nth xs k)) := Hx.out _ (by rw [nth_get Hkx.out]; exact List.getElem_mem _)
      have Hnx : Hid (∀ y : Int, (y ∈ xs.take k ∨ y = nth xs k) ↔ y ∈ xs.take (k + 1)) := fun y => by
        rw [take_succ_nth Hkx.out, List.mem_append, List.mem_singleton]
      obtain ⟨z, HZ⟩ : ∃ z, Hid (nth xs k = z) := ⟨_, rfl⟩
      rw [HZ.out] at c2 Hz Hnx
      go_wp2_with fail
      refine (addI_any B k z _ wr h0 Hz.out (by omega)).mono ?_
      rintro e w1 ⟨rfl, h1, g1⟩
      have h2 : SetI w1 B (k + 1) (fun y => y ∈ xs.take (k + 1)) := h1.same (fun x _ => Hnx.out x)
      have b3 := below_grown b1 (Nat.le_refl _) (Nat.le_of_lt h0.lt) g1
      clear h0 h1 b1 g1 c2
      go_wp2
      go_roundg (gk - 1)
      case measure => omega
      case rel => exact ⟨k + 1, by omega, by go_num, h2, b3⟩
    · obtain rfl : k = len := by omega
      have h1 : SetI wr B k (fun y => y ∈ xs) := h0.same (fun x _ => by rw [List.take_of_length_le (by rw [Hlen.out]; exact Nat.le_refl _)])
      go_wp2
      go_ret
      exact ⟨rfl, h1, b1⟩

end Go.Proofs.Ytlknegihhcdhbaa

/- Package tracks as it landed: Onto. -/
namespace Go.Proofs.Ytlknegihhcdhbaa
open Go.RowKit
set_option linter.unusedVariables false
set_option linter.unusedSimpArgs false
set_option maxRecDepth 4000

theorem lists_at {w : World} {a : Option Addr} {len cap : Nat} {ls : List (List Int)} (h : Lists w (.slice a len cap) ls) {k : Nat} (hk : k < len) :
    ∃ b off u, a = some ⟨b, off, none⟩ ∧ b < w.heap.size ∧ w.cell? ⟨b, off + k, none⟩ = some u ∧ Ints w u (ls.getD k []) := by
  obtain ⟨a', len', cap', e, hl, hm, hs, hr⟩ := h
  injection e with e1 e2 e3
  subst e1 e2 e3
  exact hr k (by omega)
theorem at_lists {ls : List (List Int)} {k : Nat} (h : k < ls.length) : ls.getD k [] ∈ ls := by
  rw [List.getD_eq_getElem?_getD, List.getElem?_eq_getElem h]; exact List.getElem_mem h
theorem ontoT_succ (ls t : List Int) {j : Nat} (h : j < t.length) : ontoT ls (t.take (j + 1)) = if ls.contains (nth t j) then ontoT ls (t.take j) ++ [nth t j] else ontoT ls (t.take j) := by
  rw [take_succ_nth h]
  unfold ontoT
  rw [List.filter_append, List.filter_cons, List.filter_nil]
  split
  · rfl
  · simp
theorem ontoT_le (ls t : List Int) : (ontoT ls t).length ≤ t.length := List.length_filter_le _ _
/-- The rows while trace k is gone through, up to j. -/
def rowsTo (log : List (List Int)) (ls : List Int) (k j : Nat) (i : Nat) : List Int := if i < k then ontoT ls (log.getD i []) else if i = k then ontoT ls ((log.getD i []).take j) else []
theorem rows_start (log : List (List Int)) (ls : List Int) : rowsTo log ls 0 0 = fun _ => [] := by
  funext i
  unfold rowsTo
  rw [if_neg (by omega)]
  split
  · rfl
  · rfl
theorem rows_next (log : List (List Int)) (ls : List Int) (k j : Nat) (h : (log.getD k []).length ≤ j) : rowsTo log ls k j = rowsTo log ls (k + 1) 0 := by
  funext i
  unfold rowsTo
  by_cases e : i = k
  · subst e
    rw [if_neg (by omega), if_pos rfl, if_pos (by omega), List.take_of_length_le h]
  · by_cases e2 : i < k
    · rw [if_pos e2, if_pos (by omega)]
    · rw [if_neg e2, if_neg e, if_neg (by omega)]
      by_cases e3 : i = k + 1
      · rw [if_pos e3]; rfl
      · rw [if_neg e3]
theorem rows_at (log : List (List Int)) (ls : List Int) (k j : Nat) : rowsTo log ls k j k = ontoT ls ((log.getD k []).take j) := by
  unfold rowsTo; rw [if_neg (by omega), if_pos rfl]
theorem rows_other (log : List (List Int)) (ls : List Int) (k j j' i : Nat) (h : i ≠ k) : rowsTo log ls k j' i = rowsTo log ls k j i := by
  unfold rowsTo
  by_cases e : i < k
  · rw [if_pos e, if_pos e]
  · rw [if_neg e, if_neg e, if_neg h, if_neg h]
theorem rows_end (log : List (List Int)) (ls : List Int) : (List.range log.length).map (rowsTo log ls log.length 0) = ontoL log ls := by
  unfold ontoL
  refine List.ext_getElem (by simp) fun i h1 h2 => ?_
  have hi : i < log.length := by simpa using h1
  simp only [List.getElem_map, List.getElem_range]
  unfold rowsTo
  rw [if_pos hi, List.getD_eq_getElem?_getD, List.getElem?_eq_getElem hi]
  rfl

set_option maxHeartbeats 4000000 in
theorem onto_any (v u : Value) (log : List (List Int)) (ls : List Int) (w : World) (hv : Lists w v log) (hu : Ints w u ls) (hx : ∀ x ∈ ls, okI x) (hy : ∀ t ∈ log, ∀ x ∈ t, okI x) (hlog : log.length ≤ 5864062014805) :
    Calls Try.prog 13 #[v, u] w fun e w' => ∃ r, e = .returned r ∧ Lists w' r (ontoL log ls) ∧ Below w.heap.size w w' := by
  obtain ⟨a, len, cap, rfl, hlen, hmx, hsh, hr⟩ := id hv
  have hls : ls.length ≤ 17592186044416 := by obtain ⟨_, _, _, _, h1, h2, _⟩ := id hu; omega
  have Hlen : Hid (log.length = len) := hlen
  rw [Hlen.out] at hlog
  have Hy : Hid (∀ t ∈ log, ∀ x ∈ t, okI x) := hy
  clear hlen hr hsh hy
  go_enter Try.func13, Try.ntmps13
  go_wp2_with fail
  refine (setOf_any u ls w (by exact hu) hx hls).mono ?_
  rintro e w1 ⟨rfl, hS, b1⟩
  have hmk := make_rows w1 len (by omega)
  obtain ⟨w2, hmk, hR⟩ := hmk
  have hSlt := hS.lt
  replace hS := hS.below hR.below
  have hw1 : w.heap.size < w1.heap.size := hSlt
  obtain ⟨X, HX⟩ : ∃ x, Hid (w1.heap.size = x) := ⟨_, rfl⟩
  rw [HX.out] at hmk hR hw1
  rw [← rows_start log ls] at hR
  go_upto_region 3 with fail
  clear hmk
  go_wp2_with fail
  go_loopg [18] len (fun gk i' wr => ∃ (k : Nat) (rv : Nat → Value), k + gk = len ∧ i' = .int .i64 (k : Int) ∧ SetI wr w.heap.size ls.length (fun y => y ∈ ls) ∧ StepsAt X w1 wr len rv (rowsTo log ls k 0))
  case atStart => exact ⟨0, _, by omega, rfl, hS, hR⟩
  case round =>
    clear hS hR
    obtain ⟨k, rv, hkg, rfl, hS, hR⟩ := hrel
    obtain ⟨g1, rfl⟩ : ∃ g1, g1 = gk := ⟨_, rfl⟩
    by_cases hk : k < len
    · obtain ⟨b2, o2, uv, rfl, hlt2, c2w, iu⟩ := lists_at hv hk
      have hbk := below_then b1 (by rw [HX.out]; exact hR.below)
      have c2 := (hbk.cell (p := ⟨b2, o2 + k, none⟩) hlt2).trans c2w
      clear c2w hbk
      obtain ⟨t, HT⟩ : ∃ t, Hid (log.getD k [] = t) := ⟨_, rfl⟩
      have HTm : Hid (t ∈ log) := by rw [← HT.out]; exact at_lists (by rw [Hlen.out]; exact hk)
      rw [HT.out] at iu
      obtain ⟨ua, ul, uc, rfl, eul, hum, _⟩ := id iu
      have Hul : Hid (t.length = ul) := eul
      clear eul
      go_upto_region 7 with fail
      clear c2 hlt2
      obtain ⟨wk, rfl⟩ : ∃ z, z = wr := ⟨_, rfl⟩
      go_loopg [25] ul (fun gk i' wr => ∃ (j : Nat) (rv : Nat → Value), j + gk = ul ∧ i' = .int .i64 (j : Int) ∧ SetI wr w.heap.size ls.length (fun y => y ∈ ls) ∧ StepsAt X w1 wr len rv (rowsTo log ls k j))
      case atStart => exact ⟨0, _, by omega, rfl, hS, hR⟩
      case round =>
        clear hS hR
        obtain ⟨j, rv, hjg, rfl, hS, hR⟩ := hrel
        by_cases hj : j < ul
        · obtain ⟨b3, o3, rfl, hlt3, c3⟩ := ints_atL (iu.below (below_then b1 (by rw [HX.out]; exact hR.below))) hj
          have Hjl : Hid (j < t.length) := by show _ < _; rw [Hul.out]; exact hj
          have Hz : Hid (okI (nth t j)) := Hy.out t HTm.out _ (by rw [nth_get Hjl.out]; exact List.getElem_mem _)
          have Hsucc : Hid (ontoT ls (t.take (j + 1)) = if ls.contains (nth t j) then ontoT ls (t.take j) ++ [nth t j] else ontoT ls (t.take j)) := ontoT_succ ls t Hjl.out
          have Hle : Hid ((ontoT ls (t.take j)).length ≤ j) := by show _ ≤ _; have := ontoT_le ls (t.take j); rw [List.length_take] at this; omega
          obtain ⟨z, HZ⟩ : ∃ z, Hid (nth t j = z) := ⟨_, rfl⟩
          rw [HZ.out] at c3 Hz Hsucc
          go_wp2_with fail
          refine (hasI_any w.heap.size ls.length z (fun y => y ∈ ls) wr hS Hz.out).mono ?_
          rintro e w3 ⟨rfl, b3'⟩
          replace hS := hS.below b3'
          replace hR := hR.to b3'
          clear b3' c3
          have Hdec : Hid (decide (z ∈ ls) = ls.contains z) := by show _ = _; rw [Bool.eq_iff_iff]; simp
          by_cases hz : z ∈ ls
          · have hzd : decide (z ∈ ls) = true := decide_eq_true hz
            rw [hzd]
            have Hs2 : Hid (rowsTo log ls k (j + 1) k = rowsTo log ls k j k ++ [z]) := by show _ = _; rw [rows_at, rows_at, HT.out, Hsucc.out, ← Hdec.out, hzd]; rfl
            have Hso : Hid (∀ i, i ≠ k → rowsTo log ls k (j + 1) i = rowsTo log ls k j i) := fun i hi => rows_other log ls k j (j + 1) i hi
            have HlenR : Hid ((rowsTo log ls k j k).length + 1 ≤ 17592186044416) := by show _ ≤ _; rw [rows_at, HT.out]; have := Hle.out; omega
            obtain ⟨ra, rc, hrv⟩ := hR.slice hk
            have y0 := hR.cells k hk
            have y1 := hR.frozen k hk
            have hown := hR.own k hk
            have hsz : X + 1 ≤ w3.heap.size := hR.size
            rw [hrv] at y0 hown
            clear hz hzd Hdec
            go_wp2_with (at_builtin; refine wp_append_int_at rfl _ _ rfl (X + 1) w3 _ _ z hown rfl rfl HlenR.out hsz ?_; intro v' w4 hO3 hg3 hat3; obtain ⟨a', l', c', rfl⟩ := ownsRow_slice hO3; have hS3 := hR.to (below_new w3 (.cells #[.int .i64 z] 3)); rw [← hrv] at hg3 hat3; have hS4 := hS3.put hk hO3 hg3 hat3 Hs2.out Hso.out; obtain ⟨u0, u1⟩ := hS3.grown hk hg3)
            have hrk : ∀ q, (rv k).ownBlock = some q → X + 1 ≤ q := fun q e => (ownsRow_lt (hR.own k hk) e).1
            have hS5 : SetI (w4.setCell ⟨X, k, none⟩ (.slice a' l' c')) w.heap.size ls.length (fun y => y ∈ ls) := hS.block (by
              rw [Below.heap_setCell _ ⟨X, k, none⟩ _ _ (by show w.heap.size ≠ X; omega), hg3.block _ (by simp; have := hS.lt; omega) (fun e => by have := hrk _ e.symm; omega)]
              exact (below_new w3 (.cells #[.int .i64 z] 3)).block _ hS.lt)
            clear hS hR hS3 y0 y1 hown hO3 hg3 hat3 u0 u1 hrk
            go_wp2
            go_roundg (gk - 1)
            case measure => omega
            case rel => exact ⟨j + 1, _, by omega, by go_num, hS5, hS4⟩
          · have hzd : decide (z ∈ ls) = false := decide_eq_false hz
            rw [hzd]
            have Hs2 : Hid (rowsTo log ls k j = rowsTo log ls k (j + 1)) := by
              show _ = _
              funext i
              by_cases e : i = k
              · subst e; rw [rows_at, rows_at, HT.out, Hsucc.out, ← Hdec.out, hzd]; rfl
              · exact rows_other log ls k (j + 1) j i e
            rw [Hs2.out] at hR
            clear hz hzd Hdec
            go_wp2
            go_roundg (gk - 1)
            case measure => omega
            case rel => exact ⟨j + 1, rv, by omega, by go_num, hS, hR⟩
        · rw [rows_next log ls k j (by rw [HT.out, Hul.out]; omega)] at hR
          go_wp2
          go_roundg (g1 - 1)
          case measure => omega
          case rel => exact ⟨k + 1, rv, by omega, by go_num, hS, hR⟩
    · obtain rfl : k = len := by omega
      have R := hR.lists (by omega) (fun i hi => by
        have h1 := lists_at hv hi
        obtain ⟨_, _, _, _, _, _, h2⟩ := h1
        obtain ⟨_, _, _, _, h3, h4, _⟩ := h2
        have h5 := ontoT_le ls (log.getD i [])
        unfold rowsTo
        rw [if_pos hi]
        omega)
      have R2 := rows_end log ls
      rw [Hlen.out] at R2
      rw [R2] at R
      have b5 := below_then b1 (by rw [HX.out]; exact hR.below)
      clear hR hS
      go_wp2
      go_ret
      exact ⟨_, rfl, R, b5⟩

end Go.Proofs.Ytlknegihhcdhbaa

/- Lists of numbers that the call itself gathers, one behind the other: the row grows, what it holds lies elsewhere. -/
namespace Go.Proofs.Ytlknegihhcdhbaa
open Go.RowKit
set_option linter.unusedVariables false
set_option maxRecDepth 4000

/-- The row v of the call's own holds these lists; they lie beside it. -/
structure LsOut (B : Nat) (w0 wr : World) (v : Value) (cs : List (Value × List Int)) : Prop where
  own : wr.ownsRow B 23 1 v cs.length (cs.map (·.1))
  below : Below B w0 wr
  size : B ≤ wr.heap.size
  row : ∀ j (hj : j < cs.length), On (fun k => B ≤ k ∧ some k ≠ v.ownBlock) wr (fun w' => Ints w' cs[j].1 cs[j].2)
theorem LsOut.start {w w0 : World} (B : Nat) (hb : Below B w0 w) (hB : B ≤ w.heap.size) : LsOut B w0 w (.slice none 0 0) [] := ⟨World.ownsRow_nil _ _ _ _, hb, hB, fun j hj => absurd hj (by simp)⟩
theorem LsOut.to {B : Nat} {w0 wr w' : World} {v : Value} {cs : List (Value × List Int)} (h : LsOut B w0 wr v cs) (hb : Below wr.heap.size wr w') : LsOut B w0 w' v cs :=
  ⟨((ownsRow_on h.own).below hb).now, h.below.trans (hb.mono h.size), Nat.le_trans h.size hb.size, fun j hj => (h.row j hj).below hb⟩
theorem ls_apart {v v' : Value} {b m : Nat} (hat : v'.ownBlock = v.ownBlock ∨ v'.ownBlock = some m) (h : some b ≠ v.ownBlock) (hb : b < m) : some b ≠ v'.ownBlock := by
  rcases hat with e | e
  · rw [e]; exact h
  · rw [e]; intro q; injection q with q; omega
theorem On.ls_grown {B : Nat} {W wC : World} {v v' : Value} {R : World → Prop} (hR : On (fun k => B ≤ k ∧ some k ≠ v.ownBlock) W R) (hg : W.grownBy wC v.ownBlock) (hat : v'.ownBlock = v.ownBlock ∨ v'.ownBlock = some W.heap.size) : On (fun k => B ≤ k ∧ some k ≠ v'.ownBlock) wC R := by
  intro w2 hs hk
  refine hR w2 (Nat.le_trans hg.size hs) fun k hlt ⟨hkx, hkr⟩ => ?_
  rw [hk k (Nat.lt_of_lt_of_le hlt hg.size) ⟨hkx, ls_apart hat hkr hlt⟩]
  exact hg.block k hlt hkr
theorem LsOut.step {B : Nat} {w0 W wC : World} {v v' c : Value} {cs : List (Value × List Int)} {xs : List Int} (h : LsOut B w0 W v cs)
    (k1 : On (fun k => B ≤ k ∧ some k ≠ v.ownBlock) W (fun w' => Ints w' c xs))
    (hown : wC.ownsRow B 23 1 v' (cs.length + 1) (cs.map (·.1) ++ [c])) (hg : W.grownBy wC v.ownBlock)
    (hat : v'.ownBlock = v.ownBlock ∨ v'.ownBlock = some W.heap.size) : LsOut B w0 wC v' (cs ++ [(c, xs)]) := by
  refine ⟨?_, h.below.grown hg h.size (fun k hk => (ownsRow_lt h.own hk).1), Nat.le_trans h.size hg.size, fun j hj => ?_⟩
  · rw [List.map_append, List.length_append]
    simpa using hown
  · by_cases hjl : j < cs.length
    · rw [List.getElem_append_left hjl]
      exact (h.row j hjl).ls_grown hg hat
    · have e : j = cs.length := by simp at hj; omega
      subst e
      rw [List.getElem_append_right (Nat.le_refl _)]
      simp only [Nat.sub_self, List.getElem_cons_zero]
      exact k1.ls_grown hg hat
theorem LsOut.lists {B : Nat} {w0 wr : World} {v : Value} {cs : List (Value × List Int)} (h : LsOut B w0 wr v cs) (hl : cs.length ≤ 5864062014805) : Lists wr v (cs.map (·.2)) := by
  have hown0 := h.own
  obtain ⟨_, hcase⟩ := id h.own
  rcases hcase with ⟨rfl, h0⟩ | ⟨g, cap', cur, rfl, hg, hh, hn, hcap, hsz, htake⟩
  · have e : cs = [] := List.length_eq_zero_iff.1 h0
    subst e
    exact ⟨none, 0, 0, rfl, rfl, by omega, ⟨by omega, by omega, fun _ => rfl⟩, fun j hj => absurd hj (by simp)⟩
  · refine ⟨_, _, _, rfl, by simp, by omega, ⟨hn, by unfold maxLen at hcap; omega, fun h => by cases h⟩, fun j hj => ?_⟩
    have hj' : j < cs.length := by simpa using hj
    refine ⟨g, 0, cs[j].1, rfl, (Array.getElem?_eq_some_iff.1 hh).1, ?_, ?_⟩
    · rw [Nat.zero_add, hown0.cellAt j (by omega)]
      simp [hj']
    · have := (h.row j hj').now
      simpa [List.getD, hj'] using this
theorem LsOut.slice {B : Nat} {w0 wr : World} {v : Value} {cs : List (Value × List Int)} (h : LsOut B w0 wr v cs) : ∃ a l c, v = .slice a l c := ownsRow_slice h.own

theorem info_ls : (Try.prog.info? 23).map (fun i => (i.zero, i.size, i.bytes)) = some (some (.slice none 0 0), 1, 24) := by kernel_rfl

/-- One more, made by the call behind the row's start: it stands at block B' and behind, where the row does not. -/
theorem wp_append_ls {ops : Array Oper} {rest : List Oper} {o : Oper} {a : Act} {Q : Exit → Act → World → Prop} (hgd : o.guard = none) (s x : Operand)
    (ho : o.op = .call { callee := .builtin .append, args := #[s, x], argTypes := #[22, 22] }) (B : Nat) (w0 wr : World) (v : Value) (cs : List (Value × List Int)) (xs : List Int)
    (a1 : Option Addr) (l1 p1 : Nat) (hG : LsOut B w0 wr v cs) (k1 : On (fun k => B ≤ k ∧ some k ≠ v.ownBlock) wr (fun w' => Ints w' (.slice a1 l1 p1) xs))
    (hs : a.eval s = v) (hx : a.eval x = .slice (some ⟨wr.heap.size, 0, none⟩) 1 1) (hl : cs.length + 1 ≤ 5864062014805)
    (h : ∀ v' w', LsOut B w0 w' v' (cs ++ [(.slice a1 l1 p1, xs)]) → Below B w0 w' → wpList Try.prog ops Q rest (a.put o.dst v') w') :
    wpList Try.prog ops Q (o :: rest) a (wr.alloc (.cells #[.slice a1 l1 p1] 23)) := by
  obtain ⟨i0, hi, hz0, hz1, hz2⟩ := info_parts info_ls
  have hwt : Region.wanted o (yielded ops a.tmps) = true := by simp [Region.wanted, hgd]
  have hn := below_new wr (.cells #[.slice a1 l1 p1] 23)
  have hB := hG.size
  refine wpList_step fun K hK => ?_
  refine wp_append_at _ hwt s x 22 ho B 23 i0 _ 1 24 Try.underlying22 hi hz0 hz1 hz2 rfl (by decide) v cs.length _ hs (hG.own.alloc _) ⟨wr.heap.size, 0, none⟩ 1 1 [.slice a1 l1 p1] hx rfl ?_ ?_ ?_ ?_ ?_ ?_
  · intro j u hj
    rw [addr_add, World.cell?_alloc_at _ _ _ _ rfl]
    match j, hj with
    | 0, hj => simpa using hj
  · intro u hu
    simp only [List.mem_cons, List.not_mem_nil, or_false] at hu
    rcases hu with rfl <;> rfl
  · unfold maxLen; omega
  · omega
  · simp; omega
  · intro v' w' hown hg hat
    have R := (hG.to hn).step (k1.below hn) hown hg hat
    exact hK _ _ (h v' w' R R.below)

end Go.Proofs.Ytlknegihhcdhbaa
