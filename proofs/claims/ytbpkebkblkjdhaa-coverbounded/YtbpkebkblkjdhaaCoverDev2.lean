/- Package cover as it landed: going through the marks of a knot and of those that it comes of. -/
import Derived.RangeFuncNested
import Derived.RangeFuncBound
import Derived.RangeFuncCalls
import Derived.RangeFuncLeaves
import Derived.Shelf.Abstract
import Derived.Shelf.RegionOpen
import Derived.OwnWalkIn
import Derived.TacticsInMore
import Derived.LoopNIn
import Derived.LoopIn
import Derived.Test.YtbpkebkblkjdhaaCoverDev1
namespace Go.Proofs.Ytbpkebkblkjdhaa
open Go.RowKit Go.Shelf
set_option linter.unusedVariables false

attribute [local go_sem] Oper.semAt_some

/-- A tree of package cover, read: its struct lies at block x. -/
structure TreeR (w : World) (x : Nat) (M : Int) (s : List KnotX) (kv : Value) : Prop where
  lt : x < w.heap.size
  cells : w.heap[x]? = some (.cells #[.int .i64 M, kv] 56 (0, 0))
  knots : Knots w kv (s.map KnotX.knot)

theorem TreeR.below {w w' : World} {x : Nat} {M : Int} {s : List KnotX} {kv : Value} (h : TreeR w x M s kv) (hb : Below w.heap.size w w') : TreeR w' x M s kv :=
  ⟨Nat.lt_of_lt_of_le h.lt hb.size, by rw [hb.block x h.lt]; exact h.cells, h.knots.below hb⟩

theorem TreeR.at {w : World} {x : Nat} {M : Int} {s : List KnotX} {kv : Value} (h : TreeR w x M s kv) : w.cell? ⟨x, 0, none⟩ = some (.int .i64 M) ∧ w.cell? ⟨x, 1, none⟩ = some kv := by
  constructor <;> simp [World.cell?, h.cells]

theorem TreeR.knot {w : World} {x : Nat} {M : Int} {s : List KnotX} {kv : Value} (h : TreeR w x M s kv) {j : Nat} (hj : j < s.length) :
    ∃ b off cap u, kv = .slice (some ⟨b, off, none⟩) s.length cap ∧ b < w.heap.size ∧ w.cell? ⟨b, off + j * 3, none⟩ = some (.int .i64 (knotAt s j).up) ∧ w.cell? ⟨b, off + j * 3 + 2, none⟩ = some u ∧ Ints w u (knotAt s j).mark := by
  obtain ⟨a, len, cap, e, hl, hm, hs, hr⟩ := h.knots
  obtain ⟨b, off, u, ha, hlt, h0, h1, h2, hi⟩ := hr j (by simpa using hj)
  rw [knotOf_map hj] at h0 hi
  refine ⟨b, off, cap, u, ?_, hlt, h0, h2, hi⟩
  rw [e, ha, ← hl, List.length_map]

/-- A mark, and where it lies. -/
abbrev MarkV (w : World) (Q : List Int → Prop) := { y : Value × List Int // Ints w y.1 y.2 ∧ Q y.2 }

def marksOf {w : World} {Q : List Int → Prop} (l : List (MarkV w Q)) : List (List Int) := l.map fun y => y.1.2
theorem marksOf_snoc {w : World} {Q : List Int → Prop} (l : List (MarkV w Q)) (y : MarkV w Q) : marksOf (l ++ [y]) = marksOf l ++ [y.1.2] := by simp [marksOf]

/-- What a round keeps: all that is older than n, and the box B. -/
def KeepT (n B : Nat) (W W' : World) : Prop := Below n W W' ∧ W'.heap[B]? = W.heap[B]?
theorem keepT_t {n B : Nat} {W W' W'' : World} (h : KeepT n B W W') (k : KeepT n B W' W'') : KeepT n B W W'' := ⟨h.1.trans k.1, k.2.trans h.2⟩
theorem keepT_b {n B : Nat} {w : World} (hn : n ≤ w.heap.size) (hB : B < w.heap.size) (W : World) (l : Nat) (o o' : Obj) (hl : w.heap.size ≤ l) (h : W.heap[l]? = some o) (h1 : o.isCells = false) (h2 : o.isWalk = false) : KeepT n B W (W.putObj l o') :=
  ⟨belowK_b hn W l o o' hl h h1 h2, World.putObj_heap_other (by omega)⟩

theorem keepsOthers_drewN (W : World) : ∀ m, KeepsOthers W (W.drewN m)
  | 0 => KeepsOthers.refl W
  | m + 1 => (keepsOthers_drewN W m).trans (KeepsOthers.drew _)

set_option maxRecDepth 100000 in
set_option maxHeartbeats 2000000 in
theorem marksUp1_in (n : Nat) (hn : 1 ≤ n) (l : Nat) (w0 : World) (x : Nat) (M : Int) (s : List KnotX) (kv : Value) (hT : TreeR w0 x M s kv) (hL : Linked s) (k : Int) (hk : -1 ≤ k ∧ k < s.length) (hsl : s.length ≤ 300) (Q : List Int → Prop) (hQ : ∀ y ∈ upMarks s k, Q y)
    (Bk Bt : Nat) (J Jx : List (MarkV w0 Q) → World → Prop)
    (hY : ∀ pre (y : MarkV w0 Q) W1, J pre W1 → pre.length < (k + 1).toNat → YieldAt Fence.wide (n - 1) Try.prog l #[y.1.1] W1 fun e W' =>
      (e = .returned (.bool true) ∧ J (pre ++ [y]) W' ∧ KeepT w0.heap.size Bt W1 W') ∨ (e = .returned (.bool false) ∧ Jx (pre ++ [y]) W'))
    (W : World) (hW : Below w0.heap.size w0 W) (hck : W.cell? ⟨Bk, 0, none⟩ = some (.int .i64 k)) (hct : W.heap[Bt]? = some (.cells #[.pointer (some ⟨x, 0, none⟩)] 76 (0, 0))) (h0 : J [] W) :
    CallsIn Fence.wide n Try.prog 55 #[.func (.yield l) #[] #[], .pointer (some ⟨Bk, 0, none⟩), .pointer (some ⟨Bt, 0, none⟩)] W fun e W' => (∃ v, e = .returned v) ∧
      ((∃ ys : List (MarkV w0 Q), marksOf ys = upMarks s k ∧ J ys W') ∨ (∃ pre : List (MarkV w0 Q), (∃ r, marksOf pre ++ r = upMarks s k) ∧ Jx pre W')) := by
  refine callsIn_of_wp Try.func55 rfl trivial ?_ rfl
  simp only [Try.ntmps55, List.size_toArray, List.length_cons, List.length_nil, Nat.reduceAdd, Nat.reduceSub, Array.replicate_succ, Array.replicate_zero, List.push_toArray, List.append_toArray, List.nil_append, List.cons_append]
  gi_wp2
  gi_loopw [4] (fun a wr => ∃ (pre : List (MarkV w0 Q)) (z : Int), a = .int .i64 z ∧ (-1 ≤ z ∧ z < s.length) ∧ marksOf pre ++ upMarks s z = upMarks s k ∧ pre.length + (z + 1).toNat ≤ (k + 1).toNat ∧ Below w0.heap.size w0 wr ∧ wr.heap[Bt]? = some (.cells #[.pointer (some ⟨x, 0, none⟩)] 76 (0, 0)) ∧ J pre wr)
    (fun a _ => (intOf a + 1).toNat)
  case atStart => exact ⟨[], k, rfl, hk, rfl, by simp, hW, hct, h0⟩
  case round =>
    obtain ⟨pre, z, rfl, hz, hx, hlen, hB, hbt, hJ⟩ := hrel
    have hct2 : wr.cell? ⟨Bt, 0, none⟩ = some (.pointer (some ⟨x, 0, none⟩)) := by simp [World.cell?, hbt]
    by_cases hz0 : 0 ≤ z
    · obtain ⟨j, rfl⟩ := Int.eq_ofNat_of_zero_le hz0
      have hj : j < s.length := by omega
      obtain ⟨t0, t1⟩ := (hT.below hB).at
      obtain ⟨b, off, cap, u, hkv, hb, hc0, hc2, hi⟩ := hT.knot hj
      have hc2' := (hB.cell (p := ⟨b, off + j * 3 + 2, none⟩) hb).trans hc2
      subst hkv
      have hq : Q (knotAt s j).mark := hQ _ (by rw [← hx, upMarks_next hL hj]; simp)
      obtain ⟨fn, tmps, assign, body, hy, hR⟩ := hY pre ⟨(u, (knotAt s j).mark), hi, hq⟩ wr hJ (by omega)
      dsimp only at hy
      gi_wp2
      refine hR.mono ?_
      rintro e W3 (⟨rfl, hJ3, hk3⟩ | ⟨rfl, hJx3⟩)
      · have hB3 : Below w0.heap.size w0 W3 := hB.trans hk3.1
        have hbt3 := hk3.2.trans hbt
        have hct3 : W3.cell? ⟨Bt, 0, none⟩ = some (.pointer (some ⟨x, 0, none⟩)) := by simp [World.cell?, hbt3]
        obtain ⟨s0, s1⟩ := (hT.below hB3).at
        have hc3 := (hB3.cell (p := ⟨b, off + j * 3, none⟩) hb).trans hc0
        have Hup := hL.up j hj
        have Hnx := upMarks_next hL hj
        gi_wp2
        go_roundw
        case rel => exact ⟨pre ++ [⟨(u, (knotAt s j).mark), hi, hq⟩], (knotAt s j).up, rfl, ⟨Hup.1, by omega⟩, by rw [← hx, Hnx, marksOf_snoc]; simp, by simp; omega, hB3, hbt3, hJ3⟩
        case measure => simp [intOf]; omega
      · gi_wp2
        go_end0
        exact ⟨⟨_, rfl⟩, .inr ⟨pre ++ [⟨(u, (knotAt s j).mark), hi, hq⟩], ⟨upMarks s (knotAt s j).up, by rw [← hx, upMarks_next hL hj, marksOf_snoc]; simp⟩, hJx3⟩⟩
    · have hz1 : upMarks s z = [] := by rw [upMarks, if_pos (by omega)]
      gi_wp2
      refine ⟨fun _ h => (by cases h), ?_⟩
      gi_wp2
      go_end0
      exact ⟨⟨_, rfl⟩, .inl ⟨pre, by rw [← hx, hz1, List.append_nil], hJ⟩⟩

/-- What marksUp answers: a function that has its two boxes. -/
theorem marksUp_any (x : Nat) (k : Int) (w : World) :
    Calls Try.prog 43 #[.pointer (some ⟨x, 0, none⟩), .int .i64 k] w fun e w' =>
      e = .returned (.func (.func 55) #[] #[.pointer (some ⟨w.heap.size + 1, 0, none⟩), .pointer (some ⟨w.heap.size, 0, none⟩)]) ∧
        w' = (w.alloc (.cells #[.pointer (some ⟨x, 0, none⟩)] 76)).alloc (.cells #[.int .i64 k] 3) := by
  go_enter Try.func43, Try.ntmps43
  go_wp2
  go_ret
  exact ⟨rfl, rfl⟩

theorem marksUp_stops (n : Nat) (hn : 1 ≤ n) (w0 : World) (x : Nat) (M : Int) (s : List KnotX) (kv : Value) (hT : TreeR w0 x M s kv) (hL : Linked s) (k : Int) (hk : -1 ≤ k ∧ k < s.length) (hsl : s.length ≤ 300) (Q : List Int → Prop) (hQ : ∀ y ∈ upMarks s k, Q y)
    (Bk Bt : Nat) (w : World) (h0 : Below w0.heap.size w0 w) (hck : w.cell? ⟨Bk, 0, none⟩ = some (.int .i64 k)) (hct : w.heap[Bt]? = some (.cells #[.pointer (some ⟨x, 0, none⟩)] 76 (0, 0))) :
    SeqStopsK Fence.wide n Try.prog 55 #[.pointer (some ⟨Bk, 0, none⟩), .pointer (some ⟨Bt, 0, none⟩)] (fun y : MarkV w0 Q => #[y.1.1]) (KeepT w0.heap.size Bt)
      (fun ys => marksOf ys = upMarks s k) (fun pre => ∃ r, marksOf pre ++ r = upMarks s k) (k + 1).toNat w := fun l J Jx W hW _ _ hY hJ0 =>
  marksUp1_in n hn l w0 x M s kv hT hL k hk hsl Q hQ Bk Bt J Jx hY W (h0.trans (hW.mono h0.size)) ((hW.cell (p := ⟨Bk, 0, none⟩) (cell_lt0 hck)).trans hck) ((hW.block Bt (Array.getElem?_eq_some_iff.1 hct).1).trans hct) hJ0

end Go.Proofs.Ytbpkebkblkjdhaa
