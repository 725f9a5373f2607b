import Derived.Test.YtgedpebnipghlaaGr07
import Derived.Test.YtgedpebnipghlaaGr01
import Derived.Test.YtgedpebnipghlaaGr05
import Derived.Deep.RegionLaw
import Derived.Test.YtgedpebnipghlaaGr00
/- Package net, as it landed: the other way round. -/
namespace Go.Proofs.Ytgedpebnipghlaa
open Go.RowKit
set_option linter.unusedVariables false
set_option maxRecDepth 4000

/-- The answer while it is built: it lies at block x, its transitions in a row of its own, what they take and put elsewhere. -/
structure TurnOut (x : Nat) (p : Int) (w0 wr : World) (ts : List TranL) (ov : Value) (tv : List (Int × Value × Value)) : Prop where
  own : wr.ownsRow (x + 1) 44 3 ov tv.length (tvCells tv)
  below : Below x w0 wr
  size : x + 1 ≤ wr.heap.size
  c0 : wr.cell? ⟨x, 0, none⟩ = some (.int .i64 p)
  c1 : wr.cell? ⟨x, 1, none⟩ = some ov
  f0 : wr.frozen? ⟨x, 0, none⟩ = false
  f1 : wr.frozen? ⟨x, 1, none⟩ = false
  row : ∀ j (hj : j < tv.length), tv[j].1 = (tranAt ts j).label ∧ On (fun k => x < k ∧ some k ≠ ov.ownBlock) wr (fun w' => Ints w' tv[j].2.1 (tranAt ts j).post) ∧
    On (fun k => x < k ∧ some k ≠ ov.ownBlock) wr (fun w' => Ints w' tv[j].2.2 (tranAt ts j).pre)

theorem TurnOut.to {x : Nat} {p : Int} {w0 wr w' : World} {ts : List TranL} {ov : Value} {tv : List (Int × Value × Value)} (h : TurnOut x p w0 wr ts ov tv) (hb : Below wr.heap.size wr w') : TurnOut x p w0 w' ts ov tv := by
  have hx : x < wr.heap.size := h.size
  refine ⟨?_, h.below.trans (hb.mono (by omega)), Nat.le_trans h.size hb.size, ?_, ?_, ?_, ?_, fun j hj => ?_⟩
  · exact ((ownsRow_on h.own).below hb).now
  · rw [hb.cell (p := ⟨x, 0, none⟩) hx]; exact h.c0
  · rw [hb.cell (p := ⟨x, 1, none⟩) hx]; exact h.c1
  · rw [hb.frozen (p := ⟨x, 0, none⟩) hx]; exact h.f0
  · rw [hb.frozen (p := ⟨x, 1, none⟩) hx]; exact h.f1
  · obtain ⟨e1, e2, e3⟩ := h.row j hj
    exact ⟨e1, e2.below hb, e3.below hb⟩

theorem TurnOut.step {x : Nat} {p : Int} {w0 wr wB wC W : World} {ts : List TranL} {ov v' : Value} {tv : List (Int × Value × Value)} {l : Int} {c1 c2 : Value} (h : TurnOut x p w0 wr ts ov tv)
    (hb : Below wr.heap.size wr wB) (k1 : On (fun k => wr.heap.size ≤ k) wB (fun w' => Ints w' c1 (tranAt ts tv.length).post)) (k2 : On (fun k => wr.heap.size ≤ k) wB (fun w' => Ints w' c2 (tranAt ts tv.length).pre))
    (hl : l = (tranAt ts tv.length).label) (hW : Below wB.heap.size wB W)
    (hown : wC.ownsRow (x + 1) 44 3 v' (tv.length + 1) (tvCells tv ++ [.int .i64 l, c1, c2])) (hg : W.grownBy wC ov.ownBlock)
    (hat : v'.ownBlock = ov.ownBlock ∨ v'.ownBlock = some W.heap.size) : TurnOut x p w0 (wC.setCell ⟨x, 1, none⟩ v') ts v' (tv ++ [(l, c1, c2)]) := by
  have hx : x < wr.heap.size := h.size
  have g := h.to (hb.trans (hW.mono hb.size))
  have hov : ∀ k, ov.ownBlock = some k → x + 1 ≤ k ∧ k < wr.heap.size := fun k hk => ownsRow_lt h.own hk
  have hxr : some x ≠ ov.ownBlock := fun e => by have := hov x e.symm; omega
  have hxW : x < W.heap.size := g.size
  have s1 : wr.heap.size ≤ wB.heap.size := hb.size
  have s2 : wB.heap.size ≤ W.heap.size := hW.size
  have hcx : wC.heap[x]? = W.heap[x]? := hg.block x hxW hxr
  have hc0 : wC.cell? ⟨x, 0, none⟩ = some (.int .i64 p) := (World.cell?_of_block (a := ⟨x, 0, none⟩) hcx).trans g.c0
  have hc1 : wC.cell? ⟨x, 1, none⟩ = some ov := (World.cell?_of_block (a := ⟨x, 1, none⟩) hcx).trans g.c1
  have hf0 : wC.frozen? ⟨x, 0, none⟩ = false := (World.frozen?_of_block (a := ⟨x, 0, none⟩) hcx).trans g.f0
  have hf1 : wC.frozen? ⟨x, 1, none⟩ = false := (World.frozen?_of_block (a := ⟨x, 1, none⟩) hcx).trans g.f1
  -- what hangs on old blocks beside these two stands
  have keep : ∀ {R : World → Prop}, On (fun k => x < k ∧ some k ≠ ov.ownBlock) W R → On (fun k => x < k ∧ some k ≠ v'.ownBlock) (wC.setCell ⟨x, 1, none⟩ v') R := by
    intro R hR w2 hs hk
    refine hR w2 (Nat.le_trans hg.size (Nat.le_trans (by simp [World.setCell]) hs)) fun k hlt ⟨hkx, hkr⟩ => ?_
    have hk' : some k ≠ v'.ownBlock := by
      rcases hat with e | e <;> rw [e]
      · exact hkr
      · simp; omega
    rw [hk k (Nat.lt_of_lt_of_le (Nat.lt_of_lt_of_le hlt hg.size) (by simp [World.setCell])) ⟨hkx, hk'⟩, Below.heap_setCell wC ⟨x, 1, none⟩ v' k (by show k ≠ x; omega)]
    exact hg.block k hlt hkr
  have new : ∀ {R : World → Prop}, On (fun k => wr.heap.size ≤ k) wB R → On (fun k => x < k ∧ some k ≠ ov.ownBlock) W R := by
    intro R hR
    refine (hR.below hW).weaken fun k hlt hk => ⟨by omega, fun e => ?_⟩
    have := hov k e.symm
    omega
  refine ⟨?_, ?_, ?_, ?_, ?_, ?_, ?_, fun j hj => ?_⟩
  · have := ownsRow_setCell_below hown (a := ⟨x, 1, none⟩) (Nat.lt_succ_self x) v'
    rw [tvCells_append]
    simpa [tvCells] using this
  · exact ((h.below.trans ((hb.trans (hW.mono hb.size)).mono (by omega))).grown hg (by omega) (fun k hk => by have := hov k hk; omega)).setCell (p := ⟨x, 1, none⟩) (Nat.le_refl _) _
  · have := hg.size; simp [World.setCell]; omega
  · rw [World.cell?_setCell_other _ _ _ _ (by intro q; injection q with _ q2; omega)]; exact hc0
  · exact World.cell?_setCell_same _ _ _ hc1
  · rw [World.frozen?_setCell]; exact hf0
  · rw [World.frozen?_setCell]; exact hf1
  · by_cases hjl : j < tv.length
    · rw [List.getElem_append_left hjl]
      obtain ⟨e1, e2, e3⟩ := g.row j hjl
      exact ⟨e1, keep e2, keep e3⟩
    · have e : j = tv.length := by simp at hj; omega
      subst e
      rw [List.getElem_append_right (Nat.le_refl _)]
      simp only [Nat.sub_self, List.getElem_cons_zero]
      exact ⟨hl, keep (new k1), keep (new k2)⟩

/-- The load of the answer's transitions: it is not taken first, for the same statement stores there. -/
abbrev turnLoad : Op := Op.load 22 (Operand.tmp 16)

theorem wpr_append_tran {o : Oper} {a : Act} {K : Act → World → Prop} {Q : Exit → Act → World → Prop} {Y : Nat → Option Bool} (hwt : Region.wanted o Y = true) (s x : Operand)
    (ho : o.op = .call { callee := .builtin .append, args := #[s, x], argTypes := #[22, 22] }) (B : Nat) (wr : World) (v : Value) (tv : List (Int × Value × Value))
    (l : Int) (a1 a2 : Option Addr) (l1 l2 p1 p2 : Nat) (hown : wr.ownsRow B 44 3 v tv.length (tvCells tv))
    (hs : a.eval s = v) (hx : a.eval x = .slice (some ⟨wr.heap.size, 0, none⟩) 1 1) (hl : tv.length + 1 ≤ 2513169434916) (hB : B ≤ wr.heap.size)
    (h : ∀ v' w', w'.ownsRow B 44 3 v' (tv.length + 1) (tvCells tv ++ [.int .i64 l, .slice a1 l1 p1, .slice a2 l2 p2]) → (wr.alloc (.cells #[.int .i64 l, .slice a1 l1 p1, .slice a2 l2 p2] 44)).grownBy w' v.ownBlock →
      (v'.ownBlock = v.ownBlock ∨ v'.ownBlock = some (wr.alloc (.cells #[.int .i64 l, .slice a1 l1 p1, .slice a2 l2 p2] 44)).heap.size) → K (a.put o.dst v') w') :
    if Region.wanted o Y = true then Oper.wp Try.prog o a (wr.alloc (.cells #[.int .i64 l, .slice a1 l1 p1, .slice a2 l2 p2] 44)) K Q else K (a.put o.dst undef) (wr.alloc (.cells #[.int .i64 l, .slice a1 l1 p1, .slice a2 l2 p2] 44)) := by
  obtain ⟨i0, hi, hz0, hz1, hz2⟩ := info_parts info_tran
  refine wp_append_at _ hwt s x 22 ho B 44 i0 _ 3 56 Try.underlying22 hi hz0 hz1 hz2 rfl (by decide) v tv.length _ hs (hown.alloc _) ⟨wr.heap.size, 0, none⟩ 1 1 [.int .i64 l, .slice a1 l1 p1, .slice a2 l2 p2] hx rfl ?_ ?_ ?_ ?_ ?_ h
  · intro j u hj
    rw [addr_add, World.cell?_alloc_at _ _ _ _ rfl]
    match j, hj with
    | 0, hj => simpa using hj
    | 1, hj => simpa using hj
    | 2, hj => simpa using hj
  · intro u hu
    simp only [List.mem_cons, List.not_mem_nil, or_false] at hu
    rcases hu with rfl | rfl | rfl <;> rfl
  · unfold maxLen; omega
  · omega
  · simp; omega

theorem TurnOut.after {x : Nat} {p : Int} {w0 wr W wC : World} {ts : List TranL} {ov : Value} {tv : List (Int × Value × Value)} (h : TurnOut x p w0 wr ts ov tv) (hb : Below wr.heap.size wr W) (hg : W.grownBy wC ov.ownBlock) :
    wC.cell? ⟨x, 1, none⟩ = some ov ∧ wC.frozen? ⟨x, 1, none⟩ = false ∧ ∀ a : Addr, wr.heap.size ≤ a.block → a.block < W.heap.size → wC.cell? a = W.cell? a := by
  have g := h.to hb
  have hov : ∀ k, ov.ownBlock = some k → x + 1 ≤ k ∧ k < wr.heap.size := fun k hk => ownsRow_lt h.own hk
  have hcx : wC.heap[x]? = W.heap[x]? := hg.block x g.size fun e => by have := hov x e.symm; omega
  refine ⟨(World.cell?_of_block (a := ⟨x, 1, none⟩) hcx).trans g.c1, (World.frozen?_of_block (a := ⟨x, 1, none⟩) hcx).trans g.f1, fun a h1 h2 => ?_⟩
  exact World.cell?_of_block (hg.block a.block h2 fun e => by have := hov _ e.symm; omega)

theorem turn_start (w0 : World) (p : Int) (ts : List TranL) (x : Nat) (hx : x = w0.heap.size) :
    TurnOut x p w0 (w0.alloc (.cells #[.int .i64 p, .slice none 0 0] 24)) ts (.slice none 0 0) [] := by
  subst hx
  refine ⟨World.ownsRow_nil _ _ _ _, below_new _ _, by simp, ?_, ?_, ?_, ?_, fun j hj => absurd hj (by simp)⟩
  · rw [World.cell?_alloc_at _ _ _ _ rfl]; rfl
  · rw [World.cell?_alloc_at _ _ _ _ rfl]; rfl
  · rw [World.frozen?_alloc_at _ _ _ _ rfl]
  · rw [World.frozen?_alloc_at _ _ _ _ rfl]

/-- Two blocks of two cells, one behind the other. -/
theorem two_new (w W : World) (x y x' y' : Value) (t t' : TypeId) (h : (w.alloc (.cells #[x, y] t)).alloc (.cells #[x', y'] t') = W) :
    Below w.heap.size w W ∧ Box2 W w.heap.size x y ∧ Box2 W (w.heap.size + 1) x' y' ∧ (∀ j, W.frozen? ⟨w.heap.size + 1, j, none⟩ = false) ∧ W.heap.size = w.heap.size + 1 + 1 := by
  have b1 := below_new w (.cells #[x, y] t)
  have b2 := below_new (w.alloc (.cells #[x, y] t)) (.cells #[x', y'] t')
  have h1 := (box2_new w x y t).below b2
  have h2 := box2_new (w.alloc (.cells #[x, y] t)) x' y' t'
  have e : (w.alloc (.cells #[x, y] t)).heap.size = w.heap.size + 1 := by simp
  rw [e] at h2
  subst h
  exact ⟨below_then b1 b2, h1, h2, fun j => by rw [World.frozen?_alloc_at _ _ _ _ (by simp)], by simp⟩

end Go.Proofs.Ytgedpebnipghlaa

/- Package net, as it landed, whole. -/
namespace Go.Proofs.Ytgedpebnipghlaa
open Go.RowKit
set_option linter.unusedVariables false
set_option maxRecDepth 4000

theorem net_wrong (v : Value) (n : NetL) (w : World) (hv : Net w v n) :
    Calls Try.prog 17 #[v] w fun e w' => e = .returned (.int .i64 (wrongL n)) ∧ Below w.heap.size w w' := wrong_any v n w hv

end Go.Proofs.Ytgedpebnipghlaa

/- Package choice as it landed: whether two share a place, and whether choices are free. -/
namespace Go.Proofs.Ytgedpebnipghlaa
open Go.RowKit
set_option linter.unusedVariables false
set_option linter.unusedSimpArgs false
set_option maxRecDepth 4000

/-- Of the first so many places none has a weight in both. -/
def Apart0 (xs ys : List Int) (k : Nat) : Prop := ∀ p, p < k → ¬ (nth xs p ≠ 0 ∧ nth ys p ≠ 0)
theorem apart0_succ {xs ys : List Int} {k : Nat} (h : Apart0 xs ys k) (hn : ¬ (nth xs k ≠ 0 ∧ nth ys k ≠ 0)) : Apart0 xs ys (k + 1) := by
  intro p hp
  rcases Nat.lt_or_ge p k with h1 | h1
  · exact h p h1
  · obtain rfl : p = k := by omega
    exact hn
def Common (xs ys : List Int) : Prop := ∃ p, nth xs p ≠ 0 ∧ nth ys p ≠ 0
theorem apart0_all {xs ys : List Int} (h : Apart0 xs ys xs.length) : ¬ Common xs ys := by
  rintro ⟨p, h1, h2⟩
  rcases Nat.lt_or_ge p xs.length with h3 | h3
  · exact h p h3 ⟨h1, h2⟩
  · exact h1 (nth_past _ _ h3)
theorem common_shares {n : NetL} (hn : netOk n = true) {i j : Nat} (hi : i < n.trans.length) (hj : j < n.trans.length) : Common (tranAt n.trans i).pre (tranAt n.trans j).pre ↔ Shares n i j := by
  constructor
  · rintro ⟨p, h1, h2⟩
    have := net_weight hn hi p
    have := net_weight hn hj p
    exact ⟨p, by omega, by omega⟩
  · rintro ⟨p, h1, h2⟩
    exact ⟨p, by omega, by omega⟩

theorem boxes33 (w : World) (x y z x' y' z' : Value) (t t' : TypeId) : ∃ W, Hid ((w.alloc (.cells #[x, y, z] t)).alloc (.cells #[x', y', z'] t') = W) ∧
    Below w.heap.size w W ∧ Box3 W w.heap.size x y z ∧ Box3 W (w.heap.size + 1) x' y' z' := by
  have b1 := below_new w (.cells #[x, y, z] t)
  have b2 := below_new (w.alloc (.cells #[x, y, z] t)) (.cells #[x', y', z'] t')
  have hx := box3_new (w.alloc (.cells #[x, y, z] t)) x' y' z' t'
  have e : (w.alloc (.cells #[x, y, z] t)).heap.size = w.heap.size + 1 := by simp
  rw [e] at hx
  exact ⟨_, rfl, below_then b1 b2, (box3_new w x y z t).below b2, hx⟩

set_option maxHeartbeats 1000000 in
theorem share_any (l1 l2 : Int) (p1 q1 p2 q2 : Value) (xs ys : List Int) (w : World) (h1 : Ints w p1 xs) (h2 : Ints w p2 ys) (hl : ys.length = xs.length) :
    Calls Try.prog 23 #[.agg #[.int .i64 l1, p1, q1], .agg #[.int .i64 l2, p2, q2]] w fun e w' => ∃ b, e = .returned (.bool b) ∧ (b = true ↔ Common xs ys) ∧ Below w.heap.size w w' := by
  obtain ⟨w0, Hw0, c, hb1, hb2⟩ := boxes33 w (.int .i64 l1) p1 q1 (.int .i64 l2) p2 q2 44 44
  replace h1 := h1.below c
  replace h2 := h2.below c
  obtain ⟨a1, P, cp1, rfl, e1, hmx, hsh, _⟩ := id h1
  obtain ⟨a2, P2, cp2, rfl, e2, _, _, _⟩ := id h2
  obtain rfl : P2 = P := by omega
  have Hall : Hid (Apart0 xs ys P2 → ¬ Common xs ys) := by rw [← e1]; exact apart0_all
  clear e1 e2 hsh hl
  go_enter Try.func23, Try.ntmps23
  go_upto_region 1 with fail
  rw [Hw0.out]
  clear Hw0
  obtain ⟨B, HB⟩ : ∃ B, Hid (w.heap.size = B) := ⟨_, rfl⟩
  rw [HB.out] at hb1 hb2
  rw [HB.out]
  obtain ⟨x0, x1, x2, x3⟩ := id hb1
  go_wp2_with fail
  clear x0 x1 x2 x3
  go_loopg [9] P2 (fun gk i' wr => ∃ k : Nat, k + gk = P2 ∧ i' = .int .i64 (k : Int) ∧ Hid (Apart0 xs ys k) ∧ wr = w0)
  case atStart => exact ⟨0, by omega, rfl, fun p hp => absurd hp (Nat.not_lt_zero _), rfl⟩
  case round =>
    obtain ⟨k, hkg, rfl, HN, rfl⟩ := hrel
    by_cases hk : k < P2
    · obtain ⟨x0, x1, x2, x3⟩ := id hb1
      obtain ⟨y0, y1, y2, y3⟩ := id hb2
      obtain ⟨b1, o1, rfl, _, cX⟩ := ints_atL h1 hk
      obtain ⟨b2, o2, rfl, _, cY⟩ := ints_atL h2 hk
      have HS : Hid (¬ (nth xs k ≠ 0 ∧ nth ys k ≠ 0) → Apart0 xs ys (k + 1)) := apart0_succ HN.out
      have HY : Hid (nth xs k ≠ 0 ∧ nth ys k ≠ 0 → Common xs ys) := fun h => ⟨k, h⟩
      generalize nth xs k = x at *
      generalize nth ys k = y at *
      by_cases hx : x = 0
      · subst hx
        have R : Hid _ := HS.out (by simp)
        clear HS HY
        go_wp2
        go_roundg (gk - 1)
        case measure => omega
        case rel => exact ⟨k + 1, by omega, by go_num, R, rfl⟩
      · by_cases hy : y = 0
        · subst hy
          have R : Hid _ := HS.out (by simp)
          clear HS HY
          go_wp2
          go_roundg (gk - 1)
          case measure => omega
          case rel => exact ⟨k + 1, by omega, by go_num, R, rfl⟩
        · have R : Hid (Common xs ys) := HY.out ⟨hx, hy⟩
          have e1 : (x != 0) = true := by simp [hx]
          have e2 : (y != 0) = true := by simp [hy]
          clear HS HY
          go_wp2
          go_ret
          exact ⟨true, rfl, ⟨fun _ => R.out, fun _ => rfl⟩, c⟩
    · obtain rfl : k = P2 := by omega
      have R : Hid (¬ Common xs ys) := Hall.out HN.out
      clear HN Hall
      go_wp2
      go_ret
      exact ⟨false, rfl, ⟨fun h => (by cases h), fun h => absurd h R.out⟩, c⟩

/-- Of pairs up to here, who shares a place shares all. -/
def FreeB (n : NetL) (b a : Nat) : Prop := ∀ x y, x < y → (y < b ∨ (y = b ∧ x < a)) → Shares n x y → (tranAt n.trans x).pre = (tranAt n.trans y).pre
theorem freeB_step {n : NetL} {b a : Nat} (h : FreeB n b a) (hn : Shares n a b → (tranAt n.trans a).pre = (tranAt n.trans b).pre) : FreeB n b (a + 1) := by
  intro x y hxy hy hs
  rcases hy with hy | ⟨rfl, hy⟩
  · exact h x y hxy (.inl hy) hs
  · rcases Nat.lt_or_ge x a with h1 | h1
    · exact h x y hxy (.inr ⟨rfl, h1⟩) hs
    · obtain rfl : x = a := by omega
      exact hn hs
theorem freeB_row {n : NetL} {b : Nat} (h : FreeB n b b) : FreeB n (b + 1) 0 := by
  intro x y hxy hy hs
  rcases hy with hy | ⟨rfl, hy⟩
  · rcases Nat.lt_or_ge y b with h1 | h1
    · exact h x y hxy (.inl h1) hs
    · obtain rfl : y = b := by omega
      exact h x y hxy (.inr ⟨rfl, hxy⟩) hs
  · omega
theorem freeB_all {n : NetL} (hn : netOk n = true) (h : FreeB n n.trans.length 0) : FreeN n := by
  refine ⟨hn, fun i j hi hj hs => ?_⟩
  rcases Nat.lt_trichotomy i j with h1 | h1 | h1
  · exact h i j h1 (.inl hj) hs
  · rw [h1]
  · exact (h j i h1 (.inl hi) hs.symm).symm

set_option maxHeartbeats 4000000 in
theorem choice_free (v : Value) (n : NetL) (w : World) (hv : Net w v n) :
    Calls Try.prog 8 #[v] w fun e w' => ∃ b, e = .returned (.bool b) ∧ (b = true ↔ FreeN n) ∧ Below w.heap.size w w' := by
  obtain ⟨tv, rfl, hT⟩ := hv
  have c := below_new w (.cells #[.int .i64 n.places, tv] 24)
  have hbx := box2_new w (.int .i64 n.places) tv 24
  have hv : Net _ (.agg #[.int .i64 n.places, tv]) n := ⟨_, rfl, hT.below c⟩
  clear hT
  go_enter Try.func8, Try.ntmps8
  go_wp2_with fail
  refine (net_wrong _ n _ (by exact hv)).mono ?_
  rintro e w1 ⟨rfl, b1⟩
  replace c := below_then c b1
  replace hbx := hbx.below b1
  replace hv := hv.below b1
  clear b1
  cases hn : netOk n
  · rw [wrongL_not hn]
    have R : Hid (¬ FreeN n) := fun h => by rw [h.1] at hn; cases hn
    clear hn
    go_wp2
    go_ret
    exact ⟨false, rfl, ⟨fun h => (by cases h), fun h => absurd h R.out⟩, c⟩
  · rw [wrongL_ok hn]
    have Hn : Hid (netOk n = true) := hn
    obtain ⟨tv', e, hT⟩ := id hv
    obtain rfl : tv = tv' := by injection e with e; simp at e; exact e
    clear e hn
    obtain ⟨a, len, cap, rfl, hlen, hmx, hsh, _⟩ := id hT
    have hcap : len ≤ cap := hsh.1
    have hcap2 : cap ≤ 9223372036854775807 := hsh.2.1
    have Hlen : Hid (n.trans.length = len) := hlen
    have HD : Hid (FreeB n len 0 → FreeN n) := by rw [← Hlen.out]; exact freeB_all Hn.out
    have HE : Hid (∀ k, k < len → k < n.trans.length) := fun k hk => by rw [Hlen.out]; exact hk
    have HL : Hid (∀ i j, i < len → j < len → (tranAt n.trans i).pre.length = (tranAt n.trans j).pre.length) := fun i j hi hj => by
      have h1 := (tran_length Hn.out (HE.out i hi)).1
      have h2 := (tran_length Hn.out (HE.out j hj)).1
      omega
    clear hsh hlen
    obtain ⟨B, HB⟩ : ∃ B, Hid (w.heap.size = B) := ⟨_, rfl⟩
    rw [HB.out] at hbx
    rw [HB.out]
    obtain ⟨x0, x1, x2⟩ := id hbx
    go_wp2_with fail
    clear x0 x1 x2
    go_loopg [13] len (fun gk i' wr => ∃ i : Nat, i + gk = len ∧ i' = .int .i64 (i : Int) ∧ Hid (FreeB n i 0) ∧ Below w1.heap.size w1 wr)
    case atStart => exact ⟨0, by omega, rfl, fun a b h => (by omega), Below.refl _ _⟩
    case round =>
      obtain ⟨i, hig, rfl, HF, hb0⟩ := hrel
      obtain ⟨g1, rfl⟩ : ∃ g1, g1 = gk := ⟨_, rfl⟩
      by_cases hin : i < len
      · obtain ⟨bt, ot, p1, q1, rfl, hlt, h0, h1, h2, iX, jX⟩ := (hT.below hb0).at hin
        obtain ⟨aX, lX, cX, rfl⟩ : ∃ a l c, p1 = .slice a l c := by obtain ⟨a, l, c, e, _⟩ := iX; exact ⟨a, l, c, e⟩
        obtain ⟨aX', lX', cX', rfl⟩ : ∃ a l c, q1 = .slice a l c := by obtain ⟨a, l, c, e, _⟩ := jX; exact ⟨a, l, c, e⟩
        obtain ⟨L, HLb⟩ : ∃ L, Hid ((tranAt n.trans i).label = L) := ⟨_, rfl⟩
        rw [HLb.out] at h0
        have bn1 := below_new wr (.cells #[.int .i64 L, .slice aX lX cX, .slice aX' lX' cX'] 44)
        have hb3 := box3_new wr (.int .i64 L) (.slice aX lX cX) (.slice aX' lX' cX') 44
        obtain ⟨Bt, HBt⟩ : ∃ B, Hid (wr.heap.size = B) := ⟨_, rfl⟩
        rw [HBt.out] at hb3
        obtain ⟨w8, Hw8⟩ : ∃ w8, Hid (wr.alloc (.cells #[.int .i64 L, .slice aX lX cX, .slice aX' lX' cX'] 44) = w8) := ⟨_, rfl⟩
        rw [Hw8.out] at bn1 hb3
        have iX8 := iX.below bn1
        have b8 := below_then hb0 bn1
        go_upto_region 6 with fail
        rw [Hw8.out, HBt.out]
        clear Hw8 HBt h0 h1 h2 iX jX bn1 hb0
        obtain ⟨x0, x1, x2⟩ := hbx.below b8
        go_wp2_with fail
        clear x0 x1 x2
        go_loopg [23] i (fun gk j' wr => ∃ j : Nat, j + gk = i ∧ j' = .int .i64 (j : Int) ∧ Hid (FreeB n i j) ∧ Below w8.heap.size w8 wr)
        case atStart => exact ⟨0, by omega, rfl, HF, Below.refl _ _⟩
        case round =>
          clear HF
          obtain ⟨j, hjg, rfl, HF, hb⟩ := hrel
          by_cases hjn : j < i
          · have hjl : j < len := by omega
            obtain ⟨bt', ot', p2, q2, e, _, g0, g1', g2, iY, jY⟩ := (hT.below (below_then b8 hb)).at hjl
            injection e with e
            injection e with e1 e2
            subst e1 e2
            obtain ⟨aY, lY, cY, rfl⟩ : ∃ a l c, p2 = .slice a l c := by obtain ⟨a, l, c, e, _⟩ := iY; exact ⟨a, l, c, e⟩
            obtain ⟨aY', lY', cY', rfl⟩ : ∃ a l c, q2 = .slice a l c := by obtain ⟨a, l, c, e, _⟩ := jY; exact ⟨a, l, c, e⟩
            obtain ⟨L2, HL2⟩ : ∃ L, Hid ((tranAt n.trans j).label = L) := ⟨_, rfl⟩
            rw [HL2.out] at g0
            have HSk : Hid ((Shares n j i → (tranAt n.trans j).pre = (tranAt n.trans i).pre) → FreeB n i (j + 1)) := freeB_step HF.out
            have HY : Hid (Shares n j i → ¬ (tranAt n.trans j).pre = (tranAt n.trans i).pre → ¬ FreeN n) := fun h1 h2 h3 => h2 (h3.2 j i (HE.out j hjl) (HE.out i hin) h1)
            have HC : Hid (Common (tranAt n.trans j).pre (tranAt n.trans i).pre ↔ Shares n j i) := common_shares Hn.out (HE.out j hjl) (HE.out i hin)
            have Hll : Hid ((tranAt n.trans i).pre.length = (tranAt n.trans j).pre.length) := HL.out i j hin hjl
            have bn2 := below_new wr (.cells #[.int .i64 L2, .slice aY lY cY, .slice aY' lY' cY'] 44)
            have hb4 := box3_new wr (.int .i64 L2) (.slice aY lY cY) (.slice aY' lY' cY') 44
            obtain ⟨By, HBy⟩ : ∃ B, Hid (wr.heap.size = B) := ⟨_, rfl⟩
            rw [HBy.out] at hb4
            obtain ⟨w9, Hw9⟩ : ∃ w9, Hid (wr.alloc (.cells #[.int .i64 L2, .slice aY lY cY, .slice aY' lY' cY'] 44) = w9) := ⟨_, rfl⟩
            rw [Hw9.out] at bn2 hb4
            have hb5 := hb3.below (below_then hb bn2)
            have iX9 := iX8.below (below_then hb bn2)
            have iY9 := iY.below bn2
            have b9 := below_then hb bn2
            go_upto_region 9 with fail
            rw [Hw9.out, HBy.out]
            clear Hw9 HBy g0 g1' g2 iY jY bn2 hb HF
            obtain ⟨x0, x1, x2, x3⟩ := id hb4
            obtain ⟨y0, y1, y2, y3⟩ := id hb5
            go_wp2_with fail
            refine (share_any _ _ _ _ _ _ _ _ w9 iY9 iX9 Hll.out).mono ?_
            rintro e w10 ⟨b, rfl, hbs, b10⟩
            clear x0 x1 x2 x3 y0 y1 y2 y3
            obtain ⟨x0, x1, x2, x3⟩ := hb4.below b10
            obtain ⟨y0, y1, y2, y3⟩ := hb5.below b10
            rw [HC.out] at hbs
            cases b
            · have R : Hid _ := HSk.out (fun h => by have := hbs.2 h; cases this)
              have B2 := below_then b9 b10
              clear HSk HY HC hbs
              go_wp2
              go_roundg (gk - 1)
              case measure => omega
              case rel => exact ⟨j + 1, by omega, by go_num, R, B2⟩
            · have hs : Hid (Shares n j i) := hbs.1 rfl
              clear hbs HC
              go_wp2_with fail
              refine (equal_b _ _ _ _ w10 (iY9.below b10) (iX9.below b10)).mono ?_
              rintro e w11 ⟨rfl, b11⟩
              have B2 := below_then b9 (below_then b10 b11)
              cases he : ((tranAt n.trans j).pre == (tranAt n.trans i).pre)
              · have R : Hid (¬ FreeN n) := HY.out hs.out (by intro q; rw [q, beq_self_eq_true] at he; cases he)
                have B3 := below_then c (below_then b8 B2)
                clear HSk HY he
                go_wp2
                go_ret
                exact ⟨false, rfl, ⟨fun h => (by cases h), fun h => absurd h R.out⟩, B3⟩
              · have R : Hid _ := HSk.out (fun _ => eq_of_beq he)
                clear HSk HY he
                go_wp2
                go_roundg (gk - 1)
                case measure => omega
                case rel => exact ⟨j + 1, by omega, by go_num, R, B2⟩
          · obtain rfl : j = i := by omega
            have R : Hid _ := freeB_row HF.out
            have B2 := below_then b8 hb
            clear HF
            go_wp2
            go_roundg (g1 - 1)
            case measure => omega
            case rel => exact ⟨j + 1, by omega, by go_num, R, B2⟩
      · obtain rfl : i = len := by omega
        have R : Hid (FreeN n) := HD.out HF.out
        have B2 := below_then c hb0
        clear HF HD
        go_wp2
        go_ret
        exact ⟨true, rfl, ⟨fun _ => R.out, fun _ => rfl⟩, B2⟩

end Go.Proofs.Ytgedpebnipghlaa

/- Package choice as it landed: the first one of each part, plainly; two parts made one, in memory. -/
namespace Go.Proofs.Ytgedpebnipghlaa
open Go.RowKit
set_option linter.unusedVariables false
set_option linter.unusedSimpArgs false
set_option maxRecDepth 4000

/-! ### plainly -/
/-- One comes to the other by links, in whatever direction. -/
def Conn (E : Nat → Nat → Prop) (x y : Nat) : Prop := ∀ Q : Nat → Prop, Q x → (∀ u v, E u v → (Q u ↔ Q v)) → Q y
theorem Conn.here (E : Nat → Nat → Prop) (x : Nat) : Conn E x x := fun _ h _ => h
theorem Conn.trans {E : Nat → Nat → Prop} {x y z : Nat} (h : Conn E x y) (k : Conn E y z) : Conn E x z := fun Q h0 h1 => k Q (h Q h0 h1) h1
theorem Conn.symm {E : Nat → Nat → Prop} {x y : Nat} (h : Conn E x y) : Conn E y x := fun Q h0 h1 =>
  (h (fun z => Q z → Q x) (fun q => q) (fun u v huv => ⟨fun hu q => hu ((h1 u v huv).2 q), fun hv q => hv ((h1 u v huv).1 q)⟩)) h0
theorem Conn.link {E : Nat → Nat → Prop} {x y : Nat} (h : E x y) : Conn E x y := fun Q h0 h1 => (h1 x y h).1 h0
theorem Conn.more {E E' : Nat → Nat → Prop} {x y : Nat} (h : Conn E x y) (hE : ∀ u v, E u v → E' u v) : Conn E' x y := fun Q h0 h1 => h Q h0 fun u v huv => h1 u v (hE u v huv)

structure Fst (E : Nat → Nat → Prop) (m : Nat) (f : Nat → Int) : Prop where
  dom : ∀ u v, E u v → u < m ∧ v < m
  low : ∀ i, i < m → 0 ≤ f i ∧ f i ≤ i
  con : ∀ i, i < m → Conn E i (f i).toNat
  same : ∀ u v, E u v → f u = f v
theorem Fst.conn {E : Nat → Nat → Prop} {m : Nat} {f : Nat → Int} (h : Fst E m f) {x y : Nat} (hc : Conn E x y) : f x = f y := hc (fun z => f x = f z) rfl fun u v huv => by rw [h.same u v huv]
theorem Fst.as {E E' : Nat → Nat → Prop} {m : Nat} {f : Nat → Int} (h : Fst E m f) (h1 : ∀ u v, E' u v ↔ E u v) : Fst E' m f :=
  ⟨fun u v q => h.dom u v ((h1 u v).1 q), h.low, fun i hi => (h.con i hi).more fun u v q => (h1 u v).2 q, fun u v q => h.same u v ((h1 u v).1 q)⟩
theorem Fst.grow {E : Nat → Nat → Prop} {m : Nat} {f f' : Nat → Int} (h : Fst E m f) (h1 : ∀ i, i < m → f' i = f i) (h2 : f' m = m) : Fst E (m + 1) f' := by
  refine ⟨fun u v q => ⟨by have := (h.dom u v q).1; omega, by have := (h.dom u v q).2; omega⟩, fun i hi => ?_, fun i hi => ?_, fun u v q => ?_⟩
  · rcases Nat.lt_or_ge i m with h3 | h3
    · rw [h1 i h3]; exact h.low i h3
    · obtain rfl : i = m := by omega
      rw [h2]; omega
  · rcases Nat.lt_or_ge i m with h3 | h3
    · rw [h1 i h3]; exact h.con i h3
    · obtain rfl : i = m := by omega
      rw [h2]; exact Conn.here E i
  · rw [h1 u (h.dom u v q).1, h1 v (h.dom u v q).2]; exact h.same u v q

/-- Where x and y were, the lesser of both is. -/
def joinV (x y z : Int) : Int := if z = x ∨ z = y then min x y else z
theorem Fst.join {E E' : Nat → Nat → Prop} {m : Nat} {f f' : Nat → Int} (h : Fst E m f) {a b : Nat} (ha : a < m) (hb : b < m) (h1 : ∀ u v, E' u v ↔ E u v ∨ (u = a ∧ v = b)) (hf : ∀ i, i < m → f' i = joinV (f a) (f b) (f i)) : Fst E' m f' := by
  have hE : ∀ u v, E u v → E' u v := fun u v q => (h1 u v).2 (.inl q)
  have hab : Conn E' a b := Conn.link ((h1 a b).2 (.inr ⟨rfl, rfl⟩))
  have ca := (h.con a ha).more hE
  have cb := (h.con b hb).more hE
  refine ⟨fun u v q => ?_, fun i hi => ?_, fun i hi => ?_, fun u v q => ?_⟩
  · rcases (h1 u v).1 q with q | ⟨rfl, rfl⟩
    · exact h.dom u v q
    · exact ⟨ha, hb⟩
  · rw [hf i hi]
    have := h.low i hi
    have := h.low a ha
    have := h.low b hb
    unfold joinV
    split <;> omega
  · rw [hf i hi]
    have ci := (h.con i hi).more hE
    unfold joinV
    split
    · rename_i q
      have key : Conn E' i a := by
        rcases q with q | q
        · rw [q] at ci; exact ci.trans ca.symm
        · rw [q] at ci; exact (ci.trans cb.symm).trans hab.symm
      rcases Int.le_total (f a) (f b) with q | q
      · rw [Int.min_eq_left q]; exact key.trans ca
      · rw [Int.min_eq_right q]; exact (key.trans hab).trans cb
    · exact ci
  · rcases (h1 u v).1 q with q | ⟨rfl, rfl⟩
    · rw [hf u (h.dom u v q).1, hf v (h.dom u v q).2, h.same u v q]
    · rw [hf u ha, hf v hb]
      unfold joinV
      rw [if_pos (.inl rfl), if_pos (.inr rfl)]

/-- Pairs up to here that share a place. -/
def LinkB (n : NetL) (b a : Nat) (x y : Nat) : Prop := Shares n x y ∧ x < y ∧ (y < b ∨ (y = b ∧ x < a))
theorem fst_none (n : NetL) (f : Nat → Int) : Fst (LinkB n 0 0) 0 f := ⟨fun u v q => by have := q.2; omega, fun i h => by omega, fun i h => by omega, fun u v q => by have := q.2; omega⟩
theorem fst_skip {n : NetL} {b a m : Nat} {f : Nat → Int} (h : Fst (LinkB n b a) m f) (hs : ¬ Shares n a b) : Fst (LinkB n b (a + 1)) m f := by
  refine h.as fun u v => ⟨fun ⟨h1, h2, h3⟩ => ⟨h1, h2, ?_⟩, fun ⟨h1, h2, h3⟩ => ⟨h1, h2, by omega⟩⟩
  rcases h3 with h3 | ⟨rfl, h3⟩
  · exact .inl h3
  · rcases Nat.lt_or_ge u a with h4 | h4
    · exact .inr ⟨rfl, h4⟩
    · obtain rfl : u = a := by omega
      exact absurd h1 hs
theorem fst_join {n : NetL} {b a m : Nat} {f f' : Nat → Int} (h : Fst (LinkB n b a) m f) (hs : Shares n a b) (hab : a < b) (hb : b < m) (hf : ∀ i, i < m → f' i = joinV (f a) (f b) (f i)) : Fst (LinkB n b (a + 1)) m f' := by
  refine h.join (a := a) (b := b) (by omega) hb (fun u v => ⟨fun ⟨h1, h2, h3⟩ => ?_, fun q => ?_⟩) hf
  · rcases h3 with h3 | ⟨rfl, h3⟩
    · exact .inl ⟨h1, h2, .inl h3⟩
    · rcases Nat.lt_or_ge u a with h4 | h4
      · exact .inl ⟨h1, h2, .inr ⟨rfl, h4⟩⟩
      · exact .inr ⟨by omega, rfl⟩
  · rcases q with ⟨h1, h2, h3⟩ | ⟨rfl, rfl⟩
    · exact ⟨h1, h2, by omega⟩
    · exact ⟨hs, hab, .inr ⟨rfl, by omega⟩⟩
theorem fst_row {n : NetL} {b m : Nat} {f : Nat → Int} (h : Fst (LinkB n b b) m f) : Fst (LinkB n (b + 1) 0) m f :=
  h.as fun u v => ⟨fun ⟨h1, h2, h3⟩ => ⟨h1, h2, by omega⟩, fun ⟨h1, h2, h3⟩ => ⟨h1, h2, by omega⟩⟩
theorem stepsN_led {n : NetL} : ∀ {k a x : Nat}, a < n.trans.length → StepsN n k a x → x < n.trans.length ∧ Led n a x
  | 0, a, x, ha, h => by obtain rfl : a = x := h; exact ⟨ha, Led.here n a⟩
  | k + 1, a, x, ha, h => by
    obtain ⟨c, hc, hs, h2⟩ := h
    obtain ⟨h3, h4⟩ := stepsN_led hc h2
    exact ⟨h3, ((Led.here n a).step ha hc hs).trans h4⟩
theorem fst_head {n : NetL} {f : Nat → Int} (h : Fst (LinkB n n.trans.length 0) n.trans.length f) : HeadMid n n.trans.length 0 0 f := by
  have toLed : ∀ {x y}, Conn (LinkB n n.trans.length 0) x y → Led n x y := fun {x y} hc =>
    hc (fun z => Led n x z) (Led.here n x) fun u v huv => ⟨fun q => q.step (h.dom u v huv).1 (h.dom u v huv).2 huv.1, fun q => q.step (h.dom u v huv).2 (h.dom u v huv).1 huv.1.symm⟩
  have ofLed : ∀ {x y}, Led n x y → Conn (LinkB n n.trans.length 0) x y := fun {x y} hl =>
    hl (fun z => Conn (LinkB n n.trans.length 0) x z) (Conn.here _ x) fun u v hu hv q hs => by
      rcases Nat.lt_trichotomy u v with h1 | h1 | h1
      · exact q.trans (Conn.link ⟨hs, h1, .inl hv⟩)
      · rw [← h1]; exact q
      · exact q.trans (Conn.link ⟨hs.symm, h1, .inl hu⟩ : Conn _ v u).symm
  refine ⟨⟨h.low, fun i hi => toLed (h.con i hi)⟩, fun a ha k x hk hs => ?_, fun a h => absurd h (Nat.not_lt_zero _), fun c h => absurd h (Nat.not_lt_zero _)⟩
  obtain ⟨hx, hl⟩ := stepsN_led ha hs
  rw [h.conn (ofLed hl)]
  exact (h.low x hx).2

/-- The first so many of a list are looked through. -/
def joinTo (zs : List Int) (x y : Int) (t : Nat) : List Int := (zs.take t).map (joinV x y) ++ zs.drop t
theorem joinTo_length (zs : List Int) (x y : Int) (t : Nat) : (joinTo zs x y t).length = zs.length := by simp [joinTo]; omega
theorem joinTo_zero (zs : List Int) (x y : Int) : joinTo zs x y 0 = zs := by simp [joinTo]
theorem nth_joinTo (zs : List Int) (x y : Int) (t i : Nat) (hi : i < zs.length) : nth (joinTo zs x y t) i = if i < t then joinV x y (nth zs i) else nth zs i := by
  unfold nth joinTo
  rw [List.getD_eq_getElem?_getD, List.getD_eq_getElem?_getD, List.getElem?_append]
  simp only [List.length_map, List.length_take]
  by_cases h : i < t
  · rw [if_pos (by omega), if_pos h, List.getElem?_map, List.getElem?_take_of_lt h, List.getElem?_eq_getElem hi]
    rfl
  · rw [if_neg (by omega), if_neg h, List.getElem?_drop]
    congr 2
    omega
theorem nth_ext {xs ys : List Int} (hl : xs.length = ys.length) (h : ∀ i, i < xs.length → nth xs i = nth ys i) : xs = ys := by
  apply List.ext_getElem hl
  intro i h1 h2
  have := h i h1
  unfold nth at this
  rw [List.getD_eq_getElem?_getD, List.getD_eq_getElem?_getD, List.getElem?_eq_getElem h1, List.getElem?_eq_getElem h2] at this
  exact this
theorem nth_set (xs : List Int) (k : Nat) (x : Int) (i : Nat) (hk : k < xs.length) : nth (xs.set k x) i = if i = k then x else nth xs i := by
  unfold nth
  rw [List.getD_eq_getElem?_getD, List.getD_eq_getElem?_getD, List.getElem?_set]
  by_cases h : k = i
  · subst h; simp [hk]
  · rw [if_neg h, if_neg (by omega)]
theorem joinTo_put {zs : List Int} {x y : Int} {t : Nat} (ht : t < zs.length) (hz : nth zs t = x ∨ nth zs t = y) {m : Int} (hm : m = min x y) : (joinTo zs x y t).set t m = joinTo zs x y (t + 1) := by
  refine nth_ext (by rw [List.length_set, joinTo_length, joinTo_length]) fun i hi => ?_
  rw [List.length_set, joinTo_length] at hi
  rw [nth_set _ _ _ _ (by rw [joinTo_length]; exact ht), nth_joinTo _ _ _ _ _ hi, nth_joinTo _ _ _ _ _ hi]
  by_cases e : i = t
  · subst e
    rw [if_pos rfl, if_pos (by omega), hm]
    unfold joinV; rw [if_pos hz]
  · rw [if_neg e]
    by_cases h : i < t
    · rw [if_pos h, if_pos (by omega)]
    · rw [if_neg h, if_neg (by omega)]
theorem joinTo_skip {zs : List Int} {x y : Int} {t : Nat} (ht : t < zs.length) (hz : ¬ (nth zs t = x ∨ nth zs t = y)) : joinTo zs x y t = joinTo zs x y (t + 1) := by
  refine nth_ext (by rw [joinTo_length, joinTo_length]) fun i hi => ?_
  rw [joinTo_length] at hi
  rw [nth_joinTo _ _ _ _ _ hi, nth_joinTo _ _ _ _ _ hi]
  by_cases e : i = t
  · subst e
    rw [if_neg (by omega), if_pos (by omega)]
    unfold joinV; rw [if_neg hz]
  · by_cases h : i < t
    · rw [if_pos h, if_pos (by omega)]
    · rw [if_neg h, if_neg (by omega)]

/-! ### in memory -/
theorem setCell_blockC {w : World} {g off : Nat} {cur : Array Value} {e : TypeId} (h : w.heap[g]? = some (.cells cur e (0, 0))) (u : Value) : (w.setCell ⟨g, off, none⟩ u).heap[g]? = some (.cells (cur.setIfInBounds off u) e (0, 0)) := by
  have hlt : g < w.heap.size := (Array.getElem?_eq_some_iff.1 h).1
  have h' : w.heap[g] = .cells cur e (0, 0) := (Array.getElem?_eq_some_iff.1 h).2
  show (w.heap.modify g _)[g]? = _
  rw [Array.getElem?_eq_getElem (by simpa using hlt), Array.getElem_modify_self, h']
  rfl
theorem ownsRow_setC {B : Nat} {w : World} {e : TypeId} {g n cap : Nat} {xs : List Value} (h : w.ownsRow B e 1 (.slice (some ⟨g, 0, none⟩) n cap) n xs) {j : Nat} (hj : j < n) (u : Value) :
    (w.setCell ⟨g, j, none⟩ u).ownsRow B e 1 (.slice (some ⟨g, 0, none⟩) n cap) n (xs.set j u) := by
  obtain ⟨h1, h2⟩ := h
  refine ⟨by simpa using h1, ?_⟩
  rcases h2 with ⟨e1, _⟩ | ⟨g', cap', cur, e1, hg, hh, r1, r2, r3, r4⟩
  · cases e1
  · injection e1 with e2 e3 e4
    injection e2 with e2
    injection e2 with e2
    subst e2 e4
    refine .inr ⟨g, cap, cur.setIfInBounds j u, rfl, hg, setCell_blockC hh u, r1, r2, by simpa using r3, ?_⟩
    rw [Array.toList_setIfInBounds, ← r4, List.take_set]
theorem Own.putC {B : Nat} {w wr : World} {g n cap : Nat} {zs : List Int} (h : Own B w wr (.slice (some ⟨g, 0, none⟩) n cap) zs) (hn : zs.length = n) {j : Nat} (hj : j < n) (x : Int) :
    Own B w (wr.setCell ⟨g, j, none⟩ (.int .i64 x)) (.slice (some ⟨g, 0, none⟩) n cap) (zs.set j x) := by
  obtain ⟨h1, h2, h3⟩ := h
  have hB : B ≤ g := (ownsRow_lt h1 (k := g) rfl).1
  have h1' := h1
  rw [hn] at h1'
  refine ⟨?_, h2.setCell (p := ⟨g, j, none⟩) hB _, by simpa [World.setCell] using h3⟩
  have := ownsRow_setC h1' hj (.int .i64 x)
  rw [List.length_set, hn, List.map_set]
  exact this
theorem Own.cellC {B : Nat} {w wr : World} {g n cap : Nat} {zs : List Int} (h : Own B w wr (.slice (some ⟨g, 0, none⟩) n cap) zs) (hn : zs.length = n) {j : Nat} (hj : j < n) :
    wr.cell? ⟨g, j, none⟩ = some (.int .i64 (nth zs j)) ∧ wr.frozen? ⟨g, j, none⟩ = false ∧ g < wr.heap.size := by
  have h1 := h.1
  rw [hn] at h1
  have hc := h1.cellAt j (by omega)
  obtain ⟨_, hk⟩ := h.1
  rcases hk with ⟨e1, _⟩ | ⟨g', cap', cur, e1, hg, hh, _⟩
  · cases e1
  · injection e1 with e2 e3 e4
    injection e2 with e2
    injection e2 with e2
    subst e2
    refine ⟨by rw [hc]; simp [nth, List.getD, List.getElem?_eq_getElem (show j < zs.length by omega)], by simp [World.frozen?, hh], (Array.getElem?_eq_some_iff.1 hh).1⟩
theorem Own.placed {B : Nat} {w wr : World} {v : Value} {zs : List Int} (h : Own B w wr v zs) (hz : 0 < zs.length) : ∃ g cap, v = .slice (some ⟨g, 0, none⟩) zs.length cap ∧ v.ownBlock = some g ∧ zs.length ≤ cap ∧ cap ≤ 9223372036854775807 := by
  rcases h.1.2 with ⟨rfl, h0⟩ | ⟨g, cap', cur, rfl, _, _, r1, r2, _⟩
  · omega
  · exact ⟨g, cap', rfl, rfl, r1, by unfold maxLen at r2; omega⟩

set_option maxHeartbeats 1000000 in
theorem join_any (B : Nat) (w0 w : World) (g n cap : Nat) (zs : List Int) (x y : Int) (hO : Own B w0 w (.slice (some ⟨g, 0, none⟩) n cap) zs) (hn : zs.length = n) (hc1 : n ≤ cap) (hc2 : cap ≤ 9223372036854775807) (hmx : n ≤ 17592186044416) :
    Calls Try.prog 45 #[.slice (some ⟨g, 0, none⟩) n cap, .int .i64 x, .int .i64 y] w fun e w' => e = .returned (.tuple #[]) ∧ Own B w0 w' (.slice (some ⟨g, 0, none⟩) n cap) (joinTo zs x y n) ∧ OnlyB g w w' := by
  have Hn : Hid (zs.length = n) := hn
  clear hn
  go_enter Try.func45, Try.ntmps45
  go_wp2_with fail
  go_loopg [10] n (fun gk t' wr => ∃ t : Nat, t + gk = n ∧ t' = .int .i64 (t : Int) ∧ Own B w0 wr (.slice (some ⟨g, 0, none⟩) n cap) (joinTo zs x y t) ∧ OnlyB g w wr)
  case atStart => exact ⟨0, by omega, rfl, by rw [joinTo_zero]; exact hO, OnlyB.refl _ _⟩
  case round =>
    clear hO
    obtain ⟨t, htg, rfl, hO, hB⟩ := hrel
    by_cases ht : t < n
    · have hl : (joinTo zs x y t).length = n := by rw [joinTo_length]; exact Hn.out
      obtain ⟨c1, c2, c3⟩ := hO.cellC hl ht
      have HS : Hid _ := joinTo_skip (x := x) (y := y) (show t < zs.length by rw [Hn.out]; exact ht)
      have HP : Hid (nth zs t = x ∨ nth zs t = y → ∀ m, m = min x y → (joinTo zs x y t).set t m = joinTo zs x y (t + 1)) := fun h m hm => joinTo_put (show t < zs.length by rw [Hn.out]; exact ht) h hm
      have HO2 : Hid (∀ z, Own B w0 (wr.setCell ⟨g, t, none⟩ (.int .i64 z)) (.slice (some ⟨g, 0, none⟩) n cap) ((joinTo zs x y t).set t z)) := fun z => hO.putC hl ht z
      have HB2 : Hid (∀ z, OnlyB g w (wr.setCell ⟨g, t, none⟩ z)) := fun z => hB.trans (OnlyB.set g t wr z)
      rw [nth_joinTo _ _ _ _ _ (show t < zs.length by rw [Hn.out]; exact ht), if_neg (by omega)] at c1
      obtain ⟨z, Hz⟩ : ∃ z, Hid (nth zs t = z) := ⟨_, rfl⟩
      rw [Hz.out] at HS HP c1
      clear hl c3 Hz
      by_cases hz : z = x ∨ z = y
      · have key : ∀ m, m = min x y → Own B w0 (wr.setCell ⟨g, t, none⟩ (.int .i64 m)) (.slice (some ⟨g, 0, none⟩) n cap) (joinTo zs x y (t + 1)) := fun m hm => by rw [← HP.out hz m hm]; exact HO2.out m
        have Key : Hid _ := key
        clear key HS HP HO2 hO
        have ez : (z == x || z == y) = true := by simpa using hz
        rcases Int.lt_trichotomy x y with hxy | hxy | hxy
        · have R : Hid _ := Key.out x (by omega)
          rcases hz with rfl | rfl
          · go_wp2
            go_roundg (gk - 1)
            case measure => omega
            case rel => exact ⟨t + 1, by omega, by go_num, R.out, HB2.out _⟩
          · go_wp2
            go_roundg (gk - 1)
            case measure => omega
            case rel => exact ⟨t + 1, by omega, by go_num, R.out, HB2.out _⟩
        · subst hxy
          have R : Hid _ := Key.out x (by omega)
          obtain rfl : z = x := by rcases hz with q | q <;> exact q
          go_wp2
          go_roundg (gk - 1)
          case measure => omega
          case rel => exact ⟨t + 1, by omega, by go_num, R.out, HB2.out _⟩
        · have R : Hid _ := Key.out y (by omega)
          rcases hz with rfl | rfl
          · go_wp2
            go_roundg (gk - 1)
            case measure => omega
            case rel => exact ⟨t + 1, by omega, by go_num, R.out, HB2.out _⟩
          · go_wp2
            go_roundg (gk - 1)
            case measure => omega
            case rel => exact ⟨t + 1, by omega, by go_num, R.out, HB2.out _⟩
      · have R : Hid _ := HS.out hz
        have e1 : (z == x) = false := by rw [beq_eq_false_iff_ne]; exact fun q => hz (.inl q)
        have e2 : (z == y) = false := by rw [beq_eq_false_iff_ne]; exact fun q => hz (.inr q)
        rw [R.out] at hO
        clear HS HP HO2 HB2 hz R c2
        go_wp2
        go_roundg (gk - 1)
        case measure => omega
        case rel => exact ⟨t + 1, by omega, by go_num, hO, hB⟩
    · obtain rfl : t = n := by omega
      go_wp2
      go_end0
      exact ⟨rfl, hO, hB⟩

set_option maxHeartbeats 1000000 in
theorem part_any (v : Value) (zs : List Int) (f : Int) (w : World) (h : Ints w v zs) :
    Calls Try.prog 30 #[v, .int .i64 f] w fun e w' => ∃ r, e = .returned r ∧ Own w.heap.size w w' r (withHead (nth zs) f zs.length) := by
  obtain ⟨a, n, cap, rfl, hlen, hmx, hsh, _⟩ := id h
  have Hlen : Hid (zs.length = n) := hlen
  rw [hlen]
  clear hlen hsh
  go_enter Try.func30, Try.ntmps30
  go_wp2_with fail
  go_loopg [5, 10] n (fun gk l m' wr => ∃ m : Nat, m + gk = n ∧ m' = .int .i64 (m : Int) ∧ Own w.heap.size w wr l (withHead (nth zs) f m))
  case atStart => exact ⟨0, by omega, rfl, Own.nil _⟩
  case round =>
    obtain ⟨m, hmg, rfl, hO⟩ := hrel
    by_cases hmn : m < n
    · obtain ⟨b, off, rfl, _, cm⟩ := ints_atL (h.below hO.2.1) hmn
      have Hy : Hid (nth zs m = f → withHead (nth zs) f (m + 1) = withHead (nth zs) f m ++ [(m : Int)]) := withHead_yes (nth zs) f m
      have Hno : Hid (nth zs m ≠ f → withHead (nth zs) f (m + 1) = withHead (nth zs) f m) := withHead_no (nth zs) f m
      have hwl := withHead_le (nth zs) f m
      obtain ⟨x, Hx⟩ : ∃ x, Hid (nth zs m = x) := ⟨_, rfl⟩
      rw [Hx.out] at cm Hy Hno
      clear Hx
      by_cases hx : x = f
      · have R : Hid _ := Hy.out hx
        subst hx
        obtain ⟨la, ll, lc, rfl⟩ := hO.slice
        clear Hy Hno
        go_wp2_with (at_builtin; refine wp_append_int rfl _ _ rfl w.heap.size w _ _ _ (m : Int) hO rfl rfl (by omega) ?_; intro v' w5 hO5)
        go_roundg (gk - 1)
        case measure => omega
        case rel => exact ⟨m + 1, by omega, by go_num, by rw [R.out]; exact hO5⟩
      · have R : Hid _ := Hno.out hx
        have e1 : (x == f) = false := by rw [beq_eq_false_iff_ne]; exact hx
        clear Hy Hno hx
        go_wp2
        go_roundg (gk - 1)
        case measure => omega
        case rel => exact ⟨m + 1, by omega, by go_num, by rw [R.out]; exact hO⟩
    · obtain rfl : m = n := by omega
      go_wp2
      go_ret
      exact ⟨_, rfl, hO⟩

end Go.Proofs.Ytgedpebnipghlaa

/- Package choice as it landed: the parts. (Made by tools/gen_choicedev.py.) -/
namespace Go.Proofs.Ytgedpebnipghlaa
open Go.RowKit
set_option linter.unusedVariables false
set_option linter.unusedSimpArgs false
set_option maxRecDepth 4000

theorem Box3.keptC {w w' : World} {b : Nat} {x y z : Value} (h : Box3 w b x y z) (hk : w'.heap[b]? = w.heap[b]?) (hs : w.heap.size ≤ w'.heap.size) : Box3 w' b x y z :=
  ⟨Nat.lt_of_lt_of_le h.1 hs, (World.cell?_of_block (a := ⟨b, 0, none⟩) hk).trans h.2.1, (World.cell?_of_block (a := ⟨b, 1, none⟩) hk).trans h.2.2.1, (World.cell?_of_block (a := ⟨b, 2, none⟩) hk).trans h.2.2.2⟩
theorem Box3.onlyC {w w' : World} {b g : Nat} {x y z : Value} (h : Box3 w b x y z) (hk : OnlyB g w w') (hne : g ≠ b) : Box3 w' b x y z := h.keptC (hk.block b h.1 (fun e => hne e.symm)) hk.size
theorem OnlyB.ofBelowC {w w' : World} (g : Nat) (h : Below w.heap.size w w') (hg : g ≤ w.heap.size) : OnlyB g w w' := ⟨h.mono hg, h.size, fun k hk _ => h.block k hk⟩

/-- append of one number: what else stands, and where the row then lies. -/
theorem wp_append_intK {ops : Array Oper} {rest : List Oper} {o : Oper} {a : Act} {Q : Exit → Act → World → Prop} (hgd : o.guard = none) (s x : Operand)
    (ho : o.op = .call { callee := .builtin .append, args := #[s, x], argTypes := #[29, 29] }) (B : Nat) (w wr : World) (v : Value) (zs : List Int) (z : Int) (hG : Own B w wr v zs)
    (hs : a.eval s = v) (hx : a.eval x = .slice (some ⟨wr.heap.size, 0, none⟩) 1 1) (hl : zs.length + 1 ≤ 17592186044416)
    (h : ∀ v' w', Own B w w' v' (zs ++ [z]) → (wr.heap.size ≤ w'.heap.size ∧ ∀ k, k < wr.heap.size → v.ownBlock ≠ some k → w'.heap[k]? = wr.heap[k]?) → (v'.ownBlock = v.ownBlock ∨ v'.ownBlock = some (wr.heap.size + 1)) → wpList Try.prog ops Q rest (a.put o.dst v') w') : wpList Try.prog ops Q (o :: rest) a (wr.alloc (.cells #[.int .i64 z] 3)) := by
  obtain ⟨i0, hi, hz0, hz1, hz2⟩ := info_parts info_int
  have hwt : Region.wanted o (yielded ops a.tmps) = true := by simp [Region.wanted, hgd]
  have hn := below_new wr (.cells #[.int .i64 z] 3)
  obtain ⟨hown, hb, hB⟩ := hG
  refine wpList_step fun K hK => ?_
  refine wp_append_at _ hwt s x 29 ho B 3 i0 (.int .i64 0) 1 8 Try.underlying29 hi hz0 hz1 hz2 rfl (by decide) v zs.length _ hs (hown.alloc _) ⟨wr.heap.size, 0, none⟩ 1 1 [.int .i64 z] hx rfl ?_ ?_ ?_ ?_ ?_ ?_
  · intro j u hj
    match j, hj with
    | 0, hj => simp at hj; subst hj; simp [Addr.add]
  · intro u hu; simp at hu; subst hu; rfl
  · unfold maxLen; omega
  · omega
  · simp; omega
  · intro v' w' hown' hg hat
    refine hK _ _ (h v' w' ⟨by simpa using hown', (hb.alloc hB _).grown hg (by simp; omega) (fun k hk => (hown.lt k hk).1), ?_⟩ ⟨Nat.le_trans hn.size hg.size, fun k hk hne => (hg.block k (Nat.lt_of_lt_of_le hk hn.size) (fun q => hne q.symm)).trans (hn.block k hk)⟩ (by simpa using hat))
    have := hg.size; simp at this; omega

set_option maxHeartbeats 4000000 in
theorem firsts_any (tv : Value) (n : NetL) (w : World) (hT : Trans w tv n.trans) (hn : netOk n = true) :
    Calls Try.prog 29 #[tv] w fun e w' => ∃ r zs, e = .returned r ∧ Own w.heap.size w w' r zs ∧ zs.length = n.trans.length ∧ Fst (LinkB n n.trans.length 0) n.trans.length (nth zs) := by
  have Hn : Hid (netOk n = true) := hn
  obtain ⟨a, len, cap0, rfl, hlen, hmx, hsh, _⟩ := id hT
  have hcap : len ≤ cap0 := hsh.1
  have hcap2 : cap0 ≤ 9223372036854775807 := hsh.2.1
  have Hlen : Hid (n.trans.length = len) := hlen
  have HE : Hid (∀ k, k < len → k < n.trans.length) := fun k hk => by rw [Hlen.out]; exact hk
  have HL : Hid (∀ i j, i < len → j < len → (tranAt n.trans i).pre.length = (tranAt n.trans j).pre.length) := fun i j hi hj => by
    have h1 := (tran_length Hn.out (HE.out i hi)).1
    have h2 := (tran_length Hn.out (HE.out j hj)).1
    omega
  rw [hlen]
  clear hlen hsh hn
  go_enter Try.func29, Try.ntmps29
  go_wp2_with fail
  go_loopg [3, 10] len (fun gk fv b' wr => ∃ (b : Nat) (zs : List Int), b + gk = len ∧ b' = .int .i64 (b : Int) ∧ Own w.heap.size w wr fv zs ∧ Hid (zs.length = b) ∧ Hid (Fst (LinkB n b 0) b (nth zs)))
  case atStart => exact ⟨0, [], by omega, rfl, Own.nil _, rfl, fst_none n _⟩
  case round =>
    obtain ⟨b, zs, hbg, rfl, hO, Hzl, HF⟩ := hrel
    obtain ⟨g1, rfl⟩ : ∃ g1, g1 = gk := ⟨_, rfl⟩
    by_cases hin : b < len
    · obtain ⟨bt, ot, p1, q1, rfl, hlt, h0, h1, h2, iX, jX⟩ := hT.at hin
      obtain ⟨aX, lX, cX, rfl⟩ : ∃ a l c, p1 = .slice a l c := by obtain ⟨a, l, c, e, _⟩ := iX; exact ⟨a, l, c, e⟩
      obtain ⟨aX', lX', cX', rfl⟩ : ∃ a l c, q1 = .slice a l c := by obtain ⟨a, l, c, e, _⟩ := jX; exact ⟨a, l, c, e⟩
      obtain ⟨L, HLb⟩ : ∃ L, Hid ((tranAt n.trans b).label = L) := ⟨_, rfl⟩
      rw [HLb.out] at h0
      replace h0 := (hO.2.1.cell (p := ⟨bt, _, none⟩) hlt).trans h0
      replace h1 := (hO.2.1.cell (p := ⟨bt, _, none⟩) hlt).trans h1
      replace h2 := (hO.2.1.cell (p := ⟨bt, _, none⟩) hlt).trans h2
      have bn1 := below_new wr (.cells #[.int .i64 L, .slice aX lX cX, .slice aX' lX' cX'] 44)
      have hb3 := box3_new wr (.int .i64 L) (.slice aX lX cX) (.slice aX' lX' cX') 44
      obtain ⟨Bt, HBt⟩ : ∃ B, Hid (wr.heap.size = B) := ⟨_, rfl⟩
      rw [HBt.out] at hb3
      have Hv1 : Hid (∀ k, u3.ownBlock = some k → k < Bt) := fun k hk => by rw [← HBt.out]; exact (ownsRow_lt hO.1 hk).2
      obtain ⟨w8, Hw8⟩ : ∃ w8, Hid (wr.alloc (.cells #[.int .i64 L, .slice aX lX cX, .slice aX' lX' cX'] 44) = w8) := ⟨_, rfl⟩
      rw [Hw8.out] at bn1 hb3
      have hO8 := hO.trans bn1
      obtain ⟨fa, fl, fc, rfl⟩ := hO.slice
      have HF2 : Hid (Fst (LinkB n b 0) (b + 1) (nth (zs ++ [(b : Int)]))) := HF.out.grow (fun i hi => by unfold nth; rw [List.getD_eq_getElem?_getD, List.getD_eq_getElem?_getD, List.getElem?_append_left (by rw [Hzl.out]; exact hi)]) (by unfold nth; rw [List.getD_eq_getElem?_getD, List.getElem?_append_right (by rw [Hzl.out]; exact Nat.le_refl _)]; simp [Hzl.out])
      have hzl2 : zs.length + 1 ≤ 17592186044416 := by rw [Hzl.out]; omega
      go_upto_region 5 with fail
      rw [Hw8.out, HBt.out]
      clear Hw8 h0 h1 h2 jX bn1 hO HF
      go_upto_region 6 with (at_builtin; refine wp_append_intK rfl _ _ rfl w.heap.size w w8 _ zs (b : Int) hO8 rfl rfl hzl2 ?_; intro v1 w9 hO9 hkp hat)
      have hb4 : Box3 w9 Bt (.int .i64 L) (.slice aX lX cX) (.slice aX' lX' cX') := hb3.keptC (hkp.2 Bt hb3.1 (fun q => by have := Hv1.out Bt q; omega)) hkp.1
      have hgB : v1.ownBlock ≠ some Bt := by
        rcases hat with e | e
        · rw [e]; intro q; have := Hv1.out Bt q; omega
        · rw [e]; intro q; injection q with q; have := hb3.1; omega
      have hzl3 : (zs ++ [(b : Int)]).length = b + 1 := by rw [List.length_append, Hzl.out]; rfl
      obtain ⟨g, cap, hv1, hv2, hc1, hc2⟩ := hO9.placed (by omega)
      rw [hzl3] at hv1 hc1
      subst hv1
      have hgBt : g ≠ Bt := fun q => hgB (by rw [hv2, q])
      have Hzl9 : Hid ((zs ++ [(b : Int)]).length = b + 1) := hzl3
      have hmxb : b + 1 ≤ 17592186044416 := by omega
      clear hb3 hO8 hkp hat hgB hv2 hzl3 Hzl hzl2 Hv1 HBt
      go_wp2_with fail
      go_loopg [23] b (fun gk j' wr => ∃ (j : Nat) (zs : List Int), j + gk = b ∧ j' = .int .i64 (j : Int) ∧ Own w.heap.size w wr (.slice (some ⟨g, 0, none⟩) (b + 1) cap) zs ∧ Hid (zs.length = b + 1) ∧ Hid (Fst (LinkB n b j) (b + 1) (nth zs)) ∧ Box3 wr Bt (.int .i64 L) (.slice aX lX cX) (.slice aX' lX' cX'))
      case atStart => exact ⟨0, _, by omega, rfl, hO9, Hzl9, HF2, hb4⟩
      case round =>
        clear hO9 Hzl9 HF2 hb4
        obtain ⟨j, zs, hjg, rfl, hO, Hzl, HF, hb4⟩ := hrel
        by_cases hjn : j < b
        · have hjl : j < len := by omega
          obtain ⟨bt', ot', p2, q2, e, _, g0, g1', g2, iY, jY⟩ := hT.at hjl
          injection e with e
          injection e with e1 e2
          subst e1 e2
          obtain ⟨aY, lY, cY, rfl⟩ : ∃ a l c, p2 = .slice a l c := by obtain ⟨a, l, c, e, _⟩ := iY; exact ⟨a, l, c, e⟩
          obtain ⟨aY', lY', cY', rfl⟩ : ∃ a l c, q2 = .slice a l c := by obtain ⟨a, l, c, e, _⟩ := jY; exact ⟨a, l, c, e⟩
          obtain ⟨L2, HL2⟩ : ∃ L, Hid ((tranAt n.trans j).label = L) := ⟨_, rfl⟩
          rw [HL2.out] at g0
          replace g0 := (hO.2.1.cell (p := ⟨bt, _, none⟩) hlt).trans g0
          replace g1' := (hO.2.1.cell (p := ⟨bt, _, none⟩) hlt).trans g1'
          replace g2 := (hO.2.1.cell (p := ⟨bt, _, none⟩) hlt).trans g2
          have HSk : Hid (¬ Shares n j b → Fst (LinkB n b (j + 1)) (b + 1) (nth zs)) := fst_skip HF.out
          have HJ : Hid (Shares n j b → Fst (LinkB n b (j + 1)) (b + 1) (nth (joinTo zs (nth zs j) (nth zs b) (b + 1)))) := fun hs => fst_join HF.out hs hjn (Nat.lt_succ_self b) fun i hi => by rw [nth_joinTo _ _ _ _ _ (by rw [Hzl.out]; exact hi), if_pos hi]
          have HC : Hid (Common (tranAt n.trans j).pre (tranAt n.trans b).pre ↔ Shares n j b) := common_shares Hn.out (HE.out j hjl) (HE.out b hin)
          have Hll : Hid ((tranAt n.trans b).pre.length = (tranAt n.trans j).pre.length) := HL.out b j hin hjl
          have bn2 := below_new wr (.cells #[.int .i64 L2, .slice aY lY cY, .slice aY' lY' cY'] 44)
          have hb5 := box3_new wr (.int .i64 L2) (.slice aY lY cY) (.slice aY' lY' cY') 44
          obtain ⟨By, HBy⟩ : ∃ B, Hid (wr.heap.size = B) := ⟨_, rfl⟩
          rw [HBy.out] at hb5
          obtain ⟨w9, Hw9⟩ : ∃ w9, Hid (wr.alloc (.cells #[.int .i64 L2, .slice aY lY cY, .slice aY' lY' cY'] 44) = w9) := ⟨_, rfl⟩
          rw [Hw9.out] at bn2 hb5
          replace hb4 := hb4.below bn2
          replace hO := hO.trans bn2
          have iX9 := iX.below hO.2.1
          have iY9 := iY.below hO.2.1
          go_upto_region 9 with fail
          rw [Hw9.out, HBy.out]
          clear Hw9 HBy g0 g1' g2 iY jY bn2 HF
          obtain ⟨x0, x1, x2, x3⟩ := id hb4
          obtain ⟨y0, y1, y2, y3⟩ := id hb5
          go_wp2_with fail
          refine (share_any _ _ _ _ _ _ _ _ w9 iY9 iX9 Hll.out).mono ?_
          rintro e w10 ⟨bs, rfl, hbs, b10⟩
          clear x0 x1 x2 x3 y0 y1 y2 y3 iX9 iY9
          replace hb4 := hb4.below b10
          replace hO := hO.trans b10
          clear hb5 b10
          rw [HC.out] at hbs
          cases bs
          · have R : Hid _ := HSk.out (fun h => by have := hbs.2 h; cases this)
            clear HSk HJ HC hbs
            go_wp2
            go_roundg (gk - 1)
            case measure => omega
            case rel => exact ⟨j + 1, zs, by omega, by go_num, hO, Hzl, R, hb4⟩
          · have R0 : Hid _ := HJ.out (hbs.1 rfl)
            clear hbs HC HSk HJ
            obtain ⟨x1, x2, x3⟩ := hO.cellC Hzl.out (show j < b + 1 by omega)
            obtain ⟨y1, y2, y3⟩ := hO.cellC Hzl.out (show b < b + 1 by omega)
            obtain ⟨x, Hx⟩ : ∃ x, Hid (nth zs j = x) := ⟨_, rfl⟩
            obtain ⟨y, Hy⟩ : ∃ y, Hid (nth zs b = y) := ⟨_, rfl⟩
            rw [Hx.out] at x1 R0
            rw [Hy.out] at y1 R0
            have hd : Below w10.heap.size w10 w10.drew := (Below.refl _ _).drew
            have hOd := hO.trans hd
            have hb5 := hb4
            have hB12d : OnlyB g w10 w10.drew := OnlyB.ofBelowC g hd (Nat.le_of_lt x3)
            have HSk : Hid (True) := trivial
            have HJo : Hid (∀ w', Own w.heap.size w w' (.slice (some ⟨g, 0, none⟩) (b + 1) cap) (joinTo zs x y (b + 1)) → Fst (LinkB n b (j + 1)) (b + 1) (nth (joinTo zs x y (b + 1)))) := fun _ _ => R0.out
            have hxd : w10.drew.cell? ⟨g, j, none⟩ = some (.int .i64 x) := (hd.cell (p := ⟨g, j, none⟩) x3).trans x1
            have hyd : w10.drew.cell? ⟨g, b, none⟩ = some (.int .i64 y) := (hd.cell (p := ⟨g, b, none⟩) x3).trans y1
            have x0 : True := trivial
            have y0 : True := trivial
            clear hO hb4 R0
            go_upto_region 10 with fail
            refine wp_region_held_drew (S := fun _ => True) (by kernel_rfl) trivial (fun hH => ?_)
            refine wpAnyH_take (i := 0) (v := .slice (some ⟨g, 0, none⟩) (b + 1) cap) rfl (by kernel_rfl) (by kernel_rfl) (by kernel_rfl) (fun _ _ _ h => h) (.inl ⟨by rfl, fun _ _ => rfl⟩) hH ?_
            simp only [List.getElem_toArray, List.getElem_cons_succ, List.getElem_cons_zero, Act.put, List.setIfInBounds_toArray, List.set_cons_zero, List.set_cons_succ]
            refine wpAnyH_take (i := 1) (v := .slice (some ⟨g, 0, none⟩) (b + 1) cap) rfl (by kernel_rfl) (by kernel_rfl) (by kernel_rfl) (fun _ _ _ h => h) (.inl ⟨by rfl, fun _ _ => rfl⟩) hH ?_
            simp only [List.getElem_toArray, List.getElem_cons_succ, List.getElem_cons_zero, Act.put, List.setIfInBounds_toArray, List.set_cons_zero, List.set_cons_succ]
            refine wpAnyH_take (i := 2) (v := .int .i64 (j : Int)) rfl (by kernel_rfl) (by kernel_rfl) (by kernel_rfl) (fun _ _ _ h => h) (.inl ⟨by rfl, fun _ _ => rfl⟩) hH ?_
            simp only [List.getElem_toArray, List.getElem_cons_succ, List.getElem_cons_zero, Act.put, List.setIfInBounds_toArray, List.set_cons_zero, List.set_cons_succ]
            refine wpAnyH_take (i := 3) (v := .pointer (some ⟨g, j, none⟩)) rfl (by kernel_rfl) (by kernel_rfl) (by kernel_rfl) (fun _ _ _ h => h) (.inl ⟨by rfl, fun w' hS' => by first | (go_simp; done) | (go_simp; rfl) | (go_simp; intro h; omega) | (go_simp; omega)⟩) hH ?_
            simp only [List.getElem_toArray, List.getElem_cons_succ, List.getElem_cons_zero, Act.put, List.setIfInBounds_toArray, List.set_cons_zero, List.set_cons_succ]
            refine wpAnyH_take (i := 5) (v := .slice (some ⟨g, 0, none⟩) (b + 1) cap) rfl (by kernel_rfl) (by kernel_rfl) (by kernel_rfl) (fun _ _ _ h => h) (.inl ⟨by rfl, fun _ _ => rfl⟩) hH ?_
            simp only [List.getElem_toArray, List.getElem_cons_succ, List.getElem_cons_zero, Act.put, List.setIfInBounds_toArray, List.set_cons_zero, List.set_cons_succ]
            refine wpAnyH_take (i := 6) (v := .int .i64 (b : Int)) rfl (by kernel_rfl) (by kernel_rfl) (by kernel_rfl) (fun _ _ _ h => h) (.inl ⟨by rfl, fun _ _ => rfl⟩) hH ?_
            simp only [List.getElem_toArray, List.getElem_cons_succ, List.getElem_cons_zero, Act.put, List.setIfInBounds_toArray, List.set_cons_zero, List.set_cons_succ]
            refine wpAnyH_take (i := 7) (v := .pointer (some ⟨g, b, none⟩)) rfl (by kernel_rfl) (by kernel_rfl) (by kernel_rfl) (fun _ _ _ h => h) (.inl ⟨by rfl, fun w' hS' => by first | (go_simp; done) | (go_simp; rfl) | (go_simp; intro h; omega) | (go_simp; omega)⟩) hH ?_
            simp only [List.getElem_toArray, List.getElem_cons_succ, List.getElem_cons_zero, Act.put, List.setIfInBounds_toArray, List.set_cons_zero, List.set_cons_succ]
            refine wpAnyH_ready (rs := [4, 8]) (by kernel_rfl) (by simp) ?_
            refine (AllReadyH.cons rfl (fun K hK => ?_) (AllReadyH.cons rfl (fun K hK => ?_) AllReadyH.nil))
            · simp only [List.getElem_toArray, List.getElem_cons_succ, List.getElem_cons_zero]
              rw [if_pos (by rfl)]
              go_wp2_with fail
              refine hK.out _ _ trivial (fun hH => ?_)
              refine wpAnyH_ready (rs := [8]) (by kernel_rfl) (by simp) ?_
              refine AllReadyH.cons rfl (fun K hK => ?_) AllReadyH.nil
              simp only [List.getElem_toArray, List.getElem_cons_succ, List.getElem_cons_zero]
              rw [if_pos (by rfl)]
              go_wp2_with fail
              refine hK.out _ _ trivial (fun hH => ?_)
              refine wpAnyH_ready (rs := [9]) (by kernel_rfl) (by simp) ?_
              refine AllReadyH.cons rfl (fun K hK => ?_) AllReadyH.nil
              simp only [List.getElem_toArray, List.getElem_cons_succ, List.getElem_cons_zero]
              rw [if_pos (by rfl)]
              go_wp2_with fail
              refine (join_any w.heap.size w _ g (b + 1) cap zs x y (by exact hOd) Hzl.out hc1 hc2 hmxb).mono ?_
              rintro e w12 ⟨rfl, hO12, hB12⟩
              refine hK.out _ _ trivial (fun hH => ?_)
              refine wpAnyH_done (by kernel_rfl) ?_ _
              have R : Hid _ := HJo.out _ hO12
              have hb7 := hb5.onlyC (hB12d.trans hB12) hgBt
              clear hH hK hOd HSk HJo hB12 hB12d x0 x1 x2 x3 y0 y1 y2 y3
              go_wp2
              go_roundg (gk - 1)
              case measure => omega
              case rel => exact ⟨j + 1, _, by omega, by go_num, hO12, by rw [joinTo_length]; exact Hzl.out, R, hb7⟩
            · simp only [List.getElem_toArray, List.getElem_cons_succ, List.getElem_cons_zero]
              rw [if_pos (by rfl)]
              go_wp2_with fail
              refine hK.out _ _ trivial (fun hH => ?_)
              refine wpAnyH_ready (rs := [4]) (by kernel_rfl) (by simp) ?_
              refine AllReadyH.cons rfl (fun K hK => ?_) AllReadyH.nil
              simp only [List.getElem_toArray, List.getElem_cons_succ, List.getElem_cons_zero]
              rw [if_pos (by rfl)]
              go_wp2_with fail
              refine hK.out _ _ trivial (fun hH => ?_)
              refine wpAnyH_ready (rs := [9]) (by kernel_rfl) (by simp) ?_
              refine AllReadyH.cons rfl (fun K hK => ?_) AllReadyH.nil
              simp only [List.getElem_toArray, List.getElem_cons_succ, List.getElem_cons_zero]
              rw [if_pos (by rfl)]
              go_wp2_with fail
              refine (join_any w.heap.size w _ g (b + 1) cap zs x y (by exact hOd) Hzl.out hc1 hc2 hmxb).mono ?_
              rintro e w12 ⟨rfl, hO12, hB12⟩
              refine hK.out _ _ trivial (fun hH => ?_)
              refine wpAnyH_done (by kernel_rfl) ?_ _
              have R : Hid _ := HJo.out _ hO12
              have hb7 := hb5.onlyC (hB12d.trans hB12) hgBt
              clear hH hK hOd HSk HJo hB12 hB12d x0 x1 x2 x3 y0 y1 y2 y3
              go_wp2
              go_roundg (gk - 1)
              case measure => omega
              case rel => exact ⟨j + 1, _, by omega, by go_num, hO12, by rw [joinTo_length]; exact Hzl.out, R, hb7⟩
        · obtain rfl : j = b := by omega
          have R : Hid _ := fst_row HF.out
          clear HF
          go_wp2
          go_roundg (g1 - 1)
          case measure => omega
          case rel => exact ⟨j + 1, zs, by omega, by go_num, hO, Hzl, R⟩
    · obtain rfl : b = len := by omega
      go_wp2
      go_ret
      exact ⟨_, zs, rfl, hO, Hzl.out, HF.out⟩

theorem withHead_self {n : NetL} {h : Nat → Int} (H : HeadMid n n.trans.length 0 0 h) {a : Nat} (ha : a < n.trans.length) : withHead h a n.trans.length ≠ [] ↔ h a = a := by
  constructor
  · intro hne
    obtain ⟨t, r, e⟩ := List.exists_cons_of_ne_nil hne
    obtain ⟨i, rfl, hi, hb⟩ := (withHead_mem h a _ t).1 (by rw [e]; simp)
    have hl := H.ok.low i hi
    have h1 := (head_same H (show (h i).toNat < n.trans.length by omega) hi).2 (H.ok.led i hi).symm
    rw [hb] at h1
    simpa using h1
  · intro e q
    have : (a : Int) ∈ withHead h a n.trans.length := (withHead_mem h a _ a).2 ⟨a, rfl, ha, e⟩
    rw [q] at this; cases this

set_option maxHeartbeats 4000000 in
theorem choice_clusters (v : Value) (n : NetL) (w : World) (hv : Net w v n) :
    Calls Try.prog 11 #[v] w fun e w' => ∃ r ls, e = .returned r ∧ PartsOk n ls ∧ Lists w' r ls ∧ Below w.heap.size w w' := by
  obtain ⟨tv, rfl, hT⟩ := hv
  have c := below_new w (.cells #[.int .i64 n.places, tv] 24)
  have hbx := box2_new w (.int .i64 n.places) tv 24
  have hv : Net _ (.agg #[.int .i64 n.places, tv]) n := ⟨_, rfl, hT.below c⟩
  clear hT
  go_enter Try.func11, Try.ntmps11
  go_wp2_with fail
  refine (net_wrong _ n _ (by exact hv)).mono ?_
  rintro e w1 ⟨rfl, b1⟩
  replace c := below_then c b1
  replace hbx := hbx.below b1
  replace hv := hv.below b1
  clear b1
  cases hn : netOk n
  · rw [wrongL_not hn]
    have R : Hid (PartsOk n []) := parts_bad hn
    clear hn
    go_wp2
    go_ret
    exact ⟨_, [], rfl, R.out, ⟨none, 0, 0, rfl, rfl, by omega, ⟨by omega, by omega, fun _ => rfl⟩, fun j hj => absurd hj (by simp)⟩, c⟩
  · rw [wrongL_ok hn]
    have Hn : Hid (netOk n = true) := hn
    obtain ⟨tv', e, hT⟩ := id hv
    obtain rfl : tv = tv' := by injection e with e; simp at e; exact e
    clear e hn
    have h24 : n.trans.length ≤ 24 := by
      have hn := Hn.out
      unfold netOk headOk at hn
      simp only [Bool.and_eq_true, decide_eq_true_eq] at hn
      omega
    obtain ⟨x0, x1, x2⟩ := id hbx
    obtain ⟨a0, len, cap0, rfl, hlen, _⟩ := id hT
    go_wp2_with fail
    refine (firsts_any _ n w1 (by exact hT) Hn.out).mono ?_
    rintro e w2 ⟨r, zs, rfl, hO, hzl, hF⟩
    have HM : Hid (HeadMid n n.trans.length 0 0 (nth zs)) := fst_head hF
    have HP : Hid (PartsOk n (heads (nth zs) n.trans.length n.trans.length)) := heads_parts Hn.out HM.out
    have HW : Hid (∀ k, k < n.trans.length → (withHead (nth zs) (k : Int) n.trans.length ≠ [] ↔ nth zs k = k)) := fun k hk => withHead_self HM.out hk
    have hI := hO.ints (by omega)
    have b2 := hO.2.1
    rw [hlen] at hzl HP HW h24
    replace c := below_then c b2
    have Hzl : Hid (zs.length = len) := hzl
    clear hF HM hO b2 hT hv hbx x0 x1 x2 hlen
    obtain ⟨fa, fl, fc, rfl, hfl, _, _, _⟩ := id hI
    obtain rfl : fl = len := by omega
    clear hfl hzl
    have L0 : LsOut w2.heap.size w2 w2 (.slice none 0 0) [] := LsOut.start _ (Below.refl _ _) (Nat.le_refl _)
    go_wp2_with fail
    go_loopg [4, 15] fl (fun gk o a' wr => ∃ (a : Nat) (cs : List (Value × List Int)), a + gk = fl ∧ a' = .int .i64 (a : Int) ∧ LsOut w2.heap.size w2 wr o cs ∧ Hid (cs.map (·.2) = heads (nth zs) fl a))
    case atStart => exact ⟨0, [], by omega, rfl, L0, rfl⟩
    case round =>
      clear L0
      obtain ⟨a, cs, hag, rfl, hL, HC⟩ := hrel
      obtain ⟨oa, ol, oc, rfl⟩ := hL.slice
      have Hcl : Hid (cs.length ≤ a) := by
        have h1 := heads_le (nth zs) fl a
        have h2 := congrArg List.length HC.out
        rw [List.length_map] at h2
        show _ ≤ _
        omega
      by_cases han : a < fl
      · have hIw := hI.below hL.below
        obtain ⟨b, off, rfl, _, cm⟩ := ints_atL hIw han
        have HNo : Hid (withHead (nth zs) a fl = [] → heads (nth zs) fl (a + 1) = heads (nth zs) fl a) := fun q => heads_none q
        have HYe : Hid (withHead (nth zs) a fl ≠ [] → heads (nth zs) fl (a + 1) = heads (nth zs) fl a ++ [withHead (nth zs) a fl]) := fun q => heads_some q
        have HWa := HW.out a han
        have HWa : Hid _ := HWa
        obtain ⟨x, Hx⟩ : ∃ x, Hid (nth zs a = x) := ⟨_, rfl⟩
        rw [Hx.out] at cm HWa
        clear Hx
        by_cases hx : (a : Int) = x
        · subst hx
          have R : Hid _ := HYe.out (HWa.out.2 rfl)
          clear HNo HYe HWa
          go_wp2_with (first | (go_at_call 30; refine (part_any _ zs _ wr (by exact hIw)).mono ?_; rintro e w5 ⟨r5, rfl, hO5⟩; rw [Hzl.out] at hO5; obtain ⟨a5, l5, c5, rfl⟩ := hO5.slice; have hl5 := withHead_le (nth zs) (a : Int) fl; have hcl := Hcl.out; have hL2 := hL.to hO5.2.1; have hon := (hO5.on (by omega)).weaken (D' := fun k => w2.heap.size ≤ k ∧ some k ≠ (Value.slice oa ol oc).ownBlock) (fun k _ hk => ⟨Nat.le_trans hL.size hk, fun q => (by have := (ownsRow_lt hL.own q.symm).2; omega)⟩)) | (at_builtin; refine wp_append_ls rfl _ _ rfl w2.heap.size w2 _ _ cs _ _ _ _ hL2 hon rfl rfl (by omega) ?_; intro v' w6 hO6 hB6))
          go_roundg (gk - 1)
          case measure => omega
          case rel => exact ⟨a + 1, _, by omega, by go_num, hO6, (by rw [R.out, List.map_append, HC.out]; rfl)⟩
        · have R : Hid _ := HNo.out (Classical.byContradiction fun q => hx (HWa.out.1 q).symm)
          have e1 : ((a : Int) == x) = false := by rw [beq_eq_false_iff_ne]; exact hx
          clear HNo HYe HWa hx
          go_wp2
          go_roundg (gk - 1)
          case measure => omega
          case rel => exact ⟨a + 1, cs, by omega, by go_num, hL, HC.out.trans R.out.symm⟩
      · obtain rfl : a = fl := by omega
        have hLs := hL.lists (by have := Hcl.out; omega)
        rw [HC.out] at hLs
        have B2 := below_then c hL.below
        clear hL
        go_wp2
        go_ret
        exact ⟨_, _, rfl, HP.out, hLs, B2⟩

end Go.Proofs.Ytgedpebnipghlaa

/- The small trial of package choice that the laws make first: it answers true. -/
namespace Go.Proofs.Ytgedpebnipghlaa
open Go.RowKit
set_option linter.unusedVariables false
set_option maxRecDepth 4000

def net14 : NetL := ⟨3, [⟨0, [1, 0, 0], [0, 1, 0]⟩, ⟨0, [0, 1, 0], [0, 0, 1]⟩, ⟨0, [1, 0, 1], [0, 0, 1]⟩]⟩

theorem lit_net14 (w W : World) (hW : W = (((((((w.alloc (.cells #[.int .i64 1, .int .i64 0, .int .i64 0] 3)).alloc (.cells #[.int .i64 0, .int .i64 1, .int .i64 0] 3)).alloc (.cells #[.int .i64 0, .int .i64 1, .int .i64 0] 3)).alloc (.cells #[.int .i64 0, .int .i64 0, .int .i64 1] 3)).alloc (.cells #[.int .i64 1, .int .i64 0, .int .i64 1] 3)).alloc (.cells #[.int .i64 0, .int .i64 0, .int .i64 1] 3)).alloc (.cells #[.int .i64 0, .slice (some ⟨w.heap.size, 0, none⟩) 3 3, .slice (some ⟨w.heap.size + 1, 0, none⟩) 3 3, .int .i64 0, .slice (some ⟨w.heap.size + 1 + 1, 0, none⟩) 3 3, .slice (some ⟨w.heap.size + 1 + 1 + 1, 0, none⟩) 3 3, .int .i64 0, .slice (some ⟨w.heap.size + 1 + 1 + 1 + 1, 0, none⟩) 3 3, .slice (some ⟨w.heap.size + 1 + 1 + 1 + 1 + 1, 0, none⟩) 3 3] 44))) : Trans W (.slice (some ⟨w.heap.size + 1 + 1 + 1 + 1 + 1 + 1, 0, none⟩) 3 3) net14.trans ∧ Below w.heap.size w W ∧ W.heap.size = w.heap.size + 1 + 1 + 1 + 1 + 1 + 1 + 1 := by
  have b0 := below_new w (.cells #[.int .i64 1, .int .i64 0, .int .i64 0] 3)
  have i0 : Ints (w.alloc (.cells #[.int .i64 1, .int .i64 0, .int .i64 0] 3)) (.slice (some ⟨w.heap.size, 0, none⟩) 3 3) [1, 0, 0] := ints_lit w _ [1, 0, 0] 3 3 rfl (by omega) rfl
  generalize hw0 : w.alloc (.cells #[.int .i64 1, .int .i64 0, .int .i64 0] 3) = w0 at b0 i0 hW
  have s0 : w0.heap.size = w.heap.size + 1 := by rw [← hw0]; simp
  clear hw0
  have b1 := below_new w0 (.cells #[.int .i64 0, .int .i64 1, .int .i64 0] 3)
  have i1 : Ints (w0.alloc (.cells #[.int .i64 0, .int .i64 1, .int .i64 0] 3)) (.slice (some ⟨w.heap.size + 1, 0, none⟩) 3 3) [0, 1, 0] := ints_lit w0 _ [0, 1, 0] 3 3 rfl (by omega) s0.symm
  generalize hw1 : w0.alloc (.cells #[.int .i64 0, .int .i64 1, .int .i64 0] 3) = w1 at b1 i1 hW
  have s1 : w1.heap.size = w.heap.size + 1 + 1 := by rw [← hw1]; simp [s0]
  clear hw1
  replace i0 := i0.below b1
  have b2 := below_new w1 (.cells #[.int .i64 0, .int .i64 1, .int .i64 0] 3)
  have i2 : Ints (w1.alloc (.cells #[.int .i64 0, .int .i64 1, .int .i64 0] 3)) (.slice (some ⟨w.heap.size + 1 + 1, 0, none⟩) 3 3) [0, 1, 0] := ints_lit w1 _ [0, 1, 0] 3 3 rfl (by omega) s1.symm
  generalize hw2 : w1.alloc (.cells #[.int .i64 0, .int .i64 1, .int .i64 0] 3) = w2 at b2 i2 hW
  have s2 : w2.heap.size = w.heap.size + 1 + 1 + 1 := by rw [← hw2]; simp [s1]
  clear hw2
  replace i0 := i0.below b2
  replace i1 := i1.below b2
  have b3 := below_new w2 (.cells #[.int .i64 0, .int .i64 0, .int .i64 1] 3)
  have i3 : Ints (w2.alloc (.cells #[.int .i64 0, .int .i64 0, .int .i64 1] 3)) (.slice (some ⟨w.heap.size + 1 + 1 + 1, 0, none⟩) 3 3) [0, 0, 1] := ints_lit w2 _ [0, 0, 1] 3 3 rfl (by omega) s2.symm
  generalize hw3 : w2.alloc (.cells #[.int .i64 0, .int .i64 0, .int .i64 1] 3) = w3 at b3 i3 hW
  have s3 : w3.heap.size = w.heap.size + 1 + 1 + 1 + 1 := by rw [← hw3]; simp [s2]
  clear hw3
  replace i0 := i0.below b3
  replace i1 := i1.below b3
  replace i2 := i2.below b3
  have b4 := below_new w3 (.cells #[.int .i64 1, .int .i64 0, .int .i64 1] 3)
  have i4 : Ints (w3.alloc (.cells #[.int .i64 1, .int .i64 0, .int .i64 1] 3)) (.slice (some ⟨w.heap.size + 1 + 1 + 1 + 1, 0, none⟩) 3 3) [1, 0, 1] := ints_lit w3 _ [1, 0, 1] 3 3 rfl (by omega) s3.symm
  generalize hw4 : w3.alloc (.cells #[.int .i64 1, .int .i64 0, .int .i64 1] 3) = w4 at b4 i4 hW
  have s4 : w4.heap.size = w.heap.size + 1 + 1 + 1 + 1 + 1 := by rw [← hw4]; simp [s3]
  clear hw4
  replace i0 := i0.below b4
  replace i1 := i1.below b4
  replace i2 := i2.below b4
  replace i3 := i3.below b4
  have b5 := below_new w4 (.cells #[.int .i64 0, .int .i64 0, .int .i64 1] 3)
  have i5 : Ints (w4.alloc (.cells #[.int .i64 0, .int .i64 0, .int .i64 1] 3)) (.slice (some ⟨w.heap.size + 1 + 1 + 1 + 1 + 1, 0, none⟩) 3 3) [0, 0, 1] := ints_lit w4 _ [0, 0, 1] 3 3 rfl (by omega) s4.symm
  generalize hw5 : w4.alloc (.cells #[.int .i64 0, .int .i64 0, .int .i64 1] 3) = w5 at b5 i5 hW
  have s5 : w5.heap.size = w.heap.size + 1 + 1 + 1 + 1 + 1 + 1 := by rw [← hw5]; simp [s4]
  clear hw5
  replace i0 := i0.below b5
  replace i1 := i1.below b5
  replace i2 := i2.below b5
  replace i3 := i3.below b5
  replace i4 := i4.below b5
  have bz := below_new w5 (.cells #[.int .i64 0, .slice (some ⟨w.heap.size, 0, none⟩) 3 3, .slice (some ⟨w.heap.size + 1, 0, none⟩) 3 3, .int .i64 0, .slice (some ⟨w.heap.size + 1 + 1, 0, none⟩) 3 3, .slice (some ⟨w.heap.size + 1 + 1 + 1, 0, none⟩) 3 3, .int .i64 0, .slice (some ⟨w.heap.size + 1 + 1 + 1 + 1, 0, none⟩) 3 3, .slice (some ⟨w.heap.size + 1 + 1 + 1 + 1 + 1, 0, none⟩) 3 3] 44)
  replace i0 := i0.below bz
  replace i1 := i1.below bz
  replace i2 := i2.below bz
  replace i3 := i3.below bz
  replace i4 := i4.below bz
  replace i5 := i5.below bz
  have bb := below_then b0 (below_then b1 (below_then b2 (below_then b3 (below_then b4 (below_then b5 (bz))))))
  rw [hW]
  refine ⟨⟨_, _, _, rfl, rfl, by omega, ⟨by omega, by omega, fun h => by cases h⟩, fun j hj => ?_⟩, bb, by simp [s5]⟩
  match j, hj with
  | 0, _ => exact ⟨_, 0, _, _, rfl, by simp [s5], by rw [World.cell?_alloc_at _ _ _ _ s5.symm]; rfl, by rw [World.cell?_alloc_at _ _ _ _ s5.symm]; rfl, by rw [World.cell?_alloc_at _ _ _ _ s5.symm]; rfl, i0, i1⟩
  | 1, _ => exact ⟨_, 0, _, _, rfl, by simp [s5], by rw [World.cell?_alloc_at _ _ _ _ s5.symm]; rfl, by rw [World.cell?_alloc_at _ _ _ _ s5.symm]; rfl, by rw [World.cell?_alloc_at _ _ _ _ s5.symm]; rfl, i2, i3⟩
  | 2, _ => exact ⟨_, 0, _, _, rfl, by simp [s5], by rw [World.cell?_alloc_at _ _ _ _ s5.symm]; rfl, by rw [World.cell?_alloc_at _ _ _ _ s5.symm]; rfl, by rw [World.cell?_alloc_at _ _ _ _ s5.symm]; rfl, i4, i5⟩
  | j + 3, h => exact absurd (show j + 3 < 3 from h) (by omega)

theorem lit_net14_b (w W : World) (hT : Trans W (.slice (some ⟨w.heap.size + 1 + 1 + 1 + 1 + 1 + 1, 0, none⟩) 3 3) net14.trans) (hb : Below w.heap.size w W) (hs : W.heap.size = w.heap.size + 1 + 1 + 1 + 1 + 1 + 1 + 1) :
    ∃ b a, Value.pointer (some ⟨w.heap.size + 1 + 1 + 1 + 1 + 1 + 1 + 1, 0, none⟩) = .pointer (some ⟨b, 0, none⟩) ∧ Box2 (W.alloc (.cells #[.int .i64 3, .slice (some ⟨w.heap.size + 1 + 1 + 1 + 1 + 1 + 1, 0, none⟩) 3 3] 24)) b (.int .i64 3) (.slice a 3 3) ∧ Net (W.alloc (.cells #[.int .i64 3, .slice (some ⟨w.heap.size + 1 + 1 + 1 + 1 + 1 + 1, 0, none⟩) 3 3] 24)) (.agg #[.int .i64 3, .slice a 3 3]) net14 ∧ Below w.heap.size w (W.alloc (.cells #[.int .i64 3, .slice (some ⟨w.heap.size + 1 + 1 + 1 + 1 + 1 + 1, 0, none⟩) 3 3] 24)) := by
  have b1 := below_new W (.cells #[.int .i64 3, .slice (some ⟨w.heap.size + 1 + 1 + 1 + 1 + 1 + 1, 0, none⟩) 3 3] 24)
  have hx := box2_new W (.int .i64 3) (.slice (some ⟨w.heap.size + 1 + 1 + 1 + 1 + 1 + 1, 0, none⟩) 3 3) 24
  rw [hs] at hx
  exact ⟨_, _, rfl, hx, ⟨_, rfl, hT.below b1⟩, below_then hb b1⟩

def net14' : NetL := ⟨3, [⟨0, [1, 0, 0], [0, 1, 0]⟩, ⟨0, [0, 1, 0], [0, 0, 1]⟩]⟩
theorem net14_not : ¬ FreeN net14 := fun h => by
  have := h.2 0 2 (by decide) (by decide) ⟨0, by decide, by decide⟩
  revert this; decide
theorem net14_shares {i j : Nat} (hi : i < 3) (hj : j < 3) (h : Shares net14 i j) : (i = 1 ↔ j = 1) := by
  obtain ⟨p, h1, h2⟩ := h
  have hp : p < 3 := by
    rcases Nat.lt_or_ge p 3 with h | h
    · exact h
    · rw [nth_past _ _ (by
        obtain rfl | rfl | rfl : i = 0 ∨ i = 1 ∨ i = 2 := by omega
        all_goals exact h)] at h1
      omega
  obtain rfl | rfl | rfl : i = 0 ∨ i = 1 ∨ i = 2 := by omega
  all_goals obtain rfl | rfl | rfl : j = 0 ∨ j = 1 ∨ j = 2 := by omega
  all_goals obtain rfl | rfl | rfl : p = 0 ∨ p = 1 ∨ p = 2 := by omega
  all_goals first | (revert h1 h2; decide) | omega
theorem net14_free : FreeN net14' := by
  refine ⟨by decide, fun i j hi hj hs => ?_⟩
  have hi : i < 2 := hi
  have hj : j < 2 := hj
  have key := net14_shares (i := i) (j := j) (by omega) (by omega) (by
    obtain ⟨p, h1, h2⟩ := hs
    refine ⟨p, ?_, ?_⟩
    · obtain rfl | rfl : i = 0 ∨ i = 1 := by omega
      all_goals exact h1
    · obtain rfl | rfl : j = 0 ∨ j = 1 := by omega
      all_goals exact h2)
  obtain rfl | rfl : i = 0 ∨ i = 1 := by omega
  all_goals obtain rfl | rfl : j = 0 ∨ j = 1 := by omega
  all_goals first | rfl | omega
theorem net14_led {a b : Nat} (ha : a < 3) (hb : b < 3) : Led net14 a b ↔ (a = 1 ↔ b = 1) := by
  constructor
  · intro h
    exact h (fun x => (a = 1 ↔ x = 1)) Iff.rfl fun x y hx hy h1 hs => h1.trans (net14_shares hx hy hs)
  · intro h
    have s02 : Led net14 0 2 := (Led.here net14 0).step (by decide) (by decide) ⟨0, by decide, by decide⟩
    obtain rfl | rfl | rfl : a = 0 ∨ a = 1 ∨ a = 2 := by omega
    all_goals obtain rfl | rfl | rfl : b = 0 ∨ b = 1 ∨ b = 2 := by omega
    all_goals first | exact Led.here _ _ | exact s02 | exact s02.symm | (exfalso; omega)
theorem net14_parts : PartsOk net14 [[0, 2], [1]] := by
  refine ⟨fun h => (by revert h; decide), fun l hl => ?_, fun l hl => ?_, by simp, fun l hl t ht => ?_, fun _ k hk => ?_⟩
  · simp at hl; rcases hl with rfl | rfl <;> simp
  · simp at hl; rcases hl with rfl | rfl <;> simp
  · have lit : (∀ u : Nat, (u : Int) ∈ ([0, 2] : List Int) ↔ u = 0 ∨ u = 2) ∧ (∀ u : Nat, (u : Int) ∈ ([1] : List Int) ↔ u = 1) := by
      constructor
      · intro u; simp; omega
      · intro u; simp; omega
    simp at hl
    rcases hl with rfl | rfl
    · obtain rfl | rfl : t = 0 ∨ t = 2 := by simpa using ht
      · refine ⟨by omega, by decide, fun u hu => ?_⟩
        have hu : u < 3 := hu
        rw [lit.1, show Int.toNat 0 = 0 from rfl, net14_led (by omega) hu]; omega
      · refine ⟨by omega, by decide, fun u hu => ?_⟩
        have hu : u < 3 := hu
        rw [lit.1, show Int.toNat 2 = 2 from rfl, net14_led (by omega) hu]; omega
    · obtain rfl : t = 1 := by simpa using ht
      refine ⟨by omega, by decide, fun u hu => ?_⟩
      have hu : u < 3 := hu
      rw [lit.2, show Int.toNat 1 = 1 from rfl, net14_led (by omega) hu]; omega
  · have hk : k < 3 := hk
    obtain rfl | rfl | rfl : k = 0 ∨ k = 1 ∨ k = 2 := by omega
    · exact ⟨[0, 2], by simp, by simp⟩
    · exact ⟨[1], by simp, by simp⟩
    · exact ⟨[0, 2], by simp, by simp⟩

theorem Net.trans_of {w : World} {x tv : Value} {n : NetL} (h : Net w (.agg #[x, tv]) n) : Trans w tv n.trans := by
  obtain ⟨tv', e, hT⟩ := h
  injection e with e
  have e2 := congrArg (fun a : Array Value => a[1]?) e
  simp at e2
  rw [e2]; exact hT

theorem trans_two {w : World} {a : Option Addr} {cap : Nat} {ts : List TranL} {x y z : TranL} (h : Trans w (.slice a 3 cap) [x, y, z]) : Trans w (.slice a 2 cap) [x, y] := by
  obtain ⟨a', l', c', e, hl, hm, hs, hr⟩ := h
  injection e with e1 e2 e3
  subst e1 e2 e3
  refine ⟨_, _, _, rfl, rfl, by omega, ⟨by have := hs.1; omega, hs.2.1, hs.2.2⟩, fun j hj => ?_⟩
  have hj : j < 2 := hj
  have := hr j (by simp; omega)
  obtain rfl | rfl : j = 0 ∨ j = 1 := by omega
  · exact this
  · exact this

set_option maxHeartbeats 2000000 in
theorem alive14_any (w : World) : Calls Try.prog 13 #[] w fun e w' => e = .returned (.bool true) ∧ Below w.heap.size w w' := by
  obtain ⟨hT, hb, hs⟩ := lit_net14 w _ rfl
  go_enter Try.func13, Try.ntmps13
  go_upto_region 1 with fail
  go_cut [1] (fun p wc => ∃ b a, p = .pointer (some ⟨b, 0, none⟩) ∧ Box2 wc b (.int .i64 3) (.slice a 3 3) ∧ Net wc (.agg #[.int .i64 3, .slice a 3 3]) net14 ∧ Below w.heap.size w wc)
  case first =>
    have HT : Hid _ := hT
    have HB : Hid _ := hb
    have HS : Hid _ := hs
    clear hT hb hs
    go_wp2_with fail
    go_meet
    exact lit_net14_b w _ HT.out HB.out HS.out
  case rest =>
    clear hT hb hs
    obtain ⟨bk, a, rfl, hbx, hv, c⟩ := hcut
    obtain ⟨w0, rfl⟩ : ∃ w0, w0 = wc := ⟨_, rfl⟩
    obtain ⟨x0, x1, x2⟩ := id hbx
    go_wp2_with fail
    refine (choice_free _ net14 w0 (by exact hv)).mono ?_
    rintro e w1 ⟨b, rfl, hb, b1⟩
    obtain rfl : b = false := by cases b with
      | false => rfl
      | true => exact absurd (hb.1 rfl) net14_not
    replace hv := hv.below b1
    replace hbx := hbx.below b1
    replace c := below_then c b1
    clear b1 x0 x1 x2 hb
    obtain ⟨x0, x1, x2⟩ := id hbx
    have hv2 : Net w1 (.agg #[.int .i64 3, .slice a 2 3]) net14' := ⟨_, rfl, trans_two (ts := []) hv.trans_of⟩
    go_wp2_with fail
    refine (choice_free _ net14' w1 (by exact hv2)).mono ?_
    rintro e w2 ⟨b, rfl, hb, b1⟩
    obtain rfl : b = true := hb.2 net14_free
    replace hv := hv.below b1
    replace hbx := hbx.below b1
    replace c := below_then c b1
    clear b1 x0 x1 x2 hb hv2
    obtain ⟨x0, x1, x2⟩ := id hbx
    go_wp2_with fail
    refine (choice_clusters _ net14 w2 (by exact hv)).mono ?_
    rintro e w3 ⟨r, ls, rfl, hp, hL, b1⟩
    obtain rfl := hp.unique net14_parts
    replace c := below_then c b1
    clear b1 x0 x1 x2 hp hbx hv
    have n1 := below_new w3 (.cells #[.int .i64 0, .int .i64 2] 3)
    have i1 := ints_lit w3 _ [0, 2] 3 2 rfl (by omega) rfl
    obtain ⟨w4, H4⟩ : ∃ w4, Hid (w3.alloc (.cells #[.int .i64 0, .int .i64 2] 3) = w4) := ⟨_, rfl⟩
    have i1 : Ints w4 (.slice (some ⟨w3.heap.size, 0, none⟩) 2 2) [0, 2] := by rw [← H4.out]; exact i1
    have n2 := below_new w4 (.cells #[.int .i64 1] 3)
    have e4 : w4.heap.size = w3.heap.size + 1 := by rw [← H4.out]; simp
    have i2 : Ints (w4.alloc (.cells #[.int .i64 1] 3)) (.slice (some ⟨w3.heap.size + 1, 0, none⟩) 1 1) [1] := ints_lit w4 _ [1] 3 1 rfl (by omega) e4.symm
    have e5 : (w4.alloc (.cells #[.int .i64 1] 3)).heap.size = w3.heap.size + 1 + 1 := by simp [e4]
    have hL2 := lists_lit2 (w4.alloc (.cells #[.int .i64 1] 3)) (w3.heap.size + 1 + 1) _ _ [0, 2] [1] 29 (i1.below n2) i2 e5.symm
    have n3 := below_new (w4.alloc (.cells #[.int .i64 1] 3)) (.cells #[.slice (some ⟨w3.heap.size, 0, none⟩) 2 2, .slice (some ⟨w3.heap.size + 1, 0, none⟩) 1 1] 29)
    rw [← H4.out] at n2 n3 hL2
    have bb := below_then n1 (below_then n2 n3)
    clear i1 i2 e4 e5 n1 n2 n3 H4
    go_wp2_with fail
    refine (samelists_same _ _ [[0, 2], [1]] _ (by exact hL.below bb) (by exact hL2)).mono ?_
    rintro e w6 ⟨rfl, b1⟩
    replace c := below_then c (below_then bb b1)
    clear b1 bb hL hL2
    go_wp2
    go_ret
    exact ⟨rfl, c⟩

end Go.Proofs.Ytgedpebnipghlaa

/- Package shape as it landed: where a way can go on. -/
namespace Go.Proofs.Ytgedpebnipghlaa
open Go.RowKit
set_option linter.unusedVariables false
set_option maxRecDepth 4000

/-- The cells of some stops. -/
def stopCells (l : List Stop) : List Value := l.flatMap fun s => [.bool s.1, .int .i64 (s.2 : Int)]
theorem stopCells_append (l m : List Stop) : stopCells (l ++ m) = stopCells l ++ stopCells m := by simp [stopCells]
theorem stopCells_at (l : List Stop) (j : Nat) (h : j < l.length) : (stopCells l)[j * 2]? = some (.bool l[j].1) ∧ (stopCells l)[j * 2 + 1]? = some (.int .i64 (l[j].2 : Int)) := by
  induction l generalizing j with
  | nil => simp at h
  | cons x r ih =>
    have ec : stopCells (x :: r) = .bool x.1 :: .int .i64 (x.2 : Int) :: stopCells r := rfl
    match j, h with
    | 0, _ => exact ⟨rfl, rfl⟩
    | j + 1, h =>
      obtain ⟨q1, q2⟩ := ih j (by simpa using h)
      rw [ec, show (j + 1) * 2 = j * 2 + 2 by omega]
      exact ⟨q1, q2⟩

/-- A slice of these stops. -/
def Stops (w : World) (v : Value) (l : List Stop) : Prop :=
  ∃ a cap, v = .slice a l.length cap ∧ ∀ j (hj : j < l.length), ∃ b off, a = some ⟨b, off, none⟩ ∧ w.cell? ⟨b, off + j * 2, none⟩ = some (.bool l[j].1) ∧ w.cell? ⟨b, off + j * 2 + 1, none⟩ = some (.int .i64 (l[j].2 : Int))

theorem two_boxes (w W : World) (x y x' y' : Value) (t t' : TypeId) (h : (w.alloc (.cells #[x, y] t)).alloc (.cells #[x', y'] t') = W) :
    Below w.heap.size w W ∧ Box2 W w.heap.size x y ∧ Box2 W (w.heap.size + 1) x' y' := by
  obtain ⟨h1, h2, h3, _⟩ := two_new w W x y x' y' t t' h
  exact ⟨h1, h2, h3⟩

end Go.Proofs.Ytgedpebnipghlaa
