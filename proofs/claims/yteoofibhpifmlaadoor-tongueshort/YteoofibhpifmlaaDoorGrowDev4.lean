/- Package grow as it landed: side by side. -/
import Derived.Test.YteoofibhpifmlaaDoorGrowDev3
import Derived.Test.YteoofibhpifmlaaDoorSmallAll
import Derived.Deep.RegionHeld3
namespace Go.Proofs.YteoofibhpifmlaaDoor
open Go.RowKit
set_option linter.unusedVariables false
set_option maxRecDepth 4000
set_option linter.unusedSimpArgs false

theorem wp_append_intR {ops : Array Oper} {rest : List Oper} {o : Oper} {a : Act} {Q : Exit → Act → World → Prop} (hgd : o.guard = none) (s x : Operand)
    (ho : o.op = .call { callee := .builtin .append, args := #[s, x], argTypes := #[25, 25] }) (B : Nat) (wr : World) (v : Value) (n : Nat) (xs : List Value) (z : Int)
    (hown : wr.ownsRow B 3 1 v n xs) (hs : a.eval s = v) (hx : a.eval x = .slice (some ⟨wr.heap.size, 0, none⟩) 1 1) (hl : n ≤ 1000000) (hB : B ≤ wr.heap.size)
    (h : ∀ v' w', w'.ownsRow B 3 1 v' (n + 1) (xs ++ [.int .i64 z]) → (wr.alloc (.cells #[.int .i64 z] 3)).grownBy w' v.ownBlock →
      (v'.ownBlock = v.ownBlock ∨ v'.ownBlock = some (wr.alloc (.cells #[.int .i64 z] 3)).heap.size) → wpList Tryd.prog ops Q rest (a.put o.dst v') w') :
    wpList Tryd.prog ops Q (o :: rest) a (wr.alloc (.cells #[.int .i64 z] 3)) := by
  obtain ⟨i0, hi, hz0, hz1, hz2⟩ := info_parts info_int
  refine wpList_append_own_at _ hgd s x 25 ho B 3 i0 _ 1 8 Tryd.underlying25 hi hz0 hz1 hz2 rfl (by decide) v n _ hs (hown.alloc _) ⟨wr.heap.size, 0, none⟩ 1 1 [.int .i64 z] hx rfl (cell_one_new _ _ _) ?_ ?_ ?_ ?_ ?_
  · intro u hu; simp at hu; subst hu; rfl
  · unfold maxLen; omega
  · omega
  · simp; omega
  · intro v' w' h1 h2 _ h3
    exact h v' w' h1 h2 h3

/-- A place more, where it lies. -/
theorem place_at {x n : Nat} {w : World} {lv : Value} (hc : w.heap[x]? = some (.cells #[.int .i64 (n : Int), lv] 94 (0, 0))) (hn : n < 16) :
    Calls Tryd.prog 93 #[.pointer (some ⟨x, 0, none⟩)] w fun e w' => e = .returned (.int .i64 (n : Int)) ∧ w' = w.setCell ⟨x, 0, none⟩ (.int .i64 ((n : Int) + 1)) := by
  have d0 : w.cell? ⟨x, 0, none⟩ = some (.int .i64 (n : Int)) := by simp [World.cell?, hc]
  have f0 : w.frozen? ⟨x, 0, none⟩ = false := by simp [World.frozen?, hc]
  have hn' : ((n : Int) == 16) = false := by rw [beq_eq_false_iff_ne]; omega
  go_enter Tryd.func93, Tryd.ntmps93
  go_wp2
  go_ret
  exact ⟨rfl, rfl⟩
theorem place_full {x : Nat} {w : World} {lv : Value} (hc : w.heap[x]? = some (.cells #[.int .i64 16, lv] 94 (0, 0))) :
    Calls Tryd.prog 93 #[.pointer (some ⟨x, 0, none⟩)] w fun e w' => e = .panicked fullP ∧ w' = w := by
  have d0 : w.cell? ⟨x, 0, none⟩ = some (.int .i64 16) := by simp [World.cell?, hc]
  go_enter Tryd.func93, Tryd.ntmps93
  go_wp2
  exact ⟨rfl, rfl, rfl⟩

theorem GrowAt.move {B x n : Nat} {W w w' : World} {g : GrowL} {lv : Value} {us vs : List Value} (h : GrowAt B x W w g lv us vs) (hO : OnlyB x w w') (hc : w'.heap[x]? = some (.cells #[.int .i64 (n : Int), lv] 94 (0, 0))) :
    GrowAt B x W w' ⟨n, g.links⟩ lv us vs ∧ Keeps w (mineG x lv) w' (mineG x lv) := by
  have hK : Keeps w (mineG x lv) w' (mineG x lv) := ⟨hO.size, fun k hk hn => ⟨hO.block k hk (fun e => hn (.inl e)), hn⟩⟩
  exact ⟨⟨((ownsRow_on h.row).to hO.size fun k hk q => hO.block k hk (fun e => h.ap (e ▸ q.1))).now, hc, h.below.trans (hO.below.mono h.hx), h.hx, h.ap, h.lenU, h.lenV, fun j hj => ⟨hK.on (h.els j hj).1, hK.on (h.els j hj).2⟩⟩, hK⟩

/-- Ins and outs while they are made. -/
structure DoorsAt (x n0 : Nat) (lv : Value) (w wr : World) (n : Nat) (iv ov : Value) (ki ko : Nat) : Prop where
  only : OnlyB x w wr
  lt : x < w.heap.size
  cells : wr.heap[x]? = some (.cells #[.int .i64 (n : Int), lv] 94 (0, 0))
  ins : wr.ownsRow w.heap.size 3 1 iv ki ((intsN (insG ki n0)).map (Value.int .i64))
  outs : wr.ownsRow w.heap.size 3 1 ov ko ((intsN (outsG ko n0)).map (Value.int .i64))
  apart : ∀ k, iv.ownBlock = some k → ov.ownBlock ≠ some k

section
variable {x n0 n ki ko : Nat} {lv iv ov : Value} {w wr : World}

theorem DoorsAt.to {w' : World} (h : DoorsAt x n0 lv w wr n iv ov ki ko) (hb : Below wr.heap.size wr w') : DoorsAt x n0 lv w w' n iv ov ki ko := by
  have hlt := (Array.getElem?_eq_some_iff.1 h.cells).1
  exact ⟨h.only.trans ⟨hb.mono (Nat.le_of_lt hlt), hb.size, fun k hk _ => hb.block k hk⟩, h.lt, by rw [hb.block x hlt]; exact h.cells, ((ownsRow_on h.ins).below hb).now, ((ownsRow_on h.outs).below hb).now, h.apart⟩
theorem DoorsAt.base (h : DoorsAt x n0 lv w wr n iv ov ki ko) : w.heap.size ≤ wr.heap.size := h.only.size
theorem DoorsAt.place (h : DoorsAt x n0 lv w wr n iv ov ki ko) (m : Nat) : DoorsAt x n0 lv w (wr.setCell ⟨x, 0, none⟩ (.int .i64 (m : Int))) m iv ov ki ko := by
  refine ⟨h.only.trans (OnlyB.set x 0 wr _), h.lt, by rw [setCell_blockK h.cells]; rfl, ?_, ?_, h.apart⟩
  · exact ((ownsRow_on h.ins).set (a := ⟨x, 0, none⟩) (fun e => by have := h.lt; have := e.2; simp at this; omega) _).now
  · exact ((ownsRow_on h.outs).set (a := ⟨x, 0, none⟩) (fun e => by have := h.lt; have := e.2; simp at this; omega) _).now
theorem insG_last (k n : Nat) : insG (k + 1) n = insG k n ++ [n + 2 * k] := by simp [insG, List.range_succ]
theorem outsG_last (k n : Nat) : outsG (k + 1) n = outsG k n ++ [n + 2 * k + 1] := by simp [outsG, List.range_succ]
theorem DoorsAt.grown {wC : World} {row : Option Nat} (h : DoorsAt x n0 lv w wr n iv ov ki ko) (hg : wr.grownBy wC row) (hr : ∀ k, row = some k → w.heap.size ≤ k) : OnlyB x w wC ∧ wC.heap[x]? = some (.cells #[.int .i64 (n : Int), lv] 94 (0, 0)) := by
  have hlt := h.lt
  have hs := h.base
  have hxw : x < wr.heap.size := by omega
  refine ⟨⟨(h.only.below).grown hg (by omega) (fun k hk => by have := hr k hk; omega), Nat.le_trans h.only.size hg.size, fun k hk hne => ?_⟩, ?_⟩
  · rw [hg.block k (by omega) (fun e => by have := hr k e.symm; omega)]; exact h.only.block k hk hne
  · rw [hg.block x hxw (fun e => by have := hr x e.symm; omega)]; exact h.cells
theorem DoorsAt.addIn {wC : World} {iv' : Value} (h : DoorsAt x n0 lv w wr n iv ov ki ko) (hown : wC.ownsRow w.heap.size 3 1 iv' (ki + 1) ((intsN (insG ki n0)).map (Value.int .i64) ++ [.int .i64 ((n0 + 2 * ki : Nat) : Int)])) (hg : wr.grownBy wC iv.ownBlock)
    (hat : iv'.ownBlock = iv.ownBlock ∨ iv'.ownBlock = some wr.heap.size) : DoorsAt x n0 lv w wC n iv' ov (ki + 1) ko := by
  obtain ⟨h1, h2⟩ := h.grown hg (fun k hk => (ownsRow_lt h.ins hk).1)
  refine ⟨h1, h.lt, h2, by rw [insG_last]; simpa [intsN] using hown, ((ownsRow_on h.outs).grown hg fun k _ hk e => h.apart k e.symm hk.1).now, fun k hk e => ?_⟩
  rcases hat with q | q
  · exact h.apart k (by rw [← q]; exact hk) e
  · rw [q] at hk; injection hk with hk; have := (ownsRow_lt h.outs e).2; omega
theorem DoorsAt.addOut {wC : World} {ov' : Value} (h : DoorsAt x n0 lv w wr n iv ov ki ko) (hown : wC.ownsRow w.heap.size 3 1 ov' (ko + 1) ((intsN (outsG ko n0)).map (Value.int .i64) ++ [.int .i64 ((n0 + 2 * ko + 1 : Nat) : Int)])) (hg : wr.grownBy wC ov.ownBlock)
    (hat : ov'.ownBlock = ov.ownBlock ∨ ov'.ownBlock = some wr.heap.size) : DoorsAt x n0 lv w wC n iv ov' ki (ko + 1) := by
  obtain ⟨h1, h2⟩ := h.grown hg (fun k hk => (ownsRow_lt h.outs hk).1)
  refine ⟨h1, h.lt, h2, ((ownsRow_on h.ins).grown hg fun k _ hk e => h.apart k hk.1 e.symm).now, by rw [outsG_last]; simpa [intsN] using hown, fun k hk e => ?_⟩
  rcases hat with q | q
  · exact h.apart k hk (by rw [← q]; exact e)
  · rw [q] at e; injection e with e; have := (ownsRow_lt h.ins hk).2; omega
end

theorem insG_length (n x : Nat) : (insG n x).length = n := by simp [insG]
theorem outsG_length (n x : Nat) : (outsG n x).length = n := by simp [outsG]
theorem insG_at {n x k : Nat} (h : k < n) : nth (intsN (insG n x)) k = ((x + 2 * k : Nat) : Int) := by
  simp [nth, intsN, insG, List.getD, List.getElem?_map, List.getElem?_range h]
theorem outsG_at {n x k : Nat} (h : k < n) : nth (intsN (outsG n x)) k = ((x + 2 * k + 1 : Nat) : Int) := by
  simp [nth, intsN, outsG, List.getD, List.getElem?_map, List.getElem?_range h]

/-- Ins and outs are read as long as they stand. -/
theorem DoorsAt.reads {x n0 n k : Nat} {lv iv ov : Value} {w wr : World} (h : DoorsAt x n0 lv w wr n iv ov k k) (hk : k ≤ 1000000) (hm : ∀ b, w.heap.size ≤ b → ¬ mineG x lv b) :
    On (fun b => ¬ mineG x lv b) wr (fun w' => Ints w' iv (intsN (insG k n0))) ∧ On (fun b => ¬ mineG x lv b) wr (fun w' => Ints w' ov (intsN (outsG k n0))) := by
  have l1 : (intsN (insG k n0)).length = k := by rw [intsN_length, insG_length]
  have l2 : (intsN (outsG k n0)).length = k := by rw [intsN_length, outsG_length]
  constructor
  · refine ((ownsRow_on h.ins).weaken fun b _ hb => hm b hb.2).mono fun w' hw => ownsRow_ints (B := w.heap.size) (by rw [l1]; exact hw) (by omega)
  · refine ((ownsRow_on h.outs).weaken fun b _ hb => hm b hb.2).mono fun w' hw => ownsRow_ints (B := w.heap.size) (by rw [l2]; exact hw) (by omega)

theorem ints_cell_at {w : World} {b off len cap : Nat} {xs : List Int} (h : Ints w (.slice (some ⟨b, off, none⟩) len cap) xs) {j : Nat} (hj : j < xs.length) : w.cell? ⟨b, off + j, none⟩ = some (.int .i64 (nth xs j)) := by
  obtain ⟨a', len', cap', e, hl, _, _, hr⟩ := h
  injection e with e1 e2 e3
  subst e1
  obtain ⟨b', off', ha, hlt, hc⟩ := hr j hj
  injection ha with ha
  injection ha with h1 h2
  subst h1 h2
  exact hc
/-- A number of a list that is read, where it lies. -/
theorem ints_cell {w : World} {a : Option Addr} {len cap : Nat} {xs : List Int} (h : Ints w (.slice a len cap) xs) {j : Nat} (hj : j < xs.length) : ∃ b off, a = some ⟨b, off, none⟩ ∧ xs.length = len ∧ b < w.heap.size ∧ w.cell? ⟨b, off + j, none⟩ = some (.int .i64 (nth xs j)) := by
  obtain ⟨a', len', cap', e, hl, _, _, hr⟩ := h
  injection e with e1 e2 e3
  subst e1 e2 e3
  obtain ⟨b, off, ha, hlt, hc⟩ := hr j hj
  exact ⟨b, off, ha, hl, hlt, hc⟩

theorem growBoth_step {K : GrowT} {l : List BlockL} {k : Nat} (h : k < l.length) (x : Nat) (g : GrowL) : growBoth K (l.drop k) x g = growBoth K (l.drop (k + 1)) (x + 2) (K l[k] x (x + 1) g) := by
  rw [List.drop_eq_getElem_cons h]; rfl

section
variable {B x : Nat} {W w : World} {g : GrowL} {lv : Value} {us vs : List Value}

set_option maxHeartbeats 2000000 in
theorem beside_any (f : Nat) (l : List BlockL) (hk : ∀ k ∈ l, BlockGrows B x W f k) (kv : Value) (hK : KidsV W kv l) (hB : W.heap.size ≤ B) (p q : Nat) (hG : GrowAt B x W w g lv us vs) (hf : FitG g) :
    Calls Tryd.prog 70 #[.pointer (some ⟨x, 0, none⟩), kv, .int .i64 (p : Int), .int .i64 (q : Int)] w (Grew B x W w lv (putG (growBoth (growK f) l g.places (putG ⟨g.places + 2 * l.length, g.links⟩ 0 [p] (insG l.length g.places))) 0 (outsG l.length g.places) [q]) (.tuple #[])) := by
  obtain ⟨a, cap, rfl, hmx, hsh⟩ := hK.slice
  obtain ⟨m, Hm⟩ : ∃ m, Hid (l.length = m) := ⟨_, rfl⟩
  obtain ⟨n0, Hn0⟩ : ∃ n0, Hid (g.places = n0) := ⟨_, rfl⟩
  obtain ⟨T, HT⟩ : ∃ T, Hid (putG (growBoth (growK f) l g.places (putG ⟨g.places + 2 * l.length, g.links⟩ 0 [p] (insG l.length g.places))) 0 (outsG l.length g.places) [q] = T) := ⟨_, rfl⟩
  rw [HT.out]
  rw [Hm.out, Hn0.out] at HT
  rw [Hm.out] at hK hmx ⊢
  have Hle : Hid (LeG (growBoth (growK f) l n0 (putG ⟨n0 + 2 * m, g.links⟩ 0 [p] (insG m n0))) T) := by rw [← HT.out]; exact putG_le _ _ _ _
  have Hle1 : Hid (LeG (putG ⟨n0 + 2 * m, g.links⟩ 0 [p] (insG m n0)) T) := (growBoth_le (growK_le f) _ _ _).trans Hle.out
  have Hle2 : Hid (LeG ⟨n0 + 2 * m, g.links⟩ T) := (putG_le _ _ _ _).trans Hle1.out
  have Hk : Hid _ := hk
  have HG : Hid _ := hG
  have Hf : Hid _ := hf
  have HK : Hid _ := hK
  have h16 : n0 ≤ 16 := by rw [← Hn0.out]; exact hf.1
  have hD : DoorsAt x n0 lv w w n0 (.slice none 0 0) (.slice none 0 0) 0 0 := ⟨OnlyB.refl _ _, hG.lt, by rw [← Hn0.out]; exact hG.cells, World.ownsRow_nil _ _ _ _, World.ownsRow_nil _ _ _ _, fun k hk => by cases hk⟩
  have HD : Hid _ := hD
  clear hk hG hf hK hsh hD
  go_enter Tryd.func70, Tryd.ntmps70
  go_wp2_with fail
  go_loopg [8, 9, 14] m (fun gk iv ov i wr => ∃ (k : Nat), k + gk = m ∧ i = .int .i64 k ∧ n0 + 2 * k ≤ 16 ∧ Hid (DoorsAt x n0 lv w wr (n0 + 2 * k) iv ov k k))
  case atStart => exact ⟨0, by omega, rfl, by omega, HD⟩
  case round =>
    clear HD
    obtain ⟨k, hkg, rfl, hk16, HD⟩ := hrel
    by_cases hk : k < m
    · by_cases h1 : n0 + 2 * k = 16
      · have R : Hid (¬ FitG T) := Hle2.out.not fun q => by have := q.1; simp at this; omega
        have RB : Hid (Below B W wr) := HG.out.below.trans (HD.out.only.below.mono HG.out.hx)
        rw [h1] at HD
        go_wp2_with fail
        refine (place_full HD.out.cells).mono ?_
        rintro e w' ⟨rfl, rfl⟩
        go_wp2
        exact ⟨rfl, .inr ⟨R.out, rfl, RB.out⟩⟩
      · have h2 : n0 + 2 * k < 16 := by omega
        go_wp2_with fail
        refine (place_at HD.out.cells h2).mono ?_
        rintro e w1 ⟨rfl, Hw1⟩
        have hD1 := HD.out.place (n0 + 2 * k + 1)
        rw [show ((n0 + 2 * k + 1 : Nat) : Int) = ((n0 + 2 * k : Nat) : Int) + 1 by omega, ← Hw1] at hD1
        have RB1 : Hid (Below B W w1) := HG.out.below.trans (hD1.only.below.mono HG.out.hx)
        have hD2 := hD1.to (below_new w1 (.cells #[.int .i64 ((n0 + 2 * k : Nat) : Int)] 3))
        have hrow := hD1.ins
        have hbase := hD1.base
        clear Hw1 HD hD1
        obtain ⟨y, Hy⟩ : ∃ y, Hid (n0 + 2 * k = y) := ⟨_, rfl⟩
        rw [Hy.out] at hD2 ⊢
        have hkk : k ≤ 1000000 := by omega
        go_upto_region 4 with (at_builtin; refine wp_append_intR rfl _ _ rfl w.heap.size w1 _ k _ (y : Int) hrow rfl rfl hkk hbase ?_; intro iv' wC hC hgC hatC)
        have hD3 := hD2.addIn (by rw [Hy.out]; exact hC) hgC hatC
        clear hD2 hC hgC hatC hrow hbase RB1
        have RB3 : Hid (Below B W wC) := HG.out.below.trans (hD3.only.below.mono HG.out.hx)
        by_cases h3 : y + 1 = 16
        · have R : Hid (¬ FitG T) := Hle2.out.not fun q => by have := q.1; have := Hy.out; simp at *; omega
          rw [h3] at hD3
          go_wp2_with fail
          refine (place_full hD3.cells).mono ?_
          rintro e w' ⟨rfl, rfl⟩
          go_wp2
          exact ⟨rfl, .inr ⟨R.out, rfl, RB3.out⟩⟩
        · have h4 : y + 1 < 16 := by have := Hy.out; omega
          go_wp2_with fail
          refine (place_at hD3.cells h4).mono ?_
          rintro e w4 ⟨rfl, Hw4⟩
          have hD4 := hD3.place (n0 + 2 * (k + 1))
          rw [show ((n0 + 2 * (k + 1) : Nat) : Int) = ((y + 1 : Nat) : Int) + 1 by have := Hy.out; omega, ← Hw4] at hD4
          have hD5 := hD4.to (below_new w4 (.cells #[.int .i64 ((y + 1 : Nat) : Int)] 3))
          have hrow := hD4.outs
          have hbase := hD4.base
          have ey : Hid (n0 + 2 * k + 1 = y + 1) := by show _ = _; rw [Hy.out]
          have h16' : n0 + 2 * (k + 1) ≤ 16 := by have := Hy.out; omega
          clear Hw4 hD3 hD4 RB3
          obtain ⟨y1, Hy1⟩ : ∃ y1, Hid (y + 1 = y1) := ⟨_, rfl⟩
          rw [Hy1.out] at hD5 ⊢
          go_wp2_with (at_builtin; refine wp_append_intR rfl _ _ rfl w.heap.size w4 _ k _ (y1 : Int) hrow rfl rfl hkk hbase ?_; intro ov' wD hC hgC hatC)
          have HD6 : Hid _ := hD5.addOut (by rw [ey.out, Hy1.out]; exact hC) hgC hatC
          clear hD5 hC hgC hatC hrow hbase
          go_roundg (gk - 1)
          case measure => omega
          case rel => exact ⟨k + 1, by omega, by go_num, h16', HD6⟩
    · have ek : k = m := by omega
      subst ek
      have hm16 : k ≤ 1000000 := by omega
      have hnm : ∀ b, w.heap.size ≤ b → ¬ mineG x lv b := fun b hb => HG.out.notMine hb
      obtain ⟨hI, hO⟩ := HD.out.reads hm16 hnm
      obtain ⟨hG1, hK1⟩ := HG.out.move HD.out.only HD.out.cells
      have Hf1 : Hid (FitG ⟨n0 + 2 * k, g.links⟩) := ⟨hk16, Hf.out.2⟩
      have b1 := below_new wr (.cells #[.int .i64 (p : Int)] 3)
      have hP : On (fun b => ¬ mineG x lv b) (wr.alloc (.cells #[.int .i64 (p : Int)] 3)) (fun w' => Ints w' (.slice (some ⟨wr.heap.size, 0, none⟩) 1 1) (intsN [p])) :=
        (ints_lit_on wr wr.heap.size [(p : Int)] 3 1 rfl (by omega) rfl).weaken fun b _ hb => hG1.notMine (by omega)
      have hG2 := hG1.to b1
      have HK2 : Hid _ := hK1.trans (Keeps.below b1 (mineG x lv))
      replace hI := hI.below b1
      replace hO := hO.below b1
      have HDc : Hid _ := HD.out.apart
      clear HD hK1 hG1 b1
      go_wp2_with fail
      refine (tran_any hG2 Hf1.out 0 [p] (insG k n0) _ _ hP hI).mono ?_
      rintro e w3 (⟨hf3, rfl, lv3, us3, vs3, hG3, hK3⟩ | ⟨hf3, rfl, hb3⟩)
      case inr =>
        have R : Hid (¬ FitG T) := Hle1.out.not hf3
        go_wp2
        exact ⟨rfl, .inr ⟨R.out, rfl, hb3⟩⟩
      have HG3 : Hid _ := hG3
      have Hf3 : Hid _ := hf3
      have HK3 : Hid _ := HK2.out.trans hK3
      have HI3 : Hid (On (fun b => ¬ mineG x lv3 b) w3 (fun w' => Ints w' u8 (intsN (insG k n0)))) := hK3.on hI
      have HO3 : Hid (On (fun b => ¬ mineG x lv3 b) w3 (fun w' => Ints w' u9 (intsN (outsG k n0)))) := hK3.on hO
      have HT3 : Hid (putG (growBoth (growK f) (l.drop 0) n0 (putG ⟨n0 + 2 * k, g.links⟩ 0 [p] (insG k n0))) 0 (outsG k n0) [q] = T) := HT.out
      clear hG3 hf3 hK3 HK2 hI hO hP hG2 Hf1 HT Hle Hle1 Hle2
      obtain ⟨ai, li, ci, ei⟩ : ∃ ai li ci, u8 = .slice ai li ci := by obtain ⟨a1, l1, c1, e, _⟩ := HI3.out.now; exact ⟨a1, l1, c1, e⟩
      obtain ⟨ao, lo, co, eo⟩ : ∃ ai li ci, u9 = .slice ai li ci := by obtain ⟨a1, l1, c1, e, _⟩ := HO3.out.now; exact ⟨a1, l1, c1, e⟩
      subst ei eo
      go_wp2_with fail
      go_loopg [34] k (fun gk i wr => ∃ (j : Nat) (g' : GrowL) (lv' : Value) (us' vs' : List Value), j + gk = k ∧ i = .int .i64 j ∧ Hid (GrowAt B x W wr g' lv' us' vs') ∧ Hid (FitG g') ∧ Hid (Keeps w (mineG x lv) wr (mineG x lv')) ∧ Hid (On (fun b => ¬ mineG x lv' b) wr (fun w' => Ints w' (.slice ai li ci) (intsN (insG k n0)))) ∧
        Hid (On (fun b => ¬ mineG x lv' b) wr (fun w' => Ints w' (.slice ao lo co) (intsN (outsG k n0)))) ∧ Hid (putG (growBoth (growK f) (l.drop j) (n0 + 2 * j) g') 0 (outsG k n0) [q] = T))
      case atStart => exact ⟨0, _, lv3, us3, vs3, by omega, rfl, HG3, Hf3, HK3, HI3, HO3, HT3⟩
      case round =>
        clear HG3 Hf3 HK3 HI3 HO3 HT3 hkg hk16 hm16 hnm HDc hk
        obtain ⟨j, g', lv', us', vs', hjg, rfl, HG', Hf', HKR, HI, HO, HT⟩ := hrel
        by_cases hj : j < k
        · have Hjl : Hid (j < l.length) := by show j < l.length; rw [Hm.out]; exact hj
          obtain ⟨bk, off, ka, kl, kc, ea, hlt, c0, c1, c2, hkid⟩ := kid_now HG'.out hB HK.out Hjl.out
          subst ea
          have Hgr : Hid (BlockGrows B x W f (l[j]'Hjl.out)) := Hk.out _ (List.getElem_mem _)
          have Hst : Hid _ := growBoth_step (K := growK f) Hjl.out (n0 + 2 * j) g'
          obtain ⟨kb, Hkb⟩ : ∃ kb, Hid (l[j]'Hjl.out = kb) := ⟨_, rfl⟩
          rw [Hkb.out] at c0 c1 hkid Hgr Hst
          have b3 := below_new wr (.cells #[.int .i64 kb.kind, .int .i64 kb.label, .slice ka kl kc] 68)
          have hx3 := box3_new wr (.int .i64 kb.kind) (.int .i64 kb.label) (.slice ka kl kc) 68
          have HG4 : Hid _ := HG'.out
          have hG4 := HG'.out.to b3
          have HK4 : Hid _ := HKR.out.trans (Keeps.below b3 (mineG x lv'))
          have hI4 := HI.out.below b3
          have hO4 := HO.out.below b3
          obtain ⟨w4, Hw4⟩ : ∃ w4, Hid (wr.alloc (.cells #[.int .i64 kb.kind, .int .i64 kb.label, .slice ka kl kc] 68) = w4) := ⟨_, rfl⟩
          rw [Hw4.out] at hx3 hG4 HK4 hI4 hO4
          go_upto_region 10 with fail
          rw [Hw4.out]
          clear Hw4 c0 c1 c2 b3 hlt HG' HKR HI HO
          obtain ⟨bi, oi, ei, eli, ilt, ic⟩ := ints_cell hI4.now (j := j) (by rw [intsN_length, insG_length]; exact hj)
          obtain ⟨bo, oo, eo, elo, olt, oc⟩ := ints_cell hO4.now (j := j) (by rw [intsN_length, outsG_length]; exact hj)
          rw [intsN_length, insG_length] at eli
          rw [intsN_length, outsG_length] at elo
          rw [insG_at hj] at ic
          rw [outsG_at hj] at oc
          subst ei eo eli elo
          obtain ⟨y, Hy⟩ : ∃ y, Hid (n0 + 2 * j = y) := ⟨_, rfl⟩
          obtain ⟨y1, Hy1⟩ : ∃ y1, Hid (n0 + 2 * j + 1 = y1) := ⟨_, rfl⟩
          rw [Hy1.out] at oc
          rw [Hy.out] at ic
          obtain ⟨z0, z1, z2, z3⟩ := id hx3
          have hnm := HG4.out.notMine (Nat.le_refl wr.heap.size)
          have bd := below_drewN (Below.refl w4.heap.size w4) 1
          have hG4d := hG4.to bd
          have hI5 := hI4.below bd
          have hO5 := hO4.below bd
          have hx5 := hx3.below bd
          have HK5 : Hid _ := HK4.out.trans (Keeps.below bd (mineG x lv'))
          refine wp_region_held_drew (S := (fun w' => w'.cell? ⟨wr.heap.size, 0, none⟩ = some (.int .i64 kb.kind) ∧ w'.cell? ⟨wr.heap.size, 1, none⟩ = some (.int .i64 kb.label) ∧ w'.cell? ⟨wr.heap.size, 2, none⟩ = some (.slice ka kl kc) ∧ w'.cell? ⟨bi, oi + j, none⟩ = some (.int .i64 (y : Int)) ∧ w'.cell? ⟨bo, oo + j, none⟩ = some (.int .i64 (y1 : Int)))) (by kernel_rfl) ⟨by simpa using z1, by simpa using z2, by simpa using z3, by simpa using ic, by simpa using oc⟩ (fun hH => ?_)
          refine wpAnyH_take (i := 0) rfl (by kernel_rfl) (by kernel_rfl) (by kernel_rfl) (fun _ _ _ h => h) (.inl ⟨by rfl, fun _ _ => rfl⟩) hH ?_
          simp only [List.getElem_toArray, List.getElem_cons_succ, List.getElem_cons_zero, Act.put, List.setIfInBounds_toArray, List.set_cons_zero, List.set_cons_succ]
          refine wpAnyH_take (i := 1) (v := .agg #[.int .i64 kb.kind, .int .i64 kb.label, .slice ka kl kc]) rfl (by kernel_rfl) (by kernel_rfl) (by kernel_rfl) (fun _ _ _ h => h) (.inl ⟨by rfl, fun w' hS' => by obtain ⟨e0, e1, e2, e3, e4⟩ := hS'; go_simp⟩) hH ?_
          simp only [List.getElem_toArray, List.getElem_cons_succ, List.getElem_cons_zero, Act.put, List.setIfInBounds_toArray, List.set_cons_zero, List.set_cons_succ]
          refine wpAnyH_take (i := 2) rfl (by kernel_rfl) (by kernel_rfl) (by kernel_rfl) (fun _ _ _ h => h) (.inl ⟨by rfl, fun _ _ => rfl⟩) hH ?_
          simp only [List.getElem_toArray, List.getElem_cons_succ, List.getElem_cons_zero, Act.put, List.setIfInBounds_toArray, List.set_cons_zero, List.set_cons_succ]
          refine wpAnyH_take (i := 3) rfl (by kernel_rfl) (by kernel_rfl) (by kernel_rfl) (fun _ _ _ h => h) (.inl ⟨by rfl, fun _ _ => rfl⟩) hH ?_
          simp only [List.getElem_toArray, List.getElem_cons_succ, List.getElem_cons_zero, Act.put, List.setIfInBounds_toArray, List.set_cons_zero, List.set_cons_succ]
          refine wpAnyH_take (i := 4) (v := .pointer (some ⟨bi, oi + j, none⟩)) rfl (by kernel_rfl) (by kernel_rfl) (by kernel_rfl) (fun _ _ _ h => h) (.inl ⟨by rfl, fun w' hS' => by first | (go_simp; done) | (go_simp; rfl)⟩) hH ?_
          simp only [List.getElem_toArray, List.getElem_cons_succ, List.getElem_cons_zero, Act.put, List.setIfInBounds_toArray, List.set_cons_zero, List.set_cons_succ]
          refine wpAnyH_take (i := 5) (v := .int .i64 (y : Int)) rfl (by kernel_rfl) (by kernel_rfl) (by kernel_rfl) (fun _ _ _ h => h) (.inl ⟨by rfl, fun w' hS' => by obtain ⟨e0, e1, e2, e3, e4⟩ := hS'; go_simp⟩) hH ?_
          simp only [List.getElem_toArray, List.getElem_cons_succ, List.getElem_cons_zero, Act.put, List.setIfInBounds_toArray, List.set_cons_zero, List.set_cons_succ]
          refine wpAnyH_take (i := 6) rfl (by kernel_rfl) (by kernel_rfl) (by kernel_rfl) (fun _ _ _ h => h) (.inl ⟨by rfl, fun _ _ => rfl⟩) hH ?_
          simp only [List.getElem_toArray, List.getElem_cons_succ, List.getElem_cons_zero, Act.put, List.setIfInBounds_toArray, List.set_cons_zero, List.set_cons_succ]
          refine wpAnyH_take (i := 7) rfl (by kernel_rfl) (by kernel_rfl) (by kernel_rfl) (fun _ _ _ h => h) (.inl ⟨by rfl, fun _ _ => rfl⟩) hH ?_
          simp only [List.getElem_toArray, List.getElem_cons_succ, List.getElem_cons_zero, Act.put, List.setIfInBounds_toArray, List.set_cons_zero, List.set_cons_succ]
          refine wpAnyH_take (i := 8) (v := .pointer (some ⟨bo, oo + j, none⟩)) rfl (by kernel_rfl) (by kernel_rfl) (by kernel_rfl) (fun _ _ _ h => h) (.inl ⟨by rfl, fun w' hS' => by first | (go_simp; done) | (go_simp; rfl)⟩) hH ?_
          simp only [List.getElem_toArray, List.getElem_cons_succ, List.getElem_cons_zero, Act.put, List.setIfInBounds_toArray, List.set_cons_zero, List.set_cons_succ]
          refine wpAnyH_take (i := 9) (v := .int .i64 (y1 : Int)) rfl (by kernel_rfl) (by kernel_rfl) (by kernel_rfl) (fun _ _ _ h => h) (.inl ⟨by rfl, fun w' hS' => by obtain ⟨e0, e1, e2, e3, e4⟩ := hS'; go_simp⟩) hH ?_
          simp only [List.getElem_toArray, List.getElem_cons_succ, List.getElem_cons_zero, Act.put, List.setIfInBounds_toArray, List.set_cons_zero, List.set_cons_succ]
          refine wpAnyH_ready (rs := [10]) (by kernel_rfl) (by simp) ?_
          refine AllReadyH.cons rfl (fun K hK => ?_) AllReadyH.nil
          simp only [List.getElem_toArray, List.getElem_cons_succ, List.getElem_cons_zero]
          rw [if_pos (by rfl)]
          go_wp2_with fail
          refine (Hgr.out _ y y1 g' lv' us' vs' _ (by exact hkid) hG4d Hf'.out).mono ?_
          rintro e w6 (⟨hf6, rfl, lv6, us6, vs6, hG6, hK6⟩ | ⟨hf6, rfl, hb6⟩)
          · have R1 : Hid _ := hG6
            have R2 : Hid _ := hf6
            have R3 : Hid _ := HK5.out.trans hK6
            have R4 : Hid (On (fun b => ¬ mineG x lv6 b) w6 (fun w' => Ints w' (.slice (some ⟨bi, oi, none⟩) k ci) (intsN (insG k n0)))) := hK6.on hI5
            have R5 : Hid (On (fun b => ¬ mineG x lv6 b) w6 (fun w' => Ints w' (.slice (some ⟨bo, oo, none⟩) k co) (intsN (outsG k n0)))) := hK6.on hO5
            have R6 : Hid (putG (growBoth (growK f) (l.drop (j + 1)) (n0 + 2 * (j + 1)) (growK f kb y y1 g')) 0 (outsG k n0) [q] = T) := by rw [← HT.out, Hst.out, Hy1.out, Hy.out, show n0 + 2 * (j + 1) = y + 2 by have := Hy.out; omega]; rfl
            obtain ⟨t0, t1, t2, t3⟩ := hK6.box3 hnm hx5
            have t4 : w6.cell? ⟨bi, oi + j, none⟩ = some (.int .i64 (y : Int)) := by rw [ints_cell_at R4.out.now (by rw [intsN_length, insG_length]; exact hj), insG_at hj, Hy.out]
            have t5 : w6.cell? ⟨bo, oo + j, none⟩ = some (.int .i64 (y1 : Int)) := by rw [ints_cell_at R5.out.now (by rw [intsN_length, outsG_length]; exact hj), outsG_at hj, Hy1.out]
            refine hK.out _ _ ⟨t1, t2, t3, t4, t5⟩ (fun hH => ?_)
            refine wpAnyH_done (by kernel_rfl) ?_ _
            clear hG6 hf6 hK6 hH t0 t1 t2 t3 t4 t5 hK hI5 hO5 hx5 hG4d bd hI4 hO4 hG4 hx3 z0 z1 z2 z3 ic oc hkid Hst HT
            go_wp2
            go_roundg (gk - 1)
            case measure => omega
            case rel => exact ⟨j + 1, _, lv6, us6, vs6, by omega, by go_num, R1, R2, R3, R4, R5, R6⟩
          · have R : Hid (¬ FitG T) := by
              show ¬ FitG T
              rw [← HT.out, Hst.out, Hy1.out, Hy.out]
              exact ((growBoth_le (growK_le f) _ _ _).trans (putG_le _ _ _ _)).not hf6
            go_wp2
            exact ⟨rfl, .inr ⟨R.out, rfl, hb6⟩⟩
        · have ej : j = k := by omega
          subst ej
          have HT2 : Hid (putG g' 0 (outsG j n0) [q] = T) := by rw [← HT.out, List.drop_of_length_le (by rw [Hm.out]; exact Nat.le_refl _)]; rfl
          have b1 := below_new wr (.cells #[.int .i64 (q : Int)] 3)
          have hQ : On (fun b => ¬ mineG x lv' b) (wr.alloc (.cells #[.int .i64 (q : Int)] 3)) (fun w' => Ints w' (.slice (some ⟨wr.heap.size, 0, none⟩) 1 1) (intsN [q])) :=
            (ints_lit_on wr wr.heap.size [(q : Int)] 3 1 rfl (by omega) rfl).weaken fun b _ hb => HG'.out.notMine (by omega)
          have hG4 := HG'.out.to b1
          have hO4 := HO.out.below b1
          have HK4 : Hid _ := HKR.out.trans (Keeps.below b1 (mineG x lv'))
          clear b1 HG' HKR HI HO HT
          go_wp2_with fail
          refine (tran_any hG4 Hf'.out 0 (outsG j n0) [q] _ _ hO4 hQ).mono ?_
          rintro e w6 (⟨hf6, rfl, lv6, us6, vs6, hG6, hK6⟩ | ⟨hf6, rfl, hb6⟩)
          · have R : Hid (Grew B x W w lv T (.tuple #[]) (.returned (.tuple #[])) w6) := by
              rw [← HT2.out]
              exact .inl ⟨hf6, rfl, _, _, _, hG6, HK4.out.trans hK6⟩
            clear hG6 hK6 hG4 hO4 hQ
            go_wp2
            go_end0
            exact R.out
          · have R : Hid (¬ FitG T) := by rw [← HT2.out]; exact hf6
            clear hG4 hO4 hQ
            go_wp2
            exact ⟨rfl, .inr ⟨R.out, rfl, hb6⟩⟩

end

end Go.Proofs.YteoofibhpifmlaaDoor
