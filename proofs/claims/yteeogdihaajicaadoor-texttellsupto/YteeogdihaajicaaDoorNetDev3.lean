/- Package net, as it landed: the other way round. -/
import Derived.Test.YteeogdihaajicaaDoorNetDev2
import Derived.Test.YteeogdihaajicaaDoorFoot
import Derived.Test.YteeogdihaajicaaDoorNet5
import Derived.Deep.RegionLaw
namespace Go.Proofs.YteeogdihaajicaaDoor
open Go.RowKit
set_option linter.unusedVariables false
set_option maxRecDepth 4000

/-- The answer while it is built: it lies at block x, its transitions in a row of its own, what they take and put elsewhere. -/
structure TurnOut (x : Nat) (p : Int) (w0 wr : World) (ts : List TranL) (ov : Value) (tv : List (Int × Value × Value)) : Prop where
  own : wr.ownsRow (x + 1) 43 3 ov tv.length (tvCells tv)
  below : Below x w0 wr
  size : x + 1 ≤ wr.heap.size
  c0 : wr.cell? ⟨x, 0, none⟩ = some (.int .i64 p)
  c1 : wr.cell? ⟨x, 1, none⟩ = some ov
  f0 : wr.frozen? ⟨x, 0, none⟩ = false
  f1 : wr.frozen? ⟨x, 1, none⟩ = false
  row : ∀ j (hj : j < tv.length), tv[j].1 = (tranAt ts j).label ∧ On (fun k => x < k ∧ some k ≠ ov.ownBlock) wr (fun w' => Ints w' tv[j].2.1 (tranAt ts j).post) ∧
    On (fun k => x < k ∧ some k ≠ ov.ownBlock) wr (fun w' => Ints w' tv[j].2.2 (tranAt ts j).pre)

theorem TurnOut.to {x : Nat} {p : Int} {w0 wr w' : World} {ts : List TranL} {ov : Value} {tv : List (Int × Value × Value)} (h : TurnOut x p w0 wr ts ov tv) (hb : Below wr.heap.size wr w') : TurnOut x p w0 w' ts ov tv := by
  have hx : x < wr.heap.size := h.size
  refine ⟨?_, h.below.trans (hb.mono (by omega)), Nat.le_trans h.size hb.size, ?_, ?_, ?_, ?_, fun j hj => ?_⟩
  · exact ((ownsRow_on h.own).below hb).now
  · rw [hb.cell (p := ⟨x, 0, none⟩) hx]; exact h.c0
  · rw [hb.cell (p := ⟨x, 1, none⟩) hx]; exact h.c1
  · rw [hb.frozen (p := ⟨x, 0, none⟩) hx]; exact h.f0
  · rw [hb.frozen (p := ⟨x, 1, none⟩) hx]; exact h.f1
  · obtain ⟨e1, e2, e3⟩ := h.row j hj
    exact ⟨e1, e2.below hb, e3.below hb⟩

theorem TurnOut.step {x : Nat} {p : Int} {w0 wr wB wC W : World} {ts : List TranL} {ov v' : Value} {tv : List (Int × Value × Value)} {l : Int} {c1 c2 : Value} (h : TurnOut x p w0 wr ts ov tv)
    (hb : Below wr.heap.size wr wB) (k1 : On (fun k => wr.heap.size ≤ k) wB (fun w' => Ints w' c1 (tranAt ts tv.length).post)) (k2 : On (fun k => wr.heap.size ≤ k) wB (fun w' => Ints w' c2 (tranAt ts tv.length).pre))
    (hl : l = (tranAt ts tv.length).label) (hW : Below wB.heap.size wB W)
    (hown : wC.ownsRow (x + 1) 43 3 v' (tv.length + 1) (tvCells tv ++ [.int .i64 l, c1, c2])) (hg : W.grownBy wC ov.ownBlock)
    (hat : v'.ownBlock = ov.ownBlock ∨ v'.ownBlock = some W.heap.size) : TurnOut x p w0 (wC.setCell ⟨x, 1, none⟩ v') ts v' (tv ++ [(l, c1, c2)]) := by
  have hx : x < wr.heap.size := h.size
  have g := h.to (hb.trans (hW.mono hb.size))
  have hov : ∀ k, ov.ownBlock = some k → x + 1 ≤ k ∧ k < wr.heap.size := fun k hk => ownsRow_lt h.own hk
  have hxr : some x ≠ ov.ownBlock := fun e => by have := hov x e.symm; omega
  have hxW : x < W.heap.size := g.size
  have s1 : wr.heap.size ≤ wB.heap.size := hb.size
  have s2 : wB.heap.size ≤ W.heap.size := hW.size
  have hcx : wC.heap[x]? = W.heap[x]? := hg.block x hxW hxr
  have hc0 : wC.cell? ⟨x, 0, none⟩ = some (.int .i64 p) := (World.cell?_of_block (a := ⟨x, 0, none⟩) hcx).trans g.c0
  have hc1 : wC.cell? ⟨x, 1, none⟩ = some ov := (World.cell?_of_block (a := ⟨x, 1, none⟩) hcx).trans g.c1
  have hf0 : wC.frozen? ⟨x, 0, none⟩ = false := (World.frozen?_of_block (a := ⟨x, 0, none⟩) hcx).trans g.f0
  have hf1 : wC.frozen? ⟨x, 1, none⟩ = false := (World.frozen?_of_block (a := ⟨x, 1, none⟩) hcx).trans g.f1
  -- what hangs on old blocks beside these two stands
  have keep : ∀ {R : World → Prop}, On (fun k => x < k ∧ some k ≠ ov.ownBlock) W R → On (fun k => x < k ∧ some k ≠ v'.ownBlock) (wC.setCell ⟨x, 1, none⟩ v') R := by
    intro R hR w2 hs hk
    refine hR w2 (Nat.le_trans hg.size (Nat.le_trans (by simp [World.setCell]) hs)) fun k hlt ⟨hkx, hkr⟩ => ?_
    have hk' : some k ≠ v'.ownBlock := by
      rcases hat with e | e <;> rw [e]
      · exact hkr
      · simp; omega
    rw [hk k (Nat.lt_of_lt_of_le (Nat.lt_of_lt_of_le hlt hg.size) (by simp [World.setCell])) ⟨hkx, hk'⟩, Below.heap_setCell wC ⟨x, 1, none⟩ v' k (by show k ≠ x; omega)]
    exact hg.block k hlt hkr
  have new : ∀ {R : World → Prop}, On (fun k => wr.heap.size ≤ k) wB R → On (fun k => x < k ∧ some k ≠ ov.ownBlock) W R := by
    intro R hR
    refine (hR.below hW).weaken fun k hlt hk => ⟨by omega, fun e => ?_⟩
    have := hov k e.symm
    omega
  refine ⟨?_, ?_, ?_, ?_, ?_, ?_, ?_, fun j hj => ?_⟩
  · have := ownsRow_setCell_below hown (a := ⟨x, 1, none⟩) (Nat.lt_succ_self x) v'
    rw [tvCells_append]
    simpa [tvCells] using this
  · exact ((h.below.trans ((hb.trans (hW.mono hb.size)).mono (by omega))).grown hg (by omega) (fun k hk => by have := hov k hk; omega)).setCell (p := ⟨x, 1, none⟩) (Nat.le_refl _) _
  · have := hg.size; simp [World.setCell]; omega
  · rw [World.cell?_setCell_other _ _ _ _ (by intro q; injection q with _ q2; omega)]; exact hc0
  · exact World.cell?_setCell_same _ _ _ hc1
  · rw [World.frozen?_setCell]; exact hf0
  · rw [World.frozen?_setCell]; exact hf1
  · by_cases hjl : j < tv.length
    · rw [List.getElem_append_left hjl]
      obtain ⟨e1, e2, e3⟩ := g.row j hjl
      exact ⟨e1, keep e2, keep e3⟩
    · have e : j = tv.length := by simp at hj; omega
      subst e
      rw [List.getElem_append_right (Nat.le_refl _)]
      simp only [Nat.sub_self, List.getElem_cons_zero]
      exact ⟨hl, keep (new k1), keep (new k2)⟩

/-- The load of the answer's transitions: it is not taken first, for the same statement stores there. -/
abbrev turnLoad : Op := Op.load 22 (Operand.tmp 16)

theorem wpr_append_tran {o : Oper} {a : Act} {K : Act → World → Prop} {Q : Exit → Act → World → Prop} {Y : Nat → Option Bool} (hwt : Region.wanted o Y = true) (s x : Operand)
    (ho : o.op = .call { callee := .builtin .append, args := #[s, x], argTypes := #[22, 22] }) (B : Nat) (wr : World) (v : Value) (tv : List (Int × Value × Value))
    (l : Int) (a1 a2 : Option Addr) (l1 l2 p1 p2 : Nat) (hown : wr.ownsRow B 43 3 v tv.length (tvCells tv))
    (hs : a.eval s = v) (hx : a.eval x = .slice (some ⟨wr.heap.size, 0, none⟩) 1 1) (hl : tv.length + 1 ≤ 2513169434916) (hB : B ≤ wr.heap.size)
    (h : ∀ v' w', w'.ownsRow B 43 3 v' (tv.length + 1) (tvCells tv ++ [.int .i64 l, .slice a1 l1 p1, .slice a2 l2 p2]) → (wr.alloc (.cells #[.int .i64 l, .slice a1 l1 p1, .slice a2 l2 p2] 43)).grownBy w' v.ownBlock →
      (v'.ownBlock = v.ownBlock ∨ v'.ownBlock = some (wr.alloc (.cells #[.int .i64 l, .slice a1 l1 p1, .slice a2 l2 p2] 43)).heap.size) → K (a.put o.dst v') w') :
    if Region.wanted o Y = true then Oper.wp Tryd.prog o a (wr.alloc (.cells #[.int .i64 l, .slice a1 l1 p1, .slice a2 l2 p2] 43)) K Q else K (a.put o.dst undef) (wr.alloc (.cells #[.int .i64 l, .slice a1 l1 p1, .slice a2 l2 p2] 43)) := by
  obtain ⟨i0, hi, hz0, hz1, hz2⟩ := info_parts info_tran
  refine wp_append_at _ hwt s x 22 ho B 43 i0 _ 3 56 Tryd.underlying22 hi hz0 hz1 hz2 rfl (by decide) v tv.length _ hs (hown.alloc _) ⟨wr.heap.size, 0, none⟩ 1 1 [.int .i64 l, .slice a1 l1 p1, .slice a2 l2 p2] hx rfl ?_ ?_ ?_ ?_ ?_ h
  · intro j u hj
    rw [addr_add, World.cell?_alloc_at _ _ _ _ rfl]
    match j, hj with
    | 0, hj => simpa using hj
    | 1, hj => simpa using hj
    | 2, hj => simpa using hj
  · intro u hu
    simp only [List.mem_cons, List.not_mem_nil, or_false] at hu
    rcases hu with rfl | rfl | rfl <;> rfl
  · unfold maxLen; omega
  · omega
  · simp; omega

theorem TurnOut.after {x : Nat} {p : Int} {w0 wr W wC : World} {ts : List TranL} {ov : Value} {tv : List (Int × Value × Value)} (h : TurnOut x p w0 wr ts ov tv) (hb : Below wr.heap.size wr W) (hg : W.grownBy wC ov.ownBlock) :
    wC.cell? ⟨x, 1, none⟩ = some ov ∧ wC.frozen? ⟨x, 1, none⟩ = false ∧ ∀ a : Addr, wr.heap.size ≤ a.block → a.block < W.heap.size → wC.cell? a = W.cell? a := by
  have g := h.to hb
  have hov : ∀ k, ov.ownBlock = some k → x + 1 ≤ k ∧ k < wr.heap.size := fun k hk => ownsRow_lt h.own hk
  have hcx : wC.heap[x]? = W.heap[x]? := hg.block x g.size fun e => by have := hov x e.symm; omega
  refine ⟨(World.cell?_of_block (a := ⟨x, 1, none⟩) hcx).trans g.c1, (World.frozen?_of_block (a := ⟨x, 1, none⟩) hcx).trans g.f1, fun a h1 h2 => ?_⟩
  exact World.cell?_of_block (hg.block a.block h2 fun e => by have := hov _ e.symm; omega)

theorem turn_start (w0 : World) (p : Int) (ts : List TranL) (x : Nat) (hx : x = w0.heap.size) :
    TurnOut x p w0 (w0.alloc (.cells #[.int .i64 p, .slice none 0 0] 24)) ts (.slice none 0 0) [] := by
  subst hx
  refine ⟨World.ownsRow_nil _ _ _ _, below_new _ _, by simp, ?_, ?_, ?_, ?_, fun j hj => absurd hj (by simp)⟩
  · rw [World.cell?_alloc_at _ _ _ _ rfl]; rfl
  · rw [World.cell?_alloc_at _ _ _ _ rfl]; rfl
  · rw [World.frozen?_alloc_at _ _ _ _ rfl]
  · rw [World.frozen?_alloc_at _ _ _ _ rfl]

/-- Two blocks of two cells, one behind the other. -/
theorem two_new (w W : World) (x y x' y' : Value) (t t' : TypeId) (h : (w.alloc (.cells #[x, y] t)).alloc (.cells #[x', y'] t') = W) :
    Below w.heap.size w W ∧ Box2 W w.heap.size x y ∧ Box2 W (w.heap.size + 1) x' y' ∧ (∀ j, W.frozen? ⟨w.heap.size + 1, j, none⟩ = false) ∧ W.heap.size = w.heap.size + 1 + 1 := by
  have b1 := below_new w (.cells #[x, y] t)
  have b2 := below_new (w.alloc (.cells #[x, y] t)) (.cells #[x', y'] t')
  have h1 := (box2_new w x y t).below b2
  have h2 := box2_new (w.alloc (.cells #[x, y] t)) x' y' t'
  have e : (w.alloc (.cells #[x, y] t)).heap.size = w.heap.size + 1 := by simp
  rw [e] at h2
  subst h
  exact ⟨below_then b1 b2, h1, h2, fun j => by rw [World.frozen?_alloc_at _ _ _ _ (by simp)], by simp⟩

end Go.Proofs.YteeogdihaajicaaDoor
