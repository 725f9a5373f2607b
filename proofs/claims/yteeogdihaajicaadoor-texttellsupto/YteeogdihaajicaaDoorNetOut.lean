/- A net while it is built: it lies at block x, its transitions in a row of its own, what they take and put elsewhere. -/
import Derived.Test.YteeogdihaajicaaDoorNetDev3
namespace Go.Proofs.YteeogdihaajicaaDoor
open Go.RowKit
set_option linter.unusedVariables false
set_option maxRecDepth 4000

structure NetOut (x : Nat) (p : Int) (w0 wr : World) (us : List TranL) (ov : Value) (tv : List (Int × Value × Value)) : Prop where
  own : wr.ownsRow (x + 1) 43 3 ov tv.length (tvCells tv)
  len : us.length = tv.length
  below : Below x w0 wr
  size : x + 1 ≤ wr.heap.size
  c0 : wr.cell? ⟨x, 0, none⟩ = some (.int .i64 p)
  c1 : wr.cell? ⟨x, 1, none⟩ = some ov
  f0 : wr.frozen? ⟨x, 0, none⟩ = false
  f1 : wr.frozen? ⟨x, 1, none⟩ = false
  row : ∀ j (hj : j < tv.length), tv[j].1 = (tranAt us j).label ∧ On (fun k => x < k ∧ some k ≠ ov.ownBlock) wr (fun w' => Ints w' tv[j].2.1 (tranAt us j).pre) ∧
    On (fun k => x < k ∧ some k ≠ ov.ownBlock) wr (fun w' => Ints w' tv[j].2.2 (tranAt us j).post)

theorem NetOut.to {x : Nat} {p : Int} {w0 wr w' : World} {us : List TranL} {ov : Value} {tv : List (Int × Value × Value)} (h : NetOut x p w0 wr us ov tv) (hb : Below wr.heap.size wr w') : NetOut x p w0 w' us ov tv := by
  have hx : x < wr.heap.size := h.size
  refine ⟨?_, h.len, h.below.trans (hb.mono (by omega)), Nat.le_trans h.size hb.size, ?_, ?_, ?_, ?_, fun j hj => ?_⟩
  · exact ((ownsRow_on h.own).below hb).now
  · rw [hb.cell (p := ⟨x, 0, none⟩) hx]; exact h.c0
  · rw [hb.cell (p := ⟨x, 1, none⟩) hx]; exact h.c1
  · rw [hb.frozen (p := ⟨x, 0, none⟩) hx]; exact h.f0
  · rw [hb.frozen (p := ⟨x, 1, none⟩) hx]; exact h.f1
  · obtain ⟨e1, e2, e3⟩ := h.row j hj
    exact ⟨e1, e2.below hb, e3.below hb⟩

theorem tran_append_left {us vs : List TranL} {j : Nat} (h : j < us.length) : tranAt (us ++ vs) j = tranAt us j := by
  unfold tranAt
  rw [List.getD_eq_getElem?_getD, List.getD_eq_getElem?_getD, List.getElem?_append_left h]
theorem tran_append_right {us vs : List TranL} {j : Nat} (h : us.length ≤ j) : tranAt (us ++ vs) j = tranAt vs (j - us.length) := by
  unfold tranAt
  rw [List.getD_eq_getElem?_getD, List.getD_eq_getElem?_getD, List.getElem?_append_right h]

/-- Some more transitions, whose numbers are new. -/
theorem NetOut.step {x : Nat} {p : Int} {w0 wr W wC : World} {us vs : List TranL} {ov v' : Value} {tv xs : List (Int × Value × Value)} (h : NetOut x p w0 wr us ov tv) (hl : vs.length = xs.length)
    (hW : Below wr.heap.size wr W)
    (hn : ∀ j (hj : j < xs.length), xs[j].1 = (tranAt vs j).label ∧ On (fun k => wr.heap.size ≤ k) W (fun w' => Ints w' xs[j].2.1 (tranAt vs j).pre) ∧ On (fun k => wr.heap.size ≤ k) W (fun w' => Ints w' xs[j].2.2 (tranAt vs j).post))
    (hown : wC.ownsRow (x + 1) 43 3 v' (tv ++ xs).length (tvCells (tv ++ xs))) (hg : W.grownBy wC ov.ownBlock)
    (hat : v'.ownBlock = ov.ownBlock ∨ v'.ownBlock = some W.heap.size) : NetOut x p w0 (wC.setCell ⟨x, 1, none⟩ v') (us ++ vs) v' (tv ++ xs) := by
  have hx : x < wr.heap.size := h.size
  have g := h.to hW
  have hov : ∀ k, ov.ownBlock = some k → x + 1 ≤ k ∧ k < wr.heap.size := fun k hk => ownsRow_lt h.own hk
  have hxr : some x ≠ ov.ownBlock := fun e => by have := hov x e.symm; omega
  have hxW : x < W.heap.size := g.size
  have s1 : wr.heap.size ≤ W.heap.size := hW.size
  have hcx : wC.heap[x]? = W.heap[x]? := hg.block x hxW hxr
  have hc0 : wC.cell? ⟨x, 0, none⟩ = some (.int .i64 p) := (World.cell?_of_block (a := ⟨x, 0, none⟩) hcx).trans g.c0
  have hc1 : wC.cell? ⟨x, 1, none⟩ = some ov := (World.cell?_of_block (a := ⟨x, 1, none⟩) hcx).trans g.c1
  have hf0 : wC.frozen? ⟨x, 0, none⟩ = false := (World.frozen?_of_block (a := ⟨x, 0, none⟩) hcx).trans g.f0
  have hf1 : wC.frozen? ⟨x, 1, none⟩ = false := (World.frozen?_of_block (a := ⟨x, 1, none⟩) hcx).trans g.f1
  have keep : ∀ {R : World → Prop}, On (fun k => x < k ∧ some k ≠ ov.ownBlock) W R → On (fun k => x < k ∧ some k ≠ v'.ownBlock) (wC.setCell ⟨x, 1, none⟩ v') R := by
    intro R hR w2 hs hk
    refine hR w2 (Nat.le_trans hg.size (Nat.le_trans (by simp [World.setCell]) hs)) fun k hlt ⟨hkx, hkr⟩ => ?_
    have hk' : some k ≠ v'.ownBlock := by
      rcases hat with e | e <;> rw [e]
      · exact hkr
      · simp; omega
    rw [hk k (Nat.lt_of_lt_of_le (Nat.lt_of_lt_of_le hlt hg.size) (by simp [World.setCell])) ⟨hkx, hk'⟩, Below.heap_setCell wC ⟨x, 1, none⟩ v' k (by show k ≠ x; omega)]
    exact hg.block k hlt hkr
  have new : ∀ {R : World → Prop}, On (fun k => wr.heap.size ≤ k) W R → On (fun k => x < k ∧ some k ≠ ov.ownBlock) W R := by
    intro R hR
    refine hR.weaken fun k hlt hk => ⟨by omega, fun e => ?_⟩
    have := hov k e.symm
    omega
  refine ⟨?_, by simp [h.len, hl], ?_, ?_, ?_, ?_, ?_, ?_, fun j hj => ?_⟩
  · exact ownsRow_setCell_below hown (a := ⟨x, 1, none⟩) (Nat.lt_succ_self x) v'
  · exact ((h.below.trans (hW.mono (by omega))).grown hg (by omega) (fun k hk => by have := hov k hk; omega)).setCell (p := ⟨x, 1, none⟩) (Nat.le_refl _) _
  · have := hg.size; simp [World.setCell]; omega
  · rw [World.cell?_setCell_other _ _ _ _ (by intro q; injection q with _ q2; omega)]; exact hc0
  · exact World.cell?_setCell_same _ _ _ hc1
  · rw [World.frozen?_setCell]; exact hf0
  · rw [World.frozen?_setCell]; exact hf1
  · by_cases hjl : j < tv.length
    · rw [List.getElem_append_left hjl, tran_append_left (by rw [h.len]; exact hjl)]
      obtain ⟨e1, e2, e3⟩ := g.row j hjl
      exact ⟨e1, keep e2, keep e3⟩
    · have hj' : j - tv.length < xs.length := by simp at hj; omega
      rw [List.getElem_append_right (by omega), tran_append_right (by rw [h.len]; omega), h.len]
      obtain ⟨e1, e2, e3⟩ := hn (j - tv.length) hj'
      exact ⟨e1, keep (new e2), keep (new e3)⟩

theorem netOut_new (w0 : World) (p : Int) (x : Nat) (hx : x = w0.heap.size) :
    NetOut x p w0 (w0.alloc (.cells #[.int .i64 p, .slice none 0 0] 24)) [] (.slice none 0 0) [] := by
  subst hx
  refine ⟨World.ownsRow_nil _ _ _ _, rfl, below_new _ _, by simp, ?_, ?_, ?_, ?_, fun j hj => absurd hj (by simp)⟩
  · rw [World.cell?_alloc_at _ _ _ _ rfl]; rfl
  · rw [World.cell?_alloc_at _ _ _ _ rfl]; rfl
  · rw [World.frozen?_alloc_at _ _ _ _ rfl]
  · rw [World.frozen?_alloc_at _ _ _ _ rfl]

/-- Its transitions. -/
theorem NetOut.trans {x : Nat} {p : Int} {w0 wr : World} {us : List TranL} {ov : Value} {tv : List (Int × Value × Value)} (h : NetOut x p w0 wr us ov tv) (hl : tv.length ≤ 2513169434916) : Trans wr ov us :=
  tran_read h.own hl h.len fun j hj => by
    obtain ⟨e1, e2, e3⟩ := h.row j hj
    exact ⟨e1, e2.now, e3.now⟩
/-- They hang on blocks behind x alone. -/
theorem NetOut.on {x : Nat} {p : Int} {w0 wr : World} {us : List TranL} {ov : Value} {tv : List (Int × Value × Value)} (h : NetOut x p w0 wr us ov tv) (hl : tv.length ≤ 2513169434916) : On (fun k => x < k) wr (fun w' => Trans w' ov us) := by
  intro w' hs hk
  refine tran_read (ownsRow_on h.own w' hs fun k hlt hd => hk k hlt (by have := hd.2; omega)) hl h.len fun j hj => ?_
  obtain ⟨e1, e2, e3⟩ := h.row j hj
  exact ⟨e1, e2 w' hs fun k hlt hd => hk k hlt hd.1, e3 w' hs fun k hlt hd => hk k hlt hd.1⟩
/-- They stand when the answer's own box, ahead of it, is filled. -/
theorem NetOut.fill {x y : Nat} {p : Int} {w0 wr W : World} {us : List TranL} {ov : Value} {tv : List (Int × Value × Value)} (h : NetOut x p w0 wr us ov tv) (hl : tv.length ≤ 2513169434916) (hy : y < x) (a b : Value)
    (hW : (wr.setCell ⟨y, 0, none⟩ a).setCell ⟨y, 1, none⟩ b = W) : Trans W ov us := by
  subst hW
  have hown2 := ownsRow_setCell_below (ownsRow_setCell_below h.own (a := ⟨y, 0, none⟩) (by show y < _; omega) a) (a := ⟨y, 1, none⟩) (by show y < _; omega) b
  refine tran_read hown2 hl h.len fun j hj => ?_
  obtain ⟨e1, e2, e3⟩ := h.row j hj
  have hD : ¬ (fun k => x < k ∧ some k ≠ ov.ownBlock) y := fun h => by have := h.1; omega
  exact ⟨e1, ((e2.set (a := ⟨y, 0, none⟩) hD _).set (a := ⟨y, 1, none⟩) hD _).now, ((e3.set (a := ⟨y, 0, none⟩) hD _).set (a := ⟨y, 1, none⟩) hD _).now⟩

/-- append of some transitions onto a row that the call itself has made, in a region that draws its order; and where the longer row lies. -/
theorem wpr_append_net {o : Oper} {a : Act} {K : Act → World → Prop} {Q : Exit → Act → World → Prop} {Y : Nat → Option Bool} (hwt : Region.wanted o Y = true) (s x : Operand)
    (ho : o.op = .call { callee := .builtin .append, args := #[s, x], argTypes := #[22, 22] }) (B : Nat) (wr : World) (v : Value) (tv us : List (Int × Value × Value)) (b off m c : Nat)
    (hown : wr.ownsRow B 43 3 v tv.length (tvCells tv)) (hs : a.eval s = v) (hx : a.eval x = .slice (some ⟨b, off, none⟩) m c) (hm : us.length = m) (hc : ∀ j u, (tvCells us)[j]? = some u → wr.cell? ⟨b, off + j, none⟩ = some u)
    (h1 : ∀ u ∈ tvCells us, u.oneCell' = true) (hl : tv.length + m ≤ 2513169434916) (hB : B ≤ wr.heap.size)
    (h : ∀ v' w', w'.ownsRow B 43 3 v' (tv ++ us).length (tvCells (tv ++ us)) → wr.grownBy w' v.ownBlock → (v'.ownBlock = v.ownBlock ∨ v'.ownBlock = some wr.heap.size) → K (a.put o.dst v') w') :
    if Region.wanted o Y = true then Oper.wp Tryd.prog o a wr K Q else K (a.put o.dst undef) wr := by
  obtain ⟨i0, hi, hz0, hz1, hz2⟩ := info_parts info_tran
  refine wp_append_at _ hwt s x 22 ho B 43 i0 _ 3 56 Tryd.underlying22 hi hz0 hz1 hz2 rfl (by decide) v tv.length _ hs hown ⟨b, off, none⟩ m c (tvCells us) hx (by rw [tvCells_length, hm]) ?_ h1 ?_ ?_ hB ?_
  · intro j u hj
    rw [addr_add]
    exact hc j u hj
  · unfold maxLen; omega
  · omega
  · intro v' w' h2 h3 h4
    refine h v' w' ?_ h3 h4
    rw [tvCells_append, List.length_append, hm]
    exact h2

end Go.Proofs.YteeogdihaajicaaDoor
