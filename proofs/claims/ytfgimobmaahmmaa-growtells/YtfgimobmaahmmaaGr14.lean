import Derived.Test.YtfgimobmaahmmaaGr09
import Derived.Test.YtfgimobmaahmmaaNetDev3
import Derived.Test.YtfgimobmaahmmaaMarked
import Derived.Deep.RegionHeld3
import Derived.Test.YtfgimobmaahmmaaGr00
/- The answers of the document itself for grow: one more link. -/
namespace Go.Proofs.Ytfgimobmaahmmaa
open Go.RowKit
set_option linter.unusedVariables false
set_option linter.unusedSimpArgs false
set_option maxRecDepth 4000

theorem info_klink : (Try.prog.info? 63).map (fun i => (i.zero, i.size, i.bytes)) = some (some (.agg #[.int .i64 0, .slice none 0 0, .slice none 0 0]), 3, 56) := by kernel_rfl

/-- append of some links onto a row that the call itself has made, in a region that draws its order. -/
theorem wpr_append_kls {o : Oper} {a : Act} {K : Act → World → Prop} {Q : Exit → Act → World → Prop} {Y : Nat → Option Bool} (hwt : Region.wanted o Y = true) (s x : Operand)
    (ho : o.op = .call { callee := .builtin .append, args := #[s, x], argTypes := #[58, 58] }) (B : Nat) (wr : World) (v : Value) (tv us : List (Int × Value × Value)) (a1 : Option Addr) (m c : Nat)
    (hown : wr.ownsRow B 63 3 v tv.length (tvCells tv)) (hs : a.eval s = v) (hx : a.eval x = .slice a1 m c) (hm : us.length = m) (hsh : a1 = none → c = 0 ∧ m = 0)
    (hc : ∀ j u, (tvCells us)[j]? = some u → ∃ b off, a1 = some ⟨b, off, none⟩ ∧ wr.cell? ⟨b, off + j, none⟩ = some u)
    (h1 : ∀ u ∈ tvCells us, u.oneCell' = true) (hl : tv.length + m ≤ 1000000) (hB : B ≤ wr.heap.size)
    (h : ∀ v' w', w'.ownsRow B 63 3 v' (tv ++ us).length (tvCells (tv ++ us)) → wr.grownBy w' v.ownBlock → K (a.put o.dst v') w') :
    if Region.wanted o Y = true then Oper.wp Try.prog o a wr K Q else K (a.put o.dst undef) wr := by
  obtain ⟨i0, hi, hz0, hz1, hz2⟩ := info_parts info_klink
  cases a1 with
  | none =>
    obtain ⟨rfl, rfl⟩ := hsh rfl
    have hu : us = [] := List.length_eq_zero_iff.1 hm
    subst hu
    have hrun := run_append_owned_none (P := Try.prog) (w := wr) B 58 o.type 63 i0 3 Try.underlying58 hi v tv.length _ hown
    rw [if_pos hwt]
    unfold Oper.wp execOp
    simp only [ho, resolve, invoke, builtin, Sem.run_bind, Sem.run_pure, Result.andThen_ok, List.map_toArray, List.map_cons, List.map_nil, hs, hx, hrun]
    exact h v wr (by simpa using hown) ⟨rfl, rfl, rfl, Nat.le_refl _, fun _ _ _ => rfl⟩
  | some ad =>
    refine wp_append_at _ hwt s x 58 ho B 63 i0 _ 3 56 Try.underlying58 hi hz0 hz1 hz2 rfl (by decide) v tv.length _ hs hown ad m c (tvCells us) hx (by rw [tvCells_length, hm]) ?_ h1 ?_ ?_ hB ?_
    · intro j u hj
      obtain ⟨b, off, e, hcell⟩ := hc j u hj
      injection e with e
      subst e
      rw [addr_add]
      exact hcell
    · unfold maxLen; omega
    · omega
    · intro v' w' h2 h3 _
      refine h v' w' ?_ h3
      rw [tvCells_append, List.length_append, hm]
      exact h2

theorem rowK_none (w : World) (B : Nat) (hB : B ≤ w.heap.size) : (w.alloc (.cells #[] 63)).ownsRow B 63 3 (.slice (some ⟨w.heap.size, 0, none⟩) 0 0) (([] : List (Int × Value × Value))).length (tvCells []) := by
  refine ⟨by simp [tvCells], .inr ⟨w.heap.size, 0, #[], rfl, hB, ?_, Nat.le_refl _, by unfold maxLen; omega, rfl, rfl⟩⟩
  show (w.heap.push _)[w.heap.size]? = _
  simp

/-- The cells of one link. -/
theorem tvCells_one (l : Int) (c1 c2 : Value) : tvCells [(l, c1, c2)] = [.int .i64 l, c1, c2] := rfl
theorem cells_of_new {w : World} {l : Int} {c1 c2 : Value} {t : TypeId} {w' : World} {b : Nat} (hb : b = w.heap.size) (hw : Below (w.alloc (.cells #[.int .i64 l, c1, c2] t)).heap.size (w.alloc (.cells #[.int .i64 l, c1, c2] t)) w') :
    ∀ j u, (tvCells [(l, c1, c2)])[j]? = some u → ∃ b' off, some (⟨b, 0, none⟩ : Addr) = some ⟨b', off, none⟩ ∧ w'.cell? ⟨b', off + j, none⟩ = some u := by
  subst hb
  intro j u hj
  refine ⟨w.heap.size, 0, rfl, ?_⟩
  rw [hw.cell (p := ⟨w.heap.size, 0 + j, none⟩) (by simp), Nat.zero_add, World.cell?_alloc_at _ _ _ _ rfl]
  rw [tvCells_one] at hj
  match j, hj with
  | 0, hj => simpa using hj
  | 1, hj => simpa using hj
  | 2, hj => simpa using hj

theorem cells_of_blk {w : World} {l : Int} {c1 c2 : Value} {t : TypeId} {b : Nat} (h : w.heap[b]? = some (.cells #[.int .i64 l, c1, c2] t (0, 0))) :
    ∀ j u, (tvCells [(l, c1, c2)])[j]? = some u → ∃ b' off, some (⟨b, 0, none⟩ : Addr) = some ⟨b', off, none⟩ ∧ w.cell? ⟨b', off + j, none⟩ = some u := by
  intro j u hj
  refine ⟨b, 0, rfl, ?_⟩
  rw [tvCells_one] at hj
  match j, hj with
  | 0, hj => simp at hj; simp [World.cell?, h, hj]
  | 1, hj => simp at hj; simp [World.cell?, h, hj]
  | 2, hj => simp at hj; simp [World.cell?, h, hj]

set_option maxHeartbeats 2000000 in
theorem klink_any (D : Nat → Prop) (n : Nat) (lab : Int) (lv fv gv : Value) (l : List LinkL) (tv : List (Int × Value × Value)) (p q : List Nat) (w : World) (hD : ∀ k, w.heap.size ≤ k → D k) (hL : KL D w lv l tv) (hl : l.length ≤ 900)
    (hf : On D w (fun w' => Ints w' fv (intsN p))) (hg : On D w (fun w' => Ints w' gv (intsN q))) :
    Calls Try.prog 45 #[.agg #[.int .i64 (n : Int), lv], .int .i64 lab, fv, gv] w fun e w' => ∃ lv' tv', e = .returned (.agg #[.int .i64 (n : Int), lv']) ∧ KL D w' lv' (l ++ [⟨lab, p, q⟩]) tv' ∧ Below w.heap.size w w' := by
  obtain ⟨a, cap, rfl, hsh⟩ := hL.slice
  obtain ⟨a1, l1, c1, rfl⟩ : ∃ a l c, fv = .slice a l c := by obtain ⟨a, l, c, e, _⟩ := hf.now; exact ⟨a, l, c, e⟩
  obtain ⟨a2, l2, c2, rfl⟩ : ∃ a l c, gv = .slice a l c := by obtain ⟨a, l, c, e, _⟩ := hg.now; exact ⟨a, l, c, e⟩
  obtain ⟨len, Hlen⟩ : ∃ len, Hid (l.length = len) := ⟨_, rfl⟩
  rw [Hlen.out] at hL hsh hl ⊢
  have HL : Hid _ := hL
  have Htl : Hid (tv.length = len) := hL.len.trans Hlen.out
  have Hone : Hid (∀ u ∈ tvCells tv, u.oneCell' = true) := hL.one
  obtain ⟨W, HW⟩ : ∃ W, Hid ((w.alloc (.cells #[.int .i64 (n : Int), .slice a len cap] 60)).alloc (.cells #[.int .i64 0, .slice none 0 0] 60) = W) := ⟨_, rfl⟩
  obtain ⟨c, hbx, hres, hfr, hsz⟩ := two_new _ _ _ _ _ _ _ _ HW.out
  have Hsz : Hid _ := hsz
  have Hres : Hid (Box2 W (w.heap.size + 1) (.int .i64 0) (.slice none 0 0)) := hres
  have Hfr : Hid _ := hfr
  have Hnone : Hid (a = none → cap = 0 ∧ len = 0) := fun e => by have h1 := hsh.2.2 e; have h2 := hsh.1; omega
  have Hcells : Hid (∀ w', Below W.heap.size W w' → ∀ j u, (tvCells tv)[j]? = some u → ∃ b off, a = some ⟨b, off, none⟩ ∧ w'.cell? ⟨b, off + j, none⟩ = some u) := by
    intro w' hb j u hj
    obtain ⟨a', len', cap', e, _, _, hc⟩ := (hL.row.below (below_then c hb)).now
    injection e with e1 e2 e3
    subst e1
    obtain ⟨b, off, h1, _, h2⟩ := hc j u hj
    exact ⟨b, off, h1, h2⟩
  clear hL hsh hsz hres hfr
  obtain ⟨x0, x1, x2⟩ := id hbx
  have bd := (Below.refl W.heap.size W).drew
  go_enter Try.func45, Try.ntmps45
  go_upto_region 1 with fail
  rw [HW.out]
  clear HW
  have Hs2 : Hid (w.heap.size + 2 ≤ W.heap.size) := by show _ ≤ _; have := Hsz.out; omega
  have rA : ((W.alloc (.cells #[] 63)).drew).ownsRow W.heap.size 63 3 (.slice (some ⟨W.heap.size, 0, none⟩) 0 0) ([] : List (Int × Value × Value)).length (tvCells []) := ((ownsRow_on (rowK_none W W.heap.size (Nat.le_refl _))).below ((Below.refl _ _).drew)).now
  have rB : (((W.alloc (.cells #[] 63)).alloc (.cells #[.int .i64 lab, .slice a1 l1 c1, .slice a2 l2 c2] 63)).drew).ownsRow W.heap.size 63 3 (.slice (some ⟨W.heap.size, 0, none⟩) 0 0) ([] : List (Int × Value × Value)).length (tvCells []) := (((ownsRow_on (rowK_none W W.heap.size (Nat.le_refl _))).below (below_new _ _)).below ((Below.refl _ _).drew)).now
  have rC : (((W.alloc (.cells #[.int .i64 lab, .slice a1 l1 c1, .slice a2 l2 c2] 63)).alloc (.cells #[] 63)).drew).ownsRow W.heap.size 63 3 (.slice (some ⟨W.heap.size + 1, 0, none⟩) 0 0) ([] : List (Int × Value × Value)).length (tvCells []) := by
    have := ((ownsRow_on (rowK_none (W.alloc (.cells #[.int .i64 lab, .slice a1 l1 c1, .slice a2 l2 c2] 63)) W.heap.size (by simp))).below ((Below.refl _ _).drew)).now
    simpa using this
  have bUA : Below W.heap.size W ((W.alloc (.cells #[] 63)).drew) := (below_new _ _).drew
  have bUB : Below W.heap.size W (((W.alloc (.cells #[] 63)).alloc (.cells #[.int .i64 lab, .slice a1 l1 c1, .slice a2 l2 c2] 63)).drew) := (below_then (below_new _ _) (below_new _ _)).drew
  have bUC : Below W.heap.size W (((W.alloc (.cells #[.int .i64 lab, .slice a1 l1 c1, .slice a2 l2 c2] 63)).alloc (.cells #[] 63)).drew) := (below_then (below_new _ _) (below_new _ _)).drew
  have kB : (((W.alloc (.cells #[] 63)).alloc (.cells #[.int .i64 lab, .slice a1 l1 c1, .slice a2 l2 c2] 63)).drew).heap[W.heap.size + 1]? = some (.cells #[.int .i64 lab, .slice a1 l1 c1, .slice a2 l2 c2] 63 (0, 0)) := by
    have := heap_alloc_at (W.alloc (.cells #[] 63)) (.cells #[.int .i64 lab, .slice a1 l1 c1, .slice a2 l2 c2] 63)
    rw [show (W.alloc (.cells #[] 63)).heap.size = W.heap.size + 1 by simp] at this
    exact this
  have kC : (((W.alloc (.cells #[.int .i64 lab, .slice a1 l1 c1, .slice a2 l2 c2] 63)).alloc (.cells #[] 63)).drew).heap[W.heap.size]? = some (.cells #[.int .i64 lab, .slice a1 l1 c1, .slice a2 l2 c2] 63 (0, 0)) := by
    have h1 := heap_alloc_at W (.cells #[.int .i64 lab, .slice a1 l1 c1, .slice a2 l2 c2] 63)
    have h2 := (below_new (W.alloc (.cells #[.int .i64 lab, .slice a1 l1 c1, .slice a2 l2 c2] 63)) (.cells #[] 63)).block W.heap.size (by simp)
    rw [h1] at h2
    exact h2
  have Hl1 : Hid (([] : List (Int × Value × Value)).length + len ≤ 1000000) := by show _ ≤ _; simp; omega
  have Hl2 : Hid (tv.length + 1 ≤ 1000000) := by show _ ≤ _; have := Htl.out; omega
  have Ho2 : Hid (∀ u ∈ tvCells [(lab, Value.slice a1 l1 c1, Value.slice a2 l2 c2)], u.oneCell' = true) := by
    intro u hu
    rw [tvCells_one] at hu
    simp only [List.mem_cons, List.not_mem_nil, or_false] at hu
    rcases hu with rfl | rfl | rfl <;> rfl
  have HrA : Hid _ := rA
  have HrB : Hid _ := rB
  have HrC : Hid _ := rC
  have HkB : Hid _ := kB
  have HkC : Hid _ := kC
  clear rA rB rC kB kC
  go_region_held3 (fun w' => w'.cell? ⟨w.heap.size, 0, none⟩ = some (.int .i64 (n : Int)) ∧ w'.cell? ⟨w.heap.size, 1, none⟩ = some (.slice a len cap))
    (go_keep)
    (first
      | (refine wpr_append_kls rfl _ _ rfl W.heap.size _ _ [] tv a len cap HrA.out rfl rfl Htl.out Hnone.out (Hcells.out _ bUA) Hone.out Hl1.out bUA.size ?_; intro vA wA hA hgA; obtain ⟨aA, lA, cA, rfl⟩ := ownsRow_slice hA; have bA : Below W.heap.size W wA := bUA.grown hgA bUA.size (fun k hk => (ownsRow_lt HrA.out hk).1); obtain ⟨xA0, xA1, xA2⟩ := hbx.below bA)
      | (refine wpr_append_kls rfl _ _ rfl W.heap.size _ _ [] tv a len cap HrB.out rfl rfl Htl.out Hnone.out (Hcells.out _ bUB) Hone.out Hl1.out bUB.size ?_; intro vA wA hA hgA; obtain ⟨aA, lA, cA, rfl⟩ := ownsRow_slice hA; have bA : Below W.heap.size W wA := bUB.grown hgA bUB.size (fun k hk => (ownsRow_lt HrB.out hk).1); obtain ⟨xA0, xA1, xA2⟩ := hbx.below bA; have kA := (hgA.block (W.heap.size + 1) (Array.getElem?_eq_some_iff.1 HkB.out).1 (by simp [Value.ownBlock])).trans HkB.out)
      | (refine wpr_append_kls rfl _ _ rfl W.heap.size _ _ [] tv a len cap HrC.out rfl rfl Htl.out Hnone.out (Hcells.out _ bUC) Hone.out Hl1.out bUC.size ?_; intro vA wA hA hgA; obtain ⟨aA, lA, cA, rfl⟩ := ownsRow_slice hA; have bA : Below W.heap.size W wA := bUC.grown hgA bUC.size (fun k hk => (ownsRow_lt HrC.out hk).1); obtain ⟨xA0, xA1, xA2⟩ := hbx.below bA; have kA := (hgA.block W.heap.size (Array.getElem?_eq_some_iff.1 HkC.out).1 (by simp [Value.ownBlock])).trans HkC.out)
      | (refine wpr_append_kls rfl _ _ rfl W.heap.size wA _ tv [(lab, .slice a1 l1 c1, .slice a2 l2 c2)] (some _) 1 1 (show wA.ownsRow W.heap.size 63 3 (.slice aA lA cA) tv.length (tvCells tv) from hA) rfl rfl rfl (fun h => by cases h) (cells_of_blk kA) Ho2.out Hl2.out bA.size ?_; intro vB wB hB hgB; obtain ⟨aB, lB, cB, rfl⟩ := ownsRow_slice hB; have bB : Below W.heap.size W wB := bA.grown hgB bA.size (fun k hk => (ownsRow_lt hA hk).1); obtain ⟨xB0, xB1, xB2⟩ := hbx.below bB; obtain ⟨r0, r1, r2⟩ := Hres.out.below bB; have q0 := (bB.frozen (p := ⟨w.heap.size + 1, 0, none⟩) Hres.out.1).trans (Hfr.out 0); have q1 := (bB.frozen (p := ⟨w.heap.size + 1, 1, none⟩) Hres.out.1).trans (Hfr.out 1))
      | (have hA' : wA.ownsRow W.heap.size 63 3 (.slice aA lA cA) tv.length (tvCells tv) := hA; refine wpr_append_kls rfl _ _ rfl W.heap.size (wA.alloc (.cells #[.int .i64 lab, .slice a1 l1 c1, .slice a2 l2 c2] 63)) _ tv [(lab, .slice a1 l1 c1, .slice a2 l2 c2)] (some ⟨wA.heap.size, 0, none⟩) 1 1 (hA'.alloc _) rfl rfl rfl (fun h => by cases h) (cells_of_new rfl (Below.refl _ _)) Ho2.out Hl2.out (Nat.le_trans bA.size (by simp)) ?_; intro vB wB hB hgB; obtain ⟨aB, lB, cB, rfl⟩ := ownsRow_slice hB; have bB : Below W.heap.size W wB := (bA.alloc bA.size _).grown hgB (Nat.le_trans bA.size (by simp)) (fun k hk => (ownsRow_lt hA hk).1); obtain ⟨xB0, xB1, xB2⟩ := hbx.below bB; obtain ⟨r0, r1, r2⟩ := Hres.out.below bB; have q0 := (bB.frozen (p := ⟨w.heap.size + 1, 0, none⟩) Hres.out.1).trans (Hfr.out 0); have q1 := (bB.frozen (p := ⟨w.heap.size + 1, 1, none⟩) Hres.out.1).trans (Hfr.out 1)))
  all_goals
    have HB : Hid (wB.ownsRow W.heap.size 63 3 (.slice aB lB cB) (tv ++ [(lab, Value.slice a1 l1 c1, Value.slice a2 l2 c2)]).length (tvCells (tv ++ [(lab, Value.slice a1 l1 c1, Value.slice a2 l2 c2)]))) := hB
    have HbB : Hid (Below w.heap.size w wB) := below_then c bB
    obtain ⟨wf, Hwf⟩ : ∃ wf, Hid ((wB.setCell ⟨w.heap.size + 1, 0, none⟩ (.int .i64 (n : Int))).setCell ⟨w.heap.size + 1, 1, none⟩ (.slice aB lB cB) = wf) := ⟨_, rfl⟩
    have z0 : wf.cell? ⟨w.heap.size + 1, 0, none⟩ = some (.int .i64 (n : Int)) := by
      rw [← Hwf.out, World.cell?_setCell_other _ _ _ _ (by simp)]
      exact World.cell?_setCell_same _ _ _ r1
    have z1 : wf.cell? ⟨w.heap.size + 1, 1, none⟩ = some (.slice aB lB cB) := by
      rw [← Hwf.out]
      exact World.cell?_setCell_same' _ _ _ (by rw [World.cell?_setCell_other _ _ _ _ (by simp), r2]; rfl)
    have hfin : KL D wf (.slice aB lB cB) (l ++ [⟨lab, p, q⟩]) (tv ++ [(lab, Value.slice a1 l1 c1, Value.slice a2 l2 c2)]) := by
      have hw : ∀ k, k < w.heap.size → D k → D k ∧ k ≠ w.heap.size + 1 := fun k hk q => ⟨q, by omega⟩
      have h1 := KL.grow (B := W.heap.size) (HL.out.weaken (D' := fun k => D k ∧ k ≠ w.heap.size + 1) hw) ⟨lab, p, q⟩ _ _ (hf.weaken hw) (hg.weaken hw) HbB.out HB.out (fun k hk => ⟨hD k (by have := Hs2.out; omega), by have := Hs2.out; omega⟩)
      rw [← Hwf.out]
      exact ((h1.set (a := ⟨w.heap.size + 1, 0, none⟩) (fun q => q.2 rfl) _).set (a := ⟨w.heap.size + 1, 1, none⟩) (fun q => q.2 rfl) _).weaken fun k _ q => q.1
    have hbf : Below w.heap.size w wf := by
      rw [← Hwf.out]
      exact (HbB.out.setCell (p := ⟨w.heap.size + 1, 0, none⟩) (by simp) _).setCell (p := ⟨w.heap.size + 1, 1, none⟩) (by simp) _
    have HR : Hid (∃ lv' tv', Ending.returned (.agg #[.int .i64 (n : Int), .slice aB lB cB]) = .returned (.agg #[.int .i64 (n : Int), lv']) ∧ KL D wf lv' (l ++ [⟨lab, p, q⟩]) tv' ∧ Below w.heap.size w wf) := ⟨_, _, rfl, hfin, hbf⟩
    rw [Hwf.out]
    clear hfin hbf Hwf hB hgB bB HB HbB xB0 xB1 xB2 r0 r1 r2 q0 q1 xA0 xA1 xA2 hA hgA bA
    go_wp2
    refine bodyPost_ret (v := .agg #[.int .i64 (n : Int), .slice aB lB cB]) ?_ rfl HR.out
    simp [results, Try.results45, go_sem, z0, z1]

end Go.Proofs.Ytfgimobmaahmmaa

/- The answers of the document itself for grow: what stands where while a block grows. -/
namespace Go.Proofs.Ytfgimobmaahmmaa
open Go.RowKit
set_option linter.unusedVariables false
set_option linter.unusedSimpArgs false
set_option maxRecDepth 4000

/-- The blocks that nobody writes while a block grows. -/
def outK (D : Nat → Prop) (s : Nat) (k : Nat) : Prop := D k ∧ k ≠ s + 1 ∧ k ≠ s + 2

/-- What stands while a block grows: the block in its box, what has grown in its own, and where the answer will lie. -/
structure KAt (D : Nat → Prop) (w : World) (x0 x1 x2 : Value) (g : GrowL) (lv : Value) (tv : List (Int × Value × Value)) (w' : World) : Prop where
  below : Below w.heap.size w w'
  box : Box3 w' w.heap.size x0 x1 x2
  cell : w'.heap[w.heap.size + 1]? = some (.cells #[.int .i64 (g.places : Int), lv] 60 (0, 0))
  res : w'.heap[w.heap.size + 2]? = some (.cells #[.int .i64 0, .slice none 0 0] 60 (0, 0))
  links : KL (outK D w.heap.size) w' lv g.links tv

section
variable {D : Nat → Prop} {w w1 : World} {x0 x1 x2 : Value} {g : GrowL} {lv : Value} {tv : List (Int × Value × Value)}

theorem KAt.lt (h : KAt D w x0 x1 x2 g lv tv w1) : w.heap.size + 2 < w1.heap.size := (Array.getElem?_eq_some_iff.1 h.res).1
theorem KAt.to {w2 : World} (h : KAt D w x0 x1 x2 g lv tv w1) (hb : Below w1.heap.size w1 w2) : KAt D w x0 x1 x2 g lv tv w2 := by
  have hl := h.lt
  exact ⟨below_then h.below hb, h.box.below hb, by rw [hb.block _ (by omega)]; exact h.cell, by rw [hb.block _ hl]; exact h.res, h.links.below hb⟩
theorem KAt.new (h : KAt D w x0 x1 x2 g lv tv w1) (hD : ∀ k, w.heap.size ≤ k → D k) : ∀ k, w1.heap.size ≤ k → outK D w.heap.size k := fun k hk => by
  have := h.lt
  exact ⟨hD k (by omega), by omega, by omega⟩
theorem KAt.at (h : KAt D w x0 x1 x2 g lv tv w1) : w1.cell? ⟨w.heap.size + 1, 0, none⟩ = some (.int .i64 (g.places : Int)) ∧ w1.cell? ⟨w.heap.size + 1, 1, none⟩ = some lv ∧ w1.frozen? ⟨w.heap.size + 1, 0, none⟩ = false ∧ w1.frozen? ⟨w.heap.size + 1, 1, none⟩ = false := by
  refine ⟨?_, ?_, ?_, ?_⟩ <;> simp [World.cell?, World.frozen?, h.cell]
theorem KAt.out (h : KAt D w x0 x1 x2 g lv tv w1) : w1.cell? ⟨w.heap.size + 2, 0, none⟩ = some (.int .i64 0) ∧ w1.cell? ⟨w.heap.size + 2, 1, none⟩ = some (.slice none 0 0) ∧ w1.frozen? ⟨w.heap.size + 2, 0, none⟩ = false ∧ w1.frozen? ⟨w.heap.size + 2, 1, none⟩ = false := by
  refine ⟨?_, ?_, ?_, ?_⟩ <;> simp [World.cell?, World.frozen?, h.res]

/-- How many places there are is set anew. -/
theorem KAt.place (h : KAt D w x0 x1 x2 g lv tv w1) (n : Nat) : KAt D w x0 x1 x2 ⟨n, g.links⟩ lv tv (w1.setCell ⟨w.heap.size + 1, 0, none⟩ (.int .i64 (n : Int))) := by
  have O := OnlyB.set (w.heap.size + 1) 0 w1 (.int .i64 (n : Int))
  have hl := h.lt
  refine ⟨h.below.setCell (p := ⟨w.heap.size + 1, 0, none⟩) (by simp) _, ⟨Nat.lt_of_lt_of_le h.box.1 O.size, O.cell (by omega) h.box.2.1, O.cell (by omega) h.box.2.2.1, O.cell (by omega) h.box.2.2.2⟩, ?_, ?_, ?_⟩
  · rw [setCell_blockK h.cell]; rfl
  · rw [O.block _ (by omega) (by omega)]; exact h.res
  · exact h.links.set (a := ⟨w.heap.size + 1, 0, none⟩) (fun q => q.2.1 rfl) _
/-- What has grown is set anew. -/
theorem KAt.store {g' : GrowL} {lv' : Value} {tv' : List (Int × Value × Value)} (h : KAt D w x0 x1 x2 g lv tv w1) (hL : KL (outK D w.heap.size) w1 lv' g'.links tv') :
    KAt D w x0 x1 x2 g' lv' tv' ((w1.setCell ⟨w.heap.size + 1, 0, none⟩ (.int .i64 (g'.places : Int))).setCell ⟨w.heap.size + 1, 1, none⟩ lv') := by
  have h1 := h.place g'.places
  have O := OnlyB.set (w.heap.size + 1) 1 (w1.setCell ⟨w.heap.size + 1, 0, none⟩ (.int .i64 (g'.places : Int))) lv'
  have hl := h1.lt
  refine ⟨h1.below.setCell (p := ⟨w.heap.size + 1, 1, none⟩) (by simp) _, ⟨Nat.lt_of_lt_of_le h1.box.1 O.size, O.cell (by omega) h1.box.2.1, O.cell (by omega) h1.box.2.2.1, O.cell (by omega) h1.box.2.2.2⟩, ?_, ?_, ?_⟩
  · rw [setCell_blockK h1.cell]; rfl
  · rw [O.block _ (by omega) (by omega)]; exact h1.res
  · exact (hL.set (a := ⟨w.heap.size + 1, 0, none⟩) (fun q => q.2.1 rfl) _).set (a := ⟨w.heap.size + 1, 1, none⟩) (fun q => q.2.1 rfl) _

/-- The answer, once it is laid down. -/
theorem KAt.answer {g' : GrowL} {lv' : Value} {tv' : List (Int × Value × Value)} (h : KAt D w x0 x1 x2 g lv tv w1) (hL : KL (outK D w.heap.size) w1 lv' g'.links tv') {wf : World}
    (hw : (w1.setCell ⟨w.heap.size + 2, 0, none⟩ (.int .i64 (g'.places : Int))).setCell ⟨w.heap.size + 2, 1, none⟩ lv' = wf) :
    wf.cell? ⟨w.heap.size + 2, 0, none⟩ = some (.int .i64 (g'.places : Int)) ∧ wf.cell? ⟨w.heap.size + 2, 1, none⟩ = some lv' ∧ KL D wf lv' g'.links tv' ∧ Below w.heap.size w wf := by
  obtain ⟨r0, r1, _, _⟩ := h.out
  subst hw
  refine ⟨?_, ?_, ?_, ?_⟩
  · rw [World.cell?_setCell_other _ _ _ _ (by simp)]; exact World.cell?_setCell_same _ _ _ r0
  · exact World.cell?_setCell_same' _ _ _ (by rw [World.cell?_setCell_other _ _ _ _ (by simp), r1]; rfl)
  · exact ((hL.set (a := ⟨w.heap.size + 2, 0, none⟩) (fun q => q.2.2 rfl) _).set (a := ⟨w.heap.size + 2, 1, none⟩) (fun q => q.2.2 rfl) _).weaken fun k _ q => q.1
  · exact (h.below.setCell (p := ⟨w.heap.size + 2, 0, none⟩) (by simp) _).setCell (p := ⟨w.heap.size + 2, 1, none⟩) (by simp) _
end

/-- Three new variables at the beginning. -/
theorem kat_start (D : Nat → Prop) (w W : World) (x0 x1 x2 : Value) (g : GrowL) (lv : Value) (tv : List (Int × Value × Value)) (hL : KL D w lv g.links tv)
    (h : ((w.alloc (.cells #[x0, x1, x2] 24)).alloc (.cells #[.int .i64 (g.places : Int), lv] 60)).alloc (.cells #[.int .i64 0, .slice none 0 0] 60) = W) : KAt D w x0 x1 x2 g lv tv W := by
  have b1 := below_new w (.cells #[x0, x1, x2] 24)
  have b2 := below_new (w.alloc (.cells #[x0, x1, x2] 24)) (.cells #[.int .i64 (g.places : Int), lv] 60)
  have b3 := below_new ((w.alloc (.cells #[x0, x1, x2] 24)).alloc (.cells #[.int .i64 (g.places : Int), lv] 60)) (.cells #[.int .i64 0, .slice none 0 0] 60)
  have e1 : (w.alloc (.cells #[x0, x1, x2] 24)).heap.size = w.heap.size + 1 := by simp
  have e2 : ((w.alloc (.cells #[x0, x1, x2] 24)).alloc (.cells #[.int .i64 (g.places : Int), lv] 60)).heap.size = w.heap.size + 2 := by simp
  have h1 := ((box3_new w x0 x1 x2 24).below b2).below b3
  have h2 := heap_alloc_at (w.alloc (.cells #[x0, x1, x2] 24)) (.cells #[.int .i64 (g.places : Int), lv] 60)
  have h3 := heap_alloc_at ((w.alloc (.cells #[x0, x1, x2] 24)).alloc (.cells #[.int .i64 (g.places : Int), lv] 60)) (.cells #[.int .i64 0, .slice none 0 0] 60)
  rw [← b3.block _ (by simp), e1] at h2
  rw [e2] at h3
  subst h
  refine ⟨below_then b1 (below_then b2 b3), h1, h2, h3, ?_⟩
  have := hL.weaken (D' := outK D w.heap.size) fun k hk q => ⟨q, by omega, by omega⟩
  exact ((this.below b1).below b2).below b3

/-- A block grows as the document says. -/
def KBet (f : Nat) (b : BlockL) : Prop := ∀ (D : Nat → Prop) (v : Value) (p q : Nat) (g : GrowL) (lv : Value) (tv : List (Int × Value × Value)) (w : World), BlockV w v b → (∀ k, w.heap.size ≤ k → D k) → KL D w lv g.links tv →
  g.places + 4 * cntB f b ≤ 900 → g.links.length + 4 * cntB f b ≤ 900 →
  Calls Try.prog 23 #[v, .int .i64 (p : Int), .int .i64 (q : Int), .agg #[.int .i64 (g.places : Int), lv]] w fun e w' => ∃ lv' tv', e = .returned (.agg #[.int .i64 ((growK f b p q g).places : Int), lv']) ∧ KL D w' lv' (growK f b p q g).links tv' ∧ Below w.heap.size w w'

/-- A link from one place to another one. -/
theorem klink_one (D : Nat → Prop) (n : Nat) (lab : Int) (lv : Value) (l : List LinkL) (tv : List (Int × Value × Value)) (p q : Nat) (w : World) (hD : ∀ k, w.heap.size ≤ k → D k) (hL : KL D w lv l tv) (hl : l.length ≤ 900) :
    Calls Try.prog 45 #[.agg #[.int .i64 (n : Int), lv], .int .i64 lab, .slice (some ⟨w.heap.size, 0, none⟩) 1 1, .slice (some ⟨w.heap.size + 1, 0, none⟩) 1 1] ((w.alloc (.cells #[.int .i64 (p : Int)] 3)).alloc (.cells #[.int .i64 (q : Int)] 3))
      fun e w' => ∃ lv' tv', e = .returned (.agg #[.int .i64 (n : Int), lv']) ∧ KL D w' lv' (l ++ [⟨lab, [p], [q]⟩]) tv' ∧ Below w.heap.size w w' := by
  have b1 := below_new w (.cells #[.int .i64 (p : Int)] 3)
  have b2 := below_new (w.alloc (.cells #[.int .i64 (p : Int)] 3)) (.cells #[.int .i64 (q : Int)] 3)
  have h1 := ints_lit_on w w.heap.size [(p : Int)] 3 1 rfl (by omega) rfl
  have h2 := ints_lit_on (w.alloc (.cells #[.int .i64 (p : Int)] 3)) (w.heap.size + 1) [(q : Int)] 3 1 rfl (by omega) (by simp)
  have k1 := (h1.weaken (D' := D) fun k _ hk => hD k (by omega)).below b2
  have k2 := h2.weaken (D' := D) fun k _ hk => hD k (by omega)
  refine (klink_any D n lab lv _ _ l tv [p] [q] _ (fun k hk => hD k (by simp at hk; omega)) ((hL.below b1).below b2) hl k1 k2).mono ?_
  rintro e w' ⟨lv', tv', rfl, h3, h4⟩
  exact ⟨lv', tv', rfl, h3, below_then b1 (below_then b2 h4)⟩

end Go.Proofs.Ytfgimobmaahmmaa

/- The answers of the document itself for grow: a block grows. -/
namespace Go.Proofs.Ytfgimobmaahmmaa
open Go.RowKit
set_option linter.unusedVariables false
set_option linter.unusedSimpArgs false
set_option maxRecDepth 4000

theorem sumB_drop {cnt : BlockL → Nat} {l : List BlockL} {k : Nat} (h : k < l.length) : sumB cnt (l.drop k) = cnt l[k] + sumB cnt (l.drop (k + 1)) := by
  rw [List.drop_eq_getElem_cons h]; rfl

/-- What is answered in the end. -/
def Answers (D : Nat → Prop) (w : World) (T : GrowL) (e : Ending) (w' : World) : Prop := ∃ lv' tv', e = .returned (.agg #[.int .i64 (T.places : Int), lv']) ∧ KL D w' lv' T.links tv' ∧ Below w.heap.size w w'

set_option maxHeartbeats 4000000 in
theorem kbet_leaf (f : Nat) (b : BlockL) (hok : okB (f + 1) b) (hfit : Fit (f + 1) b) (hk : ∀ k ∈ b.kids, KBet f k) (hkind : b.kind ≤ 2) : KBet (f + 1) b := by
  intro D v p q g lv tv w hv hD hL hp hl
  obtain ⟨f1, f2, f3, f4, f5, f6⟩ := hok.1
  have Hadd : Hid (∀ x ∈ b.kids, ∀ p q g, AddsG g (growK f x p q g) (cntB f x)) := fun x hx => adds_fit (hok.2 x hx) (hfit x hx)
  have HT : Hid (growF (growK f) b p q g = growK (f + 1) b p q g) := rfl
  have Hcnt : Hid (cntB (f + 1) b = 1 + sumB (cntB f) b.kids) := rfl
  rw [Hcnt.out] at hp hl
  show Calls Try.prog 23 _ w (Answers D w (growK (f + 1) b p q g))
  obtain ⟨T, HTT⟩ : ∃ T, Hid (growK (f + 1) b p q g = T) := ⟨_, rfl⟩
  rw [HTT.out] at HT ⊢
  clear HTT
  obtain ⟨kv, rfl, hK⟩ := blockV_iff.1 hv
  obtain ⟨a, cap, rfl, hmx, hsh⟩ := hK.slice
  obtain ⟨n, Hn⟩ : ∃ n, Hid (b.kids.length = n) := ⟨_, rfl⟩
  obtain ⟨K, HK⟩ : ∃ K, Hid (b.kind = K) := ⟨_, rfl⟩
  obtain ⟨L, HL⟩ : ∃ L, Hid (b.label = L) := ⟨_, rfl⟩
  rw [HK.out] at f1 f2 f3 f4 f5 f6
  rw [Hn.out] at f4 f5 f6 hK hmx
  rw [HK.out, HL.out, Hn.out]
  obtain ⟨al, cl, rfl, _⟩ := hL.slice
  obtain ⟨ln, Hln⟩ : ∃ ln, Hid (g.links.length = ln) := ⟨_, rfl⟩
  rw [Hln.out] at hL hl ⊢
  obtain ⟨n0, Hn0⟩ : ∃ n0, Hid (g.places = n0) := ⟨_, rfl⟩
  obtain ⟨W, HW⟩ : ∃ W, Hid (((w.alloc (.cells #[.int .i64 K, .int .i64 L, .slice a n cap] 24)).alloc (.cells #[.int .i64 (g.places : Int), .slice al ln cl] 60)).alloc (.cells #[.int .i64 0, .slice none 0 0] 60) = W) := ⟨_, rfl⟩
  have hA := kat_start D w W _ _ _ g _ tv hL HW.out
  rw [Hn0.out] at HW ⊢
  rw [Hn0.out] at hp
  have Hk : Hid _ := hk
  have Hp : Hid _ := hp
  have Hl : Hid _ := hl
  have HD : Hid _ := hD
  have HA : Hid _ := hA
  clear hv hsh hL hk hp hl hD
  go_enter Try.func23, Try.ntmps23
  go_upto_region 2 with fail
  rw [HW.out]
  clear HW
  obtain ⟨d0, d1, d2, d3⟩ := hA.at
  obtain ⟨x0, x1, x2, x3⟩ := hA.box
  rw [Hn0.out] at d0
  have hnew := hA.new HD.out
  have hlb : g.links.length ≤ 900 := by have := Hl.out; have := Hln.out; omega
  have hLk := hA.links
  rw [HK.out] at hkind
  obtain rfl | rfl : K = 1 ∨ K = 2 := by omega
  · have R : Hid (putG g 0 [p] [q] = T) := by show _ = _; rw [← HT.out]; simp only [growF]; rw [if_pos HK.out]
    clear f1 f2 f3 f4 f5 f6 hkind
    go_wp2_with fail
    refine (klink_one (outK D w.heap.size) n0 0 _ g.links tv p q W hnew (by exact hLk) hlb).mono ?_
    rintro e w2 ⟨lv2, tv2, rfl, hL2, b2⟩
    have hA2 := hA.to b2
    clear x0 x1 x2 x3 d0 d1 d2 d3 b2
    obtain ⟨r0, r1, r2, r3⟩ := hA2.out
    obtain ⟨al2, cl2, rfl, _⟩ := hL2.slice
    obtain ⟨wf, Hwf⟩ : ∃ wf, Hid ((w2.setCell ⟨w.heap.size + 2, 0, none⟩ (.int .i64 (n0 : Int))).setCell ⟨w.heap.size + 2, 1, none⟩ (.slice al2 (g.links ++ [(⟨0, [p], [q]⟩ : LinkL)]).length cl2) = wf) := ⟨_, rfl⟩
    obtain ⟨z0, z1, z2, z3⟩ := hA2.answer (g' := putG g 0 [p] [q]) hL2 (wf := wf) (by rw [← Hwf.out, ← Hn0.out]; rfl)
    have HR : Hid (Answers D w T (.returned (.agg #[.int .i64 (n0 : Int), .slice al2 (g.links ++ [(⟨0, [p], [q]⟩ : LinkL)]).length cl2])) wf) := ⟨_, _, by rw [← R.out, ← Hn0.out]; rfl, by rw [← R.out]; exact z2, z3⟩
    have z0 : wf.cell? ⟨w.heap.size + 2, 0, none⟩ = some (.int .i64 (n0 : Int)) := by rw [z0, ← Hn0.out]; rfl
    obtain ⟨l3, Hl3⟩ : ∃ l3, Hid ((g.links ++ [(⟨0, [p], [q]⟩ : LinkL)]).length = l3) := ⟨_, rfl⟩
    rw [Hl3.out] at HR Hwf z1 ⊢
    clear z2 z3 hL2 hA2
    go_wp2
    rw [Hwf.out]
    refine bodyPost_ret (v := .agg #[.int .i64 (n0 : Int), .slice al2 l3 cl2]) ?_ rfl HR.out
    simp [results, Try.results23, go_sem, z0, z1]
  · have R : Hid (putG g L [p] [q] = T) := by show _ = _; rw [← HT.out]; simp only [growF]; rw [if_neg (by rw [HK.out]; decide), if_pos HK.out, HL.out]
    clear f1 f2 f3 f4 f5 f6 hkind
    go_wp2_with fail
    refine (klink_one (outK D w.heap.size) n0 L _ g.links tv p q W hnew (by exact hLk) hlb).mono ?_
    rintro e w2 ⟨lv2, tv2, rfl, hL2, b2⟩
    have hA2 := hA.to b2
    clear x0 x1 x2 x3 d0 d1 d2 d3 b2
    obtain ⟨r0, r1, r2, r3⟩ := hA2.out
    obtain ⟨al2, cl2, rfl, _⟩ := hL2.slice
    obtain ⟨wf, Hwf⟩ : ∃ wf, Hid ((w2.setCell ⟨w.heap.size + 2, 0, none⟩ (.int .i64 (n0 : Int))).setCell ⟨w.heap.size + 2, 1, none⟩ (.slice al2 (g.links ++ [(⟨L, [p], [q]⟩ : LinkL)]).length cl2) = wf) := ⟨_, rfl⟩
    obtain ⟨z0, z1, z2, z3⟩ := hA2.answer (g' := putG g L [p] [q]) hL2 (wf := wf) (by rw [← Hwf.out, ← Hn0.out]; rfl)
    have HR : Hid (Answers D w T (.returned (.agg #[.int .i64 (n0 : Int), .slice al2 (g.links ++ [(⟨L, [p], [q]⟩ : LinkL)]).length cl2])) wf) := ⟨_, _, by rw [← R.out, ← Hn0.out]; rfl, by rw [← R.out]; exact z2, z3⟩
    have z0 : wf.cell? ⟨w.heap.size + 2, 0, none⟩ = some (.int .i64 (n0 : Int)) := by rw [z0, ← Hn0.out]; rfl
    obtain ⟨l3, Hl3⟩ : ∃ l3, Hid ((g.links ++ [(⟨L, [p], [q]⟩ : LinkL)]).length = l3) := ⟨_, rfl⟩
    rw [Hl3.out] at HR Hwf z1 ⊢
    clear z2 z3 hL2 hA2
    go_wp2
    rw [Hwf.out]
    refine bodyPost_ret (v := .agg #[.int .i64 (n0 : Int), .slice al2 l3 cl2]) ?_ rfl HR.out
    simp [results, Try.results23, go_sem, z0, z1]

end Go.Proofs.Ytfgimobmaahmmaa

/- The answers of the document itself for grow: a block grows. -/
namespace Go.Proofs.Ytfgimobmaahmmaa
open Go.RowKit
set_option linter.unusedVariables false
set_option linter.unusedSimpArgs false
set_option maxRecDepth 4000

set_option maxHeartbeats 4000000 in
theorem kbet_seq (f : Nat) (b : BlockL) (hok : okB (f + 1) b) (hfit : Fit (f + 1) b) (hk : ∀ k ∈ b.kids, KBet f k) (hkind : b.kind = 3) : KBet (f + 1) b := by
  intro D v p q g lv tv w hv hD hL hp hl
  obtain ⟨f1, f2, f3, f4, f5, f6⟩ := hok.1
  have Hadd : Hid (∀ x ∈ b.kids, ∀ p q g, AddsG g (growK f x p q g) (cntB f x)) := fun x hx => adds_fit (hok.2 x hx) (hfit x hx)
  have HT : Hid (growF (growK f) b p q g = growK (f + 1) b p q g) := rfl
  have Hcnt : Hid (cntB (f + 1) b = 1 + sumB (cntB f) b.kids) := rfl
  rw [Hcnt.out] at hp hl
  show Calls Try.prog 23 _ w (Answers D w (growK (f + 1) b p q g))
  obtain ⟨T, HTT⟩ : ∃ T, Hid (growK (f + 1) b p q g = T) := ⟨_, rfl⟩
  rw [HTT.out] at HT ⊢
  clear HTT
  obtain ⟨kv, rfl, hK⟩ := blockV_iff.1 hv
  obtain ⟨a, cap, rfl, hmx, hsh⟩ := hK.slice
  obtain ⟨n, Hn⟩ : ∃ n, Hid (b.kids.length = n) := ⟨_, rfl⟩
  obtain ⟨K, HK⟩ : ∃ K, Hid (b.kind = K) := ⟨_, rfl⟩
  obtain ⟨L, HL⟩ : ∃ L, Hid (b.label = L) := ⟨_, rfl⟩
  rw [HK.out] at f1 f2 f3 f4 f5 f6
  rw [Hn.out] at f4 f5 f6 hK hmx
  rw [HK.out, HL.out, Hn.out]
  obtain ⟨al, cl, rfl, _⟩ := hL.slice
  obtain ⟨ln, Hln⟩ : ∃ ln, Hid (g.links.length = ln) := ⟨_, rfl⟩
  rw [Hln.out] at hL hl ⊢
  obtain ⟨n0, Hn0⟩ : ∃ n0, Hid (g.places = n0) := ⟨_, rfl⟩
  obtain ⟨W, HW⟩ : ∃ W, Hid (((w.alloc (.cells #[.int .i64 K, .int .i64 L, .slice a n cap] 24)).alloc (.cells #[.int .i64 (g.places : Int), .slice al ln cl] 60)).alloc (.cells #[.int .i64 0, .slice none 0 0] 60) = W) := ⟨_, rfl⟩
  have hA := kat_start D w W _ _ _ g _ tv hL HW.out
  rw [Hn0.out] at HW ⊢
  rw [Hn0.out] at hp
  have Hk : Hid _ := hk
  have Hp : Hid _ := hp
  have Hl : Hid _ := hl
  have HD : Hid _ := hD
  have HA : Hid _ := hA
  clear hv hsh hL hk hp hl hD
  go_enter Try.func23, Try.ntmps23
  go_upto_region 2 with fail
  rw [HW.out]
  clear HW
  rw [HK.out] at hkind
  subst hkind
  have R : Hid (growSeq (growK f) (b.kids.drop 0) p q g = T) := by show _ = _; rw [← HT.out]; simp only [growF]; rw [if_neg (by rw [HK.out]; decide), if_neg (by rw [HK.out]; decide), if_pos HK.out, List.drop_zero]
  obtain ⟨m, Hm⟩ : ∃ m, Hid (n = m + 1) := ⟨n - 1, by show n = n - 1 + 1; have := f5 (by omega); omega⟩
  have Hpp : Hid (g.places + 4 * sumB (cntB f) (b.kids.drop 0) ≤ 900) := by show _ ≤ _; have := Hp.out; have := Hn0.out; rw [List.drop_zero]; omega
  have Hll : Hid (g.links.length + 4 * sumB (cntB f) (b.kids.drop 0) ≤ 900) := by show _ ≤ _; have := Hl.out; have := Hln.out; rw [List.drop_zero]; omega
  obtain ⟨x0, x1, x2, x3⟩ := hA.box
  clear f1 f2 f3 f4 f5 f6 hA HT
  rw [Hm.out] at hmx hK Hn HA x3 ⊢
  clear Hm
  go_wp2_with fail
  clear x0 x1 x2 x3
  go_loopg [1, 49] (m + 1) (fun gk pv i wr => ∃ (k p' : Nat) (g' : GrowL) (lv' : Value) (tv' : List (Int × Value × Value)), k + gk = m + 1 ∧ i = .int .i64 k ∧ pv = .int .i64 (p' : Int) ∧ Hid (KAt D w (.int .i64 3) (.int .i64 L) (.slice a (m + 1) cap) g' lv' tv' wr) ∧ Hid (g'.places + 4 * sumB (cntB f) (b.kids.drop k) ≤ 900) ∧ Hid (g'.links.length + 4 * sumB (cntB f) (b.kids.drop k) ≤ 900) ∧ Hid (growSeq (growK f) (b.kids.drop k) p' q g' = T))
  case atStart => exact ⟨0, p, g, _, tv, by omega, rfl, rfl, HA, Hpp, Hll, R⟩
  case round =>
    clear HA Hpp Hll R Hp Hl
    obtain ⟨k, p', g', lv', tv', hkg, rfl, rfl, HA, Hpp, Hll, HTe⟩ := hrel
    by_cases hk : k < m + 1
    · have Hkl : Hid (k < b.kids.length) := by show k < b.kids.length; rw [Hn.out]; exact hk
      obtain ⟨bk, off, ka, kl, kc, ea, hlt, hcc, hkid⟩ := kid_W hK Hkl.out
      subst ea
      obtain ⟨c0, c1, c2⟩ := hcc wr HA.out.below
      have Hgr : Hid (KBet f (b.kids[k]'Hkl.out)) := Hk.out _ (List.getElem_mem _)
      have Had : Hid (∀ p q g, AddsG g (growK f (b.kids[k]'Hkl.out) p q g) (cntB f (b.kids[k]'Hkl.out))) := Hadd.out _ (List.getElem_mem _)
      have Hsum : Hid _ := sumB_drop (cnt := cntB f) Hkl.out
      obtain ⟨al', cl', rfl, _⟩ := HA.out.links.slice
      obtain ⟨l', Hl'⟩ : ∃ l', Hid (g'.links.length = l') := ⟨_, rfl⟩
      obtain ⟨n', Hn'⟩ : ∃ n', Hid (g'.places = n') := ⟨_, rfl⟩
      by_cases hkm : k < m
      · have Hst : Hid _ := growSeq_step (K := growK f) Hn.out hkm Hkl.out p' q g'
        obtain ⟨kb, Hkb⟩ : ∃ kb, Hid (b.kids[k]'Hkl.out = kb) := ⟨_, rfl⟩
        rw [Hkb.out] at c0 c1 hkid Hgr Hst Had Hsum
        have b3 := below_new wr (.cells #[.int .i64 kb.kind, .int .i64 kb.label, .slice ka kl kc] 24)
        have hx3 := box3_new wr (.int .i64 kb.kind) (.int .i64 kb.label) (.slice ka kl kc) 24
        have hA4 := HA.out.to b3
        have Hwl : Hid (w.heap.size + 2 < wr.heap.size) := HA.out.lt
        obtain ⟨w4, Hw4⟩ : ∃ w4, Hid (wr.alloc (.cells #[.int .i64 kb.kind, .int .i64 kb.label, .slice ka kl kc] 24) = w4) := ⟨_, rfl⟩
        rw [Hw4.out] at hx3 hA4
        go_upto_region 11 with fail
        rw [Hw4.out]
        clear Hw4 c0 c1 c2 b3 hlt hcc HA
        have hA5 := hA4.place (n' + 1)
        have O5 := OnlyB.set (w.heap.size + 1) 0 w4 (.int .i64 ((n' + 1 : Nat) : Int))
        have hx5 : Box3 (w4.setCell ⟨w.heap.size + 1, 0, none⟩ (.int .i64 ((n' + 1 : Nat) : Int))) wr.heap.size (.int .i64 kb.kind) (.int .i64 kb.label) (.slice ka kl kc) := by
          have := Hwl.out
          exact ⟨Nat.lt_of_lt_of_le hx3.1 O5.size, O5.cell (by omega) hx3.2.1, O5.cell (by omega) hx3.2.2.1, O5.cell (by omega) hx3.2.2.2⟩
        obtain ⟨x0, x1, x2, x3⟩ := hA4.box
        obtain ⟨e0, e1, e2, e3⟩ := hA4.at
        rw [Hn'.out] at e0
        have ecast : ((n' + 1 : Nat) : Int) = (n' : Int) + 1 := by omega
        rw [ecast] at hx5 hA5
        obtain ⟨w5, Hw5⟩ : ∃ w5, Hid (w4.setCell ⟨w.heap.size + 1, 0, none⟩ (.int .i64 ((n' : Int) + 1)) = w5) := ⟨_, rfl⟩
        rw [Hw5.out] at hx5 hA5
        have hlast : (k : Int) < ((m + 1 : Nat) : Int) - 1 := by omega
        have h900 : n' + 1 ≤ 900 := by have h1 := Hpp.out; have h2 := Hn'.out; have h3 := Hsum.out; have h4 := cnt_pos f kb (by rw [← Hkb.out]; exact hfit _ (List.getElem_mem _)); omega
        clear O5 ecast
        go_upto_region 15 with fail
        rw [Hw5.out]
        clear Hw5 x0 x1 x2 x3 e0 e1 e2 e3 hx3 hA4
        obtain ⟨M, HM⟩ : ∃ M, Hid (n' + 1 = M) := ⟨_, rfl⟩
        have HMM : Hid (M = n' + 1) := HM.out.symm
        have Hrest : Hid (1 ≤ sumB (cntB f) (b.kids.drop (k + 1))) := by
          show 1 ≤ _
          have hk2 : k + 1 < b.kids.length := by rw [Hn.out]; omega
          rw [sumB_drop hk2]
          have := cnt_pos f _ (hfit _ (List.getElem_mem hk2))
          omega
        have eM : (n' : Int) + 1 = (M : Int) := by have := HM.out; omega
        rw [HM.out] at hA5
        rw [Hn'.out, HM.out] at Hst
        obtain ⟨z0, z1, z2, z3⟩ := hx5
        obtain ⟨e0, e1, e2, e3⟩ := hA5.at
        rw [Hl'.out] at e1
        have hcall := Hgr.out (outK D w.heap.size) _ p' n' ⟨M, g'.links⟩ _ tv' w5 (hkid.below hA5.below) (hA5.new HD.out) hA5.links (by have h1 := Hpp.out; have h2 := Hn'.out; have h3 := Hsum.out; have h4 := HMM.out; have h5 := Hrest.out; simp only; omega) (by have h1 := Hll.out; have h3 := Hsum.out; simp only; omega)
        have HL5 : Hid _ := hA5
        rw [Hl'.out] at hcall
        have Hcall : Hid (Calls Try.prog 23 #[.agg #[.int .i64 kb.kind, .int .i64 kb.label, .slice ka kl kc], .int .i64 (p' : Int), .int .i64 (n' : Int), .agg #[.int .i64 (M : Int), .slice al' l' cl']] w5 (Answers (outK D w.heap.size) w5 (growK f kb p' n' ⟨M, g'.links⟩))) := hcall
        clear hcall
        go_wp2_with fail
        refine Calls.mono Hcall.out ?_
        rintro e w6 ⟨lv6, tv6, rfl, hL6, b6⟩
        obtain ⟨G6, HG6⟩ : ∃ G6, Hid (growK f kb p' n' ⟨M, g'.links⟩ = G6) := ⟨_, rfl⟩
        rw [HG6.out] at hL6 ⊢
        have hA6 := HL5.out.to b6
        have hA7 := hA6.store hL6
        obtain ⟨al6, cl6, rfl, _⟩ := hL6.slice
        obtain ⟨n6, Hn6⟩ : ∃ n6, Hid (G6.places = n6) := ⟨_, rfl⟩
        obtain ⟨l6, Hl6⟩ : ∃ l6, Hid (G6.links.length = l6) := ⟨_, rfl⟩
        have R1 : Hid (KAt D w (.int .i64 3) (.int .i64 L) (.slice (some ⟨bk, off, none⟩) (m + 1) cap) G6 (.slice al6 l6 cl6) tv6 ((w6.setCell ⟨w.heap.size + 1, 0, none⟩ (.int .i64 (n6 : Int))).setCell ⟨w.heap.size + 1, 1, none⟩ (.slice al6 l6 cl6))) := by
          rw [Hn6.out, Hl6.out] at hA7
          exact hA7
        have Had6 : Hid (AddsG ⟨M, g'.links⟩ G6 (cntB f kb)) := by rw [← HG6.out]; exact Had.out _ _ _
        have R2 : Hid (G6.places + 4 * sumB (cntB f) (b.kids.drop (k + 1)) ≤ 900) := by
          show _ ≤ _
          have h1 := Hpp.out; have h2 := Hn'.out; have h3 := Hsum.out; have h4 := Had6.out.1; have h5 := HMM.out; simp only at h4; omega
        have R3 : Hid (G6.links.length + 4 * sumB (cntB f) (b.kids.drop (k + 1)) ≤ 900) := by
          show _ ≤ _
          have h1 := Hll.out; have h3 := Hsum.out; have h4 := Had6.out.2; simp only at h4; omega
        obtain ⟨y0, y1, y2, y3⟩ := hA6.at
        rw [Hn6.out, Hl6.out]
        clear z0 z1 z2 z3 e0 e1 e2 e3 hA7 hL6 b6 hkid Had Had6 HL5 Hcall hA6
        have R4 : Hid (growSeq (growK f) (b.kids.drop (k + 1)) n' q G6 = T) := by rw [← HG6.out, ← Hst.out]; exact HTe.out
        clear Hst HTe hA5
        go_wp2
        go_roundg (gk - 1)
        case measure => omega
        case rel => exact ⟨k + 1, n', G6, _, tv6, by omega, by go_num, rfl, R1, R2, R3, R4⟩
      · obtain rfl : k = m := by omega
        have Hst : Hid _ := growSeq_last (K := growK f) Hn.out Hkl.out p' q g'
        obtain ⟨kb, Hkb⟩ : ∃ kb, Hid (b.kids[k]'Hkl.out = kb) := ⟨_, rfl⟩
        rw [Hkb.out] at c0 c1 hkid Hgr Hst Had Hsum
        have b3 := below_new wr (.cells #[.int .i64 kb.kind, .int .i64 kb.label, .slice ka kl kc] 24)
        have hx3 := box3_new wr (.int .i64 kb.kind) (.int .i64 kb.label) (.slice ka kl kc) 24
        have hA4 := HA.out.to b3
        obtain ⟨w4, Hw4⟩ : ∃ w4, Hid (wr.alloc (.cells #[.int .i64 kb.kind, .int .i64 kb.label, .slice ka kl kc] 24) = w4) := ⟨_, rfl⟩
        rw [Hw4.out] at hx3 hA4
        go_upto_region 11 with fail
        rw [Hw4.out]
        clear Hw4 c0 c1 c2 b3 hlt hcc HA
        obtain ⟨x0, x1, x2, x3⟩ := hA4.box
        have hlast : decide ((k : Int) < ((k + 1 : Nat) : Int) - 1) = false := decide_eq_false (by omega)
        go_upto_region 15 with fail
        clear x0 x1 x2 x3
        obtain ⟨G', HG'⟩ : ∃ G', Hid ((⟨n', g'.links⟩ : GrowL) = G') := ⟨_, rfl⟩
        have HMM : Hid (n' = n') := rfl
        have Hrest : Hid (0 = 0) := rfl
        have eg : Hid ((⟨n', g'.links⟩ : GrowL) = g') := by show _ = _; rw [← Hn'.out]
        have hA5 : KAt D w (.int .i64 3) (.int .i64 L) (.slice (some ⟨bk, off, none⟩) (k + 1) cap) ⟨n', g'.links⟩ (.slice al' g'.links.length cl') tv' w4 := by rw [eg.out]; exact hA4
        have hx5 := hx3
        clear hA4 hx3
        obtain ⟨z0, z1, z2, z3⟩ := hx5
        obtain ⟨e0, e1, e2, e3⟩ := hA5.at
        rw [Hl'.out] at e1
        have hcall := Hgr.out (outK D w.heap.size) _ p' q ⟨n', g'.links⟩ _ tv' w4 (hkid.below hA5.below) (hA5.new HD.out) hA5.links (by have h1 := Hpp.out; have h2 := Hn'.out; have h3 := Hsum.out; have h4 := HMM.out; have h5 := Hrest.out; simp only; omega) (by have h1 := Hll.out; have h3 := Hsum.out; simp only; omega)
        have HL5 : Hid _ := hA5
        rw [Hl'.out] at hcall
        have Hcall : Hid (Calls Try.prog 23 #[.agg #[.int .i64 kb.kind, .int .i64 kb.label, .slice ka kl kc], .int .i64 (p' : Int), .int .i64 (q : Int), .agg #[.int .i64 (n' : Int), .slice al' l' cl']] w4 (Answers (outK D w.heap.size) w4 (growK f kb p' q ⟨n', g'.links⟩))) := hcall
        clear hcall
        go_wp2_with fail
        refine Calls.mono Hcall.out ?_
        rintro e w6 ⟨lv6, tv6, rfl, hL6, b6⟩
        obtain ⟨G6, HG6⟩ : ∃ G6, Hid (growK f kb p' q ⟨n', g'.links⟩ = G6) := ⟨_, rfl⟩
        rw [HG6.out] at hL6 ⊢
        have hA6 := HL5.out.to b6
        have hA7 := hA6.store hL6
        obtain ⟨al6, cl6, rfl, _⟩ := hL6.slice
        obtain ⟨n6, Hn6⟩ : ∃ n6, Hid (G6.places = n6) := ⟨_, rfl⟩
        obtain ⟨l6, Hl6⟩ : ∃ l6, Hid (G6.links.length = l6) := ⟨_, rfl⟩
        have R1 : Hid (KAt D w (.int .i64 3) (.int .i64 L) (.slice (some ⟨bk, off, none⟩) (k + 1) cap) G6 (.slice al6 l6 cl6) tv6 ((w6.setCell ⟨w.heap.size + 1, 0, none⟩ (.int .i64 (n6 : Int))).setCell ⟨w.heap.size + 1, 1, none⟩ (.slice al6 l6 cl6))) := by
          rw [Hn6.out, Hl6.out] at hA7
          exact hA7
        have Had6 : Hid (AddsG ⟨n', g'.links⟩ G6 (cntB f kb)) := by rw [← HG6.out]; exact Had.out _ _ _
        have R2 : Hid (G6.places + 4 * sumB (cntB f) (b.kids.drop (k + 1)) ≤ 900) := by
          show _ ≤ _
          have h1 := Hpp.out; have h2 := Hn'.out; have h3 := Hsum.out; have h4 := Had6.out.1; have h5 := HMM.out; simp only at h4; omega
        have R3 : Hid (G6.links.length + 4 * sumB (cntB f) (b.kids.drop (k + 1)) ≤ 900) := by
          show _ ≤ _
          have h1 := Hll.out; have h3 := Hsum.out; have h4 := Had6.out.2; simp only at h4; omega
        obtain ⟨y0, y1, y2, y3⟩ := hA6.at
        rw [Hn6.out, Hl6.out]
        clear z0 z1 z2 z3 e0 e1 e2 e3 hA7 hL6 b6 hkid Had Had6 HL5 Hcall hA6
        have R4 : Hid (growSeq (growK f) (b.kids.drop (k + 1)) q q G6 = T) := by
          rw [List.drop_of_length_le (by rw [Hn.out]; omega)]
          show G6 = T
          rw [← HG6.out, eg.out, ← Hst.out]; exact HTe.out
        clear Hst HTe hA5 eg HG'
        go_wp2
        go_roundg (gk - 1)
        case measure => omega
        case rel => exact ⟨k + 1, q, G6, _, tv6, by omega, by go_num, rfl, R1, R2, R3, R4⟩
    · have HTe' : Hid (g' = T) := by rw [← HTe.out, List.drop_of_length_le (by rw [Hn.out]; omega)]; rfl
      clear HTe
      have HTe := HTe'
      obtain ⟨e0, e1, e2, e3⟩ := HA.out.at
      obtain ⟨r0, r1, r2, r3⟩ := HA.out.out
      obtain ⟨al2, cl2, rfl, _⟩ := HA.out.links.slice
      obtain ⟨n2, Hn2⟩ : ∃ n2, Hid (g'.places = n2) := ⟨_, rfl⟩
      obtain ⟨l3, Hl3⟩ : ∃ l3, Hid (g'.links.length = l3) := ⟨_, rfl⟩
      obtain ⟨wf, Hwf⟩ : ∃ wf, Hid ((wr.setCell ⟨w.heap.size + 2, 0, none⟩ (.int .i64 (g'.places : Int))).setCell ⟨w.heap.size + 2, 1, none⟩ (.slice al2 g'.links.length cl2) = wf) := ⟨_, rfl⟩
      obtain ⟨z0, z1, z2, z3⟩ := HA.out.answer (g' := g') HA.out.links Hwf.out
      have HR : Hid (Answers D w T (.returned (.agg #[.int .i64 (g'.places : Int), .slice al2 g'.links.length cl2])) wf) := ⟨_, _, by rw [← HTe.out], by rw [← HTe.out]; exact z2, z3⟩
      rw [Hl3.out] at HR Hwf z1 e1
      rw [Hn2.out] at HR Hwf z0 e0
      clear z2 z3 HA
      go_wp2
      rw [Hwf.out]
      refine bodyPost_ret (v := .agg #[.int .i64 (n2 : Int), .slice al2 l3 cl2]) ?_ rfl HR.out
      simp [results, Try.results23, go_sem, z0, z1]

end Go.Proofs.Ytfgimobmaahmmaa

/- The answers of the document itself for grow: a block grows. -/
namespace Go.Proofs.Ytfgimobmaahmmaa
open Go.RowKit
set_option linter.unusedVariables false
set_option linter.unusedSimpArgs false
set_option maxRecDepth 4000

set_option maxHeartbeats 4000000 in
theorem kbet_alt (f : Nat) (b : BlockL) (hok : okB (f + 1) b) (hfit : Fit (f + 1) b) (hk : ∀ k ∈ b.kids, KBet f k) (hkind : b.kind = 4) : KBet (f + 1) b := by
  intro D v p q g lv tv w hv hD hL hp hl
  obtain ⟨f1, f2, f3, f4, f5, f6⟩ := hok.1
  have Hadd : Hid (∀ x ∈ b.kids, ∀ p q g, AddsG g (growK f x p q g) (cntB f x)) := fun x hx => adds_fit (hok.2 x hx) (hfit x hx)
  have HT : Hid (growF (growK f) b p q g = growK (f + 1) b p q g) := rfl
  have Hcnt : Hid (cntB (f + 1) b = 1 + sumB (cntB f) b.kids) := rfl
  rw [Hcnt.out] at hp hl
  show Calls Try.prog 23 _ w (Answers D w (growK (f + 1) b p q g))
  obtain ⟨T, HTT⟩ : ∃ T, Hid (growK (f + 1) b p q g = T) := ⟨_, rfl⟩
  rw [HTT.out] at HT ⊢
  clear HTT
  obtain ⟨kv, rfl, hK⟩ := blockV_iff.1 hv
  obtain ⟨a, cap, rfl, hmx, hsh⟩ := hK.slice
  obtain ⟨n, Hn⟩ : ∃ n, Hid (b.kids.length = n) := ⟨_, rfl⟩
  obtain ⟨K, HK⟩ : ∃ K, Hid (b.kind = K) := ⟨_, rfl⟩
  obtain ⟨L, HL⟩ : ∃ L, Hid (b.label = L) := ⟨_, rfl⟩
  rw [HK.out] at f1 f2 f3 f4 f5 f6
  rw [Hn.out] at f4 f5 f6 hK hmx
  rw [HK.out, HL.out, Hn.out]
  obtain ⟨al, cl, rfl, _⟩ := hL.slice
  obtain ⟨ln, Hln⟩ : ∃ ln, Hid (g.links.length = ln) := ⟨_, rfl⟩
  rw [Hln.out] at hL hl ⊢
  obtain ⟨n0, Hn0⟩ : ∃ n0, Hid (g.places = n0) := ⟨_, rfl⟩
  obtain ⟨W, HW⟩ : ∃ W, Hid (((w.alloc (.cells #[.int .i64 K, .int .i64 L, .slice a n cap] 24)).alloc (.cells #[.int .i64 (g.places : Int), .slice al ln cl] 60)).alloc (.cells #[.int .i64 0, .slice none 0 0] 60) = W) := ⟨_, rfl⟩
  have hA := kat_start D w W _ _ _ g _ tv hL HW.out
  rw [Hn0.out] at HW ⊢
  rw [Hn0.out] at hp
  have Hk : Hid _ := hk
  have Hp : Hid _ := hp
  have Hl : Hid _ := hl
  have HD : Hid _ := hD
  have HA : Hid _ := hA
  clear hv hsh hL hk hp hl hD
  go_enter Try.func23, Try.ntmps23
  go_upto_region 2 with fail
  rw [HW.out]
  clear HW
  rw [HK.out] at hkind
  subst hkind
  have R : Hid (growAlt (growK f) (b.kids.drop 0) p q g = T) := by show _ = _; rw [← HT.out]; simp only [growF]; rw [if_neg (by rw [HK.out]; decide), if_neg (by rw [HK.out]; decide), if_neg (by rw [HK.out]; decide), if_pos HK.out, List.drop_zero]
  have Hpp : Hid (g.places + 4 * sumB (cntB f) (b.kids.drop 0) ≤ 900) := by show _ ≤ _; have := Hp.out; have := Hn0.out; rw [List.drop_zero]; omega
  have Hll : Hid (g.links.length + 4 * sumB (cntB f) (b.kids.drop 0) ≤ 900) := by show _ ≤ _; have := Hl.out; have := Hln.out; rw [List.drop_zero]; omega
  obtain ⟨x0, x1, x2, x3⟩ := hA.box
  clear f1 f2 f3 f4 f5 f6 hA HT
  go_wp2_with fail
  clear x0 x1 x2 x3
  go_loopg [79] n (fun gk i wr => ∃ (k : Nat) (g' : GrowL) (lv' : Value) (tv' : List (Int × Value × Value)), k + gk = n ∧ i = .int .i64 k ∧ Hid (KAt D w (.int .i64 4) (.int .i64 L) (.slice a n cap) g' lv' tv' wr) ∧ Hid (g'.places + 4 * sumB (cntB f) (b.kids.drop k) ≤ 900) ∧ Hid (g'.links.length + 4 * sumB (cntB f) (b.kids.drop k) ≤ 900) ∧ Hid (growAlt (growK f) (b.kids.drop k) p q g' = T))
  case atStart => exact ⟨0, g, _, tv, by omega, rfl, HA, Hpp, Hll, R⟩
  case round =>
    clear HA Hpp Hll R Hp Hl
    obtain ⟨k, g', lv', tv', hkg, rfl, HA, Hpp, Hll, HTe⟩ := hrel
    by_cases hk : k < n
    · have Hkl : Hid (k < b.kids.length) := by show k < b.kids.length; rw [Hn.out]; exact hk
      obtain ⟨bk, off, ka, kl, kc, ea, hlt, hcc, hkid⟩ := kid_W hK Hkl.out
      subst ea
      obtain ⟨c0, c1, c2⟩ := hcc wr HA.out.below
      have Hgr : Hid (KBet f (b.kids[k]'Hkl.out)) := Hk.out _ (List.getElem_mem _)
      have Had : Hid (∀ p q g, AddsG g (growK f (b.kids[k]'Hkl.out) p q g) (cntB f (b.kids[k]'Hkl.out))) := Hadd.out _ (List.getElem_mem _)
      have Hsum : Hid _ := sumB_drop (cnt := cntB f) Hkl.out
      have Hst : Hid _ := growAlt_step (K := growK f) Hkl.out p q g'
      obtain ⟨al', cl', rfl, _⟩ := HA.out.links.slice
      obtain ⟨l', Hl'⟩ : ∃ l', Hid (g'.links.length = l') := ⟨_, rfl⟩
      obtain ⟨n', Hn'⟩ : ∃ n', Hid (g'.places = n') := ⟨_, rfl⟩
      obtain ⟨kb, Hkb⟩ : ∃ kb, Hid (b.kids[k]'Hkl.out = kb) := ⟨_, rfl⟩
      rw [Hkb.out] at c0 c1 hkid Hgr Hst Had Hsum
      have b3 := below_new wr (.cells #[.int .i64 kb.kind, .int .i64 kb.label, .slice ka kl kc] 24)
      have hx3 := box3_new wr (.int .i64 kb.kind) (.int .i64 kb.label) (.slice ka kl kc) 24
      have hA4 := HA.out.to b3
      obtain ⟨w4, Hw4⟩ : ∃ w4, Hid (wr.alloc (.cells #[.int .i64 kb.kind, .int .i64 kb.label, .slice ka kl kc] 24) = w4) := ⟨_, rfl⟩
      rw [Hw4.out] at hx3 hA4
      go_upto_region 22 with fail
      rw [Hw4.out]
      clear Hw4 c0 c1 c2 b3 hlt hcc HA
      have HMM : Hid (n' = n') := rfl
      have Hrest : Hid (0 = 0) := rfl
      have eg : Hid ((⟨n', g'.links⟩ : GrowL) = g') := by show _ = _; rw [← Hn'.out]
      have hA5 : KAt D w (.int .i64 4) (.int .i64 L) (.slice (some ⟨bk, off, none⟩) n cap) ⟨n', g'.links⟩ (.slice al' g'.links.length cl') tv' w4 := by rw [eg.out]; exact hA4
      have hx5 := hx3
      clear hA4 hx3
      obtain ⟨z0, z1, z2, z3⟩ := hx5
      obtain ⟨e0, e1, e2, e3⟩ := hA5.at
      rw [Hl'.out] at e1
      have hcall := Hgr.out (outK D w.heap.size) _ p q ⟨n', g'.links⟩ _ tv' w4 (hkid.below hA5.below) (hA5.new HD.out) hA5.links (by have h1 := Hpp.out; have h2 := Hn'.out; have h3 := Hsum.out; have h4 := HMM.out; have h5 := Hrest.out; simp only; omega) (by have h1 := Hll.out; have h3 := Hsum.out; simp only; omega)
      have HL5 : Hid _ := hA5
      rw [Hl'.out] at hcall
      have Hcall : Hid (Calls Try.prog 23 #[.agg #[.int .i64 kb.kind, .int .i64 kb.label, .slice ka kl kc], .int .i64 (p : Int), .int .i64 (q : Int), .agg #[.int .i64 (n' : Int), .slice al' l' cl']] w4 (Answers (outK D w.heap.size) w4 (growK f kb p q ⟨n', g'.links⟩))) := hcall
      clear hcall
      go_wp2_with fail
      refine Calls.mono Hcall.out ?_
      rintro e w6 ⟨lv6, tv6, rfl, hL6, b6⟩
      obtain ⟨G6, HG6⟩ : ∃ G6, Hid (growK f kb p q ⟨n', g'.links⟩ = G6) := ⟨_, rfl⟩
      rw [HG6.out] at hL6 ⊢
      have hA6 := HL5.out.to b6
      have hA7 := hA6.store hL6
      obtain ⟨al6, cl6, rfl, _⟩ := hL6.slice
      obtain ⟨n6, Hn6⟩ : ∃ n6, Hid (G6.places = n6) := ⟨_, rfl⟩
      obtain ⟨l6, Hl6⟩ : ∃ l6, Hid (G6.links.length = l6) := ⟨_, rfl⟩
      have R1 : Hid (KAt D w (.int .i64 4) (.int .i64 L) (.slice (some ⟨bk, off, none⟩) n cap) G6 (.slice al6 l6 cl6) tv6 ((w6.setCell ⟨w.heap.size + 1, 0, none⟩ (.int .i64 (n6 : Int))).setCell ⟨w.heap.size + 1, 1, none⟩ (.slice al6 l6 cl6))) := by
        rw [Hn6.out, Hl6.out] at hA7
        exact hA7
      have Had6 : Hid (AddsG ⟨n', g'.links⟩ G6 (cntB f kb)) := by rw [← HG6.out]; exact Had.out _ _ _
      have R2 : Hid (G6.places + 4 * sumB (cntB f) (b.kids.drop (k + 1)) ≤ 900) := by
        show _ ≤ _
        have h1 := Hpp.out; have h2 := Hn'.out; have h3 := Hsum.out; have h4 := Had6.out.1; have h5 := HMM.out; simp only at h4; omega
      have R3 : Hid (G6.links.length + 4 * sumB (cntB f) (b.kids.drop (k + 1)) ≤ 900) := by
        show _ ≤ _
        have h1 := Hll.out; have h3 := Hsum.out; have h4 := Had6.out.2; simp only at h4; omega
      obtain ⟨y0, y1, y2, y3⟩ := hA6.at
      rw [Hn6.out, Hl6.out]
      clear z0 z1 z2 z3 e0 e1 e2 e3 hA7 hL6 b6 hkid Had Had6 HL5 Hcall hA6
      have R4 : Hid (growAlt (growK f) (b.kids.drop (k + 1)) p q G6 = T) := by rw [← HG6.out, eg.out, ← Hst.out]; exact HTe.out
      clear Hst HTe hA5 eg
      go_wp2
      go_roundg (gk - 1)
      case measure => omega
      case rel => exact ⟨k + 1, G6, _, tv6, by omega, by go_num, R1, R2, R3, R4⟩
    · have HTe' : Hid (g' = T) := by rw [← HTe.out, List.drop_of_length_le (by rw [Hn.out]; omega)]; rfl
      clear HTe
      have HTe := HTe'
      obtain ⟨e0, e1, e2, e3⟩ := HA.out.at
      obtain ⟨r0, r1, r2, r3⟩ := HA.out.out
      obtain ⟨al2, cl2, rfl, _⟩ := HA.out.links.slice
      obtain ⟨n2, Hn2⟩ : ∃ n2, Hid (g'.places = n2) := ⟨_, rfl⟩
      obtain ⟨l3, Hl3⟩ : ∃ l3, Hid (g'.links.length = l3) := ⟨_, rfl⟩
      obtain ⟨wf, Hwf⟩ : ∃ wf, Hid ((wr.setCell ⟨w.heap.size + 2, 0, none⟩ (.int .i64 (g'.places : Int))).setCell ⟨w.heap.size + 2, 1, none⟩ (.slice al2 g'.links.length cl2) = wf) := ⟨_, rfl⟩
      obtain ⟨z0, z1, z2, z3⟩ := HA.out.answer (g' := g') HA.out.links Hwf.out
      have HR : Hid (Answers D w T (.returned (.agg #[.int .i64 (g'.places : Int), .slice al2 g'.links.length cl2])) wf) := ⟨_, _, by rw [← HTe.out], by rw [← HTe.out]; exact z2, z3⟩
      rw [Hl3.out] at HR Hwf z1 e1
      rw [Hn2.out] at HR Hwf z0 e0
      clear z2 z3 HA
      go_wp2
      rw [Hwf.out]
      refine bodyPost_ret (v := .agg #[.int .i64 (n2 : Int), .slice al2 l3 cl2]) ?_ rfl HR.out
      simp [results, Try.results23, go_sem, z0, z1]

end Go.Proofs.Ytfgimobmaahmmaa

/- The answers of the document itself for grow: a block grows. -/
namespace Go.Proofs.Ytfgimobmaahmmaa
open Go.RowKit
set_option linter.unusedVariables false
set_option linter.unusedSimpArgs false
set_option maxRecDepth 4000

set_option maxHeartbeats 8000000 in
theorem kbet_loop (f : Nat) (b : BlockL) (hok : okB (f + 1) b) (hfit : Fit (f + 1) b) (hk : ∀ k ∈ b.kids, KBet f k) (hkind : b.kind = 6) : KBet (f + 1) b := by
  intro D v p q g lv tv w hv hD hL hp hl
  obtain ⟨f1, f2, f3, f4, f5, f6⟩ := hok.1
  have Hadd : Hid (∀ x ∈ b.kids, ∀ p q g, AddsG g (growK f x p q g) (cntB f x)) := fun x hx => adds_fit (hok.2 x hx) (hfit x hx)
  have HT : Hid (growF (growK f) b p q g = growK (f + 1) b p q g) := rfl
  have Hcnt : Hid (cntB (f + 1) b = 1 + sumB (cntB f) b.kids) := rfl
  rw [Hcnt.out] at hp hl
  show Calls Try.prog 23 _ w (Answers D w (growK (f + 1) b p q g))
  obtain ⟨T, HTT⟩ : ∃ T, Hid (growK (f + 1) b p q g = T) := ⟨_, rfl⟩
  rw [HTT.out] at HT ⊢
  clear HTT
  obtain ⟨kv, rfl, hK⟩ := blockV_iff.1 hv
  obtain ⟨a, cap, rfl, hmx, hsh⟩ := hK.slice
  obtain ⟨n, Hn⟩ : ∃ n, Hid (b.kids.length = n) := ⟨_, rfl⟩
  obtain ⟨K, HK⟩ : ∃ K, Hid (b.kind = K) := ⟨_, rfl⟩
  obtain ⟨L, HL⟩ : ∃ L, Hid (b.label = L) := ⟨_, rfl⟩
  rw [HK.out] at f1 f2 f3 f4 f5 f6
  rw [Hn.out] at f4 f5 f6 hK hmx
  rw [HK.out, HL.out, Hn.out]
  obtain ⟨al, cl, rfl, _⟩ := hL.slice
  obtain ⟨ln, Hln⟩ : ∃ ln, Hid (g.links.length = ln) := ⟨_, rfl⟩
  rw [Hln.out] at hL hl ⊢
  obtain ⟨n0, Hn0⟩ : ∃ n0, Hid (g.places = n0) := ⟨_, rfl⟩
  obtain ⟨W, HW⟩ : ∃ W, Hid (((w.alloc (.cells #[.int .i64 K, .int .i64 L, .slice a n cap] 24)).alloc (.cells #[.int .i64 (g.places : Int), .slice al ln cl] 60)).alloc (.cells #[.int .i64 0, .slice none 0 0] 60) = W) := ⟨_, rfl⟩
  have hA := kat_start D w W _ _ _ g _ tv hL HW.out
  rw [Hn0.out] at HW ⊢
  rw [Hn0.out] at hp
  have Hk : Hid _ := hk
  have Hp : Hid _ := hp
  have Hl : Hid _ := hl
  have HD : Hid _ := hD
  have HA : Hid _ := hA
  clear hv hsh hL hk hp hl hD
  go_enter Try.func23, Try.ntmps23
  go_upto_region 2 with fail
  rw [HW.out]
  clear HW
  rw [HK.out] at hkind
  subst hkind
  have h2 : n = 2 := f6 rfl
  subst h2
  have R : Hid (putG (growK f (kidB b 1) (g.places + 1) g.places (growK f (kidB b 0) g.places (g.places + 1) (putG ⟨g.places + 2, g.links⟩ 0 [p] [g.places]))) 0 [g.places + 1] [q] = T) := by show _ = _; rw [← HT.out]; simp only [growF]; rw [if_neg (by rw [HK.out]; decide), if_neg (by rw [HK.out]; decide), if_neg (by rw [HK.out]; decide), if_neg (by rw [HK.out]; decide), if_neg (by rw [HK.out]; decide)]
  have Hl0 : Hid (0 < b.kids.length) := by show _ < _; rw [Hn.out]; omega
  have Hl1 : Hid (1 < b.kids.length) := by show _ < _; rw [Hn.out]; omega
  have Hsum : Hid (sumB (cntB f) b.kids = cntB f (kidB b 0) + cntB f (kidB b 1)) := two_sum _ b Hn.out
  have e0 : Hid (b.kids[0]'Hl0.out = kidB b 0) := by show _ = _; simp [kidB, List.getD, List.getElem?_eq_getElem Hl0.out]
  have e1 : Hid (b.kids[1]'Hl1.out = kidB b 1) := by show _ = _; simp [kidB, List.getD, List.getElem?_eq_getElem Hl1.out]
  have Hg0 : Hid (KBet f (kidB b 0)) := by rw [← e0.out]; exact Hk.out _ (List.getElem_mem _)
  have Hg1 : Hid (KBet f (kidB b 1)) := by rw [← e1.out]; exact Hk.out _ (List.getElem_mem _)
  have Ha0 : Hid (∀ p q g, AddsG g (growK f (kidB b 0) p q g) (cntB f (kidB b 0))) := by rw [← e0.out]; exact Hadd.out _ (List.getElem_mem _)
  have Ha1 : Hid (∀ p q g, AddsG g (growK f (kidB b 1) p q g) (cntB f (kidB b 1))) := by rw [← e1.out]; exact Hadd.out _ (List.getElem_mem _)
  have Hc1 : Hid (1 ≤ cntB f (kidB b 1)) := by rw [← e1.out]; exact cnt_pos f _ (hfit _ (List.getElem_mem _))
  obtain ⟨bk, off, ka0, kl0, kc0, ea, hlt, cc, hkid0⟩ := kid_W hK Hl0.out
  obtain ⟨bk', off', ka1, kl1, kc1, ea', hlt', dd, hkid1⟩ := kid_W hK Hl1.out
  subst ea
  injection ea' with ea'
  injection ea' with ea1 ea2
  subst ea1 ea2
  rw [e0.out] at cc hkid0
  rw [e1.out] at dd hkid1
  obtain ⟨k0, Hk0⟩ : ∃ k0, Hid (kidB b 0 = k0) := ⟨_, rfl⟩
  obtain ⟨k1, Hk1⟩ : ∃ k1, Hid (kidB b 1 = k1) := ⟨_, rfl⟩
  rw [Hk0.out] at cc hkid0 Hg0 R Ha0 Hsum
  rw [Hk1.out] at dd hkid1 Hg1 R Ha1 Hsum Hc1
  simp only [Nat.zero_mul, Nat.add_zero, Nat.one_mul] at cc dd
  have HC0 : Hid (∀ w', Below w.heap.size w w' → w'.cell? ⟨bk, off, none⟩ = some (.int .i64 k0.kind) ∧ w'.cell? ⟨bk, off + 1, none⟩ = some (.int .i64 k0.label) ∧ w'.cell? ⟨bk, off + 2, none⟩ = some (.slice ka0 kl0 kc0)) := cc
  have HC1 : Hid (∀ w', Below w.heap.size w w' → w'.cell? ⟨bk, off + 3, none⟩ = some (.int .i64 k1.kind) ∧ w'.cell? ⟨bk, off + 4, none⟩ = some (.int .i64 k1.label) ∧ w'.cell? ⟨bk, off + 5, none⟩ = some (.slice ka1 kl1 kc1)) := dd
  clear cc dd f1 f2 f3 f4 f5 f6 HT e0 e1 Hk0 Hk1 Hk Hadd
  obtain ⟨Y, HY⟩ : ∃ Y, Hid (n0 + 1 = Y) := ⟨_, rfl⟩
  obtain ⟨M, HM⟩ : ∃ M, Hid (n0 + 2 = M) := ⟨_, rfl⟩
  rw [Hn0.out, HY.out, HM.out] at R
  have hA1 := hA.place M
  have eM : (n0 : Int) + 2 = (M : Int) := by have := HM.out; omega
  have eY : (n0 : Int) + 1 = (Y : Int) := by have := HY.out; omega
  obtain ⟨x0, x1, x2, x3⟩ := hA.box
  obtain ⟨d0, d1, d2, d3⟩ := hA.at
  rw [Hn0.out] at d0
  have hn0 : n0 ≤ 900 := by have := Hp.out; omega
  have HeM : Hid _ := eM
  have HeY : Hid _ := eY
  have hwr : IntKind.i64.wrap ((n0 : Int) + 1) = (n0 : Int) + 1 := by rw [IntKind.wrap_i64]; omega
  clear eM eY
  go_upto_region 40 with fail
  go_region_held3 (fun w' => w'.cell? ⟨w.heap.size + 1, 0, none⟩ = some (.int .i64 (n0 : Int))) (go_keep) (fail)
  rw [HeY.out]
  clear hwr
  go_upto_region 42 with fail
  rw [HeM.out]
  have hA2 := hA1.to ((Below.refl _ _).drew)
  obtain ⟨w1, Hw1⟩ : ∃ w1, Hid ((W.setCell ⟨w.heap.size + 1, 0, none⟩ (.int .i64 (M : Int))).drew = w1) := ⟨_, rfl⟩
  rw [Hw1.out] at hA2 ⊢
  clear Hw1 hA1 x0 x1 x2 x3 d0 d1 d2 d3 hA HA
  obtain ⟨d0, d1, d2, d3⟩ := hA2.at
  rw [show (⟨M, g.links⟩ : GrowL).places = M from rfl] at d0
  have hLk := hA2.links
  have hnew := hA2.new HD.out
  have hlb : g.links.length ≤ 900 := by have := Hl.out; have := Hln.out; omega
  go_wp2_with fail
  refine (klink_one (outK D w.heap.size) M 0 _ g.links tv p n0 w1 hnew (by exact hLk) hlb).mono ?_
  rintro e w3 ⟨lv3, tv3, rfl, hL3, b3⟩
  have hE3 := hA2.to b3
  have hA3 := hE3.store (g' := putG ⟨M, g.links⟩ 0 [p] [n0]) hL3
  obtain ⟨al3, cl3, rfl, _⟩ := hL3.slice
  obtain ⟨G3, HG3⟩ : ∃ G3, Hid (putG ⟨M, g.links⟩ 0 [p] [n0] = G3) := ⟨_, rfl⟩
  have Hn3 : Hid (G3.places = M) := by rw [← HG3.out]; rfl
  have hl3e : (g.links ++ [(⟨0, [p], [n0]⟩ : LinkL)]).length = G3.links.length := by rw [← HG3.out]; rfl
  rw [hl3e] at hA3 ⊢
  rw [HG3.out] at hA3 R
  obtain ⟨l3, Hl3⟩ : ∃ l3, Hid (G3.links.length = l3) := ⟨_, rfl⟩
  rw [Hl3.out, Hn3.out] at hA3
  rw [Hl3.out]
  obtain ⟨y0, y1, y2, y3⟩ := hE3.at
  have Hb3 : Hid (G3.places + 4 * (cntB f k0 + cntB f k1) ≤ 900 ∧ G3.links.length + 4 * (cntB f k0 + cntB f k1) ≤ 900) := by
    have h1 := Hp.out; have h2 := Hl.out; have h3 := Hsum.out; have h4 := HM.out; have h5 := Hn3.out; have h6 := Hln.out
    have h7 : G3.links.length = g.links.length + 1 := by rw [← HG3.out]; simp [putG]
    exact ⟨by omega, by omega⟩
  clear d0 d1 d2 d3 hLk hnew hlb hL3 b3 hA2 hl3e
  obtain ⟨v3, Hv3⟩ : ∃ v, Hid ((w3.setCell ⟨w.heap.size + 1, 0, none⟩ (.int .i64 (M : Int))).setCell ⟨w.heap.size + 1, 1, none⟩ (.slice al3 l3 cl3) = v) := ⟨_, rfl⟩
  rw [Hv3.out] at hA3
  go_upto_region 43 with fail
  rw [Hv3.out]
  clear y0 y1 y2 y3 hE3 Hv3
  have bd4 := (Below.refl v3.heap.size v3).drew
  have hB4 := hA3.to bd4
  have HB4 : Hid _ := hB4
  have HS4 : Hid (∀ w', Box3 w' w.heap.size (.int .i64 6) (.int .i64 L) (.slice (some ⟨bk, off, none⟩) 2 cap) → Below w.heap.size w w' → (fun w' => w'.cell? ⟨w.heap.size, 2, none⟩ = some (.slice (some ⟨bk, off, none⟩) 2 cap) ∧ w'.cell? ⟨bk, off, none⟩ = some (.int .i64 k0.kind) ∧ w'.cell? ⟨bk, off + 1, none⟩ = some (.int .i64 k0.label) ∧ w'.cell? ⟨bk, off + 2, none⟩ = some (.slice ka0 kl0 kc0)) w') := fun w' hbx hb => ⟨hbx.2.2.2, HC0.out w' hb⟩
  obtain ⟨d04, d14, d24, d34⟩ := hB4.at
  rw [Hn3.out] at d04
  refine wp_region_held_drew (S := (fun w' => w'.cell? ⟨w.heap.size, 2, none⟩ = some (.slice (some ⟨bk, off, none⟩) 2 cap) ∧ w'.cell? ⟨bk, off, none⟩ = some (.int .i64 k0.kind) ∧ w'.cell? ⟨bk, off + 1, none⟩ = some (.int .i64 k0.label) ∧ w'.cell? ⟨bk, off + 2, none⟩ = some (.slice ka0 kl0 kc0))) (by kernel_rfl) (HS4.out _ hB4.box hB4.below) (fun hH => ?_)
  refine wpAnyH_take (i := 0) (v := .pointer (some ⟨w.heap.size, 2, none⟩)) rfl (by kernel_rfl) (by kernel_rfl) (by kernel_rfl) (fun _ _ _ h => h) (.inl ⟨by rfl, fun w' hS' => by first | (go_simp; done) | (go_simp; rfl)⟩) hH ?_
  simp only [List.getElem_toArray, List.getElem_cons_succ, List.getElem_cons_zero, Act.put, List.setIfInBounds_toArray, List.set_cons_zero, List.set_cons_succ]
  refine wpAnyH_take (i := 1) (v := .slice (some ⟨bk, off, none⟩) 2 cap) rfl (by kernel_rfl) (by kernel_rfl) (by kernel_rfl) (fun _ _ _ h => h) (.inl ⟨by rfl, fun w' hS' => by obtain ⟨e0, e1, e2, e3⟩ := hS'; go_simp⟩) hH ?_
  simp only [List.getElem_toArray, List.getElem_cons_succ, List.getElem_cons_zero, Act.put, List.setIfInBounds_toArray, List.set_cons_zero, List.set_cons_succ]
  refine wpAnyH_take (i := 2) (v := .pointer (some ⟨bk, off, none⟩)) rfl (by kernel_rfl) (by kernel_rfl) (by kernel_rfl) (fun _ _ _ h => h) (.inl ⟨by rfl, fun w' hS' => by first | (go_simp; done) | (go_simp; rfl)⟩) hH ?_
  simp only [List.getElem_toArray, List.getElem_cons_succ, List.getElem_cons_zero, Act.put, List.setIfInBounds_toArray, List.set_cons_zero, List.set_cons_succ]
  refine wpAnyH_take (i := 3) (v := .agg #[.int .i64 k0.kind, .int .i64 k0.label, .slice ka0 kl0 kc0]) rfl (by kernel_rfl) (by kernel_rfl) (by kernel_rfl) (fun _ _ _ h => h) (.inl ⟨by rfl, fun w' hS' => by obtain ⟨e0, e1, e2, e3⟩ := hS'; go_simp⟩) hH ?_
  simp only [List.getElem_toArray, List.getElem_cons_succ, List.getElem_cons_zero, Act.put, List.setIfInBounds_toArray, List.set_cons_zero, List.set_cons_succ]
  refine wpAnyH_take (i := 4) rfl (by kernel_rfl) (by kernel_rfl) (by kernel_rfl) (fun _ _ _ h => h) (.inl ⟨by rfl, fun _ _ => rfl⟩) hH ?_
  simp only [List.getElem_toArray, List.getElem_cons_succ, List.getElem_cons_zero, Act.put, List.setIfInBounds_toArray, List.set_cons_zero, List.set_cons_succ]
  refine wpAnyH_take (i := 5) rfl (by kernel_rfl) (by kernel_rfl) (by kernel_rfl) (fun _ _ _ h => h) (.inl ⟨by rfl, fun _ _ => rfl⟩) hH ?_
  simp only [List.getElem_toArray, List.getElem_cons_succ, List.getElem_cons_zero, Act.put, List.setIfInBounds_toArray, List.set_cons_zero, List.set_cons_succ]
  refine wpAnyH_ready (rs := [6]) (by kernel_rfl) (by simp) ?_
  refine AllReadyH.cons rfl (fun K hK => ?_) AllReadyH.nil
  simp only [List.getElem_toArray, List.getElem_cons_succ, List.getElem_cons_zero]
  rw [if_pos (by rfl)]
  go_wp2_with fail
  refine hK.out _ _ (HS4.out _ HB4.out.box HB4.out.below) (fun hH => ?_)
  try simp only [List.getElem_toArray, List.getElem_cons_succ, List.getElem_cons_zero, Act.put, List.setIfInBounds_toArray, List.set_cons_zero, List.set_cons_succ]
  refine wpAnyH_ready (rs := [7]) (by kernel_rfl) (by simp) ?_
  refine AllReadyH.cons rfl (fun K hK => ?_) AllReadyH.nil
  simp only [List.getElem_toArray, List.getElem_cons_succ, List.getElem_cons_zero]
  rw [if_pos (by rfl)]
  go_wp2_with fail
  have hcall4 := Hg0.out (outK D w.heap.size) _ n0 Y G3 _ tv3 _ (hkid0.below HB4.out.below) (HB4.out.new HD.out) HB4.out.links (by have := Hb3.out.1; omega) (by have := Hb3.out.2; omega)
  rw [Hn3.out] at hcall4
  refine Calls.mono hcall4 ?_
  rintro e w4 ⟨lv4, tv4, rfl, hL4, b4⟩
  obtain ⟨G4, HG4⟩ : ∃ G6, Hid (growK f k0 n0 Y G3 = G6) := ⟨_, rfl⟩
  rw [HG4.out] at hL4 ⊢
  have hE4 := HB4.out.to b4
  have HE4 : Hid _ := hE4
  have hA4 := hE4.store hL4
  obtain ⟨al4, cl4, rfl, _⟩ := hL4.slice
  obtain ⟨n4, Hn4⟩ : ∃ n6, Hid (G4.places = n6) := ⟨_, rfl⟩
  obtain ⟨l4, Hl4⟩ : ∃ l6, Hid (G4.links.length = l6) := ⟨_, rfl⟩
  rw [Hl4.out, Hn4.out] at hA4
  rw [Hn4.out, Hl4.out]
  refine hK.out _ _ (HS4.out _ hE4.box hE4.below) (fun hH => ?_)
  try simp only [List.getElem_toArray, List.getElem_cons_succ, List.getElem_cons_zero, Act.put, List.setIfInBounds_toArray, List.set_cons_zero, List.set_cons_succ]
  obtain ⟨y04, y14, y24, y34⟩ := hE4.at
  have HA4 : Hid (KAt D w (.int .i64 6) (.int .i64 L) (.slice (some ⟨bk, off, none⟩) 2 cap) G4 (.slice al4 l4 cl4) tv4 ((w4.setCell ⟨w.heap.size + 1, 0, none⟩ (.int .i64 (n4 : Int))).setCell ⟨w.heap.size + 1, 1, none⟩ (.slice al4 l4 cl4))) := hA4
  refine wpAnyH_ready (rs := [8]) (by kernel_rfl) (by simp) ?_
  refine AllReadyH.cons rfl (fun K hK => ?_) AllReadyH.nil
  simp only [List.getElem_toArray, List.getElem_cons_succ, List.getElem_cons_zero]
  rw [if_pos (by rfl)]
  go_wp2_with fail
  refine hK.out _ _ (HS4.out _ HA4.out.box HA4.out.below) (fun hH => ?_)
  refine wpAnyH_done (by kernel_rfl) ?_ _
  obtain ⟨v4, Hv4⟩ : ∃ v, Hid ((w4.setCell ⟨w.heap.size + 1, 0, none⟩ (.int .i64 (n4 : Int))).setCell ⟨w.heap.size + 1, 1, none⟩ (.slice al4 l4 cl4) = v) := ⟨_, rfl⟩
  rw [Hv4.out] at HA4 ⊢
  clear d04 d14 d24 d34 hE4 hA4 hL4 b4 y04 y14 y24 y34 hH hK hB4 bd4 Hv4 hcall4 HE4 HB4
  have Hb4 : Hid (G4.places + 4 * cntB f k1 ≤ 900 ∧ G4.links.length + 4 * cntB f k1 ≤ 900) := by
    have h1 := Hb3.out
    have h2 := Ha0.out n0 Y G3
    rw [HG4.out] at h2
    have h3 := h2.1
    have h4 := h2.2
    exact ⟨by omega, by omega⟩
  rw [HG4.out] at R
  have hA4 := HA4.out
  clear hA3 HA4
  go_upto_region 44 with fail
  have bd5 := (Below.refl v4.heap.size v4).drew
  have hB5 := hA4.to bd5
  have HB5 : Hid _ := hB5
  have HS5 : Hid (∀ w', Box3 w' w.heap.size (.int .i64 6) (.int .i64 L) (.slice (some ⟨bk, off, none⟩) 2 cap) → Below w.heap.size w w' → (fun w' => w'.cell? ⟨w.heap.size, 2, none⟩ = some (.slice (some ⟨bk, off, none⟩) 2 cap) ∧ w'.cell? ⟨bk, off + 3, none⟩ = some (.int .i64 k1.kind) ∧ w'.cell? ⟨bk, off + 4, none⟩ = some (.int .i64 k1.label) ∧ w'.cell? ⟨bk, off + 5, none⟩ = some (.slice ka1 kl1 kc1)) w') := fun w' hbx hb => ⟨hbx.2.2.2, HC1.out w' hb⟩
  obtain ⟨d05, d15, d25, d35⟩ := hB5.at
  rw [Hn4.out] at d05
  refine wp_region_held_drew (S := (fun w' => w'.cell? ⟨w.heap.size, 2, none⟩ = some (.slice (some ⟨bk, off, none⟩) 2 cap) ∧ w'.cell? ⟨bk, off + 3, none⟩ = some (.int .i64 k1.kind) ∧ w'.cell? ⟨bk, off + 4, none⟩ = some (.int .i64 k1.label) ∧ w'.cell? ⟨bk, off + 5, none⟩ = some (.slice ka1 kl1 kc1))) (by kernel_rfl) (HS5.out _ hB5.box hB5.below) (fun hH => ?_)
  refine wpAnyH_take (i := 0) (v := .pointer (some ⟨w.heap.size, 2, none⟩)) rfl (by kernel_rfl) (by kernel_rfl) (by kernel_rfl) (fun _ _ _ h => h) (.inl ⟨by rfl, fun w' hS' => by first | (go_simp; done) | (go_simp; rfl)⟩) hH ?_
  simp only [List.getElem_toArray, List.getElem_cons_succ, List.getElem_cons_zero, Act.put, List.setIfInBounds_toArray, List.set_cons_zero, List.set_cons_succ]
  refine wpAnyH_take (i := 1) (v := .slice (some ⟨bk, off, none⟩) 2 cap) rfl (by kernel_rfl) (by kernel_rfl) (by kernel_rfl) (fun _ _ _ h => h) (.inl ⟨by rfl, fun w' hS' => by obtain ⟨e0, e1, e2, e3⟩ := hS'; go_simp⟩) hH ?_
  simp only [List.getElem_toArray, List.getElem_cons_succ, List.getElem_cons_zero, Act.put, List.setIfInBounds_toArray, List.set_cons_zero, List.set_cons_succ]
  refine wpAnyH_take (i := 2) (v := .pointer (some ⟨bk, off + 3, none⟩)) rfl (by kernel_rfl) (by kernel_rfl) (by kernel_rfl) (fun _ _ _ h => h) (.inl ⟨by rfl, fun w' hS' => by first | (go_simp; done) | (go_simp; rfl)⟩) hH ?_
  simp only [List.getElem_toArray, List.getElem_cons_succ, List.getElem_cons_zero, Act.put, List.setIfInBounds_toArray, List.set_cons_zero, List.set_cons_succ]
  refine wpAnyH_take (i := 3) (v := .agg #[.int .i64 k1.kind, .int .i64 k1.label, .slice ka1 kl1 kc1]) rfl (by kernel_rfl) (by kernel_rfl) (by kernel_rfl) (fun _ _ _ h => h) (.inl ⟨by rfl, fun w' hS' => by obtain ⟨e0, e1, e2, e3⟩ := hS'; go_simp⟩) hH ?_
  simp only [List.getElem_toArray, List.getElem_cons_succ, List.getElem_cons_zero, Act.put, List.setIfInBounds_toArray, List.set_cons_zero, List.set_cons_succ]
  refine wpAnyH_take (i := 4) rfl (by kernel_rfl) (by kernel_rfl) (by kernel_rfl) (fun _ _ _ h => h) (.inl ⟨by rfl, fun _ _ => rfl⟩) hH ?_
  simp only [List.getElem_toArray, List.getElem_cons_succ, List.getElem_cons_zero, Act.put, List.setIfInBounds_toArray, List.set_cons_zero, List.set_cons_succ]
  refine wpAnyH_take (i := 5) rfl (by kernel_rfl) (by kernel_rfl) (by kernel_rfl) (fun _ _ _ h => h) (.inl ⟨by rfl, fun _ _ => rfl⟩) hH ?_
  simp only [List.getElem_toArray, List.getElem_cons_succ, List.getElem_cons_zero, Act.put, List.setIfInBounds_toArray, List.set_cons_zero, List.set_cons_succ]
  refine wpAnyH_ready (rs := [6]) (by kernel_rfl) (by simp) ?_
  refine AllReadyH.cons rfl (fun K hK => ?_) AllReadyH.nil
  simp only [List.getElem_toArray, List.getElem_cons_succ, List.getElem_cons_zero]
  rw [if_pos (by rfl)]
  go_wp2_with fail
  refine hK.out _ _ (HS5.out _ HB5.out.box HB5.out.below) (fun hH => ?_)
  try simp only [List.getElem_toArray, List.getElem_cons_succ, List.getElem_cons_zero, Act.put, List.setIfInBounds_toArray, List.set_cons_zero, List.set_cons_succ]
  refine wpAnyH_ready (rs := [7]) (by kernel_rfl) (by simp) ?_
  refine AllReadyH.cons rfl (fun K hK => ?_) AllReadyH.nil
  simp only [List.getElem_toArray, List.getElem_cons_succ, List.getElem_cons_zero]
  rw [if_pos (by rfl)]
  go_wp2_with fail
  have hcall5 := Hg1.out (outK D w.heap.size) _ Y n0 G4 _ tv4 _ (hkid1.below HB5.out.below) (HB5.out.new HD.out) HB5.out.links Hb4.out.1 Hb4.out.2
  rw [Hn4.out] at hcall5
  refine Calls.mono hcall5 ?_
  rintro e w5 ⟨lv5, tv5, rfl, hL5, b5⟩
  obtain ⟨G5, HG5⟩ : ∃ G6, Hid (growK f k1 Y n0 G4 = G6) := ⟨_, rfl⟩
  rw [HG5.out] at hL5 ⊢
  have hE5 := HB5.out.to b5
  have HE5 : Hid _ := hE5
  have hA5 := hE5.store hL5
  obtain ⟨al5, cl5, rfl, _⟩ := hL5.slice
  obtain ⟨n5, Hn5⟩ : ∃ n6, Hid (G5.places = n6) := ⟨_, rfl⟩
  obtain ⟨l5, Hl5⟩ : ∃ l6, Hid (G5.links.length = l6) := ⟨_, rfl⟩
  rw [Hl5.out, Hn5.out] at hA5
  rw [Hn5.out, Hl5.out]
  refine hK.out _ _ (HS5.out _ hE5.box hE5.below) (fun hH => ?_)
  try simp only [List.getElem_toArray, List.getElem_cons_succ, List.getElem_cons_zero, Act.put, List.setIfInBounds_toArray, List.set_cons_zero, List.set_cons_succ]
  obtain ⟨y05, y15, y25, y35⟩ := hE5.at
  have HA5 : Hid (KAt D w (.int .i64 6) (.int .i64 L) (.slice (some ⟨bk, off, none⟩) 2 cap) G5 (.slice al5 l5 cl5) tv5 ((w5.setCell ⟨w.heap.size + 1, 0, none⟩ (.int .i64 (n5 : Int))).setCell ⟨w.heap.size + 1, 1, none⟩ (.slice al5 l5 cl5))) := hA5
  refine wpAnyH_ready (rs := [8]) (by kernel_rfl) (by simp) ?_
  refine AllReadyH.cons rfl (fun K hK => ?_) AllReadyH.nil
  simp only [List.getElem_toArray, List.getElem_cons_succ, List.getElem_cons_zero]
  rw [if_pos (by rfl)]
  go_wp2_with fail
  refine hK.out _ _ (HS5.out _ HA5.out.box HA5.out.below) (fun hH => ?_)
  refine wpAnyH_done (by kernel_rfl) ?_ _
  obtain ⟨v5, Hv5⟩ : ∃ v, Hid ((w5.setCell ⟨w.heap.size + 1, 0, none⟩ (.int .i64 (n5 : Int))).setCell ⟨w.heap.size + 1, 1, none⟩ (.slice al5 l5 cl5) = v) := ⟨_, rfl⟩
  rw [Hv5.out] at HA5 ⊢
  clear d05 d15 d25 d35 hE5 hA5 hL5 b5 y05 y15 y25 y35 hH hK hB5 bd5 Hv5 hcall5 HE5 HB5
  rw [HG5.out] at R
  have hA5 := HA5.out
  have Hb5 : Hid (G5.links.length ≤ 900) := by
    have h1 := Hb4.out
    have h2 := Ha1.out Y n0 G4
    rw [HG5.out] at h2
    have h4 := h2.2
    show _ ≤ _
    omega
  clear hA4 HA5
  obtain ⟨d0, d1, d2, d3⟩ := hA5.at
  rw [Hn5.out] at d0
  have hLk := hA5.links
  have hnew := hA5.new HD.out
  go_wp2_with fail
  refine (klink_one (outK D w.heap.size) n5 0 _ G5.links tv5 Y q v5 hnew (by exact hLk) Hb5.out).mono ?_
  rintro e w6 ⟨lv6, tv6, rfl, hL6, b6⟩
  have hE6 := hA5.to b6
  have hA6 := hE6.store (g' := putG G5 0 [Y] [q]) hL6
  obtain ⟨al6, cl6, rfl, _⟩ := hL6.slice
  obtain ⟨G6, HG6⟩ : ∃ G6, Hid (putG G5 0 [Y] [q] = G6) := ⟨_, rfl⟩
  have Hn6 : Hid (G6.places = n5) := by rw [← HG6.out, ← Hn5.out]; rfl
  have hl6e : (G5.links ++ [(⟨0, [Y], [q]⟩ : LinkL)]).length = G6.links.length := by rw [← HG6.out]; rfl
  rw [hl6e] at hA6 ⊢
  rw [HG6.out] at hA6 R
  obtain ⟨l6, Hl6⟩ : ∃ l6, Hid (G6.links.length = l6) := ⟨_, rfl⟩
  rw [Hl6.out, Hn6.out] at hA6
  rw [Hl6.out]
  obtain ⟨y0, y1, y2, y3⟩ := hE6.at
  clear d0 d1 d2 d3 hLk hnew hL6 b6 hA5 hl6e
  obtain ⟨wr, Hwr⟩ : ∃ v, Hid ((w6.setCell ⟨w.heap.size + 1, 0, none⟩ (.int .i64 (n5 : Int))).setCell ⟨w.heap.size + 1, 1, none⟩ (.slice al6 l6 cl6) = v) := ⟨_, rfl⟩
  rw [Hwr.out] at hA6
  go_upto_region 46 with fail
  rw [Hwr.out]
  clear y0 y1 y2 y3 hE6 Hwr
  have HA : Hid (KAt D w (.int .i64 6) (.int .i64 L) (.slice (some ⟨bk, off, none⟩) 2 cap) G6 (.slice al6 l6 cl6) tv6 wr) := hA6
  have HTe : Hid (G6 = T) := R
  clear hA6
  obtain ⟨lvE, HlvE⟩ : ∃ lvE, Value.slice al6 l6 cl6 = lvE := ⟨_, rfl⟩
  rw [HlvE] at HA
  clear HlvE Hl6 Hn6
  obtain ⟨e0, e1, e2, e3⟩ := HA.out.at
  obtain ⟨r0, r1, r2, r3⟩ := HA.out.out
  obtain ⟨al2, cl2, rfl, _⟩ := HA.out.links.slice
  obtain ⟨n2, Hn2⟩ : ∃ n2, Hid (G6.places = n2) := ⟨_, rfl⟩
  obtain ⟨l3, Hl3⟩ : ∃ l3, Hid (G6.links.length = l3) := ⟨_, rfl⟩
  obtain ⟨wf, Hwf⟩ : ∃ wf, Hid ((wr.setCell ⟨w.heap.size + 2, 0, none⟩ (.int .i64 (G6.places : Int))).setCell ⟨w.heap.size + 2, 1, none⟩ (.slice al2 G6.links.length cl2) = wf) := ⟨_, rfl⟩
  obtain ⟨z0, z1, z2, z3⟩ := HA.out.answer (g' := G6) HA.out.links Hwf.out
  have HR : Hid (Answers D w T (.returned (.agg #[.int .i64 (G6.places : Int), .slice al2 G6.links.length cl2])) wf) := ⟨_, _, by rw [← HTe.out], by rw [← HTe.out]; exact z2, z3⟩
  rw [Hl3.out] at HR Hwf z1 e1
  rw [Hn2.out] at HR Hwf z0 e0
  clear z2 z3 HA
  go_wp2
  rw [Hwf.out]
  refine bodyPost_ret (v := .agg #[.int .i64 (n2 : Int), .slice al2 l3 cl2]) ?_ rfl HR.out
  simp [results, Try.results23, go_sem, z0, z1]

end Go.Proofs.Ytfgimobmaahmmaa

/- The answers of the document itself for grow: ins and outs. -/
namespace Go.Proofs.Ytfgimobmaahmmaa
open Go.RowKit
set_option linter.unusedVariables false
set_option linter.unusedSimpArgs false
set_option maxRecDepth 4000

/-- append of one number that lies somewhere, in a region that draws its order. -/
theorem wpr_append_intB {o : Oper} {a : Act} {K : Act → World → Prop} {Q : Exit → Act → World → Prop} {Y : Nat → Option Bool} (hwt : Region.wanted o Y = true) (s x : Operand)
    (ho : o.op = .call { callee := .builtin .append, args := #[s, x], argTypes := #[35, 35] }) (B : Nat) (wr : World) (v : Value) (n : Nat) (xs : List Value) (z : Int) (b : Nat)
    (hown : wr.ownsRow B 3 1 v n xs) (hs : a.eval s = v) (hx : a.eval x = .slice (some ⟨b, 0, none⟩) 1 1) (hc : wr.cell? ⟨b, 0, none⟩ = some (.int .i64 z)) (hl : n ≤ 1000000) (hB : B ≤ wr.heap.size)
    (h : ∀ v' w', w'.ownsRow B 3 1 v' (n + 1) (xs ++ [.int .i64 z]) → wr.grownBy w' v.ownBlock → (v'.ownBlock = v.ownBlock ∨ v'.ownBlock = some wr.heap.size) → K (a.put o.dst v') w') :
    if Region.wanted o Y = true then Oper.wp Try.prog o a wr K Q else K (a.put o.dst undef) wr := by
  obtain ⟨i0, hi, hz0, hz1, hz2⟩ := info_parts info_int
  refine wp_append_at _ hwt s x 35 ho B 3 i0 _ 1 8 Try.underlying35 hi hz0 hz1 hz2 rfl (by decide) v n _ hs hown ⟨b, 0, none⟩ 1 1 [.int .i64 z] hx rfl ?_ ?_ ?_ ?_ hB h
  · intro j u hj
    match j, hj with
    | 0, hj => simp at hj; subst hj; simpa [Addr.add] using hc
  · intro u hu; simp at hu; subst hu; rfl
  · unfold maxLen; omega
  · omega

theorem sum_len {f : Nat} : ∀ {l : List BlockL}, (∀ x ∈ l, Fit f x) → l.length ≤ sumB (cntB f) l
  | [], _ => by simp [sumB]
  | x :: t, h => by
    have h1 := cnt_pos f x (h x (by simp))
    have h2 := sum_len fun z hz => h z (by simp; right; exact hz)
    simp only [sumB, List.length_cons]; omega

/-- Ins and outs while they are made. -/
structure DoorsR (W : World) (n0 : Nat) (wr : World) (iv ov : Value) (k : Nat) : Prop where
  below : Below W.heap.size W wr
  ins : wr.ownsRow W.heap.size 3 1 iv k ((intsN (insG k n0)).map (Value.int .i64))
  outs : wr.ownsRow W.heap.size 3 1 ov k ((intsN (outsG k n0)).map (Value.int .i64))
  apart : ∀ b, iv.ownBlock = some b → ov.ownBlock ≠ some b

section
variable {W wr U wA U2 wB : World} {n0 k : Nat} {iv ov iv' ov' : Value} {y z : Int}

theorem DoorsR.first (h : DoorsR W n0 wr iv ov k) (hU : Below wr.heap.size wr U) (hg : U.grownBy wA iv.ownBlock) (hat : iv'.ownBlock = iv.ownBlock ∨ iv'.ownBlock = some U.heap.size) :
    Below W.heap.size W wA ∧ wA.ownsRow W.heap.size 3 1 ov k ((intsN (outsG k n0)).map (Value.int .i64)) ∧ (∀ b, wr.heap.size ≤ b → b < U.heap.size → wA.heap[b]? = U.heap[b]?) ∧ (∀ b, iv'.ownBlock = some b → ov.ownBlock ≠ some b) ∧ U.heap.size ≤ wA.heap.size := by
  have hs1 := h.below.size
  have hs2 := hU.size
  have hI : ∀ b, iv.ownBlock = some b → W.heap.size ≤ b ∧ b < wr.heap.size := fun b hb => ownsRow_lt h.ins hb
  have hO : ∀ b, ov.ownBlock = some b → W.heap.size ≤ b ∧ b < wr.heap.size := fun b hb => ownsRow_lt h.outs hb
  refine ⟨((below_then h.below hU)).grown hg (by omega) (fun b hb => (hI b hb).1), (((ownsRow_on h.outs).below hU).grown hg fun b _ hb e => h.apart b e.symm hb.1).now, fun b h1 h2 => hg.block b h2 (fun e => by have := hI b e.symm; omega), fun b hb e => ?_, hg.size⟩
  rcases hat with q | q
  · exact h.apart b (by rw [← q]; exact hb) e
  · rw [q] at hb; injection hb with hb; have := hO b e; omega

theorem DoorsR.second (h : DoorsR W n0 wr iv ov k) (hU : Below wr.heap.size wr U) (hA : wA.ownsRow W.heap.size 3 1 iv' (k + 1) ((intsN (insG k n0)).map (Value.int .i64) ++ [.int .i64 y])) (hg : U.grownBy wA iv.ownBlock) (hat : iv'.ownBlock = iv.ownBlock ∨ iv'.ownBlock = some U.heap.size)
    (hU2 : Below wA.heap.size wA U2) (hB : wB.ownsRow W.heap.size 3 1 ov' (k + 1) ((intsN (outsG k n0)).map (Value.int .i64) ++ [.int .i64 z])) (hg2 : U2.grownBy wB ov.ownBlock) (hat2 : ov'.ownBlock = ov.ownBlock ∨ ov'.ownBlock = some U2.heap.size)
    (hy : y = ((n0 + 2 * k : Nat) : Int)) (hz : z = ((n0 + 2 * k + 1 : Nat) : Int)) : DoorsR W n0 wB iv' ov' (k + 1) := by
  obtain ⟨f1, f2, f3, f4, f5⟩ := h.first hU hg hat
  have hO : ∀ b, ov.ownBlock = some b → W.heap.size ≤ b ∧ b < wA.heap.size := fun b hb => ownsRow_lt f2 hb
  have hI : ∀ b, iv'.ownBlock = some b → W.heap.size ≤ b ∧ b < wA.heap.size := fun b hb => ownsRow_lt hA hb
  have hs := hU2.size
  have hs1 := f1.size
  subst hy hz
  refine ⟨(below_then f1 hU2).grown hg2 (by omega) (fun b hb => (hO b hb).1), ?_, ?_, fun b hb e => ?_⟩
  · rw [insG_last]
    have := (((ownsRow_on hA).below hU2).grown hg2 fun b _ hb e => f4 b hb.1 e.symm).now
    simpa [intsN] using this
  · rw [outsG_last]; simpa [intsN] using hB
  · rcases hat2 with q | q
    · exact f4 b hb (by rw [← q]; exact e)
    · rw [q] at e; injection e with e; have := hI b hb; omega

/-- Ins and outs are read as long as they stand. -/
theorem DoorsR.reads {D : Nat → Prop} (h : DoorsR W n0 wr iv ov k) (hk : k ≤ 1000000) (hm : ∀ b, W.heap.size ≤ b → D b) :
    On D wr (fun w' => Ints w' iv (intsN (insG k n0))) ∧ On D wr (fun w' => Ints w' ov (intsN (outsG k n0))) := by
  have l1 : (intsN (insG k n0)).length = k := by rw [intsN_length, insG_length]
  have l2 : (intsN (outsG k n0)).length = k := by rw [intsN_length, outsG_length]
  constructor
  · refine ((ownsRow_on h.ins).weaken fun b _ hb => hm b hb.2).mono fun w' hw => ownsRow_ints (B := W.heap.size) (by rw [l1]; exact hw) (by omega)
  · refine ((ownsRow_on h.outs).weaken fun b _ hb => hm b hb.2).mono fun w' hw => ownsRow_ints (B := W.heap.size) (by rw [l2]; exact hw) (by omega)
end

end Go.Proofs.Ytfgimobmaahmmaa

/- The answers of the document itself for grow: a block grows. -/
namespace Go.Proofs.Ytfgimobmaahmmaa
open Go.RowKit
set_option linter.unusedVariables false
set_option linter.unusedSimpArgs false
set_option maxRecDepth 4000

set_option maxHeartbeats 8000000 in
theorem kbet_both (f : Nat) (b : BlockL) (hok : okB (f + 1) b) (hfit : Fit (f + 1) b) (hk : ∀ k ∈ b.kids, KBet f k) (hkind : b.kind = 5) : KBet (f + 1) b := by
  intro D v p q g lv tv w hv hD hL hp hl
  obtain ⟨f1, f2, f3, f4, f5, f6⟩ := hok.1
  have Hadd : Hid (∀ x ∈ b.kids, ∀ p q g, AddsG g (growK f x p q g) (cntB f x)) := fun x hx => adds_fit (hok.2 x hx) (hfit x hx)
  have HT : Hid (growF (growK f) b p q g = growK (f + 1) b p q g) := rfl
  have Hcnt : Hid (cntB (f + 1) b = 1 + sumB (cntB f) b.kids) := rfl
  rw [Hcnt.out] at hp hl
  show Calls Try.prog 23 _ w (Answers D w (growK (f + 1) b p q g))
  obtain ⟨T, HTT⟩ : ∃ T, Hid (growK (f + 1) b p q g = T) := ⟨_, rfl⟩
  rw [HTT.out] at HT ⊢
  clear HTT
  obtain ⟨kv, rfl, hK⟩ := blockV_iff.1 hv
  obtain ⟨a, cap, rfl, hmx, hsh⟩ := hK.slice
  obtain ⟨n, Hn⟩ : ∃ n, Hid (b.kids.length = n) := ⟨_, rfl⟩
  obtain ⟨K, HK⟩ : ∃ K, Hid (b.kind = K) := ⟨_, rfl⟩
  obtain ⟨L, HL⟩ : ∃ L, Hid (b.label = L) := ⟨_, rfl⟩
  rw [HK.out] at f1 f2 f3 f4 f5 f6
  rw [Hn.out] at f4 f5 f6 hK hmx
  rw [HK.out, HL.out, Hn.out]
  obtain ⟨al, cl, rfl, _⟩ := hL.slice
  obtain ⟨ln, Hln⟩ : ∃ ln, Hid (g.links.length = ln) := ⟨_, rfl⟩
  rw [Hln.out] at hL hl ⊢
  obtain ⟨n0, Hn0⟩ : ∃ n0, Hid (g.places = n0) := ⟨_, rfl⟩
  obtain ⟨W, HW⟩ : ∃ W, Hid (((w.alloc (.cells #[.int .i64 K, .int .i64 L, .slice a n cap] 24)).alloc (.cells #[.int .i64 (g.places : Int), .slice al ln cl] 60)).alloc (.cells #[.int .i64 0, .slice none 0 0] 60) = W) := ⟨_, rfl⟩
  have hA := kat_start D w W _ _ _ g _ tv hL HW.out
  rw [Hn0.out] at HW ⊢
  rw [Hn0.out] at hp
  have Hk : Hid _ := hk
  have Hp : Hid _ := hp
  have Hl : Hid _ := hl
  have HD : Hid _ := hD
  have HA : Hid _ := hA
  clear hv hsh hL hk hp hl hD
  go_enter Try.func23, Try.ntmps23
  go_upto_region 2 with fail
  rw [HW.out]
  clear HW
  rw [HK.out] at hkind
  subst hkind
  have R : Hid (putG (growBoth (growK f) b.kids g.places (putG ⟨g.places + 2 * b.kids.length, g.links⟩ 0 [p] (insG b.kids.length g.places))) 0 (outsG b.kids.length g.places) [q] = T) := by show _ = _; rw [← HT.out]; simp only [growF]; rw [if_neg (by rw [HK.out]; decide), if_neg (by rw [HK.out]; decide), if_neg (by rw [HK.out]; decide), if_neg (by rw [HK.out]; decide), if_pos HK.out]
  rw [Hn.out, Hn0.out] at R
  have Hnc : Hid (n ≤ sumB (cntB f) b.kids) := by rw [← Hn.out]; exact sum_len hfit
  obtain ⟨x0, x1, x2, x3⟩ := hA.box
  have HDr : Hid (DoorsR W n0 W (.slice none 0 0) (.slice none 0 0) 0) := ⟨Below.refl _ _, World.ownsRow_nil _ _ _ _, World.ownsRow_nil _ _ _ _, fun b hb => by cases hb⟩
  have hn900 : n0 + 4 * n ≤ 900 := by have h1 := Hp.out; have h2 := Hnc.out; omega
  clear f1 f2 f3 f4 f5 f6 hA HT
  go_wp2_with fail
  clear x0 x1 x2 x3
  go_loopg [15, 16, 94] n (fun gk iv ov i wr => ∃ (k : Nat), k + gk = n ∧ i = .int .i64 k ∧ Hid (DoorsR W n0 wr iv ov k))
  case atStart => exact ⟨0, by omega, rfl, HDr⟩
  case round =>
    clear HDr
    obtain ⟨k, hkg, rfl, HDr⟩ := hrel
    by_cases hkn : k < n
    · obtain ⟨y, Hy⟩ : ∃ y : Nat, Hid (n0 + 2 * k = y) := ⟨_, rfl⟩
      obtain ⟨z, Hz⟩ : ∃ z : Nat, Hid (n0 + 2 * k + 1 = z) := ⟨_, rfl⟩
      have hw1 : IntKind.i64.wrap (2 * (k : Int)) = 2 * (k : Int) := by rw [IntKind.wrap_i64]; omega
      have hw2 : IntKind.i64.wrap ((n0 : Int) + 2 * (k : Int)) = (y : Int) := by have := Hy.out; rw [IntKind.wrap_i64]; omega
      have hw3 : IntKind.i64.wrap ((y : Int) + 1) = (z : Int) := by have := Hy.out; have := Hz.out; rw [IntKind.wrap_i64]; omega
      have hk6 : k ≤ 1000000 := by omega
      have bA : Below wr.heap.size wr (wr.alloc (.cells #[.int .i64 (y : Int)] 3)).drew := (below_new _ _).drew
      have bB : Below wr.heap.size wr ((wr.alloc (.cells #[.int .i64 (y : Int)] 3)).alloc (.cells #[.int .i64 (z : Int)] 3)).drew := (below_then (below_new _ _) (below_new _ _)).drew
      have bC : Below wr.heap.size wr ((wr.alloc (.cells #[.int .i64 (z : Int)] 3)).alloc (.cells #[.int .i64 (y : Int)] 3)).drew := (below_then (below_new _ _) (below_new _ _)).drew
      have HUA : Hid _ := bA
      have HUB : Hid _ := bB
      have HUC : Hid _ := bC
      have HIA : Hid _ := ((ownsRow_on HDr.out.ins).below bA).now
      have HIB : Hid _ := ((ownsRow_on HDr.out.ins).below bB).now
      have HIC : Hid _ := ((ownsRow_on HDr.out.ins).below bC).now
      have HZA : Hid _ := Nat.le_trans HDr.out.below.size bA.size
      have HZB : Hid _ := Nat.le_trans HDr.out.below.size bB.size
      have HZC : Hid _ := Nat.le_trans HDr.out.below.size bC.size
      have HyA : Hid ((wr.alloc (.cells #[.int .i64 (y : Int)] 3)).drew.cell? ⟨wr.heap.size, 0, none⟩ = some (.int .i64 (y : Int))) := by show _ = _; simp
      have HyB : Hid (((wr.alloc (.cells #[.int .i64 (y : Int)] 3)).alloc (.cells #[.int .i64 (z : Int)] 3)).drew.cell? ⟨wr.heap.size, 0, none⟩ = some (.int .i64 (y : Int))) := by
        show _ = _
        rw [show ((wr.alloc (.cells #[.int .i64 (y : Int)] 3)).alloc (.cells #[.int .i64 (z : Int)] 3)).drew.cell? ⟨wr.heap.size, 0, none⟩ = ((wr.alloc (.cells #[.int .i64 (y : Int)] 3)).alloc (.cells #[.int .i64 (z : Int)] 3)).cell? ⟨wr.heap.size, 0, none⟩ by simp, (below_new (wr.alloc (.cells #[.int .i64 (y : Int)] 3)) _).cell (p := ⟨wr.heap.size, 0, none⟩) (by simp)]
        simp
      have HyC : Hid (((wr.alloc (.cells #[.int .i64 (z : Int)] 3)).alloc (.cells #[.int .i64 (y : Int)] 3)).drew.cell? ⟨wr.heap.size + 1, 0, none⟩ = some (.int .i64 (y : Int))) := by
        show _ = _
        simp
      have HzB : Hid (((wr.alloc (.cells #[.int .i64 (y : Int)] 3)).alloc (.cells #[.int .i64 (z : Int)] 3)).drew.heap[wr.heap.size + 1]? = some (.cells #[.int .i64 (z : Int)] 3 (0, 0))) := by
        have := heap_alloc_at (wr.alloc (.cells #[.int .i64 (y : Int)] 3)) (.cells #[.int .i64 (z : Int)] 3)
        rw [show (wr.alloc (.cells #[.int .i64 (y : Int)] 3)).heap.size = wr.heap.size + 1 by simp] at this
        exact this
      have HzC : Hid (((wr.alloc (.cells #[.int .i64 (z : Int)] 3)).alloc (.cells #[.int .i64 (y : Int)] 3)).drew.heap[wr.heap.size]? = some (.cells #[.int .i64 (z : Int)] 3 (0, 0))) := by
        have h1 := heap_alloc_at wr (.cells #[.int .i64 (z : Int)] 3)
        have h2 := (below_new (wr.alloc (.cells #[.int .i64 (z : Int)] 3)) (.cells #[.int .i64 (y : Int)] 3)).block wr.heap.size (by simp)
        rw [h1] at h2
        exact h2
      have xW := (HA.out.to HDr.out.below).at.1
      rw [Hn0.out] at xW
      clear bA bB bC
      go_upto_region 29 with fail
      go_region_held3 (fun w' => w'.cell? ⟨w.heap.size + 1, 0, none⟩ = some (.int .i64 (n0 : Int)))
        (go_keep)
        (first
          | (refine wpr_append_intB rfl _ _ rfl W.heap.size _ _ k _ (y : Int) wr.heap.size HIA.out rfl rfl HyA.out hk6 HZA.out ?_; intro ivA wA hRA hgA hatA; obtain ⟨aA, lA, cA, rfl⟩ := ownsRow_slice hRA; obtain ⟨fA1, fA2, fA3, fA4, fA5⟩ := HDr.out.first HUA.out hgA hatA; have xA := (HA.out.to fA1).at.1; rw [Hn0.out] at xA)
          | (refine wpr_append_intB rfl _ _ rfl W.heap.size _ _ k _ (y : Int) wr.heap.size HIB.out rfl rfl HyB.out hk6 HZB.out ?_; intro ivA wA hRA hgA hatA; obtain ⟨aA, lA, cA, rfl⟩ := ownsRow_slice hRA; obtain ⟨fA1, fA2, fA3, fA4, fA5⟩ := HDr.out.first HUB.out hgA hatA; have xA := (HA.out.to fA1).at.1; rw [Hn0.out] at xA; have zA := (fA3 (wr.heap.size + 1) (by omega) (Array.getElem?_eq_some_iff.1 HzB.out).1).trans HzB.out; have zA := (box_cell zA).1)
          | (refine wpr_append_intB rfl _ _ rfl W.heap.size _ _ k _ (y : Int) (wr.heap.size + 1) HIC.out rfl rfl HyC.out hk6 HZC.out ?_; intro ivA wA hRA hgA hatA; obtain ⟨aA, lA, cA, rfl⟩ := ownsRow_slice hRA; obtain ⟨fA1, fA2, fA3, fA4, fA5⟩ := HDr.out.first HUC.out hgA hatA; have xA := (HA.out.to fA1).at.1; rw [Hn0.out] at xA; have zA := (fA3 wr.heap.size (by omega) (Array.getElem?_eq_some_iff.1 HzC.out).1).trans HzC.out; have zA := (box_cell zA).1)
          | (refine wpr_append_intB rfl _ _ rfl W.heap.size wA _ k _ (z : Int) _ fA2 rfl rfl zA hk6 fA1.size ?_; intro ovB wB hRB hgB hatB; have HD9 : Hid _ := HDr.out.second (by first | exact HUB.out | exact HUC.out) hRA hgA hatA (Below.refl _ _) hRB hgB hatB (by rw [Hy.out]) (by rw [Hz.out]); obtain ⟨aB, lB, cB, rfl⟩ := ownsRow_slice hRB; have xB := (HA.out.to HD9.out.below).at.1; rw [Hn0.out] at xB)
          | (refine wpr_append_intB rfl _ _ rfl W.heap.size (wA.alloc (.cells #[.int .i64 (z : Int)] 3)) _ k _ (z : Int) wA.heap.size (((ownsRow_on fA2).below (below_new _ _)).now) rfl rfl (box1_new wA (.int .i64 (z : Int)) 3).2 hk6 (Nat.le_trans fA1.size (by simp)) ?_; intro ovB wB hRB hgB hatB; have HD9 : Hid _ := HDr.out.second HUA.out hRA hgA hatA (below_new wA (.cells #[.int .i64 (z : Int)] 3)) hRB hgB hatB (by rw [Hy.out]) (by rw [Hz.out]); obtain ⟨aB, lB, cB, rfl⟩ := ownsRow_slice hRB; have xB := (HA.out.to HD9.out.below).at.1; rw [Hn0.out] at xB))
      all_goals
        clear hw1 hw2 hw3 hRB hgB hatB hRA hgA hatA fA1 fA2 fA3 fA4 fA5 xA xB xW HUA HUB HUC HIA HIB HIC HZA HZB HZC HyA HyB HyC HzB HzC HDr
        go_wp2
        go_roundg (gk - 1)
        case measure => omega
        case rel => exact ⟨k + 1, by omega, by go_num, HD9⟩
    · obtain rfl : k = n := by omega
      have hk6 : k ≤ 1000000 := by omega
      obtain ⟨hI, hO⟩ := HDr.out.reads (D := outK D w.heap.size) hk6 (HA.out.new HD.out)
      have hA1 := HA.out.to HDr.out.below
      obtain ⟨M, HM⟩ : ∃ M, Hid (n0 + 2 * k = M) := ⟨_, rfl⟩
      rw [HM.out] at R
      have hA2 := hA1.place M
      have hI2 := hI.set (a := ⟨w.heap.size + 1, 0, none⟩) (fun q => q.2.1 rfl) (.int .i64 (M : Int))
      have hO2 := hO.set (a := ⟨w.heap.size + 1, 0, none⟩) (fun q => q.2.1 rfl) (.int .i64 (M : Int))
      have eM : (n0 : Int) + 2 * (k : Int) = (M : Int) := by have := HM.out; omega
      have HeM : Hid _ := eM
      clear eM
      obtain ⟨x0, x1, x2, x3⟩ := hA1.box
      obtain ⟨d0, d1, d2, d3⟩ := hA1.at
      rw [Hn0.out] at d0
      obtain ⟨w2, Hw2⟩ : ∃ w2, Hid (wr.setCell ⟨w.heap.size + 1, 0, none⟩ (.int .i64 (M : Int)) = w2) := ⟨_, rfl⟩
      rw [Hw2.out] at hA2 hI2 hO2
      have hw1 : IntKind.i64.wrap (2 * (k : Int)) = 2 * (k : Int) := by rw [IntKind.wrap_i64]; omega
      go_upto_region 32 with fail
      rw [HeM.out, Hw2.out]
      clear Hw2 hw1 x0 x1 x2 x3 d0 d1 d2 d3 hA1 hI hO HDr
      obtain ⟨d0, d1, d2, d3⟩ := hA2.at
      rw [show (⟨M, g.links⟩ : GrowL).places = M from rfl] at d0
      have bp := below_new w2 (.cells #[.int .i64 (p : Int)] 3)
      have hPl : On (outK D w.heap.size) (w2.alloc (.cells #[.int .i64 (p : Int)] 3)) (fun w' => Ints w' (.slice (some ⟨w2.heap.size, 0, none⟩) 1 1) (intsN [p])) :=
        (ints_lit_on w2 w2.heap.size [(p : Int)] 3 1 rfl (by omega) rfl).weaken fun b _ hb => hA2.new HD.out b (by omega)
      have hA2p := hA2.to bp
      have hI2p := hI2.below bp
      have hO2p := hO2.below bp
      have hlb : g.links.length ≤ 900 := by have := Hl.out; have := Hln.out; omega
      have hLk := hA2p.links
      have hnew := hA2p.new HD.out
      go_wp2_with fail
      refine (klink_any (outK D w.heap.size) M 0 _ _ _ g.links tv [p] (insG k n0) _ hnew (by exact hLk) hlb hPl hI2p).mono ?_
      rintro e w3 ⟨lv3, tv3, rfl, hL3, b3⟩
      have hE3 := hA2p.to b3
      have hA3 := hE3.store (g' := putG ⟨M, g.links⟩ 0 [p] (insG k n0)) hL3
      have hI3 := hI2p.below b3
      have hO3 := hO2p.below b3
      obtain ⟨al3, cl3, rfl, _⟩ := hL3.slice
      obtain ⟨G3, HG3⟩ : ∃ G3, Hid (putG ⟨M, g.links⟩ 0 [p] (insG k n0) = G3) := ⟨_, rfl⟩
      have Hn3 : Hid (G3.places = M) := by rw [← HG3.out]; rfl
      have hl3e : (g.links ++ [(⟨0, [p], insG k n0⟩ : LinkL)]).length = G3.links.length := by rw [← HG3.out]; rfl
      rw [hl3e] at hA3 ⊢
      rw [HG3.out] at hA3 R
      obtain ⟨l3, Hl3⟩ : ∃ l3, Hid (G3.links.length = l3) := ⟨_, rfl⟩
      rw [Hl3.out, Hn3.out] at hA3
      rw [Hl3.out]
      obtain ⟨y0, y1, y2, y3⟩ := hE3.at
      have hI4 := (hI3.set (a := ⟨w.heap.size + 1, 0, none⟩) (fun q => q.2.1 rfl) (.int .i64 (M : Int))).set (a := ⟨w.heap.size + 1, 1, none⟩) (fun q => q.2.1 rfl) (.slice al3 l3 cl3)
      have hO4 := (hO3.set (a := ⟨w.heap.size + 1, 0, none⟩) (fun q => q.2.1 rfl) (.int .i64 (M : Int))).set (a := ⟨w.heap.size + 1, 1, none⟩) (fun q => q.2.1 rfl) (.slice al3 l3 cl3)
      have Hpp : Hid (G3.places + 4 * sumB (cntB f) (b.kids.drop 0) + 2 * 0 ≤ 896 + 2 * k) := by
        show _ ≤ _
        have h1 := Hp.out; have h2 := HM.out; have h3 := Hn3.out; rw [List.drop_zero]; omega
      have Hll : Hid (G3.links.length + 1 + 4 * sumB (cntB f) (b.kids.drop 0) ≤ 900) := by
        show _ ≤ _
        have h1 := Hl.out; have h2 := Hln.out; rw [← hl3e, List.drop_zero]; simp; omega
      obtain ⟨TB, HTB⟩ : ∃ TB, Hid (growBoth (growK f) b.kids n0 G3 = TB) := ⟨_, rfl⟩
      rw [HTB.out] at R
      have HTe : Hid (growBoth (growK f) (b.kids.drop 0) (n0 + 2 * 0) G3 = TB) := HTB.out
      clear d0 d1 d2 d3 hLk hnew hlb hL3 b3 hA2 hA2p hI2 hO2 hI2p hO2p hPl bp hI3 hO3 hl3e HTB HA
      obtain ⟨v3, Hv3⟩ : ∃ v, Hid ((w3.setCell ⟨w.heap.size + 1, 0, none⟩ (.int .i64 (M : Int))).setCell ⟨w.heap.size + 1, 1, none⟩ (.slice al3 l3 cl3) = v) := ⟨_, rfl⟩
      rw [Hv3.out] at hA3 hI4 hO4
      obtain ⟨ai, li, ci, ei⟩ : ∃ ai li ci, u15 = .slice ai li ci := by obtain ⟨a1, l1, c1, e, _⟩ := hI4.now; exact ⟨a1, l1, c1, e⟩
      obtain ⟨ao, lo, co, eo⟩ : ∃ ai li ci, u16 = .slice ai li ci := by obtain ⟨a1, l1, c1, e, _⟩ := hO4.now; exact ⟨a1, l1, c1, e⟩
      subst ei eo
      have HA3 : Hid (KAt D w (.int .i64 5) (.int .i64 L) (.slice a k cap) G3 (.slice al3 l3 cl3) tv3 v3) := hA3
      have HI4 : Hid (On (outK D w.heap.size) v3 (fun w' => Ints w' (.slice ai li ci) (intsN (insG k n0)))) := hI4
      have HO4 : Hid (On (outK D w.heap.size) v3 (fun w' => Ints w' (.slice ao lo co) (intsN (outsG k n0)))) := hO4
      go_upto_region 33 with fail
      rw [Hv3.out]
      clear y0 y1 y2 y3 hE3 Hv3 hA3 hI4 hO4
      obtain ⟨x0, x1, x2, x3⟩ := HA3.out.box
      go_wp2_with fail
      clear x0 x1 x2 x3
      go_loopg [132] k (fun gk i wr => ∃ (j : Nat) (g' : GrowL) (lv' : Value) (tv' : List (Int × Value × Value)), j + gk = k ∧ i = .int .i64 j ∧ Hid (KAt D w (.int .i64 5) (.int .i64 L) (.slice a k cap) g' lv' tv' wr) ∧ Hid (g'.places + 4 * sumB (cntB f) (b.kids.drop j) + 2 * j ≤ 896 + 2 * k) ∧ Hid (g'.links.length + 1 + 4 * sumB (cntB f) (b.kids.drop j) ≤ 900) ∧
        Hid (On (outK D w.heap.size) wr (fun w' => Ints w' (.slice ai li ci) (intsN (insG k n0)))) ∧ Hid (On (outK D w.heap.size) wr (fun w' => Ints w' (.slice ao lo co) (intsN (outsG k n0)))) ∧ Hid (growBoth (growK f) (b.kids.drop j) (n0 + 2 * j) g' = TB))
      case atStart => exact ⟨0, G3, _, tv3, by omega, rfl, HA3, Hpp, Hll, HI4, HO4, HTe⟩
      case round =>
        clear HA3 Hpp Hll HI4 HO4 HTe HG3 Hn3 Hl3
        obtain ⟨j, g', lv', tv', hjg, rfl, HA, Hpp, Hll, HI, HO, HTe⟩ := hrel
        obtain ⟨al', cl', rfl, _⟩ := HA.out.links.slice
        obtain ⟨l', Hl'⟩ : ∃ l', Hid (g'.links.length = l') := ⟨_, rfl⟩
        rw [Hl'.out] at HA
        by_cases hj : j < k
        · have Hkl : Hid (j < b.kids.length) := by show j < b.kids.length; rw [Hn.out]; exact hj
          obtain ⟨bk, off, ka, kl, kc, ea, hlt, hcc, hkid⟩ := kid_W hK Hkl.out
          subst ea
          obtain ⟨c0, c1, c2⟩ := hcc wr HA.out.below
          have Hgr : Hid (KBet f (b.kids[j]'Hkl.out)) := Hk.out _ (List.getElem_mem _)
          have Had : Hid (∀ p q g, AddsG g (growK f (b.kids[j]'Hkl.out) p q g) (cntB f (b.kids[j]'Hkl.out))) := Hadd.out _ (List.getElem_mem _)
          have Hsum : Hid _ := sumB_drop (cnt := cntB f) Hkl.out
          have Hst : Hid _ := growBoth_step (K := growK f) Hkl.out (n0 + 2 * j) g'
          have Hrest : Hid (k - (j + 1) ≤ sumB (cntB f) (b.kids.drop (j + 1))) := by
            have := sum_len (f := f) (l := b.kids.drop (j + 1)) fun x hx => hfit x (List.mem_of_mem_drop hx)
            rw [List.length_drop, Hn.out] at this
            exact this
          obtain ⟨n', Hn'⟩ : ∃ n', Hid (g'.places = n') := ⟨_, rfl⟩
          obtain ⟨kb, Hkb⟩ : ∃ kb, Hid (b.kids[j]'Hkl.out = kb) := ⟨_, rfl⟩
          rw [Hkb.out] at c0 c1 hkid Hgr Hst Had Hsum
          have b3 := below_new wr (.cells #[.int .i64 kb.kind, .int .i64 kb.label, .slice ka kl kc] 24)
          have hx3 := box3_new wr (.int .i64 kb.kind) (.int .i64 kb.label) (.slice ka kl kc) 24
          have hA4 := HA.out.to b3
          have hI4 := HI.out.below b3
          have hO4 := HO.out.below b3
          have Hwl : Hid (w.heap.size + 2 < wr.heap.size) := HA.out.lt
          obtain ⟨w4, Hw4⟩ : ∃ w4, Hid (wr.alloc (.cells #[.int .i64 kb.kind, .int .i64 kb.label, .slice ka kl kc] 24) = w4) := ⟨_, rfl⟩
          rw [Hw4.out] at hx3 hA4 hI4 hO4
          go_upto_region 36 with fail
          rw [Hw4.out]
          clear Hw4 c0 c1 c2 b3 hlt hcc HA HI HO
          obtain ⟨bi, oi, ei, eli, ilt, ic⟩ := ints_cell hI4.now (j := j) (by rw [intsN_length, insG_length]; exact hj)
          obtain ⟨bo, oo, eo, elo, olt, oc⟩ := ints_cell hO4.now (j := j) (by rw [intsN_length, outsG_length]; exact hj)
          rw [intsN_length, insG_length] at eli
          rw [intsN_length, outsG_length] at elo
          subst ei eo eli elo
          clear ilt ic olt oc
          obtain ⟨y, Hy⟩ : ∃ y, Hid (n0 + 2 * j = y) := ⟨_, rfl⟩
          obtain ⟨y1, Hy1⟩ : ∃ y1, Hid (n0 + 2 * j + 1 = y1) := ⟨_, rfl⟩
          have bd := (Below.refl w4.heap.size w4).drew
          have HB : Hid (KAt D w (.int .i64 5) (.int .i64 L) (.slice (some ⟨bk, off, none⟩) k cap) g' (.slice al' l' cl') tv' w4.drew) := hA4.to bd
          have hI5 : On (outK D w.heap.size) w4.drew (fun w' => Ints w' (.slice (some ⟨bi, oi, none⟩) k ci) (intsN (insG k n0))) := hI4.below bd
          have hO5 : On (outK D w.heap.size) w4.drew (fun w' => Ints w' (.slice (some ⟨bo, oo, none⟩) k co) (intsN (outsG k n0))) := hO4.below bd
          have hx5 := hx3.below bd
          have HS : Hid (∀ w', Box3 w' wr.heap.size (.int .i64 kb.kind) (.int .i64 kb.label) (.slice ka kl kc) → Ints w' (.slice (some ⟨bi, oi, none⟩) k ci) (intsN (insG k n0)) → Ints w' (.slice (some ⟨bo, oo, none⟩) k co) (intsN (outsG k n0)) → (fun w' => w'.cell? ⟨wr.heap.size, 0, none⟩ = some (.int .i64 kb.kind) ∧ w'.cell? ⟨wr.heap.size, 1, none⟩ = some (.int .i64 kb.label) ∧ w'.cell? ⟨wr.heap.size, 2, none⟩ = some (.slice ka kl kc) ∧ w'.cell? ⟨bi, oi + j, none⟩ = some (.int .i64 (y : Int)) ∧ w'.cell? ⟨bo, oo + j, none⟩ = some (.int .i64 (y1 : Int))) w') := fun w' hbx h1 h2 => ⟨hbx.2.1, hbx.2.2.1, hbx.2.2.2, by rw [ints_cell_at h1 (by rw [intsN_length, insG_length]; exact hj), insG_at hj, Hy.out], by rw [ints_cell_at h2 (by rw [intsN_length, outsG_length]; exact hj), outsG_at hj, Hy1.out]⟩
          obtain ⟨d0, d1, d2, d3⟩ := HB.out.at
          rw [Hn'.out] at d0
          refine wp_region_held_drew (S := (fun w' => w'.cell? ⟨wr.heap.size, 0, none⟩ = some (.int .i64 kb.kind) ∧ w'.cell? ⟨wr.heap.size, 1, none⟩ = some (.int .i64 kb.label) ∧ w'.cell? ⟨wr.heap.size, 2, none⟩ = some (.slice ka kl kc) ∧ w'.cell? ⟨bi, oi + j, none⟩ = some (.int .i64 (y : Int)) ∧ w'.cell? ⟨bo, oo + j, none⟩ = some (.int .i64 (y1 : Int)))) (by kernel_rfl) (HS.out _ hx5 hI5.now hO5.now) (fun hH => ?_)
          refine wpAnyH_take (i := 0) (v := .agg #[.int .i64 kb.kind, .int .i64 kb.label, .slice ka kl kc]) rfl (by kernel_rfl) (by kernel_rfl) (by kernel_rfl) (fun _ _ _ h => h) (.inl ⟨by rfl, fun w' hS' => by obtain ⟨e0, e1, e2, e3, e4⟩ := hS'; go_simp⟩) hH ?_
          simp only [List.getElem_toArray, List.getElem_cons_succ, List.getElem_cons_zero, Act.put, List.setIfInBounds_toArray, List.set_cons_zero, List.set_cons_succ]
          refine wpAnyH_take (i := 1) rfl (by kernel_rfl) (by kernel_rfl) (by kernel_rfl) (fun _ _ _ h => h) (.inl ⟨by rfl, fun _ _ => rfl⟩) hH ?_
          simp only [List.getElem_toArray, List.getElem_cons_succ, List.getElem_cons_zero, Act.put, List.setIfInBounds_toArray, List.set_cons_zero, List.set_cons_succ]
          refine wpAnyH_take (i := 2) rfl (by kernel_rfl) (by kernel_rfl) (by kernel_rfl) (fun _ _ _ h => h) (.inl ⟨by rfl, fun _ _ => rfl⟩) hH ?_
          simp only [List.getElem_toArray, List.getElem_cons_succ, List.getElem_cons_zero, Act.put, List.setIfInBounds_toArray, List.set_cons_zero, List.set_cons_succ]
          refine wpAnyH_take (i := 3) (v := .pointer (some ⟨bi, oi + j, none⟩)) rfl (by kernel_rfl) (by kernel_rfl) (by kernel_rfl) (fun _ _ _ h => h) (.inl ⟨by rfl, fun w' hS' => by first | (go_simp; done) | (go_simp; rfl)⟩) hH ?_
          simp only [List.getElem_toArray, List.getElem_cons_succ, List.getElem_cons_zero, Act.put, List.setIfInBounds_toArray, List.set_cons_zero, List.set_cons_succ]
          refine wpAnyH_take (i := 4) (v := .int .i64 (y : Int)) rfl (by kernel_rfl) (by kernel_rfl) (by kernel_rfl) (fun _ _ _ h => h) (.inl ⟨by rfl, fun w' hS' => by obtain ⟨e0, e1, e2, e3, e4⟩ := hS'; go_simp⟩) hH ?_
          simp only [List.getElem_toArray, List.getElem_cons_succ, List.getElem_cons_zero, Act.put, List.setIfInBounds_toArray, List.set_cons_zero, List.set_cons_succ]
          refine wpAnyH_take (i := 5) rfl (by kernel_rfl) (by kernel_rfl) (by kernel_rfl) (fun _ _ _ h => h) (.inl ⟨by rfl, fun _ _ => rfl⟩) hH ?_
          simp only [List.getElem_toArray, List.getElem_cons_succ, List.getElem_cons_zero, Act.put, List.setIfInBounds_toArray, List.set_cons_zero, List.set_cons_succ]
          refine wpAnyH_take (i := 6) rfl (by kernel_rfl) (by kernel_rfl) (by kernel_rfl) (fun _ _ _ h => h) (.inl ⟨by rfl, fun _ _ => rfl⟩) hH ?_
          simp only [List.getElem_toArray, List.getElem_cons_succ, List.getElem_cons_zero, Act.put, List.setIfInBounds_toArray, List.set_cons_zero, List.set_cons_succ]
          refine wpAnyH_take (i := 7) (v := .pointer (some ⟨bo, oo + j, none⟩)) rfl (by kernel_rfl) (by kernel_rfl) (by kernel_rfl) (fun _ _ _ h => h) (.inl ⟨by rfl, fun w' hS' => by first | (go_simp; done) | (go_simp; rfl)⟩) hH ?_
          simp only [List.getElem_toArray, List.getElem_cons_succ, List.getElem_cons_zero, Act.put, List.setIfInBounds_toArray, List.set_cons_zero, List.set_cons_succ]
          refine wpAnyH_take (i := 8) (v := .int .i64 (y1 : Int)) rfl (by kernel_rfl) (by kernel_rfl) (by kernel_rfl) (fun _ _ _ h => h) (.inl ⟨by rfl, fun w' hS' => by obtain ⟨e0, e1, e2, e3, e4⟩ := hS'; go_simp⟩) hH ?_
          simp only [List.getElem_toArray, List.getElem_cons_succ, List.getElem_cons_zero, Act.put, List.setIfInBounds_toArray, List.set_cons_zero, List.set_cons_succ]
          refine wpAnyH_ready (rs := [9]) (by kernel_rfl) (by simp) ?_
          refine AllReadyH.cons rfl (fun K hK => ?_) AllReadyH.nil
          simp only [List.getElem_toArray, List.getElem_cons_succ, List.getElem_cons_zero]
          rw [if_pos (by rfl)]
          go_wp2_with fail
          refine hK.out _ _ (HS.out _ hx5 hI5.now hO5.now) (fun hH => ?_)
          try simp only [List.getElem_toArray, List.getElem_cons_succ, List.getElem_cons_zero, Act.put, List.setIfInBounds_toArray, List.set_cons_zero, List.set_cons_succ]
          refine wpAnyH_ready (rs := [10]) (by kernel_rfl) (by simp) ?_
          refine AllReadyH.cons rfl (fun K hK => ?_) AllReadyH.nil
          simp only [List.getElem_toArray, List.getElem_cons_succ, List.getElem_cons_zero]
          rw [if_pos (by rfl)]
          go_wp2_with fail
          have hcall := Hgr.out (outK D w.heap.size) _ y y1 g' _ tv' _ (hkid.below HB.out.below) (HB.out.new HD.out) HB.out.links (by have h1 := Hpp.out; have h3 := Hsum.out; have h4 := Hrest.out; omega) (by have h1 := Hll.out; have h3 := Hsum.out; omega)
          rw [Hn'.out] at hcall
          refine Calls.mono hcall ?_
          rintro e w6 ⟨lv6, tv6, rfl, hL6, b6⟩
          obtain ⟨G6, HG6⟩ : ∃ G6, Hid (growK f kb y y1 g' = G6) := ⟨_, rfl⟩
          rw [HG6.out] at hL6 ⊢
          have hE6 := HB.out.to b6
          have hA7 := hE6.store hL6
          obtain ⟨al6, cl6, rfl, _⟩ := hL6.slice
          obtain ⟨n6, Hn6⟩ : ∃ n6, Hid (G6.places = n6) := ⟨_, rfl⟩
          obtain ⟨l6, Hl6⟩ : ∃ l6, Hid (G6.links.length = l6) := ⟨_, rfl⟩
          have R1 : Hid (KAt D w (.int .i64 5) (.int .i64 L) (.slice (some ⟨bk, off, none⟩) k cap) G6 (.slice al6 l6 cl6) tv6 ((w6.setCell ⟨w.heap.size + 1, 0, none⟩ (.int .i64 (n6 : Int))).setCell ⟨w.heap.size + 1, 1, none⟩ (.slice al6 l6 cl6))) := by
            rw [Hn6.out, Hl6.out] at hA7
            exact hA7
          have Had6 : Hid (AddsG g' G6 (cntB f kb)) := by rw [← HG6.out]; exact Had.out _ _ _
          have R2 : Hid (G6.places + 4 * sumB (cntB f) (b.kids.drop (j + 1)) + 2 * (j + 1) ≤ 896 + 2 * k) := by
            show _ ≤ _
            have h1 := Hpp.out; have h3 := Hsum.out; have h4 := Had6.out.1; omega
          have R3 : Hid (G6.links.length + 1 + 4 * sumB (cntB f) (b.kids.drop (j + 1)) ≤ 900) := by
            show _ ≤ _
            have h1 := Hll.out; have h3 := Hsum.out; have h4 := Had6.out.2; omega
          have hI6 := hI5.below b6
          have hO6 := hO5.below b6
          have hx6 := hx5.below b6
          have R4 : Hid (On (outK D w.heap.size) ((w6.setCell ⟨w.heap.size + 1, 0, none⟩ (.int .i64 (n6 : Int))).setCell ⟨w.heap.size + 1, 1, none⟩ (.slice al6 l6 cl6)) (fun w' => Ints w' (.slice (some ⟨bi, oi, none⟩) k ci) (intsN (insG k n0)))) := (hI6.set (a := ⟨w.heap.size + 1, 0, none⟩) (fun q => q.2.1 rfl) _).set (a := ⟨w.heap.size + 1, 1, none⟩) (fun q => q.2.1 rfl) _
          have R5 : Hid (On (outK D w.heap.size) ((w6.setCell ⟨w.heap.size + 1, 0, none⟩ (.int .i64 (n6 : Int))).setCell ⟨w.heap.size + 1, 1, none⟩ (.slice al6 l6 cl6)) (fun w' => Ints w' (.slice (some ⟨bo, oo, none⟩) k co) (intsN (outsG k n0)))) := (hO6.set (a := ⟨w.heap.size + 1, 0, none⟩) (fun q => q.2.1 rfl) _).set (a := ⟨w.heap.size + 1, 1, none⟩) (fun q => q.2.1 rfl) _
          have R6 : Hid (growBoth (growK f) (b.kids.drop (j + 1)) (n0 + 2 * (j + 1)) G6 = TB) := by rw [← HTe.out, Hst.out, Hy1.out, Hy.out, HG6.out, show n0 + 2 * (j + 1) = y + 2 by have := Hy.out; omega]; rfl
          have hne : ¬ wr.heap.size = w.heap.size + 1 := by have := Hwl.out; omega
          have hx7 : Box3 ((w6.setCell ⟨w.heap.size + 1, 0, none⟩ (.int .i64 (n6 : Int))).setCell ⟨w.heap.size + 1, 1, none⟩ (.slice al6 l6 cl6)) wr.heap.size (.int .i64 kb.kind) (.int .i64 kb.label) (.slice ka kl kc) := by
            have O1 := OnlyB.set (w.heap.size + 1) 0 w6 (.int .i64 (n6 : Int))
            have O2 := O1.trans (OnlyB.set (w.heap.size + 1) 1 (w6.setCell ⟨w.heap.size + 1, 0, none⟩ (.int .i64 (n6 : Int))) (.slice al6 l6 cl6))
            exact ⟨Nat.lt_of_lt_of_le hx6.1 O2.size, O2.cell hne hx6.2.1, O2.cell hne hx6.2.2.1, O2.cell hne hx6.2.2.2⟩
          rw [Hn6.out, Hl6.out]
          refine hK.out _ _ (HS.out _ hx6 hI6.now hO6.now) (fun hH => ?_)
          try simp only [List.getElem_toArray, List.getElem_cons_succ, List.getElem_cons_zero, Act.put, List.setIfInBounds_toArray, List.set_cons_zero, List.set_cons_succ]
          obtain ⟨y0', y1', y2', y3'⟩ := hE6.at
          refine wpAnyH_ready (rs := [11]) (by kernel_rfl) (by simp) ?_
          refine AllReadyH.cons rfl (fun K hK => ?_) AllReadyH.nil
          simp only [List.getElem_toArray, List.getElem_cons_succ, List.getElem_cons_zero]
          rw [if_pos (by rfl)]
          go_wp2_with fail
          refine hK.out _ _ (HS.out _ hx7 R4.out.now R5.out.now) (fun hH => ?_)
          refine wpAnyH_done (by kernel_rfl) ?_ _
          clear d0 d1 d2 d3 hE6 hA7 hL6 b6 y0' y1' y2' y3' hH hK bd hcall HB hI5 hO5 hI6 hO6 hx5 hx6 hx7 hA4 hI4 hO4 hx3 Had Had6 HTe Hst hkid
          go_wp2
          go_roundg (gk - 1)
          case measure => omega
          case rel => exact ⟨j + 1, G6, _, tv6, by omega, by go_num, R1, R2, R3, R4, R5, R6⟩
        · obtain rfl : j = k := by omega
          have HTB : Hid (g' = TB) := by rw [← HTe.out, List.drop_of_length_le (by rw [Hn.out]; exact Nat.le_refl _)]; rfl
          clear HTe
          obtain ⟨n', Hn'⟩ : ∃ n', Hid (g'.places = n') := ⟨_, rfl⟩
          have bp := below_new wr (.cells #[.int .i64 (q : Int)] 3)
          have hPl : On (outK D w.heap.size) (wr.alloc (.cells #[.int .i64 (q : Int)] 3)) (fun w' => Ints w' (.slice (some ⟨wr.heap.size, 0, none⟩) 1 1) (intsN [q])) :=
            (ints_lit_on wr wr.heap.size [(q : Int)] 3 1 rfl (by omega) rfl).weaken fun b _ hb => HA.out.new HD.out b (by omega)
          obtain ⟨d0, d1, d2, d3⟩ := HA.out.at
          rw [Hn'.out] at d0
          have hA4 := HA.out.to bp
          have hO4 := HO.out.below bp
          have hlb : g'.links.length ≤ 900 := by have := Hll.out; omega
          have hLk := hA4.links
          have hnew := hA4.new HD.out
          clear HA HI HO
          go_wp2_with fail
          refine (klink_any (outK D w.heap.size) n' 0 _ _ _ g'.links tv' (outsG j n0) [q] _ hnew (by exact hLk) hlb hO4 hPl).mono ?_
          rintro e w6 ⟨lv6, tv6, rfl, hL6, b6⟩
          have hE6 := hA4.to b6
          have hA6 := hE6.store (g' := putG g' 0 (outsG j n0) [q]) hL6
          obtain ⟨al6, cl6, rfl, _⟩ := hL6.slice
          obtain ⟨G6, HG6⟩ : ∃ G6, Hid (putG g' 0 (outsG j n0) [q] = G6) := ⟨_, rfl⟩
          have Hn6 : Hid (G6.places = n') := by rw [← HG6.out, ← Hn'.out]; rfl
          have hl6e : (g'.links ++ [(⟨0, outsG j n0, [q]⟩ : LinkL)]).length = G6.links.length := by rw [← HG6.out]; rfl
          rw [hl6e] at hA6 ⊢
          rw [HG6.out] at hA6
          obtain ⟨l6, Hl6⟩ : ∃ l6, Hid (G6.links.length = l6) := ⟨_, rfl⟩
          rw [Hl6.out, Hn6.out] at hA6
          rw [Hl6.out]
          obtain ⟨y0, y1, y2, y3⟩ := hE6.at
          have HTe : Hid (G6 = T) := by rw [← HG6.out, HTB.out]; exact R.out
          clear d0 d1 d2 d3 hLk hnew hL6 b6 hA4 hO4 hPl hl6e bp
          obtain ⟨we, Hwe⟩ : ∃ v, Hid ((w6.setCell ⟨w.heap.size + 1, 0, none⟩ (.int .i64 (n' : Int))).setCell ⟨w.heap.size + 1, 1, none⟩ (.slice al6 l6 cl6) = v) := ⟨_, rfl⟩
          rw [Hwe.out] at hA6
          go_upto_region 46 with fail
          rw [Hwe.out]
          clear y0 y1 y2 y3 hE6 Hwe
          have HA : Hid (KAt D w (.int .i64 5) (.int .i64 L) (.slice a j cap) G6 (.slice al6 l6 cl6) tv6 we) := hA6
          clear hA6
          obtain ⟨lvE, HlvE⟩ : ∃ lvE, Value.slice al6 l6 cl6 = lvE := ⟨_, rfl⟩
          rw [HlvE] at HA
          clear HlvE Hl6 Hn6
          obtain ⟨e0, e1, e2, e3⟩ := HA.out.at
          obtain ⟨r0, r1, r2, r3⟩ := HA.out.out
          obtain ⟨al2, cl2, rfl, _⟩ := HA.out.links.slice
          obtain ⟨n2, Hn2⟩ : ∃ n2, Hid (G6.places = n2) := ⟨_, rfl⟩
          obtain ⟨l3, Hl3⟩ : ∃ l3, Hid (G6.links.length = l3) := ⟨_, rfl⟩
          obtain ⟨wf, Hwf⟩ : ∃ wf, Hid ((we.setCell ⟨w.heap.size + 2, 0, none⟩ (.int .i64 (G6.places : Int))).setCell ⟨w.heap.size + 2, 1, none⟩ (.slice al2 G6.links.length cl2) = wf) := ⟨_, rfl⟩
          obtain ⟨z0, z1, z2, z3⟩ := HA.out.answer (g' := G6) HA.out.links Hwf.out
          have HR : Hid (Answers D w T (.returned (.agg #[.int .i64 (G6.places : Int), .slice al2 G6.links.length cl2])) wf) := ⟨_, _, by rw [← HTe.out], by rw [← HTe.out]; exact z2, z3⟩
          rw [Hl3.out] at HR Hwf z1 e1
          rw [Hn2.out] at HR Hwf z0 e0
          clear z2 z3 HA
          go_wp2
          rw [Hwf.out]
          refine bodyPost_ret (v := .agg #[.int .i64 (n2 : Int), .slice al2 l3 cl2]) ?_ rfl HR.out
          simp [results, Try.results23, go_sem, z0, z1]

end Go.Proofs.Ytfgimobmaahmmaa
