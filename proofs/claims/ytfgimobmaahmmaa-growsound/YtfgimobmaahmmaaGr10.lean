import Derived.Test.YtfgimobmaahmmaaGr09
import Derived.Test.YtfgimobmaahmmaaGr06
import Derived.Test.YtfgimobmaahmmaaGr05
import Derived.Deep.RegionLaw
import Derived.Test.YtfgimobmaahmmaaGr07
import Derived.Test.YtfgimobmaahmmaaGr00
/- Package net, as it landed: the other way round. -/
namespace Go.Proofs.Ytfgimobmaahmmaa
open Go.RowKit
set_option linter.unusedVariables false
set_option maxRecDepth 4000

/-- The answer while it is built: it lies at block x, its transitions in a row of its own, what they take and put elsewhere. -/
structure TurnOut (x : Nat) (p : Int) (w0 wr : World) (ts : List TranL) (ov : Value) (tv : List (Int × Value × Value)) : Prop where
  own : wr.ownsRow (x + 1) 48 3 ov tv.length (tvCells tv)
  below : Below x w0 wr
  size : x + 1 ≤ wr.heap.size
  c0 : wr.cell? ⟨x, 0, none⟩ = some (.int .i64 p)
  c1 : wr.cell? ⟨x, 1, none⟩ = some ov
  f0 : wr.frozen? ⟨x, 0, none⟩ = false
  f1 : wr.frozen? ⟨x, 1, none⟩ = false
  row : ∀ j (hj : j < tv.length), tv[j].1 = (tranAt ts j).label ∧ On (fun k => x < k ∧ some k ≠ ov.ownBlock) wr (fun w' => Ints w' tv[j].2.1 (tranAt ts j).post) ∧
    On (fun k => x < k ∧ some k ≠ ov.ownBlock) wr (fun w' => Ints w' tv[j].2.2 (tranAt ts j).pre)

theorem TurnOut.to {x : Nat} {p : Int} {w0 wr w' : World} {ts : List TranL} {ov : Value} {tv : List (Int × Value × Value)} (h : TurnOut x p w0 wr ts ov tv) (hb : Below wr.heap.size wr w') : TurnOut x p w0 w' ts ov tv := by
  have hx : x < wr.heap.size := h.size
  refine ⟨?_, h.below.trans (hb.mono (by omega)), Nat.le_trans h.size hb.size, ?_, ?_, ?_, ?_, fun j hj => ?_⟩
  · exact ((ownsRow_on h.own).below hb).now
  · rw [hb.cell (p := ⟨x, 0, none⟩) hx]; exact h.c0
  · rw [hb.cell (p := ⟨x, 1, none⟩) hx]; exact h.c1
  · rw [hb.frozen (p := ⟨x, 0, none⟩) hx]; exact h.f0
  · rw [hb.frozen (p := ⟨x, 1, none⟩) hx]; exact h.f1
  · obtain ⟨e1, e2, e3⟩ := h.row j hj
    exact ⟨e1, e2.below hb, e3.below hb⟩

theorem TurnOut.step {x : Nat} {p : Int} {w0 wr wB wC W : World} {ts : List TranL} {ov v' : Value} {tv : List (Int × Value × Value)} {l : Int} {c1 c2 : Value} (h : TurnOut x p w0 wr ts ov tv)
    (hb : Below wr.heap.size wr wB) (k1 : On (fun k => wr.heap.size ≤ k) wB (fun w' => Ints w' c1 (tranAt ts tv.length).post)) (k2 : On (fun k => wr.heap.size ≤ k) wB (fun w' => Ints w' c2 (tranAt ts tv.length).pre))
    (hl : l = (tranAt ts tv.length).label) (hW : Below wB.heap.size wB W)
    (hown : wC.ownsRow (x + 1) 48 3 v' (tv.length + 1) (tvCells tv ++ [.int .i64 l, c1, c2])) (hg : W.grownBy wC ov.ownBlock)
    (hat : v'.ownBlock = ov.ownBlock ∨ v'.ownBlock = some W.heap.size) : TurnOut x p w0 (wC.setCell ⟨x, 1, none⟩ v') ts v' (tv ++ [(l, c1, c2)]) := by
  have hx : x < wr.heap.size := h.size
  have g := h.to (hb.trans (hW.mono hb.size))
  have hov : ∀ k, ov.ownBlock = some k → x + 1 ≤ k ∧ k < wr.heap.size := fun k hk => ownsRow_lt h.own hk
  have hxr : some x ≠ ov.ownBlock := fun e => by have := hov x e.symm; omega
  have hxW : x < W.heap.size := g.size
  have s1 : wr.heap.size ≤ wB.heap.size := hb.size
  have s2 : wB.heap.size ≤ W.heap.size := hW.size
  have hcx : wC.heap[x]? = W.heap[x]? := hg.block x hxW hxr
  have hc0 : wC.cell? ⟨x, 0, none⟩ = some (.int .i64 p) := (World.cell?_of_block (a := ⟨x, 0, none⟩) hcx).trans g.c0
  have hc1 : wC.cell? ⟨x, 1, none⟩ = some ov := (World.cell?_of_block (a := ⟨x, 1, none⟩) hcx).trans g.c1
  have hf0 : wC.frozen? ⟨x, 0, none⟩ = false := (World.frozen?_of_block (a := ⟨x, 0, none⟩) hcx).trans g.f0
  have hf1 : wC.frozen? ⟨x, 1, none⟩ = false := (World.frozen?_of_block (a := ⟨x, 1, none⟩) hcx).trans g.f1
  -- what hangs on old blocks beside these two stands
  have keep : ∀ {R : World → Prop}, On (fun k => x < k ∧ some k ≠ ov.ownBlock) W R → On (fun k => x < k ∧ some k ≠ v'.ownBlock) (wC.setCell ⟨x, 1, none⟩ v') R := by
    intro R hR w2 hs hk
    refine hR w2 (Nat.le_trans hg.size (Nat.le_trans (by simp [World.setCell]) hs)) fun k hlt ⟨hkx, hkr⟩ => ?_
    have hk' : some k ≠ v'.ownBlock := by
      rcases hat with e | e <;> rw [e]
      · exact hkr
      · simp; omega
    rw [hk k (Nat.lt_of_lt_of_le (Nat.lt_of_lt_of_le hlt hg.size) (by simp [World.setCell])) ⟨hkx, hk'⟩, Below.heap_setCell wC ⟨x, 1, none⟩ v' k (by show k ≠ x; omega)]
    exact hg.block k hlt hkr
  have new : ∀ {R : World → Prop}, On (fun k => wr.heap.size ≤ k) wB R → On (fun k => x < k ∧ some k ≠ ov.ownBlock) W R := by
    intro R hR
    refine (hR.below hW).weaken fun k hlt hk => ⟨by omega, fun e => ?_⟩
    have := hov k e.symm
    omega
  refine ⟨?_, ?_, ?_, ?_, ?_, ?_, ?_, fun j hj => ?_⟩
  · have := ownsRow_setCell_below hown (a := ⟨x, 1, none⟩) (Nat.lt_succ_self x) v'
    rw [tvCells_append]
    simpa [tvCells] using this
  · exact ((h.below.trans ((hb.trans (hW.mono hb.size)).mono (by omega))).grown hg (by omega) (fun k hk => by have := hov k hk; omega)).setCell (p := ⟨x, 1, none⟩) (Nat.le_refl _) _
  · have := hg.size; simp [World.setCell]; omega
  · rw [World.cell?_setCell_other _ _ _ _ (by intro q; injection q with _ q2; omega)]; exact hc0
  · exact World.cell?_setCell_same _ _ _ hc1
  · rw [World.frozen?_setCell]; exact hf0
  · rw [World.frozen?_setCell]; exact hf1
  · by_cases hjl : j < tv.length
    · rw [List.getElem_append_left hjl]
      obtain ⟨e1, e2, e3⟩ := g.row j hjl
      exact ⟨e1, keep e2, keep e3⟩
    · have e : j = tv.length := by simp at hj; omega
      subst e
      rw [List.getElem_append_right (Nat.le_refl _)]
      simp only [Nat.sub_self, List.getElem_cons_zero]
      exact ⟨hl, keep (new k1), keep (new k2)⟩

/-- The load of the answer's transitions: it is not taken first, for the same statement stores there. -/
abbrev turnLoad : Op := Op.load 25 (Operand.tmp 16)

theorem wpr_append_tran {o : Oper} {a : Act} {K : Act → World → Prop} {Q : Exit → Act → World → Prop} {Y : Nat → Option Bool} (hwt : Region.wanted o Y = true) (s x : Operand)
    (ho : o.op = .call { callee := .builtin .append, args := #[s, x], argTypes := #[25, 25] }) (B : Nat) (wr : World) (v : Value) (tv : List (Int × Value × Value))
    (l : Int) (a1 a2 : Option Addr) (l1 l2 p1 p2 : Nat) (hown : wr.ownsRow B 48 3 v tv.length (tvCells tv))
    (hs : a.eval s = v) (hx : a.eval x = .slice (some ⟨wr.heap.size, 0, none⟩) 1 1) (hl : tv.length + 1 ≤ 2513169434916) (hB : B ≤ wr.heap.size)
    (h : ∀ v' w', w'.ownsRow B 48 3 v' (tv.length + 1) (tvCells tv ++ [.int .i64 l, .slice a1 l1 p1, .slice a2 l2 p2]) → (wr.alloc (.cells #[.int .i64 l, .slice a1 l1 p1, .slice a2 l2 p2] 48)).grownBy w' v.ownBlock →
      (v'.ownBlock = v.ownBlock ∨ v'.ownBlock = some (wr.alloc (.cells #[.int .i64 l, .slice a1 l1 p1, .slice a2 l2 p2] 48)).heap.size) → K (a.put o.dst v') w') :
    if Region.wanted o Y = true then Oper.wp Try.prog o a (wr.alloc (.cells #[.int .i64 l, .slice a1 l1 p1, .slice a2 l2 p2] 48)) K Q else K (a.put o.dst undef) (wr.alloc (.cells #[.int .i64 l, .slice a1 l1 p1, .slice a2 l2 p2] 48)) := by
  obtain ⟨i0, hi, hz0, hz1, hz2⟩ := info_parts info_tran
  refine wp_append_at _ hwt s x 25 ho B 48 i0 _ 3 56 Try.underlying25 hi hz0 hz1 hz2 rfl (by decide) v tv.length _ hs (hown.alloc _) ⟨wr.heap.size, 0, none⟩ 1 1 [.int .i64 l, .slice a1 l1 p1, .slice a2 l2 p2] hx rfl ?_ ?_ ?_ ?_ ?_ h
  · intro j u hj
    rw [addr_add, World.cell?_alloc_at _ _ _ _ rfl]
    match j, hj with
    | 0, hj => simpa using hj
    | 1, hj => simpa using hj
    | 2, hj => simpa using hj
  · intro u hu
    simp only [List.mem_cons, List.not_mem_nil, or_false] at hu
    rcases hu with rfl | rfl | rfl <;> rfl
  · unfold maxLen; omega
  · omega
  · simp; omega

theorem TurnOut.after {x : Nat} {p : Int} {w0 wr W wC : World} {ts : List TranL} {ov : Value} {tv : List (Int × Value × Value)} (h : TurnOut x p w0 wr ts ov tv) (hb : Below wr.heap.size wr W) (hg : W.grownBy wC ov.ownBlock) :
    wC.cell? ⟨x, 1, none⟩ = some ov ∧ wC.frozen? ⟨x, 1, none⟩ = false ∧ ∀ a : Addr, wr.heap.size ≤ a.block → a.block < W.heap.size → wC.cell? a = W.cell? a := by
  have g := h.to hb
  have hov : ∀ k, ov.ownBlock = some k → x + 1 ≤ k ∧ k < wr.heap.size := fun k hk => ownsRow_lt h.own hk
  have hcx : wC.heap[x]? = W.heap[x]? := hg.block x g.size fun e => by have := hov x e.symm; omega
  refine ⟨(World.cell?_of_block (a := ⟨x, 1, none⟩) hcx).trans g.c1, (World.frozen?_of_block (a := ⟨x, 1, none⟩) hcx).trans g.f1, fun a h1 h2 => ?_⟩
  exact World.cell?_of_block (hg.block a.block h2 fun e => by have := hov _ e.symm; omega)

theorem turn_start (w0 : World) (p : Int) (ts : List TranL) (x : Nat) (hx : x = w0.heap.size) :
    TurnOut x p w0 (w0.alloc (.cells #[.int .i64 p, .slice none 0 0] 27)) ts (.slice none 0 0) [] := by
  subst hx
  refine ⟨World.ownsRow_nil _ _ _ _, below_new _ _, by simp, ?_, ?_, ?_, ?_, fun j hj => absurd hj (by simp)⟩
  · rw [World.cell?_alloc_at _ _ _ _ rfl]; rfl
  · rw [World.cell?_alloc_at _ _ _ _ rfl]; rfl
  · rw [World.frozen?_alloc_at _ _ _ _ rfl]
  · rw [World.frozen?_alloc_at _ _ _ _ rfl]

/-- Two blocks of two cells, one behind the other. -/
theorem two_new (w W : World) (x y x' y' : Value) (t t' : TypeId) (h : (w.alloc (.cells #[x, y] t)).alloc (.cells #[x', y'] t') = W) :
    Below w.heap.size w W ∧ Box2 W w.heap.size x y ∧ Box2 W (w.heap.size + 1) x' y' ∧ (∀ j, W.frozen? ⟨w.heap.size + 1, j, none⟩ = false) ∧ W.heap.size = w.heap.size + 1 + 1 := by
  have b1 := below_new w (.cells #[x, y] t)
  have b2 := below_new (w.alloc (.cells #[x, y] t)) (.cells #[x', y'] t')
  have h1 := (box2_new w x y t).below b2
  have h2 := box2_new (w.alloc (.cells #[x, y] t)) x' y' t'
  have e : (w.alloc (.cells #[x, y] t)).heap.size = w.heap.size + 1 := by simp
  rw [e] at h2
  subst h
  exact ⟨below_then b1 b2, h1, h2, fun j => by rw [World.frozen?_alloc_at _ _ _ _ (by simp)], by simp⟩

set_option maxHeartbeats 2000000 in
theorem net_turned (v : Value) (n : NetL) (w : World) (hv : Net w v n) :
    Calls Try.prog 60 #[v] w fun e w' => ∃ r, e = .returned r ∧ Net w' r (turnL n) ∧ Below w.heap.size w w' := by
  obtain ⟨tv, rfl, hT⟩ := hv
  obtain ⟨a, len, cap, rfl, hlen, hmx, hsh, hr⟩ := id hT
  clear hr
  obtain ⟨W0, HW0⟩ : ∃ W0, Hid (((w.alloc (.cells #[.int .i64 n.places, .slice a len cap] 27)).alloc (.cells #[.int .i64 0, .slice none 0 0] 27)) = W0) := ⟨_, rfl⟩
  obtain ⟨b3, hbx, hres, hfr, hsz⟩ := two_new _ _ _ _ _ _ _ _ HW0.out
  have Hfr : Hid _ := hfr
  have Hres : Hid _ := hres
  clear hfr hres
  replace hT := hT.below b3
  have hst := turn_start W0 n.places n.trans (w.heap.size + 1 + 1) hsz.symm
  have bn := below_new W0 (.cells #[.int .i64 n.places, .slice none 0 0] 27)
  obtain ⟨W1, HW1⟩ : ∃ W1, Hid (W0.alloc (.cells #[.int .i64 n.places, .slice none 0 0] 27) = W1) := ⟨_, rfl⟩
  rw [HW1.out] at hst bn
  obtain ⟨x0, x1, x2⟩ := id hbx
  obtain ⟨y0, y1, y2⟩ := hbx.below bn
  go_enter Try.func60, Try.ntmps60
  go_upto_region 1 with fail
  rw [HW0.out]
  clear HW0
  go_upto_region 2 with fail
  rw [HW1.out]
  clear HW1 x0 x1 x2
  go_wp2_with fail
  clear y0 y1 y2
  go_loopg [12] len (fun g i wr => ∃ (k : Nat) (ov : Value) (tv : List (Int × Value × Value)), k + g = len ∧ i = .int .i64 k ∧ Hid (tv.length = k) ∧ TurnOut (w.heap.size + 1 + 1) n.places W0 wr n.trans ov tv)
  case atStart => exact ⟨0, _, [], by omega, rfl, rfl, hst⟩
  case round =>
    clear hst bn
    obtain ⟨k, ov, tv, hkg, rfl, Hk, hO⟩ := hrel
    have hbw : Below W0.heap.size W0 wr := by rw [hsz]; exact hO.below
    by_cases hkn : k < len
    · obtain ⟨b, off, c1, c2, rfl, hblt, h0, h1, h2, i1, i2⟩ := (hT.below hbw).at hkn
      obtain ⟨a1, l1, p1, rfl, hl1, hm1, _, _⟩ := id i1
      obtain ⟨a2, l2, p2, rfl, hl2, hm2, _, _⟩ := id i2
      have hbn := below_new wr (.cells #[.int .i64 (tranAt n.trans k).label, .slice a1 l1 p1, .slice a2 l2 p2] 48)
      have hx3 := box3_new wr (.int .i64 (tranAt n.trans k).label) (.slice a1 l1 p1) (.slice a2 l2 p2) 48
      obtain ⟨wt, Hwt⟩ : ∃ wt, Hid (wr.alloc (.cells #[.int .i64 (tranAt n.trans k).label, .slice a1 l1 p1, .slice a2 l2 p2] 48) = wt) := ⟨_, rfl⟩
      rw [Hwt.out] at hbn hx3
      have Hst : Hid _ := fun wB wC W v' l c1 c2 => @TurnOut.step _ _ _ _ wB wC W _ _ v' _ l c1 c2 hO
      have hO1 := hO.to hbn
      rw [Hk.out] at Hst
      replace i1 := i1.below hbn
      replace i2 := i2.below hbn
      generalize tranAt n.trans k = t at *
      obtain ⟨d1, hd1⟩ : ∃ d1, Hid (Value.slice a1 l1 p1 = d1) := ⟨_, rfl⟩
      obtain ⟨d2, hd2⟩ : ∃ d2, Hid (Value.slice a2 l2 p2 = d2) := ⟨_, rfl⟩
      go_upto_region 5 with fail
      rw [Hwt.out]
      rw [hd1.out] at i1
      rw [hd2.out] at i2
      rw [hd1.out, hd2.out] at hx3
      have hlt1 : t.pre.length ≤ 17592186044416 := by omega
      have hlt2 : t.post.length ≤ 17592186044416 := by omega
      have Hl1 : Hid _ := hlt1
      have Hl2 : Hid _ := hlt2
      have Hlk : Hid (tv.length + 1 ≤ 2513169434916) := by show _ ≤ _; have := Hk.out; omega
      clear h0 h1 h2 Hwt hd1 hd2 hlt1 hlt2 hl1 hl2 hm1 hm2
      obtain ⟨x0, x1, x2, x3⟩ := id hx3
      have o1 := hO1.c1
      have o2 := hO1.f1
      have hsz1 : w.heap.size + 1 + 1 + 1 ≤ wr.heap.size := hO.size
      have hne : ¬ w.heap.size + 1 + 1 = wr.heap.size := by omega
      rw [show (Op.load 25 (Operand.tmp 16) : Op) = turnLoad from rfl]
      go_region_held3 (fun w' => w'.cell? ⟨wr.heap.size, 0, none⟩ = some (.int .i64 t.label) ∧ w'.cell? ⟨wr.heap.size, 1, none⟩ = some d1 ∧ w'.cell? ⟨wr.heap.size, 2, none⟩ = some d2)
        (go_keep)
        (first
          | (go_at_call_of 36 d2; refine (clone_any _ t.post _ ?_).mono ?_; exact i2.drewN 1; rintro e wA ⟨rA, rfl, hA⟩; obtain ⟨ax, lx, cx, rfl⟩ := hA.slice; have bA := below_then (below_drewN (Below.refl wt.heap.size wt) 1) hA.2.1; obtain ⟨xA0, xA1, xA2, xA3⟩ := hx3.below bA; have hOA := hO1.to bA; have oA1 := hOA.c1; have oA2 := hOA.f1)
          | (go_at_call_of 36 d1; refine (clone_any _ t.pre _ ?_).mono ?_; exact i1.below bA; rintro e wB ⟨rB, rfl, hB⟩; obtain ⟨ay, ly, cy, rfl⟩ := hB.slice; have bB := below_then bA hB.2.1; obtain ⟨xB0, xB1, xB2, xB3⟩ := hx3.below bB; have hOB := hO1.to bB; have oB1 := hOB.c1; have oB2 := hOB.f1; have oB3 := (hOB.to (below_new wB (.cells #[.int .i64 t.label, .slice ax lx cx, .slice ay ly cy] 48))).c1)
          | (refine wpr_append_tran rfl _ _ rfl (w.heap.size + 1 + 1 + 1) wB ov tv t.label _ _ _ _ _ _ hOB.own rfl rfl Hlk.out hOB.size ?_; intro v' wC hC hgC hatC; obtain ⟨av, lv, cv, rfl⟩ := ownsRow_slice hC; obtain ⟨oC1, oC2, hcc⟩ := hO.after (below_then hbn (below_then bB (below_new _ _))) hgC; have hx4 := hx3.below (below_then bB (below_new wB (.cells #[.int .i64 t.label, .slice ax lx cx, .slice ay ly cy] 48))); have xC1 := (hcc ⟨wr.heap.size, 0, none⟩ (Nat.le_refl _) hx4.1).trans hx4.2.1; have xC2 := (hcc ⟨wr.heap.size, 1, none⟩ (Nat.le_refl _) hx4.1).trans hx4.2.2.1; have xC3 := (hcc ⟨wr.heap.size, 2, none⟩ (Nat.le_refl _) hx4.1).trans hx4.2.2.2))
      all_goals
        have q1 := ((hA.on Hl2.out).weaken (D' := fun k => wr.heap.size ≤ k) fun k _ hk => Nat.le_trans hbn.size hk).below hB.2.1
        have q2 := (hB.on Hl1.out).weaken (D' := fun k => wr.heap.size ≤ k) fun k _ hk => Nat.le_trans (Nat.le_trans hbn.size bA.size) hk
        rw [Hk.out] at hC
        have R := Hst.out wB wC _ _ t.label _ _ (below_then hbn bB) q1 q2 rfl (below_new _ _) hC hgC hatC
        have Hk2 : Hid ((tv ++ [(t.label, Value.slice ax lx cx, Value.slice ay ly cy)]).length = k + 1) := by show _ = _; have := Hk.out; simp [this]
        clear q1 q2 hC hgC hatC Hst hcc hx4 xC1 xC2 xC3 oC1 oC2 xB0 xB1 xB2 xB3 xA0 xA1 xA2 xA3 oA1 oA2 oB1 oB2 oB3 hA hB bA bB hOA hOB x0 x1 x2 x3 o1 o2 hO hO1 hbn hx3
        go_wp2
        go_roundg (gk - 1)
        case measure => omega
        case rel => exact ⟨k + 1, _, _, by omega, by go_num, Hk2, R⟩
    · obtain ⟨z0, z1⟩ := And.intro hO.c0 hO.c1
      obtain ⟨ax, lx, cx, rfl⟩ := ownsRow_slice hO.own
      obtain ⟨r0, r1, r2⟩ := Box2.below Hres.out hbw
      have q3 : wr.frozen? ⟨w.heap.size + 1, 0, none⟩ = false := by rw [hbw.frozen (p := ⟨w.heap.size + 1, 0, none⟩) (by simp [hsz])]; exact Hfr.out 0
      have q4 : wr.frozen? ⟨w.heap.size + 1, 1, none⟩ = false := by rw [hbw.frozen (p := ⟨w.heap.size + 1, 1, none⟩) (by simp [hsz])]; exact Hfr.out 1
      have hb5 : Below w.heap.size w ((wr.setCell ⟨w.heap.size + 1, 0, none⟩ (.int .i64 n.places)).setCell ⟨w.heap.size + 1, 1, none⟩ (.slice ax lx cx)) :=
        ((below_then b3 hbw).setCell (p := ⟨w.heap.size + 1, 0, none⟩) (by simp) _).setCell (p := ⟨w.heap.size + 1, 1, none⟩) (by simp) _
      have hTr : Trans ((wr.setCell ⟨w.heap.size + 1, 0, none⟩ (.int .i64 n.places)).setCell ⟨w.heap.size + 1, 1, none⟩ (.slice ax lx cx)) (.slice ax lx cx) (turnL n).trans := by
        have hown2 := ownsRow_setCell_below (ownsRow_setCell_below hO.own (a := ⟨w.heap.size + 1, 0, none⟩) (by show w.heap.size + 1 < _; omega) (.int .i64 n.places)) (a := ⟨w.heap.size + 1, 1, none⟩) (by show w.heap.size + 1 < _; omega) (.slice ax lx cx)
        refine tran_read hown2 (by have := Hk.out; omega) (by have := Hk.out; simp [turnL]; omega) fun j hj => ?_
        obtain ⟨e1, e2, e3⟩ := hO.row j hj
        have hjl : j < n.trans.length := by have := Hk.out; omega
        have ea : tranAt (turnL n).trans j = turnT (tranAt n.trans j) := turn_at _ _ hjl
        rw [ea]
        have hD : ¬ (fun k => w.heap.size + 1 + 1 < k ∧ some k ≠ (Value.slice ax lx cx).ownBlock) (w.heap.size + 1) := fun h => by have := h.1; omega
        exact ⟨e1, ((e2.set (a := ⟨w.heap.size + 1, 0, none⟩) hD _).set (a := ⟨w.heap.size + 1, 1, none⟩) hD _).now, ((e3.set (a := ⟨w.heap.size + 1, 0, none⟩) hD _).set (a := ⟨w.heap.size + 1, 1, none⟩) hD _).now⟩
      have HTr : Hid _ := hTr
      have Hb5 : Hid _ := hb5
      clear hTr hb5
      go_wp2_with fail
      refine bodyPost_ret (v := .agg #[.int .i64 n.places, .slice ax lx cx]) ?_ rfl ⟨_, rfl, ⟨_, rfl, HTr.out⟩, Hb5.out⟩
      simp [results, Try.results60, go_sem, r1, r2]

end Go.Proofs.Ytfgimobmaahmmaa

/- Package net, as it landed, whole. -/
namespace Go.Proofs.Ytfgimobmaahmmaa
open Go.RowKit
set_option linter.unusedVariables false
set_option maxRecDepth 4000

theorem net_wrong (v : Value) (n : NetL) (w : World) (hv : Net w v n) :
    Calls Try.prog 32 #[v] w fun e w' => e = .returned (.int .i64 (wrongL n)) ∧ Below w.heap.size w w' := wrong_any v n w hv

end Go.Proofs.Ytfgimobmaahmmaa

/- Package shape as it landed: where a way can go on. -/
namespace Go.Proofs.Ytfgimobmaahmmaa
open Go.RowKit
set_option linter.unusedVariables false
set_option maxRecDepth 4000

/-- The cells of some stops. -/
def stopCells (l : List Stop) : List Value := l.flatMap fun s => [.bool s.1, .int .i64 (s.2 : Int)]
theorem stopCells_append (l m : List Stop) : stopCells (l ++ m) = stopCells l ++ stopCells m := by simp [stopCells]
theorem stopCells_at (l : List Stop) (j : Nat) (h : j < l.length) : (stopCells l)[j * 2]? = some (.bool l[j].1) ∧ (stopCells l)[j * 2 + 1]? = some (.int .i64 (l[j].2 : Int)) := by
  induction l generalizing j with
  | nil => simp at h
  | cons x r ih =>
    have ec : stopCells (x :: r) = .bool x.1 :: .int .i64 (x.2 : Int) :: stopCells r := rfl
    match j, h with
    | 0, _ => exact ⟨rfl, rfl⟩
    | j + 1, h =>
      obtain ⟨q1, q2⟩ := ih j (by simpa using h)
      rw [ec, show (j + 1) * 2 = j * 2 + 2 by omega]
      exact ⟨q1, q2⟩

/-- A slice of these stops. -/
def Stops (w : World) (v : Value) (l : List Stop) : Prop :=
  ∃ a cap, v = .slice a l.length cap ∧ ∀ j (hj : j < l.length), ∃ b off, a = some ⟨b, off, none⟩ ∧ w.cell? ⟨b, off + j * 2, none⟩ = some (.bool l[j].1) ∧ w.cell? ⟨b, off + j * 2 + 1, none⟩ = some (.int .i64 (l[j].2 : Int))

def OwnS (B : Nat) (w wr : World) (v : Value) (l : List Stop) : Prop :=
  wr.ownsRow B 121 2 v l.length (stopCells l) ∧ Below B w wr ∧ B ≤ wr.heap.size

theorem OwnS.nil (w : World) : OwnS w.heap.size w w (.slice none 0 0) [] := ⟨World.ownsRow_nil _ _ _ _, Below.refl _ _, Nat.le_refl _⟩

theorem OwnS.trans {B : Nat} {w wr w2 : World} {v : Value} {l : List Stop} (h : OwnS B w wr v l) (hb : Below wr.heap.size wr w2) : OwnS B w w2 v l := by
  obtain ⟨hown, hb0, hB⟩ := h
  refine ⟨hown.kept (row := none) ⟨hb.os, hb.tape, hb.output, hb.size, fun k hk _ => hb.block k hk⟩ ?_, hb0.trans (hb.mono hB), Nat.le_trans hB hb.size⟩
  cases hv : v.ownBlock with
  | none => exact .inl rfl
  | some k => exact .inr (by simp)

theorem stops_read {B : Nat} {wr : World} {v : Value} {l : List Stop} (hown : wr.ownsRow B 121 2 v l.length (stopCells l)) : Stops wr v l := by
  have hown0 := hown
  obtain ⟨_, hcase⟩ := hown
  rcases hcase with ⟨rfl, h0⟩ | ⟨g, cap', cur, rfl, hg, hh, hn, hcap, hsz, htake⟩
  · exact ⟨none, 0, by rw [h0], fun j hj => absurd hj (by omega)⟩
  · refine ⟨_, _, rfl, fun j hj => ?_⟩
    obtain ⟨q1, q2⟩ := stopCells_at l j hj
    refine ⟨g, 0, rfl, ?_, ?_⟩
    · rw [Nat.zero_add, hown0.cellAt (j * 2) (by omega), q1]
    · rw [Nat.zero_add, hown0.cellAt (j * 2 + 1) (by omega), q2]

theorem OwnS.on {B : Nat} {w wr : World} {v : Value} {l : List Stop} (h : OwnS B w wr v l) : On (fun k => B ≤ k) wr (fun w' => Stops w' v l) :=
  ((ownsRow_on h.1).weaken fun k _ hk => hk.2).mono fun w' h' => stops_read h'

theorem OwnS.slice {B : Nat} {w wr : World} {v : Value} {l : List Stop} (h : OwnS B w wr v l) : ∃ a c, v = .slice a l.length c := by
  rcases h.1.2 with ⟨rfl, e⟩ | ⟨g, cap', cur, rfl, _⟩
  · exact ⟨_, _, by rw [e]⟩
  · exact ⟨_, _, rfl⟩

theorem info_stop : (Try.prog.info? 121).map (fun i => (i.zero, i.size, i.bytes)) = some (some (.agg #[.bool false, .int .i64 0]), 2, 16) := by kernel_rfl

theorem wp_append_stop {ops : Array Oper} {rest : List Oper} {o : Oper} {a : Act} {Q : Exit → Act → World → Prop} (hgd : o.guard = none) (s x : Operand)
    (ho : o.op = .call { callee := .builtin .append, args := #[s, x], argTypes := #[123, 123] }) (B : Nat) (w wr : World) (v : Value) (l : List Stop) (t : Stop) (hG : OwnS B w wr v l)
    (hs : a.eval s = v) (hx : a.eval x = .slice (some ⟨wr.heap.size, 0, none⟩) 1 1) (hl : l.length + 1 ≤ 1000)
    (h : ∀ v' w', OwnS B w w' v' (l ++ [t]) → wpList Try.prog ops Q rest (a.put o.dst v') w') : wpList Try.prog ops Q (o :: rest) a (wr.alloc (.cells #[.bool t.1, .int .i64 (t.2 : Int)] 121)) := by
  obtain ⟨i0, hi, hz0, hz1, hz2⟩ := info_parts info_stop
  obtain ⟨hown, hb, hB⟩ := hG
  refine wpList_append_own _ hgd s x 123 ho B 121 i0 _ 2 16 Try.underlying123 hi hz0 hz1 hz2 rfl (by decide) v l.length _ hs (hown.alloc _) ⟨wr.heap.size, 0, none⟩ 1 1 [.bool t.1, .int .i64 (t.2 : Int)] hx rfl ?_ ?_ ?_ ?_ ?_ ?_
  · intro j u hj
    rw [addr_add, World.cell?_alloc_at _ _ _ _ rfl]
    match j, hj with
    | 0, hj => simpa using hj
    | 1, hj => simpa using hj
  · intro u hu
    simp only [List.mem_cons, List.not_mem_nil, or_false] at hu
    rcases hu with rfl | rfl <;> rfl
  · unfold maxLen; omega
  · omega
  · simp; omega
  · intro v' w' hown' hgrow _
    refine h v' w' ⟨by rw [stopCells_append]; simpa [stopCells] using hown', (hb.alloc hB _).grown hgrow (by simp; omega) (fun k hk => (hown.lt k hk).1), ?_⟩
    have := hgrow.size; simp at this; omega

theorem two_boxes (w W : World) (x y x' y' : Value) (t t' : TypeId) (h : (w.alloc (.cells #[x, y] t)).alloc (.cells #[x', y'] t') = W) :
    Below w.heap.size w W ∧ Box2 W w.heap.size x y ∧ Box2 W (w.heap.size + 1) x' y' := by
  obtain ⟨h1, h2, h3, _⟩ := two_new w W x y x' y' t t' h
  exact ⟨h1, h2, h3⟩

set_option maxHeartbeats 1000000 in
theorem behind_any (v : Value) (n : NetL) (hn : netOk n = true) (s : Stop) (hs : FitS n s) (w : World) (hv : Net w v n) :
    Calls Try.prog 74 #[v, .agg #[.bool s.1, .int .i64 (s.2 : Int)]] w fun e w' => ∃ r, e = .returned r ∧ On (fun k => w.heap.size ≤ k) w' (fun w'' => Stops w'' r (behindL n s)) ∧ Below w.heap.size w w' := by
  obtain ⟨tv, rfl, hT⟩ := hv
  obtain ⟨a, len, cap, rfl, hlen, hmx, hsh, hr⟩ := id hT
  clear hr
  obtain ⟨W0, HW0⟩ : ∃ W0, Hid (((w.alloc (.cells #[.int .i64 n.places, .slice a len cap] 27)).alloc (.cells #[.bool s.1, .int .i64 (s.2 : Int)] 121)) = W0) := ⟨_, rfl⟩
  obtain ⟨b1, hx, hy⟩ := two_boxes _ _ _ _ _ _ _ _ HW0.out
  replace hT := hT.below b1
  have Hhd : Hid _ := head_of hn
  obtain ⟨x0, x1, x2⟩ := id hx
  obtain ⟨y0, y1, y2⟩ := id hy
  obtain ⟨c, q⟩ := s
  simp only at HW0 hy y1 y2 ⊢
  have hT2 := hT
  go_enter Try.func74, Try.ntmps74
  go_upto_region 1 with fail
  rw [HW0.out]
  clear HW0
  cases c
  · -- a place
    have hq : (q : Int) < n.places := hs
    go_wp2_with fail
    go_loopg [5, 37] len (fun g o i wr => ∃ k : Nat, k + g = len ∧ i = .int .i64 k ∧ OwnS W0.heap.size W0 wr o (somes true (takesAt n q) k))
    case atStart => exact ⟨0, by omega, rfl, OwnS.nil _⟩
    case round =>
      obtain ⟨k, hkg, rfl, hG⟩ := hrel
      replace y0 := hy.below hG.2.1
      obtain ⟨y0, y1, y2⟩ := y0
      by_cases hkn : k < len
      · obtain ⟨b, off, c1, c2, rfl, hblt, h0, h1, h2, i1, i2⟩ := (hT2.below hG.2.1).at hkn
        have hle := somes_le true (takesAt n q) k
        have Hy : Hid _ := somes_yes true (takesAt n q) k
        have Hn : Hid _ := somes_no true (takesAt n q) k
        have hl := (tran_length hn (show k < n.trans.length by omega)).1
        have Ht : Hid (takesAt n q k = decide (0 < nth (tranAt n.trans k).pre q)) := rfl
        have h24 : len ≤ 24 := by have := Hhd.out.2.2; omega
        obtain ⟨a1, l1, p1, rfl, hl1, _, _, hr1⟩ := id i1
        obtain ⟨a2, l2, p2, rfl, _, _, _, _⟩ := id i2
        obtain ⟨bq, oq, rfl, hbq, hcq⟩ := hr1 q (by omega)
        have hbn := below_new wr (.cells #[.int .i64 (tranAt n.trans k).label, .slice (some ⟨bq, oq, none⟩) l1 p1, .slice a2 l2 p2] 48)
        have hql : q < l1 := by omega
        have hx3 := box3_new wr (.int .i64 (tranAt n.trans k).label) (.slice (some ⟨bq, oq, none⟩) l1 p1) (.slice a2 l2 p2) 48
        generalize tranAt n.trans k = t at *
        obtain ⟨wt, Hwt⟩ : ∃ wt, Hid (wr.alloc (.cells #[.int .i64 t.label, .slice (some ⟨bq, oq, none⟩) l1 p1, .slice a2 l2 p2] 48) = wt) := ⟨_, rfl⟩
        rw [Hwt.out] at hbn hx3
        have hG1 := hG.trans hbn
        go_upto_region 13 with fail
        rw [Hwt.out]
        clear Hwt h0 h1 h2
        obtain ⟨y0, y1, y2⟩ := hy.below hG1.2.1
        rw [← hbn.cell (p := ⟨bq, oq + q, none⟩) hbq] at hcq
        obtain ⟨z0, z1, z2, z3⟩ := hx3
        obtain ⟨z, Hz⟩ : ∃ z, Hid (nth t.pre q = z) := ⟨_, rfl⟩
        rw [Hz.out] at hcq Ht
        cases hc : decide (0 < z)
        · have R := hG1
          rw [← Hn.out (Ht.out.trans hc)] at R
          go_wp2
          go_roundg (gk - 1)
          case measure => omega
          case rel => exact ⟨k + 1, by omega, by go_num, R⟩
        · go_wp2_with (at_builtin; refine wp_append_stop rfl _ _ rfl W0.heap.size W0 _ _ _ (true, k) hG1 rfl rfl (by omega) ?_; intro v' w3 hG3)
          have R : OwnS W0.heap.size W0 w3 v' (somes true (takesAt n q) (k + 1)) := by rw [Hy.out (Ht.out.trans hc)]; exact hG3
          go_wp2
          go_roundg (gk - 1)
          case measure => omega
          case rel => exact ⟨k + 1, by omega, by go_num, R⟩
      · have hk : k = n.trans.length := by omega
        have R := hG.on.weaken (D' := fun k => w.heap.size ≤ k) fun k _ hk => Nat.le_trans b1.size hk
        have R2 := below_then b1 hG.2.1
        subst hk
        clear hG
        go_wp2
        go_ret
        exact ⟨_, rfl, R, R2⟩
  · -- a transition
    have hq : q < n.trans.length := hs
    obtain ⟨b, off, c1, c2, rfl, hblt, h0, h1, h2, i1, i2⟩ := hT2.at (show q < len by omega)
    have hl := (tran_length hn hq).2
    obtain ⟨a2, l2, p2, rfl, hl2, _, _, _⟩ := id i2
    have Hhq : Hid (l2 ≤ 24) := by have := Hhd.out; show l2 ≤ 24; omega
    go_wp2_with fail
    go_loopg [5, 20] l2 (fun g o i wr => ∃ k : Nat, k + g = l2 ∧ i = .int .i64 k ∧ OwnS W0.heap.size W0 wr o (somes false (putsAt n q) k))
    case atStart => exact ⟨0, by omega, rfl, OwnS.nil _⟩
    case round =>
      obtain ⟨k, hkg, rfl, hG⟩ := hrel
      by_cases hkn : k < l2
      · have hle := somes_le false (putsAt n q) k
        have Hy : Hid _ := somes_yes false (putsAt n q) k
        have Hn : Hid _ := somes_no false (putsAt n q) k
        have Ht : Hid (putsAt n q k = decide (0 < nth (tranAt n.trans q).post k)) := rfl
        have h24 := Hhq.out
        obtain ⟨_, _, _, e, _, _, _, hr2⟩ := i2.below hG.2.1
        injection e with e1 e2 e3
        subst e1 e2 e3
        obtain ⟨bq, oq, rfl, hbq, hcq⟩ := hr2 k (by omega)
        clear hr2
        obtain ⟨z, Hz⟩ : ∃ z, Hid (nth (tranAt n.trans q).post k = z) := ⟨_, rfl⟩
        rw [Hz.out] at hcq Ht
        cases hc : decide (0 < z)
        · have R := hG
          rw [← Hn.out (Ht.out.trans hc)] at R
          go_wp2
          go_roundg (gk - 1)
          case measure => omega
          case rel => exact ⟨k + 1, by omega, by go_num, R⟩
        · go_wp2_with (at_builtin; refine wp_append_stop rfl _ _ rfl W0.heap.size W0 _ _ _ (false, k) hG rfl rfl (by omega) ?_; intro v' w3 hG3)
          have R : OwnS W0.heap.size W0 w3 v' (somes false (putsAt n q) (k + 1)) := by rw [Hy.out (Ht.out.trans hc)]; exact hG3
          go_wp2
          go_roundg (gk - 1)
          case measure => omega
          case rel => exact ⟨k + 1, by omega, by go_num, R⟩
      · have hk : k = (tranAt n.trans q).post.length := by omega
        have R := hG.on.weaken (D' := fun k => w.heap.size ≤ k) fun k _ hk => Nat.le_trans b1.size hk
        have R2 := below_then b1 hG.2.1
        rw [hk] at R
        clear hG
        go_wp2
        go_ret
        exact ⟨_, rfl, R, R2⟩

end Go.Proofs.Ytfgimobmaahmmaa

/- Package live as it landed: all marks behind a mark, plainly and in memory. -/
namespace Go.Proofs.Ytfgimobmaahmmaa
open Go.RowKit
set_option linter.unusedVariables false
set_option maxRecDepth 4000

/-! ### plainly -/
def Goes (nx : List (List Int)) (k j : Nat) : Prop := ∀ P : Nat → Prop, P k → (∀ a b : Nat, P a → (b : Int) ∈ markAt nx a → P b) → P j
theorem Goes.here {nx : List (List Int)} (k : Nat) : Goes nx k k := fun _ h _ => h
theorem Goes.go {nx : List (List Int)} {k a b : Nat} (h : Goes nx k a) (hb : (b : Int) ∈ markAt nx a) : Goes nx k b := fun P h0 h1 => h1 a b (h P h0 h1) hb
theorem Goes.trans {nx : List (List Int)} {k a b : Nat} (h : Goes nx k a) (g : Goes nx a b) : Goes nx k b := fun P h0 h1 => g P (h P h0 h1) h1
def Inside (nx : List (List Int)) (n : Nat) : Prop := ∀ a : Nat, a < n → ∀ z ∈ markAt nx a, 0 ≤ z ∧ z < n
theorem Inside.lt {nx : List (List Int)} {n k j : Nat} (h : Inside nx n) (hk : k < n) (g : Goes nx k j) : j < n := g (fun j => j < n) hk fun a b ha hb => by have := h a ha _ hb; omega
def Shut (nx : List (List Int)) (n : Nat) (f : Nat → Bool) : Prop := ∀ a b : Nat, a < n → f a = true → (b : Int) ∈ markAt nx a → f b = true
theorem Shut.goes {nx : List (List Int)} {n k j : Nat} {f : Nat → Bool} (h : Shut nx n f) (hi : Inside nx n) (hk : k < n) (hf : f k = true) (g : Goes nx k j) : f j = true :=
  (g (fun j => j < n ∧ f j = true) ⟨hk, hf⟩ fun a b ha hb => ⟨by have := hi a ha.1 _ hb; omega, h a b ha.1 ha.2 hb⟩).2
def stepsTo (nx : List (List Int)) (p i a : Nat) : List Int := if a = p then (markAt nx a).take i else markAt nx a

/-- What is noted and what is still to do; of mark p the first i steps are gone. -/
structure Spr (nx : List (List Int)) (n : Nat) (f0 : Nat → Bool) (m : Nat) (f : Nat → Bool) (todo : List Int) (p i : Nat) : Prop where
  grew : ∀ j, f0 j = true → f j = true
  sound : ∀ j, j < n → f j = true → f0 j = true ∨ Goes nx m j
  td : ∀ z ∈ todo, ∃ a : Nat, z = a ∧ a < n ∧ f a = true
  len : todo.length + cntF f n ≤ n
  gone : ∀ a, a < n → f a = true → (a : Int) ∈ todo ∨ ∀ b : Nat, (b : Int) ∈ stepsTo nx p i a → f b = true

section
variable {nx : List (List Int)} {n m p i : Nat} {f0 f : Nat → Bool} {todo : List Int}
theorem Spr.start (h : Shut nx n f0) (m : Nat) : Spr nx n f0 m f0 [] n 0 := by
  refine ⟨fun _ h => h, fun _ _ h => .inl h, fun z hz => (by cases hz), by have := cntF_le f0 n; simpa using this, fun a ha hf => .inr fun b hb => ?_⟩
  unfold stepsTo at hb
  rw [if_neg (by omega)] at hb
  exact h a b ha hf hb
theorem Spr.come (h : Spr nx n f0 m f todo p i) {x : Nat} (hx : x < n) (hf : f x = false) (hg : Goes nx m x) : Spr nx n f0 m (updT f x) (todo ++ [(x : Int)]) p i := by
  refine ⟨fun j hj => updT_grew (h.grew j hj), fun j hj hu => ?_, fun z hz => ?_, ?_, fun a ha hu => ?_⟩
  · by_cases e : j = x
    · subst e; exact .inr hg
    · rw [updT_other f e] at hu; exact h.sound j hj hu
  · rcases List.mem_append.1 hz with q | q
    · obtain ⟨a, e, ha, hfa⟩ := h.td z q
      exact ⟨a, e, ha, updT_grew hfa⟩
    · exact ⟨x, List.mem_singleton.1 q, hx, updT_same f x⟩
  · have := cntF_set hf (updT_same f x) (fun j hj => updT_other f hj) n hx
    have := h.len
    simp only [List.length_append, List.length_singleton]
    omega
  · by_cases e : a = x
    · subst e; exact .inl (List.mem_append_right _ (List.mem_singleton.2 rfl))
    · rw [updT_other f e] at hu
      rcases h.gone a ha hu with q | q
      · exact .inl (List.mem_append_left _ q)
      · exact .inr fun b hb => updT_grew (q b hb)
theorem Spr.pop {t : List Int} {a : Nat} (h : Spr nx n f0 m f (t ++ [(a : Int)]) n 0) : Spr nx n f0 m f t a 0 := by
  refine ⟨h.grew, h.sound, fun z hz => h.td z (List.mem_append_left _ hz), by have := h.len; simp at this; omega, fun c hc hf => ?_⟩
  by_cases e : c = a
  · subst e; exact .inr fun b hb => by simp [stepsTo] at hb
  · rcases h.gone c hc hf with q | q
    · rcases List.mem_append.1 q with q | q
      · exact .inl q
      · have := List.mem_singleton.1 q; omega
    · refine .inr fun b hb => q b ?_
      unfold stepsTo at hb ⊢
      rw [if_neg e] at hb
      rw [if_neg (by omega)]
      exact hb
theorem Spr.next (h : Spr nx n f0 m f todo p i) (hi : i < (markAt nx p).length) (hf : ∀ b : Nat, (b : Int) = nth (markAt nx p) i → f b = true) : Spr nx n f0 m f todo p (i + 1) := by
  refine ⟨h.grew, h.sound, h.td, h.len, fun a ha hfa => ?_⟩
  rcases h.gone a ha hfa with q | q
  · exact .inl q
  · refine .inr fun b hb => ?_
    unfold stepsTo at hb q
    by_cases e : a = p
    · subst e
      simp only [if_true] at hb q
      rw [List.take_succ_eq_append_getElem hi] at hb
      rcases List.mem_append.1 hb with r | r
      · exact q b r
      · refine hf b ?_
        rw [List.mem_singleton.1 r]
        simp [nth, List.getD, List.getElem?_eq_getElem hi]
    · simp only [if_neg e] at hb q
      exact q b hb
theorem Spr.ended (h : Spr nx n f0 m f todo p i) (hi : (markAt nx p).length ≤ i) : Spr nx n f0 m f todo n 0 := by
  refine ⟨h.grew, h.sound, h.td, h.len, fun a ha hfa => ?_⟩
  rcases h.gone a ha hfa with q | q
  · exact .inl q
  · refine .inr fun b hb => q b ?_
    unfold stepsTo at hb ⊢
    rw [if_neg (by omega)] at hb
    split
    · rename_i e; subst e; rw [List.take_of_length_le hi]; exact hb
    · exact hb
/-- What is noted in the end. -/
structure Spread (nx : List (List Int)) (n : Nat) (f0 : Nat → Bool) (m : Nat) (f : Nat → Bool) : Prop where
  shut : Shut nx n f
  mem : ∀ j, j < n → (f j = true ↔ f0 j = true ∨ Goes nx m j)
theorem Spr.done (h : Spr nx n f0 m f [] n 0) (hi : Inside nx n) (hm : m < n) (hf : f m = true) : Spread nx n f0 m f := by
  have hs : Shut nx n f := fun a b ha hfa hb => by
    rcases h.gone a ha hfa with q | q
    · cases q
    · refine q b ?_
      unfold stepsTo
      rw [if_neg (by omega)]
      exact hb
  refine ⟨hs, fun j hj => ⟨h.sound j hj, fun q => ?_⟩⟩
  rcases q with q | q
  · exact h.grew j q
  · exact hs.goes hi hm hf q
end

/-! ### in memory -/
/-- The steps as they are read; they lie in blocks of D. -/
def NextAt (w : World) (D : Nat → Prop) (nv : Value) (nx : List (List Int)) : Prop :=
  ∃ an cn, nv = .slice an nx.length cn ∧ ∀ p, p < nx.length → ∃ b1 o1 au cu, an = some ⟨b1, o1, none⟩ ∧ b1 < w.heap.size ∧ D b1 ∧ w.cell? ⟨b1, o1 + p, none⟩ = some (.slice au (markAt nx p).length cu) ∧
    (markAt nx p).length ≤ 5864062014805 ∧ ∀ k, k < (markAt nx p).length → ∃ b off, au = some ⟨b, off, none⟩ ∧ b < w.heap.size ∧ D b ∧ w.cell? ⟨b, off + k, none⟩ = some (.int .i64 (nth (markAt nx p) k))
theorem NextAt.below {w w' : World} {D : Nat → Prop} {nv : Value} {nx : List (List Int)} (h : NextAt w D nv nx) (hb : Below w.heap.size w w') : NextAt w' D nv nx := by
  obtain ⟨an, cn, e, h⟩ := h
  refine ⟨an, cn, e, fun p hp => ?_⟩
  obtain ⟨b1, o1, au, cu, e1, h1, h2, h3, h4, h5⟩ := h p hp
  refine ⟨b1, o1, au, cu, e1, Nat.lt_of_lt_of_le h1 hb.size, h2, (hb.cell (p := ⟨b1, o1 + p, none⟩) h1).trans h3, h4, fun k hk => ?_⟩
  obtain ⟨b, off, e2, g1, g2, g3⟩ := h5 k hk
  exact ⟨b, off, e2, Nat.lt_of_lt_of_le g1 hb.size, g2, (hb.cell (p := ⟨b, off + k, none⟩) g1).trans g3⟩
theorem NextAt.weak {w : World} {D D' : Nat → Prop} {nv : Value} {nx : List (List Int)} (h : NextAt w D nv nx) (hD : ∀ k, k < w.heap.size → D k → D' k) : NextAt w D' nv nx := by
  obtain ⟨an, cn, e, h⟩ := h
  refine ⟨an, cn, e, fun p hp => ?_⟩
  obtain ⟨b1, o1, au, cu, e1, h1, h2, h3, h4, h5⟩ := h p hp
  refine ⟨b1, o1, au, cu, e1, h1, hD b1 h1 h2, h3, h4, fun k hk => ?_⟩
  obtain ⟨b, off, e2, g1, g2, g3⟩ := h5 k hk
  exact ⟨b, off, e2, g1, hD b g1 g2, g3⟩
theorem NextAt.older {w w' : World} {D : Nat → Prop} {nv : Value} {nx : List (List Int)} {B : Nat} (h : NextAt w D nv nx) (hb : Below w.heap.size w w') (hB : w.heap.size ≤ B) : NextAt w' (fun k => k ≠ B) nv nx :=
  (h.weak fun k hk _ => (by omega : k ≠ B)).below hb
theorem OnlyB.at {w w' : World} {B b off : Nat} (h : OnlyB B w w') (hb : b < w.heap.size) (hne : b ≠ B) : w'.cell? ⟨b, off, none⟩ = w.cell? ⟨b, off, none⟩ := World.cell?_of_block (a := ⟨b, off, none⟩) (h.block b hb hne)
structure SprAt (w : World) (B n bb tb : Nat) (wr : World) (f : Nat → Bool) (tv : Value) (todo : List Int) : Prop where
  row : BoolRow wr B n f
  box : Box1 wr bb (.slice (some ⟨B, 0, none⟩) n n)
  cell : wr.heap[tb]? = some (.cells #[tv] 35 (0, 0))
  own : wr.ownsRow (tb + 1) 3 1 tv todo.length (todo.map (Value.int .i64))
  only : OnlyB B w wr
  hB : B < w.heap.size
  hbb : w.heap.size ≤ bb
  htb : bb < tb
section
variable {w wr : World} {B n bb tb : Nat} {f : Nat → Bool} {tv : Value} {todo : List Int}
theorem SprAt.lt (h : SprAt w B n bb tb wr f tv todo) : tb < wr.heap.size := (Array.getElem?_eq_some_iff.1 h.cell).1
theorem SprAt.tcell (h : SprAt w B n bb tb wr f tv todo) : wr.cell? ⟨tb, 0, none⟩ = some tv ∧ wr.frozen? ⟨tb, 0, none⟩ = false := by
  have hc := h.cell
  constructor
  · simp [World.cell?, hc]
  · simp [World.frozen?, hc]
theorem SprAt.to {w2 : World} (h : SprAt w B n bb tb wr f tv todo) (hb : Below wr.heap.size wr w2) : SprAt w B n bb tb w2 f tv todo :=
  { h with
    row := h.row.below hb
    box := h.box.below hb
    cell := by rw [hb.block tb h.lt]; exact h.cell
    own := ((ownsRow_on h.own).below hb).now
    only := ⟨h.only.below.trans (hb.mono (Nat.le_of_lt (Nat.lt_of_lt_of_le h.hB h.only.size))), Nat.le_trans h.only.size hb.size, fun k hk hne => (hb.block k (Nat.lt_of_lt_of_le hk h.only.size)).trans (h.only.block k hk hne)⟩ }
theorem SprAt.note (h : SprAt w B n bb tb wr f tv todo) {x : Nat} (hx : x < n) : SprAt w B n bb tb (wr.setCell ⟨B, x, none⟩ (.bool true)) (updT f x) tv todo := by
  have hBb : B ≠ bb := by have := h.hB; have := h.hbb; omega
  have hBt : B ≠ tb := by have := h.hB; have := h.hbb; have := h.htb; omega
  refine { h with
    row := h.row.put hx (updT_same f x) (fun j _ hj => updT_other f hj)
    box := ⟨by simpa [World.setCell] using h.box.1, by rw [World.cell?_setCell_other _ _ _ _ (by intro q; injection q with q1 _; exact hBb q1)]; exact h.box.2⟩
    cell := by rw [Below.heap_setCell wr ⟨B, x, none⟩ _ tb (fun e => hBt e.symm)]; exact h.cell
    own := ((ownsRow_on h.own).set (a := ⟨B, x, none⟩) (fun e => by have := e.2; have := h.hB; have := h.hbb; have := h.htb; simp only at *; omega) _).now
    only := h.only.trans (OnlyB.set B x wr _) }
/-- The row of what is to do has grown, and the box holds the new one. -/
theorem SprAt.push {wC : World} {v' : Value} {z : Int} (h : SprAt w B n bb tb wr f tv todo) (hown : wC.ownsRow (tb + 1) 3 1 v' (todo.length + 1) (todo.map (Value.int .i64) ++ [.int .i64 z])) (hg : wr.grownBy wC tv.ownBlock) :
    SprAt w B n bb tb (wC.setCell ⟨tb, 0, none⟩ v') f v' (todo ++ [z]) := by
  have hBt : B < tb := by have := h.hB; have := h.hbb; have := h.htb; omega
  have htl : ∀ k, tv.ownBlock = some k → tb + 1 ≤ k ∧ k < wr.heap.size := fun k hk => ownsRow_lt h.own hk
  have hbg : Below (tb + 1) wr wC := (Below.refl _ _).grown hg (by have := h.lt; omega) (fun k hk => (htl k hk).1)
  have hb2 : Below tb wr (wC.setCell ⟨tb, 0, none⟩ v') := (hbg.mono (Nat.le_succ tb)).setCell (p := ⟨tb, 0, none⟩) (Nat.le_refl _) _
  have hc1 : wC.heap[tb]? = some (.cells #[tv] 35 (0, 0)) := by rw [hbg.block tb (by omega)]; exact h.cell
  refine ⟨⟨fun j hj => ?_, fun j hj => ?_, Nat.lt_of_lt_of_le h.row.lt hb2.size⟩, ⟨Nat.lt_of_lt_of_le h.box.1 hb2.size, ?_⟩, ?_, ?_, ⟨?_, Nat.le_trans h.only.size hb2.size, fun k hk hne => ?_⟩, h.hB, h.hbb, h.htb⟩
  · rw [hb2.cell (p := ⟨B, j, none⟩) hBt]; exact h.row.cells j hj
  · rw [hb2.frozen (p := ⟨B, j, none⟩) hBt]; exact h.row.frozen j hj
  · rw [hb2.cell (p := ⟨bb, 0, none⟩) h.htb]; exact h.box.2
  · rw [setCell_eq_setRow wC tb 0 _ _ _ v' hc1]
    have := setRow_heap wC tb #[tv] (#[tv].setIfInBounds 0 v') 35 (0, 0) hc1
    simpa using this
  · have := ((ownsRow_on hown).set (a := ⟨tb, 0, none⟩) (fun e => by have := e.2; simp only at this; omega) v').now
    simpa using this
  · exact h.only.below.trans (hb2.mono (by omega))
  · rw [hb2.block k (by have := h.hbb; have := h.htb; omega)]; exact h.only.block k hk hne
theorem SprAt.slice (h : SprAt w B n bb tb wr f tv todo) : ∃ a c, tv = .slice a todo.length c := by
  rcases h.own.2 with ⟨e, h0⟩ | ⟨g, cap, cur, e, _⟩
  · exact ⟨none, 0, by rw [h0]; exact e⟩
  · exact ⟨_, _, e⟩
theorem SprAt.grownCell {wC : World} (h : SprAt w B n bb tb wr f tv todo) (hg : wr.grownBy wC tv.ownBlock) : wC.cell? ⟨tb, 0, none⟩ = some tv ∧ wC.frozen? ⟨tb, 0, none⟩ = false := by
  have hc : wC.heap[tb]? = some (.cells #[tv] 35 (0, 0)) := by
    rw [hg.block tb h.lt (fun e => by have := (ownsRow_lt h.own e.symm).1; omega)]; exact h.cell
  constructor
  · simp [World.cell?, hc]
  · simp [World.frozen?, hc]
theorem ownsRow_pop {b : Nat} {t : TypeId} {a : Option Addr} {k c : Nat} {xs : List Value} {y : Value} (h : w.ownsRow b t 1 (.slice a (k + 1) c) (k + 1) (xs ++ [y])) (hl : xs.length = k) : w.ownsRow b t 1 (.slice a k c) k xs := by
  obtain ⟨_, hcase⟩ := h
  refine ⟨by omega, ?_⟩
  rcases hcase with ⟨_, h0⟩ | ⟨g, cap, cur, e, hb, hg, hn, hcap, hsz, htake⟩
  · omega
  · injection e with e1 e2 e3
    subst e1 e3
    refine .inr ⟨g, c, cur, rfl, hb, hg, by omega, hcap, hsz, ?_⟩
    have := congrArg (List.take k) htake
    rw [List.take_take, List.take_left' hl, show min k ((k + 1) * 1) = k by omega] at this
    simpa using this
theorem SprAt.pop {a : Option Addr} {k c : Nat} {t : List Int} {z : Int} (h : SprAt w B n bb tb wr f (.slice a (k + 1) c) (t ++ [z])) (hk : t.length = k) : SprAt w B n bb tb (wr.setCell ⟨tb, 0, none⟩ (.slice a k c)) f (.slice a k c) t := by
  have hBt : B < tb := by have := h.hB; have := h.hbb; have := h.htb; omega
  have hb2 : Below tb wr (wr.setCell ⟨tb, 0, none⟩ (.slice a k c)) := (Below.refl _ _).setCell (p := ⟨tb, 0, none⟩) (Nat.le_refl _) _
  refine ⟨⟨fun j hj => ?_, fun j hj => ?_, Nat.lt_of_lt_of_le h.row.lt hb2.size⟩, ⟨Nat.lt_of_lt_of_le h.box.1 hb2.size, ?_⟩, ?_, ?_, ⟨?_, Nat.le_trans h.only.size hb2.size, fun k hk hne => ?_⟩, h.hB, h.hbb, h.htb⟩
  · rw [hb2.cell (p := ⟨B, j, none⟩) hBt]; exact h.row.cells j hj
  · rw [hb2.frozen (p := ⟨B, j, none⟩) hBt]; exact h.row.frozen j hj
  · rw [hb2.cell (p := ⟨bb, 0, none⟩) h.htb]; exact h.box.2
  · rw [setCell_eq_setRow wr tb 0 _ _ _ _ h.cell]
    have := setRow_heap wr tb #[.slice a (k + 1) c] (#[.slice a (k + 1) c].setIfInBounds 0 (.slice a k c)) 35 (0, 0) h.cell
    simpa using this
  · have h1 : wr.ownsRow (tb + 1) 3 1 (.slice a k c) k (t.map (Value.int .i64)) := by
      have h0 := h.own
      simp only [List.length_append, List.length_singleton, List.map_append, List.map_cons, List.map_nil, hk] at h0
      exact ownsRow_pop h0 (by simpa using hk)
    have := ((ownsRow_on h1).set (a := ⟨tb, 0, none⟩) (fun e => by have := e.2; simp only at this; omega) (.slice a k c)).now
    rw [hk]
    exact this
  · exact h.only.below.trans (hb2.mono (by omega))
  · rw [hb2.block k (by have := h.hbb; have := h.htb; omega)]; exact h.only.block k hk hne
/-- What is to do last. -/
theorem SprAt.last (h : SprAt w B n bb tb wr f tv todo) {t : List Int} {z : Int} (e : todo = t ++ [z]) : ∃ g c, tv = .slice (some ⟨g, 0, none⟩) (t.length + 1) c ∧ t.length + 1 ≤ c ∧ c ≤ maxLen ∧ g < wr.heap.size ∧ wr.cell? ⟨g, t.length, none⟩ = some (.int .i64 z) := by
  subst e
  have hown := h.own
  rcases id hown.2 with ⟨_, h0⟩ | ⟨g, cap, cur, e, hb, hg, hn, hcap, hsz, htake⟩
  · simp at h0
  · refine ⟨g, cap, by simpa using e, by simpa using hn, hcap, (Array.getElem?_eq_some_iff.1 hg).1, ?_⟩
    subst e
    have hc := hown.cellAt t.length (by simp)
    simpa using hc
end

end Go.Proofs.Ytfgimobmaahmmaa

/- The marks that are come to from one mark, transition by transition: only those that can fire need be tried. -/
namespace Go.Proofs.Ytfgimobmaahmmaa
set_option linter.unusedVariables false
set_option maxRecDepth 4000

/-- These transitions are tried at mark k. -/
def rowOn (n : NetL) (M k : Nat) (s : SpaceL) (ts : List Nat) : Option SpaceL := ts.foldlM (tryT n M k) s

theorem rowOn_nil (n : NetL) (M k : Nat) (s : SpaceL) : rowOn n M k s [] = some s := rfl
theorem rowOn_snoc (n : NetL) (M k : Nat) (s : SpaceL) (ts : List Nat) (t : Nat) : rowOn n M k s (ts ++ [t]) = (rowOn n M k s ts).bind fun s' => tryT n M k s' t := by
  unfold rowOn
  rw [List.foldlM_append]
  cases h : ts.foldlM (tryT n M k) s with
  | none => rfl
  | some s' =>
    show ([t].foldlM (tryT n M k) s') = tryT n M k s' t
    rw [List.foldlM_cons]
    cases tryT n M k s' t <;> rfl

theorem rowOn_none {n : NetL} {M k : Nat} {s : SpaceL} {ts : List Nat} {us : List Nat} (h : rowOn n M k s ts = none) : rowOn n M k s (ts ++ us) = none := by
  unfold rowOn at *
  rw [List.foldlM_append, h]
  rfl

theorem tryT_pre {n : NetL} {M k t : Nat} {s s' : SpaceL} (e : tryT n M k s t = some s') : ∃ r, s'.marks = s.marks ++ r := by
  unfold tryT at e
  split at e
  · injection e with e; subst e; exact ⟨[], by simp⟩
  · split at e
    · split at e
      · injection e with e; subst e; exact ⟨[], by simp⟩
      · split at e
        · cases e
        · injection e with e; subst e; exact ⟨_, rfl⟩
    · cases e

theorem rowTo_pre {n : NetL} {M k : Nat} {s : SpaceL} : ∀ (t : Nat) {s' : SpaceL}, rowTo n M k s t = some s' → ∃ r, s'.marks = s.marks ++ r := by
  intro t
  induction t with
  | zero => intro s' e; injection e with e; subst e; exact ⟨[], by simp⟩
  | succ t ih =>
    intro s' e
    simp only [rowTo, Option.bind_eq_some_iff] at e
    obtain ⟨s1, e1, e2⟩ := e
    obtain ⟨r1, h1⟩ := ih e1
    obtain ⟨r2, h2⟩ := tryT_pre e2
    exact ⟨r1 ++ r2, by rw [h2, h1, List.append_assoc]⟩

/-- Those that can fire at m, rising. -/
def canN (n : NetL) (m : List Int) (T : Nat) : List Nat := (List.range T).filter fun t => coversL m (tranAt n.trans t).pre
theorem canTo_canN (n : NetL) (m : List Int) (T : Nat) : canTo n m T = (canN n m T).map fun t => ((t : Nat) : Int) := rfl

theorem rowTo_on {n : NetL} {M k : Nat} {s : SpaceL} (hk : k < s.marks.length) (hf : fitsL n (markAt s.marks k) = true) : ∀ T, T ≤ n.trans.length → rowTo n M k s T = rowOn n M k s (canN n (markAt s.marks k) T) := by
  intro T
  induction T with
  | zero => intro _; rfl
  | succ T ih =>
    intro hT
    have h1 := ih (by omega)
    rw [rowTo]
    unfold canN
    rw [List.range_succ, List.filter_append]
    cases hc : coversL (markAt s.marks k) (tranAt n.trans T).pre with
    | true =>
      rw [show ([T].filter fun t => coversL (markAt s.marks k) (tranAt n.trans t).pre) = [T] by simp [hc]]
      rw [rowOn_snoc, h1]
      rfl
    | false =>
      rw [show ([T].filter fun t => coversL (markAt s.marks k) (tranAt n.trans t).pre) = [] by simp [hc], List.append_nil]
      cases hr : rowTo n M k s T with
      | none => rw [hr] at h1; show none = _; exact h1
      | some s' =>
        rw [hr] at h1
        show tryT n M k s' T = _
        obtain ⟨r, hm⟩ := rowTo_pre T hr
        have hmk : markAt s'.marks k = markAt s.marks k := by rw [hm]; exact markAt_append hk
        have h3 : fireL n (markAt s'.marks k) T = ([], 3) := by
          rw [hmk, fireL, hf]
          simp [hc]
        rw [tryT_skip h3]
        exact h1

/-- How each mark was found first. -/
structure Tied (s : SpaceL) (bys : List ArcL) : Prop where
  len : bys.length = s.marks.length
  dst : ∀ a ∈ s.arcs, a.dst < s.marks.length
  first : ∀ g, 0 < g → g < s.marks.length → firstTo s.arcs g = bys[g]?

theorem tied_start (m : List Int) (a : ArcL) : Tied ⟨[m], []⟩ [a] := ⟨rfl, by simp, fun g h1 h2 => by simp at h2; omega⟩

theorem Tied.old {s : SpaceL} {bys : List ArcL} (h : Tied s bys) {f t g : Nat} (hg : g < s.marks.length) : Tied ⟨s.marks, s.arcs ++ [⟨f, t, g⟩]⟩ bys := by
  refine ⟨h.len, fun a ha => ?_, fun g' h1 h2 => ?_⟩
  · rcases List.mem_append.1 ha with ha | ha
    · exact h.dst a ha
    · rw [List.mem_singleton] at ha; subst ha; exact hg
  · have e := h.first g' h1 h2
    have hb : g' < bys.length := by rw [h.len]; exact h2
    rw [List.getElem?_eq_getElem hb] at e ⊢
    exact firstTo_append e

theorem Tied.new {s : SpaceL} {bys : List ArcL} (h : Tied s bys) (z : List Int) {f t l : Nat} (hl : l = s.marks.length) : Tied ⟨s.marks ++ [z], s.arcs ++ [⟨f, t, l⟩]⟩ (bys ++ [⟨f, t, l⟩]) := by
  subst hl
  refine ⟨by simp [h.len], fun a ha => ?_, fun g' h1 h2 => ?_⟩
  · rcases List.mem_append.1 ha with ha | ha
    · have := h.dst a ha; simp; omega
    · rw [List.mem_singleton] at ha; subst ha; simp
  · by_cases hg : g' < s.marks.length
    · have e := h.first g' h1 hg
      have hb : g' < bys.length := by rw [h.len]; exact hg
      rw [List.getElem?_append_left hb]
      rw [List.getElem?_eq_getElem hb] at e ⊢
      exact firstTo_append e
    · have e : g' = s.marks.length := by simp at h2; omega
      subst e
      have hn : firstTo s.arcs s.marks.length = none := firstTo_none fun a ha => by have := h.dst a ha; omega
      rw [firstTo_new hn rfl, ← h.len, List.getElem?_append_right (Nat.le_refl _)]
      simp

end Go.Proofs.Ytfgimobmaahmmaa
