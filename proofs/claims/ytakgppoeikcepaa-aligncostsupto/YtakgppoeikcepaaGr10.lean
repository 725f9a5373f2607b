import Derived.Test.YtakgppoeikcepaaGr09
import Derived.Test.YtakgppoeikcepaaGr06
import Derived.Test.YtakgppoeikcepaaGr04
import Derived.Deep.RegionLaw
import Derived.Test.YtakgppoeikcepaaGr05
/- Package net, as it landed: the other way round. -/
namespace Go.Proofs.Ytakgppoeikcepaa
open Go.RowKit
set_option linter.unusedVariables false
set_option maxRecDepth 4000

/-- The answer while it is built: it lies at block x, its transitions in a row of its own, what they take and put elsewhere. -/
structure TurnOut (x : Nat) (p : Int) (w0 wr : World) (ts : List TranL) (ov : Value) (tv : List (Int × Value × Value)) : Prop where
  own : wr.ownsRow (x + 1) 37 3 ov tv.length (tvCells tv)
  below : Below x w0 wr
  size : x + 1 ≤ wr.heap.size
  c0 : wr.cell? ⟨x, 0, none⟩ = some (.int .i64 p)
  c1 : wr.cell? ⟨x, 1, none⟩ = some ov
  f0 : wr.frozen? ⟨x, 0, none⟩ = false
  f1 : wr.frozen? ⟨x, 1, none⟩ = false
  row : ∀ j (hj : j < tv.length), tv[j].1 = (tranAt ts j).label ∧ On (fun k => x < k ∧ some k ≠ ov.ownBlock) wr (fun w' => Ints w' tv[j].2.1 (tranAt ts j).post) ∧
    On (fun k => x < k ∧ some k ≠ ov.ownBlock) wr (fun w' => Ints w' tv[j].2.2 (tranAt ts j).pre)

theorem TurnOut.to {x : Nat} {p : Int} {w0 wr w' : World} {ts : List TranL} {ov : Value} {tv : List (Int × Value × Value)} (h : TurnOut x p w0 wr ts ov tv) (hb : Below wr.heap.size wr w') : TurnOut x p w0 w' ts ov tv := by
  have hx : x < wr.heap.size := h.size
  refine ⟨?_, h.below.trans (hb.mono (by omega)), Nat.le_trans h.size hb.size, ?_, ?_, ?_, ?_, fun j hj => ?_⟩
  · exact ((ownsRow_on h.own).below hb).now
  · rw [hb.cell (p := ⟨x, 0, none⟩) hx]; exact h.c0
  · rw [hb.cell (p := ⟨x, 1, none⟩) hx]; exact h.c1
  · rw [hb.frozen (p := ⟨x, 0, none⟩) hx]; exact h.f0
  · rw [hb.frozen (p := ⟨x, 1, none⟩) hx]; exact h.f1
  · obtain ⟨e1, e2, e3⟩ := h.row j hj
    exact ⟨e1, e2.below hb, e3.below hb⟩

theorem TurnOut.step {x : Nat} {p : Int} {w0 wr wB wC W : World} {ts : List TranL} {ov v' : Value} {tv : List (Int × Value × Value)} {l : Int} {c1 c2 : Value} (h : TurnOut x p w0 wr ts ov tv)
    (hb : Below wr.heap.size wr wB) (k1 : On (fun k => wr.heap.size ≤ k) wB (fun w' => Ints w' c1 (tranAt ts tv.length).post)) (k2 : On (fun k => wr.heap.size ≤ k) wB (fun w' => Ints w' c2 (tranAt ts tv.length).pre))
    (hl : l = (tranAt ts tv.length).label) (hW : Below wB.heap.size wB W)
    (hown : wC.ownsRow (x + 1) 37 3 v' (tv.length + 1) (tvCells tv ++ [.int .i64 l, c1, c2])) (hg : W.grownBy wC ov.ownBlock)
    (hat : v'.ownBlock = ov.ownBlock ∨ v'.ownBlock = some W.heap.size) : TurnOut x p w0 (wC.setCell ⟨x, 1, none⟩ v') ts v' (tv ++ [(l, c1, c2)]) := by
  have hx : x < wr.heap.size := h.size
  have g := h.to (hb.trans (hW.mono hb.size))
  have hov : ∀ k, ov.ownBlock = some k → x + 1 ≤ k ∧ k < wr.heap.size := fun k hk => ownsRow_lt h.own hk
  have hxr : some x ≠ ov.ownBlock := fun e => by have := hov x e.symm; omega
  have hxW : x < W.heap.size := g.size
  have s1 : wr.heap.size ≤ wB.heap.size := hb.size
  have s2 : wB.heap.size ≤ W.heap.size := hW.size
  have hcx : wC.heap[x]? = W.heap[x]? := hg.block x hxW hxr
  have hc0 : wC.cell? ⟨x, 0, none⟩ = some (.int .i64 p) := (World.cell?_of_block (a := ⟨x, 0, none⟩) hcx).trans g.c0
  have hc1 : wC.cell? ⟨x, 1, none⟩ = some ov := (World.cell?_of_block (a := ⟨x, 1, none⟩) hcx).trans g.c1
  have hf0 : wC.frozen? ⟨x, 0, none⟩ = false := (World.frozen?_of_block (a := ⟨x, 0, none⟩) hcx).trans g.f0
  have hf1 : wC.frozen? ⟨x, 1, none⟩ = false := (World.frozen?_of_block (a := ⟨x, 1, none⟩) hcx).trans g.f1
  -- what hangs on old blocks beside these two stands
  have keep : ∀ {R : World → Prop}, On (fun k => x < k ∧ some k ≠ ov.ownBlock) W R → On (fun k => x < k ∧ some k ≠ v'.ownBlock) (wC.setCell ⟨x, 1, none⟩ v') R := by
    intro R hR w2 hs hk
    refine hR w2 (Nat.le_trans hg.size (Nat.le_trans (by simp [World.setCell]) hs)) fun k hlt ⟨hkx, hkr⟩ => ?_
    have hk' : some k ≠ v'.ownBlock := by
      rcases hat with e | e <;> rw [e]
      · exact hkr
      · simp; omega
    rw [hk k (Nat.lt_of_lt_of_le (Nat.lt_of_lt_of_le hlt hg.size) (by simp [World.setCell])) ⟨hkx, hk'⟩, Below.heap_setCell wC ⟨x, 1, none⟩ v' k (by show k ≠ x; omega)]
    exact hg.block k hlt hkr
  have new : ∀ {R : World → Prop}, On (fun k => wr.heap.size ≤ k) wB R → On (fun k => x < k ∧ some k ≠ ov.ownBlock) W R := by
    intro R hR
    refine (hR.below hW).weaken fun k hlt hk => ⟨by omega, fun e => ?_⟩
    have := hov k e.symm
    omega
  refine ⟨?_, ?_, ?_, ?_, ?_, ?_, ?_, fun j hj => ?_⟩
  · have := ownsRow_setCell_below hown (a := ⟨x, 1, none⟩) (Nat.lt_succ_self x) v'
    rw [tvCells_append]
    simpa [tvCells] using this
  · exact ((h.below.trans ((hb.trans (hW.mono hb.size)).mono (by omega))).grown hg (by omega) (fun k hk => by have := hov k hk; omega)).setCell (p := ⟨x, 1, none⟩) (Nat.le_refl _) _
  · have := hg.size; simp [World.setCell]; omega
  · rw [World.cell?_setCell_other _ _ _ _ (by intro q; injection q with _ q2; omega)]; exact hc0
  · exact World.cell?_setCell_same _ _ _ hc1
  · rw [World.frozen?_setCell]; exact hf0
  · rw [World.frozen?_setCell]; exact hf1
  · by_cases hjl : j < tv.length
    · rw [List.getElem_append_left hjl]
      obtain ⟨e1, e2, e3⟩ := g.row j hjl
      exact ⟨e1, keep e2, keep e3⟩
    · have e : j = tv.length := by simp at hj; omega
      subst e
      rw [List.getElem_append_right (Nat.le_refl _)]
      simp only [Nat.sub_self, List.getElem_cons_zero]
      exact ⟨hl, keep (new k1), keep (new k2)⟩

/-- The load of the answer's transitions: it is not taken first, for the same statement stores there. -/
abbrev turnLoad : Op := Op.load 22 (Operand.tmp 16)

theorem wpr_append_tran {o : Oper} {a : Act} {K : Act → World → Prop} {Q : Exit → Act → World → Prop} {Y : Nat → Option Bool} (hwt : Region.wanted o Y = true) (s x : Operand)
    (ho : o.op = .call { callee := .builtin .append, args := #[s, x], argTypes := #[22, 22] }) (B : Nat) (wr : World) (v : Value) (tv : List (Int × Value × Value))
    (l : Int) (a1 a2 : Option Addr) (l1 l2 p1 p2 : Nat) (hown : wr.ownsRow B 37 3 v tv.length (tvCells tv))
    (hs : a.eval s = v) (hx : a.eval x = .slice (some ⟨wr.heap.size, 0, none⟩) 1 1) (hl : tv.length + 1 ≤ 2513169434916) (hB : B ≤ wr.heap.size)
    (h : ∀ v' w', w'.ownsRow B 37 3 v' (tv.length + 1) (tvCells tv ++ [.int .i64 l, .slice a1 l1 p1, .slice a2 l2 p2]) → (wr.alloc (.cells #[.int .i64 l, .slice a1 l1 p1, .slice a2 l2 p2] 37)).grownBy w' v.ownBlock →
      (v'.ownBlock = v.ownBlock ∨ v'.ownBlock = some (wr.alloc (.cells #[.int .i64 l, .slice a1 l1 p1, .slice a2 l2 p2] 37)).heap.size) → K (a.put o.dst v') w') :
    if Region.wanted o Y = true then Oper.wp Try.prog o a (wr.alloc (.cells #[.int .i64 l, .slice a1 l1 p1, .slice a2 l2 p2] 37)) K Q else K (a.put o.dst undef) (wr.alloc (.cells #[.int .i64 l, .slice a1 l1 p1, .slice a2 l2 p2] 37)) := by
  obtain ⟨i0, hi, hz0, hz1, hz2⟩ := info_parts info_tran
  refine wp_append_at _ hwt s x 22 ho B 37 i0 _ 3 56 Try.underlying22 hi hz0 hz1 hz2 rfl (by decide) v tv.length _ hs (hown.alloc _) ⟨wr.heap.size, 0, none⟩ 1 1 [.int .i64 l, .slice a1 l1 p1, .slice a2 l2 p2] hx rfl ?_ ?_ ?_ ?_ ?_ h
  · intro j u hj
    rw [addr_add, World.cell?_alloc_at _ _ _ _ rfl]
    match j, hj with
    | 0, hj => simpa using hj
    | 1, hj => simpa using hj
    | 2, hj => simpa using hj
  · intro u hu
    simp only [List.mem_cons, List.not_mem_nil, or_false] at hu
    rcases hu with rfl | rfl | rfl <;> rfl
  · unfold maxLen; omega
  · omega
  · simp; omega

theorem TurnOut.after {x : Nat} {p : Int} {w0 wr W wC : World} {ts : List TranL} {ov : Value} {tv : List (Int × Value × Value)} (h : TurnOut x p w0 wr ts ov tv) (hb : Below wr.heap.size wr W) (hg : W.grownBy wC ov.ownBlock) :
    wC.cell? ⟨x, 1, none⟩ = some ov ∧ wC.frozen? ⟨x, 1, none⟩ = false ∧ ∀ a : Addr, wr.heap.size ≤ a.block → a.block < W.heap.size → wC.cell? a = W.cell? a := by
  have g := h.to hb
  have hov : ∀ k, ov.ownBlock = some k → x + 1 ≤ k ∧ k < wr.heap.size := fun k hk => ownsRow_lt h.own hk
  have hcx : wC.heap[x]? = W.heap[x]? := hg.block x g.size fun e => by have := hov x e.symm; omega
  refine ⟨(World.cell?_of_block (a := ⟨x, 1, none⟩) hcx).trans g.c1, (World.frozen?_of_block (a := ⟨x, 1, none⟩) hcx).trans g.f1, fun a h1 h2 => ?_⟩
  exact World.cell?_of_block (hg.block a.block h2 fun e => by have := hov _ e.symm; omega)

theorem turn_start (w0 : World) (p : Int) (ts : List TranL) (x : Nat) (hx : x = w0.heap.size) :
    TurnOut x p w0 (w0.alloc (.cells #[.int .i64 p, .slice none 0 0] 24)) ts (.slice none 0 0) [] := by
  subst hx
  refine ⟨World.ownsRow_nil _ _ _ _, below_new _ _, by simp, ?_, ?_, ?_, ?_, fun j hj => absurd hj (by simp)⟩
  · rw [World.cell?_alloc_at _ _ _ _ rfl]; rfl
  · rw [World.cell?_alloc_at _ _ _ _ rfl]; rfl
  · rw [World.frozen?_alloc_at _ _ _ _ rfl]
  · rw [World.frozen?_alloc_at _ _ _ _ rfl]

/-- Two blocks of two cells, one behind the other. -/
theorem two_new (w W : World) (x y x' y' : Value) (t t' : TypeId) (h : (w.alloc (.cells #[x, y] t)).alloc (.cells #[x', y'] t') = W) :
    Below w.heap.size w W ∧ Box2 W w.heap.size x y ∧ Box2 W (w.heap.size + 1) x' y' ∧ (∀ j, W.frozen? ⟨w.heap.size + 1, j, none⟩ = false) ∧ W.heap.size = w.heap.size + 1 + 1 := by
  have b1 := below_new w (.cells #[x, y] t)
  have b2 := below_new (w.alloc (.cells #[x, y] t)) (.cells #[x', y'] t')
  have h1 := (box2_new w x y t).below b2
  have h2 := box2_new (w.alloc (.cells #[x, y] t)) x' y' t'
  have e : (w.alloc (.cells #[x, y] t)).heap.size = w.heap.size + 1 := by simp
  rw [e] at h2
  subst h
  exact ⟨below_then b1 b2, h1, h2, fun j => by rw [World.frozen?_alloc_at _ _ _ _ (by simp)], by simp⟩

set_option maxHeartbeats 2000000 in
theorem net_turned (v : Value) (n : NetL) (w : World) (hv : Net w v n) :
    Calls Try.prog 48 #[v] w fun e w' => ∃ r, e = .returned r ∧ Net w' r (turnL n) ∧ Below w.heap.size w w' := by
  obtain ⟨tv, rfl, hT⟩ := hv
  obtain ⟨a, len, cap, rfl, hlen, hmx, hsh, hr⟩ := id hT
  clear hr
  obtain ⟨W0, HW0⟩ : ∃ W0, Hid (((w.alloc (.cells #[.int .i64 n.places, .slice a len cap] 24)).alloc (.cells #[.int .i64 0, .slice none 0 0] 24)) = W0) := ⟨_, rfl⟩
  obtain ⟨b3, hbx, hres, hfr, hsz⟩ := two_new _ _ _ _ _ _ _ _ HW0.out
  have Hfr : Hid _ := hfr
  have Hres : Hid _ := hres
  clear hfr hres
  replace hT := hT.below b3
  have hst := turn_start W0 n.places n.trans (w.heap.size + 1 + 1) hsz.symm
  have bn := below_new W0 (.cells #[.int .i64 n.places, .slice none 0 0] 24)
  obtain ⟨W1, HW1⟩ : ∃ W1, Hid (W0.alloc (.cells #[.int .i64 n.places, .slice none 0 0] 24) = W1) := ⟨_, rfl⟩
  rw [HW1.out] at hst bn
  obtain ⟨x0, x1, x2⟩ := id hbx
  obtain ⟨y0, y1, y2⟩ := hbx.below bn
  go_enter Try.func48, Try.ntmps48
  go_upto_region 1 with fail
  rw [HW0.out]
  clear HW0
  go_upto_region 2 with fail
  rw [HW1.out]
  clear HW1 x0 x1 x2
  go_wp2_with fail
  clear y0 y1 y2
  go_loopg [12] len (fun g i wr => ∃ (k : Nat) (ov : Value) (tv : List (Int × Value × Value)), k + g = len ∧ i = .int .i64 k ∧ Hid (tv.length = k) ∧ TurnOut (w.heap.size + 1 + 1) n.places W0 wr n.trans ov tv)
  case atStart => exact ⟨0, _, [], by omega, rfl, rfl, hst⟩
  case round =>
    clear hst bn
    obtain ⟨k, ov, tv, hkg, rfl, Hk, hO⟩ := hrel
    have hbw : Below W0.heap.size W0 wr := by rw [hsz]; exact hO.below
    by_cases hkn : k < len
    · obtain ⟨b, off, c1, c2, rfl, hblt, h0, h1, h2, i1, i2⟩ := (hT.below hbw).at hkn
      obtain ⟨a1, l1, p1, rfl, hl1, hm1, _, _⟩ := id i1
      obtain ⟨a2, l2, p2, rfl, hl2, hm2, _, _⟩ := id i2
      have hbn := below_new wr (.cells #[.int .i64 (tranAt n.trans k).label, .slice a1 l1 p1, .slice a2 l2 p2] 37)
      have hx3 := box3_new wr (.int .i64 (tranAt n.trans k).label) (.slice a1 l1 p1) (.slice a2 l2 p2) 37
      obtain ⟨wt, Hwt⟩ : ∃ wt, Hid (wr.alloc (.cells #[.int .i64 (tranAt n.trans k).label, .slice a1 l1 p1, .slice a2 l2 p2] 37) = wt) := ⟨_, rfl⟩
      rw [Hwt.out] at hbn hx3
      have Hst : Hid _ := fun wB wC W v' l c1 c2 => @TurnOut.step _ _ _ _ wB wC W _ _ v' _ l c1 c2 hO
      have hO1 := hO.to hbn
      rw [Hk.out] at Hst
      replace i1 := i1.below hbn
      replace i2 := i2.below hbn
      generalize tranAt n.trans k = t at *
      obtain ⟨d1, hd1⟩ : ∃ d1, Hid (Value.slice a1 l1 p1 = d1) := ⟨_, rfl⟩
      obtain ⟨d2, hd2⟩ : ∃ d2, Hid (Value.slice a2 l2 p2 = d2) := ⟨_, rfl⟩
      go_upto_region 5 with fail
      rw [Hwt.out]
      rw [hd1.out] at i1
      rw [hd2.out] at i2
      rw [hd1.out, hd2.out] at hx3
      have hlt1 : t.pre.length ≤ 17592186044416 := by omega
      have hlt2 : t.post.length ≤ 17592186044416 := by omega
      have Hl1 : Hid _ := hlt1
      have Hl2 : Hid _ := hlt2
      have Hlk : Hid (tv.length + 1 ≤ 2513169434916) := by show _ ≤ _; have := Hk.out; omega
      clear h0 h1 h2 Hwt hd1 hd2 hlt1 hlt2 hl1 hl2 hm1 hm2
      obtain ⟨x0, x1, x2, x3⟩ := id hx3
      have o1 := hO1.c1
      have o2 := hO1.f1
      have hsz1 : w.heap.size + 1 + 1 + 1 ≤ wr.heap.size := hO.size
      have hne : ¬ w.heap.size + 1 + 1 = wr.heap.size := by omega
      rw [show (Op.load 22 (Operand.tmp 16) : Op) = turnLoad from rfl]
      go_region_held3 (fun w' => w'.cell? ⟨wr.heap.size, 0, none⟩ = some (.int .i64 t.label) ∧ w'.cell? ⟨wr.heap.size, 1, none⟩ = some d1 ∧ w'.cell? ⟨wr.heap.size, 2, none⟩ = some d2)
        (go_keep)
        (first
          | (go_at_call_of 13 d2; refine (clone_any _ t.post _ ?_).mono ?_; exact i2.drewN 1; rintro e wA ⟨rA, rfl, hA⟩; obtain ⟨ax, lx, cx, rfl⟩ := hA.slice; have bA := below_then (below_drewN (Below.refl wt.heap.size wt) 1) hA.2.1; obtain ⟨xA0, xA1, xA2, xA3⟩ := hx3.below bA; have hOA := hO1.to bA; have oA1 := hOA.c1; have oA2 := hOA.f1)
          | (go_at_call_of 13 d1; refine (clone_any _ t.pre _ ?_).mono ?_; exact i1.below bA; rintro e wB ⟨rB, rfl, hB⟩; obtain ⟨ay, ly, cy, rfl⟩ := hB.slice; have bB := below_then bA hB.2.1; obtain ⟨xB0, xB1, xB2, xB3⟩ := hx3.below bB; have hOB := hO1.to bB; have oB1 := hOB.c1; have oB2 := hOB.f1; have oB3 := (hOB.to (below_new wB (.cells #[.int .i64 t.label, .slice ax lx cx, .slice ay ly cy] 37))).c1)
          | (refine wpr_append_tran rfl _ _ rfl (w.heap.size + 1 + 1 + 1) wB ov tv t.label _ _ _ _ _ _ hOB.own rfl rfl Hlk.out hOB.size ?_; intro v' wC hC hgC hatC; obtain ⟨av, lv, cv, rfl⟩ := ownsRow_slice hC; obtain ⟨oC1, oC2, hcc⟩ := hO.after (below_then hbn (below_then bB (below_new _ _))) hgC; have hx4 := hx3.below (below_then bB (below_new wB (.cells #[.int .i64 t.label, .slice ax lx cx, .slice ay ly cy] 37))); have xC1 := (hcc ⟨wr.heap.size, 0, none⟩ (Nat.le_refl _) hx4.1).trans hx4.2.1; have xC2 := (hcc ⟨wr.heap.size, 1, none⟩ (Nat.le_refl _) hx4.1).trans hx4.2.2.1; have xC3 := (hcc ⟨wr.heap.size, 2, none⟩ (Nat.le_refl _) hx4.1).trans hx4.2.2.2))
      all_goals
        have q1 := ((hA.on Hl2.out).weaken (D' := fun k => wr.heap.size ≤ k) fun k _ hk => Nat.le_trans hbn.size hk).below hB.2.1
        have q2 := (hB.on Hl1.out).weaken (D' := fun k => wr.heap.size ≤ k) fun k _ hk => Nat.le_trans (Nat.le_trans hbn.size bA.size) hk
        rw [Hk.out] at hC
        have R := Hst.out wB wC _ _ t.label _ _ (below_then hbn bB) q1 q2 rfl (below_new _ _) hC hgC hatC
        have Hk2 : Hid ((tv ++ [(t.label, Value.slice ax lx cx, Value.slice ay ly cy)]).length = k + 1) := by show _ = _; have := Hk.out; simp [this]
        clear q1 q2 hC hgC hatC Hst hcc hx4 xC1 xC2 xC3 oC1 oC2 xB0 xB1 xB2 xB3 xA0 xA1 xA2 xA3 oA1 oA2 oB1 oB2 oB3 hA hB bA bB hOA hOB x0 x1 x2 x3 o1 o2 hO hO1 hbn hx3
        go_wp2
        go_roundg (gk - 1)
        case measure => omega
        case rel => exact ⟨k + 1, _, _, by omega, by go_num, Hk2, R⟩
    · obtain ⟨z0, z1⟩ := And.intro hO.c0 hO.c1
      obtain ⟨ax, lx, cx, rfl⟩ := ownsRow_slice hO.own
      obtain ⟨r0, r1, r2⟩ := Box2.below Hres.out hbw
      have q3 : wr.frozen? ⟨w.heap.size + 1, 0, none⟩ = false := by rw [hbw.frozen (p := ⟨w.heap.size + 1, 0, none⟩) (by simp [hsz])]; exact Hfr.out 0
      have q4 : wr.frozen? ⟨w.heap.size + 1, 1, none⟩ = false := by rw [hbw.frozen (p := ⟨w.heap.size + 1, 1, none⟩) (by simp [hsz])]; exact Hfr.out 1
      have hb5 : Below w.heap.size w ((wr.setCell ⟨w.heap.size + 1, 0, none⟩ (.int .i64 n.places)).setCell ⟨w.heap.size + 1, 1, none⟩ (.slice ax lx cx)) :=
        ((below_then b3 hbw).setCell (p := ⟨w.heap.size + 1, 0, none⟩) (by simp) _).setCell (p := ⟨w.heap.size + 1, 1, none⟩) (by simp) _
      have hTr : Trans ((wr.setCell ⟨w.heap.size + 1, 0, none⟩ (.int .i64 n.places)).setCell ⟨w.heap.size + 1, 1, none⟩ (.slice ax lx cx)) (.slice ax lx cx) (turnL n).trans := by
        have hown2 := ownsRow_setCell_below (ownsRow_setCell_below hO.own (a := ⟨w.heap.size + 1, 0, none⟩) (by show w.heap.size + 1 < _; omega) (.int .i64 n.places)) (a := ⟨w.heap.size + 1, 1, none⟩) (by show w.heap.size + 1 < _; omega) (.slice ax lx cx)
        refine tran_read hown2 (by have := Hk.out; omega) (by have := Hk.out; simp [turnL]; omega) fun j hj => ?_
        obtain ⟨e1, e2, e3⟩ := hO.row j hj
        have hjl : j < n.trans.length := by have := Hk.out; omega
        have ea : tranAt (turnL n).trans j = turnT (tranAt n.trans j) := turn_at _ _ hjl
        rw [ea]
        have hD : ¬ (fun k => w.heap.size + 1 + 1 < k ∧ some k ≠ (Value.slice ax lx cx).ownBlock) (w.heap.size + 1) := fun h => by have := h.1; omega
        exact ⟨e1, ((e2.set (a := ⟨w.heap.size + 1, 0, none⟩) hD _).set (a := ⟨w.heap.size + 1, 1, none⟩) hD _).now, ((e3.set (a := ⟨w.heap.size + 1, 0, none⟩) hD _).set (a := ⟨w.heap.size + 1, 1, none⟩) hD _).now⟩
      have HTr : Hid _ := hTr
      have Hb5 : Hid _ := hb5
      clear hTr hb5
      go_wp2_with fail
      refine bodyPost_ret (v := .agg #[.int .i64 n.places, .slice ax lx cx]) ?_ rfl ⟨_, rfl, ⟨_, rfl, HTr.out⟩, Hb5.out⟩
      simp [results, Try.results48, go_sem, r1, r2]

end Go.Proofs.Ytakgppoeikcepaa

/- Package net, as it landed, whole. -/
namespace Go.Proofs.Ytakgppoeikcepaa
open Go.RowKit
set_option linter.unusedVariables false
set_option maxRecDepth 4000

theorem net_wrong (v : Value) (n : NetL) (w : World) (hv : Net w v n) :
    Calls Try.prog 26 #[v] w fun e w' => e = .returned (.int .i64 (wrongL n)) ∧ Below w.heap.size w w' := wrong_any v n w hv

end Go.Proofs.Ytakgppoeikcepaa

/- Package shape as it landed: where a way can go on. -/
namespace Go.Proofs.Ytakgppoeikcepaa
open Go.RowKit
set_option linter.unusedVariables false
set_option maxRecDepth 4000

/-- The cells of some stops. -/
def stopCells (l : List Stop) : List Value := l.flatMap fun s => [.bool s.1, .int .i64 (s.2 : Int)]
theorem stopCells_append (l m : List Stop) : stopCells (l ++ m) = stopCells l ++ stopCells m := by simp [stopCells]
theorem stopCells_at (l : List Stop) (j : Nat) (h : j < l.length) : (stopCells l)[j * 2]? = some (.bool l[j].1) ∧ (stopCells l)[j * 2 + 1]? = some (.int .i64 (l[j].2 : Int)) := by
  induction l generalizing j with
  | nil => simp at h
  | cons x r ih =>
    have ec : stopCells (x :: r) = .bool x.1 :: .int .i64 (x.2 : Int) :: stopCells r := rfl
    match j, h with
    | 0, _ => exact ⟨rfl, rfl⟩
    | j + 1, h =>
      obtain ⟨q1, q2⟩ := ih j (by simpa using h)
      rw [ec, show (j + 1) * 2 = j * 2 + 2 by omega]
      exact ⟨q1, q2⟩

/-- A slice of these stops. -/
def Stops (w : World) (v : Value) (l : List Stop) : Prop :=
  ∃ a cap, v = .slice a l.length cap ∧ ∀ j (hj : j < l.length), ∃ b off, a = some ⟨b, off, none⟩ ∧ w.cell? ⟨b, off + j * 2, none⟩ = some (.bool l[j].1) ∧ w.cell? ⟨b, off + j * 2 + 1, none⟩ = some (.int .i64 (l[j].2 : Int))

def OwnS (B : Nat) (w wr : World) (v : Value) (l : List Stop) : Prop :=
  wr.ownsRow B 126 2 v l.length (stopCells l) ∧ Below B w wr ∧ B ≤ wr.heap.size

theorem OwnS.nil (w : World) : OwnS w.heap.size w w (.slice none 0 0) [] := ⟨World.ownsRow_nil _ _ _ _, Below.refl _ _, Nat.le_refl _⟩

theorem OwnS.trans {B : Nat} {w wr w2 : World} {v : Value} {l : List Stop} (h : OwnS B w wr v l) (hb : Below wr.heap.size wr w2) : OwnS B w w2 v l := by
  obtain ⟨hown, hb0, hB⟩ := h
  refine ⟨hown.kept (row := none) ⟨hb.os, hb.tape, hb.output, hb.size, fun k hk _ => hb.block k hk⟩ ?_, hb0.trans (hb.mono hB), Nat.le_trans hB hb.size⟩
  cases hv : v.ownBlock with
  | none => exact .inl rfl
  | some k => exact .inr (by simp)

theorem stops_read {B : Nat} {wr : World} {v : Value} {l : List Stop} (hown : wr.ownsRow B 126 2 v l.length (stopCells l)) : Stops wr v l := by
  have hown0 := hown
  obtain ⟨_, hcase⟩ := hown
  rcases hcase with ⟨rfl, h0⟩ | ⟨g, cap', cur, rfl, hg, hh, hn, hcap, hsz, htake⟩
  · exact ⟨none, 0, by rw [h0], fun j hj => absurd hj (by omega)⟩
  · refine ⟨_, _, rfl, fun j hj => ?_⟩
    obtain ⟨q1, q2⟩ := stopCells_at l j hj
    refine ⟨g, 0, rfl, ?_, ?_⟩
    · rw [Nat.zero_add, hown0.cellAt (j * 2) (by omega), q1]
    · rw [Nat.zero_add, hown0.cellAt (j * 2 + 1) (by omega), q2]

theorem OwnS.on {B : Nat} {w wr : World} {v : Value} {l : List Stop} (h : OwnS B w wr v l) : On (fun k => B ≤ k) wr (fun w' => Stops w' v l) :=
  ((ownsRow_on h.1).weaken fun k _ hk => hk.2).mono fun w' h' => stops_read h'

theorem OwnS.slice {B : Nat} {w wr : World} {v : Value} {l : List Stop} (h : OwnS B w wr v l) : ∃ a c, v = .slice a l.length c := by
  rcases h.1.2 with ⟨rfl, e⟩ | ⟨g, cap', cur, rfl, _⟩
  · exact ⟨_, _, by rw [e]⟩
  · exact ⟨_, _, rfl⟩

theorem info_stop : (Try.prog.info? 126).map (fun i => (i.zero, i.size, i.bytes)) = some (some (.agg #[.bool false, .int .i64 0]), 2, 16) := by kernel_rfl

theorem wp_append_stop {ops : Array Oper} {rest : List Oper} {o : Oper} {a : Act} {Q : Exit → Act → World → Prop} (hgd : o.guard = none) (s x : Operand)
    (ho : o.op = .call { callee := .builtin .append, args := #[s, x], argTypes := #[129, 129] }) (B : Nat) (w wr : World) (v : Value) (l : List Stop) (t : Stop) (hG : OwnS B w wr v l)
    (hs : a.eval s = v) (hx : a.eval x = .slice (some ⟨wr.heap.size, 0, none⟩) 1 1) (hl : l.length + 1 ≤ 1000)
    (h : ∀ v' w', OwnS B w w' v' (l ++ [t]) → wpList Try.prog ops Q rest (a.put o.dst v') w') : wpList Try.prog ops Q (o :: rest) a (wr.alloc (.cells #[.bool t.1, .int .i64 (t.2 : Int)] 126)) := by
  obtain ⟨i0, hi, hz0, hz1, hz2⟩ := info_parts info_stop
  obtain ⟨hown, hb, hB⟩ := hG
  refine wpList_append_own _ hgd s x 129 ho B 126 i0 _ 2 16 Try.underlying129 hi hz0 hz1 hz2 rfl (by decide) v l.length _ hs (hown.alloc _) ⟨wr.heap.size, 0, none⟩ 1 1 [.bool t.1, .int .i64 (t.2 : Int)] hx rfl ?_ ?_ ?_ ?_ ?_ ?_
  · intro j u hj
    rw [addr_add, World.cell?_alloc_at _ _ _ _ rfl]
    match j, hj with
    | 0, hj => simpa using hj
    | 1, hj => simpa using hj
  · intro u hu
    simp only [List.mem_cons, List.not_mem_nil, or_false] at hu
    rcases hu with rfl | rfl <;> rfl
  · unfold maxLen; omega
  · omega
  · simp; omega
  · intro v' w' hown' hgrow _
    refine h v' w' ⟨by rw [stopCells_append]; simpa [stopCells] using hown', (hb.alloc hB _).grown hgrow (by simp; omega) (fun k hk => (hown.lt k hk).1), ?_⟩
    have := hgrow.size; simp at this; omega

theorem two_boxes (w W : World) (x y x' y' : Value) (t t' : TypeId) (h : (w.alloc (.cells #[x, y] t)).alloc (.cells #[x', y'] t') = W) :
    Below w.heap.size w W ∧ Box2 W w.heap.size x y ∧ Box2 W (w.heap.size + 1) x' y' := by
  obtain ⟨h1, h2, h3, _⟩ := two_new w W x y x' y' t t' h
  exact ⟨h1, h2, h3⟩

set_option maxHeartbeats 1000000 in
theorem behind_any (v : Value) (n : NetL) (hn : netOk n = true) (s : Stop) (hs : FitS n s) (w : World) (hv : Net w v n) :
    Calls Try.prog 72 #[v, .agg #[.bool s.1, .int .i64 (s.2 : Int)]] w fun e w' => ∃ r, e = .returned r ∧ On (fun k => w.heap.size ≤ k) w' (fun w'' => Stops w'' r (behindL n s)) ∧ Below w.heap.size w w' := by
  obtain ⟨tv, rfl, hT⟩ := hv
  obtain ⟨a, len, cap, rfl, hlen, hmx, hsh, hr⟩ := id hT
  clear hr
  obtain ⟨W0, HW0⟩ : ∃ W0, Hid (((w.alloc (.cells #[.int .i64 n.places, .slice a len cap] 24)).alloc (.cells #[.bool s.1, .int .i64 (s.2 : Int)] 126)) = W0) := ⟨_, rfl⟩
  obtain ⟨b1, hx, hy⟩ := two_boxes _ _ _ _ _ _ _ _ HW0.out
  replace hT := hT.below b1
  have Hhd : Hid _ := head_of hn
  obtain ⟨x0, x1, x2⟩ := id hx
  obtain ⟨y0, y1, y2⟩ := id hy
  obtain ⟨c, q⟩ := s
  simp only at HW0 hy y1 y2 ⊢
  have hT2 := hT
  go_enter Try.func72, Try.ntmps72
  go_upto_region 1 with fail
  rw [HW0.out]
  clear HW0
  cases c
  · -- a place
    have hq : (q : Int) < n.places := hs
    go_wp2_with fail
    go_loopg [5, 37] len (fun g o i wr => ∃ k : Nat, k + g = len ∧ i = .int .i64 k ∧ OwnS W0.heap.size W0 wr o (somes true (takesAt n q) k))
    case atStart => exact ⟨0, by omega, rfl, OwnS.nil _⟩
    case round =>
      obtain ⟨k, hkg, rfl, hG⟩ := hrel
      replace y0 := hy.below hG.2.1
      obtain ⟨y0, y1, y2⟩ := y0
      by_cases hkn : k < len
      · obtain ⟨b, off, c1, c2, rfl, hblt, h0, h1, h2, i1, i2⟩ := (hT2.below hG.2.1).at hkn
        have hle := somes_le true (takesAt n q) k
        have Hy : Hid _ := somes_yes true (takesAt n q) k
        have Hn : Hid _ := somes_no true (takesAt n q) k
        have hl := (tran_length hn (show k < n.trans.length by omega)).1
        have Ht : Hid (takesAt n q k = decide (0 < nth (tranAt n.trans k).pre q)) := rfl
        have h24 : len ≤ 24 := by have := Hhd.out.2.2; omega
        obtain ⟨a1, l1, p1, rfl, hl1, _, _, hr1⟩ := id i1
        obtain ⟨a2, l2, p2, rfl, _, _, _, _⟩ := id i2
        obtain ⟨bq, oq, rfl, hbq, hcq⟩ := hr1 q (by omega)
        have hbn := below_new wr (.cells #[.int .i64 (tranAt n.trans k).label, .slice (some ⟨bq, oq, none⟩) l1 p1, .slice a2 l2 p2] 37)
        have hql : q < l1 := by omega
        have hx3 := box3_new wr (.int .i64 (tranAt n.trans k).label) (.slice (some ⟨bq, oq, none⟩) l1 p1) (.slice a2 l2 p2) 37
        generalize tranAt n.trans k = t at *
        obtain ⟨wt, Hwt⟩ : ∃ wt, Hid (wr.alloc (.cells #[.int .i64 t.label, .slice (some ⟨bq, oq, none⟩) l1 p1, .slice a2 l2 p2] 37) = wt) := ⟨_, rfl⟩
        rw [Hwt.out] at hbn hx3
        have hG1 := hG.trans hbn
        go_upto_region 13 with fail
        rw [Hwt.out]
        clear Hwt h0 h1 h2
        obtain ⟨y0, y1, y2⟩ := hy.below hG1.2.1
        rw [← hbn.cell (p := ⟨bq, oq + q, none⟩) hbq] at hcq
        obtain ⟨z0, z1, z2, z3⟩ := hx3
        obtain ⟨z, Hz⟩ : ∃ z, Hid (nth t.pre q = z) := ⟨_, rfl⟩
        rw [Hz.out] at hcq Ht
        cases hc : decide (0 < z)
        · have R := hG1
          rw [← Hn.out (Ht.out.trans hc)] at R
          go_wp2
          go_roundg (gk - 1)
          case measure => omega
          case rel => exact ⟨k + 1, by omega, by go_num, R⟩
        · go_wp2_with (at_builtin; refine wp_append_stop rfl _ _ rfl W0.heap.size W0 _ _ _ (true, k) hG1 rfl rfl (by omega) ?_; intro v' w3 hG3)
          have R : OwnS W0.heap.size W0 w3 v' (somes true (takesAt n q) (k + 1)) := by rw [Hy.out (Ht.out.trans hc)]; exact hG3
          go_wp2
          go_roundg (gk - 1)
          case measure => omega
          case rel => exact ⟨k + 1, by omega, by go_num, R⟩
      · have hk : k = n.trans.length := by omega
        have R := hG.on.weaken (D' := fun k => w.heap.size ≤ k) fun k _ hk => Nat.le_trans b1.size hk
        have R2 := below_then b1 hG.2.1
        subst hk
        clear hG
        go_wp2
        go_ret
        exact ⟨_, rfl, R, R2⟩
  · -- a transition
    have hq : q < n.trans.length := hs
    obtain ⟨b, off, c1, c2, rfl, hblt, h0, h1, h2, i1, i2⟩ := hT2.at (show q < len by omega)
    have hl := (tran_length hn hq).2
    obtain ⟨a2, l2, p2, rfl, hl2, _, _, _⟩ := id i2
    have Hhq : Hid (l2 ≤ 24) := by have := Hhd.out; show l2 ≤ 24; omega
    go_wp2_with fail
    go_loopg [5, 20] l2 (fun g o i wr => ∃ k : Nat, k + g = l2 ∧ i = .int .i64 k ∧ OwnS W0.heap.size W0 wr o (somes false (putsAt n q) k))
    case atStart => exact ⟨0, by omega, rfl, OwnS.nil _⟩
    case round =>
      obtain ⟨k, hkg, rfl, hG⟩ := hrel
      by_cases hkn : k < l2
      · have hle := somes_le false (putsAt n q) k
        have Hy : Hid _ := somes_yes false (putsAt n q) k
        have Hn : Hid _ := somes_no false (putsAt n q) k
        have Ht : Hid (putsAt n q k = decide (0 < nth (tranAt n.trans q).post k)) := rfl
        have h24 := Hhq.out
        obtain ⟨_, _, _, e, _, _, _, hr2⟩ := i2.below hG.2.1
        injection e with e1 e2 e3
        subst e1 e2 e3
        obtain ⟨bq, oq, rfl, hbq, hcq⟩ := hr2 k (by omega)
        clear hr2
        obtain ⟨z, Hz⟩ : ∃ z, Hid (nth (tranAt n.trans q).post k = z) := ⟨_, rfl⟩
        rw [Hz.out] at hcq Ht
        cases hc : decide (0 < z)
        · have R := hG
          rw [← Hn.out (Ht.out.trans hc)] at R
          go_wp2
          go_roundg (gk - 1)
          case measure => omega
          case rel => exact ⟨k + 1, by omega, by go_num, R⟩
        · go_wp2_with (at_builtin; refine wp_append_stop rfl _ _ rfl W0.heap.size W0 _ _ _ (false, k) hG rfl rfl (by omega) ?_; intro v' w3 hG3)
          have R : OwnS W0.heap.size W0 w3 v' (somes false (putsAt n q) (k + 1)) := by rw [Hy.out (Ht.out.trans hc)]; exact hG3
          go_wp2
          go_roundg (gk - 1)
          case measure => omega
          case rel => exact ⟨k + 1, by omega, by go_num, R⟩
      · have hk : k = (tranAt n.trans q).post.length := by omega
        have R := hG.on.weaken (D' := fun k => w.heap.size ≤ k) fun k _ hk => Nat.le_trans b1.size hk
        have R2 := below_then b1 hG.2.1
        rw [hk] at R
        clear hG
        go_wp2
        go_ret
        exact ⟨_, rfl, R, R2⟩

end Go.Proofs.Ytakgppoeikcepaa
