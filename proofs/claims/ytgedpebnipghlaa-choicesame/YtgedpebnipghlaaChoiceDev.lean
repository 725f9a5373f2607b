/- Package choice as it landed: the parts. (Made by tools/gen_choicedev.py.) -/
import Derived.Test.YtgedpebnipghlaaChoiceDev2
namespace Go.Proofs.Ytgedpebnipghlaa
open Go.RowKit
set_option linter.unusedVariables false
set_option linter.unusedSimpArgs false
set_option maxRecDepth 4000

theorem Box3.keptC {w w' : World} {b : Nat} {x y z : Value} (h : Box3 w b x y z) (hk : w'.heap[b]? = w.heap[b]?) (hs : w.heap.size ≤ w'.heap.size) : Box3 w' b x y z :=
  ⟨Nat.lt_of_lt_of_le h.1 hs, (World.cell?_of_block (a := ⟨b, 0, none⟩) hk).trans h.2.1, (World.cell?_of_block (a := ⟨b, 1, none⟩) hk).trans h.2.2.1, (World.cell?_of_block (a := ⟨b, 2, none⟩) hk).trans h.2.2.2⟩
theorem Box3.onlyC {w w' : World} {b g : Nat} {x y z : Value} (h : Box3 w b x y z) (hk : OnlyB g w w') (hne : g ≠ b) : Box3 w' b x y z := h.keptC (hk.block b h.1 (fun e => hne e.symm)) hk.size
theorem OnlyB.ofBelowC {w w' : World} (g : Nat) (h : Below w.heap.size w w') (hg : g ≤ w.heap.size) : OnlyB g w w' := ⟨h.mono hg, h.size, fun k hk _ => h.block k hk⟩

/-- append of one number: what else stands, and where the row then lies. -/
theorem wp_append_intK {ops : Array Oper} {rest : List Oper} {o : Oper} {a : Act} {Q : Exit → Act → World → Prop} (hgd : o.guard = none) (s x : Operand)
    (ho : o.op = .call { callee := .builtin .append, args := #[s, x], argTypes := #[29, 29] }) (B : Nat) (w wr : World) (v : Value) (zs : List Int) (z : Int) (hG : Own B w wr v zs)
    (hs : a.eval s = v) (hx : a.eval x = .slice (some ⟨wr.heap.size, 0, none⟩) 1 1) (hl : zs.length + 1 ≤ 17592186044416)
    (h : ∀ v' w', Own B w w' v' (zs ++ [z]) → (wr.heap.size ≤ w'.heap.size ∧ ∀ k, k < wr.heap.size → v.ownBlock ≠ some k → w'.heap[k]? = wr.heap[k]?) → (v'.ownBlock = v.ownBlock ∨ v'.ownBlock = some (wr.heap.size + 1)) → wpList Try.prog ops Q rest (a.put o.dst v') w') : wpList Try.prog ops Q (o :: rest) a (wr.alloc (.cells #[.int .i64 z] 3)) := by
  obtain ⟨i0, hi, hz0, hz1, hz2⟩ := info_parts info_int
  have hwt : Region.wanted o (yielded ops a.tmps) = true := by simp [Region.wanted, hgd]
  have hn := below_new wr (.cells #[.int .i64 z] 3)
  obtain ⟨hown, hb, hB⟩ := hG
  refine wpList_step fun K hK => ?_
  refine wp_append_at _ hwt s x 29 ho B 3 i0 (.int .i64 0) 1 8 Try.underlying29 hi hz0 hz1 hz2 rfl (by decide) v zs.length _ hs (hown.alloc _) ⟨wr.heap.size, 0, none⟩ 1 1 [.int .i64 z] hx rfl ?_ ?_ ?_ ?_ ?_ ?_
  · intro j u hj
    match j, hj with
    | 0, hj => simp at hj; subst hj; simp [Addr.add]
  · intro u hu; simp at hu; subst hu; rfl
  · unfold maxLen; omega
  · omega
  · simp; omega
  · intro v' w' hown' hg hat
    refine hK _ _ (h v' w' ⟨by simpa using hown', (hb.alloc hB _).grown hg (by simp; omega) (fun k hk => (hown.lt k hk).1), ?_⟩ ⟨Nat.le_trans hn.size hg.size, fun k hk hne => (hg.block k (Nat.lt_of_lt_of_le hk hn.size) (fun q => hne q.symm)).trans (hn.block k hk)⟩ (by simpa using hat))
    have := hg.size; simp at this; omega

set_option maxHeartbeats 4000000 in
theorem firsts_any (tv : Value) (n : NetL) (w : World) (hT : Trans w tv n.trans) (hn : netOk n = true) :
    Calls Try.prog 29 #[tv] w fun e w' => ∃ r zs, e = .returned r ∧ Own w.heap.size w w' r zs ∧ zs.length = n.trans.length ∧ Fst (LinkB n n.trans.length 0) n.trans.length (nth zs) := by
  have Hn : Hid (netOk n = true) := hn
  obtain ⟨a, len, cap0, rfl, hlen, hmx, hsh, _⟩ := id hT
  have hcap : len ≤ cap0 := hsh.1
  have hcap2 : cap0 ≤ 9223372036854775807 := hsh.2.1
  have Hlen : Hid (n.trans.length = len) := hlen
  have HE : Hid (∀ k, k < len → k < n.trans.length) := fun k hk => by rw [Hlen.out]; exact hk
  have HL : Hid (∀ i j, i < len → j < len → (tranAt n.trans i).pre.length = (tranAt n.trans j).pre.length) := fun i j hi hj => by
    have h1 := (tran_length Hn.out (HE.out i hi)).1
    have h2 := (tran_length Hn.out (HE.out j hj)).1
    omega
  rw [hlen]
  clear hlen hsh hn
  go_enter Try.func29, Try.ntmps29
  go_wp2_with fail
  go_loopg [3, 10] len (fun gk fv b' wr => ∃ (b : Nat) (zs : List Int), b + gk = len ∧ b' = .int .i64 (b : Int) ∧ Own w.heap.size w wr fv zs ∧ Hid (zs.length = b) ∧ Hid (Fst (LinkB n b 0) b (nth zs)))
  case atStart => exact ⟨0, [], by omega, rfl, Own.nil _, rfl, fst_none n _⟩
  case round =>
    obtain ⟨b, zs, hbg, rfl, hO, Hzl, HF⟩ := hrel
    obtain ⟨g1, rfl⟩ : ∃ g1, g1 = gk := ⟨_, rfl⟩
    by_cases hin : b < len
    · obtain ⟨bt, ot, p1, q1, rfl, hlt, h0, h1, h2, iX, jX⟩ := hT.at hin
      obtain ⟨aX, lX, cX, rfl⟩ : ∃ a l c, p1 = .slice a l c := by obtain ⟨a, l, c, e, _⟩ := iX; exact ⟨a, l, c, e⟩
      obtain ⟨aX', lX', cX', rfl⟩ : ∃ a l c, q1 = .slice a l c := by obtain ⟨a, l, c, e, _⟩ := jX; exact ⟨a, l, c, e⟩
      obtain ⟨L, HLb⟩ : ∃ L, Hid ((tranAt n.trans b).label = L) := ⟨_, rfl⟩
      rw [HLb.out] at h0
      replace h0 := (hO.2.1.cell (p := ⟨bt, _, none⟩) hlt).trans h0
      replace h1 := (hO.2.1.cell (p := ⟨bt, _, none⟩) hlt).trans h1
      replace h2 := (hO.2.1.cell (p := ⟨bt, _, none⟩) hlt).trans h2
      have bn1 := below_new wr (.cells #[.int .i64 L, .slice aX lX cX, .slice aX' lX' cX'] 44)
      have hb3 := box3_new wr (.int .i64 L) (.slice aX lX cX) (.slice aX' lX' cX') 44
      obtain ⟨Bt, HBt⟩ : ∃ B, Hid (wr.heap.size = B) := ⟨_, rfl⟩
      rw [HBt.out] at hb3
      have Hv1 : Hid (∀ k, u3.ownBlock = some k → k < Bt) := fun k hk => by rw [← HBt.out]; exact (ownsRow_lt hO.1 hk).2
      obtain ⟨w8, Hw8⟩ : ∃ w8, Hid (wr.alloc (.cells #[.int .i64 L, .slice aX lX cX, .slice aX' lX' cX'] 44) = w8) := ⟨_, rfl⟩
      rw [Hw8.out] at bn1 hb3
      have hO8 := hO.trans bn1
      obtain ⟨fa, fl, fc, rfl⟩ := hO.slice
      have HF2 : Hid (Fst (LinkB n b 0) (b + 1) (nth (zs ++ [(b : Int)]))) := HF.out.grow (fun i hi => by unfold nth; rw [List.getD_eq_getElem?_getD, List.getD_eq_getElem?_getD, List.getElem?_append_left (by rw [Hzl.out]; exact hi)]) (by unfold nth; rw [List.getD_eq_getElem?_getD, List.getElem?_append_right (by rw [Hzl.out]; exact Nat.le_refl _)]; simp [Hzl.out])
      have hzl2 : zs.length + 1 ≤ 17592186044416 := by rw [Hzl.out]; omega
      go_upto_region 5 with fail
      rw [Hw8.out, HBt.out]
      clear Hw8 h0 h1 h2 jX bn1 hO HF
      go_upto_region 6 with (at_builtin; refine wp_append_intK rfl _ _ rfl w.heap.size w w8 _ zs (b : Int) hO8 rfl rfl hzl2 ?_; intro v1 w9 hO9 hkp hat)
      have hb4 : Box3 w9 Bt (.int .i64 L) (.slice aX lX cX) (.slice aX' lX' cX') := hb3.keptC (hkp.2 Bt hb3.1 (fun q => by have := Hv1.out Bt q; omega)) hkp.1
      have hgB : v1.ownBlock ≠ some Bt := by
        rcases hat with e | e
        · rw [e]; intro q; have := Hv1.out Bt q; omega
        · rw [e]; intro q; injection q with q; have := hb3.1; omega
      have hzl3 : (zs ++ [(b : Int)]).length = b + 1 := by rw [List.length_append, Hzl.out]; rfl
      obtain ⟨g, cap, hv1, hv2, hc1, hc2⟩ := hO9.placed (by omega)
      rw [hzl3] at hv1 hc1
      subst hv1
      have hgBt : g ≠ Bt := fun q => hgB (by rw [hv2, q])
      have Hzl9 : Hid ((zs ++ [(b : Int)]).length = b + 1) := hzl3
      have hmxb : b + 1 ≤ 17592186044416 := by omega
      clear hb3 hO8 hkp hat hgB hv2 hzl3 Hzl hzl2 Hv1 HBt
      go_wp2_with fail
      go_loopg [23] b (fun gk j' wr => ∃ (j : Nat) (zs : List Int), j + gk = b ∧ j' = .int .i64 (j : Int) ∧ Own w.heap.size w wr (.slice (some ⟨g, 0, none⟩) (b + 1) cap) zs ∧ Hid (zs.length = b + 1) ∧ Hid (Fst (LinkB n b j) (b + 1) (nth zs)) ∧ Box3 wr Bt (.int .i64 L) (.slice aX lX cX) (.slice aX' lX' cX'))
      case atStart => exact ⟨0, _, by omega, rfl, hO9, Hzl9, HF2, hb4⟩
      case round =>
        clear hO9 Hzl9 HF2 hb4
        obtain ⟨j, zs, hjg, rfl, hO, Hzl, HF, hb4⟩ := hrel
        by_cases hjn : j < b
        · have hjl : j < len := by omega
          obtain ⟨bt', ot', p2, q2, e, _, g0, g1', g2, iY, jY⟩ := hT.at hjl
          injection e with e
          injection e with e1 e2
          subst e1 e2
          obtain ⟨aY, lY, cY, rfl⟩ : ∃ a l c, p2 = .slice a l c := by obtain ⟨a, l, c, e, _⟩ := iY; exact ⟨a, l, c, e⟩
          obtain ⟨aY', lY', cY', rfl⟩ : ∃ a l c, q2 = .slice a l c := by obtain ⟨a, l, c, e, _⟩ := jY; exact ⟨a, l, c, e⟩
          obtain ⟨L2, HL2⟩ : ∃ L, Hid ((tranAt n.trans j).label = L) := ⟨_, rfl⟩
          rw [HL2.out] at g0
          replace g0 := (hO.2.1.cell (p := ⟨bt, _, none⟩) hlt).trans g0
          replace g1' := (hO.2.1.cell (p := ⟨bt, _, none⟩) hlt).trans g1'
          replace g2 := (hO.2.1.cell (p := ⟨bt, _, none⟩) hlt).trans g2
          have HSk : Hid (¬ Shares n j b → Fst (LinkB n b (j + 1)) (b + 1) (nth zs)) := fst_skip HF.out
          have HJ : Hid (Shares n j b → Fst (LinkB n b (j + 1)) (b + 1) (nth (joinTo zs (nth zs j) (nth zs b) (b + 1)))) := fun hs => fst_join HF.out hs hjn (Nat.lt_succ_self b) fun i hi => by rw [nth_joinTo _ _ _ _ _ (by rw [Hzl.out]; exact hi), if_pos hi]
          have HC : Hid (Common (tranAt n.trans j).pre (tranAt n.trans b).pre ↔ Shares n j b) := common_shares Hn.out (HE.out j hjl) (HE.out b hin)
          have Hll : Hid ((tranAt n.trans b).pre.length = (tranAt n.trans j).pre.length) := HL.out b j hin hjl
          have bn2 := below_new wr (.cells #[.int .i64 L2, .slice aY lY cY, .slice aY' lY' cY'] 44)
          have hb5 := box3_new wr (.int .i64 L2) (.slice aY lY cY) (.slice aY' lY' cY') 44
          obtain ⟨By, HBy⟩ : ∃ B, Hid (wr.heap.size = B) := ⟨_, rfl⟩
          rw [HBy.out] at hb5
          obtain ⟨w9, Hw9⟩ : ∃ w9, Hid (wr.alloc (.cells #[.int .i64 L2, .slice aY lY cY, .slice aY' lY' cY'] 44) = w9) := ⟨_, rfl⟩
          rw [Hw9.out] at bn2 hb5
          replace hb4 := hb4.below bn2
          replace hO := hO.trans bn2
          have iX9 := iX.below hO.2.1
          have iY9 := iY.below hO.2.1
          go_upto_region 9 with fail
          rw [Hw9.out, HBy.out]
          clear Hw9 HBy g0 g1' g2 iY jY bn2 HF
          obtain ⟨x0, x1, x2, x3⟩ := id hb4
          obtain ⟨y0, y1, y2, y3⟩ := id hb5
          go_wp2_with fail
          refine (share_any _ _ _ _ _ _ _ _ w9 iY9 iX9 Hll.out).mono ?_
          rintro e w10 ⟨bs, rfl, hbs, b10⟩
          clear x0 x1 x2 x3 y0 y1 y2 y3 iX9 iY9
          replace hb4 := hb4.below b10
          replace hO := hO.trans b10
          clear hb5 b10
          rw [HC.out] at hbs
          cases bs
          · have R : Hid _ := HSk.out (fun h => by have := hbs.2 h; cases this)
            clear HSk HJ HC hbs
            go_wp2
            go_roundg (gk - 1)
            case measure => omega
            case rel => exact ⟨j + 1, zs, by omega, by go_num, hO, Hzl, R, hb4⟩
          · have R0 : Hid _ := HJ.out (hbs.1 rfl)
            clear hbs HC HSk HJ
            obtain ⟨x1, x2, x3⟩ := hO.cellC Hzl.out (show j < b + 1 by omega)
            obtain ⟨y1, y2, y3⟩ := hO.cellC Hzl.out (show b < b + 1 by omega)
            obtain ⟨x, Hx⟩ : ∃ x, Hid (nth zs j = x) := ⟨_, rfl⟩
            obtain ⟨y, Hy⟩ : ∃ y, Hid (nth zs b = y) := ⟨_, rfl⟩
            rw [Hx.out] at x1 R0
            rw [Hy.out] at y1 R0
            have hd : Below w10.heap.size w10 w10.drew := (Below.refl _ _).drew
            have hOd := hO.trans hd
            have hb5 := hb4
            have hB12d : OnlyB g w10 w10.drew := OnlyB.ofBelowC g hd (Nat.le_of_lt x3)
            have HSk : Hid (True) := trivial
            have HJo : Hid (∀ w', Own w.heap.size w w' (.slice (some ⟨g, 0, none⟩) (b + 1) cap) (joinTo zs x y (b + 1)) → Fst (LinkB n b (j + 1)) (b + 1) (nth (joinTo zs x y (b + 1)))) := fun _ _ => R0.out
            have hxd : w10.drew.cell? ⟨g, j, none⟩ = some (.int .i64 x) := (hd.cell (p := ⟨g, j, none⟩) x3).trans x1
            have hyd : w10.drew.cell? ⟨g, b, none⟩ = some (.int .i64 y) := (hd.cell (p := ⟨g, b, none⟩) x3).trans y1
            have x0 : True := trivial
            have y0 : True := trivial
            clear hO hb4 R0
            go_upto_region 10 with fail
            refine wp_region_held_drew (S := fun _ => True) (by kernel_rfl) trivial (fun hH => ?_)
            refine wpAnyH_take (i := 0) (v := .slice (some ⟨g, 0, none⟩) (b + 1) cap) rfl (by kernel_rfl) (by kernel_rfl) (by kernel_rfl) (fun _ _ _ h => h) (.inl ⟨by rfl, fun _ _ => rfl⟩) hH ?_
            simp only [List.getElem_toArray, List.getElem_cons_succ, List.getElem_cons_zero, Act.put, List.setIfInBounds_toArray, List.set_cons_zero, List.set_cons_succ]
            refine wpAnyH_take (i := 1) (v := .slice (some ⟨g, 0, none⟩) (b + 1) cap) rfl (by kernel_rfl) (by kernel_rfl) (by kernel_rfl) (fun _ _ _ h => h) (.inl ⟨by rfl, fun _ _ => rfl⟩) hH ?_
            simp only [List.getElem_toArray, List.getElem_cons_succ, List.getElem_cons_zero, Act.put, List.setIfInBounds_toArray, List.set_cons_zero, List.set_cons_succ]
            refine wpAnyH_take (i := 2) (v := .int .i64 (j : Int)) rfl (by kernel_rfl) (by kernel_rfl) (by kernel_rfl) (fun _ _ _ h => h) (.inl ⟨by rfl, fun _ _ => rfl⟩) hH ?_
            simp only [List.getElem_toArray, List.getElem_cons_succ, List.getElem_cons_zero, Act.put, List.setIfInBounds_toArray, List.set_cons_zero, List.set_cons_succ]
            refine wpAnyH_take (i := 3) (v := .pointer (some ⟨g, j, none⟩)) rfl (by kernel_rfl) (by kernel_rfl) (by kernel_rfl) (fun _ _ _ h => h) (.inl ⟨by rfl, fun w' hS' => by first | (go_simp; done) | (go_simp; rfl) | (go_simp; intro h; omega) | (go_simp; omega)⟩) hH ?_
            simp only [List.getElem_toArray, List.getElem_cons_succ, List.getElem_cons_zero, Act.put, List.setIfInBounds_toArray, List.set_cons_zero, List.set_cons_succ]
            refine wpAnyH_take (i := 5) (v := .slice (some ⟨g, 0, none⟩) (b + 1) cap) rfl (by kernel_rfl) (by kernel_rfl) (by kernel_rfl) (fun _ _ _ h => h) (.inl ⟨by rfl, fun _ _ => rfl⟩) hH ?_
            simp only [List.getElem_toArray, List.getElem_cons_succ, List.getElem_cons_zero, Act.put, List.setIfInBounds_toArray, List.set_cons_zero, List.set_cons_succ]
            refine wpAnyH_take (i := 6) (v := .int .i64 (b : Int)) rfl (by kernel_rfl) (by kernel_rfl) (by kernel_rfl) (fun _ _ _ h => h) (.inl ⟨by rfl, fun _ _ => rfl⟩) hH ?_
            simp only [List.getElem_toArray, List.getElem_cons_succ, List.getElem_cons_zero, Act.put, List.setIfInBounds_toArray, List.set_cons_zero, List.set_cons_succ]
            refine wpAnyH_take (i := 7) (v := .pointer (some ⟨g, b, none⟩)) rfl (by kernel_rfl) (by kernel_rfl) (by kernel_rfl) (fun _ _ _ h => h) (.inl ⟨by rfl, fun w' hS' => by first | (go_simp; done) | (go_simp; rfl) | (go_simp; intro h; omega) | (go_simp; omega)⟩) hH ?_
            simp only [List.getElem_toArray, List.getElem_cons_succ, List.getElem_cons_zero, Act.put, List.setIfInBounds_toArray, List.set_cons_zero, List.set_cons_succ]
            refine wpAnyH_ready (rs := [4, 8]) (by kernel_rfl) (by simp) ?_
            refine (AllReadyH.cons rfl (fun K hK => ?_) (AllReadyH.cons rfl (fun K hK => ?_) AllReadyH.nil))
            · simp only [List.getElem_toArray, List.getElem_cons_succ, List.getElem_cons_zero]
              rw [if_pos (by rfl)]
              go_wp2_with fail
              refine hK.out _ _ trivial (fun hH => ?_)
              refine wpAnyH_ready (rs := [8]) (by kernel_rfl) (by simp) ?_
              refine AllReadyH.cons rfl (fun K hK => ?_) AllReadyH.nil
              simp only [List.getElem_toArray, List.getElem_cons_succ, List.getElem_cons_zero]
              rw [if_pos (by rfl)]
              go_wp2_with fail
              refine hK.out _ _ trivial (fun hH => ?_)
              refine wpAnyH_ready (rs := [9]) (by kernel_rfl) (by simp) ?_
              refine AllReadyH.cons rfl (fun K hK => ?_) AllReadyH.nil
              simp only [List.getElem_toArray, List.getElem_cons_succ, List.getElem_cons_zero]
              rw [if_pos (by rfl)]
              go_wp2_with fail
              refine (join_any w.heap.size w _ g (b + 1) cap zs x y (by exact hOd) Hzl.out hc1 hc2 hmxb).mono ?_
              rintro e w12 ⟨rfl, hO12, hB12⟩
              refine hK.out _ _ trivial (fun hH => ?_)
              refine wpAnyH_done (by kernel_rfl) ?_ _
              have R : Hid _ := HJo.out _ hO12
              have hb7 := hb5.onlyC (hB12d.trans hB12) hgBt
              clear hH hK hOd HSk HJo hB12 hB12d x0 x1 x2 x3 y0 y1 y2 y3
              go_wp2
              go_roundg (gk - 1)
              case measure => omega
              case rel => exact ⟨j + 1, _, by omega, by go_num, hO12, by rw [joinTo_length]; exact Hzl.out, R, hb7⟩
            · simp only [List.getElem_toArray, List.getElem_cons_succ, List.getElem_cons_zero]
              rw [if_pos (by rfl)]
              go_wp2_with fail
              refine hK.out _ _ trivial (fun hH => ?_)
              refine wpAnyH_ready (rs := [4]) (by kernel_rfl) (by simp) ?_
              refine AllReadyH.cons rfl (fun K hK => ?_) AllReadyH.nil
              simp only [List.getElem_toArray, List.getElem_cons_succ, List.getElem_cons_zero]
              rw [if_pos (by rfl)]
              go_wp2_with fail
              refine hK.out _ _ trivial (fun hH => ?_)
              refine wpAnyH_ready (rs := [9]) (by kernel_rfl) (by simp) ?_
              refine AllReadyH.cons rfl (fun K hK => ?_) AllReadyH.nil
              simp only [List.getElem_toArray, List.getElem_cons_succ, List.getElem_cons_zero]
              rw [if_pos (by rfl)]
              go_wp2_with fail
              refine (join_any w.heap.size w _ g (b + 1) cap zs x y (by exact hOd) Hzl.out hc1 hc2 hmxb).mono ?_
              rintro e w12 ⟨rfl, hO12, hB12⟩
              refine hK.out _ _ trivial (fun hH => ?_)
              refine wpAnyH_done (by kernel_rfl) ?_ _
              have R : Hid _ := HJo.out _ hO12
              have hb7 := hb5.onlyC (hB12d.trans hB12) hgBt
              clear hH hK hOd HSk HJo hB12 hB12d x0 x1 x2 x3 y0 y1 y2 y3
              go_wp2
              go_roundg (gk - 1)
              case measure => omega
              case rel => exact ⟨j + 1, _, by omega, by go_num, hO12, by rw [joinTo_length]; exact Hzl.out, R, hb7⟩
        · obtain rfl : j = b := by omega
          have R : Hid _ := fst_row HF.out
          clear HF
          go_wp2
          go_roundg (g1 - 1)
          case measure => omega
          case rel => exact ⟨j + 1, zs, by omega, by go_num, hO, Hzl, R⟩
    · obtain rfl : b = len := by omega
      go_wp2
      go_ret
      exact ⟨_, zs, rfl, hO, Hzl.out, HF.out⟩

theorem withHead_self {n : NetL} {h : Nat → Int} (H : HeadMid n n.trans.length 0 0 h) {a : Nat} (ha : a < n.trans.length) : withHead h a n.trans.length ≠ [] ↔ h a = a := by
  constructor
  · intro hne
    obtain ⟨t, r, e⟩ := List.exists_cons_of_ne_nil hne
    obtain ⟨i, rfl, hi, hb⟩ := (withHead_mem h a _ t).1 (by rw [e]; simp)
    have hl := H.ok.low i hi
    have h1 := (head_same H (show (h i).toNat < n.trans.length by omega) hi).2 (H.ok.led i hi).symm
    rw [hb] at h1
    simpa using h1
  · intro e q
    have : (a : Int) ∈ withHead h a n.trans.length := (withHead_mem h a _ a).2 ⟨a, rfl, ha, e⟩
    rw [q] at this; cases this

set_option maxHeartbeats 4000000 in
theorem choice_clusters (v : Value) (n : NetL) (w : World) (hv : Net w v n) :
    Calls Try.prog 11 #[v] w fun e w' => ∃ r ls, e = .returned r ∧ PartsOk n ls ∧ Lists w' r ls ∧ Below w.heap.size w w' := by
  obtain ⟨tv, rfl, hT⟩ := hv
  have c := below_new w (.cells #[.int .i64 n.places, tv] 24)
  have hbx := box2_new w (.int .i64 n.places) tv 24
  have hv : Net _ (.agg #[.int .i64 n.places, tv]) n := ⟨_, rfl, hT.below c⟩
  clear hT
  go_enter Try.func11, Try.ntmps11
  go_wp2_with fail
  refine (net_wrong _ n _ (by exact hv)).mono ?_
  rintro e w1 ⟨rfl, b1⟩
  replace c := below_then c b1
  replace hbx := hbx.below b1
  replace hv := hv.below b1
  clear b1
  cases hn : netOk n
  · rw [wrongL_not hn]
    have R : Hid (PartsOk n []) := parts_bad hn
    clear hn
    go_wp2
    go_ret
    exact ⟨_, [], rfl, R.out, ⟨none, 0, 0, rfl, rfl, by omega, ⟨by omega, by omega, fun _ => rfl⟩, fun j hj => absurd hj (by simp)⟩, c⟩
  · rw [wrongL_ok hn]
    have Hn : Hid (netOk n = true) := hn
    obtain ⟨tv', e, hT⟩ := id hv
    obtain rfl : tv = tv' := by injection e with e; simp at e; exact e
    clear e hn
    have h24 : n.trans.length ≤ 24 := by
      have hn := Hn.out
      unfold netOk headOk at hn
      simp only [Bool.and_eq_true, decide_eq_true_eq] at hn
      omega
    obtain ⟨x0, x1, x2⟩ := id hbx
    obtain ⟨a0, len, cap0, rfl, hlen, _⟩ := id hT
    go_wp2_with fail
    refine (firsts_any _ n w1 (by exact hT) Hn.out).mono ?_
    rintro e w2 ⟨r, zs, rfl, hO, hzl, hF⟩
    have HM : Hid (HeadMid n n.trans.length 0 0 (nth zs)) := fst_head hF
    have HP : Hid (PartsOk n (heads (nth zs) n.trans.length n.trans.length)) := heads_parts Hn.out HM.out
    have HW : Hid (∀ k, k < n.trans.length → (withHead (nth zs) (k : Int) n.trans.length ≠ [] ↔ nth zs k = k)) := fun k hk => withHead_self HM.out hk
    have hI := hO.ints (by omega)
    have b2 := hO.2.1
    rw [hlen] at hzl HP HW h24
    replace c := below_then c b2
    have Hzl : Hid (zs.length = len) := hzl
    clear hF HM hO b2 hT hv hbx x0 x1 x2 hlen
    obtain ⟨fa, fl, fc, rfl, hfl, _, _, _⟩ := id hI
    obtain rfl : fl = len := by omega
    clear hfl hzl
    have L0 : LsOut w2.heap.size w2 w2 (.slice none 0 0) [] := LsOut.start _ (Below.refl _ _) (Nat.le_refl _)
    go_wp2_with fail
    go_loopg [4, 15] fl (fun gk o a' wr => ∃ (a : Nat) (cs : List (Value × List Int)), a + gk = fl ∧ a' = .int .i64 (a : Int) ∧ LsOut w2.heap.size w2 wr o cs ∧ Hid (cs.map (·.2) = heads (nth zs) fl a))
    case atStart => exact ⟨0, [], by omega, rfl, L0, rfl⟩
    case round =>
      clear L0
      obtain ⟨a, cs, hag, rfl, hL, HC⟩ := hrel
      obtain ⟨oa, ol, oc, rfl⟩ := hL.slice
      have Hcl : Hid (cs.length ≤ a) := by
        have h1 := heads_le (nth zs) fl a
        have h2 := congrArg List.length HC.out
        rw [List.length_map] at h2
        show _ ≤ _
        omega
      by_cases han : a < fl
      · have hIw := hI.below hL.below
        obtain ⟨b, off, rfl, _, cm⟩ := ints_atL hIw han
        have HNo : Hid (withHead (nth zs) a fl = [] → heads (nth zs) fl (a + 1) = heads (nth zs) fl a) := fun q => heads_none q
        have HYe : Hid (withHead (nth zs) a fl ≠ [] → heads (nth zs) fl (a + 1) = heads (nth zs) fl a ++ [withHead (nth zs) a fl]) := fun q => heads_some q
        have HWa := HW.out a han
        have HWa : Hid _ := HWa
        obtain ⟨x, Hx⟩ : ∃ x, Hid (nth zs a = x) := ⟨_, rfl⟩
        rw [Hx.out] at cm HWa
        clear Hx
        by_cases hx : (a : Int) = x
        · subst hx
          have R : Hid _ := HYe.out (HWa.out.2 rfl)
          clear HNo HYe HWa
          go_wp2_with (first | (go_at_call 30; refine (part_any _ zs _ wr (by exact hIw)).mono ?_; rintro e w5 ⟨r5, rfl, hO5⟩; rw [Hzl.out] at hO5; obtain ⟨a5, l5, c5, rfl⟩ := hO5.slice; have hl5 := withHead_le (nth zs) (a : Int) fl; have hcl := Hcl.out; have hL2 := hL.to hO5.2.1; have hon := (hO5.on (by omega)).weaken (D' := fun k => w2.heap.size ≤ k ∧ some k ≠ (Value.slice oa ol oc).ownBlock) (fun k _ hk => ⟨Nat.le_trans hL.size hk, fun q => (by have := (ownsRow_lt hL.own q.symm).2; omega)⟩)) | (at_builtin; refine wp_append_ls rfl _ _ rfl w2.heap.size w2 _ _ cs _ _ _ _ hL2 hon rfl rfl (by omega) ?_; intro v' w6 hO6 hB6))
          go_roundg (gk - 1)
          case measure => omega
          case rel => exact ⟨a + 1, _, by omega, by go_num, hO6, (by rw [R.out, List.map_append, HC.out]; rfl)⟩
        · have R : Hid _ := HNo.out (Classical.byContradiction fun q => hx (HWa.out.1 q).symm)
          have e1 : ((a : Int) == x) = false := by rw [beq_eq_false_iff_ne]; exact hx
          clear HNo HYe HWa hx
          go_wp2
          go_roundg (gk - 1)
          case measure => omega
          case rel => exact ⟨a + 1, cs, by omega, by go_num, hL, HC.out.trans R.out.symm⟩
      · obtain rfl : a = fl := by omega
        have hLs := hL.lists (by have := Hcl.out; omega)
        rw [HC.out] at hLs
        have B2 := below_then c hL.below
        clear hL
        go_wp2
        go_ret
        exact ⟨_, _, rfl, HP.out, hLs, B2⟩

end Go.Proofs.Ytgedpebnipghlaa
