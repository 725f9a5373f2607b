/- The document's own cases: the net with a place for each work. (Made by tools/gen_pbusy.py.) -/
import Derived.Test.YtffaamljogbmlaaGr21
import Derived.Test.YtffaamljogbmlaaCaseRef1
import Derived.Test.YtffaamljogbmlaaGr04
import Derived.Test.YtffaamljogbmlaaGr01
import Derived.Lib.MinMax
namespace Go.Proofs.Ytffaamljogbmlaa
open Go.RowKit
set_option linter.unusedVariables false
set_option linter.unusedSimpArgs false
set_option maxRecDepth 4000

theorem tran_label0 {p : Int} {t : TranL} (h : tranOk p t = true) : 0 ≤ t.label := by
  simp only [tranOk, tranHead, Bool.and_eq_true, decide_eq_true_eq] at h
  omega
theorem zeros_ints (w : World) (S : Nat) (hS : S ≤ 1000) : Ints (w.alloc (.cells (List.replicate S (Value.int .i64 0)).toArray 3)) (.slice (some ⟨w.heap.size, 0, none⟩) S S) (zerosL S) := by
  refine ⟨_, _, _, rfl, zeros_length S, by omega, ⟨Nat.le_refl _, by omega, fun q => by cases q⟩, fun j hj => ⟨w.heap.size, 0, rfl, by simp, ?_⟩⟩
  rw [zeros_length] at hj
  rw [Nat.zero_add, World.cell?_alloc_at _ _ _ _ rfl, zeros_at]
  simp [hj]
theorem cellsAtZ_new (w : World) (S : Nat) : (w.alloc (.cells (List.replicate S (Value.int .i64 0)).toArray 3)).heap[w.heap.size]? = some (.cells (List.replicate S (Value.int .i64 0)).toArray 3 (0, 0)) := heap_alloc_new w _
theorem zeroAt_cell {w : World} {b S k : Nat} (h : w.heap[b]? = some (.cells (List.replicate S (Value.int .i64 0)).toArray 3 (0, 0))) (hk : k < S) : w.cell? ⟨b, k, none⟩ = some (.int .i64 0) := by
  simp [World.cell?, h, hk]
theorem zeroAt_frozen {w : World} {b S : Nat} (h : w.heap[b]? = some (.cells (List.replicate S (Value.int .i64 0)).toArray 3 (0, 0))) (k : Nat) : w.frozen? ⟨b, k, none⟩ = false := by
  simp [World.frozen?, h]
theorem one_ints {w : World} {b S k : Nat} (h : w.heap[b]? = some (.cells (List.replicate S (Value.int .i64 0)).toArray 3 (0, 0))) (hk : k < S) (hS : S ≤ 1000) : Ints (w.setCell ⟨b, k, none⟩ (.int .i64 1)) (.slice (some ⟨b, 0, none⟩) S S) (oneAt S k) := by
  have hlt := (Array.getElem?_eq_some_iff.1 h).1
  refine ⟨_, _, _, rfl, one_length S k, by omega, ⟨Nat.le_refl _, by omega, fun q => by cases q⟩, fun j hj => ⟨b, 0, rfl, by simpa [World.setCell] using hlt, ?_⟩⟩
  rw [one_length] at hj
  rw [Nat.zero_add, one_at hj]
  by_cases e : j = k
  · subst e
    rw [if_pos rfl]
    exact World.cell?_setCell_same _ _ _ (zeroAt_cell h hj)
  · rw [if_neg e, World.cell?_setCell_other _ _ _ _ (by intro q; injection q with _ q; omega)]
    exact zeroAt_cell h hj
theorem ints_cells1 {w : World} {v : Value} {xs : List Int} (h : Ints w v xs) : CellsV w v 1 17592186044416 xs.length (xs.map (Value.int .i64)) := by
  obtain ⟨a, len, cap, rfl, hl, hm, hs, hr⟩ := h
  subst hl
  refine ⟨a, cap, rfl, by simp, hm, hs, fun u hu => by obtain ⟨y, _, rfl⟩ := List.mem_map.1 hu; rfl, fun j u hj => ?_⟩
  have hjl : j < xs.length := by
    rcases Nat.lt_or_ge j xs.length with q | q
    · exact q
    · rw [List.getElem?_eq_none (by simpa using q)] at hj; cases hj
  obtain ⟨b, off, ha, hlt, hc⟩ := hr j hjl
  refine ⟨b, off, ha, hlt, ?_⟩
  rw [List.getElem?_map, List.getElem?_eq_getElem hjl] at hj
  rw [hc, ← hj]
  simp [nth, List.getD_eq_getElem?_getD, List.getElem?_eq_getElem hjl]
theorem elem_int1 : ElemT 25 3 1 8 := ElemT.of Try.underlying25 info_int rfl (by decide)
theorem int_lit (w : World) (B : Nat) (hB : B ≤ w.heap.size) : (w.alloc (.cells #[] 3)).ownsRow B 3 1 (.slice (some ⟨w.heap.size, 0, none⟩) 0 0) 0 ([].map (Value.int .i64)) :=
  ⟨rfl, .inr ⟨w.heap.size, 0, #[], rfl, hB, heap_alloc_new w _, Nat.le_refl _, by unfold maxLen; omega, rfl, rfl⟩⟩
theorem row_on {B : Nat} {w w2 : World} {e : TypeId} {size : Nat} {v : Value} {n : Nat} {xs : List Value} (h : w.ownsRow B e size v n xs) (hb : Below w.heap.size w w2) : w2.ownsRow B e size v n xs :=
  ownsRow_on h w2 hb.size fun k hk _ => hb.block k hk
theorem row_keep {B : Nat} {w w2 : World} {e : TypeId} {size : Nat} {v u : Value} {n : Nat} {xs : List Value} (h : w.ownsRow B e size v n xs) (hs : w.heap.size ≤ w2.heap.size) (hk : ∀ k, k < w.heap.size → u.ownBlock ≠ some k → w2.heap[k]? = w.heap[k]?) (hne : ∀ q, v.ownBlock = some q → u.ownBlock ≠ some q) : w2.ownsRow B e size v n xs :=
  ownsRow_on h w2 hs fun k hk1 hD => hk k hk1 (hne k hD.1)
/-- append of some numbers onto a row that the call itself has made, in a region that draws its order. -/
theorem wpr_append_ro {o : Oper} {a : Act} {K : Act → World → Prop} {Q : Exit → Act → World → Prop} {Y : Nat → Option Bool} (hwt : Region.wanted o Y = true) (s x : Operand)
    (ho : o.op = .call { callee := .builtin .append, args := #[s, x], argTypes := #[25, 25] }) (B : Nat) (wr : World) (v u : Value) (xs ys : List Int) (hown : wr.ownsRow B 3 1 v xs.length (xs.map (Value.int .i64)))
    (hs : a.eval s = v) (hx : a.eval x = u) (hu : Ints wr u ys) (hB : B ≤ wr.heap.size) (hl : xs.length + ys.length ≤ 1000)
    (h : ∀ v' w', w'.ownsRow B 3 1 v' (xs ++ ys).length ((xs ++ ys).map (Value.int .i64)) → wr.heap.size ≤ w'.heap.size → (∀ k, k < wr.heap.size → v.ownBlock ≠ some k → w'.heap[k]? = wr.heap[k]?) → (∀ B0 w0, B0 ≤ B → Below B0 w0 wr → Below B0 w0 w') → (v'.ownBlock = v.ownBlock ∨ v'.ownBlock = some wr.heap.size) → K (a.put o.dst v') w') :
    if Region.wanted o Y = true then Oper.wp Try.prog o a wr K Q else K (a.put o.dst undef) wr := by
  obtain ⟨i0, hi, hz0, hz1, hz2⟩ := info_parts info_int
  obtain ⟨ad, m, c, rfl, hlen, hmx, hsh, hr⟩ := hu
  subst hlen
  cases ad with
  | none =>
    have hc0 : c = 0 := hsh.2.2 rfl
    have hl0 : ys.length = 0 := by have := hsh.1; omega
    obtain rfl : ys = [] := List.length_eq_zero_iff.1 hl0
    subst hc0
    rw [if_pos hwt]
    have hrun := run_append_owned_none (P := Try.prog) (w := wr) B 25 o.type 3 i0 1 Try.underlying25 hi v xs.length _ hown
    unfold Oper.wp
    simp [execOp, ho, resolve, invoke, builtin, hs, hx, hrun, Result.andThen]
    exact h v wr (by simpa using hown) (Nat.le_refl _) (fun _ _ _ => rfl) (fun _ _ _ hb => hb) (.inl rfl)
  | some ad =>
    refine wp_append_at _ hwt s x 25 ho B 3 i0 (.int .i64 0) 1 8 Try.underlying25 hi hz0 hz1 hz2 rfl (by decide) v xs.length _ hs hown ad ys.length c (ys.map (Value.int .i64)) hx (by simp) ?_ ?_ ?_ ?_ hB ?_
    · intro j q hj
      have hjl : j < ys.length := by
        rcases Nat.lt_or_ge j ys.length with r | r
        · exact r
        · rw [List.getElem?_eq_none (by simpa using r)] at hj; cases hj
      obtain ⟨b, off, ha, hlt, hc⟩ := hr j hjl
      injection ha with ha
      subst ha
      rw [addr_add, hc]
      rw [List.getElem?_map, List.getElem?_eq_getElem hjl] at hj
      rw [← hj]
      simp [nth, List.getD_eq_getElem?_getD, List.getElem?_eq_getElem hjl]
    · intro q hq
      obtain ⟨y, _, rfl⟩ := List.mem_map.1 hq
      rfl
    · unfold maxLen; omega
    · omega
    · intro v' w' h2 hg hat
      refine h v' w' ?_ hg.size (fun k hk hne => hg.block k hk (fun q => hne q.symm)) (fun B0 w0 hB0 hb => hb.grown hg (by omega) (fun k hk => by have := (hown.lt k hk).1; omega)) hat
      rw [List.length_append, List.map_append]
      exact h2

set_option maxHeartbeats 16000000 in
theorem pbusy_any (v : Value) (n : NetL) (w : World) (hv : Net w v n) (hsm : SmallNet n) : Calls Try.prog 13 #[v] w fun e w' => GivesN w (busyN n) e w' := by
  obtain ⟨tv0, rfl, hT⟩ := hv
  obtain ⟨ta, len, tc, rfl, hlen, hmx, hsh, _⟩ := id hT
  obtain ⟨w0, Hw0, hbn, hR, c0⟩ := boxesNN w (.int .i64 n.places) (.slice ta len tc)
  have hv : Net w0 (.agg #[.int .i64 n.places, .slice ta len tc]) n := ⟨_, rfl, hT.below c0⟩
  have HL : Hid (n.trans.length = len) := hlen
  clear hlen
  obtain ⟨x0, x1, x2⟩ := id hbn
  go_enter Try.func13, Try.ntmps13
  go_upto_region 1 with fail
  rw [Hw0.out]
  clear Hw0
  go_wp2_with fail
  refine (bwrong_any _ n w0 (by exact hv) hsm).mono ?_
  rintro e w1 ⟨rfl, b⟩
  replace c0 := below_then c0 b
  replace hbn := hbn.below b
  replace hR := hR.below b
  clear b x0 x1 x2 hv
  obtain ⟨x0, x1, x2⟩ := id hbn
  obtain ⟨q1, q2, q3, q4, q5⟩ := hR.facts
  cases hn : netOk n
  · have E : Hid (busyN n = (⟨0, []⟩, 2)) := busy_bad hn
    rw [wrongL_not hn]
    clear hn
    obtain ⟨W2, HW2⟩ : ∃ W2, Hid ((w1.setCell ⟨w.heap.size + 1, 0, none⟩ (.int .i64 0)).setCell ⟨w.heap.size + 1, 1, none⟩ (.slice none 0 0) = W2) := ⟨_, rfl⟩
    obtain ⟨z1, z2, z3⟩ := hR.fill c0 (by omega) HW2.out
    go_wp2
    rw [HW2.out]
    exact bodyPost_ret (v := .tuple #[.agg #[.int .i64 0, .slice none 0 0], .int .i64 2]) (results_netC rfl rfl rfl z1 z2) rfl ⟨_, by rw [E.out], by rw [E.out]; exact net_empty _, z3⟩
  · rw [wrongL_ok hn]
    have hp : 0 ≤ n.places ∧ n.places ≤ 16 ∧ len ≤ 24 := by
      have hn' := hn
      unfold netOk headOk at hn'
      simp only [Bool.and_eq_true, decide_eq_true_eq] at hn'
      rw [HL.out] at hn'
      omega
    have Hlab : Hid (∀ k, k < len → 0 ≤ (tranAt n.trans k).label) := fun k hk => by
      have := tran_label0 (net_tran hn (show k < n.trans.length by rw [HL.out]; exact hk))
      exact this
    obtain ⟨P, HP⟩ : ∃ P : Nat, n.places = (P : Int) := ⟨n.places.toNat, by omega⟩
    have Hn : Hid (netOk n = true) := hn
    rw [HP] at hp
    have HP' : Hid (n.places = (P : Int)) := HP
    rw [HP] at x1 hbn ⊢
    clear hn HP
    have Hlen : Hid (∀ k, k < len → (tranAt n.trans k).pre.length = P ∧ (tranAt n.trans k).post.length = P) := fun k hk => by
      have := tran_length Hn.out (show k < n.trans.length by rw [HL.out]; exact hk)
      rw [HP'.out] at this
      omega
    go_wp2_with fail
    clear x0 x1 x2 q1 q2 q3 q4 q5
    go_loopg [5, 25] len (fun gk m i' wr => ∃ k : Nat, k + gk = len ∧ i' = .int .i64 (k : Int) ∧ m = .int .i64 (seenTo n.trans k : Int) ∧ Below w.heap.size w wr ∧ Box2 wr w.heap.size (.int .i64 (P : Int)) (.slice ta len tc) ∧ ResN wr (w.heap.size + 1) (.int .i64 0) (.slice none 0 0))
    case atStart => exact ⟨0, by omega, rfl, rfl, c0, hbn, hR⟩
    case round =>
      clear c0 hbn hR
      obtain ⟨k, hkg, rfl, rfl, c0, hbn, hR⟩ := hrel
      have hs := seen_le n.trans k
      by_cases hk : k < len
      · obtain ⟨tb, tf, d1, d2, rfl, hblt, t0, t1, t2, i1, i2⟩ := (hT.below c0).at hk
        obtain ⟨e1, m1, q1, rfl, _⟩ := id i1
        obtain ⟨e2, m2, q2, rfl, _⟩ := id i2
        obtain ⟨L, HLb⟩ : ∃ L, Hid ((tranAt n.trans k).label = L) := ⟨_, rfl⟩
        have hL0 : 0 ≤ L := by rw [← HLb.out]; exact Hlab.out k hk
        rw [HLb.out] at t0
        have Hs : Hid (seenTo n.trans (k + 1) = seenTo n.trans k + (if L = 0 then 0 else 1)) := by show _ = _; rw [← HLb.out]; rfl
        have bt := below_new wr (.cells #[.int .i64 L, .slice e1 m1 q1, .slice e2 m2 q2] 54)
        obtain ⟨y0, y1, y2, y3⟩ := box3_new wr (.int .i64 L) (.slice e1 m1 q1) (.slice e2 m2 q2) 54
        obtain ⟨wt, Hwt⟩ : ∃ v, Hid (wr.alloc (.cells #[.int .i64 L, .slice e1 m1 q1, .slice e2 m2 q2] 54) = v) := ⟨_, rfl⟩
        rw [Hwt.out] at bt y0 y1 y2 y3
        obtain ⟨sk, Hsk⟩ : ∃ s, Hid (seenTo n.trans k = s) := ⟨_, rfl⟩
        rw [Hsk.out] at Hs hs ⊢
        go_upto_region 8 with fail
        rw [Hwt.out]
        clear Hwt t0 t1 t2 i1 i2 hblt
        replace c0 := below_then c0 bt
        replace hbn := hbn.below bt
        replace hR := hR.below bt
        by_cases hL : L = 0
        · subst hL
          have e : Hid (seenTo n.trans (k + 1) = sk) := by show _ = _; rw [Hs.out]; simp
          have hm : min (0 : Int) 1 = 0 := by omega
          go_wp2
          go_roundg (gk - 1)
          case measure => omega
          case rel => exact ⟨k + 1, by omega, by go_num, by rw [e.out], c0, hbn, hR⟩
        · have hm : min L 1 = 1 := by omega
          have e : Hid (seenTo n.trans (k + 1) = sk + 1) := by show _ = _; rw [Hs.out, if_neg hL]
          go_wp2
          go_roundg (gk - 1)
          case measure => omega
          case rel => exact ⟨k + 1, by omega, by go_num, by rw [e.out]; go_num, c0, hbn, hR⟩
      · obtain rfl : k = len := by omega
        have HLk := HL
        obtain ⟨x0, x1, x2⟩ := id hbn
        obtain ⟨q1, q2, q3, q4, q5⟩ := hR.facts
        obtain ⟨S, HS0⟩ : ∃ S, Hid (seenTo n.trans k = S) := ⟨_, rfl⟩
        rw [HS0.out] at hs ⊢
        have HSn : Hid (seenTo n.trans n.trans.length = S) := by rw [HL.out]; exact HS0
        by_cases hf : (P : Int) + (S : Int) > 16 ∨ k + S > 24
        · have E : Hid (busyN n = (⟨0, []⟩, 4)) := busy_full Hn.out (by rw [HSn.out, HP'.out, HL.out]; exact hf)
          obtain ⟨W2, HW2⟩ : ∃ W2, Hid ((wr.setCell ⟨w.heap.size + 1, 0, none⟩ (.int .i64 0)).setCell ⟨w.heap.size + 1, 1, none⟩ (.slice none 0 0) = W2) := ⟨_, rfl⟩
          obtain ⟨z1, z2, z3⟩ := hR.fill c0 (by omega) HW2.out
          by_cases hf1 : (16 : Int) < (P : Int) + (S : Int)
          · have hf1' : decide ((16 : Int) < (P : Int) + (S : Int)) = true := decide_eq_true hf1
            clear hf
            go_wp2
            rw [HW2.out]
            exact bodyPost_ret (v := .tuple #[.agg #[.int .i64 0, .slice none 0 0], .int .i64 4]) (results_netC rfl rfl rfl z1 z2) rfl ⟨_, by rw [E.out], by rw [E.out]; exact net_empty _, z3⟩
          · have hf1' : decide ((16 : Int) < (P : Int) + (S : Int)) = false := decide_eq_false hf1
            have hf2 : (24 : Int) < (k : Int) + (S : Int) := by omega
            have hf3 : ¬ (16 < P + S) := by omega
            have hf4 : 24 < k + S := by omega
            clear hf hf1
            go_wp2
            rw [HW2.out]
            exact bodyPost_ret (v := .tuple #[.agg #[.int .i64 0, .slice none 0 0], .int .i64 4]) (results_netC rfl rfl rfl z1 z2) rfl ⟨_, by rw [E.out], by rw [E.out]; exact net_empty _, z3⟩
        · have hf1' : decide ((16 : Int) < (P : Int) + (S : Int)) = false := decide_eq_false (by omega)
          have hf2' : decide ((24 : Int) < (k : Int) + (S : Int)) = false := decide_eq_false (by omega)
          have hf3 : ¬ (16 < P + S) := by omega
          have hf4 : ¬ (24 < k + S) := by omega
          have h16 : P + S ≤ 16 := by omega
          have h24 : k + S ≤ 24 := by omega
          have E : Hid (busyN n = (⟨((P + S : Nat) : Int), busyTo n.trans P S n.trans.length⟩, 0)) := by
            show _ = _
            rw [busy_ok Hn.out (by rw [HSn.out, HP'.out, HL.out]; exact hf), HSn.out, HP'.out]
            congr 2
          obtain ⟨wq, rfl⟩ : ∃ z, z = wr := ⟨_, rfl⟩
          obtain ⟨Bo, HBo⟩ : ∃ B, Hid (wq.heap.size = B) := ⟨_, rfl⟩
          have hst := netOut_new wq ((P : Int) + (S : Int)) Bo HBo.out.symm
          have bn := below_new wq (.cells #[.int .i64 ((P : Int) + (S : Int)), .slice none 0 0] 24)
          obtain ⟨W1, HW1⟩ : ∃ v, Hid (wq.alloc (.cells #[.int .i64 ((P : Int) + (S : Int)), .slice none 0 0] 24) = v) := ⟨_, rfl⟩
          rw [HW1.out] at hst bn
          have hBo : w.heap.size + 1 < Bo := by rw [← HBo.out]; exact q5
          clear hf hs hkg hk
          go_upto_region 14 with fail
          rw [HW1.out, HBo.out]
          clear HW1 q1 q2 q3 q4 q5 x0 x1 x2 hf1' hf2' hf3 hf4
          obtain ⟨len, rfl⟩ : ∃ l, l = k := ⟨_, rfl⟩
          obtain ⟨x0, x1, x2⟩ := hbn.below bn
          go_wp2_with fail
          clear x0 x1 x2
          have hsz : Below Bo wq wq := Below.refl _ _
          go_loopg [9, 57] len (fun gk m i' wr => ∃ (k : Nat) (us : List TranL) (ov : Value) (tv : List (Int × Value × Value)), k + gk = len ∧ i' = .int .i64 (k : Int) ∧ m = .int .i64 (seenTo n.trans k : Int) ∧ Hid (us = busyTo n.trans P S k) ∧ NetOut Bo ((P : Int) + (S : Int)) wq wr us ov tv)
          case atStart => exact ⟨0, [], _, [], by omega, rfl, rfl, rfl, hst⟩
          case round =>
            clear hst bn
            obtain ⟨k, us, ov, tv, hkg, rfl, rfl, Hus, hO⟩ := hrel
            have hs := seen_le n.trans k
            have hbw : Below wq.heap.size wq wr := by rw [HBo.out]; exact hO.below
            obtain ⟨av, lv, cv, rfl⟩ := ownsRow_slice hO.own
            have Htl0 : tv.length = k + seenTo n.trans k := by rw [← hO.len, Hus.out, busyTo_length]
            have Htl : Hid (tv.length ≤ 2513169434916) := by show _ ≤ _; omega
            have Htl2 : Hid (tv.length ≤ 1000) := by show _ ≤ _; omega
            clear Htl0
            by_cases hk : k < len
            · obtain ⟨tb, tf, d1, d2, rfl, hblt, t0, t1, t2, i1, i2⟩ := (hT.below (below_then c0 hbw)).at hk
              obtain ⟨e1, m1, q1, rfl, _⟩ := id i1
              obtain ⟨e2, m2, q2, rfl, _⟩ := id i2
              obtain ⟨T, HT⟩ : ∃ T, Hid (tranAt n.trans k = T) := ⟨_, rfl⟩
              have Hl : Hid (T.pre.length = P ∧ T.post.length = P) := by rw [← HT.out]; exact Hlen.out k hk
              rw [HT.out] at t0 i1 i2
              obtain ⟨L, HLb⟩ : ∃ L, Hid (T.label = L) := ⟨_, rfl⟩
              rw [HLb.out] at t0
              have Hnx : Hid (busyTo n.trans P S (k + 1) = us ++ busyT P S (seenTo n.trans k) T) := by show _ = _; rw [busyTo_succ, ← Hus.out, HT.out]
              have Hsn : Hid (seenTo n.trans (k + 1) = seenTo n.trans k + (if L = 0 then 0 else 1)) := by show _ = _; rw [← HLb.out, ← HT.out]; rfl
              have Hlt : Hid (L ≠ 0 → seenTo n.trans k < S) := fun h => by rw [← HS0.out]; exact seen_lt n.trans hk (by rw [HT.out, HLb.out]; exact h)
              obtain ⟨sk, Hsk⟩ : ∃ s, Hid (seenTo n.trans k = s) := ⟨_, rfl⟩
              rw [Hsk.out] at hs Hnx Hsn Hlt ⊢
              have bt := below_new wr (.cells #[.int .i64 L, .slice e1 m1 q1, .slice e2 m2 q2] 54)
              have hbt := box3_new wr (.int .i64 L) (.slice e1 m1 q1) (.slice e2 m2 q2) 54
              obtain ⟨Bt, HBt⟩ : ∃ B, Hid (wr.heap.size = B) := ⟨_, rfl⟩
              have hBt2 : some Bt ≠ (Value.slice av lv cv).ownBlock := fun e => by have := (ownsRow_lt hO.own e.symm).2; rw [HBt.out] at this; omega
              rw [HBt.out] at hbt
              obtain ⟨wb, Hwb⟩ : ∃ v, Hid (wr.alloc (.cells #[.int .i64 L, .slice e1 m1 q1, .slice e2 m2 q2] 54) = v) := ⟨_, rfl⟩
              rw [Hwb.out] at bt hbt
              have hBt1 : Bt < wb.heap.size := hbt.1
              have hmk := make_zeros wb S (by omega)
              have bA := below_new wb (.cells (List.replicate S (Value.int .i64 0)).toArray 3)
              have hA0 := zeros_ints wb S (by omega)
              obtain ⟨Ba, HBa⟩ : ∃ B, Hid (wb.heap.size = B) := ⟨_, rfl⟩
              rw [HBa.out] at hmk hA0
              obtain ⟨wa, Hwa⟩ : ∃ v, Hid (wb.alloc (.cells (List.replicate S (Value.int .i64 0)).toArray 3) = v) := ⟨_, rfl⟩
              rw [Hwa.out] at hmk bA hA0
              go_upto_region 17 with fail
              rw [Hwb.out, HBt.out]
              clear Hwb t0 t1 t2 hblt
              replace hO := hO.to bt
              replace i1 := i1.below bt
              replace i2 := i2.below bt
              have hbl := (hbn.below hbw).below bt
              clear bt
              obtain ⟨y0, y1, y2, y3⟩ := hbt.below bA
              obtain ⟨x0, x1, x2⟩ := hbl.below bA
              by_cases hL : L = 0
              · subst hL
                have e : Hid (seenTo n.trans (k + 1) = sk) := by show _ = _; rw [Hsn.out]; simp
                have Hvs : Hid (us ++ [⟨0, T.pre ++ zerosL S, T.post ++ zerosL S⟩] = busyTo n.trans P S (k + 1)) := by
                  show _ = _
                  rw [Hnx.out, busyT, if_pos HLb.out]
                have HlX : Hid ((T.pre ++ zerosL S).length ≤ 17592186044416) := by show _ ≤ _; rw [List.length_append, Hl.out.1, zeros_length]; omega
                have HlY : Hid ((T.post ++ zerosL S).length ≤ 17592186044416) := by show _ ≤ _; rw [List.length_append, Hl.out.2, zeros_length]; omega
                go_upto_region 19 with fail
                clear y0 y1 y2 y3 x0 x1 x2 hmk Hwa
                obtain ⟨wz, rfl⟩ : ∃ z, z = wa := ⟨_, rfl⟩
                have bz := bA
                clear bA
                have HS : Hid (∀ w', Below wz.heap.size wz w' → w'.cell? ⟨Bo, 1, none⟩ = some (.slice av lv cv) ∧ w'.cell? ⟨Bt, 0, none⟩ = some (.int .i64 0) ∧ w'.cell? ⟨Bt, 1, none⟩ = some (.slice e1 m1 q1) ∧ w'.cell? ⟨Bt, 2, none⟩ = some (.slice e2 m2 q2)) := fun w' h => ⟨(hO.to (below_then bz h)).c1, (hbt.below (below_then bz h)).2.1, (hbt.below (below_then bz h)).2.2.1, (hbt.below (below_then bz h)).2.2.2⟩
                refine wp_region_Z (S := (fun w' => w'.cell? ⟨Bo, 1, none⟩ = some (.slice av lv cv) ∧ w'.cell? ⟨Bt, 0, none⟩ = some (.int .i64 0) ∧ w'.cell? ⟨Bt, 1, none⟩ = some (.slice e1 m1 q1) ∧ w'.cell? ⟨Bt, 2, none⟩ = some (.slice e2 m2 q2))) (by kernel_rfl) 18 (HS.out _ (Below.refl _ _).drew) (fun hH => ?_)
                have c : Below wz.heap.size wz wz.drew := (Below.refl _ _).drew
                obtain ⟨v0, Hv0⟩ : ∃ v0, Hid (wz.drew = v0) := ⟨_, rfl⟩
                rw [Hv0.out] at hH c ⊢
                clear Hv0
                refine wpZ_takeP (i := 0) (v := .pointer (some ⟨Bo, 1, none⟩)) rfl (by kernel_rfl) (by kernel_rfl) (by kernel_rfl) (fun _ _ _ h => h) (.inl ⟨by rfl, fun w' hS' => by first | (go_simp; done) | (go_simp; rfl) | (go_simp; intro h; omega) | (go_simp; omega)⟩) hH (by decide) ?_
                simp only [List.getElem_toArray, List.getElem_cons_succ, List.getElem_cons_zero, Act.put, List.setIfInBounds_toArray, List.set_cons_zero, List.set_cons_succ]
                refine wpZ_take (i := 1) (v := .slice av lv cv) rfl (by kernel_rfl) (by kernel_rfl) (by kernel_rfl) (fun _ _ _ h => h) (.inl ⟨by rfl, fun w' hS' => by obtain ⟨s0, s1, s2, s3⟩ := hS'; go_simp⟩) hH rfl (by decide) (by kernel_rfl) (by kernel_rfl) ?_
                simp only [List.getElem_toArray, List.getElem_cons_succ, List.getElem_cons_zero, Act.put, List.setIfInBounds_toArray, List.set_cons_zero, List.set_cons_succ]
                refine wpZ_takeP (i := 3) (v := .pointer (some ⟨Bt, 1, none⟩)) rfl (by kernel_rfl) (by kernel_rfl) (by kernel_rfl) (fun _ _ _ h => h) (.inl ⟨by rfl, fun w' hS' => by first | (go_simp; done) | (go_simp; rfl) | (go_simp; intro h; omega) | (go_simp; omega)⟩) hH (by decide) ?_
                simp only [List.getElem_toArray, List.getElem_cons_succ, List.getElem_cons_zero, Act.put, List.setIfInBounds_toArray, List.set_cons_zero, List.set_cons_succ]
                refine wpZ_take (i := 4) (v := .slice e1 m1 q1) rfl (by kernel_rfl) (by kernel_rfl) (by kernel_rfl) (fun _ _ _ h => h) (.inl ⟨by rfl, fun w' hS' => by obtain ⟨s0, s1, s2, s3⟩ := hS'; go_simp⟩) hH rfl (by decide) (by kernel_rfl) (by kernel_rfl) ?_
                simp only [List.getElem_toArray, List.getElem_cons_succ, List.getElem_cons_zero, Act.put, List.setIfInBounds_toArray, List.set_cons_zero, List.set_cons_succ]
                refine wpZ_takeP (i := 6) (v := .slice (some ⟨Ba, 0, none⟩) S S) rfl (by kernel_rfl) (by kernel_rfl) (by kernel_rfl) (fun _ _ _ h => h) (.inl ⟨by rfl, fun _ _ => rfl⟩) hH (by decide) ?_
                simp only [List.getElem_toArray, List.getElem_cons_succ, List.getElem_cons_zero, Act.put, List.setIfInBounds_toArray, List.set_cons_zero, List.set_cons_succ]
                refine wpZ_takeP (i := 9) (v := .pointer (some ⟨Bt, 2, none⟩)) rfl (by kernel_rfl) (by kernel_rfl) (by kernel_rfl) (fun _ _ _ h => h) (.inl ⟨by rfl, fun w' hS' => by first | (go_simp; done) | (go_simp; rfl) | (go_simp; intro h; omega) | (go_simp; omega)⟩) hH (by decide) ?_
                simp only [List.getElem_toArray, List.getElem_cons_succ, List.getElem_cons_zero, Act.put, List.setIfInBounds_toArray, List.set_cons_zero, List.set_cons_succ]
                refine wpZ_take (i := 10) (v := .slice e2 m2 q2) rfl (by kernel_rfl) (by kernel_rfl) (by kernel_rfl) (fun _ _ _ h => h) (.inl ⟨by rfl, fun w' hS' => by obtain ⟨s0, s1, s2, s3⟩ := hS'; go_simp⟩) hH rfl (by decide) (by kernel_rfl) (by kernel_rfl) ?_
                simp only [List.getElem_toArray, List.getElem_cons_succ, List.getElem_cons_zero, Act.put, List.setIfInBounds_toArray, List.set_cons_zero, List.set_cons_succ]
                refine wpZ_takeP (i := 12) (v := .slice (some ⟨Ba, 0, none⟩) S S) rfl (by kernel_rfl) (by kernel_rfl) (by kernel_rfl) (fun _ _ _ h => h) (.inl ⟨by rfl, fun _ _ => rfl⟩) hH (by decide) ?_
                simp only [List.getElem_toArray, List.getElem_cons_succ, List.getElem_cons_zero, Act.put, List.setIfInBounds_toArray, List.set_cons_zero, List.set_cons_succ]
                refine wpZ_ready (rs := [2, 8]) (by kernel_rfl) (by simp) ?_
                refine (AllZ.cons rfl (fun K hK => ?_) (AllZ.cons rfl (fun K hK => ?_) AllZ.nil))
                · simp only [List.getElem_toArray, List.getElem_cons_succ, List.getElem_cons_zero]
                  rw [if_pos (by rfl)]
                  have bs := below_new v0 (.cells #[] 3)
                  have hX := int_lit v0 wz.heap.size c.size
                  obtain ⟨xX1, HxX⟩ : ∃ v, Hid (Value.slice (some ⟨v0.heap.size, 0, none⟩) 0 0 = v) := ⟨_, rfl⟩
                  have HBX : Hid (xX1.ownBlock = some v0.heap.size) := by rw [← HxX.out]; rfl
                  obtain ⟨v1, Hv1⟩ : ∃ v, Hid (v0.alloc (.cells #[] 3) = v) := ⟨_, rfl⟩
                  rw [Hv1.out] at bs hX
                  rw [HxX.out] at hX
                  go_wp2_with fail
                  rw [Hv1.out, HxX.out]
                  replace c := below_then c bs
                  refine hK.out _ _ (HS.out _ c) (fun hH => ?_)
                  clear hK
                  clear bs Hv1 HxX HBX
                  refine wpZ_ready (rs := [5, 8]) (by kernel_rfl) (by simp) ?_
                  refine (AllZ.cons rfl (fun K hK => ?_) (AllZ.cons rfl (fun K hK => ?_) AllZ.nil))
                  · simp only [List.getElem_toArray, List.getElem_cons_succ, List.getElem_cons_zero]
                    refine wpr_append_ro (by rfl) _ _ rfl wz.heap.size v1 xX1 (.slice e1 m1 q1) [] T.pre (by exact hX) rfl rfl (i1.below (below_then bz c)) c.size (by rw [Hl.out.1]; simp; omega) ?_
                    intro xX2 v2 gX hs' hk' hB' hat'
                    replace c := hB' _ _ (Nat.le_refl _) c
                    refine hK.out _ _ (HS.out _ c) (fun hH => ?_)
                    clear hK
                    clear hs' hk' hB' hat' hX
                    have hX := gX
                    clear gX
                    refine wpZ_ready (rs := [7, 8]) (by kernel_rfl) (by simp) ?_
                    refine (AllZ.cons rfl (fun K hK => ?_) (AllZ.cons rfl (fun K hK => ?_) AllZ.nil))
                    · simp only [List.getElem_toArray, List.getElem_cons_succ, List.getElem_cons_zero]
                      refine wpr_append_ro (by rfl) _ _ rfl wz.heap.size v2 xX2 (.slice (some ⟨Ba, 0, none⟩) S S) T.pre (zerosL S) (by exact hX) rfl rfl (hA0.below c) c.size (by rw [Hl.out.1, zeros_length]; omega) ?_
                      intro xX3 v3 gX hs' hk' hB' hat'
                      replace c := hB' _ _ (Nat.le_refl _) c
                      refine hK.out _ _ (HS.out _ c) (fun hH => ?_)
                      clear hK
                      clear hs' hk' hB' hat' hX
                      have hX := gX
                      clear gX
                      have bs := below_new v3 (.cells #[] 3)
                      have hY := int_lit v3 wz.heap.size c.size
                      obtain ⟨xY1, HxY⟩ : ∃ v, Hid (Value.slice (some ⟨v3.heap.size, 0, none⟩) 0 0 = v) := ⟨_, rfl⟩
                      have HBY : Hid (xY1.ownBlock = some v3.heap.size) := by rw [← HxY.out]; rfl
                      obtain ⟨v4, Hv4⟩ : ∃ v, Hid (v3.alloc (.cells #[] 3) = v) := ⟨_, rfl⟩
                      rw [Hv4.out] at bs hY
                      rw [HxY.out] at hY
                      refine wpZ_ready (rs := [8]) (by kernel_rfl) (by simp) ?_
                      refine AllZ.cons rfl (fun K hK => ?_) AllZ.nil
                      simp only [List.getElem_toArray, List.getElem_cons_succ, List.getElem_cons_zero]
                      rw [if_pos (by rfl)]
                      go_wp2_with fail
                      rw [Hv4.out, HxY.out]
                      have HXY : Hid (∀ q, xX3.ownBlock = some q → xY1.ownBlock ≠ some q) := fun q e1 e2 => by have := (hX.lt q e1).2; rw [HBY.out] at e2; injection e2 with e3; omega
                      replace hX := row_on hX bs
                      replace c := below_then c bs
                      refine hK.out _ _ (HS.out _ c) (fun hH => ?_)
                      clear hK
                      clear bs Hv4 HxY HBY
                      refine wpZ_ready (rs := [11]) (by kernel_rfl) (by simp) ?_
                      refine AllZ.cons rfl (fun K hK => ?_) AllZ.nil
                      simp only [List.getElem_toArray, List.getElem_cons_succ, List.getElem_cons_zero]
                      refine wpr_append_ro (by rfl) _ _ rfl wz.heap.size v4 xY1 (.slice e2 m2 q2) [] T.post (by exact hY) rfl rfl (i2.below (below_then bz c)) c.size (by rw [Hl.out.2]; simp; omega) ?_
                      intro xY2 v5 gY hs' hk' hB' hat'
                      have HXYo := HXY
                      replace HXY : Hid (∀ q, xX3.ownBlock = some q → xY2.ownBlock ≠ some q) := fun q e1 e2 => by
                        rcases hat' with r | r
                        · exact HXYo.out q e1 (by rw [← r]; exact e2)
                        · have := (hX.lt q e1).2
                          rw [r] at e2
                          injection e2 with e3
                          omega
                      replace hX := row_keep hX hs' hk' (fun q e1 e2 => HXYo.out q e1 e2)
                      replace c := hB' _ _ (Nat.le_refl _) c
                      refine hK.out _ _ (HS.out _ c) (fun hH => ?_)
                      clear hK
                      clear hs' hk' hB' hat' hY HXYo
                      have hY := gY
                      clear gY
                      refine wpZ_ready (rs := [13]) (by kernel_rfl) (by simp) ?_
                      refine AllZ.cons rfl (fun K hK => ?_) AllZ.nil
                      simp only [List.getElem_toArray, List.getElem_cons_succ, List.getElem_cons_zero]
                      refine wpr_append_ro (by rfl) _ _ rfl wz.heap.size v5 xY2 (.slice (some ⟨Ba, 0, none⟩) S S) T.post (zerosL S) (by exact hY) rfl rfl (hA0.below c) c.size (by rw [Hl.out.2, zeros_length]; omega) ?_
                      intro xY3 v6 gY hs' hk' hB' hat'
                      have HXYo := HXY
                      replace HXY : Hid (∀ q, xX3.ownBlock = some q → xY3.ownBlock ≠ some q) := fun q e1 e2 => by
                        rcases hat' with r | r
                        · exact HXYo.out q e1 (by rw [← r]; exact e2)
                        · have := (hX.lt q e1).2
                          rw [r] at e2
                          injection e2 with e3
                          omega
                      replace hX := row_keep hX hs' hk' (fun q e1 e2 => HXYo.out q e1 e2)
                      replace c := hB' _ _ (Nat.le_refl _) c
                      refine hK.out _ _ (HS.out _ c) (fun hH => ?_)
                      clear hK
                      clear hs' hk' hB' hat' hY HXYo
                      have hY := gY
                      clear gY
                      obtain ⟨xa1, xl1, xc1, rfl⟩ := ownsRow_slice hX
                      obtain ⟨xa2, xl2, xc2, rfl⟩ := ownsRow_slice hY
                      have O1 := (ownsRow_on hX).weaken (D' := fun k => wb.heap.size ≤ k) (fun k _ hk => Nat.le_trans bz.size hk.2)
                      have O2 := (ownsRow_on hY).weaken (D' := fun k => wb.heap.size ≤ k) (fun k _ hk => Nat.le_trans bz.size hk.2)
                      replace O1 := O1.mono (fun w'' h => ownsRow_ints h HlX.out)
                      replace O2 := O2.mono (fun w'' h => ownsRow_ints h HlY.out)
                      clear hX hY HXY
                      refine wpZ_takeP (i := 14) (v := .agg #[.int .i64 0, .slice xa1 xl1 xc1, .slice xa2 xl2 xc2]) rfl (by kernel_rfl) (by kernel_rfl) (by kernel_rfl) (fun _ _ _ h => h) (.inl ⟨by rfl, fun w' hS' => by first | (go_simp; done) | (go_simp; rfl) | (go_simp; intro h; omega) | (go_simp; omega)⟩) hH (by decide) ?_
                      simp only [List.getElem_toArray, List.getElem_cons_succ, List.getElem_cons_zero, Act.put, List.setIfInBounds_toArray, List.set_cons_zero, List.set_cons_succ]
                      have bs := below_new v6 (.cells #[.int .i64 0, .slice xa1 xl1 xc1, .slice xa2 xl2 xc2] 54)
                      obtain ⟨Bb, HBb⟩ : ∃ B, Hid (v6.heap.size = B) := ⟨_, rfl⟩
                      have hcell : ∀ j u, (tvCells [(0, .slice xa1 xl1 xc1, .slice xa2 xl2 xc2)])[j]? = some u → (v6.alloc (.cells #[.int .i64 0, .slice xa1 xl1 xc1, .slice xa2 xl2 xc2] 54)).cell? ⟨Bb, 0 + j, none⟩ = some u := fun j u hj => by
                        rw [← HBb.out, Nat.zero_add, World.cell?_alloc_at _ _ _ _ rfl]
                        simpa [tvCells] using hj
                      obtain ⟨u3, Hu3⟩ : ∃ v, Hid (v6.alloc (.cells #[.int .i64 0, .slice xa1 xl1 xc1, .slice xa2 xl2 xc2] 54) = v) := ⟨_, rfl⟩
                      rw [Hu3.out] at bs hcell
                      refine wpZ_ready (rs := [15]) (by kernel_rfl) (by simp) ?_
                      refine AllZ.cons rfl (fun K hK => ?_) AllZ.nil
                      simp only [List.getElem_toArray, List.getElem_cons_succ, List.getElem_cons_zero]
                      rw [if_pos (by rfl)]
                      go_wp2_with fail
                      rw [Hu3.out, HBb.out]
                      have c3 := c
                      replace c := below_then c bs
                      refine hK.out _ _ (HS.out _ c) (fun hH => ?_)
                      clear hK
                      have b := below_then bz c
                      refine wpZ_ready (rs := [16]) (by kernel_rfl) (by simp) ?_
                      refine AllZ.cons rfl (fun K hK => ?_) AllZ.nil
                      simp only [List.getElem_toArray, List.getElem_cons_succ, List.getElem_cons_zero]
                      refine wpr_append_net (by rfl) _ _ rfl (Bo + 1) u3 (.slice av lv cv) tv [(0, .slice xa1 xl1 xc1, .slice xa2 xl2 xc2)] Bb 0 1 1 (hO.to b).own rfl rfl rfl hcell (by intro u hu; simp only [tvCells, List.flatMap_cons, List.flatMap_nil, List.append_nil, List.cons_append, List.nil_append, List.mem_cons, List.not_mem_nil, or_false] at hu; rcases hu with rfl | rfl | rfl <;> rfl) (by have := Htl2.out; omega) ((hO.to b).size) ?_
                      intro nv u4 hown hg hat
                      obtain ⟨na, nl, nc, rfl⟩ := ownsRow_slice hown
                      obtain ⟨g1, g2⟩ := hO.after b hg
                      have hHS4 : u4.cell? ⟨Bo, 1, none⟩ = some (.slice av lv cv) ∧ u4.cell? ⟨Bt, 0, none⟩ = some (.int .i64 0) ∧ u4.cell? ⟨Bt, 1, none⟩ = some (.slice e1 m1 q1) ∧ u4.cell? ⟨Bt, 2, none⟩ = some (.slice e2 m2 q2) := by
                        refine ⟨g1, ?_, ?_, ?_⟩
                        · rw [hO.afterT b hg (a := ⟨Bt, 0, none⟩) hBt1 hBt2]; exact (HS.out _ c).2.1
                        · rw [hO.afterT b hg (a := ⟨Bt, 1, none⟩) hBt1 hBt2]; exact (HS.out _ c).2.2.1
                        · rw [hO.afterT b hg (a := ⟨Bt, 2, none⟩) hBt1 hBt2]; exact (HS.out _ c).2.2.2
                      refine hK.out _ _ hHS4 (fun hH => ?_)
                      clear hK
                      refine wpZ_takeP (i := 17) (v := .pointer (some ⟨Bo, 1, none⟩)) rfl (by kernel_rfl) (by kernel_rfl) (by kernel_rfl) (fun _ _ _ h => h) (.inl ⟨by rfl, fun w' hS' => by first | (go_simp; done) | (go_simp; rfl) | (go_simp; intro h; omega) | (go_simp; omega)⟩) hH (by decide) ?_
                      simp only [List.getElem_toArray, List.getElem_cons_succ, List.getElem_cons_zero, Act.put, List.setIfInBounds_toArray, List.set_cons_zero, List.set_cons_succ]
                      refine wpZ_ready (rs := [18]) (by kernel_rfl) (by simp) ?_
                      refine AllZ.last rfl (by kernel_rfl) (fun K hK => ?_) AllZ.nil
                      simp only [List.getElem_toArray, List.getElem_cons_succ, List.getElem_cons_zero]
                      rw [if_pos (by rfl)]
                      go_wp2_with fail
                      refine hK.out _ _ ?_
                      clear hK
                      refine wpZ_done (by kernel_rfl) ?_ _
                      have R := hO.step (vs := [⟨0, T.pre ++ zerosL S, T.post ++ zerosL S⟩]) (xs := [(0, .slice xa1 xl1 xc1, .slice xa2 xl2 xc2)]) rfl b (fun j hj => by
                        obtain rfl : j = 0 := by simp at hj; omega
                        exact ⟨rfl, O1.below bs, O2.below bs⟩
                        ) hown hg hat
                      rw [Hvs.out] at R
                      clear hown hg hat g1 g2 hHS4 hcell c c3 b bs O1 O2
                      go_wp2
                      go_roundg (gk - 1)
                      case measure => omega
                      case rel => exact ⟨k + 1, _, _, _, by omega, by go_num, by rw [e.out], rfl, R⟩
                    · simp only [List.getElem_toArray, List.getElem_cons_succ, List.getElem_cons_zero]
                      rw [if_pos (by rfl)]
                      have bs := below_new v2 (.cells #[] 3)
                      have hY := int_lit v2 wz.heap.size c.size
                      obtain ⟨xY1, HxY⟩ : ∃ v, Hid (Value.slice (some ⟨v2.heap.size, 0, none⟩) 0 0 = v) := ⟨_, rfl⟩
                      have HBY : Hid (xY1.ownBlock = some v2.heap.size) := by rw [← HxY.out]; rfl
                      obtain ⟨v3, Hv3⟩ : ∃ v, Hid (v2.alloc (.cells #[] 3) = v) := ⟨_, rfl⟩
                      rw [Hv3.out] at bs hY
                      rw [HxY.out] at hY
                      go_wp2_with fail
                      rw [Hv3.out, HxY.out]
                      have HXY : Hid (∀ q, xX2.ownBlock = some q → xY1.ownBlock ≠ some q) := fun q e1 e2 => by have := (hX.lt q e1).2; rw [HBY.out] at e2; injection e2 with e3; omega
                      replace hX := row_on hX bs
                      replace c := below_then c bs
                      refine hK.out _ _ (HS.out _ c) (fun hH => ?_)
                      clear hK
                      clear bs Hv3 HxY HBY
                      refine wpZ_ready (rs := [7]) (by kernel_rfl) (by simp) ?_
                      refine AllZ.cons rfl (fun K hK => ?_) AllZ.nil
                      simp only [List.getElem_toArray, List.getElem_cons_succ, List.getElem_cons_zero]
                      refine wpr_append_ro (by rfl) _ _ rfl wz.heap.size v3 xX2 (.slice (some ⟨Ba, 0, none⟩) S S) T.pre (zerosL S) (by exact hX) rfl rfl (hA0.below c) c.size (by rw [Hl.out.1, zeros_length]; omega) ?_
                      intro xX3 v4 gX hs' hk' hB' hat'
                      have HXYo := HXY
                      replace HXY : Hid (∀ q, xX3.ownBlock = some q → xY1.ownBlock ≠ some q) := fun q e1 e2 => by
                        rcases hat' with r | r
                        · exact HXYo.out q (by rw [← r]; exact e1) e2
                        · have := (hY.lt q e2).2
                          rw [r] at e1
                          injection e1 with e3
                          omega
                      replace hY := row_keep hY hs' hk' (fun q e1 e2 => HXYo.out q e2 e1)
                      replace c := hB' _ _ (Nat.le_refl _) c
                      refine hK.out _ _ (HS.out _ c) (fun hH => ?_)
                      clear hK
                      clear hs' hk' hB' hat' hX HXYo
                      have hX := gX
                      clear gX
                      refine wpZ_ready (rs := [11]) (by kernel_rfl) (by simp) ?_
                      refine AllZ.cons rfl (fun K hK => ?_) AllZ.nil
                      simp only [List.getElem_toArray, List.getElem_cons_succ, List.getElem_cons_zero]
                      refine wpr_append_ro (by rfl) _ _ rfl wz.heap.size v4 xY1 (.slice e2 m2 q2) [] T.post (by exact hY) rfl rfl (i2.below (below_then bz c)) c.size (by rw [Hl.out.2]; simp; omega) ?_
                      intro xY2 v5 gY hs' hk' hB' hat'
                      have HXYo := HXY
                      replace HXY : Hid (∀ q, xX3.ownBlock = some q → xY2.ownBlock ≠ some q) := fun q e1 e2 => by
                        rcases hat' with r | r
                        · exact HXYo.out q e1 (by rw [← r]; exact e2)
                        · have := (hX.lt q e1).2
                          rw [r] at e2
                          injection e2 with e3
                          omega
                      replace hX := row_keep hX hs' hk' (fun q e1 e2 => HXYo.out q e1 e2)
                      replace c := hB' _ _ (Nat.le_refl _) c
                      refine hK.out _ _ (HS.out _ c) (fun hH => ?_)
                      clear hK
                      clear hs' hk' hB' hat' hY HXYo
                      have hY := gY
                      clear gY
                      refine wpZ_ready (rs := [13]) (by kernel_rfl) (by simp) ?_
                      refine AllZ.cons rfl (fun K hK => ?_) AllZ.nil
                      simp only [List.getElem_toArray, List.getElem_cons_succ, List.getElem_cons_zero]
                      refine wpr_append_ro (by rfl) _ _ rfl wz.heap.size v5 xY2 (.slice (some ⟨Ba, 0, none⟩) S S) T.post (zerosL S) (by exact hY) rfl rfl (hA0.below c) c.size (by rw [Hl.out.2, zeros_length]; omega) ?_
                      intro xY3 v6 gY hs' hk' hB' hat'
                      have HXYo := HXY
                      replace HXY : Hid (∀ q, xX3.ownBlock = some q → xY3.ownBlock ≠ some q) := fun q e1 e2 => by
                        rcases hat' with r | r
                        · exact HXYo.out q e1 (by rw [← r]; exact e2)
                        · have := (hX.lt q e1).2
                          rw [r] at e2
                          injection e2 with e3
                          omega
                      replace hX := row_keep hX hs' hk' (fun q e1 e2 => HXYo.out q e1 e2)
                      replace c := hB' _ _ (Nat.le_refl _) c
                      refine hK.out _ _ (HS.out _ c) (fun hH => ?_)
                      clear hK
                      clear hs' hk' hB' hat' hY HXYo
                      have hY := gY
                      clear gY
                      obtain ⟨xa1, xl1, xc1, rfl⟩ := ownsRow_slice hX
                      obtain ⟨xa2, xl2, xc2, rfl⟩ := ownsRow_slice hY
                      have O1 := (ownsRow_on hX).weaken (D' := fun k => wb.heap.size ≤ k) (fun k _ hk => Nat.le_trans bz.size hk.2)
                      have O2 := (ownsRow_on hY).weaken (D' := fun k => wb.heap.size ≤ k) (fun k _ hk => Nat.le_trans bz.size hk.2)
                      replace O1 := O1.mono (fun w'' h => ownsRow_ints h HlX.out)
                      replace O2 := O2.mono (fun w'' h => ownsRow_ints h HlY.out)
                      clear hX hY HXY
                      refine wpZ_takeP (i := 14) (v := .agg #[.int .i64 0, .slice xa1 xl1 xc1, .slice xa2 xl2 xc2]) rfl (by kernel_rfl) (by kernel_rfl) (by kernel_rfl) (fun _ _ _ h => h) (.inl ⟨by rfl, fun w' hS' => by first | (go_simp; done) | (go_simp; rfl) | (go_simp; intro h; omega) | (go_simp; omega)⟩) hH (by decide) ?_
                      simp only [List.getElem_toArray, List.getElem_cons_succ, List.getElem_cons_zero, Act.put, List.setIfInBounds_toArray, List.set_cons_zero, List.set_cons_succ]
                      have bs := below_new v6 (.cells #[.int .i64 0, .slice xa1 xl1 xc1, .slice xa2 xl2 xc2] 54)
                      obtain ⟨Bb, HBb⟩ : ∃ B, Hid (v6.heap.size = B) := ⟨_, rfl⟩
                      have hcell : ∀ j u, (tvCells [(0, .slice xa1 xl1 xc1, .slice xa2 xl2 xc2)])[j]? = some u → (v6.alloc (.cells #[.int .i64 0, .slice xa1 xl1 xc1, .slice xa2 xl2 xc2] 54)).cell? ⟨Bb, 0 + j, none⟩ = some u := fun j u hj => by
                        rw [← HBb.out, Nat.zero_add, World.cell?_alloc_at _ _ _ _ rfl]
                        simpa [tvCells] using hj
                      obtain ⟨u3, Hu3⟩ : ∃ v, Hid (v6.alloc (.cells #[.int .i64 0, .slice xa1 xl1 xc1, .slice xa2 xl2 xc2] 54) = v) := ⟨_, rfl⟩
                      rw [Hu3.out] at bs hcell
                      refine wpZ_ready (rs := [15]) (by kernel_rfl) (by simp) ?_
                      refine AllZ.cons rfl (fun K hK => ?_) AllZ.nil
                      simp only [List.getElem_toArray, List.getElem_cons_succ, List.getElem_cons_zero]
                      rw [if_pos (by rfl)]
                      go_wp2_with fail
                      rw [Hu3.out, HBb.out]
                      have c3 := c
                      replace c := below_then c bs
                      refine hK.out _ _ (HS.out _ c) (fun hH => ?_)
                      clear hK
                      have b := below_then bz c
                      refine wpZ_ready (rs := [16]) (by kernel_rfl) (by simp) ?_
                      refine AllZ.cons rfl (fun K hK => ?_) AllZ.nil
                      simp only [List.getElem_toArray, List.getElem_cons_succ, List.getElem_cons_zero]
                      refine wpr_append_net (by rfl) _ _ rfl (Bo + 1) u3 (.slice av lv cv) tv [(0, .slice xa1 xl1 xc1, .slice xa2 xl2 xc2)] Bb 0 1 1 (hO.to b).own rfl rfl rfl hcell (by intro u hu; simp only [tvCells, List.flatMap_cons, List.flatMap_nil, List.append_nil, List.cons_append, List.nil_append, List.mem_cons, List.not_mem_nil, or_false] at hu; rcases hu with rfl | rfl | rfl <;> rfl) (by have := Htl2.out; omega) ((hO.to b).size) ?_
                      intro nv u4 hown hg hat
                      obtain ⟨na, nl, nc, rfl⟩ := ownsRow_slice hown
                      obtain ⟨g1, g2⟩ := hO.after b hg
                      have hHS4 : u4.cell? ⟨Bo, 1, none⟩ = some (.slice av lv cv) ∧ u4.cell? ⟨Bt, 0, none⟩ = some (.int .i64 0) ∧ u4.cell? ⟨Bt, 1, none⟩ = some (.slice e1 m1 q1) ∧ u4.cell? ⟨Bt, 2, none⟩ = some (.slice e2 m2 q2) := by
                        refine ⟨g1, ?_, ?_, ?_⟩
                        · rw [hO.afterT b hg (a := ⟨Bt, 0, none⟩) hBt1 hBt2]; exact (HS.out _ c).2.1
                        · rw [hO.afterT b hg (a := ⟨Bt, 1, none⟩) hBt1 hBt2]; exact (HS.out _ c).2.2.1
                        · rw [hO.afterT b hg (a := ⟨Bt, 2, none⟩) hBt1 hBt2]; exact (HS.out _ c).2.2.2
                      refine hK.out _ _ hHS4 (fun hH => ?_)
                      clear hK
                      refine wpZ_takeP (i := 17) (v := .pointer (some ⟨Bo, 1, none⟩)) rfl (by kernel_rfl) (by kernel_rfl) (by kernel_rfl) (fun _ _ _ h => h) (.inl ⟨by rfl, fun w' hS' => by first | (go_simp; done) | (go_simp; rfl) | (go_simp; intro h; omega) | (go_simp; omega)⟩) hH (by decide) ?_
                      simp only [List.getElem_toArray, List.getElem_cons_succ, List.getElem_cons_zero, Act.put, List.setIfInBounds_toArray, List.set_cons_zero, List.set_cons_succ]
                      refine wpZ_ready (rs := [18]) (by kernel_rfl) (by simp) ?_
                      refine AllZ.last rfl (by kernel_rfl) (fun K hK => ?_) AllZ.nil
                      simp only [List.getElem_toArray, List.getElem_cons_succ, List.getElem_cons_zero]
                      rw [if_pos (by rfl)]
                      go_wp2_with fail
                      refine hK.out _ _ ?_
                      clear hK
                      refine wpZ_done (by kernel_rfl) ?_ _
                      have R := hO.step (vs := [⟨0, T.pre ++ zerosL S, T.post ++ zerosL S⟩]) (xs := [(0, .slice xa1 xl1 xc1, .slice xa2 xl2 xc2)]) rfl b (fun j hj => by
                        obtain rfl : j = 0 := by simp at hj; omega
                        exact ⟨rfl, O1.below bs, O2.below bs⟩
                        ) hown hg hat
                      rw [Hvs.out] at R
                      clear hown hg hat g1 g2 hHS4 hcell c c3 b bs O1 O2
                      go_wp2
                      go_roundg (gk - 1)
                      case measure => omega
                      case rel => exact ⟨k + 1, _, _, _, by omega, by go_num, by rw [e.out], rfl, R⟩
                  · simp only [List.getElem_toArray, List.getElem_cons_succ, List.getElem_cons_zero]
                    rw [if_pos (by rfl)]
                    have bs := below_new v1 (.cells #[] 3)
                    have hY := int_lit v1 wz.heap.size c.size
                    obtain ⟨xY1, HxY⟩ : ∃ v, Hid (Value.slice (some ⟨v1.heap.size, 0, none⟩) 0 0 = v) := ⟨_, rfl⟩
                    have HBY : Hid (xY1.ownBlock = some v1.heap.size) := by rw [← HxY.out]; rfl
                    obtain ⟨v2, Hv2⟩ : ∃ v, Hid (v1.alloc (.cells #[] 3) = v) := ⟨_, rfl⟩
                    rw [Hv2.out] at bs hY
                    rw [HxY.out] at hY
                    go_wp2_with fail
                    rw [Hv2.out, HxY.out]
                    have HXY : Hid (∀ q, xX1.ownBlock = some q → xY1.ownBlock ≠ some q) := fun q e1 e2 => by have := (hX.lt q e1).2; rw [HBY.out] at e2; injection e2 with e3; omega
                    replace hX := row_on hX bs
                    replace c := below_then c bs
                    refine hK.out _ _ (HS.out _ c) (fun hH => ?_)
                    clear hK
                    clear bs Hv2 HxY HBY
                    refine wpZ_ready (rs := [5]) (by kernel_rfl) (by simp) ?_
                    refine AllZ.cons rfl (fun K hK => ?_) AllZ.nil
                    simp only [List.getElem_toArray, List.getElem_cons_succ, List.getElem_cons_zero]
                    refine wpr_append_ro (by rfl) _ _ rfl wz.heap.size v2 xX1 (.slice e1 m1 q1) [] T.pre (by exact hX) rfl rfl (i1.below (below_then bz c)) c.size (by rw [Hl.out.1]; simp; omega) ?_
                    intro xX2 v3 gX hs' hk' hB' hat'
                    have HXYo := HXY
                    replace HXY : Hid (∀ q, xX2.ownBlock = some q → xY1.ownBlock ≠ some q) := fun q e1 e2 => by
                      rcases hat' with r | r
                      · exact HXYo.out q (by rw [← r]; exact e1) e2
                      · have := (hY.lt q e2).2
                        rw [r] at e1
                        injection e1 with e3
                        omega
                    replace hY := row_keep hY hs' hk' (fun q e1 e2 => HXYo.out q e2 e1)
                    replace c := hB' _ _ (Nat.le_refl _) c
                    refine hK.out _ _ (HS.out _ c) (fun hH => ?_)
                    clear hK
                    clear hs' hk' hB' hat' hX HXYo
                    have hX := gX
                    clear gX
                    refine wpZ_ready (rs := [7]) (by kernel_rfl) (by simp) ?_
                    refine AllZ.cons rfl (fun K hK => ?_) AllZ.nil
                    simp only [List.getElem_toArray, List.getElem_cons_succ, List.getElem_cons_zero]
                    refine wpr_append_ro (by rfl) _ _ rfl wz.heap.size v3 xX2 (.slice (some ⟨Ba, 0, none⟩) S S) T.pre (zerosL S) (by exact hX) rfl rfl (hA0.below c) c.size (by rw [Hl.out.1, zeros_length]; omega) ?_
                    intro xX3 v4 gX hs' hk' hB' hat'
                    have HXYo := HXY
                    replace HXY : Hid (∀ q, xX3.ownBlock = some q → xY1.ownBlock ≠ some q) := fun q e1 e2 => by
                      rcases hat' with r | r
                      · exact HXYo.out q (by rw [← r]; exact e1) e2
                      · have := (hY.lt q e2).2
                        rw [r] at e1
                        injection e1 with e3
                        omega
                    replace hY := row_keep hY hs' hk' (fun q e1 e2 => HXYo.out q e2 e1)
                    replace c := hB' _ _ (Nat.le_refl _) c
                    refine hK.out _ _ (HS.out _ c) (fun hH => ?_)
                    clear hK
                    clear hs' hk' hB' hat' hX HXYo
                    have hX := gX
                    clear gX
                    refine wpZ_ready (rs := [11]) (by kernel_rfl) (by simp) ?_
                    refine AllZ.cons rfl (fun K hK => ?_) AllZ.nil
                    simp only [List.getElem_toArray, List.getElem_cons_succ, List.getElem_cons_zero]
                    refine wpr_append_ro (by rfl) _ _ rfl wz.heap.size v4 xY1 (.slice e2 m2 q2) [] T.post (by exact hY) rfl rfl (i2.below (below_then bz c)) c.size (by rw [Hl.out.2]; simp; omega) ?_
                    intro xY2 v5 gY hs' hk' hB' hat'
                    have HXYo := HXY
                    replace HXY : Hid (∀ q, xX3.ownBlock = some q → xY2.ownBlock ≠ some q) := fun q e1 e2 => by
                      rcases hat' with r | r
                      · exact HXYo.out q e1 (by rw [← r]; exact e2)
                      · have := (hX.lt q e1).2
                        rw [r] at e2
                        injection e2 with e3
                        omega
                    replace hX := row_keep hX hs' hk' (fun q e1 e2 => HXYo.out q e1 e2)
                    replace c := hB' _ _ (Nat.le_refl _) c
                    refine hK.out _ _ (HS.out _ c) (fun hH => ?_)
                    clear hK
                    clear hs' hk' hB' hat' hY HXYo
                    have hY := gY
                    clear gY
                    refine wpZ_ready (rs := [13]) (by kernel_rfl) (by simp) ?_
                    refine AllZ.cons rfl (fun K hK => ?_) AllZ.nil
                    simp only [List.getElem_toArray, List.getElem_cons_succ, List.getElem_cons_zero]
                    refine wpr_append_ro (by rfl) _ _ rfl wz.heap.size v5 xY2 (.slice (some ⟨Ba, 0, none⟩) S S) T.post (zerosL S) (by exact hY) rfl rfl (hA0.below c) c.size (by rw [Hl.out.2, zeros_length]; omega) ?_
                    intro xY3 v6 gY hs' hk' hB' hat'
                    have HXYo := HXY
                    replace HXY : Hid (∀ q, xX3.ownBlock = some q → xY3.ownBlock ≠ some q) := fun q e1 e2 => by
                      rcases hat' with r | r
                      · exact HXYo.out q e1 (by rw [← r]; exact e2)
                      · have := (hX.lt q e1).2
                        rw [r] at e2
                        injection e2 with e3
                        omega
                    replace hX := row_keep hX hs' hk' (fun q e1 e2 => HXYo.out q e1 e2)
                    replace c := hB' _ _ (Nat.le_refl _) c
                    refine hK.out _ _ (HS.out _ c) (fun hH => ?_)
                    clear hK
                    clear hs' hk' hB' hat' hY HXYo
                    have hY := gY
                    clear gY
                    obtain ⟨xa1, xl1, xc1, rfl⟩ := ownsRow_slice hX
                    obtain ⟨xa2, xl2, xc2, rfl⟩ := ownsRow_slice hY
                    have O1 := (ownsRow_on hX).weaken (D' := fun k => wb.heap.size ≤ k) (fun k _ hk => Nat.le_trans bz.size hk.2)
                    have O2 := (ownsRow_on hY).weaken (D' := fun k => wb.heap.size ≤ k) (fun k _ hk => Nat.le_trans bz.size hk.2)
                    replace O1 := O1.mono (fun w'' h => ownsRow_ints h HlX.out)
                    replace O2 := O2.mono (fun w'' h => ownsRow_ints h HlY.out)
                    clear hX hY HXY
                    refine wpZ_takeP (i := 14) (v := .agg #[.int .i64 0, .slice xa1 xl1 xc1, .slice xa2 xl2 xc2]) rfl (by kernel_rfl) (by kernel_rfl) (by kernel_rfl) (fun _ _ _ h => h) (.inl ⟨by rfl, fun w' hS' => by first | (go_simp; done) | (go_simp; rfl) | (go_simp; intro h; omega) | (go_simp; omega)⟩) hH (by decide) ?_
                    simp only [List.getElem_toArray, List.getElem_cons_succ, List.getElem_cons_zero, Act.put, List.setIfInBounds_toArray, List.set_cons_zero, List.set_cons_succ]
                    have bs := below_new v6 (.cells #[.int .i64 0, .slice xa1 xl1 xc1, .slice xa2 xl2 xc2] 54)
                    obtain ⟨Bb, HBb⟩ : ∃ B, Hid (v6.heap.size = B) := ⟨_, rfl⟩
                    have hcell : ∀ j u, (tvCells [(0, .slice xa1 xl1 xc1, .slice xa2 xl2 xc2)])[j]? = some u → (v6.alloc (.cells #[.int .i64 0, .slice xa1 xl1 xc1, .slice xa2 xl2 xc2] 54)).cell? ⟨Bb, 0 + j, none⟩ = some u := fun j u hj => by
                      rw [← HBb.out, Nat.zero_add, World.cell?_alloc_at _ _ _ _ rfl]
                      simpa [tvCells] using hj
                    obtain ⟨u3, Hu3⟩ : ∃ v, Hid (v6.alloc (.cells #[.int .i64 0, .slice xa1 xl1 xc1, .slice xa2 xl2 xc2] 54) = v) := ⟨_, rfl⟩
                    rw [Hu3.out] at bs hcell
                    refine wpZ_ready (rs := [15]) (by kernel_rfl) (by simp) ?_
                    refine AllZ.cons rfl (fun K hK => ?_) AllZ.nil
                    simp only [List.getElem_toArray, List.getElem_cons_succ, List.getElem_cons_zero]
                    rw [if_pos (by rfl)]
                    go_wp2_with fail
                    rw [Hu3.out, HBb.out]
                    have c3 := c
                    replace c := below_then c bs
                    refine hK.out _ _ (HS.out _ c) (fun hH => ?_)
                    clear hK
                    have b := below_then bz c
                    refine wpZ_ready (rs := [16]) (by kernel_rfl) (by simp) ?_
                    refine AllZ.cons rfl (fun K hK => ?_) AllZ.nil
                    simp only [List.getElem_toArray, List.getElem_cons_succ, List.getElem_cons_zero]
                    refine wpr_append_net (by rfl) _ _ rfl (Bo + 1) u3 (.slice av lv cv) tv [(0, .slice xa1 xl1 xc1, .slice xa2 xl2 xc2)] Bb 0 1 1 (hO.to b).own rfl rfl rfl hcell (by intro u hu; simp only [tvCells, List.flatMap_cons, List.flatMap_nil, List.append_nil, List.cons_append, List.nil_append, List.mem_cons, List.not_mem_nil, or_false] at hu; rcases hu with rfl | rfl | rfl <;> rfl) (by have := Htl2.out; omega) ((hO.to b).size) ?_
                    intro nv u4 hown hg hat
                    obtain ⟨na, nl, nc, rfl⟩ := ownsRow_slice hown
                    obtain ⟨g1, g2⟩ := hO.after b hg
                    have hHS4 : u4.cell? ⟨Bo, 1, none⟩ = some (.slice av lv cv) ∧ u4.cell? ⟨Bt, 0, none⟩ = some (.int .i64 0) ∧ u4.cell? ⟨Bt, 1, none⟩ = some (.slice e1 m1 q1) ∧ u4.cell? ⟨Bt, 2, none⟩ = some (.slice e2 m2 q2) := by
                      refine ⟨g1, ?_, ?_, ?_⟩
                      · rw [hO.afterT b hg (a := ⟨Bt, 0, none⟩) hBt1 hBt2]; exact (HS.out _ c).2.1
                      · rw [hO.afterT b hg (a := ⟨Bt, 1, none⟩) hBt1 hBt2]; exact (HS.out _ c).2.2.1
                      · rw [hO.afterT b hg (a := ⟨Bt, 2, none⟩) hBt1 hBt2]; exact (HS.out _ c).2.2.2
                    refine hK.out _ _ hHS4 (fun hH => ?_)
                    clear hK
                    refine wpZ_takeP (i := 17) (v := .pointer (some ⟨Bo, 1, none⟩)) rfl (by kernel_rfl) (by kernel_rfl) (by kernel_rfl) (fun _ _ _ h => h) (.inl ⟨by rfl, fun w' hS' => by first | (go_simp; done) | (go_simp; rfl) | (go_simp; intro h; omega) | (go_simp; omega)⟩) hH (by decide) ?_
                    simp only [List.getElem_toArray, List.getElem_cons_succ, List.getElem_cons_zero, Act.put, List.setIfInBounds_toArray, List.set_cons_zero, List.set_cons_succ]
                    refine wpZ_ready (rs := [18]) (by kernel_rfl) (by simp) ?_
                    refine AllZ.last rfl (by kernel_rfl) (fun K hK => ?_) AllZ.nil
                    simp only [List.getElem_toArray, List.getElem_cons_succ, List.getElem_cons_zero]
                    rw [if_pos (by rfl)]
                    go_wp2_with fail
                    refine hK.out _ _ ?_
                    clear hK
                    refine wpZ_done (by kernel_rfl) ?_ _
                    have R := hO.step (vs := [⟨0, T.pre ++ zerosL S, T.post ++ zerosL S⟩]) (xs := [(0, .slice xa1 xl1 xc1, .slice xa2 xl2 xc2)]) rfl b (fun j hj => by
                      obtain rfl : j = 0 := by simp at hj; omega
                      exact ⟨rfl, O1.below bs, O2.below bs⟩
                      ) hown hg hat
                    rw [Hvs.out] at R
                    clear hown hg hat g1 g2 hHS4 hcell c c3 b bs O1 O2
                    go_wp2
                    go_roundg (gk - 1)
                    case measure => omega
                    case rel => exact ⟨k + 1, _, _, _, by omega, by go_num, by rw [e.out], rfl, R⟩
                · simp only [List.getElem_toArray, List.getElem_cons_succ, List.getElem_cons_zero]
                  rw [if_pos (by rfl)]
                  have bs := below_new v0 (.cells #[] 3)
                  have hY := int_lit v0 wz.heap.size c.size
                  obtain ⟨xY1, HxY⟩ : ∃ v, Hid (Value.slice (some ⟨v0.heap.size, 0, none⟩) 0 0 = v) := ⟨_, rfl⟩
                  have HBY : Hid (xY1.ownBlock = some v0.heap.size) := by rw [← HxY.out]; rfl
                  obtain ⟨v1, Hv1⟩ : ∃ v, Hid (v0.alloc (.cells #[] 3) = v) := ⟨_, rfl⟩
                  rw [Hv1.out] at bs hY
                  rw [HxY.out] at hY
                  go_wp2_with fail
                  rw [Hv1.out, HxY.out]
                  replace c := below_then c bs
                  refine hK.out _ _ (HS.out _ c) (fun hH => ?_)
                  clear hK
                  clear bs Hv1 HxY HBY
                  have bs := below_new v1 (.cells #[] 3)
                  have hX := int_lit v1 wz.heap.size c.size
                  obtain ⟨xX1, HxX⟩ : ∃ v, Hid (Value.slice (some ⟨v1.heap.size, 0, none⟩) 0 0 = v) := ⟨_, rfl⟩
                  have HBX : Hid (xX1.ownBlock = some v1.heap.size) := by rw [← HxX.out]; rfl
                  obtain ⟨v2, Hv2⟩ : ∃ v, Hid (v1.alloc (.cells #[] 3) = v) := ⟨_, rfl⟩
                  rw [Hv2.out] at bs hX
                  rw [HxX.out] at hX
                  refine wpZ_ready (rs := [2]) (by kernel_rfl) (by simp) ?_
                  refine AllZ.cons rfl (fun K hK => ?_) AllZ.nil
                  simp only [List.getElem_toArray, List.getElem_cons_succ, List.getElem_cons_zero]
                  rw [if_pos (by rfl)]
                  go_wp2_with fail
                  rw [Hv2.out, HxX.out]
                  have HXY : Hid (∀ q, xX1.ownBlock = some q → xY1.ownBlock ≠ some q) := fun q e1 e2 => by have := (hY.lt q e2).2; rw [HBX.out] at e1; injection e1 with e3; omega
                  replace hY := row_on hY bs
                  replace c := below_then c bs
                  refine hK.out _ _ (HS.out _ c) (fun hH => ?_)
                  clear hK
                  clear bs Hv2 HxX HBX
                  refine wpZ_ready (rs := [5]) (by kernel_rfl) (by simp) ?_
                  refine AllZ.cons rfl (fun K hK => ?_) AllZ.nil
                  simp only [List.getElem_toArray, List.getElem_cons_succ, List.getElem_cons_zero]
                  refine wpr_append_ro (by rfl) _ _ rfl wz.heap.size v2 xX1 (.slice e1 m1 q1) [] T.pre (by exact hX) rfl rfl (i1.below (below_then bz c)) c.size (by rw [Hl.out.1]; simp; omega) ?_
                  intro xX2 v3 gX hs' hk' hB' hat'
                  have HXYo := HXY
                  replace HXY : Hid (∀ q, xX2.ownBlock = some q → xY1.ownBlock ≠ some q) := fun q e1 e2 => by
                    rcases hat' with r | r
                    · exact HXYo.out q (by rw [← r]; exact e1) e2
                    · have := (hY.lt q e2).2
                      rw [r] at e1
                      injection e1 with e3
                      omega
                  replace hY := row_keep hY hs' hk' (fun q e1 e2 => HXYo.out q e2 e1)
                  replace c := hB' _ _ (Nat.le_refl _) c
                  refine hK.out _ _ (HS.out _ c) (fun hH => ?_)
                  clear hK
                  clear hs' hk' hB' hat' hX HXYo
                  have hX := gX
                  clear gX
                  refine wpZ_ready (rs := [7]) (by kernel_rfl) (by simp) ?_
                  refine AllZ.cons rfl (fun K hK => ?_) AllZ.nil
                  simp only [List.getElem_toArray, List.getElem_cons_succ, List.getElem_cons_zero]
                  refine wpr_append_ro (by rfl) _ _ rfl wz.heap.size v3 xX2 (.slice (some ⟨Ba, 0, none⟩) S S) T.pre (zerosL S) (by exact hX) rfl rfl (hA0.below c) c.size (by rw [Hl.out.1, zeros_length]; omega) ?_
                  intro xX3 v4 gX hs' hk' hB' hat'
                  have HXYo := HXY
                  replace HXY : Hid (∀ q, xX3.ownBlock = some q → xY1.ownBlock ≠ some q) := fun q e1 e2 => by
                    rcases hat' with r | r
                    · exact HXYo.out q (by rw [← r]; exact e1) e2
                    · have := (hY.lt q e2).2
                      rw [r] at e1
                      injection e1 with e3
                      omega
                  replace hY := row_keep hY hs' hk' (fun q e1 e2 => HXYo.out q e2 e1)
                  replace c := hB' _ _ (Nat.le_refl _) c
                  refine hK.out _ _ (HS.out _ c) (fun hH => ?_)
                  clear hK
                  clear hs' hk' hB' hat' hX HXYo
                  have hX := gX
                  clear gX
                  refine wpZ_ready (rs := [11]) (by kernel_rfl) (by simp) ?_
                  refine AllZ.cons rfl (fun K hK => ?_) AllZ.nil
                  simp only [List.getElem_toArray, List.getElem_cons_succ, List.getElem_cons_zero]
                  refine wpr_append_ro (by rfl) _ _ rfl wz.heap.size v4 xY1 (.slice e2 m2 q2) [] T.post (by exact hY) rfl rfl (i2.below (below_then bz c)) c.size (by rw [Hl.out.2]; simp; omega) ?_
                  intro xY2 v5 gY hs' hk' hB' hat'
                  have HXYo := HXY
                  replace HXY : Hid (∀ q, xX3.ownBlock = some q → xY2.ownBlock ≠ some q) := fun q e1 e2 => by
                    rcases hat' with r | r
                    · exact HXYo.out q e1 (by rw [← r]; exact e2)
                    · have := (hX.lt q e1).2
                      rw [r] at e2
                      injection e2 with e3
                      omega
                  replace hX := row_keep hX hs' hk' (fun q e1 e2 => HXYo.out q e1 e2)
                  replace c := hB' _ _ (Nat.le_refl _) c
                  refine hK.out _ _ (HS.out _ c) (fun hH => ?_)
                  clear hK
                  clear hs' hk' hB' hat' hY HXYo
                  have hY := gY
                  clear gY
                  refine wpZ_ready (rs := [13]) (by kernel_rfl) (by simp) ?_
                  refine AllZ.cons rfl (fun K hK => ?_) AllZ.nil
                  simp only [List.getElem_toArray, List.getElem_cons_succ, List.getElem_cons_zero]
                  refine wpr_append_ro (by rfl) _ _ rfl wz.heap.size v5 xY2 (.slice (some ⟨Ba, 0, none⟩) S S) T.post (zerosL S) (by exact hY) rfl rfl (hA0.below c) c.size (by rw [Hl.out.2, zeros_length]; omega) ?_
                  intro xY3 v6 gY hs' hk' hB' hat'
                  have HXYo := HXY
                  replace HXY : Hid (∀ q, xX3.ownBlock = some q → xY3.ownBlock ≠ some q) := fun q e1 e2 => by
                    rcases hat' with r | r
                    · exact HXYo.out q e1 (by rw [← r]; exact e2)
                    · have := (hX.lt q e1).2
                      rw [r] at e2
                      injection e2 with e3
                      omega
                  replace hX := row_keep hX hs' hk' (fun q e1 e2 => HXYo.out q e1 e2)
                  replace c := hB' _ _ (Nat.le_refl _) c
                  refine hK.out _ _ (HS.out _ c) (fun hH => ?_)
                  clear hK
                  clear hs' hk' hB' hat' hY HXYo
                  have hY := gY
                  clear gY
                  obtain ⟨xa1, xl1, xc1, rfl⟩ := ownsRow_slice hX
                  obtain ⟨xa2, xl2, xc2, rfl⟩ := ownsRow_slice hY
                  have O1 := (ownsRow_on hX).weaken (D' := fun k => wb.heap.size ≤ k) (fun k _ hk => Nat.le_trans bz.size hk.2)
                  have O2 := (ownsRow_on hY).weaken (D' := fun k => wb.heap.size ≤ k) (fun k _ hk => Nat.le_trans bz.size hk.2)
                  replace O1 := O1.mono (fun w'' h => ownsRow_ints h HlX.out)
                  replace O2 := O2.mono (fun w'' h => ownsRow_ints h HlY.out)
                  clear hX hY HXY
                  refine wpZ_takeP (i := 14) (v := .agg #[.int .i64 0, .slice xa1 xl1 xc1, .slice xa2 xl2 xc2]) rfl (by kernel_rfl) (by kernel_rfl) (by kernel_rfl) (fun _ _ _ h => h) (.inl ⟨by rfl, fun w' hS' => by first | (go_simp; done) | (go_simp; rfl) | (go_simp; intro h; omega) | (go_simp; omega)⟩) hH (by decide) ?_
                  simp only [List.getElem_toArray, List.getElem_cons_succ, List.getElem_cons_zero, Act.put, List.setIfInBounds_toArray, List.set_cons_zero, List.set_cons_succ]
                  have bs := below_new v6 (.cells #[.int .i64 0, .slice xa1 xl1 xc1, .slice xa2 xl2 xc2] 54)
                  obtain ⟨Bb, HBb⟩ : ∃ B, Hid (v6.heap.size = B) := ⟨_, rfl⟩
                  have hcell : ∀ j u, (tvCells [(0, .slice xa1 xl1 xc1, .slice xa2 xl2 xc2)])[j]? = some u → (v6.alloc (.cells #[.int .i64 0, .slice xa1 xl1 xc1, .slice xa2 xl2 xc2] 54)).cell? ⟨Bb, 0 + j, none⟩ = some u := fun j u hj => by
                    rw [← HBb.out, Nat.zero_add, World.cell?_alloc_at _ _ _ _ rfl]
                    simpa [tvCells] using hj
                  obtain ⟨u3, Hu3⟩ : ∃ v, Hid (v6.alloc (.cells #[.int .i64 0, .slice xa1 xl1 xc1, .slice xa2 xl2 xc2] 54) = v) := ⟨_, rfl⟩
                  rw [Hu3.out] at bs hcell
                  refine wpZ_ready (rs := [15]) (by kernel_rfl) (by simp) ?_
                  refine AllZ.cons rfl (fun K hK => ?_) AllZ.nil
                  simp only [List.getElem_toArray, List.getElem_cons_succ, List.getElem_cons_zero]
                  rw [if_pos (by rfl)]
                  go_wp2_with fail
                  rw [Hu3.out, HBb.out]
                  have c3 := c
                  replace c := below_then c bs
                  refine hK.out _ _ (HS.out _ c) (fun hH => ?_)
                  clear hK
                  have b := below_then bz c
                  refine wpZ_ready (rs := [16]) (by kernel_rfl) (by simp) ?_
                  refine AllZ.cons rfl (fun K hK => ?_) AllZ.nil
                  simp only [List.getElem_toArray, List.getElem_cons_succ, List.getElem_cons_zero]
                  refine wpr_append_net (by rfl) _ _ rfl (Bo + 1) u3 (.slice av lv cv) tv [(0, .slice xa1 xl1 xc1, .slice xa2 xl2 xc2)] Bb 0 1 1 (hO.to b).own rfl rfl rfl hcell (by intro u hu; simp only [tvCells, List.flatMap_cons, List.flatMap_nil, List.append_nil, List.cons_append, List.nil_append, List.mem_cons, List.not_mem_nil, or_false] at hu; rcases hu with rfl | rfl | rfl <;> rfl) (by have := Htl2.out; omega) ((hO.to b).size) ?_
                  intro nv u4 hown hg hat
                  obtain ⟨na, nl, nc, rfl⟩ := ownsRow_slice hown
                  obtain ⟨g1, g2⟩ := hO.after b hg
                  have hHS4 : u4.cell? ⟨Bo, 1, none⟩ = some (.slice av lv cv) ∧ u4.cell? ⟨Bt, 0, none⟩ = some (.int .i64 0) ∧ u4.cell? ⟨Bt, 1, none⟩ = some (.slice e1 m1 q1) ∧ u4.cell? ⟨Bt, 2, none⟩ = some (.slice e2 m2 q2) := by
                    refine ⟨g1, ?_, ?_, ?_⟩
                    · rw [hO.afterT b hg (a := ⟨Bt, 0, none⟩) hBt1 hBt2]; exact (HS.out _ c).2.1
                    · rw [hO.afterT b hg (a := ⟨Bt, 1, none⟩) hBt1 hBt2]; exact (HS.out _ c).2.2.1
                    · rw [hO.afterT b hg (a := ⟨Bt, 2, none⟩) hBt1 hBt2]; exact (HS.out _ c).2.2.2
                  refine hK.out _ _ hHS4 (fun hH => ?_)
                  clear hK
                  refine wpZ_takeP (i := 17) (v := .pointer (some ⟨Bo, 1, none⟩)) rfl (by kernel_rfl) (by kernel_rfl) (by kernel_rfl) (fun _ _ _ h => h) (.inl ⟨by rfl, fun w' hS' => by first | (go_simp; done) | (go_simp; rfl) | (go_simp; intro h; omega) | (go_simp; omega)⟩) hH (by decide) ?_
                  simp only [List.getElem_toArray, List.getElem_cons_succ, List.getElem_cons_zero, Act.put, List.setIfInBounds_toArray, List.set_cons_zero, List.set_cons_succ]
                  refine wpZ_ready (rs := [18]) (by kernel_rfl) (by simp) ?_
                  refine AllZ.last rfl (by kernel_rfl) (fun K hK => ?_) AllZ.nil
                  simp only [List.getElem_toArray, List.getElem_cons_succ, List.getElem_cons_zero]
                  rw [if_pos (by rfl)]
                  go_wp2_with fail
                  refine hK.out _ _ ?_
                  clear hK
                  refine wpZ_done (by kernel_rfl) ?_ _
                  have R := hO.step (vs := [⟨0, T.pre ++ zerosL S, T.post ++ zerosL S⟩]) (xs := [(0, .slice xa1 xl1 xc1, .slice xa2 xl2 xc2)]) rfl b (fun j hj => by
                    obtain rfl : j = 0 := by simp at hj; omega
                    exact ⟨rfl, O1.below bs, O2.below bs⟩
                    ) hown hg hat
                  rw [Hvs.out] at R
                  clear hown hg hat g1 g2 hHS4 hcell c c3 b bs O1 O2
                  go_wp2
                  go_roundg (gk - 1)
                  case measure => omega
                  case rel => exact ⟨k + 1, _, _, _, by omega, by go_num, by rw [e.out], rfl, R⟩
              · have hL1 : (L == 0) = false := by simpa using hL
                have hlt := Hlt.out hL
                have e : Hid (seenTo n.trans (k + 1) = sk + 1) := by show _ = _; rw [Hsn.out, if_neg hL]
                have Hvs : Hid (us ++ [⟨0, T.pre ++ zerosL S, zerosL P ++ oneAt S sk⟩, ⟨L, zerosL P ++ oneAt S sk, T.post ++ zerosL S⟩] = busyTo n.trans P S (k + 1)) := by
                  show _ = _
                  rw [Hnx.out, busyT, if_neg (by rw [HLb.out]; exact hL), HLb.out]
                have HlX : Hid ((T.pre ++ zerosL S).length ≤ 17592186044416) := by show _ ≤ _; rw [List.length_append, Hl.out.1, zeros_length]; omega
                have HlY : Hid ((T.post ++ zerosL S).length ≤ 17592186044416) := by show _ ≤ _; rw [List.length_append, Hl.out.2, zeros_length]; omega
                have hmk2 := make_zeros wa S (by omega)
                have bO1 := below_new wa (.cells (List.replicate S (Value.int .i64 0)).toArray 3)
                have hZ1 := cellsAtZ_new wa S
                obtain ⟨B1, HB1⟩ : ∃ B, Hid (wa.heap.size = B) := ⟨_, rfl⟩
                rw [HB1.out] at hmk2 hZ1
                obtain ⟨wo, Hwo⟩ : ∃ v, Hid (wa.alloc (.cells (List.replicate S (Value.int .i64 0)).toArray 3) = v) := ⟨_, rfl⟩
                rw [Hwo.out] at hmk2 bO1 hZ1
                have HB1le : Hid (wa.heap.size ≤ B1) := by show _ ≤ _; rw [HB1.out]; exact Nat.le_refl _
                go_upto_region 21 with fail
                clear hmk hmk2 Hwa Hwo HB1 y0 y1 y2 y3 x0 x1 x2
                have hski : (sk : Int) < (S : Int) := by omega
                have z0 := zeroAt_cell hZ1 hlt
                have z1 := zeroAt_frozen hZ1 sk
                have hOne := one_ints hZ1 hlt (by omega)
                have bO2 := bO1.setCell (p := ⟨B1, sk, none⟩) HB1le.out (.int .i64 1)
                have hA1 := hA0.below bO1
                obtain ⟨wp, Hwp⟩ : ∃ v, Hid (wo.setCell ⟨B1, sk, none⟩ (.int .i64 1) = v) := ⟨_, rfl⟩
                rw [Hwp.out] at hOne bO2
                have hA2 := hA0.below bO2
                go_upto_region 22 with fail
                rw [Hwp.out]
                clear Hwp z0 z1 hZ1 bO1 hA1
                have bP := below_then bA bO2
                obtain ⟨y0, y1, y2, y3⟩ := hbt.below bP
                obtain ⟨x0, x1, x2⟩ := hbl.below bP
                have hmk3 := make_zeros wp P (by omega)
                have bN1 := below_new wp (.cells (List.replicate P (Value.int .i64 0)).toArray 3)
                have hN0 := zeros_ints wp P (by omega)
                obtain ⟨B2, HB2⟩ : ∃ B, Hid (wp.heap.size = B) := ⟨_, rfl⟩
                rw [HB2.out] at hmk3 hN0
                obtain ⟨wn, Hwn⟩ : ∃ v, Hid (wp.alloc (.cells (List.replicate P (Value.int .i64 0)).toArray 3) = v) := ⟨_, rfl⟩
                rw [Hwn.out] at hmk3 bN1 hN0
                have hOne1 := hOne.below bN1
                have hA3 := hA2.below bN1
                have bN := below_then bP bN1
                have bl := below_new wn (.cells #[] 3)
                have hL := int_lit wn wn.heap.size (Nat.le_refl _)
                obtain ⟨wl, Hwl⟩ : ∃ v, Hid (wn.alloc (.cells #[] 3) = v) := ⟨_, rfl⟩
                rw [Hwl.out] at bl hL
                have hN1 := ints_cells1 (hN0.below bl)
                rw [zeros_length] at hN1
                have HL1 : Hid (0 + P ≤ maxLen) := by show _ ≤ _; unfold maxLen; omega
                have HL2 : Hid ((0 + P) * 8 ≤ 140737488355328) := by show _ ≤ _; omega
                have HL3 : Hid (0 + P + S ≤ maxLen) := by show _ ≤ _; unfold maxLen; omega
                have HL4 : Hid ((0 + P + S) * 8 ≤ 140737488355328) := by show _ ≤ _; omega
                go_upto_region 24 with fail
                clear hmk3 Hwn HB2 y0 y1 y2 y3 x0 x1 x2
                go_upto_region 25 with (first | (rw [Hwl.out]; at_builtin; refine wp_append_cells elem_int1 rfl _ _ rfl wn.heap.size wn wl (.slice (some ⟨wn.heap.size, 0, none⟩) 0 0) (.slice (some ⟨B2, 0, none⟩) P P) 0 P 17592186044416 [] ((zerosL P).map (Value.int .i64)) ⟨hL, bl, bl.size⟩ rfl rfl hN1 HL1.out HL2.out ?_; intro r1 wl1 hG1 _; clear hL) | (at_builtin; have hG1 : OwnC wn.heap.size wn _ 3 1 _ (0 + P) _ := (by assumption); refine wp_append_cells elem_int1 rfl _ _ rfl wn.heap.size wn _ _ (.slice (some ⟨B1, 0, none⟩) S S) (0 + P) S 17592186044416 _ ((oneAt S sk).map (Value.int .i64)) hG1 rfl rfl (by have hq := ints_cells1 (hOne1.below hG1.2.1); rw [one_length] at hq; exact hq) HL3.out HL4.out ?_; intro bv wz hG2 _))
                clear HL1 HL2 HL3 HL4
                have bz := below_then bN hG2.2.1
                have hAz := hA3.below hG2.2.1
                have hrow : wz.ownsRow wn.heap.size 3 1 bv (zerosL P ++ oneAt S sk).length ((zerosL P ++ oneAt S sk).map (Value.int .i64)) := by
                  have h := hG2.1
                  rw [List.length_append, zeros_length, one_length, List.map_append]
                  simpa using h
                have hBet := ((ownsRow_on hrow).weaken (D' := fun k => wb.heap.size ≤ k) (fun k _ hk => Nat.le_trans bN.size hk.2)).mono (fun w'' h => ownsRow_ints h (by rw [List.length_append, zeros_length, one_length]; omega))
                obtain ⟨ba, bl', bc, rfl⟩ := ownsRow_slice hrow
                clear hrow hG2 hA0 hA2 hA3 hOne hOne1 bP bN bN1 bO2 bA hN0 hN1 bl Hwl
                have HS : Hid (∀ w', Below wz.heap.size wz w' → w'.cell? ⟨Bo, 1, none⟩ = some (.slice av lv cv) ∧ w'.cell? ⟨Bt, 0, none⟩ = some (.int .i64 L) ∧ w'.cell? ⟨Bt, 1, none⟩ = some (.slice e1 m1 q1) ∧ w'.cell? ⟨Bt, 2, none⟩ = some (.slice e2 m2 q2)) := fun w' h => ⟨(hO.to (below_then bz h)).c1, (hbt.below (below_then bz h)).2.1, (hbt.below (below_then bz h)).2.2.1, (hbt.below (below_then bz h)).2.2.2⟩
                refine wp_region_Z (S := (fun w' => w'.cell? ⟨Bo, 1, none⟩ = some (.slice av lv cv) ∧ w'.cell? ⟨Bt, 0, none⟩ = some (.int .i64 L) ∧ w'.cell? ⟨Bt, 1, none⟩ = some (.slice e1 m1 q1) ∧ w'.cell? ⟨Bt, 2, none⟩ = some (.slice e2 m2 q2))) (by kernel_rfl) 23 (HS.out _ (Below.refl _ _).drew) (fun hH => ?_)
                have c : Below wz.heap.size wz wz.drew := (Below.refl _ _).drew
                obtain ⟨v0, Hv0⟩ : ∃ v0, Hid (wz.drew = v0) := ⟨_, rfl⟩
                rw [Hv0.out] at hH c ⊢
                clear Hv0
                refine wpZ_takeP (i := 0) (v := .pointer (some ⟨Bo, 1, none⟩)) rfl (by kernel_rfl) (by kernel_rfl) (by kernel_rfl) (fun _ _ _ h => h) (.inl ⟨by rfl, fun w' hS' => by first | (go_simp; done) | (go_simp; rfl) | (go_simp; intro h; omega) | (go_simp; omega)⟩) hH (by decide) ?_
                simp only [List.getElem_toArray, List.getElem_cons_succ, List.getElem_cons_zero, Act.put, List.setIfInBounds_toArray, List.set_cons_zero, List.set_cons_succ]
                refine wpZ_take (i := 1) (v := .slice av lv cv) rfl (by kernel_rfl) (by kernel_rfl) (by kernel_rfl) (fun _ _ _ h => h) (.inl ⟨by rfl, fun w' hS' => by obtain ⟨s0, s1, s2, s3⟩ := hS'; go_simp⟩) hH rfl (by decide) (by kernel_rfl) (by kernel_rfl) ?_
                simp only [List.getElem_toArray, List.getElem_cons_succ, List.getElem_cons_zero, Act.put, List.setIfInBounds_toArray, List.set_cons_zero, List.set_cons_succ]
                refine wpZ_takeP (i := 3) (v := .pointer (some ⟨Bt, 1, none⟩)) rfl (by kernel_rfl) (by kernel_rfl) (by kernel_rfl) (fun _ _ _ h => h) (.inl ⟨by rfl, fun w' hS' => by first | (go_simp; done) | (go_simp; rfl) | (go_simp; intro h; omega) | (go_simp; omega)⟩) hH (by decide) ?_
                simp only [List.getElem_toArray, List.getElem_cons_succ, List.getElem_cons_zero, Act.put, List.setIfInBounds_toArray, List.set_cons_zero, List.set_cons_succ]
                refine wpZ_take (i := 4) (v := .slice e1 m1 q1) rfl (by kernel_rfl) (by kernel_rfl) (by kernel_rfl) (fun _ _ _ h => h) (.inl ⟨by rfl, fun w' hS' => by obtain ⟨s0, s1, s2, s3⟩ := hS'; go_simp⟩) hH rfl (by decide) (by kernel_rfl) (by kernel_rfl) ?_
                simp only [List.getElem_toArray, List.getElem_cons_succ, List.getElem_cons_zero, Act.put, List.setIfInBounds_toArray, List.set_cons_zero, List.set_cons_succ]
                refine wpZ_takeP (i := 6) (v := .slice (some ⟨Ba, 0, none⟩) S S) rfl (by kernel_rfl) (by kernel_rfl) (by kernel_rfl) (fun _ _ _ h => h) (.inl ⟨by rfl, fun _ _ => rfl⟩) hH (by decide) ?_
                simp only [List.getElem_toArray, List.getElem_cons_succ, List.getElem_cons_zero, Act.put, List.setIfInBounds_toArray, List.set_cons_zero, List.set_cons_succ]
                refine wpZ_takeP (i := 8) (v := .slice ba bl' bc) rfl (by kernel_rfl) (by kernel_rfl) (by kernel_rfl) (fun _ _ _ h => h) (.inl ⟨by rfl, fun _ _ => rfl⟩) hH (by decide) ?_
                simp only [List.getElem_toArray, List.getElem_cons_succ, List.getElem_cons_zero, Act.put, List.setIfInBounds_toArray, List.set_cons_zero, List.set_cons_succ]
                refine wpZ_takeP (i := 10) (v := .pointer (some ⟨Bt, 0, none⟩)) rfl (by kernel_rfl) (by kernel_rfl) (by kernel_rfl) (fun _ _ _ h => h) (.inl ⟨by rfl, fun w' hS' => by first | (go_simp; done) | (go_simp; rfl) | (go_simp; intro h; omega) | (go_simp; omega)⟩) hH (by decide) ?_
                simp only [List.getElem_toArray, List.getElem_cons_succ, List.getElem_cons_zero, Act.put, List.setIfInBounds_toArray, List.set_cons_zero, List.set_cons_succ]
                refine wpZ_take (i := 11) (v := .int .i64 L) rfl (by kernel_rfl) (by kernel_rfl) (by kernel_rfl) (fun _ _ _ h => h) (.inl ⟨by rfl, fun w' hS' => by obtain ⟨s0, s1, s2, s3⟩ := hS'; go_simp⟩) hH rfl (by decide) (by kernel_rfl) (by kernel_rfl) ?_
                simp only [List.getElem_toArray, List.getElem_cons_succ, List.getElem_cons_zero, Act.put, List.setIfInBounds_toArray, List.set_cons_zero, List.set_cons_succ]
                refine wpZ_takeP (i := 12) (v := .slice ba bl' bc) rfl (by kernel_rfl) (by kernel_rfl) (by kernel_rfl) (fun _ _ _ h => h) (.inl ⟨by rfl, fun _ _ => rfl⟩) hH (by decide) ?_
                simp only [List.getElem_toArray, List.getElem_cons_succ, List.getElem_cons_zero, Act.put, List.setIfInBounds_toArray, List.set_cons_zero, List.set_cons_succ]
                refine wpZ_takeP (i := 14) (v := .pointer (some ⟨Bt, 2, none⟩)) rfl (by kernel_rfl) (by kernel_rfl) (by kernel_rfl) (fun _ _ _ h => h) (.inl ⟨by rfl, fun w' hS' => by first | (go_simp; done) | (go_simp; rfl) | (go_simp; intro h; omega) | (go_simp; omega)⟩) hH (by decide) ?_
                simp only [List.getElem_toArray, List.getElem_cons_succ, List.getElem_cons_zero, Act.put, List.setIfInBounds_toArray, List.set_cons_zero, List.set_cons_succ]
                refine wpZ_take (i := 15) (v := .slice e2 m2 q2) rfl (by kernel_rfl) (by kernel_rfl) (by kernel_rfl) (fun _ _ _ h => h) (.inl ⟨by rfl, fun w' hS' => by obtain ⟨s0, s1, s2, s3⟩ := hS'; go_simp⟩) hH rfl (by decide) (by kernel_rfl) (by kernel_rfl) ?_
                simp only [List.getElem_toArray, List.getElem_cons_succ, List.getElem_cons_zero, Act.put, List.setIfInBounds_toArray, List.set_cons_zero, List.set_cons_succ]
                refine wpZ_takeP (i := 17) (v := .slice (some ⟨Ba, 0, none⟩) S S) rfl (by kernel_rfl) (by kernel_rfl) (by kernel_rfl) (fun _ _ _ h => h) (.inl ⟨by rfl, fun _ _ => rfl⟩) hH (by decide) ?_
                simp only [List.getElem_toArray, List.getElem_cons_succ, List.getElem_cons_zero, Act.put, List.setIfInBounds_toArray, List.set_cons_zero, List.set_cons_succ]
                refine wpZ_ready (rs := [2, 13]) (by kernel_rfl) (by simp) ?_
                refine (AllZ.cons rfl (fun K hK => ?_) (AllZ.cons rfl (fun K hK => ?_) AllZ.nil))
                · simp only [List.getElem_toArray, List.getElem_cons_succ, List.getElem_cons_zero]
                  rw [if_pos (by rfl)]
                  have bs := below_new v0 (.cells #[] 3)
                  have hX := int_lit v0 wz.heap.size c.size
                  obtain ⟨xX1, HxX⟩ : ∃ v, Hid (Value.slice (some ⟨v0.heap.size, 0, none⟩) 0 0 = v) := ⟨_, rfl⟩
                  have HBX : Hid (xX1.ownBlock = some v0.heap.size) := by rw [← HxX.out]; rfl
                  obtain ⟨v1, Hv1⟩ : ∃ v, Hid (v0.alloc (.cells #[] 3) = v) := ⟨_, rfl⟩
                  rw [Hv1.out] at bs hX
                  rw [HxX.out] at hX
                  go_wp2_with fail
                  rw [Hv1.out, HxX.out]
                  replace c := below_then c bs
                  refine hK.out _ _ (HS.out _ c) (fun hH => ?_)
                  clear hK
                  clear bs Hv1 HxX HBX
                  refine wpZ_ready (rs := [5, 13]) (by kernel_rfl) (by simp) ?_
                  refine (AllZ.cons rfl (fun K hK => ?_) (AllZ.cons rfl (fun K hK => ?_) AllZ.nil))
                  · simp only [List.getElem_toArray, List.getElem_cons_succ, List.getElem_cons_zero]
                    refine wpr_append_ro (by rfl) _ _ rfl wz.heap.size v1 xX1 (.slice e1 m1 q1) [] T.pre (by exact hX) rfl rfl (i1.below (below_then bz c)) c.size (by rw [Hl.out.1]; simp; omega) ?_
                    intro xX2 v2 gX hs' hk' hB' hat'
                    replace c := hB' _ _ (Nat.le_refl _) c
                    refine hK.out _ _ (HS.out _ c) (fun hH => ?_)
                    clear hK
                    clear hs' hk' hB' hat' hX
                    have hX := gX
                    clear gX
                    refine wpZ_ready (rs := [7, 13]) (by kernel_rfl) (by simp) ?_
                    refine (AllZ.cons rfl (fun K hK => ?_) (AllZ.cons rfl (fun K hK => ?_) AllZ.nil))
                    · simp only [List.getElem_toArray, List.getElem_cons_succ, List.getElem_cons_zero]
                      refine wpr_append_ro (by rfl) _ _ rfl wz.heap.size v2 xX2 (.slice (some ⟨Ba, 0, none⟩) S S) T.pre (zerosL S) (by exact hX) rfl rfl (hAz.below c) c.size (by rw [Hl.out.1, zeros_length]; omega) ?_
                      intro xX3 v3 gX hs' hk' hB' hat'
                      replace c := hB' _ _ (Nat.le_refl _) c
                      refine hK.out _ _ (HS.out _ c) (fun hH => ?_)
                      clear hK
                      clear hs' hk' hB' hat' hX
                      have hX := gX
                      clear gX
                      obtain ⟨xa1, xl1, xc1, rfl⟩ := ownsRow_slice hX
                      refine wpZ_takeP (i := 9) (v := .agg #[.int .i64 0, .slice xa1 xl1 xc1, .slice ba bl' bc]) rfl (by kernel_rfl) (by kernel_rfl) (by kernel_rfl) (fun _ _ _ h => h) (.inl ⟨by rfl, fun w' hS' => by first | (go_simp; done) | (go_simp; rfl) | (go_simp; intro h; omega) | (go_simp; omega)⟩) hH (by decide) ?_
                      simp only [List.getElem_toArray, List.getElem_cons_succ, List.getElem_cons_zero, Act.put, List.setIfInBounds_toArray, List.set_cons_zero, List.set_cons_succ]
                      have bs := below_new v3 (.cells #[] 3)
                      have hY := int_lit v3 wz.heap.size c.size
                      obtain ⟨xY1, HxY⟩ : ∃ v, Hid (Value.slice (some ⟨v3.heap.size, 0, none⟩) 0 0 = v) := ⟨_, rfl⟩
                      have HBY : Hid (xY1.ownBlock = some v3.heap.size) := by rw [← HxY.out]; rfl
                      obtain ⟨v4, Hv4⟩ : ∃ v, Hid (v3.alloc (.cells #[] 3) = v) := ⟨_, rfl⟩
                      rw [Hv4.out] at bs hY
                      rw [HxY.out] at hY
                      refine wpZ_ready (rs := [13]) (by kernel_rfl) (by simp) ?_
                      refine AllZ.cons rfl (fun K hK => ?_) AllZ.nil
                      simp only [List.getElem_toArray, List.getElem_cons_succ, List.getElem_cons_zero]
                      rw [if_pos (by rfl)]
                      go_wp2_with fail
                      rw [Hv4.out, HxY.out]
                      have HXY : Hid (∀ q, (Value.slice xa1 xl1 xc1).ownBlock = some q → xY1.ownBlock ≠ some q) := fun q e1 e2 => by have := (hX.lt q e1).2; rw [HBY.out] at e2; injection e2 with e3; omega
                      replace hX := row_on hX bs
                      replace c := below_then c bs
                      refine hK.out _ _ (HS.out _ c) (fun hH => ?_)
                      clear hK
                      clear bs Hv4 HxY HBY
                      refine wpZ_ready (rs := [16]) (by kernel_rfl) (by simp) ?_
                      refine AllZ.cons rfl (fun K hK => ?_) AllZ.nil
                      simp only [List.getElem_toArray, List.getElem_cons_succ, List.getElem_cons_zero]
                      refine wpr_append_ro (by rfl) _ _ rfl wz.heap.size v4 xY1 (.slice e2 m2 q2) [] T.post (by exact hY) rfl rfl (i2.below (below_then bz c)) c.size (by rw [Hl.out.2]; simp; omega) ?_
                      intro xY2 v5 gY hs' hk' hB' hat'
                      have HXYo := HXY
                      replace HXY : Hid (∀ q, (Value.slice xa1 xl1 xc1).ownBlock = some q → xY2.ownBlock ≠ some q) := fun q e1 e2 => by
                        rcases hat' with r | r
                        · exact HXYo.out q e1 (by rw [← r]; exact e2)
                        · have := (hX.lt q e1).2
                          rw [r] at e2
                          injection e2 with e3
                          omega
                      replace hX := row_keep hX hs' hk' (fun q e1 e2 => HXYo.out q e1 e2)
                      replace c := hB' _ _ (Nat.le_refl _) c
                      refine hK.out _ _ (HS.out _ c) (fun hH => ?_)
                      clear hK
                      clear hs' hk' hB' hat' hY HXYo
                      have hY := gY
                      clear gY
                      refine wpZ_ready (rs := [18]) (by kernel_rfl) (by simp) ?_
                      refine AllZ.cons rfl (fun K hK => ?_) AllZ.nil
                      simp only [List.getElem_toArray, List.getElem_cons_succ, List.getElem_cons_zero]
                      refine wpr_append_ro (by rfl) _ _ rfl wz.heap.size v5 xY2 (.slice (some ⟨Ba, 0, none⟩) S S) T.post (zerosL S) (by exact hY) rfl rfl (hAz.below c) c.size (by rw [Hl.out.2, zeros_length]; omega) ?_
                      intro xY3 v6 gY hs' hk' hB' hat'
                      have HXYo := HXY
                      replace HXY : Hid (∀ q, (Value.slice xa1 xl1 xc1).ownBlock = some q → xY3.ownBlock ≠ some q) := fun q e1 e2 => by
                        rcases hat' with r | r
                        · exact HXYo.out q e1 (by rw [← r]; exact e2)
                        · have := (hX.lt q e1).2
                          rw [r] at e2
                          injection e2 with e3
                          omega
                      replace hX := row_keep hX hs' hk' (fun q e1 e2 => HXYo.out q e1 e2)
                      replace c := hB' _ _ (Nat.le_refl _) c
                      refine hK.out _ _ (HS.out _ c) (fun hH => ?_)
                      clear hK
                      clear hs' hk' hB' hat' hY HXYo
                      have hY := gY
                      clear gY
                      obtain ⟨xa2, xl2, xc2, rfl⟩ := ownsRow_slice hY
                      have O1 := (ownsRow_on hX).weaken (D' := fun k => wb.heap.size ≤ k) (fun k _ hk => Nat.le_trans bz.size hk.2)
                      have O2 := (ownsRow_on hY).weaken (D' := fun k => wb.heap.size ≤ k) (fun k _ hk => Nat.le_trans bz.size hk.2)
                      replace O1 := O1.mono (fun w'' h => ownsRow_ints h HlX.out)
                      replace O2 := O2.mono (fun w'' h => ownsRow_ints h HlY.out)
                      clear hX hY HXY
                      refine wpZ_takeP (i := 19) (v := .agg #[.int .i64 L, .slice ba bl' bc, .slice xa2 xl2 xc2]) rfl (by kernel_rfl) (by kernel_rfl) (by kernel_rfl) (fun _ _ _ h => h) (.inl ⟨by rfl, fun w' hS' => by first | (go_simp; done) | (go_simp; rfl) | (go_simp; intro h; omega) | (go_simp; omega)⟩) hH (by decide) ?_
                      simp only [List.getElem_toArray, List.getElem_cons_succ, List.getElem_cons_zero, Act.put, List.setIfInBounds_toArray, List.set_cons_zero, List.set_cons_succ]
                      have bs := below_new v6 (.cells #[.int .i64 0, .slice xa1 xl1 xc1, .slice ba bl' bc, .int .i64 L, .slice ba bl' bc, .slice xa2 xl2 xc2] 54)
                      obtain ⟨Bb, HBb⟩ : ∃ B, Hid (v6.heap.size = B) := ⟨_, rfl⟩
                      have hcell : ∀ j u, (tvCells [(0, .slice xa1 xl1 xc1, .slice ba bl' bc), (L, .slice ba bl' bc, .slice xa2 xl2 xc2)])[j]? = some u → (v6.alloc (.cells #[.int .i64 0, .slice xa1 xl1 xc1, .slice ba bl' bc, .int .i64 L, .slice ba bl' bc, .slice xa2 xl2 xc2] 54)).cell? ⟨Bb, 0 + j, none⟩ = some u := fun j u hj => by
                        rw [← HBb.out, Nat.zero_add, World.cell?_alloc_at _ _ _ _ rfl]
                        simpa [tvCells] using hj
                      obtain ⟨u3, Hu3⟩ : ∃ v, Hid (v6.alloc (.cells #[.int .i64 0, .slice xa1 xl1 xc1, .slice ba bl' bc, .int .i64 L, .slice ba bl' bc, .slice xa2 xl2 xc2] 54) = v) := ⟨_, rfl⟩
                      rw [Hu3.out] at bs hcell
                      refine wpZ_ready (rs := [20]) (by kernel_rfl) (by simp) ?_
                      refine AllZ.cons rfl (fun K hK => ?_) AllZ.nil
                      simp only [List.getElem_toArray, List.getElem_cons_succ, List.getElem_cons_zero]
                      rw [if_pos (by rfl)]
                      go_wp2_with fail
                      rw [Hu3.out, HBb.out]
                      have c3 := c
                      replace c := below_then c bs
                      refine hK.out _ _ (HS.out _ c) (fun hH => ?_)
                      clear hK
                      have b := below_then bz c
                      refine wpZ_ready (rs := [21]) (by kernel_rfl) (by simp) ?_
                      refine AllZ.cons rfl (fun K hK => ?_) AllZ.nil
                      simp only [List.getElem_toArray, List.getElem_cons_succ, List.getElem_cons_zero]
                      refine wpr_append_net (by rfl) _ _ rfl (Bo + 1) u3 (.slice av lv cv) tv [(0, .slice xa1 xl1 xc1, .slice ba bl' bc), (L, .slice ba bl' bc, .slice xa2 xl2 xc2)] Bb 0 2 2 (hO.to b).own rfl rfl rfl hcell (by intro u hu; simp only [tvCells, List.flatMap_cons, List.flatMap_nil, List.append_nil, List.cons_append, List.nil_append, List.mem_cons, List.not_mem_nil, or_false] at hu; rcases hu with rfl | rfl | rfl | rfl | rfl | rfl <;> rfl) (by have := Htl2.out; omega) ((hO.to b).size) ?_
                      intro nv u4 hown hg hat
                      obtain ⟨na, nl, nc, rfl⟩ := ownsRow_slice hown
                      obtain ⟨g1, g2⟩ := hO.after b hg
                      have hHS4 : u4.cell? ⟨Bo, 1, none⟩ = some (.slice av lv cv) ∧ u4.cell? ⟨Bt, 0, none⟩ = some (.int .i64 L) ∧ u4.cell? ⟨Bt, 1, none⟩ = some (.slice e1 m1 q1) ∧ u4.cell? ⟨Bt, 2, none⟩ = some (.slice e2 m2 q2) := by
                        refine ⟨g1, ?_, ?_, ?_⟩
                        · rw [hO.afterT b hg (a := ⟨Bt, 0, none⟩) hBt1 hBt2]; exact (HS.out _ c).2.1
                        · rw [hO.afterT b hg (a := ⟨Bt, 1, none⟩) hBt1 hBt2]; exact (HS.out _ c).2.2.1
                        · rw [hO.afterT b hg (a := ⟨Bt, 2, none⟩) hBt1 hBt2]; exact (HS.out _ c).2.2.2
                      refine hK.out _ _ hHS4 (fun hH => ?_)
                      clear hK
                      refine wpZ_takeP (i := 22) (v := .pointer (some ⟨Bo, 1, none⟩)) rfl (by kernel_rfl) (by kernel_rfl) (by kernel_rfl) (fun _ _ _ h => h) (.inl ⟨by rfl, fun w' hS' => by first | (go_simp; done) | (go_simp; rfl) | (go_simp; intro h; omega) | (go_simp; omega)⟩) hH (by decide) ?_
                      simp only [List.getElem_toArray, List.getElem_cons_succ, List.getElem_cons_zero, Act.put, List.setIfInBounds_toArray, List.set_cons_zero, List.set_cons_succ]
                      refine wpZ_ready (rs := [23]) (by kernel_rfl) (by simp) ?_
                      refine AllZ.last rfl (by kernel_rfl) (fun K hK => ?_) AllZ.nil
                      simp only [List.getElem_toArray, List.getElem_cons_succ, List.getElem_cons_zero]
                      rw [if_pos (by rfl)]
                      go_wp2_with fail
                      refine hK.out _ _ ?_
                      clear hK
                      refine wpZ_done (by kernel_rfl) ?_ _
                      have R := hO.step (vs := [⟨0, T.pre ++ zerosL S, zerosL P ++ oneAt S sk⟩, ⟨L, zerosL P ++ oneAt S sk, T.post ++ zerosL S⟩]) (xs := [(0, .slice xa1 xl1 xc1, .slice ba bl' bc), (L, .slice ba bl' bc, .slice xa2 xl2 xc2)]) rfl b (fun j hj => by
                        rcases (show j = 0 ∨ j = 1 by simp at hj; omega) with rfl | rfl
                        · exact ⟨rfl, O1.below bs, hBet.below c⟩
                        · exact ⟨rfl, hBet.below c, O2.below bs⟩
                        ) hown hg hat
                      rw [Hvs.out] at R
                      clear hown hg hat g1 g2 hHS4 hcell c c3 b bs O1 O2
                      go_wp2
                      go_roundg (gk - 1)
                      case measure => omega
                      case rel => exact ⟨k + 1, _, _, _, by omega, by go_num, by rw [e.out]; go_num, rfl, R⟩
                    · simp only [List.getElem_toArray, List.getElem_cons_succ, List.getElem_cons_zero]
                      rw [if_pos (by rfl)]
                      have bs := below_new v2 (.cells #[] 3)
                      have hY := int_lit v2 wz.heap.size c.size
                      obtain ⟨xY1, HxY⟩ : ∃ v, Hid (Value.slice (some ⟨v2.heap.size, 0, none⟩) 0 0 = v) := ⟨_, rfl⟩
                      have HBY : Hid (xY1.ownBlock = some v2.heap.size) := by rw [← HxY.out]; rfl
                      obtain ⟨v3, Hv3⟩ : ∃ v, Hid (v2.alloc (.cells #[] 3) = v) := ⟨_, rfl⟩
                      rw [Hv3.out] at bs hY
                      rw [HxY.out] at hY
                      go_wp2_with fail
                      rw [Hv3.out, HxY.out]
                      have HXY : Hid (∀ q, xX2.ownBlock = some q → xY1.ownBlock ≠ some q) := fun q e1 e2 => by have := (hX.lt q e1).2; rw [HBY.out] at e2; injection e2 with e3; omega
                      replace hX := row_on hX bs
                      replace c := below_then c bs
                      refine hK.out _ _ (HS.out _ c) (fun hH => ?_)
                      clear hK
                      clear bs Hv3 HxY HBY
                      refine wpZ_ready (rs := [7]) (by kernel_rfl) (by simp) ?_
                      refine AllZ.cons rfl (fun K hK => ?_) AllZ.nil
                      simp only [List.getElem_toArray, List.getElem_cons_succ, List.getElem_cons_zero]
                      refine wpr_append_ro (by rfl) _ _ rfl wz.heap.size v3 xX2 (.slice (some ⟨Ba, 0, none⟩) S S) T.pre (zerosL S) (by exact hX) rfl rfl (hAz.below c) c.size (by rw [Hl.out.1, zeros_length]; omega) ?_
                      intro xX3 v4 gX hs' hk' hB' hat'
                      have HXYo := HXY
                      replace HXY : Hid (∀ q, xX3.ownBlock = some q → xY1.ownBlock ≠ some q) := fun q e1 e2 => by
                        rcases hat' with r | r
                        · exact HXYo.out q (by rw [← r]; exact e1) e2
                        · have := (hY.lt q e2).2
                          rw [r] at e1
                          injection e1 with e3
                          omega
                      replace hY := row_keep hY hs' hk' (fun q e1 e2 => HXYo.out q e2 e1)
                      replace c := hB' _ _ (Nat.le_refl _) c
                      refine hK.out _ _ (HS.out _ c) (fun hH => ?_)
                      clear hK
                      clear hs' hk' hB' hat' hX HXYo
                      have hX := gX
                      clear gX
                      obtain ⟨xa1, xl1, xc1, rfl⟩ := ownsRow_slice hX
                      refine wpZ_takeP (i := 9) (v := .agg #[.int .i64 0, .slice xa1 xl1 xc1, .slice ba bl' bc]) rfl (by kernel_rfl) (by kernel_rfl) (by kernel_rfl) (fun _ _ _ h => h) (.inl ⟨by rfl, fun w' hS' => by first | (go_simp; done) | (go_simp; rfl) | (go_simp; intro h; omega) | (go_simp; omega)⟩) hH (by decide) ?_
                      simp only [List.getElem_toArray, List.getElem_cons_succ, List.getElem_cons_zero, Act.put, List.setIfInBounds_toArray, List.set_cons_zero, List.set_cons_succ]
                      refine wpZ_ready (rs := [16]) (by kernel_rfl) (by simp) ?_
                      refine AllZ.cons rfl (fun K hK => ?_) AllZ.nil
                      simp only [List.getElem_toArray, List.getElem_cons_succ, List.getElem_cons_zero]
                      refine wpr_append_ro (by rfl) _ _ rfl wz.heap.size v4 xY1 (.slice e2 m2 q2) [] T.post (by exact hY) rfl rfl (i2.below (below_then bz c)) c.size (by rw [Hl.out.2]; simp; omega) ?_
                      intro xY2 v5 gY hs' hk' hB' hat'
                      have HXYo := HXY
                      replace HXY : Hid (∀ q, (Value.slice xa1 xl1 xc1).ownBlock = some q → xY2.ownBlock ≠ some q) := fun q e1 e2 => by
                        rcases hat' with r | r
                        · exact HXYo.out q e1 (by rw [← r]; exact e2)
                        · have := (hX.lt q e1).2
                          rw [r] at e2
                          injection e2 with e3
                          omega
                      replace hX := row_keep hX hs' hk' (fun q e1 e2 => HXYo.out q e1 e2)
                      replace c := hB' _ _ (Nat.le_refl _) c
                      refine hK.out _ _ (HS.out _ c) (fun hH => ?_)
                      clear hK
                      clear hs' hk' hB' hat' hY HXYo
                      have hY := gY
                      clear gY
                      refine wpZ_ready (rs := [18]) (by kernel_rfl) (by simp) ?_
                      refine AllZ.cons rfl (fun K hK => ?_) AllZ.nil
                      simp only [List.getElem_toArray, List.getElem_cons_succ, List.getElem_cons_zero]
                      refine wpr_append_ro (by rfl) _ _ rfl wz.heap.size v5 xY2 (.slice (some ⟨Ba, 0, none⟩) S S) T.post (zerosL S) (by exact hY) rfl rfl (hAz.below c) c.size (by rw [Hl.out.2, zeros_length]; omega) ?_
                      intro xY3 v6 gY hs' hk' hB' hat'
                      have HXYo := HXY
                      replace HXY : Hid (∀ q, (Value.slice xa1 xl1 xc1).ownBlock = some q → xY3.ownBlock ≠ some q) := fun q e1 e2 => by
                        rcases hat' with r | r
                        · exact HXYo.out q e1 (by rw [← r]; exact e2)
                        · have := (hX.lt q e1).2
                          rw [r] at e2
                          injection e2 with e3
                          omega
                      replace hX := row_keep hX hs' hk' (fun q e1 e2 => HXYo.out q e1 e2)
                      replace c := hB' _ _ (Nat.le_refl _) c
                      refine hK.out _ _ (HS.out _ c) (fun hH => ?_)
                      clear hK
                      clear hs' hk' hB' hat' hY HXYo
                      have hY := gY
                      clear gY
                      obtain ⟨xa2, xl2, xc2, rfl⟩ := ownsRow_slice hY
                      have O1 := (ownsRow_on hX).weaken (D' := fun k => wb.heap.size ≤ k) (fun k _ hk => Nat.le_trans bz.size hk.2)
                      have O2 := (ownsRow_on hY).weaken (D' := fun k => wb.heap.size ≤ k) (fun k _ hk => Nat.le_trans bz.size hk.2)
                      replace O1 := O1.mono (fun w'' h => ownsRow_ints h HlX.out)
                      replace O2 := O2.mono (fun w'' h => ownsRow_ints h HlY.out)
                      clear hX hY HXY
                      refine wpZ_takeP (i := 19) (v := .agg #[.int .i64 L, .slice ba bl' bc, .slice xa2 xl2 xc2]) rfl (by kernel_rfl) (by kernel_rfl) (by kernel_rfl) (fun _ _ _ h => h) (.inl ⟨by rfl, fun w' hS' => by first | (go_simp; done) | (go_simp; rfl) | (go_simp; intro h; omega) | (go_simp; omega)⟩) hH (by decide) ?_
                      simp only [List.getElem_toArray, List.getElem_cons_succ, List.getElem_cons_zero, Act.put, List.setIfInBounds_toArray, List.set_cons_zero, List.set_cons_succ]
                      have bs := below_new v6 (.cells #[.int .i64 0, .slice xa1 xl1 xc1, .slice ba bl' bc, .int .i64 L, .slice ba bl' bc, .slice xa2 xl2 xc2] 54)
                      obtain ⟨Bb, HBb⟩ : ∃ B, Hid (v6.heap.size = B) := ⟨_, rfl⟩
                      have hcell : ∀ j u, (tvCells [(0, .slice xa1 xl1 xc1, .slice ba bl' bc), (L, .slice ba bl' bc, .slice xa2 xl2 xc2)])[j]? = some u → (v6.alloc (.cells #[.int .i64 0, .slice xa1 xl1 xc1, .slice ba bl' bc, .int .i64 L, .slice ba bl' bc, .slice xa2 xl2 xc2] 54)).cell? ⟨Bb, 0 + j, none⟩ = some u := fun j u hj => by
                        rw [← HBb.out, Nat.zero_add, World.cell?_alloc_at _ _ _ _ rfl]
                        simpa [tvCells] using hj
                      obtain ⟨u3, Hu3⟩ : ∃ v, Hid (v6.alloc (.cells #[.int .i64 0, .slice xa1 xl1 xc1, .slice ba bl' bc, .int .i64 L, .slice ba bl' bc, .slice xa2 xl2 xc2] 54) = v) := ⟨_, rfl⟩
                      rw [Hu3.out] at bs hcell
                      refine wpZ_ready (rs := [20]) (by kernel_rfl) (by simp) ?_
                      refine AllZ.cons rfl (fun K hK => ?_) AllZ.nil
                      simp only [List.getElem_toArray, List.getElem_cons_succ, List.getElem_cons_zero]
                      rw [if_pos (by rfl)]
                      go_wp2_with fail
                      rw [Hu3.out, HBb.out]
                      have c3 := c
                      replace c := below_then c bs
                      refine hK.out _ _ (HS.out _ c) (fun hH => ?_)
                      clear hK
                      have b := below_then bz c
                      refine wpZ_ready (rs := [21]) (by kernel_rfl) (by simp) ?_
                      refine AllZ.cons rfl (fun K hK => ?_) AllZ.nil
                      simp only [List.getElem_toArray, List.getElem_cons_succ, List.getElem_cons_zero]
                      refine wpr_append_net (by rfl) _ _ rfl (Bo + 1) u3 (.slice av lv cv) tv [(0, .slice xa1 xl1 xc1, .slice ba bl' bc), (L, .slice ba bl' bc, .slice xa2 xl2 xc2)] Bb 0 2 2 (hO.to b).own rfl rfl rfl hcell (by intro u hu; simp only [tvCells, List.flatMap_cons, List.flatMap_nil, List.append_nil, List.cons_append, List.nil_append, List.mem_cons, List.not_mem_nil, or_false] at hu; rcases hu with rfl | rfl | rfl | rfl | rfl | rfl <;> rfl) (by have := Htl2.out; omega) ((hO.to b).size) ?_
                      intro nv u4 hown hg hat
                      obtain ⟨na, nl, nc, rfl⟩ := ownsRow_slice hown
                      obtain ⟨g1, g2⟩ := hO.after b hg
                      have hHS4 : u4.cell? ⟨Bo, 1, none⟩ = some (.slice av lv cv) ∧ u4.cell? ⟨Bt, 0, none⟩ = some (.int .i64 L) ∧ u4.cell? ⟨Bt, 1, none⟩ = some (.slice e1 m1 q1) ∧ u4.cell? ⟨Bt, 2, none⟩ = some (.slice e2 m2 q2) := by
                        refine ⟨g1, ?_, ?_, ?_⟩
                        · rw [hO.afterT b hg (a := ⟨Bt, 0, none⟩) hBt1 hBt2]; exact (HS.out _ c).2.1
                        · rw [hO.afterT b hg (a := ⟨Bt, 1, none⟩) hBt1 hBt2]; exact (HS.out _ c).2.2.1
                        · rw [hO.afterT b hg (a := ⟨Bt, 2, none⟩) hBt1 hBt2]; exact (HS.out _ c).2.2.2
                      refine hK.out _ _ hHS4 (fun hH => ?_)
                      clear hK
                      refine wpZ_takeP (i := 22) (v := .pointer (some ⟨Bo, 1, none⟩)) rfl (by kernel_rfl) (by kernel_rfl) (by kernel_rfl) (fun _ _ _ h => h) (.inl ⟨by rfl, fun w' hS' => by first | (go_simp; done) | (go_simp; rfl) | (go_simp; intro h; omega) | (go_simp; omega)⟩) hH (by decide) ?_
                      simp only [List.getElem_toArray, List.getElem_cons_succ, List.getElem_cons_zero, Act.put, List.setIfInBounds_toArray, List.set_cons_zero, List.set_cons_succ]
                      refine wpZ_ready (rs := [23]) (by kernel_rfl) (by simp) ?_
                      refine AllZ.last rfl (by kernel_rfl) (fun K hK => ?_) AllZ.nil
                      simp only [List.getElem_toArray, List.getElem_cons_succ, List.getElem_cons_zero]
                      rw [if_pos (by rfl)]
                      go_wp2_with fail
                      refine hK.out _ _ ?_
                      clear hK
                      refine wpZ_done (by kernel_rfl) ?_ _
                      have R := hO.step (vs := [⟨0, T.pre ++ zerosL S, zerosL P ++ oneAt S sk⟩, ⟨L, zerosL P ++ oneAt S sk, T.post ++ zerosL S⟩]) (xs := [(0, .slice xa1 xl1 xc1, .slice ba bl' bc), (L, .slice ba bl' bc, .slice xa2 xl2 xc2)]) rfl b (fun j hj => by
                        rcases (show j = 0 ∨ j = 1 by simp at hj; omega) with rfl | rfl
                        · exact ⟨rfl, O1.below bs, hBet.below c⟩
                        · exact ⟨rfl, hBet.below c, O2.below bs⟩
                        ) hown hg hat
                      rw [Hvs.out] at R
                      clear hown hg hat g1 g2 hHS4 hcell c c3 b bs O1 O2
                      go_wp2
                      go_roundg (gk - 1)
                      case measure => omega
                      case rel => exact ⟨k + 1, _, _, _, by omega, by go_num, by rw [e.out]; go_num, rfl, R⟩
                  · simp only [List.getElem_toArray, List.getElem_cons_succ, List.getElem_cons_zero]
                    rw [if_pos (by rfl)]
                    have bs := below_new v1 (.cells #[] 3)
                    have hY := int_lit v1 wz.heap.size c.size
                    obtain ⟨xY1, HxY⟩ : ∃ v, Hid (Value.slice (some ⟨v1.heap.size, 0, none⟩) 0 0 = v) := ⟨_, rfl⟩
                    have HBY : Hid (xY1.ownBlock = some v1.heap.size) := by rw [← HxY.out]; rfl
                    obtain ⟨v2, Hv2⟩ : ∃ v, Hid (v1.alloc (.cells #[] 3) = v) := ⟨_, rfl⟩
                    rw [Hv2.out] at bs hY
                    rw [HxY.out] at hY
                    go_wp2_with fail
                    rw [Hv2.out, HxY.out]
                    have HXY : Hid (∀ q, xX1.ownBlock = some q → xY1.ownBlock ≠ some q) := fun q e1 e2 => by have := (hX.lt q e1).2; rw [HBY.out] at e2; injection e2 with e3; omega
                    replace hX := row_on hX bs
                    replace c := below_then c bs
                    refine hK.out _ _ (HS.out _ c) (fun hH => ?_)
                    clear hK
                    clear bs Hv2 HxY HBY
                    refine wpZ_ready (rs := [5]) (by kernel_rfl) (by simp) ?_
                    refine AllZ.cons rfl (fun K hK => ?_) AllZ.nil
                    simp only [List.getElem_toArray, List.getElem_cons_succ, List.getElem_cons_zero]
                    refine wpr_append_ro (by rfl) _ _ rfl wz.heap.size v2 xX1 (.slice e1 m1 q1) [] T.pre (by exact hX) rfl rfl (i1.below (below_then bz c)) c.size (by rw [Hl.out.1]; simp; omega) ?_
                    intro xX2 v3 gX hs' hk' hB' hat'
                    have HXYo := HXY
                    replace HXY : Hid (∀ q, xX2.ownBlock = some q → xY1.ownBlock ≠ some q) := fun q e1 e2 => by
                      rcases hat' with r | r
                      · exact HXYo.out q (by rw [← r]; exact e1) e2
                      · have := (hY.lt q e2).2
                        rw [r] at e1
                        injection e1 with e3
                        omega
                    replace hY := row_keep hY hs' hk' (fun q e1 e2 => HXYo.out q e2 e1)
                    replace c := hB' _ _ (Nat.le_refl _) c
                    refine hK.out _ _ (HS.out _ c) (fun hH => ?_)
                    clear hK
                    clear hs' hk' hB' hat' hX HXYo
                    have hX := gX
                    clear gX
                    refine wpZ_ready (rs := [7]) (by kernel_rfl) (by simp) ?_
                    refine AllZ.cons rfl (fun K hK => ?_) AllZ.nil
                    simp only [List.getElem_toArray, List.getElem_cons_succ, List.getElem_cons_zero]
                    refine wpr_append_ro (by rfl) _ _ rfl wz.heap.size v3 xX2 (.slice (some ⟨Ba, 0, none⟩) S S) T.pre (zerosL S) (by exact hX) rfl rfl (hAz.below c) c.size (by rw [Hl.out.1, zeros_length]; omega) ?_
                    intro xX3 v4 gX hs' hk' hB' hat'
                    have HXYo := HXY
                    replace HXY : Hid (∀ q, xX3.ownBlock = some q → xY1.ownBlock ≠ some q) := fun q e1 e2 => by
                      rcases hat' with r | r
                      · exact HXYo.out q (by rw [← r]; exact e1) e2
                      · have := (hY.lt q e2).2
                        rw [r] at e1
                        injection e1 with e3
                        omega
                    replace hY := row_keep hY hs' hk' (fun q e1 e2 => HXYo.out q e2 e1)
                    replace c := hB' _ _ (Nat.le_refl _) c
                    refine hK.out _ _ (HS.out _ c) (fun hH => ?_)
                    clear hK
                    clear hs' hk' hB' hat' hX HXYo
                    have hX := gX
                    clear gX
                    obtain ⟨xa1, xl1, xc1, rfl⟩ := ownsRow_slice hX
                    refine wpZ_takeP (i := 9) (v := .agg #[.int .i64 0, .slice xa1 xl1 xc1, .slice ba bl' bc]) rfl (by kernel_rfl) (by kernel_rfl) (by kernel_rfl) (fun _ _ _ h => h) (.inl ⟨by rfl, fun w' hS' => by first | (go_simp; done) | (go_simp; rfl) | (go_simp; intro h; omega) | (go_simp; omega)⟩) hH (by decide) ?_
                    simp only [List.getElem_toArray, List.getElem_cons_succ, List.getElem_cons_zero, Act.put, List.setIfInBounds_toArray, List.set_cons_zero, List.set_cons_succ]
                    refine wpZ_ready (rs := [16]) (by kernel_rfl) (by simp) ?_
                    refine AllZ.cons rfl (fun K hK => ?_) AllZ.nil
                    simp only [List.getElem_toArray, List.getElem_cons_succ, List.getElem_cons_zero]
                    refine wpr_append_ro (by rfl) _ _ rfl wz.heap.size v4 xY1 (.slice e2 m2 q2) [] T.post (by exact hY) rfl rfl (i2.below (below_then bz c)) c.size (by rw [Hl.out.2]; simp; omega) ?_
                    intro xY2 v5 gY hs' hk' hB' hat'
                    have HXYo := HXY
                    replace HXY : Hid (∀ q, (Value.slice xa1 xl1 xc1).ownBlock = some q → xY2.ownBlock ≠ some q) := fun q e1 e2 => by
                      rcases hat' with r | r
                      · exact HXYo.out q e1 (by rw [← r]; exact e2)
                      · have := (hX.lt q e1).2
                        rw [r] at e2
                        injection e2 with e3
                        omega
                    replace hX := row_keep hX hs' hk' (fun q e1 e2 => HXYo.out q e1 e2)
                    replace c := hB' _ _ (Nat.le_refl _) c
                    refine hK.out _ _ (HS.out _ c) (fun hH => ?_)
                    clear hK
                    clear hs' hk' hB' hat' hY HXYo
                    have hY := gY
                    clear gY
                    refine wpZ_ready (rs := [18]) (by kernel_rfl) (by simp) ?_
                    refine AllZ.cons rfl (fun K hK => ?_) AllZ.nil
                    simp only [List.getElem_toArray, List.getElem_cons_succ, List.getElem_cons_zero]
                    refine wpr_append_ro (by rfl) _ _ rfl wz.heap.size v5 xY2 (.slice (some ⟨Ba, 0, none⟩) S S) T.post (zerosL S) (by exact hY) rfl rfl (hAz.below c) c.size (by rw [Hl.out.2, zeros_length]; omega) ?_
                    intro xY3 v6 gY hs' hk' hB' hat'
                    have HXYo := HXY
                    replace HXY : Hid (∀ q, (Value.slice xa1 xl1 xc1).ownBlock = some q → xY3.ownBlock ≠ some q) := fun q e1 e2 => by
                      rcases hat' with r | r
                      · exact HXYo.out q e1 (by rw [← r]; exact e2)
                      · have := (hX.lt q e1).2
                        rw [r] at e2
                        injection e2 with e3
                        omega
                    replace hX := row_keep hX hs' hk' (fun q e1 e2 => HXYo.out q e1 e2)
                    replace c := hB' _ _ (Nat.le_refl _) c
                    refine hK.out _ _ (HS.out _ c) (fun hH => ?_)
                    clear hK
                    clear hs' hk' hB' hat' hY HXYo
                    have hY := gY
                    clear gY
                    obtain ⟨xa2, xl2, xc2, rfl⟩ := ownsRow_slice hY
                    have O1 := (ownsRow_on hX).weaken (D' := fun k => wb.heap.size ≤ k) (fun k _ hk => Nat.le_trans bz.size hk.2)
                    have O2 := (ownsRow_on hY).weaken (D' := fun k => wb.heap.size ≤ k) (fun k _ hk => Nat.le_trans bz.size hk.2)
                    replace O1 := O1.mono (fun w'' h => ownsRow_ints h HlX.out)
                    replace O2 := O2.mono (fun w'' h => ownsRow_ints h HlY.out)
                    clear hX hY HXY
                    refine wpZ_takeP (i := 19) (v := .agg #[.int .i64 L, .slice ba bl' bc, .slice xa2 xl2 xc2]) rfl (by kernel_rfl) (by kernel_rfl) (by kernel_rfl) (fun _ _ _ h => h) (.inl ⟨by rfl, fun w' hS' => by first | (go_simp; done) | (go_simp; rfl) | (go_simp; intro h; omega) | (go_simp; omega)⟩) hH (by decide) ?_
                    simp only [List.getElem_toArray, List.getElem_cons_succ, List.getElem_cons_zero, Act.put, List.setIfInBounds_toArray, List.set_cons_zero, List.set_cons_succ]
                    have bs := below_new v6 (.cells #[.int .i64 0, .slice xa1 xl1 xc1, .slice ba bl' bc, .int .i64 L, .slice ba bl' bc, .slice xa2 xl2 xc2] 54)
                    obtain ⟨Bb, HBb⟩ : ∃ B, Hid (v6.heap.size = B) := ⟨_, rfl⟩
                    have hcell : ∀ j u, (tvCells [(0, .slice xa1 xl1 xc1, .slice ba bl' bc), (L, .slice ba bl' bc, .slice xa2 xl2 xc2)])[j]? = some u → (v6.alloc (.cells #[.int .i64 0, .slice xa1 xl1 xc1, .slice ba bl' bc, .int .i64 L, .slice ba bl' bc, .slice xa2 xl2 xc2] 54)).cell? ⟨Bb, 0 + j, none⟩ = some u := fun j u hj => by
                      rw [← HBb.out, Nat.zero_add, World.cell?_alloc_at _ _ _ _ rfl]
                      simpa [tvCells] using hj
                    obtain ⟨u3, Hu3⟩ : ∃ v, Hid (v6.alloc (.cells #[.int .i64 0, .slice xa1 xl1 xc1, .slice ba bl' bc, .int .i64 L, .slice ba bl' bc, .slice xa2 xl2 xc2] 54) = v) := ⟨_, rfl⟩
                    rw [Hu3.out] at bs hcell
                    refine wpZ_ready (rs := [20]) (by kernel_rfl) (by simp) ?_
                    refine AllZ.cons rfl (fun K hK => ?_) AllZ.nil
                    simp only [List.getElem_toArray, List.getElem_cons_succ, List.getElem_cons_zero]
                    rw [if_pos (by rfl)]
                    go_wp2_with fail
                    rw [Hu3.out, HBb.out]
                    have c3 := c
                    replace c := below_then c bs
                    refine hK.out _ _ (HS.out _ c) (fun hH => ?_)
                    clear hK
                    have b := below_then bz c
                    refine wpZ_ready (rs := [21]) (by kernel_rfl) (by simp) ?_
                    refine AllZ.cons rfl (fun K hK => ?_) AllZ.nil
                    simp only [List.getElem_toArray, List.getElem_cons_succ, List.getElem_cons_zero]
                    refine wpr_append_net (by rfl) _ _ rfl (Bo + 1) u3 (.slice av lv cv) tv [(0, .slice xa1 xl1 xc1, .slice ba bl' bc), (L, .slice ba bl' bc, .slice xa2 xl2 xc2)] Bb 0 2 2 (hO.to b).own rfl rfl rfl hcell (by intro u hu; simp only [tvCells, List.flatMap_cons, List.flatMap_nil, List.append_nil, List.cons_append, List.nil_append, List.mem_cons, List.not_mem_nil, or_false] at hu; rcases hu with rfl | rfl | rfl | rfl | rfl | rfl <;> rfl) (by have := Htl2.out; omega) ((hO.to b).size) ?_
                    intro nv u4 hown hg hat
                    obtain ⟨na, nl, nc, rfl⟩ := ownsRow_slice hown
                    obtain ⟨g1, g2⟩ := hO.after b hg
                    have hHS4 : u4.cell? ⟨Bo, 1, none⟩ = some (.slice av lv cv) ∧ u4.cell? ⟨Bt, 0, none⟩ = some (.int .i64 L) ∧ u4.cell? ⟨Bt, 1, none⟩ = some (.slice e1 m1 q1) ∧ u4.cell? ⟨Bt, 2, none⟩ = some (.slice e2 m2 q2) := by
                      refine ⟨g1, ?_, ?_, ?_⟩
                      · rw [hO.afterT b hg (a := ⟨Bt, 0, none⟩) hBt1 hBt2]; exact (HS.out _ c).2.1
                      · rw [hO.afterT b hg (a := ⟨Bt, 1, none⟩) hBt1 hBt2]; exact (HS.out _ c).2.2.1
                      · rw [hO.afterT b hg (a := ⟨Bt, 2, none⟩) hBt1 hBt2]; exact (HS.out _ c).2.2.2
                    refine hK.out _ _ hHS4 (fun hH => ?_)
                    clear hK
                    refine wpZ_takeP (i := 22) (v := .pointer (some ⟨Bo, 1, none⟩)) rfl (by kernel_rfl) (by kernel_rfl) (by kernel_rfl) (fun _ _ _ h => h) (.inl ⟨by rfl, fun w' hS' => by first | (go_simp; done) | (go_simp; rfl) | (go_simp; intro h; omega) | (go_simp; omega)⟩) hH (by decide) ?_
                    simp only [List.getElem_toArray, List.getElem_cons_succ, List.getElem_cons_zero, Act.put, List.setIfInBounds_toArray, List.set_cons_zero, List.set_cons_succ]
                    refine wpZ_ready (rs := [23]) (by kernel_rfl) (by simp) ?_
                    refine AllZ.last rfl (by kernel_rfl) (fun K hK => ?_) AllZ.nil
                    simp only [List.getElem_toArray, List.getElem_cons_succ, List.getElem_cons_zero]
                    rw [if_pos (by rfl)]
                    go_wp2_with fail
                    refine hK.out _ _ ?_
                    clear hK
                    refine wpZ_done (by kernel_rfl) ?_ _
                    have R := hO.step (vs := [⟨0, T.pre ++ zerosL S, zerosL P ++ oneAt S sk⟩, ⟨L, zerosL P ++ oneAt S sk, T.post ++ zerosL S⟩]) (xs := [(0, .slice xa1 xl1 xc1, .slice ba bl' bc), (L, .slice ba bl' bc, .slice xa2 xl2 xc2)]) rfl b (fun j hj => by
                      rcases (show j = 0 ∨ j = 1 by simp at hj; omega) with rfl | rfl
                      · exact ⟨rfl, O1.below bs, hBet.below c⟩
                      · exact ⟨rfl, hBet.below c, O2.below bs⟩
                      ) hown hg hat
                    rw [Hvs.out] at R
                    clear hown hg hat g1 g2 hHS4 hcell c c3 b bs O1 O2
                    go_wp2
                    go_roundg (gk - 1)
                    case measure => omega
                    case rel => exact ⟨k + 1, _, _, _, by omega, by go_num, by rw [e.out]; go_num, rfl, R⟩
                · simp only [List.getElem_toArray, List.getElem_cons_succ, List.getElem_cons_zero]
                  rw [if_pos (by rfl)]
                  have bs := below_new v0 (.cells #[] 3)
                  have hY := int_lit v0 wz.heap.size c.size
                  obtain ⟨xY1, HxY⟩ : ∃ v, Hid (Value.slice (some ⟨v0.heap.size, 0, none⟩) 0 0 = v) := ⟨_, rfl⟩
                  have HBY : Hid (xY1.ownBlock = some v0.heap.size) := by rw [← HxY.out]; rfl
                  obtain ⟨v1, Hv1⟩ : ∃ v, Hid (v0.alloc (.cells #[] 3) = v) := ⟨_, rfl⟩
                  rw [Hv1.out] at bs hY
                  rw [HxY.out] at hY
                  go_wp2_with fail
                  rw [Hv1.out, HxY.out]
                  replace c := below_then c bs
                  refine hK.out _ _ (HS.out _ c) (fun hH => ?_)
                  clear hK
                  clear bs Hv1 HxY HBY
                  have bs := below_new v1 (.cells #[] 3)
                  have hX := int_lit v1 wz.heap.size c.size
                  obtain ⟨xX1, HxX⟩ : ∃ v, Hid (Value.slice (some ⟨v1.heap.size, 0, none⟩) 0 0 = v) := ⟨_, rfl⟩
                  have HBX : Hid (xX1.ownBlock = some v1.heap.size) := by rw [← HxX.out]; rfl
                  obtain ⟨v2, Hv2⟩ : ∃ v, Hid (v1.alloc (.cells #[] 3) = v) := ⟨_, rfl⟩
                  rw [Hv2.out] at bs hX
                  rw [HxX.out] at hX
                  refine wpZ_ready (rs := [2]) (by kernel_rfl) (by simp) ?_
                  refine AllZ.cons rfl (fun K hK => ?_) AllZ.nil
                  simp only [List.getElem_toArray, List.getElem_cons_succ, List.getElem_cons_zero]
                  rw [if_pos (by rfl)]
                  go_wp2_with fail
                  rw [Hv2.out, HxX.out]
                  have HXY : Hid (∀ q, xX1.ownBlock = some q → xY1.ownBlock ≠ some q) := fun q e1 e2 => by have := (hY.lt q e2).2; rw [HBX.out] at e1; injection e1 with e3; omega
                  replace hY := row_on hY bs
                  replace c := below_then c bs
                  refine hK.out _ _ (HS.out _ c) (fun hH => ?_)
                  clear hK
                  clear bs Hv2 HxX HBX
                  refine wpZ_ready (rs := [5]) (by kernel_rfl) (by simp) ?_
                  refine AllZ.cons rfl (fun K hK => ?_) AllZ.nil
                  simp only [List.getElem_toArray, List.getElem_cons_succ, List.getElem_cons_zero]
                  refine wpr_append_ro (by rfl) _ _ rfl wz.heap.size v2 xX1 (.slice e1 m1 q1) [] T.pre (by exact hX) rfl rfl (i1.below (below_then bz c)) c.size (by rw [Hl.out.1]; simp; omega) ?_
                  intro xX2 v3 gX hs' hk' hB' hat'
                  have HXYo := HXY
                  replace HXY : Hid (∀ q, xX2.ownBlock = some q → xY1.ownBlock ≠ some q) := fun q e1 e2 => by
                    rcases hat' with r | r
                    · exact HXYo.out q (by rw [← r]; exact e1) e2
                    · have := (hY.lt q e2).2
                      rw [r] at e1
                      injection e1 with e3
                      omega
                  replace hY := row_keep hY hs' hk' (fun q e1 e2 => HXYo.out q e2 e1)
                  replace c := hB' _ _ (Nat.le_refl _) c
                  refine hK.out _ _ (HS.out _ c) (fun hH => ?_)
                  clear hK
                  clear hs' hk' hB' hat' hX HXYo
                  have hX := gX
                  clear gX
                  refine wpZ_ready (rs := [7]) (by kernel_rfl) (by simp) ?_
                  refine AllZ.cons rfl (fun K hK => ?_) AllZ.nil
                  simp only [List.getElem_toArray, List.getElem_cons_succ, List.getElem_cons_zero]
                  refine wpr_append_ro (by rfl) _ _ rfl wz.heap.size v3 xX2 (.slice (some ⟨Ba, 0, none⟩) S S) T.pre (zerosL S) (by exact hX) rfl rfl (hAz.below c) c.size (by rw [Hl.out.1, zeros_length]; omega) ?_
                  intro xX3 v4 gX hs' hk' hB' hat'
                  have HXYo := HXY
                  replace HXY : Hid (∀ q, xX3.ownBlock = some q → xY1.ownBlock ≠ some q) := fun q e1 e2 => by
                    rcases hat' with r | r
                    · exact HXYo.out q (by rw [← r]; exact e1) e2
                    · have := (hY.lt q e2).2
                      rw [r] at e1
                      injection e1 with e3
                      omega
                  replace hY := row_keep hY hs' hk' (fun q e1 e2 => HXYo.out q e2 e1)
                  replace c := hB' _ _ (Nat.le_refl _) c
                  refine hK.out _ _ (HS.out _ c) (fun hH => ?_)
                  clear hK
                  clear hs' hk' hB' hat' hX HXYo
                  have hX := gX
                  clear gX
                  obtain ⟨xa1, xl1, xc1, rfl⟩ := ownsRow_slice hX
                  refine wpZ_takeP (i := 9) (v := .agg #[.int .i64 0, .slice xa1 xl1 xc1, .slice ba bl' bc]) rfl (by kernel_rfl) (by kernel_rfl) (by kernel_rfl) (fun _ _ _ h => h) (.inl ⟨by rfl, fun w' hS' => by first | (go_simp; done) | (go_simp; rfl) | (go_simp; intro h; omega) | (go_simp; omega)⟩) hH (by decide) ?_
                  simp only [List.getElem_toArray, List.getElem_cons_succ, List.getElem_cons_zero, Act.put, List.setIfInBounds_toArray, List.set_cons_zero, List.set_cons_succ]
                  refine wpZ_ready (rs := [16]) (by kernel_rfl) (by simp) ?_
                  refine AllZ.cons rfl (fun K hK => ?_) AllZ.nil
                  simp only [List.getElem_toArray, List.getElem_cons_succ, List.getElem_cons_zero]
                  refine wpr_append_ro (by rfl) _ _ rfl wz.heap.size v4 xY1 (.slice e2 m2 q2) [] T.post (by exact hY) rfl rfl (i2.below (below_then bz c)) c.size (by rw [Hl.out.2]; simp; omega) ?_
                  intro xY2 v5 gY hs' hk' hB' hat'
                  have HXYo := HXY
                  replace HXY : Hid (∀ q, (Value.slice xa1 xl1 xc1).ownBlock = some q → xY2.ownBlock ≠ some q) := fun q e1 e2 => by
                    rcases hat' with r | r
                    · exact HXYo.out q e1 (by rw [← r]; exact e2)
                    · have := (hX.lt q e1).2
                      rw [r] at e2
                      injection e2 with e3
                      omega
                  replace hX := row_keep hX hs' hk' (fun q e1 e2 => HXYo.out q e1 e2)
                  replace c := hB' _ _ (Nat.le_refl _) c
                  refine hK.out _ _ (HS.out _ c) (fun hH => ?_)
                  clear hK
                  clear hs' hk' hB' hat' hY HXYo
                  have hY := gY
                  clear gY
                  refine wpZ_ready (rs := [18]) (by kernel_rfl) (by simp) ?_
                  refine AllZ.cons rfl (fun K hK => ?_) AllZ.nil
                  simp only [List.getElem_toArray, List.getElem_cons_succ, List.getElem_cons_zero]
                  refine wpr_append_ro (by rfl) _ _ rfl wz.heap.size v5 xY2 (.slice (some ⟨Ba, 0, none⟩) S S) T.post (zerosL S) (by exact hY) rfl rfl (hAz.below c) c.size (by rw [Hl.out.2, zeros_length]; omega) ?_
                  intro xY3 v6 gY hs' hk' hB' hat'
                  have HXYo := HXY
                  replace HXY : Hid (∀ q, (Value.slice xa1 xl1 xc1).ownBlock = some q → xY3.ownBlock ≠ some q) := fun q e1 e2 => by
                    rcases hat' with r | r
                    · exact HXYo.out q e1 (by rw [← r]; exact e2)
                    · have := (hX.lt q e1).2
                      rw [r] at e2
                      injection e2 with e3
                      omega
                  replace hX := row_keep hX hs' hk' (fun q e1 e2 => HXYo.out q e1 e2)
                  replace c := hB' _ _ (Nat.le_refl _) c
                  refine hK.out _ _ (HS.out _ c) (fun hH => ?_)
                  clear hK
                  clear hs' hk' hB' hat' hY HXYo
                  have hY := gY
                  clear gY
                  obtain ⟨xa2, xl2, xc2, rfl⟩ := ownsRow_slice hY
                  have O1 := (ownsRow_on hX).weaken (D' := fun k => wb.heap.size ≤ k) (fun k _ hk => Nat.le_trans bz.size hk.2)
                  have O2 := (ownsRow_on hY).weaken (D' := fun k => wb.heap.size ≤ k) (fun k _ hk => Nat.le_trans bz.size hk.2)
                  replace O1 := O1.mono (fun w'' h => ownsRow_ints h HlX.out)
                  replace O2 := O2.mono (fun w'' h => ownsRow_ints h HlY.out)
                  clear hX hY HXY
                  refine wpZ_takeP (i := 19) (v := .agg #[.int .i64 L, .slice ba bl' bc, .slice xa2 xl2 xc2]) rfl (by kernel_rfl) (by kernel_rfl) (by kernel_rfl) (fun _ _ _ h => h) (.inl ⟨by rfl, fun w' hS' => by first | (go_simp; done) | (go_simp; rfl) | (go_simp; intro h; omega) | (go_simp; omega)⟩) hH (by decide) ?_
                  simp only [List.getElem_toArray, List.getElem_cons_succ, List.getElem_cons_zero, Act.put, List.setIfInBounds_toArray, List.set_cons_zero, List.set_cons_succ]
                  have bs := below_new v6 (.cells #[.int .i64 0, .slice xa1 xl1 xc1, .slice ba bl' bc, .int .i64 L, .slice ba bl' bc, .slice xa2 xl2 xc2] 54)
                  obtain ⟨Bb, HBb⟩ : ∃ B, Hid (v6.heap.size = B) := ⟨_, rfl⟩
                  have hcell : ∀ j u, (tvCells [(0, .slice xa1 xl1 xc1, .slice ba bl' bc), (L, .slice ba bl' bc, .slice xa2 xl2 xc2)])[j]? = some u → (v6.alloc (.cells #[.int .i64 0, .slice xa1 xl1 xc1, .slice ba bl' bc, .int .i64 L, .slice ba bl' bc, .slice xa2 xl2 xc2] 54)).cell? ⟨Bb, 0 + j, none⟩ = some u := fun j u hj => by
                    rw [← HBb.out, Nat.zero_add, World.cell?_alloc_at _ _ _ _ rfl]
                    simpa [tvCells] using hj
                  obtain ⟨u3, Hu3⟩ : ∃ v, Hid (v6.alloc (.cells #[.int .i64 0, .slice xa1 xl1 xc1, .slice ba bl' bc, .int .i64 L, .slice ba bl' bc, .slice xa2 xl2 xc2] 54) = v) := ⟨_, rfl⟩
                  rw [Hu3.out] at bs hcell
                  refine wpZ_ready (rs := [20]) (by kernel_rfl) (by simp) ?_
                  refine AllZ.cons rfl (fun K hK => ?_) AllZ.nil
                  simp only [List.getElem_toArray, List.getElem_cons_succ, List.getElem_cons_zero]
                  rw [if_pos (by rfl)]
                  go_wp2_with fail
                  rw [Hu3.out, HBb.out]
                  have c3 := c
                  replace c := below_then c bs
                  refine hK.out _ _ (HS.out _ c) (fun hH => ?_)
                  clear hK
                  have b := below_then bz c
                  refine wpZ_ready (rs := [21]) (by kernel_rfl) (by simp) ?_
                  refine AllZ.cons rfl (fun K hK => ?_) AllZ.nil
                  simp only [List.getElem_toArray, List.getElem_cons_succ, List.getElem_cons_zero]
                  refine wpr_append_net (by rfl) _ _ rfl (Bo + 1) u3 (.slice av lv cv) tv [(0, .slice xa1 xl1 xc1, .slice ba bl' bc), (L, .slice ba bl' bc, .slice xa2 xl2 xc2)] Bb 0 2 2 (hO.to b).own rfl rfl rfl hcell (by intro u hu; simp only [tvCells, List.flatMap_cons, List.flatMap_nil, List.append_nil, List.cons_append, List.nil_append, List.mem_cons, List.not_mem_nil, or_false] at hu; rcases hu with rfl | rfl | rfl | rfl | rfl | rfl <;> rfl) (by have := Htl2.out; omega) ((hO.to b).size) ?_
                  intro nv u4 hown hg hat
                  obtain ⟨na, nl, nc, rfl⟩ := ownsRow_slice hown
                  obtain ⟨g1, g2⟩ := hO.after b hg
                  have hHS4 : u4.cell? ⟨Bo, 1, none⟩ = some (.slice av lv cv) ∧ u4.cell? ⟨Bt, 0, none⟩ = some (.int .i64 L) ∧ u4.cell? ⟨Bt, 1, none⟩ = some (.slice e1 m1 q1) ∧ u4.cell? ⟨Bt, 2, none⟩ = some (.slice e2 m2 q2) := by
                    refine ⟨g1, ?_, ?_, ?_⟩
                    · rw [hO.afterT b hg (a := ⟨Bt, 0, none⟩) hBt1 hBt2]; exact (HS.out _ c).2.1
                    · rw [hO.afterT b hg (a := ⟨Bt, 1, none⟩) hBt1 hBt2]; exact (HS.out _ c).2.2.1
                    · rw [hO.afterT b hg (a := ⟨Bt, 2, none⟩) hBt1 hBt2]; exact (HS.out _ c).2.2.2
                  refine hK.out _ _ hHS4 (fun hH => ?_)
                  clear hK
                  refine wpZ_takeP (i := 22) (v := .pointer (some ⟨Bo, 1, none⟩)) rfl (by kernel_rfl) (by kernel_rfl) (by kernel_rfl) (fun _ _ _ h => h) (.inl ⟨by rfl, fun w' hS' => by first | (go_simp; done) | (go_simp; rfl) | (go_simp; intro h; omega) | (go_simp; omega)⟩) hH (by decide) ?_
                  simp only [List.getElem_toArray, List.getElem_cons_succ, List.getElem_cons_zero, Act.put, List.setIfInBounds_toArray, List.set_cons_zero, List.set_cons_succ]
                  refine wpZ_ready (rs := [23]) (by kernel_rfl) (by simp) ?_
                  refine AllZ.last rfl (by kernel_rfl) (fun K hK => ?_) AllZ.nil
                  simp only [List.getElem_toArray, List.getElem_cons_succ, List.getElem_cons_zero]
                  rw [if_pos (by rfl)]
                  go_wp2_with fail
                  refine hK.out _ _ ?_
                  clear hK
                  refine wpZ_done (by kernel_rfl) ?_ _
                  have R := hO.step (vs := [⟨0, T.pre ++ zerosL S, zerosL P ++ oneAt S sk⟩, ⟨L, zerosL P ++ oneAt S sk, T.post ++ zerosL S⟩]) (xs := [(0, .slice xa1 xl1 xc1, .slice ba bl' bc), (L, .slice ba bl' bc, .slice xa2 xl2 xc2)]) rfl b (fun j hj => by
                    rcases (show j = 0 ∨ j = 1 by simp at hj; omega) with rfl | rfl
                    · exact ⟨rfl, O1.below bs, hBet.below c⟩
                    · exact ⟨rfl, hBet.below c, O2.below bs⟩
                    ) hown hg hat
                  rw [Hvs.out] at R
                  clear hown hg hat g1 g2 hHS4 hcell c c3 b bs O1 O2
                  go_wp2
                  go_roundg (gk - 1)
                  case measure => omega
                  case rel => exact ⟨k + 1, _, _, _, by omega, by go_num, by rw [e.out]; go_num, rfl, R⟩
            · obtain rfl : k = len := by omega
              obtain ⟨z0, z1⟩ := And.intro hO.c0 hO.c1
              have hRw := hR.below hbw
              obtain ⟨q1, q2, q3, q4, q5⟩ := hRw.facts
              obtain ⟨W2, HW2⟩ : ∃ W2, Hid ((wr.setCell ⟨w.heap.size + 1, 0, none⟩ (.int .i64 ((P : Int) + (S : Int)))).setCell ⟨w.heap.size + 1, 1, none⟩ (.slice av lv cv) = W2) := ⟨_, rfl⟩
              have hTr := hO.fill Htl.out hBo (.int .i64 ((P : Int) + (S : Int))) (.slice av lv cv) HW2.out
              obtain ⟨f1, f2, f3⟩ := hRw.fill (below_then c0 hbw) (by omega) HW2.out
              rw [Hus.out, ← HL.out] at hTr
              clear hO hRw
              go_wp2
              rw [HW2.out]
              exact bodyPost_ret (v := .tuple #[.agg #[.int .i64 ((P : Int) + (S : Int)), .slice av lv cv], .int .i64 0]) (results_netC rfl rfl rfl f1 f2) rfl ⟨_, by rw [E.out], by rw [E.out]; exact ⟨_, by rw [show (((P + S : Nat) : Int)) = (P : Int) + (S : Int) by omega], hTr⟩, f3⟩

end Go.Proofs.Ytffaamljogbmlaa
