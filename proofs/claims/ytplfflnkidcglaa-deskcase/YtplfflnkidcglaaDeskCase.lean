/- The law DeskCase, walked. (Made by tools/gen_deskcase.py.) -/
import Derived.Test.YtplfflnkidcglaaGr18
import Derived.Test.YtplfflnkidcglaaGr07
import Derived.Test.YtplfflnkidcglaaGr00
import Derived.Test.YtplfflnkidcglaaGr01
import Derived.Test.YtplfflnkidcglaaGr04
import Derived.Deep.RegionHeld3
import Derived.Test.YtplfflnkidcglaaGr17
import Derived.BigRegion
import Derived.BigQuiet
namespace Go.Proofs.Ytplfflnkidcglaa
open Go.RowKit
set_option linter.unusedVariables false
set_option linter.unusedSimpArgs false
set_option maxRecDepth 4000

theorem notOk : Asks1 18 fun x => x != 0 := by
  intro x w
  go_enter Try.func18, Try.ntmps18
  go_wp2
  go_ret
  exact ⟨rfl, rfl⟩

/-- A row of things to do in a case that the call itself gathers. -/
def OwnP (B : Nat) (w wr : World) (v : Value) (l : List (Int × Int)) : Prop := wr.ownsRow B 54 2 v l.length (ansC l) ∧ Below B w wr ∧ B ≤ wr.heap.size
theorem OwnP.nil (w : World) : OwnP w.heap.size w w (.slice none 0 0) [] := ⟨World.ownsRow_nil _ _ _ _, Below.refl _ _, Nat.le_refl _⟩
theorem OwnP.trans {B : Nat} {w wr w2 : World} {v : Value} {l : List (Int × Int)} (h : OwnP B w wr v l) (hb : Below wr.heap.size wr w2) : OwnP B w w2 v l :=
  ⟨((ownsRow_on h.1).below hb).now, h.2.1.trans (hb.mono h.2.2), Nat.le_trans h.2.2 hb.size⟩
theorem OwnP.ops {B : Nat} {w wr : World} {v : Value} {l : List (Int × Int)} (h : OwnP B w wr v l) (hl : l.length ≤ 8796093022208) : OpsV wr v l := by
  have h0 := h.1
  obtain ⟨_, hc⟩ := h.1
  rcases hc with ⟨rfl, h1⟩ | ⟨g, cap, cur, rfl, hg, hh, hn, hcap, hsz, htake⟩
  · exact ⟨none, 0, 0, rfl, h1, by omega, ⟨by omega, by omega, fun _ => rfl⟩, fun j hj => absurd hj (by omega)⟩
  · refine ⟨_, _, _, rfl, rfl, hl, ⟨hn, by unfold maxLen at hcap; omega, fun h => by cases h⟩, fun j hj => ?_⟩
    obtain ⟨q0, q1⟩ := ansC_at l j hj
    exact ⟨g, 0, rfl, (Array.getElem?_eq_some_iff.1 hh).1, by rw [Nat.zero_add, h0.cellAt _ (by omega), q0], by rw [Nat.zero_add, h0.cellAt _ (by omega), q1]⟩
theorem OwnP.set {B : Nat} {w wr : World} {v : Value} {l : List (Int × Int)} (h : OwnP B w wr v l) {p : Addr} (hp : v.ownBlock ≠ some p.block) (hB : B ≤ p.block) (u : Value) : OwnP B w (wr.setCell p u) v l :=
  ⟨((ownsRow_on h.1).set (fun q => hp q.1) u).now, h.2.1.setCell hB u, by simpa [World.setCell] using h.2.2⟩
theorem info_cop : (Try.prog.info? 54).map (fun i => (i.zero, i.size, i.bytes)) = some (some (.agg #[.int .i64 0, .int .i64 0]), 2, 16) := by kernel_rfl
theorem wp_append_op {ops : Array Oper} {rest : List Oper} {o : Oper} {a : Act} {Q : Exit → Act → World → Prop} (hgd : o.guard = none) (s x : Operand)
    (ho : o.op = .call { callee := .builtin .append, args := #[s, x], argTypes := #[49, 49] }) (B : Nat) (w wr : World) (v : Value) (l : List (Int × Int)) (k t : Int) (hG : OwnP B w wr v l)
    (hs : a.eval s = v) (hx : a.eval x = .slice (some ⟨wr.heap.size, 0, none⟩) 1 1) (hl : l.length + 1 ≤ 8796093022208)
    (h : ∀ v' w', OwnP B w w' v' (l ++ [(k, t)]) → wpList Try.prog ops Q rest (a.put o.dst v') w') : wpList Try.prog ops Q (o :: rest) a (wr.alloc (.cells #[.int .i64 k, .int .i64 t] 54)) := by
  obtain ⟨i0, hi, hz0, hz1, hz2⟩ := info_parts info_cop
  obtain ⟨hown, hb, hB⟩ := hG
  refine wpList_append_own _ hgd s x 49 ho B 54 i0 _ 2 16 Try.underlying49 hi hz0 hz1 hz2 rfl (by decide) v l.length _ hs (hown.alloc _) ⟨wr.heap.size, 0, none⟩ 1 1 [.int .i64 k, .int .i64 t] hx rfl ?_ ?_ ?_ ?_ ?_ ?_
  · intro j u hj
    rw [addr_add, World.cell?_alloc_at _ _ _ _ rfl]
    match j, hj with
    | 0, hj => simpa using hj
    | 1, hj => simpa using hj
  · intro u hu
    simp only [List.mem_cons, List.not_mem_nil, or_false] at hu
    rcases hu with rfl | rfl <;> rfl
  · unfold maxLen; omega
  · omega
  · simp; omega
  · intro v' w' hown' hgrow _
    refine h v' w' ⟨by rw [ansC_append, List.length_append]; exact hown', (hb.alloc hB _).grown hgrow (by simp; omega) (fun q hq => (hown.lt q hq).1), ?_⟩
    have := hgrow.size; simp at this; omega

set_option maxHeartbeats 8000000 in
theorem deskCase_walk (v r u : Value) (n : NetL) (i : Int) (roles : List (List Int)) (os : List DOp) (w : World) (hv : Net w v n) (hr : Lists w r roles) (hu : DOpsV w u os) :
    Calls Try.prog 6 #[v, .int .i64 i, r, u] w fun e w' => e = .returned (.bool true) ∧ Below w.heap.size w w' := by
  obtain ⟨tv, rfl, hT⟩ := hv
  have c := below_new w (.cells #[.int .i64 n.places, tv] 24)
  have hbx := box2_new w (.int .i64 n.places) tv 24
  have hv : Net _ (.agg #[.int .i64 n.places, tv]) n := ⟨_, rfl, hT.below c⟩
  replace hT := hT.below c
  replace hr := hr.below c
  replace hu := hu.below c
  obtain ⟨w0, Hw0⟩ : ∃ w0, Hid (w.alloc (.cells #[.int .i64 n.places, tv] 24) = w0) := ⟨_, rfl⟩
  rw [Hw0.out] at c hbx hv hT hr hu
  go_enter Try.func6, Try.ntmps6
  go_upto_region 1 with fail
  rw [Hw0.out]
  clear Hw0
  go_wp2_with fail
  refine (alive17_any w0).mono ?_
  rintro e w1 ⟨rfl, b⟩
  replace c := below_then c b
  replace hv := hv.below b
  replace hT := hT.below b
  replace hr := hr.below b
  replace hu := hu.below b
  replace hbx := hbx.below b
  clear b
  obtain ⟨x0, x1, x2⟩ := id hbx
  go_wp2_with fail
  refine (desk_play _ _ _ n i roles os w1 (by exact hv) (by exact hr) (by exact hu)).mono ?_
  rintro e w2 ⟨rv, la, lc, rfl, hD, hA, b⟩
  replace c := below_then c b
  replace hv := hv.below b
  replace hT := hT.below b
  replace hr := hr.below b
  replace hu := hu.below b
  replace hbx := hbx.below b
  clear b x0 x1 x2
  have HDE : Hid (((deskAll n i roles os).2.2 ≠ 0 ∧ deskAll n i roles os = (noDesk, [], (deskAll n i roles os).2.2)) ∨ (deskAll n i roles os = ((deskPlay n roles (deskBegin n i) os).1, (deskPlay n roles (deskBegin n i) os).2, 0) ∧ (beginC n i).2 = 0)) := by
    by_cases h : (beginC n i).2 = 0
    · exact .inr ⟨by unfold deskAll; rw [if_pos h], h⟩
    · refine .inl ⟨?_, ?_⟩
      · unfold deskAll; rw [if_neg h]; exact h
      · unfold deskAll; rw [if_neg h]
  obtain ⟨D, HD⟩ : ∃ D, Hid (deskAll n i roles os = D) := ⟨_, rfl⟩
  rw [HD.out] at hD hA HDE ⊢
  obtain ⟨dk, ans, E⟩ := D
  simp only at hD hA HDE
  simp only
  obtain ⟨d1, l1, p1, d2, l2, p2, ia, ic, rfl, h1, h2, h3⟩ := hD
  obtain ⟨il, Hil⟩ : ∃ il, Hid (dk.items.length = il) := ⟨_, rfl⟩
  rw [Hil.out] at h3 ⊢
  have bn := below_new w2 (.cells #[.slice d1 l1 p1, .slice d2 l2 p2, .slice ia il ic] 32)
  have hb3 := box3_new w2 (.slice d1 l1 p1) (.slice d2 l2 p2) (.slice ia il ic) 32
  obtain ⟨B3, HB3⟩ : ∃ B, Hid (w2.heap.size = B) := ⟨_, rfl⟩
  rw [HB3.out] at hb3
  obtain ⟨w3, H3⟩ : ∃ w3, Hid (w2.alloc (.cells #[.slice d1 l1 p1, .slice d2 l2 p2, .slice ia il ic] 32) = w3) := ⟨_, rfl⟩
  rw [H3.out] at bn hb3
  replace c := below_then c bn
  replace hv := hv.below bn
  replace hT := hT.below bn
  replace hr := hr.below bn
  replace hu := hu.below bn
  replace hbx := hbx.below bn
  replace hA := hA.below bn
  replace h1 := h1.below bn
  replace h2 := h2.below bn
  replace h3 := h3.below bn
  clear bn
  go_upto_region 4 with fail
  rw [H3.out, HB3.out]
  clear H3
  obtain ⟨z0, z1, z2, z3⟩ := id hb3
  rcases HDE.out with ⟨hE, hnd⟩ | ⟨hok, hbeg⟩
  · have hE' : (E != 0) = true := by simpa using hE
    have e0 : dk = noDesk := by injection hnd
    obtain rfl : il = 0 := by rw [← Hil.out, e0]; rfl
    clear HDE hnd hE hA h1 h2 h3 hT hr hu hv e0
    go_wp2
    go_ret
    exact ⟨rfl, c⟩
  · have e0 : dk = (deskPlay n roles (deskBegin n i) os).1 := by injection hok
    have e1 : ans = (deskPlay n roles (deskBegin n i) os).2 := by injection hok with _ h; injection h
    have e2 : E = 0 := by injection hok with _ h; injection h
    subst e2
    have HInv : Hid (DeskInv n roles dk) := by show DeskInv n roles dk; rw [e0]; exact (desk_begin roles hbeg).play os
    obtain ⟨ta, len, tc, rfl, hlen, hmx, hsh, _⟩ := id hT
    have Hlen : Hid (n.trans.length = len) := hlen
    have hcap : len ≤ tc := hsh.1
    have hcap2 : tc ≤ 9223372036854775807 := hsh.2.1
    clear hlen hsh HDE
    have HLa : Hid (ans.length = os.length) := by show _ = _; rw [e1, desk_length]
    have hdone := done_case n roles (deskBegin n i) os os.length (Nat.le_refl _)
    rw [deskAt_all n roles _ (Nat.le_refl _), ← e0] at hdone
    obtain ⟨dn, Hdn⟩ : ∃ dn : Nat → List (Int × Int), Hid (dn = doneTo n roles (deskBegin n i) os) := ⟨_, rfl⟩
    have Hd0 : Hid (dn 0 = []) := by show _ = _; rw [Hdn.out]; rfl
    have HLe : Hid (∀ k, (dn k).length ≤ k) := fun k => by rw [Hdn.out]; exact doneTo_le n roles (deskBegin n i) os k
    rw [← Hdn.out] at hdone
    have Hkd : Hid (∀ k, k < os.length → (dansAt ans k).err = 0 → 1 ≤ (dopAt os k).kind ∧ (dopAt os k).kind ≤ 5) := fun k hk h => by
      rw [e1, ans_at n roles _ hk] at h
      exact done_kind h
    have HSk : Hid (∀ k, k < os.length → ((dansAt ans k).err ≠ 0 ∨ (dopAt os k).kind = 4) → dn (k + 1) = dn k) := fun k hk h => by
      rw [e1, ans_at n roles _ hk] at h
      rw [Hdn.out]
      show doneTo n roles (deskBegin n i) os k ++ _ = _
      rw [if_neg (fun q => by rcases h with h | h; exact h q.1; exact q.2 h), List.append_nil]
    have HYs : Hid (∀ k, k < os.length → (dansAt ans k).err = 0 → ((dopAt os k).kind = 1 → dn (k + 1) = dn k ++ [(2, (dopAt os k).tran)]) ∧ ((dopAt os k).kind = 5 → dn (k + 1) = dn k ++ [(1, (dopAt os k).tran)]) ∧
        ((dopAt os k).kind = 2 ∨ (dopAt os k).kind = 3 → ∃ j : Nat, (dansAt ans k).item = j ∧ j < dk.items.length ∧ dn (k + 1) = dn k ++ [((dopAt os k).kind + 1, (itemAt dk.items j).tran)])) := fun k hk h => by
      have hA2 : dansAt ans k = (deskDo n roles (deskAt n roles (deskBegin n i) os k) (dopAt os k)).2 := by rw [e1]; exact ans_at n roles _ hk
      rw [hA2] at h ⊢
      have e : (dopAt os k).kind ≠ 4 → dn (k + 1) = dn k ++ [caseOp (deskAt n roles (deskBegin n i) os k) (dopAt os k)] := fun h4 => by
        rw [Hdn.out]
        show doneTo n roles (deskBegin n i) os k ++ _ = _
        rw [if_pos ⟨h, h4⟩]
      refine ⟨fun h1 => ?_, fun h5 => ?_, fun h23 => ?_⟩
      · rw [e (by omega)]; unfold caseOp; rw [if_pos h1]
      · rw [e (by omega)]; unfold caseOp; rw [if_neg (by omega), if_neg (by omega), if_neg (by omega)]
      · obtain ⟨j, ej, hj, ht⟩ := done_item h h23
        obtain ⟨q1, q2⟩ := item_end n roles (deskBegin n i) (os := os) (k := k) (by omega) hj
        rw [← e0] at q1 q2
        refine ⟨j, ht, q1, ?_⟩
        rw [e (by omega), q2]
        unfold caseOp
        rw [if_neg (by omega)]
        rcases h23 with h2 | h3
        · rw [if_pos h2, ej, h2]; simp
        · rw [if_neg (by omega), if_pos h3, ej, h3]; simp
    have HPl : Hid (∀ gs, playAll n i gs = ((playC n (beginC n i).1 gs).1, (playC n (beginC n i).1 gs).2, 0)) := fun gs => by unfold playAll; rw [if_pos hbeg]
    have Hdone : Hid ((playC n (beginC n i).1 (dn os.length)).1 = dk.case ∧ ∀ e ∈ (playC n (beginC n i).1 (dn os.length)).2, e = 0) := hdone
    obtain ⟨ua, uc, rfl, hul, hus⟩ := hu.slice
    obtain ⟨len2, Hlen2⟩ : ∃ l, Hid (os.length = l) := ⟨_, rfl⟩
    rw [HLa.out, Hlen2.out] at hA
    rw [Hlen2.out] at hu hul hus Hkd HSk HYs Hdone
    rw [HLa.out, Hlen2.out]
    have hil : il ≤ 5864062014805 ∧ il ≤ ic ∧ ic ≤ 9223372036854775807 := by obtain ⟨_, _, _, e, _, h, hs, _⟩ := id h3; injection e with _ e e3; have := hs.1; have := hs.2.1; omega
    rw [Hil.out] at HYs
    clear hok e0 e1 HInv hbeg HD hdone Hdn
    go_wp2_with fail
    go_loopg [12, 43] len2 (fun gk dv k' wr => ∃ k : Nat, k + gk = len2 ∧ k' = .int .i64 (k : Int) ∧ OwnP w3.heap.size w3 wr dv (dn k))
    case atStart => exact ⟨0, by omega, rfl, by rw [Hd0.out]; exact OwnP.nil w3⟩
    case round =>
      obtain ⟨k, hkg, rfl, hO⟩ := hrel
      by_cases hkn : k < len2
      · obtain ⟨bo, oo, rfl, hlto, o0, o1, o2, o3, o4⟩ := (hu.below hO.2.1).at hkn
        obtain ⟨bA, oA, rfl, hltA, a0, a1⟩ := (hA.below hO.2.1).at hkn
        rw [ansL_at] at a0 a1
        simp only at a0 a1
        have HY : Hid _ := HYs.out k hkn
        have HN : Hid _ := HSk.out k hkn
        have HK : Hid _ := Hkd.out k hkn
        have hle := HLe.out k
        obtain ⟨O, HO⟩ : ∃ O, Hid (dopAt os k = O) := ⟨_, rfl⟩
        obtain ⟨Ak, HAk⟩ : ∃ A, Hid (dansAt ans k = A) := ⟨_, rfl⟩
        rw [HO.out] at o0 o1 o2 o3 o4 HY HN HK
        rw [HAk.out] at a0 a1 HY HN HK
        obtain ⟨kd, us, tr, im, hn⟩ := O
        obtain ⟨ex, ix⟩ := Ak
        simp only at o0 o1 o2 o3 o4 a0 a1 HY HN HK
        clear HO HAk
        have bn := below_new wr (.cells #[.int .i64 kd, .int .i64 us, .int .i64 tr, .int .i64 im, .int .i64 hn] 51)
        have hblk : (wr.alloc (.cells #[.int .i64 kd, .int .i64 us, .int .i64 tr, .int .i64 im, .int .i64 hn] 51)).heap[wr.heap.size]? = some (.cells #[.int .i64 kd, .int .i64 us, .int .i64 tr, .int .i64 im, .int .i64 hn] 51 (0, 0)) := by
          show (wr.heap.push _)[wr.heap.size]? = _
          simp
        obtain ⟨Bt, HBt⟩ : ∃ B, Hid (wr.heap.size = B) := ⟨_, rfl⟩
        obtain ⟨w5, H5⟩ : ∃ w5, Hid (wr.alloc (.cells #[.int .i64 kd, .int .i64 us, .int .i64 tr, .int .i64 im, .int .i64 hn] 51) = w5) := ⟨_, rfl⟩
        rw [H5.out] at bn hblk
        rw [HBt.out] at hblk
        replace hO := hO.trans bn
        replace a0 := (bn.cell (p := ⟨bA, oA + k * 2, none⟩) hltA).trans a0
        replace a1 := (bn.cell (p := ⟨bA, oA + k * 2 + 1, none⟩) hltA).trans a1
        have hltA5 := Nat.lt_of_lt_of_le hltA bn.size
        have hs53 : w3.heap.size ≤ w5.heap.size := hO.2.2
        have y0 : Bt < w5.heap.size := (Array.getElem?_eq_some_iff.1 hblk).1
        have y1 : w5.cell? ⟨Bt, 0, none⟩ = some (.int .i64 kd) := by simp [World.cell?, hblk]
        have y2 : w5.cell? ⟨Bt, 2, none⟩ = some (.int .i64 tr) := by simp [World.cell?, hblk]
        go_upto_region 10 with fail
        rw [H5.out, HBt.out]
        clear H5 o0 o1 o2 o3 o4 bn hblk
        by_cases hex : ex = 0
        · subst hex
          obtain ⟨k1, k5⟩ := HK.out rfl
          have HY2 : Hid _ := HY.out rfl
          by_cases h4 : kd = 4
          · subst h4
            have R : Hid _ := HN.out (.inr rfl)
            clear HY HN HK HY2
            go_wp2
            go_roundg (gk - 1)
            case measure => omega
            case rel => exact ⟨k + 1, by omega, by go_num, by rw [R.out]; exact hO⟩
          · obtain rfl | rfl | rfl | rfl : kd = 1 ∨ kd = 2 ∨ kd = 3 ∨ kd = 5 := by omega
            · have R : Hid _ := HY2.out.1 rfl
              clear HY HN HK HY2 h4 k1 k5
              go_upto_region 11 with fail
              have hlt5 : ∀ q, u12.ownBlock = some q → q < w5.heap.size := fun q hq => (ownsRow_lt hO.1 hq).2
              obtain ⟨m1, m2, m3, m4, r1, r2, r3, r4, q1, q2, q3, q5, bm, sm⟩ := kinds_map w5
              have hmm := run_makeMap (P := Try.prog) 52 w5
              have y1m := (bm.cell (p := ⟨Bt, 0, none⟩) y0).trans y1
              have y2m := (bm.cell (p := ⟨Bt, 2, none⟩) y0).trans y2
              have bc := below_new m4 (.cells #[.int .i64 2, .int .i64 tr] 54)
              have hcb : (m4.alloc (.cells #[.int .i64 2, .int .i64 tr] 54)).heap[m4.heap.size]? = some (.cells #[.int .i64 2, .int .i64 tr] 54 (0, 0)) := by
                show (m4.heap.push _)[m4.heap.size]? = _
                simp
              obtain ⟨Bc, HBc⟩ : ∃ B, Hid (m4.heap.size = B) := ⟨_, rfl⟩
              have hBc : w5.heap.size < Bc := by rw [← HBc.out]; exact sm
              obtain ⟨w6, H6⟩ : ∃ w6, Hid (m4.alloc (.cells #[.int .i64 2, .int .i64 tr] 54) = w6) := ⟨_, rfl⟩
              rw [H6.out] at bc hcb
              rw [HBc.out] at hcb
              have b6 := below_then bm bc
              replace hO := hO.trans b6
              replace a0 := (b6.cell (p := ⟨bA, oA + k * 2, none⟩) hltA5).trans a0
              replace a1 := (b6.cell (p := ⟨bA, oA + k * 2 + 1, none⟩) hltA5).trans a1
              have yk := (b6.cell (p := ⟨Bt, 0, none⟩) y0).trans y1
              go_upto_region 12 with fail
              rw [H6.out, HBc.out]
              clear H6 hmm r1 r2 r3 r4 q1 q2 q3 q5 y1m y2m y1 y2 bm bc
              have c0 : w6.cell? ⟨Bc, 0, none⟩ = some (.int .i64 2) := by simp [World.cell?, hcb]
              have c1 : w6.cell? ⟨Bc, 1, none⟩ = some (.int .i64 tr) := by simp [World.cell?, hcb]
              clear hcb
              go_wp2_with (at_builtin; refine wp_append_op rfl _ _ rfl w3.heap.size w3 _ _ (dn k) 2 tr hO rfl rfl (by omega) ?_; intro v' w7 hO7)
              go_roundg (gk - 1)
              case measure => omega
              case rel => exact ⟨k + 1, by omega, by go_num, by rw [R.out]; exact hO7⟩
            · have R : Hid _ := HY2.out.2.2 (.inl rfl)
              clear HY HN HK HY2 h4 k1 k5
              go_upto_region 11 with fail
              have hlt5 : ∀ q, u12.ownBlock = some q → q < w5.heap.size := fun q hq => (ownsRow_lt hO.1 hq).2
              obtain ⟨m1, m2, m3, m4, r1, r2, r3, r4, q1, q2, q3, q5, bm, sm⟩ := kinds_map w5
              have hmm := run_makeMap (P := Try.prog) 52 w5
              have y1m := (bm.cell (p := ⟨Bt, 0, none⟩) y0).trans y1
              have y2m := (bm.cell (p := ⟨Bt, 2, none⟩) y0).trans y2
              have bc := below_new m4 (.cells #[.int .i64 3, .int .i64 tr] 54)
              have hcb : (m4.alloc (.cells #[.int .i64 3, .int .i64 tr] 54)).heap[m4.heap.size]? = some (.cells #[.int .i64 3, .int .i64 tr] 54 (0, 0)) := by
                show (m4.heap.push _)[m4.heap.size]? = _
                simp
              obtain ⟨Bc, HBc⟩ : ∃ B, Hid (m4.heap.size = B) := ⟨_, rfl⟩
              have hBc : w5.heap.size < Bc := by rw [← HBc.out]; exact sm
              obtain ⟨w6, H6⟩ : ∃ w6, Hid (m4.alloc (.cells #[.int .i64 3, .int .i64 tr] 54) = w6) := ⟨_, rfl⟩
              rw [H6.out] at bc hcb
              rw [HBc.out] at hcb
              have b6 := below_then bm bc
              replace hO := hO.trans b6
              replace a0 := (b6.cell (p := ⟨bA, oA + k * 2, none⟩) hltA5).trans a0
              replace a1 := (b6.cell (p := ⟨bA, oA + k * 2 + 1, none⟩) hltA5).trans a1
              have yk := (b6.cell (p := ⟨Bt, 0, none⟩) y0).trans y1
              go_upto_region 12 with fail
              rw [H6.out, HBc.out]
              clear H6 hmm r1 r2 r3 r4 q1 q2 q3 q5 y1m y2m y1 y2 bm bc
              obtain ⟨j, ej, hj, R1⟩ := R.out
              subst ej
              have R2 : Hid _ := R1
              clear R R1
              obtain ⟨z0', z1', z2', z3'⟩ := hb3.below hO.2.1
              obtain ⟨bi, oi, rfl, hlti, i0, i1, i2⟩ := (h3.below hO.2.1).at hj
              obtain ⟨tj, Htj⟩ : ∃ t, Hid ((itemAt dk.items j).tran = t) := ⟨_, rfl⟩
              rw [Htj.out] at i1 R2
              have hg0 : decide ((j : Int) < 0) = false := decide_eq_false (by omega)
              have hg1 : decide ((il : Int) ≤ (j : Int)) = false := decide_eq_false (by omega)
              clear i0 i2
              go_wp2_with fail
              go_quiet (fail)
              have bq := below_drewN (Below.refl w6.heap.size w6) nq
              obtain ⟨w7, H7⟩ : ∃ w7, Hid (w6.drewN nq = w7) := ⟨_, rfl⟩
              rw [H7.out] at bq ⊢
              have hBc6 : Bc < w6.heap.size := (Array.getElem?_eq_some_iff.1 hcb).1
              replace hcb := (bq.block Bc hBc6).trans hcb
              replace hO := hO.trans bq
              replace a1 := (bq.cell (p := ⟨bA, oA + k * 2 + 1, none⟩) (Nat.lt_of_lt_of_le hltA5 b6.size)).trans a1
              replace i1 := (bq.cell (p := ⟨bi, oi + j * 3 + 1, none⟩) hlti).trans i1
              replace z3' := (bq.cell (p := ⟨B3, 2, none⟩) z0').trans z3'
              have c0 : w7.cell? ⟨Bc, 0, none⟩ = some (.int .i64 3) := by simp [World.cell?, hcb]
              have c1 : w7.cell? ⟨Bc, 1, none⟩ = some (.int .i64 tr) := by simp [World.cell?, hcb]
              have f1 : w7.frozen? ⟨Bc, 1, none⟩ = false := by simp [World.frozen?, hcb]
              have hne : u12.ownBlock ≠ some Bc := fun q => by have := hlt5 _ q; omega
              have hs5 : w3.heap.size ≤ Bc := by have := hO.2.2; have := ‹w5.heap.size < Bc›; have h53 : w3.heap.size ≤ w5.heap.size := hs53; omega
              have bd : Below (w7.setCell ⟨Bc, 1, none⟩ (.int .i64 tj)).heap.size (w7.setCell ⟨Bc, 1, none⟩ (.int .i64 tj)) (w7.setCell ⟨Bc, 1, none⟩ (.int .i64 tj)).drew := (Below.refl _ _).drew
              have hO8 := (hO.set (p := ⟨Bc, 1, none⟩) hne hs5 (.int .i64 tj)).trans bd
              have d0 : (w7.setCell ⟨Bc, 1, none⟩ (.int .i64 tj)).drew.cell? ⟨Bc, 0, none⟩ = some (.int .i64 3) := by
                show (w7.setCell ⟨Bc, 1, none⟩ (.int .i64 tj)).cell? ⟨Bc, 0, none⟩ = _
                rw [World.cell?_setCell_other _ _ _ _ (by simp)]; exact c0
              have d1 : (w7.setCell ⟨Bc, 1, none⟩ (.int .i64 tj)).drew.cell? ⟨Bc, 1, none⟩ = some (.int .i64 tj) := by
                show (w7.setCell ⟨Bc, 1, none⟩ (.int .i64 tj)).cell? ⟨Bc, 1, none⟩ = _
                exact World.cell?_setCell_same _ _ _ c1
              obtain ⟨w8, H8⟩ : ∃ w8, Hid ((w7.setCell ⟨Bc, 1, none⟩ (.int .i64 tj)).drew = w8) := ⟨_, rfl⟩
              rw [H8.out] at hO8 d0 d1
              clear hcb bd
              go_wp2_with fail
              go_region
              rw [H8.out]
              clear H8 H7 c0 c1 f1 a0 a1 i1 z0' z1' z2' z3' hO yk
              go_wp2_with (at_builtin; refine wp_append_op rfl _ _ rfl w3.heap.size w3 _ _ (dn k) 3 tj hO8 rfl rfl (by omega) ?_; intro v' w9 hO9)
              go_roundg (gk - 1)
              case measure => omega
              case rel => exact ⟨k + 1, by omega, by go_num, by rw [R2.out]; exact hO9⟩
            · have R : Hid _ := HY2.out.2.2 (.inr rfl)
              clear HY HN HK HY2 h4 k1 k5
              go_upto_region 11 with fail
              have hlt5 : ∀ q, u12.ownBlock = some q → q < w5.heap.size := fun q hq => (ownsRow_lt hO.1 hq).2
              obtain ⟨m1, m2, m3, m4, r1, r2, r3, r4, q1, q2, q3, q5, bm, sm⟩ := kinds_map w5
              have hmm := run_makeMap (P := Try.prog) 52 w5
              have y1m := (bm.cell (p := ⟨Bt, 0, none⟩) y0).trans y1
              have y2m := (bm.cell (p := ⟨Bt, 2, none⟩) y0).trans y2
              have bc := below_new m4 (.cells #[.int .i64 4, .int .i64 tr] 54)
              have hcb : (m4.alloc (.cells #[.int .i64 4, .int .i64 tr] 54)).heap[m4.heap.size]? = some (.cells #[.int .i64 4, .int .i64 tr] 54 (0, 0)) := by
                show (m4.heap.push _)[m4.heap.size]? = _
                simp
              obtain ⟨Bc, HBc⟩ : ∃ B, Hid (m4.heap.size = B) := ⟨_, rfl⟩
              have hBc : w5.heap.size < Bc := by rw [← HBc.out]; exact sm
              obtain ⟨w6, H6⟩ : ∃ w6, Hid (m4.alloc (.cells #[.int .i64 4, .int .i64 tr] 54) = w6) := ⟨_, rfl⟩
              rw [H6.out] at bc hcb
              rw [HBc.out] at hcb
              have b6 := below_then bm bc
              replace hO := hO.trans b6
              replace a0 := (b6.cell (p := ⟨bA, oA + k * 2, none⟩) hltA5).trans a0
              replace a1 := (b6.cell (p := ⟨bA, oA + k * 2 + 1, none⟩) hltA5).trans a1
              have yk := (b6.cell (p := ⟨Bt, 0, none⟩) y0).trans y1
              go_upto_region 12 with fail
              rw [H6.out, HBc.out]
              clear H6 hmm r1 r2 r3 r4 q1 q2 q3 q5 y1m y2m y1 y2 bm bc
              obtain ⟨j, ej, hj, R1⟩ := R.out
              subst ej
              have R2 : Hid _ := R1
              clear R R1
              obtain ⟨z0', z1', z2', z3'⟩ := hb3.below hO.2.1
              obtain ⟨bi, oi, rfl, hlti, i0, i1, i2⟩ := (h3.below hO.2.1).at hj
              obtain ⟨tj, Htj⟩ : ∃ t, Hid ((itemAt dk.items j).tran = t) := ⟨_, rfl⟩
              rw [Htj.out] at i1 R2
              have hg0 : decide ((j : Int) < 0) = false := decide_eq_false (by omega)
              have hg1 : decide ((il : Int) ≤ (j : Int)) = false := decide_eq_false (by omega)
              clear i0 i2
              go_wp2_with fail
              go_quiet (fail)
              have bq := below_drewN (Below.refl w6.heap.size w6) nq
              obtain ⟨w7, H7⟩ : ∃ w7, Hid (w6.drewN nq = w7) := ⟨_, rfl⟩
              rw [H7.out] at bq ⊢
              have hBc6 : Bc < w6.heap.size := (Array.getElem?_eq_some_iff.1 hcb).1
              replace hcb := (bq.block Bc hBc6).trans hcb
              replace hO := hO.trans bq
              replace a1 := (bq.cell (p := ⟨bA, oA + k * 2 + 1, none⟩) (Nat.lt_of_lt_of_le hltA5 b6.size)).trans a1
              replace i1 := (bq.cell (p := ⟨bi, oi + j * 3 + 1, none⟩) hlti).trans i1
              replace z3' := (bq.cell (p := ⟨B3, 2, none⟩) z0').trans z3'
              have c0 : w7.cell? ⟨Bc, 0, none⟩ = some (.int .i64 4) := by simp [World.cell?, hcb]
              have c1 : w7.cell? ⟨Bc, 1, none⟩ = some (.int .i64 tr) := by simp [World.cell?, hcb]
              have f1 : w7.frozen? ⟨Bc, 1, none⟩ = false := by simp [World.frozen?, hcb]
              have hne : u12.ownBlock ≠ some Bc := fun q => by have := hlt5 _ q; omega
              have hs5 : w3.heap.size ≤ Bc := by have := hO.2.2; have := ‹w5.heap.size < Bc›; have h53 : w3.heap.size ≤ w5.heap.size := hs53; omega
              have bd : Below (w7.setCell ⟨Bc, 1, none⟩ (.int .i64 tj)).heap.size (w7.setCell ⟨Bc, 1, none⟩ (.int .i64 tj)) (w7.setCell ⟨Bc, 1, none⟩ (.int .i64 tj)).drew := (Below.refl _ _).drew
              have hO8 := (hO.set (p := ⟨Bc, 1, none⟩) hne hs5 (.int .i64 tj)).trans bd
              have d0 : (w7.setCell ⟨Bc, 1, none⟩ (.int .i64 tj)).drew.cell? ⟨Bc, 0, none⟩ = some (.int .i64 4) := by
                show (w7.setCell ⟨Bc, 1, none⟩ (.int .i64 tj)).cell? ⟨Bc, 0, none⟩ = _
                rw [World.cell?_setCell_other _ _ _ _ (by simp)]; exact c0
              have d1 : (w7.setCell ⟨Bc, 1, none⟩ (.int .i64 tj)).drew.cell? ⟨Bc, 1, none⟩ = some (.int .i64 tj) := by
                show (w7.setCell ⟨Bc, 1, none⟩ (.int .i64 tj)).cell? ⟨Bc, 1, none⟩ = _
                exact World.cell?_setCell_same _ _ _ c1
              obtain ⟨w8, H8⟩ : ∃ w8, Hid ((w7.setCell ⟨Bc, 1, none⟩ (.int .i64 tj)).drew = w8) := ⟨_, rfl⟩
              rw [H8.out] at hO8 d0 d1
              clear hcb bd
              go_wp2_with fail
              go_region
              rw [H8.out]
              clear H8 H7 c0 c1 f1 a0 a1 i1 z0' z1' z2' z3' hO yk
              go_wp2_with (at_builtin; refine wp_append_op rfl _ _ rfl w3.heap.size w3 _ _ (dn k) 4 tj hO8 rfl rfl (by omega) ?_; intro v' w9 hO9)
              go_roundg (gk - 1)
              case measure => omega
              case rel => exact ⟨k + 1, by omega, by go_num, by rw [R2.out]; exact hO9⟩
            · have R : Hid _ := HY2.out.2.1 rfl
              clear HY HN HK HY2 h4 k1 k5
              go_upto_region 11 with fail
              have hlt5 : ∀ q, u12.ownBlock = some q → q < w5.heap.size := fun q hq => (ownsRow_lt hO.1 hq).2
              obtain ⟨m1, m2, m3, m4, r1, r2, r3, r4, q1, q2, q3, q5, bm, sm⟩ := kinds_map w5
              have hmm := run_makeMap (P := Try.prog) 52 w5
              have y1m := (bm.cell (p := ⟨Bt, 0, none⟩) y0).trans y1
              have y2m := (bm.cell (p := ⟨Bt, 2, none⟩) y0).trans y2
              have bc := below_new m4 (.cells #[.int .i64 1, .int .i64 tr] 54)
              have hcb : (m4.alloc (.cells #[.int .i64 1, .int .i64 tr] 54)).heap[m4.heap.size]? = some (.cells #[.int .i64 1, .int .i64 tr] 54 (0, 0)) := by
                show (m4.heap.push _)[m4.heap.size]? = _
                simp
              obtain ⟨Bc, HBc⟩ : ∃ B, Hid (m4.heap.size = B) := ⟨_, rfl⟩
              have hBc : w5.heap.size < Bc := by rw [← HBc.out]; exact sm
              obtain ⟨w6, H6⟩ : ∃ w6, Hid (m4.alloc (.cells #[.int .i64 1, .int .i64 tr] 54) = w6) := ⟨_, rfl⟩
              rw [H6.out] at bc hcb
              rw [HBc.out] at hcb
              have b6 := below_then bm bc
              replace hO := hO.trans b6
              replace a0 := (b6.cell (p := ⟨bA, oA + k * 2, none⟩) hltA5).trans a0
              replace a1 := (b6.cell (p := ⟨bA, oA + k * 2 + 1, none⟩) hltA5).trans a1
              have yk := (b6.cell (p := ⟨Bt, 0, none⟩) y0).trans y1
              go_upto_region 12 with fail
              rw [H6.out, HBc.out]
              clear H6 hmm r1 r2 r3 r4 q1 q2 q3 q5 y1m y2m y1 y2 bm bc
              have c0 : w6.cell? ⟨Bc, 0, none⟩ = some (.int .i64 1) := by simp [World.cell?, hcb]
              have c1 : w6.cell? ⟨Bc, 1, none⟩ = some (.int .i64 tr) := by simp [World.cell?, hcb]
              clear hcb
              go_wp2_with (at_builtin; refine wp_append_op rfl _ _ rfl w3.heap.size w3 _ _ (dn k) 1 tr hO rfl rfl (by omega) ?_; intro v' w7 hO7)
              go_roundg (gk - 1)
              case measure => omega
              case rel => exact ⟨k + 1, by omega, by go_num, by rw [R.out]; exact hO7⟩
        · have hex' : (ex != 0) = true := by simpa using hex
          have R : Hid _ := HN.out (.inl hex)
          clear HY HN HK hex
          go_wp2
          go_roundg (gk - 1)
          case measure => omega
          case rel => exact ⟨k + 1, by omega, by go_num, by rw [R.out]; exact hO⟩
      · obtain rfl : k = len2 := by omega
        have hle := HLe.out k
        have hDo := hO.ops (by omega)
        have b := hO.2.1
        replace c := below_then c b
        replace hv := hv.below b
        replace hbx := hbx.below b
        replace hb3 := hb3.below b
        have hCa : CaseV wr (.agg #[.slice d1 l1 p1, .slice d2 l2 p2]) dk.case := ⟨d1, l1, p1, d2, l2, p2, rfl, h1.below b, h2.below b⟩
        have hAll := HPl.out (dn k)
        obtain ⟨hq1, hq2⟩ := Hdone.out
        rw [hq1] at hAll
        have HQ : Hid _ := hq2
        clear hO b h1 h2 h3 hT hu hA HYs HSk Hkd HLe HPl Hdone hq1 hq2 z0 z1 z2 z3 hr
        obtain ⟨x0, x1, x2⟩ := id hbx
        go_wp2_with fail
        refine (cases_play _ _ n i (dn k) wr (by exact hv) (by exact hDo)).mono ?_
        rintro e w6 ⟨rv, lv, rfl, hC, hL, b⟩
        rw [hAll] at hC hL ⊢
        simp only at hC hL ⊢
        replace c := below_then c b
        replace hb3 := hb3.below b
        replace hCa := hCa.below b
        clear b x0 x1 x2 hAll hDo hv hbx
        have hC' := hC
        obtain ⟨e1, g1, q1, e2, g2, q2, rfl, _, _⟩ := hC
        obtain ⟨lb, lm, lq, rfl, _⟩ := id hL
        have bn := below_new w6 (.cells #[.slice e1 g1 q1, .slice e2 g2 q2] 29)
        have hb4 := box2_new w6 (.slice e1 g1 q1) (.slice e2 g2 q2) 29
        obtain ⟨B4, HB4⟩ : ∃ B, Hid (w6.heap.size = B) := ⟨_, rfl⟩
        rw [HB4.out] at hb4
        obtain ⟨w7, H7⟩ : ∃ w7, Hid (w6.alloc (.cells #[.slice e1 g1 q1, .slice e2 g2 q2] 29) = w7) := ⟨_, rfl⟩
        rw [H7.out] at bn hb4
        replace c := below_then c bn
        replace hb3 := hb3.below bn
        replace hCa := hCa.below bn
        replace hC' := hC'.below bn
        replace hL := hL.below bn
        clear bn
        go_upto_region 19 with fail
        rw [H7.out, HB4.out]
        clear H7
        obtain ⟨z0, z1, z2, z3⟩ := id hb3
        obtain ⟨y0, y1, y2⟩ := id hb4
        go_wp2_with fail
        refine (samecase_any _ _ dk.case dk.case w7 (by exact hC') (by exact hCa)).mono ?_
        rintro e w8 ⟨rfl, b⟩
        rw [sameC_self]
        replace c := below_then c b
        replace hL := hL.below b
        clear b z0 z1 z2 z3 y0 y1 y2
        have hno : anyL (playC n (beginC n i).1 (dn k)).2 (fun x => x != 0) = false := by
          unfold anyL
          rw [List.any_eq_false]
          intro x hx
          rw [HQ.out x hx]; simp
        go_wp2_with fail
        refine (containserr_any _ _ notOk Try.call18 _ _ w8 (by exact hL)).mono ?_
        rintro e w9 ⟨rfl, rfl⟩
        rw [hno]
        go_wp2
        go_ret
        exact ⟨rfl, c⟩

end Go.Proofs.Ytplfflnkidcglaa
