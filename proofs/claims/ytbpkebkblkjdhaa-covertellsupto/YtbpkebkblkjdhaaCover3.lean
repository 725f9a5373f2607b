/- The answers of the document itself for cover: the tree, walked. -/
import Derived.Test.YtbpkebkblkjdhaaCover2
import Derived.Test.YtbpkebkblkjdhaaNet2
import Derived.BigRegion
namespace Go.Proofs.Ytbpkebkblkjdhaa
open Go.RowKit
set_option linter.unusedVariables false

theorem fits_transK {n : NetL} {m : List Int} (h : fitsL n m = true) : n.trans.length ≤ 24 ∧ 0 ≤ n.places ∧ n.places ≤ 16 := by
  obtain ⟨hn, _, _⟩ := fits_net h
  simp only [netOk, headOk, Bool.and_eq_true, decide_eq_true_eq] at hn
  exact ⟨hn.1.2, hn.1.1.1, hn.1.1.2⟩

set_option maxRecDepth 4000 in
set_option maxHeartbeats 8000000 in
theorem etree_any (v u : Value) (n : NetL) (m : List Int) (most : Int) (w : World) (hv : Net w v n) (hu : Ints w u m) (hsm : SmallNet n) :
    Calls Try.prog 9 #[v, u, .int .i64 most] w fun e w' => GivesK w (treeL n m most) e w' := by
  obtain ⟨tv, rfl, hT⟩ := hv
  have b1 := below_new w (.cells #[.int .i64 n.places, tv] 24)
  have hbx := box2_new w (.int .i64 n.places) tv 24
  replace hu := hu.below b1
  have hv : Net _ _ n := ⟨tv, rfl, hT.below b1⟩
  replace hT := hT.below b1
  go_enter Try.func9, Try.ntmps9
  by_cases hm1 : 1 ≤ most
  case neg =>
    have E : Hid (treeL n m most = ([], 2)) := by show _ = _; rw [treeL, graphOk, decide_eq_false (by omega)]; rfl
    go_wp2
    go_ret2
    exact givesK_of E.out (Knots.nil _) b1
  by_cases hm2 : most ≤ 300
  case neg =>
    have E : Hid (treeL n m most = ([], 2)) := by show _ = _; rw [treeL, graphOk, decide_eq_false (show ¬ most ≤ 300 by omega)]; simp
    go_wp2
    go_ret2
    exact givesK_of E.out (Knots.nil _) b1
  go_wp2_with fail
  refine (bfits_any _ _ n m _ (by exact hv) (by exact hu) hsm).mono ?_
  rintro e W ⟨rfl, b2⟩
  replace hu := hu.below b2
  replace hT := hT.below b2
  replace hbx := hbx.below b2
  replace b1 := below_then b1 b2
  clear b2 hv
  cases hf : fitsL n m
  · have E : Hid (treeL n m most = ([], 2)) := by show _ = _; rw [treeL, graphOk, hf]; simp
    go_wp2
    go_ret2
    exact givesK_of E.out (Knots.nil _) b1
  obtain ⟨M, rfl⟩ := Int.eq_ofNat_of_zero_le (show 0 ≤ most by omega)
  have HG : Hid (∀ o, treeTo n m M M = o → treeL n m M = match o with | some s => (s.map KnotX.knot, 0) | none => ([], 4)) := by
    intro o ho
    have hok : graphOk n m M = true := by simp only [graphOk, Bool.and_eq_true, decide_eq_true_eq]; exact ⟨⟨by omega, by omega⟩, hf⟩
    rw [treeL, hok]
    simp only [if_true, Int.toNat_natCast]
    rw [ho]
    cases o <;> rfl
  have HFd : Hid (∀ k s, treeTo n m M k = some s → Grown n m M k 0 s) := fun k s h => treeTo_grown (by omega) k h
  have HF : Hid (fitsL n m = true) := hf
  have hM1 : 1 ≤ M := by omega
  have hM3 : M ≤ 300 := by omega
  obtain ⟨ta, tl, tc, rfl, htl, _, _, _⟩ := id hT
  have HnT : Hid (n.trans.length = tl) := htl
  have ht24 : tl ≤ 24 := by have := (fits_transK hf).1; omega
  obtain ⟨ua, ul, uc, rfl, _, _, _, _⟩ := id hu
  have hst := tree_start W (.slice ua ul uc) m rfl hu
  obtain ⟨Ws, HWs⟩ : ∃ Ws, Hid (((W.alloc (.cells #[.int .i64 (-1), .int .i64 (-1), .slice ua ul uc] 39)).alloc (.cells #[.slice none 0 0] 44)) = Ws) := ⟨_, rfl⟩
  rw [HWs.out] at hst
  clear hu hm1 hm2 hf htl
  go_upto_region 5 with fail
  rw [HWs.out]
  clear HWs
  go_wp2_with fail
  go_loopg [8, 9, 10] M (fun g o l i wr => ∃ (k : Nat) (s : List KnotX) (ms ls : List Value) (uss : List (List Value)), k + g = M ∧ i = .int .i64 k ∧ TreeAt W.heap.size W wr s o l ms ls uss ∧ Hid (treeTo n m M k = some s))
  case atStart => exact ⟨0, _, _, _, _, by omega, rfl, hst, rfl⟩
  case round =>
    clear hst
    obtain ⟨k, s, ms, ls, uss, hkg, rfl, hS, Hgr⟩ := hrel
    obtain ⟨G, hGk⟩ : ∃ G, G = gk := ⟨_, rfl⟩
    obtain ⟨WR, hWRk⟩ : ∃ WR, WR = wr := ⟨_, rfl⟩
    subst hGk hWRk
    have hGr : Grown n m M k 0 s := HFd.out k s Hgr.out
    have hml : s.length ≤ M := hGr.most_le
    obtain ⟨lm, Hlm⟩ : ∃ lm, Hid (s.length = lm) := ⟨_, rfl⟩
    rw [Hlm.out] at hml
    by_cases hkl : k < lm
    case neg =>
      have E : Hid (treeL n m M = (s.map KnotX.knot, 0)) := by
        have := tree_stable Hgr.out (by have := Hlm.out; omega) (M - k)
        rw [show k + (M - k) = M by omega] at this
        exact HG.out _ this
      obtain ⟨ao, co, rfl⟩ := hS.sliceO
      have R := hS.knots (by have := Hlm.out; omega)
      have R2 := below_then b1 hS.below
      rw [Hlm.out] at R ⊢
      clear hS
      go_wp2
      go_ret2
      exact givesK_of E.out R R2
    have hks : k < s.length := by have := Hlm.out; omega
    obtain ⟨og, co, gl, cl, rfl, rfl, ho1, hl1, hc1, hc2⟩ := hS.cells hks
    obtain ⟨am, lmk, cm, hmv, hmk, _, _, _⟩ := (hS.elM k hks).2.now
    obtain ⟨al, ll, cl', hlv, _, hll, _, _⟩ := (hS.elL k hks).2.now
    have hll3 : ll ≤ 300 := by have := hGr.line hks; omega
    have hmk2 := (hS.elM k hks).2
    have hlk2 := (hS.elL k hks).2
    rw [hmv] at hc1 hmk2
    rw [hlv] at hc2 hlk2
    have hks : Hid (k < s.length) := hks
    rw [Hlm.out] at hS ⊢
    go_wp2_with fail
    go_loopg [11, 49] ll (fun g o i wr => ∃ j : Nat, j + g = ll ∧ i = .int .i64 j ∧ o = .bool (seenTo (knotAt s k) j) ∧ Below WR.heap.size WR wr)
    case atStart => exact ⟨0, by omega, rfl, rfl, Below.refl _ _⟩
    case round =>
      obtain ⟨j, hjg, rfl, rfl, hb⟩ := hrel
      by_cases hjn : j < ll
      · obtain ⟨_, _, _, e, _, _, _, hr⟩ := (hlk2.below hb).now
        injection e with e1 e2 e3
        subst e1 e2 e3
        obtain ⟨bl, ol, rfl, hbl, hcl, _, hil⟩ := hr j hjn
        have hm2 := (hmk2.below hb).now
        have hc1' := (hb.cell (p := ⟨og, k * 3 + 2, none⟩) ho1).trans hc1
        have Hse : Hid _ := seenTo_succ (knotAt s k) j (by omega)
        obtain ⟨ax, lx, cx, hax, _, _, _, _⟩ := id hil
        rw [hax] at hcl hil
        clear hr
        cases hA : seenTo (knotAt s k) j
        · have F : Hid (seenTo (knotAt s k) (j + 1) = (markAt (knotAt s k).line j == (knotAt s k).mark)) := by show _ = _; rw [Hse.out, hA]; rfl
          clear hA Hse
          go_wp2_with fail
          refine (equal_b _ _ _ _ _ (by exact hil) (by exact hm2)).mono ?_
          rintro e w6 ⟨rfl, b'⟩
          have R := below_then hb b'
          rw [← F.out]
          clear hb b' hil hm2 hcl hc1'
          go_wp2
          go_roundg (gk - 1)
          case measure => omega
          case rel => exact ⟨j + 1, by omega, by go_num, rfl, R⟩
        · have F : Hid (seenTo (knotAt s k) (j + 1) = true) := by show _ = _; rw [Hse.out, hA]; rfl
          clear hA Hse
          go_wp2
          go_roundg (gk - 1)
          case measure => omega
          case rel => exact ⟨j + 1, by omega, by go_num, by rw [F.out], hb⟩
      · have F : Hid (seenTo (knotAt s k) j = seenK (knotAt s k)) := seenTo_all _ _ (by omega)
        rw [F.out]
        clear F
        replace hS := hS.to hb
        replace hmk2 := hmk2.below hb
        replace hlk2 := hlk2.below hb
        replace hc1 := (hb.cell (p := ⟨og, k * 3 + 2, none⟩) ho1).trans hc1
        replace hc2 := (hb.cell (p := ⟨gl, k, none⟩) hl1).trans hc2
        replace ho1 := Nat.lt_of_lt_of_le ho1 hb.size
        replace hl1 := Nat.lt_of_lt_of_le hl1 hb.size
        clear hb
        obtain ⟨WT, hWTk⟩ : ∃ WT, WT = wr := ⟨_, rfl⟩
        subst hWTk
        cases hse : seenK (knotAt s k)
        case true =>
          have R : Hid (treeTo n m M (k + 1) = some s) := by
            show _ = _
            rw [treeTo, Hgr.out]
            simp only [Option.bind_some]
            rw [if_pos hks.out, hse]; rfl
          clear hse hmk2 hlk2 hc1 hc2
          go_wp2
          go_roundg (G - 1)
          case measure => omega
          case rel => exact ⟨k + 1, s, ms, ls, uss, by omega, by go_num, hS, R⟩
        have Hse : Hid _ := hse
        clear hse
        have HW := mine_ways WT (.slice am lmk cm) 25
        have EA : Hid ((WT.alloc (.cells #[] 25)).drew.ownsRow WT.heap.size 25 1 (.slice (some ⟨WT.heap.size, 0, none⟩) 0 0) 0 []) := HW.1.1
        have BA : Hid (Below WT.heap.size WT (WT.alloc (.cells #[] 25)).drew) := HW.1.2
        have EB : Hid (((WT.alloc (.cells #[] 25)).alloc (.cells #[.slice am lmk cm] 25)).drew.ownsRow WT.heap.size 25 1 (.slice (some ⟨WT.heap.size, 0, none⟩) 0 0) 0 []) := HW.2.1.1
        have BB : Hid (Below WT.heap.size WT ((WT.alloc (.cells #[] 25)).alloc (.cells #[.slice am lmk cm] 25)).drew) := HW.2.1.2.1
        have CB : Hid (((WT.alloc (.cells #[] 25)).alloc (.cells #[.slice am lmk cm] 25)).drew.cell? ⟨WT.heap.size + 1, 0, none⟩ = some (.slice am lmk cm)) := HW.2.1.2.2
        have EC : Hid (((WT.alloc (.cells #[.slice am lmk cm] 25)).alloc (.cells #[] 25)).drew.ownsRow WT.heap.size 25 1 (.slice (some ⟨WT.heap.size + 1, 0, none⟩) 0 0) 0 []) := HW.2.2.1
        have BC : Hid (Below WT.heap.size WT ((WT.alloc (.cells #[.slice am lmk cm] 25)).alloc (.cells #[] 25)).drew) := HW.2.2.2.1
        have CC : Hid (((WT.alloc (.cells #[.slice am lmk cm] 25)).alloc (.cells #[] 25)).drew.cell? ⟨WT.heap.size, 0, none⟩ = some (.slice am lmk cm)) := HW.2.2.2.2
        clear HW
        have HV : Hid ((valsAt uss k).length = ll) := by obtain ⟨_, _, _, e, h5, _⟩ := hlk2.now; cases e; exact h5
        have HVl : Hid (0 + (valsAt uss k).length ≤ 2513169434916) := by show _ ≤ _; have := HV.out; omega
        have HVl2 : Hid (0 + (valsAt uss k).length + 1 ≤ 2513169434916) := by show _ ≤ _; have := HV.out; omega
        have KP : Hid (∀ {w' : World}, Below WT.heap.size WT w' → w'.cell? ⟨gl, k, none⟩ = some (.slice al ll cl') ∧ w'.cell? ⟨og, k * 3 + 2, none⟩ = some (.slice am lmk cm)) := fun b => ⟨(b.cell (p := ⟨gl, k, none⟩) hl1).trans hc2, (b.cell (p := ⟨og, k * 3 + 2, none⟩) ho1).trans hc1⟩
        go_wp2_with fail
        go_cut [14] (fun mv wc => (∃ a l c, mv = .slice a l c) ∧ Below WT.heap.size WT wc ∧ wc.ownsRow WT.heap.size 25 1 mv (0 + (valsAt uss k).length + 1) ([] ++ valsAt uss k ++ [.slice am lmk cm]))
        case first =>
          go_region_held3 (fun w' => w'.cell? ⟨gl, k, none⟩ = some (.slice al ll cl') ∧ w'.cell? ⟨og, k * 3 + 2, none⟩ = some (.slice am lmk cm))
            (go_keep)
            (first
              | (refine wpr_append_vals rfl _ _ rfl WT.heap.size _ _ (.slice al ll cl') 0 [] (valsAt uss k) (knotAt s k).line EA.out rfl rfl (hlk2.below BA.out).now HVl.out BA.out.size ?_; intro v1 w1 q1 q2 q3; have bq := BA.out.grown q2 BA.out.size (fun k hk => (ownsRow_lt EA.out hk).1); obtain ⟨z1, z2⟩ := KP.out bq; have bq2 := below_then bq (below_new w1 (.cells #[.slice am lmk cm] 25)); obtain ⟨z3, z4⟩ := KP.out bq2; have cq := lit_cell w1 (.slice am lmk cm) 25)
              | (refine wpr_append_vals rfl _ _ rfl WT.heap.size _ _ (.slice al ll cl') 0 [] (valsAt uss k) (knotAt s k).line EB.out rfl rfl (hlk2.below BB.out).now HVl.out BB.out.size ?_; intro v1 w1 q1 q2 q3; have bq := BB.out.grown q2 BB.out.size (fun k hk => (ownsRow_lt EB.out hk).1); obtain ⟨z1, z2⟩ := KP.out bq; have cq := q2.cell CB.out (by simp [Value.ownBlock]))
              | (refine wpr_append_vals rfl _ _ rfl WT.heap.size _ _ (.slice al ll cl') 0 [] (valsAt uss k) (knotAt s k).line EC.out rfl rfl (hlk2.below BC.out).now HVl.out BC.out.size ?_; intro v1 w1 q1 q2 q3; have bq := BC.out.grown q2 BC.out.size (fun k hk => (ownsRow_lt EC.out hk).1); obtain ⟨z1, z2⟩ := KP.out bq; have cq := q2.cell CC.out (by simp [Value.ownBlock]))
              | (refine wpr_append_one rfl _ _ rfl WT.heap.size _ _ (0 + (valsAt uss k).length) ([] ++ valsAt uss k) _ am lmk cm (q1.alloc _) rfl rfl cq HVl2.out bq2.size ?_; intro v2 w2 p1 p2 p3; have bq3 := bq2.grown p2 bq2.size (fun k hk => (ownsRow_lt q1 hk).1); obtain ⟨z5, z6⟩ := KP.out bq3)
              | (refine wpr_append_one rfl _ _ rfl WT.heap.size _ _ (0 + (valsAt uss k).length) ([] ++ valsAt uss k) _ am lmk cm q1 rfl rfl cq HVl2.out bq.size ?_; intro v2 w2 p1 p2 p3; have bq3 := bq.grown p2 bq.size (fun k hk => (ownsRow_lt q1 hk).1); obtain ⟨z5, z6⟩ := KP.out bq3))
          all_goals
            obtain ⟨a3, l3, c3, rfl⟩ := ownsRow_slice p1
            clear q1 q2 q3 z1 z2 z5 z6 cq hS hmk2 hlk2 hc1 hc2
            have P1 : Hid _ := p1
            have P2 : Hid _ := bq3
            clear p1 p2 p3 bq3 bq
            go_wp2_with fail
            go_meet
            exact ⟨⟨_, _, _, rfl⟩, P2.out, P1.out⟩
        case rest =>
          obtain ⟨⟨a3, l3, c3, rfl⟩, bq, hown⟩ := hcut
          obtain ⟨W2, hW2k⟩ : ∃ W2, W2 = wc := ⟨_, rfl⟩
          subst hW2k
          clear EA EB EC BA BB BC CB CC HVl HVl2 KP
          have hbO : ∀ k', (Value.slice (some ⟨og, 0, none⟩) lm co).ownBlock = some k' → k' < WT.heap.size := fun k' e => (hS.ltO e).2
          have hbL : ∀ k', (Value.slice (some ⟨gl, 0, none⟩) lm cl).ownBlock = some k' → k' < WT.heap.size := fun k' e => (hS.ltL e).2
          have hmine : On (Off (.slice (some ⟨og, 0, none⟩) lm co) (.slice (some ⟨gl, 0, none⟩) lm cl)) W2 (fun w' => ListsV w' (.slice a3 l3 c3) (valsAt uss k ++ [.slice am lmk cm]) (knotAt s k).mine) :=
            mine_on (N := 0 + (valsAt uss k).length + 1) (by omega) (by simpa using hown) hbO hbL rfl (hlk2.below bq) (hmk2.below bq)
          replace hS := hS.to bq
          clear hown hbO hbL hlk2 hc1 hc2 ho1 hl1 bq hmk2
          obtain ⟨l3', Hl3⟩ : ∃ l3', Hid (l3 = l3' ∧ l3' ≤ 301 ∧ (knotAt s k).mine.length = l3') := by
            obtain ⟨_, _, _, e, h5, h6, _⟩ := hmine.now
            cases e
            exact ⟨_, rfl, by simp at h5; have := HV.out; omega, h6⟩
          obtain ⟨rfl, hl301, hl3m⟩ := Hl3.out
          clear Hl3
          have hbxW := hbx.below hS.below
          obtain ⟨x0, x1, x2⟩ := hbxW
          go_wp2_with fail
          clear x0 x1 x2
          obtain ⟨US, HUS⟩ : ∃ US, Hid (valsAt uss k ++ [Value.slice am lmk cm] = US) := ⟨_, rfl⟩
          rw [HUS.out] at hmine
          have hMk : Hid (MarkOk n k (knotAt s k).mark) := hGr.marks HF.out hks.out
          have hNO : Hid (netOk n = true) := (fits_net HF.out).1
          obtain ⟨P, hP⟩ := Int.eq_ofNat_of_zero_le (fits_transK HF.out).2.1
          have HP : Hid (n.places = (P : Int)) := hP
          have hP16 : P ≤ 16 := by have := (fits_transK HF.out).2.2; omega
          have HGr : Hid _ := hGr
          have Hml : Hid (∀ j, j < (knotAt s k).mine.length → (markAt (knotAt s k).mine j).length = P) := fun j hj => by have h1 := hGr.mineLen HF.out hks.out hj; rw [hP] at h1; omega
          clear hP hGr
          have hlP : lmk = P := by have h1 := hMk.out.1; rw [HP.out] at h1; omega
          clear hmk hmv hlv hll
          go_loopg [8, 9, 81] tl (fun g o l i wr => ∃ (t : Nat) (s' : List KnotX) (ms' ls' : List Value) (uss' : List (List Value)), t + g = tl ∧ i = .int .i64 t ∧ TreeAt W.heap.size W wr s' o l ms' ls' uss' ∧ On (Off o l) wr (fun w' => ListsV w' (.slice a3 l3 c3) US (knotAt s k).mine) ∧ Hid (growTo n M k s t = some s'))
          case atStart => exact ⟨0, s, ms, ls, uss, by omega, rfl, hS, hmine, rfl⟩
          case round =>
            clear hS hmine
            obtain ⟨t, s', ms', ls', uss', htg, rfl, hS, hmine, Hrow⟩ := hrel
            obtain ⟨G2, hGk⟩ : ∃ G2, G2 = gk := ⟨_, rfl⟩
            obtain ⟨WG, hWGk⟩ : ∃ WG, WG = wr := ⟨_, rfl⟩
            subst hGk hWGk
            by_cases htl : t < tl
            case neg =>
              obtain rfl : t = tl := by omega
              have R : Hid (treeTo n m M (k + 1) = some s') := by
                show _ = _
                rw [treeTo, Hgr.out]
                simp only [Option.bind_some]
                rw [if_pos hks.out, Hse.out, HnT.out]
                exact Hrow.out
              clear Hrow hmine
              go_wp2
              go_roundg (G - 1)
              case measure => omega
              case rel => exact ⟨k + 1, s', ms', ls', uss', by omega, by go_num, hS, R⟩
            have htT : t < n.trans.length := by have := HnT.out; omega
            obtain ⟨hG2, hle, hsame⟩ := growTo_grown HGr.out hks.out t (by omega) Hrow.out
            have hks' : k < s'.length := Nat.lt_of_lt_of_le hks.out hle
            have hkk : Hid (knotAt s' k = knotAt s k) := hsame k hks.out
            obtain ⟨lm2, Hlm2⟩ : ∃ lm2, Hid (s'.length = lm2) := ⟨_, rfl⟩
            have hm2 : lm2 ≤ M := by have := hG2.most_le; have := Hlm2.out; omega
            obtain ⟨og, co, gl, cl, rfl, rfl, ho1, hl1, hc1, hc2⟩ := hS.cells hks'
            obtain ⟨am, lmk', cm, hmv, hmk, _, _, _⟩ := (hS.elM k hks').2.now
            have hmk2 := (hS.elM k hks').2
            rw [hmv] at hc1 hmk2
            rw [hkk.out] at hmk2 hmk
            have hlP2 : lmk' = P := by have h1 := hMk.out.1; rw [HP.out] at h1; omega
            subst hlP2
            rw [Hlm2.out] at hS hmine hmk2 ⊢
            have Hfail : Hid (growT n M k s' t = none → treeTo n m M M = none) := fun h => tree_fails Hgr.out hks.out Hse.out (by omega) Hrow.out htT h
            have Hstep : Hid (∀ s2, growT n M k s' t = some s2 → growTo n M k s (t + 1) = some s2) := fun s2 h => grow_step Hrow.out h
            have Hw : Hid (∀ p, (0 ≤ nth (tranAt n.trans t).pre p ∧ nth (tranAt n.trans t).pre p ≤ 9) ∧ 0 ≤ nth (tranAt n.trans t).post p ∧ nth (tranAt n.trans t).post p ≤ 9) := fun p => tran_weights hNO.out htT p
            have hTL := tran_length hNO.out htT
            rw [HP.out] at hTL
            obtain ⟨bt, ot, d1, d2, rfl, hblt, h0, h1, h2, i1, i2⟩ := hT.at htl
            obtain ⟨a1, l1, p1, rfl, hl1', _, _, hr1⟩ := id i1
            obtain ⟨a2, l2, p2, rfl, hl2', _, _, hr2⟩ := id i2
            have hL1 : l1 = lmk' := by omega
            have hL2 : l2 = lmk' := by omega
            subst hL1
            obtain rfl : l2 = l1 := hL2
            have HLe : Hid ((knotAt s k).mark.length ≤ (tranAt n.trans t).pre.length) := by show _ ≤ _; omega
            have HLm : Hid ((knotAt s k).mark.length = l2) := by show _ = _; omega
            clear hTL hG2 hle hsame hmk hmv hc2
            obtain ⟨x0, x1, x2⟩ := hbx.below hS.below
            have k0 := (hS.below.cell (p := ⟨bt, ot + t * 3, none⟩) hblt).trans h0
            have k1 := (hS.below.cell (p := ⟨bt, ot + t * 3 + 1, none⟩) hblt).trans h1
            have k2 := (hS.below.cell (p := ⟨bt, ot + t * 3 + 2, none⟩) hblt).trans h2
            have i1g := i1.below hS.below
            have hkW : Hid (k < s'.length) := hks'
            have hkl2 : k < lm2 := by have := Hlm2.out; omega
            clear hks'
            generalize htr : tranAt n.trans t = tr at *
            have Htr : Hid _ := htr
            clear htr
            go_wp2_with fail
            go_quiet ((go_at_call 31; exact Calls.quiet_of (ebelow_any _ _ tr.pre (knotAt s k).mark _ (by exact Ints.drewN i1g _) (by exact Ints.drewN hmk2.now _) HLe.out)))
            have hbd := below_drewN (Below.refl WG.heap.size WG) nq
            replace hS := hS.to hbd
            replace hmine := hmine.below hbd
            replace hmk2 := hmk2.below hbd
            replace hc1 := (hbd.cell (p := ⟨og, k * 3 + 2, none⟩) ho1).trans hc1
            replace ho1 := Nat.lt_of_lt_of_le ho1 hbd.size
            obtain ⟨WD, HWD⟩ : ∃ WD, Hid (WG.drewN nq = WD) := ⟨_, rfl⟩
            rw [HWD.out] at hS hmine hmk2 hc1 ho1 ⊢
            clear HWD hbd x0 x1 x2 k0 k1 k2 i1g hl1
            cases hb : belowL tr.pre (knotAt s k).mark
            · have R : Hid _ := Hstep.out s' (growT_skip (by rw [Htr.out, hkk.out]; exact hb))
              clear hb Hstep Hfail hmk2 hc1
              go_wp2
              go_roundg (G2 - 1)
              case measure => omega
              case rel => exact ⟨t + 1, s', ms', ls', uss', by omega, by go_num, hS, hmine, R⟩
            by_cases hfull : M ≤ lm2
            · have E : Hid (treeL n m M = ([], 4)) := HG.out none (Hfail.out (growT_full (by rw [Htr.out, hkk.out]; exact hb) (by rw [Hlm2.out]; exact hfull)))
              have R := below_then b1 hS.below
              clear hb Hstep Hfail hmk2 hc1 hS hmine
              go_wp2
              go_ret2
              exact givesK_of E.out (Knots.nil _) R
            have R : Hid (growTo n M k s (t + 1) = some (s' ++ [kid n k t (knotAt s k)])) := by
              have := Hstep.out _ (growT_new (by rw [Htr.out, hkk.out]; exact hb) (by rw [Hlm2.out]; exact hfull))
              rw [hkk.out] at this; exact this
            have Hb : Hid _ := hb
            clear hb Hstep Hfail
            go_wp2_with fail
            go_loopg [16, 107] l2 (fun g x i wr => ∃ p : Nat, p + g = l2 ∧ i = .int .i64 p ∧ Own WD.heap.size WD wr x (mapTo p (omAt tr (knotAt s k).mark)))
            case atStart => exact ⟨0, by omega, rfl, Own.nil _⟩
            case round =>
              obtain ⟨p, hpg, rfl, hO⟩ := hrel
              by_cases hpn : p < l2
              · obtain ⟨_, _, _, e, _, _, _, hrm⟩ := (hmk2.below hO.2.1).now
                injection e with e1 e2 e3
                subst e1 e2 e3
                obtain ⟨bm, om, rfl, hbm, hcm⟩ := hrm p (by have := HLm.out; omega)
                obtain ⟨bp, op, rfl, hbp, hcp⟩ := hr1 p (by omega)
                obtain ⟨bq, oq, rfl, hbq, hcq⟩ := hr2 p (by omega)
                have hbW := hS.below.trans (hO.2.1.mono hS.size)
                obtain ⟨x0, x1, x2⟩ := hbx.below hbW
                have k1 := (hbW.cell (p := ⟨bt, ot + t * 3 + 1, none⟩) hblt).trans h1
                have k2 := (hbW.cell (p := ⟨bt, ot + t * 3 + 2, none⟩) hblt).trans h2
                replace hcp := (hbW.cell (p := ⟨bp, op + p, none⟩) hbp).trans hcp
                replace hcq := (hbW.cell (p := ⟨bq, oq + p, none⟩) hbq).trans hcq
                obtain ⟨⟨w1, w2'⟩, w3, w4⟩ := Hw.out p
                obtain ⟨m1, m2⟩ := hMk.out.2 p
                have hk300 : (k : Int) ≤ 300 := by omega
                have Hms : Hid _ := mapTo_succ p (omAt tr (knotAt s k).mark)
                have hlen := mapTo_length p (omAt tr (knotAt s k).mark)
                clear hrm
                by_cases hq : nth (knotAt s k).mark p = -1
                · rw [hq] at hcm
                  have Hv : Hid (omAt tr (knotAt s k).mark p = -1) := by show _ = _; rw [omAt, if_pos hq]
                  clear hq m1 m2
                  go_wp2_with (at_builtin; refine wp_append_int rfl _ _ rfl WD.heap.size WD _ _ _ (-1) hO rfl rfl (by omega) ?_; intro v' w5 hO5)
                  have R5 : Own WD.heap.size WD w5 v' (mapTo (p + 1) (omAt tr (knotAt s k).mark)) := by rw [Hms.out, Hv.out]; exact hO5
                  clear hO hO5 hbW x0 x1 x2 k1 k2 hcp hcq hcm
                  go_wp2
                  go_roundg (gk - 1)
                  case measure => omega
                  case rel => exact ⟨p + 1, by omega, by go_num, R5⟩
                · have e1 : (nth (knotAt s k).mark p != -1) = true := by simpa using hq
                  have Hv : Hid (omAt tr (knotAt s k).mark p = nth (knotAt s k).mark p - nth tr.pre p + nth tr.post p) := by show _ = _; rw [omAt, if_neg hq]
                  clear hq
                  go_wp2_with fail
                  go_quiet (fail)
                  replace hO := hO.trans (below_drewN (Below.refl wr.heap.size wr) nq)
                  obtain ⟨wq, Hwq⟩ : ∃ wq, Hid (wr.drewN nq = wq) := ⟨_, rfl⟩
                  rw [Hwq.out] at hO ⊢
                  clear Hwq hbW x0 x1 x2 k1 k2 hcp hcq hcm
                  go_wp2_with (at_builtin; refine wp_append_int rfl _ _ rfl WD.heap.size WD _ _ _ (nth (knotAt s k).mark p - nth tr.pre p + nth tr.post p) hO rfl rfl (by omega) ?_; intro v' w5 hO5)
                  have R5 : Own WD.heap.size WD w5 v' (mapTo (p + 1) (omAt tr (knotAt s k).mark)) := by rw [Hms.out, Hv.out]; exact hO5
                  clear hO hO5
                  go_wp2
                  go_roundg (gk - 1)
                  case measure => omega
                  case rel => exact ⟨p + 1, by omega, by go_num, R5⟩
              · obtain rfl : p = l2 := by omega
                have EX : Hid (mapTo p (omAt tr (knotAt s k).mark) = omFire tr (knotAt s k).mark) := by show _ = _; rw [omFire, HLm.out]
                rw [EX.out] at hO
                have HXl : Hid ((omFire tr (knotAt s k).mark).length = p) := by rw [← EX.out]; exact mapTo_length _ _
                obtain ⟨ax, cx, rfl, hgx⟩ := own_shape hO
                rw [HXl.out] at hO hgx ⊢
                have hbW := hS.below.trans (hO.2.1.mono hS.size)
                obtain ⟨x0, x1, x2⟩ := hbx.below hbW
                rw [HP.out] at x1
                clear hr1 hr2 i1 i2 EX hbW
                go_wp2_with fail
                clear x0 x1 x2
                have HN : Hid (∀ r, (raiseN (knotAt s k).mine (omFire tr (knotAt s k).mark) r).length = p) := fun r => by rw [(raiseN_raised _ _ r).1]; exact HXl.out
                go_loopg [143] (p + 1) (fun g i wr => ∃ r : Nat, r + g = p + 1 ∧ i = .int .i64 r ∧ Own WD.heap.size WD wr (.slice ax p cx) (raiseN (knotAt s k).mine (omFire tr (knotAt s k).mark) r))
                case atStart => exact ⟨0, by omega, rfl, hO⟩
                case round =>
                  clear hO
                  obtain ⟨r, hrg, rfl, hO⟩ := hrel
                  obtain ⟨G5, hGk⟩ : ∃ G5, G5 = gk := ⟨_, rfl⟩
                  obtain ⟨W5, hWk⟩ : ∃ W5, W5 = wr := ⟨_, rfl⟩
                  subst hGk hWk
                  by_cases hrn : r < p + 1
                  · have HZl : Hid ((raiseN (knotAt s k).mine (omFire tr (knotAt s k).mark) r).length = p) := HN.out r
                    have HNr : Hid (raiseN (knotAt s k).mine (omFire tr (knotAt s k).mark) (r + 1) = raiseAll (knotAt s k).mine (raiseN (knotAt s k).mine (omFire tr (knotAt s k).mark) r)) := rfl
                    generalize raiseN (knotAt s k).mine (omFire tr (knotAt s k).mark) r = z at *
                    go_wp2_with fail
                    go_loopg [147] l3 (fun g i wr => ∃ j : Nat, j + g = l3 ∧ i = .int .i64 j ∧ Own WD.heap.size WD wr (.slice ax p cx) (raiseAll ((knotAt s k).mine.take j) z))
                    case atStart => exact ⟨0, by omega, rfl, hO⟩
                    case round =>
                      clear hO
                      obtain ⟨j, hjg, rfl, hO⟩ := hrel
                      obtain ⟨G6, hGk⟩ : ∃ G6, G6 = gk := ⟨_, rfl⟩
                      obtain ⟨W6, hWk⟩ : ∃ W6, W6 = wr := ⟨_, rfl⟩
                      subst hGk hWk
                      by_cases hjn : j < l3
                      · obtain ⟨by', oy, rfl, hby, hcy, _, iy⟩ := (hmine.below hO.2.1).now.at hjn
                        have hyOn := hmine
                        have HA : Hid _ := raiseAll_take (knotAt s k).mine z j (by omega)
                        have HAl : Hid ((raiseAll ((knotAt s k).mine.take j) z).length = p) := by rw [(raiseAll_raised _ _).1]; exact HZl.out
                        obtain ⟨ay, ly, cy, hay, hyl, _, _, _⟩ := id iy
                        rw [hay] at hcy iy
                        have hyp : (markAt (knotAt s k).mine j).length = p := Hml.out j (by omega)
                        obtain rfl : ly = p := by omega
                        have Hyp : Hid _ := hyp
                        clear hyp hyl
                        obtain ⟨y, Hyy⟩ : ∃ y, Hid (markAt (knotAt s k).mine j = y) := ⟨_, rfl⟩
                        obtain ⟨z2, Hzz⟩ : ∃ z2, Hid (raiseAll ((knotAt s k).mine.take j) z = z2) := ⟨_, rfl⟩
                        rw [Hyy.out] at Hyp iy HA
                        rw [Hzz.out] at HA HAl hO
                        go_wp2_with fail
                        clear hcy iy hby
                        have HO0 : Own WD.heap.size WD W6 (.slice ax ly cx) (passTo y z2 0) := by rw [passTo_zero]; exact hO
                        go_loopg [153] ly (fun g i wr => ∃ q : Nat, q + g = ly ∧ i = .int .i64 q ∧ Own WD.heap.size WD wr (.slice ax ly cx) (passTo y z2 q))
                        case atStart => exact ⟨0, by omega, rfl, HO0⟩
                        case round =>
                          clear hO HO0
                          obtain ⟨q, hqg, rfl, hO⟩ := hrel
                          by_cases hqn : q < ly
                          · obtain ⟨gx, rfl⟩ := hgx (by omega)
                            obtain ⟨_, _, e, _, _, _, iy⟩ := (hmine.below hO.2.1).now.at hjn
                            rw [hay, Hyy.out] at iy
                            have hPl : (passTo y z2 q).length = ly := by rw [passTo_length]; exact HAl.out
                            obtain ⟨hcx, hfx, hsx⟩ := hO.cell hPl hqn
                            rw [passTo_here y z2 q (by rw [HAl.out]; exact hqn)] at hcx
                            have hxI := hO.ints (by omega)
                            have HCE : Hid (∀ c : Nat, Calls Try.prog 31 #[.slice ay ly cy, .slice (some ⟨gx, 0, none⟩) ly cx] (wr.drewN c) fun e w' => e = .returned (.bool (belowL y z2)) ∧ ∃ m, w' = (wr.drewN c).drewN m) := fun c => by
                              have := ebelow_any _ _ y (passTo y z2 q) (wr.drewN c) (Ints.drewN iy c) (Ints.drewN hxI c) (by rw [hPl, Hyp.out]; exact Nat.le_refl _)
                              rw [passTo_below] at this; exact this
                            have HCM : Hid (∀ c : Nat, Calls Try.prog 32 #[.int .i64 (nth z2 q), .int .i64 (nth y q)] (wr.drewN c) fun e w' => e = .returned (.bool (moreL (nth z2 q) (nth y q))) ∧ w' = wr.drewN c) := fun c => emore_any _ _ _
                            obtain ⟨_, _, _, e2, _, _, _, hry⟩ := iy
                            injection e2 with e3 e4 e5
                            subst e3 e5
                            clear e4
                            obtain ⟨bz, oz, rfl, hbz, hcz⟩ := hry q (by rw [Hyp.out]; exact hqn)
                            clear hry hxI
                            have HPn : Hid ((belowL y z2 = false ∨ moreL (nth z2 q) (nth y q) = false) → passTo y z2 q = passTo y z2 (q + 1)) := passTo_no y z2 q (by rw [HAl.out]; exact hqn)
                            have HPy : Hid (belowL y z2 = true → moreL (nth z2 q) (nth y q) = true → (passTo y z2 q).set q (-1) = passTo y z2 (q + 1)) := passTo_yes y z2 q (by rw [HAl.out]; exact hqn)
                            have hbd := hO.trans (below_drewN (Below.refl wr.heap.size wr) 0)
                            have HOt : Hid (∀ c, Own WD.heap.size WD (wr.drewN c) (.slice (some ⟨gx, 0, none⟩) ly cx) (passTo y z2 q)) := fun c => hO.trans (below_drewN (Below.refl wr.heap.size wr) c)
                            clear hbd hO
                            cases hb2 : belowL y z2
                            · rw [hb2] at HCE
                              have E : Hid _ := HPn.out (.inl hb2)
                              clear HPn HPy hb2
                              go_wp2_with fail
                              go_quiet ((go_at_call 31; exact Calls.quiet_of (HCE.out _)))
                              have R7 : Own WD.heap.size WD (wr.drewN nq) (.slice (some ⟨gx, 0, none⟩) ly cx) (passTo y z2 (q + 1)) := by rw [← E.out]; exact HOt.out nq
                              clear hcx hfx hsx hcz HCE HCM HOt
                              go_wp2
                              go_roundg (gk - 1)
                              case measure => omega
                              case rel => exact ⟨q + 1, by omega, by go_num, R7⟩
                            rw [hb2] at HCE
                            cases hm3 : moreL (nth z2 q) (nth y q)
                            · rw [hm3] at HCM
                              have E : Hid _ := HPn.out (.inr hm3)
                              clear HPn HPy hb2 hm3
                              go_wp2_with fail
                              go_quiet (first | (go_at_call 31; exact Calls.quiet_of (HCE.out _)) | (go_at_call 32; exact Calls.quiet_of_same (HCM.out _)))
                              have R7 : Own WD.heap.size WD (wr.drewN nq) (.slice (some ⟨gx, 0, none⟩) ly cx) (passTo y z2 (q + 1)) := by rw [← E.out]; exact HOt.out nq
                              clear hcx hfx hsx hcz HCE HCM HOt
                              go_wp2
                              go_roundg (gk - 1)
                              case measure => omega
                              case rel => exact ⟨q + 1, by omega, by go_num, R7⟩
                            · rw [hm3] at HCM
                              have E : Hid _ := HPy.out hb2 hm3
                              clear HPn HPy hb2 hm3
                              go_wp2_with fail
                              go_quiet (first | (go_at_call 31; exact Calls.quiet_of (HCE.out _)) | (go_at_call 32; exact Calls.quiet_of_same (HCM.out _)))
                              have hOq := HOt.out nq
                              obtain ⟨c5, c6, c7⟩ := hOq.cell hPl hqn
                              have R7 := hOq.put hPl hqn (-1)
                              rw [E.out] at R7
                              obtain ⟨wq, Hwq⟩ : ∃ wq, Hid (wr.drewN nq = wq) := ⟨_, rfl⟩
                              rw [Hwq.out] at c5 c6 c7 R7 ⊢
                              clear hcx hfx hsx hcz HCE HCM HOt hOq Hwq
                              generalize nth (passTo y z2 q) q = xq at *
                              go_wp2
                              go_roundg (gk - 1)
                              case measure => omega
                              case rel => exact ⟨q + 1, by omega, by go_num, R7⟩
                          · obtain rfl : q = ly := by omega
                            rw [passTo_all y z2 q (by rw [HAl.out]; exact Nat.le_refl _), ← HA.out] at hO
                            go_wp2
                            go_roundg (G6 - 1)
                            case measure => omega
                            case rel => exact ⟨j + 1, by omega, by go_num, hO⟩
                      · obtain rfl : j = l3 := by omega
                        rw [List.take_of_length_le (by omega), ← HNr.out] at hO
                        go_wp2
                        go_roundg (G5 - 1)
                        case measure => omega
                        case rel => exact ⟨r + 1, by omega, by go_num, hO⟩
                  · obtain rfl : r = p + 1 := by omega
                    have HK : Hid ((kid n k t (knotAt s k)).mark = raiseN (knotAt s k).mine (omFire tr (knotAt s k).mark) (p + 1)) := by
                      show raiseN _ _ (n.places.toNat + 1) = _
                      rw [Htr.out, HP.out]; rfl
                    rw [← HK.out] at hO
                    have hS5 := hS.to hO.2.1
                    have hm5 := hmine.below hO.2.1
                    have hx5 : On (Off (.slice (some ⟨og, 0, none⟩) lm2 co) (.slice (some ⟨gl, 0, none⟩) lm2 cl)) W5 (fun w' => Ints w' (.slice ax p cx) (kid n k t (knotAt s k)).mark) :=
                      (hO.on (by rw [HK.out, HN.out]; omega)).weaken fun b _ hb => ⟨fun e => by have := (hS.ltO e).2; omega, fun e => by have := (hS.ltL e).2; omega⟩
                    have b5 := below_new W5 (.cells #[.int .i64 (k : Int), .int .i64 (t : Int), .slice ax p cx] 39)
                    have hrow := hS5.rowO
                    rw [Hlm2.out] at hrow
                    have hsz5 := hS5.size
                    have hS6 := hS5.to b5
                    have hm6 := hm5.below b5
                    have hx6 := hx5.below b5
                    have HT6 : Hid _ := hS6
                    have HM6 : Hid _ := hm6
                    have HX6 : Hid _ := hx6
                    clear hS hmine hO hS5 hm5 hx5 b5 hS6 hm6 hx6 hmk2 hc1 ho1
                    go_upto_region 44 with (at_builtin; refine wp_append_knot rfl _ _ rfl W.heap.size W5 _ lm2 (knotCells s' ms') (k : Int) (t : Int) ax p cx hrow rfl rfl (by omega) hsz5 ?_; intro v' wC hC hgC hatC; obtain ⟨va, vl, vc, rfl⟩ := ownsRow_slice hC)
                    have hrowL := HT6.out.rowL_after hgC
                    rw [Hlm2.out] at hrowL
                    have hszC : W.heap.size ≤ wC.heap.size := Nat.le_trans HT6.out.size hgC.size
                    have HB6 : Hid _ := below_new wC (.cells #[.slice a3 l3 c3] 44)
                    have HC : Hid _ := hC
                    have HgC : Hid _ := hgC
                    have HatC : Hid _ := hatC
                    clear hC hgC hatC hrow hsz5
                    go_wp2_with (at_builtin; refine wp_append_line rfl _ _ rfl W.heap.size wC _ lm2 ls' a3 l3 c3 hrowL rfl rfl (by omega) hszC ?_; intro v'' wD hD hgD hatD; obtain ⟨vb, vm, vn, rfl⟩ := ownsRow_slice hD; have RT : Hid _ := HT6.out.grow (kid n k t (knotAt s k)) (.slice ax p cx) (.slice a3 l3 c3) rfl HX6.out rfl HM6.out (by rw [Hlm2.out]; exact HC.out) HgC.out HatC.out HB6.out (by rw [HT6.out.lenL, Hlm2.out]; exact hD) hgD hatD; have RM : Hid _ := HT6.out.turn HgC.out HatC.out HB6.out hgD hatD HM6.out)
                    clear hrowL
                    go_wp2
                    go_roundg (G2 - 1)
                    case measure => omega
                    case rel => exact ⟨t + 1, _, _, _, _, by omega, by go_num, RT.out, RM.out, R⟩

end Go.Proofs.Ytbpkebkblkjdhaa
