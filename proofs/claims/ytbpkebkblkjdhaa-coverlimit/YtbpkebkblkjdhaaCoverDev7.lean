/- Package cover as it landed: what comes of a knot. -/
import Derived.Test.YtbpkebkblkjdhaaCoverDev6
import Derived.Test.YtbpkebkblkjdhaaCovers
namespace Go.Proofs.Ytbpkebkblkjdhaa
open Go.RowKit
set_option linter.unusedVariables false

theorem tran_lens {n : NetL} (hn : netOk n = true) {k : Nat} (hk : k < n.trans.length) : ((tranAt n.trans k).pre.length : Int) = n.places ∧ ((tranAt n.trans k).post.length : Int) = n.places := by
  have h := net_tran hn hk
  simp only [tranOk, tranHead, Bool.and_eq_true, decide_eq_true_eq, beq_iff_eq] at h
  exact ⟨h.1.1.2, h.1.2⟩

theorem growTo_none {n : NetL} {M k : Nat} {s : List KnotX} {t : Nat} (h : growTo n M k s t = none) : ∀ r, growTo n M k s (t + r) = none
  | 0 => h
  | r + 1 => by
    show ((growTo n M k s (t + r)).bind fun s' => growT n M k s' (t + r)) = none
    rw [growTo_none h r]; rfl

theorem fits_placesC {n : NetL} {m : List Int} (h : fitsL n m = true) : 0 ≤ n.places ∧ n.places ≤ 16 := by
  obtain ⟨hn, _, _⟩ := fits_net h
  simp only [netOk, headOk, Bool.and_eq_true, decide_eq_true_eq] at hn
  exact ⟨hn.1.1.1, hn.1.1.2⟩

/-- What is lifted is what the document asks. -/
theorem kid_is {n : NetL} {s : List KnotX} {k t : Nat} {z : List Int} (hL : Linked s) (hk : k < s.length) (hp : ((knotAt s k).mark.length : Int) = n.places) (h : Comes5 (upMarks s k) (omFire (tranAt n.trans t) (knotAt s k).mark) z) (hs : Still (upMarks s k) z) :
    kid n k t (knotAt s k) = ⟨k, t, z, (knotAt s k).mine⟩ := by
  unfold kid
  congr 1
  refine raiseN_is (by rw [omFire, mapTo_length]; omega) (fun y => ?_) h hs
  rw [upMarks, if_neg (by omega), Int.toNat_natCast, List.mem_reverse]

theorem hSE_grow {x : Nat} {M : Int} {W wC wE wF : World} {s : List KnotX} {kv kv' : Value} {ms : List Value} {g lk : Nat} (h : TreeW x M W wC s kv ms) (y : KnotX) {o : Obj}
    (hO : Own wC.heap.size wC wE (.slice (some ⟨g, 0, none⟩) lk lk) y.mark) (hl : y.mark.length = lk) (h16 : lk ≤ 16)
    (hown : wF.ownsRow W.heap.size 39 3 kv' (s.length + 1) (knotCells s ms ++ [.int .i64 y.up, .int .i64 y.tran, .slice (some ⟨g, 0, none⟩) lk lk])) (hg : (wE.alloc o).grownBy wF kv.ownBlock)
    (hat : kv'.ownBlock = kv.ownBlock ∨ kv'.ownBlock = some (wE.alloc o).heap.size) :
    TreeW x M W (wF.setCell ⟨x, 1, none⟩ kv') (s ++ [y]) kv' (ms ++ [.slice (some ⟨g, 0, none⟩) lk lk]) :=
  h.grow y o hO.2.1 (by omega) hO.1 hown hg hat

set_option maxRecDepth 4000 in
set_option maxHeartbeats 4000000 in
theorem tree_leave {x M : Nat} {W w0 : World} {s : List KnotX} {kv : Value} {ms : List Value} (hS : TreeW x M W w0 s kv ms) (v : Value) (n : NetL) (m : List Int) (hv : Net W v n) (k : Nat) (hk : k < s.length) (hG : Grown n m M k 0 s) (hf : fitsL n m = true) (hM : M ≤ 300) :
    Calls Try.prog 29 #[.pointer (some ⟨x, 0, none⟩), v, .int .i64 k] w0 fun e w' => ∃ cd s' kv' ms', e = .returned (.int .i64 cd) ∧
      ((cd = 0 ∧ growTo n M k s n.trans.length = some s' ∧ TreeW x M W w' s' kv' ms') ∨ (cd = 4 ∧ growTo n M k s n.trans.length = none ∧ Below W.heap.size W w')) := by
  obtain ⟨tv, rfl, hT⟩ := hv
  obtain ⟨hnok, hml, hmr⟩ := fits_net hf
  have b1 := below_new w0 (.cells #[.int .i64 n.places, tv] 24)
  have hbx := box2_new w0 (.int .i64 n.places) tv 24
  obtain ⟨w1, Hw1⟩ : ∃ w1, Hid (w0.alloc (.cells #[.int .i64 n.places, tv] 24) = w1) := ⟨_, rfl⟩
  rw [Hw1.out] at b1 hbx
  replace hS := hS.to b1
  obtain ⟨g, cg, rfl, hglt, hcm⟩ := hS.elem hk
  obtain ⟨d0, d1, df⟩ := hS.at
  obtain ⟨am, lm, cm, hmv⟩ := ownsRow_slice (hS.marks k hk).2
  rw [hmv] at hcm
  obtain ⟨ta, tl, tc, rfl, htl, htm, hts, htr⟩ := id hT
  obtain ⟨x0, x1, x2⟩ := hbx
  obtain ⟨ls, Hls⟩ : ∃ ls, Hid (s.length = ls) := ⟨_, rfl⟩
  have hkl : k < ls := by have := Hls.out; omega
  have hl3 : ls ≤ 300 := by have := Hls.out; have := hG.most_le; omega
  have Hk : Hid (k < s.length) := hk
  have HT : Hid (n.trans.length = tl) := htl
  rw [Hls.out] at d1
  have HG : Hid (∀ t s', t ≤ tl → growTo n M k s t = some s' → Grown n m M k t s' ∧ s.length ≤ s'.length ∧ ∀ j, j < s.length → knotAt s' j = knotAt s j) := fun t s' ht e => growTo_grown hG hk t (by omega) e
  rw [htl]
  clear hk htl hG
  go_enter Try.func29, Try.ntmps29
  go_upto_region 1 with fail
  rw [Hw1.out]
  go_wp2_with fail
  go_loopg [22] tl (fun gk i wr => ∃ (t : Nat) (s' : List KnotX) (kv' : Value) (ms' : List Value), t + gk = tl ∧ i = .int .i64 t ∧ TreeW x M W wr s' kv' ms' ∧ Hid (growTo n M k s t = some s' ∧ valAt ms' k = .slice am lm cm))
  case atStart => exact ⟨0, s, _, ms, by omega, rfl, hS, rfl, hmv⟩
  case round =>
    clear hS hcm hglt d0 d1 df hmv x0 x1 x2 Hw1 b1
    obtain ⟨t, s', kv', ms', htg, rfl, hS, Hgr⟩ := hrel
    obtain ⟨G, hGk⟩ : ∃ G, G = gk := ⟨_, rfl⟩
    obtain ⟨WR, hWRk⟩ : ∃ WR, WR = wr := ⟨_, rfl⟩
    subst hGk hWRk
    by_cases htn : t < tl
    · obtain ⟨hGt, hlen, hsame⟩ := HG.out t s' (by omega) Hgr.out.1
      have hkS : k < s'.length := by have := Hk.out; omega
      have hMk := hGt.marks hf hkS
      have hLk := hGt.linked
      have hsz := hGt.sized
      have hmost := hGt.most_le
      have htN : t < n.trans.length := by have := HT.out; omega
      obtain ⟨p1, p2⟩ := tran_lens hnok htN
      have hp16 := (fits_placesC hf).2
      have hw := tran_weights hnok htN
      obtain ⟨b, off, c1, c2, rfl, hb, e0, e1, e2, i1, i2⟩ := (hT.below hS.below).at htn
      have hmI := hS.mark hkS
      rw [Hgr.out.2] at hmI
      have HnoS : Hid (belowL (tranAt n.trans t).pre (knotAt s' k).mark = false → growTo n M k s (t + 1) = some s') := by
        intro h
        show ((growTo n M k s t).bind fun s' => growT n M k s' t) = _
        rw [Hgr.out.1]
        show growT n M k s' t = _
        rw [growT, h]; rfl
      have HnoF : Hid (belowL (tranAt n.trans t).pre (knotAt s' k).mark = true → s'.length = M → growTo n M k s tl = none) := by
        intro h hl
        have h1 : growTo n M k s (t + 1) = none := by
          show ((growTo n M k s t).bind fun s' => growT n M k s' t) = _
          rw [Hgr.out.1]
          show growT n M k s' t = _
          rw [growT, h]
          simp only [if_true]
          rw [if_pos (by omega)]
        have h2 := growTo_none h1 (tl - (t + 1))
        rwa [show t + 1 + (tl - (t + 1)) = tl by omega] at h2
      have HnoN : Hid (belowL (tranAt n.trans t).pre (knotAt s' k).mark = true → ¬ s'.length = M → growTo n M k s (t + 1) = some (s' ++ [kid n k t (knotAt s' k)])) := by
        intro h hl
        show ((growTo n M k s t).bind fun s' => growT n M k s' t) = _
        rw [Hgr.out.1]
        show growT n M k s' t = _
        rw [growT, h]
        simp only [if_true]
        rw [if_neg (by omega)]
      have Hv : Hid (valAt ms' k = .slice am lm cm) := Hgr.out.2
      obtain ⟨tr, Htr⟩ : ∃ tr, Hid (tranAt n.trans t = tr) := ⟨_, rfl⟩
      obtain ⟨mk, Hmk⟩ : ∃ mk, Hid ((knotAt s' k).mark = mk) := ⟨_, rfl⟩
      rw [Htr.out, Hmk.out] at HnoS HnoF HnoN
      rw [Htr.out] at p1 p2 hw e0 i1 i2
      rw [Hmk.out] at hMk hmI
      have Hlk : Hid (mk.length = tr.pre.length ∧ tr.post.length = mk.length) := by show _ ∧ _; have := hMk.1; omega
      have Hbd : Hid (∀ p, (-1 ≤ nth mk p ∧ nth mk p ≤ 2000000) ∧ (0 ≤ nth tr.pre p ∧ nth tr.pre p ≤ 9) ∧ 0 ≤ nth tr.post p ∧ nth tr.post p ≤ 9) := by
        intro p
        have h1 := hMk.2 p
        have h2 := hw p
        have h3 : k < 300 := by omega
        exact ⟨⟨h1.1, by omega⟩, h2⟩
      have Hm16 : Hid (mk.length ≤ 16 ∧ (mk.length : Int) = n.places) := by show _ ∧ _; have := hMk.1; omega
      have bA := below_new WR (.cells #[.int .i64 tr.label, c1, c2] 62)
      have hbxA := box3_new WR (.int .i64 tr.label) c1 c2 62
      obtain ⟨wA, HwA⟩ : ∃ wA, Hid (WR.alloc (.cells #[.int .i64 tr.label, c1, c2] 62) = wA) := ⟨_, rfl⟩
      rw [HwA.out] at bA hbxA
      obtain ⟨z0, z1, z2, z3⟩ := id hbxA
      have hSA := hS.to bA
      have i1A := i1.below bA
      have i2A := i2.below bA
      have hmA := hmI.below bA
      obtain ⟨ap1, lp1, cp1, rfl⟩ : ∃ a l c, c1 = .slice a l c := by obtain ⟨a, l, c, e, _⟩ := i1; exact ⟨a, l, c, e⟩
      obtain ⟨ap2, lp2, cp2, rfl⟩ : ∃ a l c, c2 = .slice a l c := by obtain ⟨a, l, c, e, _⟩ := i2; exact ⟨a, l, c, e⟩
      have Hsame : Hid _ := hsame
      clear i1 i2 hmI hsame hMk hw p1 p2
      go_upto_region 5 with fail
      rw [HwA.out]
      clear HwA e0 e1 e2 hb hS bA
      go_wp2_with fail
      refine (cbelow_any _ _ tr.pre mk _ (by exact i1A) (by exact hmA) (by have := Hlk.out; omega)).mono ?_
      rintro e w2 ⟨rfl, q, rfl⟩
      have bq : Below wA.heap.size wA (wA.drewN q) := below_drewN (Below.refl _ _) q
      replace hSA := hSA.to bq
      replace i1A := i1A.below bq
      replace i2A := i2A.below bq
      replace hmA := hmA.below bq
      replace hbxA := hbxA.below bq
      obtain ⟨wB, HwB⟩ : ∃ wB, Hid (wA.drewN q = wB) := ⟨_, rfl⟩
      rw [HwB.out] at hSA i1A i2A hmA hbxA ⊢
      clear HwB bq z0 z1 z2 z3
      cases hbl : belowL tr.pre mk
      · have E : Hid _ := HnoS.out hbl
        clear HnoS HnoF HnoN hbl
        go_wp2
        go_roundg (G - 1)
        case measure => omega
        case rel => exact ⟨t + 1, s', kv', ms', by omega, by go_num, hSA, E.out, Hv.out⟩
      · obtain ⟨d0, d1, df⟩ := hSA.at
        obtain ⟨ak, ck, hkv⟩ := hSA.slice
        rw [hkv] at d1
        obtain ⟨ls', Hls'⟩ : ∃ l, Hid (s'.length = l) := ⟨_, rfl⟩
        rw [Hls'.out] at d1 hkv
        have hls3 : ls' ≤ 300 := by have := Hls'.out; omega
        go_wp2_with fail
        go_quiet (fail)
        have bq : Below wB.heap.size wB (wB.drewN nq) := below_drewN (Below.refl _ _) nq
        replace hSA := hSA.to bq
        replace i1A := i1A.below bq
        replace i2A := i2A.below bq
        replace hmA := hmA.below bq
        replace hbxA := hbxA.below bq
        obtain ⟨wC, HwC⟩ : ∃ wC, Hid (wB.drewN nq = wC) := ⟨_, rfl⟩
        rw [HwC.out] at hSA i1A i2A hmA hbxA ⊢
        clear HwC bq d0 d1 df
        by_cases hlM : ls' = M
        · have E : Hid _ := HnoF.out hbl (by have := Hls'.out; omega)
          have hb' := hSA.below
          have hd : (decide ((ls' : Int) = (M : Int))) = true := by simp [hlM]
          have hd2 : ((ls' : Int) == (M : Int)) = true := by simp [hlM]
          clear HnoS HnoF HnoN hbl hSA
          go_wp2
          go_ret
          exact ⟨4, s', kv', ms', rfl, .inr ⟨rfl, E.out, hb'⟩⟩
        · have E : Hid _ := HnoN.out hbl (by have := Hls'.out; omega)
          have hd : (decide ((ls' : Int) = (M : Int))) = false := by simp; omega
          have hd2 : ((ls' : Int) == (M : Int)) = false := by simp; omega
          clear HnoS HnoF HnoN hbl
          obtain ⟨z0, z1, z2, z3⟩ := hbxA
          go_wp2_with fail
          refine (cfired_any _ _ _ mk tr _ (by exact hmA) (by exact i1A) (by exact i2A) (by have := Hlk.out; omega) (by have := Hlk.out; omega) Hbd.out).mono ?_
          rintro e wD ⟨g2, rfl, hO2⟩
          obtain ⟨lk, Hlk2⟩ : ∃ lk, Hid (mk.length = lk) := ⟨_, rfl⟩
          rw [Hlk2.out] at hO2 ⊢
          have hR := hSA.read (by omega)
          have hof : (omFire tr mk).length = lk := by rw [omFire, mapTo_length]; exact Hlk2.out
          have hms : ∀ y ∈ upMarks s' (k : Int), y.length = lk := by
            intro y hy
            rw [upMarks, if_neg (by omega), Int.toNat_natCast, List.mem_reverse] at hy
            have h1 := hsz.mine k hkS y hy
            have h2 := hsz.len k hkS
            rw [Hmk.out] at h2
            have h3 := Hlk2.out
            omega
          have hl16 : lk ≤ 16 := by have := Hm16.out; have := Hlk2.out; omega
          clear z0 z1 z2 z3 i1A i2A hmA hd hd2
          go_wp2_with fail
          refine (tree_lift wC wD x M s' kv' hR hLk k hkS (by omega) g2 lk lk (omFire tr mk) hO2 hof hms hl16).mono ?_
          rintro e wE ⟨⟨vv, rfl⟩, z, hCo, hSt, hO3, hB3⟩
          have hzl : z.length = lk := by rw [hCo.raised.1]; exact hof
          have HK : Hid (kid n k t (knotAt s' k) = ⟨k, t, z, (knotAt s' k).mine⟩) := by
            refine kid_is hLk hkS ?_ ?_ hSt
            · rw [Hmk.out]; exact Hm16.out.2
            · rw [Htr.out, Hmk.out]; exact hCo
          rw [HK.out] at E
          have hSE := hSA.to hO3.2.1
          have HSA : Hid _ := hSA
          have HO3 : Hid _ := hO3
          obtain ⟨d0, d1, df⟩ := hSE.at
          have hrow := hSE.rowK
          have hapx := hSE.apx
          have hxE := hSE.lt
          have hWE := hSE.size
          rw [Hls'.out] at hrow
          subst hkv
          clear hSA hO3 hO2 hCo hSt hB3 hms hof hR hlM
          go_wp2_with (at_builtin; refine wp_append_knot rfl _ _ rfl W.heap.size wE _ ls' (knotCells s' ms') (k : Int) (t : Int) (some ⟨g2, 0, none⟩) lk lk hrow rfl rfl (by omega) hWE ?_; intro v' wF hF hgF hatF; obtain ⟨a2, l2, c2, rfl⟩ := ownsRow_slice hF; have hxF : wF.heap[x]? = wE.heap[x]? := (hgF.block x (by simp; omega) (fun e => hapx e.symm)).trans ((below_new wE _).block x hxE); have u1 := (World.cell?_of_block (a := ⟨x, 1, none⟩) hxF).trans d1; have uf := (World.frozen?_of_block (a := ⟨x, 1, none⟩) hxF).trans df)
          have R := hSE_grow HSA.out ⟨k, t, z, (knotAt s' k).mine⟩ HO3.out hzl hl16 (by rw [Hls'.out]; exact hF) hgF hatF
          have R2 : Hid (growTo n M k s (t + 1) = some (s' ++ [⟨k, t, z, (knotAt s' k).mine⟩]) ∧ valAt (ms' ++ [.slice (some ⟨g2, 0, none⟩) lk lk]) k = .slice am lm cm) := by
            refine ⟨E.out, ?_⟩
            rw [valAt_append (by rw [HSA.out.lenM]; exact hkS)]
            exact Hv.out
          clear hF hgF hatF u1 uf hxF hSE d0 d1 df
          go_wp2
          go_roundg (G - 1)
          case measure => omega
          case rel => exact ⟨t + 1, _, _, _, by omega, by go_num, R, R2⟩
    · obtain rfl : t = tl := by omega
      have HE : Hid (growTo n M k s t = some s') := Hgr.out.1
      go_wp2
      go_ret
      exact ⟨0, s', kv', ms', rfl, .inl ⟨rfl, HE.out, hS⟩⟩

end Go.Proofs.Ytbpkebkblkjdhaa
