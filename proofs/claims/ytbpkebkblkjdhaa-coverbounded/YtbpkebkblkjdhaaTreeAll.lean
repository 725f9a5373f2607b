import Derived.Test.YtbpkebkblkjdhaaLiftAll
import Derived.Test.YtbpkebkblkjdhaaPlain5
import Derived.Test.YtbpkebkblkjdhaaCoverDev3
import Derived.Test.YtbpkebkblkjdhaaNetDev
/- Package cover as it landed: what comes of a knot. -/
namespace Go.Proofs.Ytbpkebkblkjdhaa
open Go.RowKit
set_option linter.unusedVariables false

theorem tran_lens {n : NetL} (hn : netOk n = true) {k : Nat} (hk : k < n.trans.length) : ((tranAt n.trans k).pre.length : Int) = n.places ∧ ((tranAt n.trans k).post.length : Int) = n.places := by
  have h := net_tran hn hk
  simp only [tranOk, tranHead, Bool.and_eq_true, decide_eq_true_eq, beq_iff_eq] at h
  exact ⟨h.1.1.2, h.1.2⟩

theorem growTo_none {n : NetL} {M k : Nat} {s : List KnotX} {t : Nat} (h : growTo n M k s t = none) : ∀ r, growTo n M k s (t + r) = none
  | 0 => h
  | r + 1 => by
    show ((growTo n M k s (t + r)).bind fun s' => growT n M k s' (t + r)) = none
    rw [growTo_none h r]; rfl

theorem fits_placesC {n : NetL} {m : List Int} (h : fitsL n m = true) : 0 ≤ n.places ∧ n.places ≤ 16 := by
  obtain ⟨hn, _, _⟩ := fits_net h
  simp only [netOk, headOk, Bool.and_eq_true, decide_eq_true_eq] at hn
  exact ⟨hn.1.1.1, hn.1.1.2⟩

/-- What is lifted is what the document asks. -/
theorem kid_is {n : NetL} {s : List KnotX} {k t : Nat} {z : List Int} (hL : Linked s) (hk : k < s.length) (hp : ((knotAt s k).mark.length : Int) = n.places) (h : Comes5 (upMarks s k) (omFire (tranAt n.trans t) (knotAt s k).mark) z) (hs : Still (upMarks s k) z) :
    kid n k t (knotAt s k) = ⟨k, t, z, (knotAt s k).mine⟩ := by
  unfold kid
  congr 1
  refine raiseN_is (by rw [omFire, mapTo_length]; omega) (fun y => ?_) h hs
  rw [upMarks, if_neg (by omega), Int.toNat_natCast, List.mem_reverse]

theorem hSE_grow {x : Nat} {M : Int} {W wC wE wF : World} {s : List KnotX} {kv kv' : Value} {ms : List Value} {g lk : Nat} (h : TreeW x M W wC s kv ms) (y : KnotX) {o : Obj}
    (hO : Own wC.heap.size wC wE (.slice (some ⟨g, 0, none⟩) lk lk) y.mark) (hl : y.mark.length = lk) (h16 : lk ≤ 16)
    (hown : wF.ownsRow W.heap.size 39 3 kv' (s.length + 1) (knotCells s ms ++ [.int .i64 y.up, .int .i64 y.tran, .slice (some ⟨g, 0, none⟩) lk lk])) (hg : (wE.alloc o).grownBy wF kv.ownBlock)
    (hat : kv'.ownBlock = kv.ownBlock ∨ kv'.ownBlock = some (wE.alloc o).heap.size) :
    TreeW x M W (wF.setCell ⟨x, 1, none⟩ kv') (s ++ [y]) kv' (ms ++ [.slice (some ⟨g, 0, none⟩) lk lk]) :=
  h.grow y o hO.2.1 (by omega) hO.1 hown hg hat

set_option maxRecDepth 4000 in
set_option maxHeartbeats 4000000 in
theorem tree_leave {x M : Nat} {W w0 : World} {s : List KnotX} {kv : Value} {ms : List Value} (hS : TreeW x M W w0 s kv ms) (v : Value) (n : NetL) (m : List Int) (hv : Net W v n) (k : Nat) (hk : k < s.length) (hG : Grown n m M k 0 s) (hf : fitsL n m = true) (hM : M ≤ 300) :
    Calls Try.prog 29 #[.pointer (some ⟨x, 0, none⟩), v, .int .i64 k] w0 fun e w' => ∃ cd s' kv' ms', e = .returned (.int .i64 cd) ∧
      ((cd = 0 ∧ growTo n M k s n.trans.length = some s' ∧ TreeW x M W w' s' kv' ms') ∨ (cd = 4 ∧ growTo n M k s n.trans.length = none ∧ Below W.heap.size W w')) := by
  obtain ⟨tv, rfl, hT⟩ := hv
  obtain ⟨hnok, hml, hmr⟩ := fits_net hf
  have b1 := below_new w0 (.cells #[.int .i64 n.places, tv] 24)
  have hbx := box2_new w0 (.int .i64 n.places) tv 24
  obtain ⟨w1, Hw1⟩ : ∃ w1, Hid (w0.alloc (.cells #[.int .i64 n.places, tv] 24) = w1) := ⟨_, rfl⟩
  rw [Hw1.out] at b1 hbx
  replace hS := hS.to b1
  obtain ⟨g, cg, rfl, hglt, hcm⟩ := hS.elem hk
  obtain ⟨d0, d1, df⟩ := hS.at
  obtain ⟨am, lm, cm, hmv⟩ := ownsRow_slice (hS.marks k hk).2
  rw [hmv] at hcm
  obtain ⟨ta, tl, tc, rfl, htl, htm, hts, htr⟩ := id hT
  obtain ⟨x0, x1, x2⟩ := hbx
  obtain ⟨ls, Hls⟩ : ∃ ls, Hid (s.length = ls) := ⟨_, rfl⟩
  have hkl : k < ls := by have := Hls.out; omega
  have hl3 : ls ≤ 300 := by have := Hls.out; have := hG.most_le; omega
  have Hk : Hid (k < s.length) := hk
  have HT : Hid (n.trans.length = tl) := htl
  rw [Hls.out] at d1
  have HG : Hid (∀ t s', t ≤ tl → growTo n M k s t = some s' → Grown n m M k t s' ∧ s.length ≤ s'.length ∧ ∀ j, j < s.length → knotAt s' j = knotAt s j) := fun t s' ht e => growTo_grown hG hk t (by omega) e
  rw [htl]
  clear hk htl hG
  go_enter Try.func29, Try.ntmps29
  go_upto_region 1 with fail
  rw [Hw1.out]
  go_wp2_with fail
  go_loopg [22] tl (fun gk i wr => ∃ (t : Nat) (s' : List KnotX) (kv' : Value) (ms' : List Value), t + gk = tl ∧ i = .int .i64 t ∧ TreeW x M W wr s' kv' ms' ∧ Hid (growTo n M k s t = some s' ∧ valAt ms' k = .slice am lm cm))
  case atStart => exact ⟨0, s, _, ms, by omega, rfl, hS, rfl, hmv⟩
  case round =>
    clear hS hcm hglt d0 d1 df hmv x0 x1 x2 Hw1 b1
    obtain ⟨t, s', kv', ms', htg, rfl, hS, Hgr⟩ := hrel
    obtain ⟨G, hGk⟩ : ∃ G, G = gk := ⟨_, rfl⟩
    obtain ⟨WR, hWRk⟩ : ∃ WR, WR = wr := ⟨_, rfl⟩
    subst hGk hWRk
    by_cases htn : t < tl
    · obtain ⟨hGt, hlen, hsame⟩ := HG.out t s' (by omega) Hgr.out.1
      have hkS : k < s'.length := by have := Hk.out; omega
      have hMk := hGt.marks hf hkS
      have hLk := hGt.linked
      have hsz := hGt.sized
      have hmost := hGt.most_le
      have htN : t < n.trans.length := by have := HT.out; omega
      obtain ⟨p1, p2⟩ := tran_lens hnok htN
      have hp16 := (fits_placesC hf).2
      have hw := tran_weights hnok htN
      obtain ⟨b, off, c1, c2, rfl, hb, e0, e1, e2, i1, i2⟩ := (hT.below hS.below).at htn
      have hmI := hS.mark hkS
      rw [Hgr.out.2] at hmI
      have HnoS : Hid (belowL (tranAt n.trans t).pre (knotAt s' k).mark = false → growTo n M k s (t + 1) = some s') := by
        intro h
        show ((growTo n M k s t).bind fun s' => growT n M k s' t) = _
        rw [Hgr.out.1]
        show growT n M k s' t = _
        rw [growT, h]; rfl
      have HnoF : Hid (belowL (tranAt n.trans t).pre (knotAt s' k).mark = true → s'.length = M → growTo n M k s tl = none) := by
        intro h hl
        have h1 : growTo n M k s (t + 1) = none := by
          show ((growTo n M k s t).bind fun s' => growT n M k s' t) = _
          rw [Hgr.out.1]
          show growT n M k s' t = _
          rw [growT, h]
          simp only [if_true]
          rw [if_pos (by omega)]
        have h2 := growTo_none h1 (tl - (t + 1))
        rwa [show t + 1 + (tl - (t + 1)) = tl by omega] at h2
      have HnoN : Hid (belowL (tranAt n.trans t).pre (knotAt s' k).mark = true → ¬ s'.length = M → growTo n M k s (t + 1) = some (s' ++ [kid n k t (knotAt s' k)])) := by
        intro h hl
        show ((growTo n M k s t).bind fun s' => growT n M k s' t) = _
        rw [Hgr.out.1]
        show growT n M k s' t = _
        rw [growT, h]
        simp only [if_true]
        rw [if_neg (by omega)]
      have Hv : Hid (valAt ms' k = .slice am lm cm) := Hgr.out.2
      obtain ⟨tr, Htr⟩ : ∃ tr, Hid (tranAt n.trans t = tr) := ⟨_, rfl⟩
      obtain ⟨mk, Hmk⟩ : ∃ mk, Hid ((knotAt s' k).mark = mk) := ⟨_, rfl⟩
      rw [Htr.out, Hmk.out] at HnoS HnoF HnoN
      rw [Htr.out] at p1 p2 hw e0 i1 i2
      rw [Hmk.out] at hMk hmI
      have Hlk : Hid (mk.length = tr.pre.length ∧ tr.post.length = mk.length) := by show _ ∧ _; have := hMk.1; omega
      have Hbd : Hid (∀ p, (-1 ≤ nth mk p ∧ nth mk p ≤ 2000000) ∧ (0 ≤ nth tr.pre p ∧ nth tr.pre p ≤ 9) ∧ 0 ≤ nth tr.post p ∧ nth tr.post p ≤ 9) := by
        intro p
        have h1 := hMk.2 p
        have h2 := hw p
        have h3 : k < 300 := by omega
        exact ⟨⟨h1.1, by omega⟩, h2⟩
      have Hm16 : Hid (mk.length ≤ 16 ∧ (mk.length : Int) = n.places) := by show _ ∧ _; have := hMk.1; omega
      have bA := below_new WR (.cells #[.int .i64 tr.label, c1, c2] 62)
      have hbxA := box3_new WR (.int .i64 tr.label) c1 c2 62
      obtain ⟨wA, HwA⟩ : ∃ wA, Hid (WR.alloc (.cells #[.int .i64 tr.label, c1, c2] 62) = wA) := ⟨_, rfl⟩
      rw [HwA.out] at bA hbxA
      obtain ⟨z0, z1, z2, z3⟩ := id hbxA
      have hSA := hS.to bA
      have i1A := i1.below bA
      have i2A := i2.below bA
      have hmA := hmI.below bA
      obtain ⟨ap1, lp1, cp1, rfl⟩ : ∃ a l c, c1 = .slice a l c := by obtain ⟨a, l, c, e, _⟩ := i1; exact ⟨a, l, c, e⟩
      obtain ⟨ap2, lp2, cp2, rfl⟩ : ∃ a l c, c2 = .slice a l c := by obtain ⟨a, l, c, e, _⟩ := i2; exact ⟨a, l, c, e⟩
      have Hsame : Hid _ := hsame
      clear i1 i2 hmI hsame hMk hw p1 p2
      go_upto_region 5 with fail
      rw [HwA.out]
      clear HwA e0 e1 e2 hb hS bA
      go_wp2_with fail
      refine (cbelow_any _ _ tr.pre mk _ (by exact i1A) (by exact hmA) (by have := Hlk.out; omega)).mono ?_
      rintro e w2 ⟨rfl, q, rfl⟩
      have bq : Below wA.heap.size wA (wA.drewN q) := below_drewN (Below.refl _ _) q
      replace hSA := hSA.to bq
      replace i1A := i1A.below bq
      replace i2A := i2A.below bq
      replace hmA := hmA.below bq
      replace hbxA := hbxA.below bq
      obtain ⟨wB, HwB⟩ : ∃ wB, Hid (wA.drewN q = wB) := ⟨_, rfl⟩
      rw [HwB.out] at hSA i1A i2A hmA hbxA ⊢
      clear HwB bq z0 z1 z2 z3
      cases hbl : belowL tr.pre mk
      · have E : Hid _ := HnoS.out hbl
        clear HnoS HnoF HnoN hbl
        go_wp2
        go_roundg (G - 1)
        case measure => omega
        case rel => exact ⟨t + 1, s', kv', ms', by omega, by go_num, hSA, E.out, Hv.out⟩
      · obtain ⟨d0, d1, df⟩ := hSA.at
        obtain ⟨ak, ck, hkv⟩ := hSA.slice
        rw [hkv] at d1
        obtain ⟨ls', Hls'⟩ : ∃ l, Hid (s'.length = l) := ⟨_, rfl⟩
        rw [Hls'.out] at d1 hkv
        have hls3 : ls' ≤ 300 := by have := Hls'.out; omega
        go_wp2_with fail
        go_quiet (fail)
        have bq : Below wB.heap.size wB (wB.drewN nq) := below_drewN (Below.refl _ _) nq
        replace hSA := hSA.to bq
        replace i1A := i1A.below bq
        replace i2A := i2A.below bq
        replace hmA := hmA.below bq
        replace hbxA := hbxA.below bq
        obtain ⟨wC, HwC⟩ : ∃ wC, Hid (wB.drewN nq = wC) := ⟨_, rfl⟩
        rw [HwC.out] at hSA i1A i2A hmA hbxA ⊢
        clear HwC bq d0 d1 df
        by_cases hlM : ls' = M
        · have E : Hid _ := HnoF.out hbl (by have := Hls'.out; omega)
          have hb' := hSA.below
          have hd : (decide ((ls' : Int) = (M : Int))) = true := by simp [hlM]
          have hd2 : ((ls' : Int) == (M : Int)) = true := by simp [hlM]
          clear HnoS HnoF HnoN hbl hSA
          go_wp2
          go_ret
          exact ⟨4, s', kv', ms', rfl, .inr ⟨rfl, E.out, hb'⟩⟩
        · have E : Hid _ := HnoN.out hbl (by have := Hls'.out; omega)
          have hd : (decide ((ls' : Int) = (M : Int))) = false := by simp; omega
          have hd2 : ((ls' : Int) == (M : Int)) = false := by simp; omega
          clear HnoS HnoF HnoN hbl
          obtain ⟨z0, z1, z2, z3⟩ := hbxA
          go_wp2_with fail
          refine (cfired_any _ _ _ mk tr _ (by exact hmA) (by exact i1A) (by exact i2A) (by have := Hlk.out; omega) (by have := Hlk.out; omega) Hbd.out).mono ?_
          rintro e wD ⟨g2, rfl, hO2⟩
          obtain ⟨lk, Hlk2⟩ : ∃ lk, Hid (mk.length = lk) := ⟨_, rfl⟩
          rw [Hlk2.out] at hO2 ⊢
          have hR := hSA.read (by omega)
          have hof : (omFire tr mk).length = lk := by rw [omFire, mapTo_length]; exact Hlk2.out
          have hms : ∀ y ∈ upMarks s' (k : Int), y.length = lk := by
            intro y hy
            rw [upMarks, if_neg (by omega), Int.toNat_natCast, List.mem_reverse] at hy
            have h1 := hsz.mine k hkS y hy
            have h2 := hsz.len k hkS
            rw [Hmk.out] at h2
            have h3 := Hlk2.out
            omega
          have hl16 : lk ≤ 16 := by have := Hm16.out; have := Hlk2.out; omega
          clear z0 z1 z2 z3 i1A i2A hmA hd hd2
          go_wp2_with fail
          refine (tree_lift wC wD x M s' kv' hR hLk k hkS (by omega) g2 lk lk (omFire tr mk) hO2 hof hms hl16).mono ?_
          rintro e wE ⟨⟨vv, rfl⟩, z, hCo, hSt, hO3, hB3⟩
          have hzl : z.length = lk := by rw [hCo.raised.1]; exact hof
          have HK : Hid (kid n k t (knotAt s' k) = ⟨k, t, z, (knotAt s' k).mine⟩) := by
            refine kid_is hLk hkS ?_ ?_ hSt
            · rw [Hmk.out]; exact Hm16.out.2
            · rw [Htr.out, Hmk.out]; exact hCo
          rw [HK.out] at E
          have hSE := hSA.to hO3.2.1
          have HSA : Hid _ := hSA
          have HO3 : Hid _ := hO3
          obtain ⟨d0, d1, df⟩ := hSE.at
          have hrow := hSE.rowK
          have hapx := hSE.apx
          have hxE := hSE.lt
          have hWE := hSE.size
          rw [Hls'.out] at hrow
          subst hkv
          clear hSA hO3 hO2 hCo hSt hB3 hms hof hR hlM
          go_wp2_with (at_builtin; refine wp_append_knot rfl _ _ rfl W.heap.size wE _ ls' (knotCells s' ms') (k : Int) (t : Int) (some ⟨g2, 0, none⟩) lk lk hrow rfl rfl (by omega) hWE ?_; intro v' wF hF hgF hatF; obtain ⟨a2, l2, c2, rfl⟩ := ownsRow_slice hF; have hxF : wF.heap[x]? = wE.heap[x]? := (hgF.block x (by simp; omega) (fun e => hapx e.symm)).trans ((below_new wE _).block x hxE); have u1 := (World.cell?_of_block (a := ⟨x, 1, none⟩) hxF).trans d1; have uf := (World.frozen?_of_block (a := ⟨x, 1, none⟩) hxF).trans df)
          have R := hSE_grow HSA.out ⟨k, t, z, (knotAt s' k).mine⟩ HO3.out hzl hl16 (by rw [Hls'.out]; exact hF) hgF hatF
          have R2 : Hid (growTo n M k s (t + 1) = some (s' ++ [⟨k, t, z, (knotAt s' k).mine⟩]) ∧ valAt (ms' ++ [.slice (some ⟨g2, 0, none⟩) lk lk]) k = .slice am lm cm) := by
            refine ⟨E.out, ?_⟩
            rw [valAt_append (by rw [HSA.out.lenM]; exact hkS)]
            exact Hv.out
          clear hF hgF hatF u1 uf hxF hSE d0 d1 df
          go_wp2
          go_roundg (G - 1)
          case measure => omega
          case rel => exact ⟨t + 1, _, _, _, by omega, by go_num, R, R2⟩
    · obtain rfl : t = tl := by omega
      have HE : Hid (growTo n M k s t = some s') := Hgr.out.1
      go_wp2
      go_ret
      exact ⟨0, s', kv', ms', rfl, .inl ⟨rfl, HE.out, hS⟩⟩

end Go.Proofs.Ytbpkebkblkjdhaa

/- Package cover as it landed: the tree. -/
namespace Go.Proofs.Ytbpkebkblkjdhaa
open Go.RowKit
set_option linter.unusedVariables false

/-- A run of nothing: it copies. -/
def GivesN (w : World) (b : Bool) (m : List Int) (e : Ending) (w' : World) : Prop :=
  (b = true ∧ ∃ r, e = .returned (.tuple #[r, .int .i64 0]) ∧ Own w.heap.size w w' r m) ∨ (b = false ∧ e = .returned (.tuple #[.slice none 0 0, .int .i64 2]) ∧ Below w.heap.size w w')

set_option maxHeartbeats 1000000 in
theorem net_run_nil (n : NetL) (v u : Value) (m : List Int) (w : World) (hv : Net w v n) (hu : Ints w u m) :
    Calls Try.prog 14 #[v, u, .slice none 0 0] w fun e w' => GivesN w (fitsL n m) m e w' := by
  obtain ⟨tv, rfl, hT⟩ := hv
  have b1 := below_new w (.cells #[.int .i64 n.places, tv] 24)
  have hbx := box2_new w (.int .i64 n.places) tv 24
  replace hu := hu.below b1
  have hv : Net _ (.agg #[.int .i64 n.places, tv]) n := ⟨tv, rfl, hT.below b1⟩
  clear hT
  go_enter Try.func14, Try.ntmps14
  go_wp2_with fail
  refine (marks_any _ _ n m _ (by exact hv) (by exact hu)).mono ?_
  rintro e w1 ⟨rfl, b2⟩
  replace hu := hu.below b2
  replace b1 := below_then b1 b2
  clear b2 hbx hv
  cases hf : fitsL n m
  · have Hf : Hid _ := hf
    clear hf
    go_wp2
    go_ret2
    exact .inr ⟨Hf.out, rfl, b1⟩
  · have Hf : Hid _ := hf
    go_wp2_with fail
    refine (clone_any _ m _ hu).mono ?_
    rintro e w2 ⟨r, rfl, hO⟩
    have R : Own w.heap.size w w2 r m := by
      obtain ⟨q1, q2, q3⟩ := hO
      have s1 := b1.size
      refine ⟨⟨q1.1, ?_⟩, b1.trans (q2.mono s1), by omega⟩
      rcases q1.2 with h | ⟨g', cap', cur, z1, z2, z3⟩
      · exact .inl h
      · exact .inr ⟨g', cap', cur, z1, by omega, z3⟩
    clear hO hu hf
    go_wp2_with fail
    go_loop [8, 21] (fun o i => o = r ∧ i = .int .i64 0) (fun _ _ => 0)
    case atStart => exact ⟨rfl, rfl⟩
    case round =>
      obtain ⟨rfl, rfl⟩ := hrel
      go_wp2
      go_ret2
      exact .inl ⟨Hf.out, _, rfl, R⟩

theorem tree_rest {n : NetL} {m : List Int} {b k : Nat} {s : List KnotX} (e : treeTo n m b k = some s) (hk : s.length ≤ k) : ∀ j, treeTo n m b (k + j) = some s := by
  intro j
  induction j with
  | zero => exact e
  | succ j ih => rw [← Nat.add_assoc, treeTo, ih]; simp only [Option.bind_some]; rw [if_neg (by omega)]

theorem tree_noneC {n : NetL} {m : List Int} {b k : Nat} (e : treeTo n m b k = none) : ∀ j, treeTo n m b (k + j) = none := by
  intro j
  induction j with
  | zero => exact e
  | succ j ih => rw [← Nat.add_assoc, treeTo, ih]; rfl

/-- The tree at its start. -/
theorem treeW_start {W w2 : World} {r : Value} {m : List Int} {M : Int} (hO : Own W.heap.size W w2 r m) (h16 : m.length ≤ 16) :
    ∃ w3, Hid ((w2.alloc (.cells #[.int .i64 (-1), .int .i64 (-1), r] 39)).alloc (.cells #[.int .i64 M, .slice (some ⟨w2.heap.size, 0, none⟩) 1 1] 56) = w3) ∧ TreeW (w2.heap.size + 1) M W w3 [rootK m] (.slice (some ⟨w2.heap.size, 0, none⟩) 1 1) [r] := by
  have b1 := below_new w2 (.cells #[.int .i64 (-1), .int .i64 (-1), r] 39)
  have b2 := below_new (w2.alloc (.cells #[.int .i64 (-1), .int .i64 (-1), r] 39)) (.cells #[.int .i64 M, .slice (some ⟨w2.heap.size, 0, none⟩) 1 1] 56)
  have b3 := below_then b1 b2
  have hs := hO.2.2
  have h1 := heap_alloc_at (w2.alloc (.cells #[.int .i64 (-1), .int .i64 (-1), r] 39)) (.cells #[.int .i64 M, .slice (some ⟨w2.heap.size, 0, none⟩) 1 1] 56)
  simp only [World.size_alloc] at h1
  have h2 : ((w2.alloc (.cells #[.int .i64 (-1), .int .i64 (-1), r] 39)).alloc (.cells #[.int .i64 M, .slice (some ⟨w2.heap.size, 0, none⟩) 1 1] 56)).heap[w2.heap.size]? = some (.cells #[.int .i64 (-1), .int .i64 (-1), r] 39 (0, 0)) := by
    rw [b2.block w2.heap.size (by simp), heap_alloc_at]
  refine ⟨_, rfl, ⟨hO.2.1.trans (b3.mono hs), by omega, by simp, h1, ⟨rfl, .inr ⟨w2.heap.size, 1, _, rfl, hs, h2, Nat.le_refl _, by unfold maxLen; omega, rfl, rfl⟩⟩, by simp [Value.ownBlock], rfl, fun j hj => ?_, fun j hj b hb => ?_⟩⟩
  · obtain rfl : j = 0 := by simpa using hj
    exact ⟨h16, ((ownsRow_on hO.1).below b3).now⟩
  · obtain rfl : j = 0 := by simpa using hj
    have hb' : r.ownBlock = some b := hb
    have := ownsRow_lt hO.1 hb'
    refine ⟨by omega, ?_, fun i hi hne => ?_⟩
    · intro e
      have e' : w2.heap.size = b := by simpa [Value.ownBlock] using e
      omega
    · simp at hi; omega

/-- What Tree answers, and where it lies. -/
def CoreT (w : World) (p : List KnotL × Int) (e : Ending) (w' : World) : Prop :=
  ∃ r, e = .returned (.tuple #[r, .int .i64 p.2]) ∧ Below w.heap.size w w' ∧
    ((p.1 = [] ∧ r = .slice none 0 0) ∨ ∃ (s : List KnotX) (ms : List Value) (x : Nat) (M : Int) (W : World), p.1 = s.map KnotX.knot ∧ s.length ≤ 300 ∧ w.heap.size ≤ W.heap.size ∧ TreeW x M W w' s r ms)
theorem coreT_no {w w' : World} {p : List KnotL × Int} {c : Int} (hp : p = ([], c)) (hb : Below w.heap.size w w') : CoreT w p (.returned (.tuple #[.slice none 0 0, .int .i64 c])) w' := by
  subst hp; exact ⟨_, rfl, hb, .inl ⟨rfl, rfl⟩⟩

set_option maxRecDepth 4000 in
set_option maxHeartbeats 4000000 in
theorem tree_core (v u : Value) (n : NetL) (m : List Int) (most : Int) (w : World) (hv : Net w v n) (hu : Ints w u m) :
    Calls Try.prog 8 #[v, u, .int .i64 most] w fun e w' => CoreT w (treeL n m most) e w' := by
  obtain ⟨tv, rfl, hT⟩ := hv
  have b1 := below_new w (.cells #[.int .i64 n.places, tv] 24)
  have hbx := box2_new w (.int .i64 n.places) tv 24
  obtain ⟨w1, Hw1⟩ : ∃ w1, Hid (w.alloc (.cells #[.int .i64 n.places, tv] 24) = w1) := ⟨_, rfl⟩
  rw [Hw1.out] at b1 hbx
  replace hu := hu.below b1
  have hv : Net w1 (.agg #[.int .i64 n.places, tv]) n := ⟨tv, rfl, hT.below b1⟩
  clear hT
  go_enter Try.func8, Try.ntmps8
  go_upto_region 1 with fail
  rw [Hw1.out]
  clear Hw1
  by_cases hm1 : 1 ≤ most
  case neg =>
    have E : Hid (treeL n m most = ([], 2)) := by show _ = _; rw [treeL, graphOk, decide_eq_false (by omega)]; rfl
    go_wp2
    go_ret2
    exact coreT_no E.out b1
  by_cases hm2 : most ≤ 300
  case neg =>
    have E : Hid (treeL n m most = ([], 2)) := by show _ = _; rw [treeL, graphOk, decide_eq_false (show ¬ most ≤ 300 by omega)]; simp
    go_wp2
    go_ret2
    exact coreT_no E.out b1
  obtain ⟨x0, x1, x2⟩ := id hbx
  go_wp2_with fail
  refine (net_run_nil n _ _ m _ (by exact hv) (by exact hu)).mono ?_
  rintro e w2 (⟨hf, r, rfl, hO⟩ | ⟨hf, rfl, b2⟩)
  · obtain ⟨M, rfl⟩ := Int.eq_ofNat_of_zero_le (show 0 ≤ most by omega)
    have HG : Hid (∀ o, treeTo n m M M = o → treeL n m M = match o with | some s => (s.map KnotX.knot, 0) | none => ([], 4)) := by
      intro o ho
      have hok : graphOk n m M = true := by simp only [graphOk, Bool.and_eq_true, decide_eq_true_eq]; exact ⟨⟨by omega, by omega⟩, hf⟩
      rw [treeL, hok]
      simp only [if_true, Int.toNat_natCast]
      rw [ho]
      cases o <;> rfl
    have HFd : Hid (∀ k s, treeTo n m M k = some s → Grown n m M k 0 s) := fun k s h => treeTo_grown (by omega) k h
    have HF : Hid (fitsL n m = true) := hf
    have hM1 : 1 ≤ M := by omega
    have hM3 : M ≤ 300 := by omega
    have h16 : m.length ≤ 16 := by have h1 := (fits_placesC hf).2; have h2 := (fits_net hf).2.1; omega
    obtain ⟨ar, lr, cr, rfl⟩ := ownsRow_slice hO.1
    obtain ⟨w3, Hw3, hS⟩ := treeW_start (M := (M : Int)) hO h16
    obtain ⟨X, HX⟩ : ∃ X, Hid (w2.heap.size + 1 = X) := ⟨_, rfl⟩
    rw [HX.out] at hS
    clear hO hf hm1 hm2 x0 x1 x2
    go_wp2_with fail
    rw [Hw3.out, HX.out]
    clear Hw3 HX
    go_loopg [11] M (fun gk i wr => ∃ (k : Nat) (s : List KnotX) (kv : Value) (ms : List Value), k + gk = M ∧ i = .int .i64 k ∧ TreeW X M w1 wr s kv ms ∧ Hid (treeTo n m M k = some s))
    case atStart => exact ⟨0, _, _, _, by omega, rfl, hS, rfl⟩
    case round =>
      clear hS
      obtain ⟨k, s, kv, ms, hkg, rfl, hS, Hgr⟩ := hrel
      obtain ⟨G, hGk⟩ : ∃ G, G = gk := ⟨_, rfl⟩
      obtain ⟨WR, hWRk⟩ : ∃ WR, WR = wr := ⟨_, rfl⟩
      subst hGk hWRk
      have hGr : Grown n m M k 0 s := HFd.out k s Hgr.out
      have hml : s.length ≤ M := hGr.most_le
      obtain ⟨ls, Hls⟩ : ∃ ls, Hid (s.length = ls) := ⟨_, rfl⟩
      rw [Hls.out] at hml
      obtain ⟨d0, d1, df⟩ := hS.at
      obtain ⟨ak, ck, hkv⟩ := hS.slice
      rw [hkv, Hls.out] at d1
      by_cases hkl : k < ls
      · have hks : k < s.length := by have := Hls.out; omega
        have Hyes : Hid (seenK (knotAt s k) = true → treeTo n m M (k + 1) = some s) := by
          intro h
          show ((treeTo n m M k).bind fun s => if k < s.length then (if seenK (knotAt s k) then some s else growTo n M k s n.trans.length) else some s) = _
          rw [Hgr.out]
          simp only [Option.bind_some]
          rw [if_pos hks, if_pos h]
        have Hno : Hid (seenK (knotAt s k) = false → treeTo n m M (k + 1) = growTo n M k s n.trans.length) := by
          intro h
          show ((treeTo n m M k).bind fun s => if k < s.length then (if seenK (knotAt s k) then some s else growTo n M k s n.trans.length) else some s) = _
          rw [Hgr.out]
          simp only [Option.bind_some]
          rw [if_pos hks, h]
          rfl
        have hR := hS.read (by have := Hls.out; omega)
        go_wp2_with fail
        refine (tree_ends X M s kv k _ (by exact hR) hGr.linked hks (by have := Hls.out; omega)).mono ?_
        rintro e w4 ⟨rfl, b4⟩
        have hS4 := hS.to b4
        clear hS hR d0 d1 df b4
        cases hse : seenK (knotAt s k)
        · have E : Hid _ := Hno.out hse
          clear Hyes Hno hse
          obtain ⟨y0, y1, y2⟩ := hbx.below hS4.below
          go_wp2_with fail
          refine (tree_leave hS4 _ n m (by exact hv) k hks hGr HF.out hM3).mono ?_
          rintro e w5 ⟨cd, s', kv', ms', rfl, ⟨rfl, hgr, hS5⟩ | ⟨rfl, hgr, b5⟩⟩
          · have E2 : Hid (treeTo n m M (k + 1) = some s') := by show _ = _; rw [E.out]; exact hgr
            clear hS4 y0 y1 y2 hgr
            go_wp2
            go_roundg (G - 1)
            case measure => omega
            case rel => exact ⟨k + 1, s', kv', ms', by omega, by go_num, hS5, E2⟩
          · have E2 : Hid (treeL n m M = ([], 4)) := by
              have h1 : treeTo n m M (k + 1) = none := by rw [E.out]; exact hgr
              have h2 := tree_noneC h1 (M - (k + 1))
              rw [show k + 1 + (M - (k + 1)) = M by omega] at h2
              exact HG.out _ h2
            have R := b1.trans (b5.mono b1.size)
            clear hS4 y0 y1 y2 hgr
            go_wp2
            go_ret2
            exact coreT_no E2.out R
        · have E : Hid _ := Hyes.out hse
          clear Hyes Hno hse
          go_wp2
          go_roundg (G - 1)
          case measure => omega
          case rel => exact ⟨k + 1, s, kv, ms, by omega, by go_num, hS4, E⟩
      · have E : Hid (treeL n m M = (s.map KnotX.knot, 0)) := by
          have := tree_rest Hgr.out (by have := Hls.out; omega) (M - k)
          rw [show k + (M - k) = M by omega] at this
          exact HG.out _ this
        have R := b1.trans (hS.below.mono b1.size)
        have h3 : Hid (s.length ≤ 300) := by show _ ≤ _; have := Hls.out; omega
        have hkl' : ls ≤ k := by omega
        go_wp2
        go_ret2
        rw [E.out]
        exact ⟨_, rfl, R, .inr ⟨s, ms, X, M, w1, rfl, h3.out, b1.size, by rw [← Hls.out, ← hkv]; exact hS⟩⟩
  · have E : Hid (treeL n m most = ([], 2)) := by show _ = _; rw [treeL, graphOk, hf]; simp
    have R := below_then b1 b2
    clear hf x0 x1 x2
    go_wp2
    go_ret2
    exact coreT_no E.out R

end Go.Proofs.Ytbpkebkblkjdhaa

/- Package cover as it landed: Tree and Limit. -/
namespace Go.Proofs.Ytbpkebkblkjdhaa
open Go.RowKit
set_option linter.unusedVariables false

theorem cover_tree (v u : Value) (n : NetL) (m : List Int) (most : Int) (w : World) (hv : Net w v n) (hu : Ints w u m) :
    Calls Try.prog 8 #[v, u, .int .i64 most] w fun e w' => GivesK w (treeL n m most) e w' :=
  (tree_core v u n m most w hv hu).mono fun e w' h => by
    obtain ⟨r, he, hb, hr | ⟨s, ms, x, M, W, h1, h2, h3, h4⟩⟩ := h
    · exact ⟨r, he, by rw [hr.1, hr.2]; exact Knots.nil _, hb⟩
    · exact ⟨r, he, by rw [h1]; exact h4.knots h2, hb⟩

theorem topC_take (p : Nat) (l : List KnotL) (x : Int) (j : Nat) (hj : j < l.length) : topL p (l.take (j + 1)) x = (if moreL (nth (knotOf l j).mark p) (topL p (l.take j) x) then nth (knotOf l j).mark p else topL p (l.take j) x) := by
  unfold topL
  rw [List.take_succ_eq_append_getElem hj, List.foldl_append, knotOf_get hj]; rfl
theorem treeC_marks {n : NetL} {m : List Int} {most : Int} {l : List KnotL} (h : treeL n m most = (l, 0)) : l.length ≤ 300 ∧ ∀ j, j < l.length → ((knotOf l j).mark.length : Int) = n.places := by
  obtain ⟨s, rfl, hs⟩ := treeL_ok h
  refine ⟨by rw [List.length_map]; exact hs.room, fun j hj => ?_⟩
  rw [List.length_map] at hj
  rw [knotOf_map hj]
  exact (hs.marks hj).1

set_option maxHeartbeats 2000000 in
theorem cover_limit (v u : Value) (n : NetL) (m : List Int) (p most : Int) (w : World) (hv : Net w v n) (hu : Ints w u m) :
    Calls Try.prog 10 #[v, u, .int .i64 p, .int .i64 most] w fun e w' => e = .returned (.tuple #[.int .i64 (limitL n m p most).1, .int .i64 (limitL n m p most).2]) ∧ Below w.heap.size w w' := by
  obtain ⟨tv, rfl, hT⟩ := hv
  have c := below_new w (.cells #[.int .i64 n.places, tv] 24)
  have hbx := box2_new w (.int .i64 n.places) tv 24
  have hv : Net _ (.agg #[.int .i64 n.places, tv]) n := ⟨_, rfl, hT.below c⟩
  replace hu := hu.below c
  clear hT
  go_enter Try.func10, Try.ntmps10
  go_wp2_with fail
  refine (cover_tree _ _ n m most _ (by exact hv) (by exact hu)).mono ?_
  rintro e w2 ⟨r, rfl, hr, b⟩
  replace hbx := hbx.below b
  replace c := below_then c b
  clear b hv hu
  have HL : Hid (limitL n m p most = if (treeL n m most).2 == 0 then (if decide (0 ≤ p) && decide (p < n.places) then (topL p.toNat (treeL n m most).1 0, 0) else (0, 3)) else (0, (treeL n m most).2)) := rfl
  have HM : Hid (∀ l, treeL n m most = (l, 0) → l.length ≤ 300 ∧ ∀ j, j < l.length → ((knotOf l j).mark.length : Int) = n.places) := fun l h => treeC_marks h
  generalize treeL n m most = q at *
  obtain ⟨l, cd⟩ := q
  simp only at hr HL ⊢
  obtain ⟨x0, x1, x2⟩ := id hbx
  by_cases h0 : cd = 0
  case neg =>
    have n0 : (cd != 0) = true := by simpa using h0
    have n1 : (cd == 0) = false := by simpa using h0
    have E : Hid (limitL n m p most = (0, cd)) := by show _ = _; rw [HL.out, n1]; rfl
    clear HL HM
    go_wp2
    go_ret2
    exact ⟨by rw [E.out]; rfl, c⟩
  subst h0
  by_cases hp0 : 0 ≤ p
  case neg =>
    have E : Hid (limitL n m p most = (0, 3)) := by show _ = _; rw [HL.out, decide_eq_false hp0]; rfl
    clear HL HM
    go_wp2
    go_ret2
    exact ⟨by rw [E.out]; rfl, c⟩
  by_cases hp1 : p < n.places
  case neg =>
    have E : Hid (limitL n m p most = (0, 3)) := by show _ = _; rw [HL.out, decide_eq_false hp1]; simp
    clear HL HM
    go_wp2
    go_ret2
    exact ⟨by rw [E.out]; rfl, c⟩
  have E : Hid (limitL n m p most = (topL p.toNat l 0, 0)) := by show _ = _; rw [HL.out, decide_eq_true hp0, decide_eq_true hp1]; rfl
  obtain ⟨hl3, hml⟩ := HM.out l rfl
  have Hml : Hid _ := hml
  obtain ⟨P, rfl⟩ := Int.eq_ofNat_of_zero_le hp0
  have E2 : Hid (limitL n m (P : Int) most = (topL P l 0, 0)) := by have := E.out; rw [Int.toNat_natCast] at this; exact this
  obtain ⟨ak, ck, rfl, _, _⟩ := hr.slice
  obtain ⟨len, Hlen⟩ : ∃ len, Hid (l.length = len) := ⟨_, rfl⟩
  rw [Hlen.out] at hr hl3 ⊢
  clear HL HM hml
  go_wp2_with fail
  clear x0 x1 x2
  go_loopg [12, 35] len (fun g o i wr => ∃ j : Nat, j + g = len ∧ i = .int .i64 j ∧ o = .int .i64 (topL P (l.take j) 0) ∧ Below w2.heap.size w2 wr)
  case atStart => exact ⟨0, by omega, rfl, rfl, Below.refl _ _⟩
  case round =>
    obtain ⟨j, hjg, rfl, rfl, hb⟩ := hrel
    by_cases hjn : j < len
    · obtain ⟨g, o, u1, rfl, hg, h0, h1, h2, i1⟩ := (hr.below hb).at hjn
      have hmj := Hml.out j (by have := Hlen.out; omega)
      have Ht : Hid _ := topC_take P l 0 j (by have := Hlen.out; omega)
      obtain ⟨kn, Hkn⟩ : ∃ kn, Hid (knotOf l j = kn) := ⟨_, rfl⟩
      rw [Hkn.out] at h0 h1 i1 hmj Ht
      obtain ⟨au, lu, cu, rfl, hlu, _, _, _⟩ := id i1
      have hPl : P < lu := by omega
      have hbn := below_new wr (.cells #[.int .i64 kn.up, .int .i64 kn.tran, .slice au lu cu] 39)
      have hbx3 := box3_new wr (.int .i64 kn.up) (.int .i64 kn.tran) (.slice au lu cu) 39
      replace i1 := i1.below hbn
      obtain ⟨wt, Hwt⟩ : ∃ wt, Hid (wr.alloc (.cells #[.int .i64 kn.up, .int .i64 kn.tran, .slice au lu cu] 39) = wt) := ⟨_, rfl⟩
      rw [Hwt.out] at hbn hbx3 i1
      obtain ⟨_, _, _, e, _, _, _, hri⟩ := i1
      injection e with e1 e2 e3
      subst e1 e2 e3
      obtain ⟨bi, oi, rfl, hbi, hci⟩ := hri P (by omega)
      clear hri
      obtain ⟨d, Hd⟩ : ∃ d, Hid (topL P (l.take j) 0 = d) := ⟨_, rfl⟩
      rw [Hd.out] at Ht ⊢
      go_upto_region 10 with fail
      rw [Hwt.out]
      clear Hwt h0 h1 h2
      obtain ⟨z0, z1, z2, z3⟩ := hbx3
      have R := below_then hb hbn
      go_wp2_with fail
      refine (cmore_any _ _ _).mono ?_
      rintro e w5 ⟨rfl, rfl⟩
      cases hm : moreL (nth kn.mark P) d
      · have F : Hid (topL P (l.take (j + 1)) 0 = d) := by show _ = _; rw [Ht.out, hm]; rfl
        clear Ht hm
        go_wp2
        go_roundg (gk - 1)
        case measure => omega
        case rel => exact ⟨j + 1, by omega, by go_num, by rw [F.out], R⟩
      · have F : Hid (topL P (l.take (j + 1)) 0 = nth kn.mark P) := by show _ = _; rw [Ht.out, hm]; rfl
        clear Ht hm
        go_wp2
        go_roundg (gk - 1)
        case measure => omega
        case rel => exact ⟨j + 1, by omega, by go_num, by rw [F.out], R⟩
    · have F : Hid (topL P (l.take j) 0 = topL P l 0) := by show _ = _; rw [List.take_of_length_le (by have := Hlen.out; omega)]
      rw [F.out]
      have R := below_then c hb
      go_wp2
      go_ret2
      exact ⟨by rw [E2.out]; rfl, R⟩

end Go.Proofs.Ytbpkebkblkjdhaa
