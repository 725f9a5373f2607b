/- The answers of the document itself for flow: what transitions do together. -/
import Derived.Test.YtdaigbamgplboaaFlow1
import Derived.Deep.RegionHeld3
namespace Go.Proofs.Ytdaigbamgplboaa
open Go.RowKit
set_option linter.unusedVariables false

theorem tranOk_parts {p : Int} {t : TranL} (h : tranOk p t = true) : (t.pre.length : Int) = p ∧ (t.post.length : Int) = p ∧ (∀ j, 0 ≤ nth t.pre j ∧ nth t.pre j ≤ 9) ∧ (∀ j, 0 ≤ nth t.post j ∧ nth t.post j ≤ 9) := by
  simp only [tranOk, tranHead, Bool.and_eq_true, beq_iff_eq, List.all_append, decide_eq_true_eq] at h
  have go : ∀ {xs : List Int}, xs.all weightOk = true → ∀ j, 0 ≤ nth xs j ∧ nth xs j ≤ 9 := by
    intro xs h j
    by_cases hj : j < xs.length
    · have := List.all_eq_true.1 h _ (List.getElem_mem hj)
      simp only [weightOk, Bool.and_eq_true, decide_eq_true_eq] at this
      simpa only [nth, List.getD, List.getElem?_eq_getElem hj, Option.getD_some] using this
    · rw [nth_past xs j (by omega)]; omega
  exact ⟨h.1.1.2, h.1.2, go h.2.1, go h.2.2⟩
theorem netOk_head {n : NetL} (h : netOk n = true) : 0 ≤ n.places ∧ n.places ≤ 16 ∧ n.trans.length ≤ 24 := by
  simp only [netOk, headOk, Bool.and_eq_true, decide_eq_true_eq] at h
  exact ⟨h.1.1.1, h.1.1.2, h.1.2⟩

/-- What holds of counts and weights. -/
structure EffOk (n : NetL) (c : List Int) : Prop where
  places0 : 0 ≤ n.places
  places1 : n.places ≤ 16
  trans : n.trans.length ≤ 24
  len : c.length = n.trans.length
  cnt : ∀ j, 0 ≤ nth c j ∧ nth c j ≤ 1000000
  pre : ∀ k, k < n.trans.length → ((tranAt n.trans k).pre.length : Int) = n.places
  post : ∀ k, k < n.trans.length → ((tranAt n.trans k).post.length : Int) = n.places
  wpre : ∀ k j, 0 ≤ nth (tranAt n.trans k).pre j ∧ nth (tranAt n.trans k).pre j ≤ 9
  wpost : ∀ k j, 0 ≤ nth (tranAt n.trans k).post j ∧ nth (tranAt n.trans k).post j ≤ 9

theorem tranAt_past {ts : List TranL} {k : Nat} (h : ts.length ≤ k) : tranAt ts k = noTran := by simp [tranAt, List.getD, List.getElem?_eq_none h]

theorem effOk_of {n : NetL} {c : List Int} (h : effOk n c = true) : EffOk n c := by
  simp only [effOk, Bool.and_eq_true] at h
  obtain ⟨hn, hw⟩ := h
  obtain ⟨h1, h2⟩ := (withinL_iff _ _ _).1 hw
  obtain ⟨p0, p1, p2⟩ := netOk_head hn
  have ht : ∀ k, (∀ j, 0 ≤ nth (tranAt n.trans k).pre j ∧ nth (tranAt n.trans k).pre j ≤ 9) ∧ (∀ j, 0 ≤ nth (tranAt n.trans k).post j ∧ nth (tranAt n.trans k).post j ≤ 9) := by
    intro k
    by_cases hk : k < n.trans.length
    · exact (tranOk_parts (net_tran hn hk)).2.2
    · rw [tranAt_past (by omega)]; simp [noTran, nth]
  refine ⟨p0, p1, p2, by omega, fun j => ?_, fun k hk => (tranOk_parts (net_tran hn hk)).1, fun k hk => (tranOk_parts (net_tran hn hk)).2.1, fun k => (ht k).1, fun k => (ht k).2⟩
  by_cases hj : j < c.length
  · exact h2 j hj
  · rw [nth_past c j (by omega)]; omega

theorem mul_bounds {a b x y : Int} (h1 : 0 ≤ a) (h2 : a ≤ x) (h3 : 0 ≤ b) (h4 : b ≤ y) : 0 ≤ a * b ∧ a * b ≤ x * y :=
  ⟨Int.mul_nonneg h1 h3, Int.mul_le_mul h2 h4 h3 (by omega)⟩

theorem EffOk.prods {n : NetL} {c : List Int} (h : EffOk n c) (k p : Nat) :
    (0 ≤ nth c k * nth (tranAt n.trans k).post p ∧ nth c k * nth (tranAt n.trans k).post p ≤ 9000000) ∧ 0 ≤ nth c k * nth (tranAt n.trans k).pre p ∧ nth c k * nth (tranAt n.trans k).pre p ≤ 9000000 := by
  obtain ⟨c1, c2⟩ := h.cnt k
  obtain ⟨a1, a2⟩ := h.wpost k p
  obtain ⟨b1, b2⟩ := h.wpre k p
  exact ⟨mul_bounds c1 c2 a1 a2, mul_bounds c1 c2 b1 b2⟩

theorem EffOk.bound {n : NetL} {c : List Int} (h : EffOk n c) (p : Nat) : ∀ k : Nat, -9000000 * (k : Int) ≤ effTo n c p k ∧ effTo n c p k ≤ 9000000 * (k : Int)
  | 0 => by simp [effTo, sumTo]
  | k + 1 => by
    obtain ⟨i1, i2⟩ := h.bound p k
    obtain ⟨q1, q2⟩ := h.prods k p
    simp only [effTo, sumTo] at *
    push_cast
    omega

theorem effTo_succ (n : NetL) (c : List Int) (p k : Nat) : effTo n c p (k + 1) = effTo n c p k + (nth c k * nth (tranAt n.trans k).post p - nth c k * nth (tranAt n.trans k).pre p) := rfl

set_option maxHeartbeats 2000000 in
theorem ceffect_any (v u : Value) (n : NetL) (c : List Int) (w : World) (hv : Net w v n) (hu : Ints w u c) (hsm : SmallNet n) :
    Calls Try.prog 10 #[v, u] w fun e w' => Gives w (effectL n c) e w' := by
  obtain ⟨tv, rfl, hT⟩ := hv
  have b1 := below_new w (.cells #[.int .i64 n.places, tv] 24)
  have hbx := box2_new w (.int .i64 n.places) tv 24
  replace hu := hu.below b1
  have hv : Net _ _ n := ⟨tv, rfl, hT.below b1⟩
  replace hT := hT.below b1
  go_enter Try.func10, Try.ntmps10
  go_wp2_with fail
  refine (bwrong_any _ n _ (by exact hv) hsm).mono ?_
  rintro e w1 ⟨rfl, b2⟩
  replace hu := hu.below b2
  replace hT := hT.below b2
  replace hbx := hbx.below b2
  replace b1 := below_then b1 b2
  clear b2 hv
  obtain ⟨x0, x1, x2⟩ := id hbx
  obtain ⟨a, len, cap, rfl, hlen, hmx, hsh, _⟩ := id hT
  cases h1 : netOk n
  · rw [wrongL_not h1]
    have E : Hid (effectL n c = ([], 2)) := by show _ = _; simp [effectL, effOk, h1]
    clear h1
    go_wp2
    go_ret2
    exact gives_of E.out (Ints.nil _) b1
  rw [wrongL_ok h1]
  go_wp2_with fail
  refine (cwithin_any _ c _ _ _ (by exact hu)).mono ?_
  rintro e w2 ⟨rfl, rfl⟩
  have eN : ((len : Nat) : Int) = ((n.trans.length : Nat) : Int) := by rw [hlen]
  cases h2 : withinL c (len : Int) 0
  · have E : Hid (effectL n c = ([], 2)) := by show _ = _; simp only [effectL, effOk, h1, ← eN, h2]; rfl
    clear h1 h2
    go_wp2
    go_ret2
    exact gives_of E.out (Ints.nil _) b1
  have hok : effOk n c = true := by simp only [effOk, h1, ← eN, h2]; rfl
  have HO := effOk_of hok
  have E : Hid (effectL n c = (effList n c n.places.toNat, 0)) := by show _ = _; rw [effectL, hok]; rfl
  have HO : Hid _ := HO
  clear h1 h2 hok eN
  obtain ⟨P, hP⟩ := Int.eq_ofNat_of_zero_le HO.out.places0
  have hP16 : P ≤ 16 := by have := HO.out.places1; omega
  have hl24 : len ≤ 24 := by have := HO.out.trans; omega
  have hcl : c.length = len := by have := HO.out.len; omega
  have E : Hid (effectL n c = (effList n c P, 0)) := by show _ = _; rw [E.out, hP]; rfl
  have HPr : Hid (n.places = (P : Int)) := hP
  rw [hP] at hbx x1 ⊢
  clear hP
  go_wp2_with fail
  go_loopg [6, 24] P (fun g o i wr => ∃ q : Nat, q + g = P ∧ i = .int .i64 q ∧ Own w2.heap.size w2 wr o (effList n c q))
  case atStart => exact ⟨0, by omega, rfl, Own.nil _⟩
  case round =>
    obtain ⟨q, hqg, rfl, hG⟩ := hrel
    obtain ⟨G, hGk⟩ : ∃ G, G = gk := ⟨_, rfl⟩
    obtain ⟨W, hW⟩ : ∃ W, W = wr := ⟨_, rfl⟩
    subst hGk hW
    by_cases hqn : q < P
    · obtain ⟨y0, y1, y2⟩ := hbx.below hG.2.1
      have hT2 := hT.below hG.2.1
      have hu2 := hu.below hG.2.1
      clear x0 x1 x2
      go_wp2_with fail
      clear y0 y1 y2
      go_loopg [8, 30] len (fun g o i ws => ∃ k : Nat, k + g = len ∧ i = .int .i64 k ∧ o = .int .i64 (effTo n c q k) ∧ Below W.heap.size W ws)
      case atStart => exact ⟨0, by omega, rfl, rfl, Below.refl _ _⟩
      case round =>
        obtain ⟨k, hkg, rfl, rfl, hb⟩ := hrel
        by_cases hkn : k < len
        · obtain ⟨b, off, c1, c2, rfl, hblt, h0, h1, h2, i1, i2⟩ := (hT2.below hb).at hkn
          obtain ⟨ac, lc, cc, rfl, hlc, _, _, hrc⟩ := hu2.below hb
          obtain ⟨a1, l1, p1, rfl, hl1, _, _, hr1⟩ := i1
          obtain ⟨a2, l2, p2, rfl, hl2, _, _, hr2⟩ := i2
          have hP1 : l1 = P := by have := HO.out.pre k (by omega); have := HPr.out; omega
          have hP2 : l2 = P := by have := HO.out.post k (by omega); have := HPr.out; omega
          subst hP1
          obtain rfl : l2 = l1 := hP2
          obtain rfl : lc = len := by omega
          obtain ⟨bc, oc, rfl, hbc, hcc⟩ := hrc k (by omega)
          obtain ⟨b1', o1, rfl, hb1, hc1⟩ := hr1 q (by omega)
          obtain ⟨b2', o2, rfl, hb2, hc2⟩ := hr2 q (by omega)
          obtain ⟨⟨m1, m2⟩, m3, m4⟩ := HO.out.prods k q
          obtain ⟨e1, e2⟩ := HO.out.bound q k
          have Hs : Hid _ := effTo_succ n c q k
          have hbn := below_new wr (.cells #[.int .i64 (tranAt n.trans k).label, .slice (some ⟨b1', o1, none⟩) l2 p1, .slice (some ⟨b2', o2, none⟩) l2 p2] 44)
          have hbx3 := box3_new wr (.int .i64 (tranAt n.trans k).label) (.slice (some ⟨b1', o1, none⟩) l2 p1) (.slice (some ⟨b2', o2, none⟩) l2 p2) 44
          have hcc' := (hbn.cell (p := ⟨bc, oc + k, none⟩) hbc).trans hcc
          have hc1' := (hbn.cell (p := ⟨b1', o1 + q, none⟩) hb1).trans hc1
          have hc2' := (hbn.cell (p := ⟨b2', o2 + q, none⟩) hb2).trans hc2
          generalize tranAt n.trans k = t at *
          obtain ⟨z0, z1, z2, z3⟩ := hbx3
          generalize effTo n c q k = d at *
          clear hrc hr1 hr2
          obtain ⟨wt, Hwt⟩ : ∃ wt, Hid (wr.alloc (.cells #[.int .i64 t.label, .slice (some ⟨b1', o1, none⟩) l2 p1, .slice (some ⟨b2', o2, none⟩) l2 p2] 44) = wt) := ⟨_, rfl⟩
          rw [Hwt.out] at hbn z0 z1 z2 z3 hcc' hc1' hc2'
          go_upto_region 11 with fail
          rw [Hwt.out]
          clear Hwt h0 h1 h2 hcc hc1 hc2
          go_wp2_with fail
          go_quiet (fail)
          have R := below_then hb (below_then hbn (below_drewN (Below.refl wt.heap.size wt) nq))
          clear hbn hb z0 z1 z2 z3 hcc' hc1' hc2'
          go_wp2
          go_roundg (gk - 1)
          case measure => omega
          case rel => exact ⟨k + 1, by omega, by go_num, by rw [Hs.out], R⟩
        · obtain rfl : k = len := by omega
          have hlq := effList_length n c q
          have Hls : Hid (effList n c (q + 1) = effList n c q ++ [effTo n c q k]) := by show _ = _; rw [effList_succ, hlen]
          have hG2 := hG.trans hb
          generalize effTo n c q k = d at *
          clear hb
          go_wp2_with (at_builtin; refine wp_append_int rfl _ _ rfl w2.heap.size w2 _ _ _ d hG2 rfl rfl (by omega) ?_; intro v' w3 hG3)
          have R : Own w2.heap.size w2 w3 v' (effList n c (q + 1)) := by rw [Hls.out]; exact hG3
          clear hG2 hG3
          go_wp2
          go_roundg (G - 1)
          case measure => omega
          case rel => exact ⟨q + 1, by omega, by go_num, R⟩
    · obtain rfl : q = P := by omega
      have hlq := effList_length n c q
      have R := hG.ints (by omega)
      have R2 := below_then b1 hG.2.1
      clear hG
      go_wp2
      go_ret2
      exact gives_of E.out R R2

end Go.Proofs.Ytdaigbamgplboaa
