/- The document's own answers for cases: one thing behind the other. -/
import Derived.Test.YtffaamljogbmlaaGr18
import Derived.Test.YtffaamljogbmlaaCaseRef3
namespace Go.Proofs.Ytffaamljogbmlaa
open Go.RowKit
set_option linter.unusedVariables false
set_option linter.unusedSimpArgs false
set_option maxRecDepth 4000

/-- append of one errno: what else stands, and where the row then lies. -/
theorem wp_append_err {ops : Array Oper} {rest : List Oper} {o : Oper} {a : Act} {Q : Exit → Act → World → Prop} (hgd : o.guard = none) (s x : Operand)
    (ho : o.op = .call { callee := .builtin .append, args := #[s, x], argTypes := #[41, 41] }) (B : Nat) (wr : World) (v : Value) (zs : List Int) (z : Int) (hown : wr.ownsRow B 30 1 v zs.length (zs.map (Value.int .i64))) (hB : B ≤ wr.heap.size)
    (hs : a.eval s = v) (hx : a.eval x = .slice (some ⟨wr.heap.size, 0, none⟩) 1 1) (hl : zs.length + 1 ≤ 17592186044416)
    (h : ∀ v' w', w'.ownsRow B 30 1 v' (zs ++ [z]).length ((zs ++ [z]).map (Value.int .i64)) → wr.heap.size ≤ w'.heap.size → (∀ k, k < wr.heap.size → v.ownBlock ≠ some k → w'.heap[k]? = wr.heap[k]?) → (∀ w0, Below B w0 wr → Below B w0 w') →
      (v'.ownBlock = v.ownBlock ∨ v'.ownBlock = some (wr.heap.size + 1)) → wpList Try.prog ops Q rest (a.put o.dst v') w') : wpList Try.prog ops Q (o :: rest) a (wr.alloc (.cells #[.int .i64 z] 30)) := by
  obtain ⟨i0, hi, hz0, hz1, hz2⟩ := info_parts info_errno
  have hwt : Region.wanted o (yielded ops a.tmps) = true := by simp [Region.wanted, hgd]
  have hn := below_new wr (.cells #[.int .i64 z] 30)
  refine wpList_step fun K hK => ?_
  refine wp_append_at _ hwt s x 41 ho B 30 i0 (.int .i64 0) 1 8 Try.underlying41 hi hz0 hz1 hz2 rfl (by decide) v zs.length _ hs (hown.alloc _) ⟨wr.heap.size, 0, none⟩ 1 1 [.int .i64 z] hx rfl ?_ ?_ ?_ ?_ ?_ ?_
  · intro j u hj
    match j, hj with
    | 0, hj => simp at hj; subst hj; simp [Addr.add]
  · intro u hu; simp at hu; subst hu; rfl
  · unfold maxLen; omega
  · omega
  · simp; omega
  · intro v' w' hown' hg hat
    refine hK _ _ (h v' w' (by simpa using hown') (Nat.le_trans hn.size hg.size) (fun k hk hne => (hg.block k (Nat.lt_of_lt_of_le hk hn.size) (fun q => hne q.symm)).trans (hn.block k hk)) (fun w0 hb => (hb.alloc hB _).grown hg (by simp; omega) (fun k hk => (hown.lt k hk).1)) (by simpa using hat))
theorem errs_ints {B : Nat} {wr : World} {v : Value} {zs : List Int} (hown : wr.ownsRow B 30 1 v zs.length (zs.map (Value.int .i64))) (hl : zs.length ≤ 17592186044416) : Ints wr v zs := by
  have hown0 := hown
  obtain ⟨_, hcase⟩ := hown
  rcases hcase with ⟨rfl, h0⟩ | ⟨g, cap', cur, rfl, hg, hh, hn, hcap, hsz, htake⟩
  · exact ⟨none, zs.length, 0, by rw [h0], rfl, hl, ⟨by omega, by omega, fun _ => rfl⟩, fun j hj => absurd hj (by omega)⟩
  · refine ⟨_, _, _, rfl, rfl, hl, ⟨hn, by unfold maxLen at hcap; omega, fun h => by cases h⟩, fun j hj => ⟨g, 0, rfl, (Array.getElem?_eq_some_iff.1 hh).1, ?_⟩⟩
    rw [Nat.zero_add, hown0.cellAt j (by omega)]
    simp [nth, List.getD, List.getElem?_eq_getElem hj]
/-- A block of another kind is not the row's. -/
theorem err_block {wr : World} {B k : Nat} {v : Value} {xs : List Value} (h : wr.ownsRow B 30 1 v k xs) {R : Nat} {cs : Array Value} {t : TypeId} {fr : Nat × Nat} (hR : wr.heap[R]? = some (.cells cs t fr)) (ht : t ≠ 30) : v.ownBlock ≠ some R := by
  intro e
  rcases h.2 with ⟨rfl, _⟩ | ⟨g, cap, cur, rfl, hb, hg, _⟩
  · simp [Value.ownBlock] at e
  · obtain rfl : g = R := by simpa [Value.ownBlock] using e
    rw [hg] at hR
    injection hR with hR
    injection hR with _ hR _
    exact ht hR.symm
theorem Ints.keep {w w' : World} {v ov : Value} {xs : List Int} (h : Ints w v xs) (hs : w.heap.size ≤ w'.heap.size) (hk : ∀ k, k < w.heap.size → ov.ownBlock ≠ some k → w'.heap[k]? = w.heap[k]?) (hf : ∀ g, ov.ownBlock = some g → SlOff g v) : Ints w' v xs := by
  obtain ⟨a, len, cap, rfl, hl, hm, hs', hr⟩ := h
  refine ⟨a, len, cap, rfl, hl, hm, hs', fun j hj => ?_⟩
  obtain ⟨b, off, ha, hlt, hc⟩ := hr j hj
  exact ⟨b, off, ha, Nat.lt_of_lt_of_le hlt hs, by rw [cell_kept (p := ⟨b, off + j, none⟩) (hk b hlt (fun e => hf b e b off len cap (by rw [ha]) (by omega) rfl))]; exact hc⟩
theorem ResC.keep {w w' : World} {R : Nat} {a a' : Option Addr} {l c l' c' : Nat} {ov : Value} (h : ResC w R a l c a' l' c') (hk : ∀ k, k < w.heap.size → ov.ownBlock ≠ some k → w'.heap[k]? = w.heap[k]?) (hn : ov.ownBlock ≠ some R) : ResC w' R a l c a' l' c' :=
  ⟨(hk R (Array.getElem?_eq_some_iff.1 h.cells).1 hn).trans h.cells⟩
theorem ResN.keep {w w' : World} {R : Nat} {a b : Value} {ov : Value} (h : ResN w R a b) (hk : ∀ k, k < w.heap.size → ov.ownBlock ≠ some k → w'.heap[k]? = w.heap[k]?) (hn : ov.ownBlock ≠ some R) : ResN w' R a b :=
  ⟨(hk R (Array.getElem?_eq_some_iff.1 h.cells).1 hn).trans h.cells⟩
theorem ResN.set {w : World} {R : Nat} {a b : Value} (h : ResN w R a b) {p : Addr} (hp : p.block ≠ R) (u : Value) : ResN (w.setCell p u) R a b :=
  ⟨(Below.heap_setCell w p u R (fun e => hp e.symm)).trans h.cells⟩
theorem ResN.box {w : World} {R : Nat} {a b : Value} (h : ResN w R a b) : Box2 w R a b := by
  obtain ⟨h1, h2, _, _, h5⟩ := h.facts
  exact ⟨h5, h1, h2⟩
theorem boxesNRh (w : World) (x y : Value) : ∃ w0, Hid ((w.alloc (.cells #[x, y] 24)).alloc (.cells #[.slice none 0 0, .slice none 0 0] 27) = w0) ∧ ResN w0 w.heap.size x y ∧ ResC w0 (w.heap.size + 1) none 0 0 none 0 0 ∧ Below w.heap.size w w0 := by
  have b1 := below_new w (.cells #[x, y] 24)
  have h1 : ResN (w.alloc (.cells #[x, y] 24)) w.heap.size x y := ⟨heap_alloc_new w _⟩
  obtain ⟨w1, H1⟩ : ∃ w1, w.alloc (.cells #[x, y] 24) = w1 := ⟨_, rfl⟩
  have s1 : w1.heap.size = w.heap.size + 1 := by rw [← H1]; simp
  rw [H1] at b1 h1 ⊢
  have b2 := below_new w1 (.cells #[.slice none 0 0, .slice none 0 0] 27)
  have h2 := resC_new w1
  rw [s1] at h2
  exact ⟨_, rfl, h1.below b2, h2, below_then b1 b2⟩
theorem take_map_snoc {xs : List Int} {k : Nat} (h : k < xs.length) : xs.take (k + 1) = xs.take k ++ [nth xs k] := by
  rw [List.take_add_one, List.getElem?_eq_getElem h]
  simp [nth, List.getD_eq_getElem?_getD, List.getElem?_eq_getElem h]
/-- Where it lies stays as it is when a slice's cell is written. -/
theorem own_putS {wr : World} {B k : Nat} {v : Value} {xs : List Value} (h : wr.ownsRow B 30 1 v k xs) {R : Nat} (hn : v.ownBlock ≠ some R) (j : Nat) (u : Value) : (wr.setCell ⟨R, j, none⟩ u).ownsRow B 30 1 v k xs := by
  refine ⟨h.1, ?_⟩
  rcases h.2 with hh | ⟨g, cap, cur, rfl, hb, hg, rest⟩
  · exact .inl hh
  · refine .inr ⟨g, cap, cur, rfl, hb, ?_, rest⟩
    rw [Below.heap_setCell wr ⟨R, j, none⟩ u g (fun e => hn (by show some g = some R; rw [e]))]
    exact hg

set_option maxHeartbeats 4000000 in
theorem pplay_any (v u : Value) (n : NetL) (i : Int) (os : List (Int × Int)) (w : World) (hv : Net w v n) (hu : OpsV w u os) (hsm : SmallNet n) : Calls Try.prog 19 #[v, .int .i64 i, u] w fun e w' => GivesP w (playAll n i os) e w' := by
  obtain ⟨tv, rfl, hT⟩ := hv
  obtain ⟨a, cap, rfl, hmx, hsh⟩ := hu.slice
  obtain ⟨w0, Hw0, hbn, hR, c0⟩ := boxesNRh w (.int .i64 n.places) tv
  have hv : Net w0 (.agg #[.int .i64 n.places, tv]) n := ⟨_, rfl, hT.below c0⟩
  obtain ⟨x0, x1, x2⟩ := hbn.box
  go_enter Try.func19, Try.ntmps19
  go_upto_region 1 with fail
  rw [Hw0.out]
  clear Hw0
  go_wp2_with fail
  refine (pbegin_own _ n i w0 (by exact hv) hsm).mono ?_
  rintro e w1 ⟨r, rfl, hC, hCF, b⟩
  obtain ⟨ra, rl, rc, ra2, rl2, rc2, rfl, hI, hI2⟩ := hC
  replace c0 := below_then c0 b
  replace hR := hR.below b
  replace hbn := hbn.below b
  replace hCF := hCF.mono (Nat.le_refl _)
  clear x0 x1 x2 b hv
  have bc := below_new w1 (.cells #[.slice ra rl rc, .slice ra2 rl2 rc2] 27)
  have hc := caseBox_new w1 ra ra2 rl rc rl2 rc2
  obtain ⟨Bc, HBc⟩ : ∃ B, Hid (w1.heap.size = B) := ⟨_, rfl⟩
  have hBc : w.heap.size + 1 < Bc := by have := (hR.facts).2.2.2.2; rw [HBc.out] at this; exact this
  rw [HBc.out] at hc
  obtain ⟨w2, Hw2⟩ : ∃ w2, Hid (w1.alloc (.cells #[.slice ra rl rc, .slice ra2 rl2 rc2] 27) = w2) := ⟨_, rfl⟩
  rw [Hw2.out] at bc hc
  go_upto_region 2 with fail
  rw [Hw2.out, HBc.out]
  clear Hw2 HBc
  replace c0 := below_then c0 bc
  replace hR := hR.below bc
  replace hbn := hbn.below bc
  replace hI := hI.below bc
  replace hI2 := hI2.below bc
  clear bc
  obtain ⟨d, Hd⟩ : ∃ d, Hid ((beginC n i).2 = d) := ⟨_, rfl⟩
  rw [Hd.out]
  by_cases hd : d = 0
  · subst hd
    obtain ⟨cs, Hcs⟩ : ∃ cs, Hid ((beginC n i).1 = cs) := ⟨_, rfl⟩
    have Hall : Hid (playAll n i os = ((playC n cs os).1, (playC n cs os).2, 0)) := by show _ = _; unfold playAll; rw [if_pos Hd.out, Hcs.out]
    have Hri : Hid (rightC n cs = true) := by rw [← Hcs.out]; exact (begin_right Hd.out).1
    rw [Hcs.out] at hI hI2
    obtain ⟨len, Hlen⟩ : ∃ l, Hid (os.length = l) := ⟨_, rfl⟩
    rw [Hlen.out] at hmx hsh hu ⊢
    clear Hcs Hd hCF
    have hown : w2.ownsRow w.heap.size 30 1 (.slice none 0 0) (List.take 0 (playC n cs os).2).length ((List.take 0 (playC n cs os).2).map (Value.int .i64)) := by simpa using World.ownsRow_nil w2 w.heap.size 30 1
    go_wp2_with fail
    go_loopg [11, 28] len (fun gk ovs i' wr => ∃ (k : Nat) (ov : Value) (xa ya : Option Addr) (xl xc yl yc : Nat), k + gk = len ∧ i' = .int .i64 (k : Int) ∧ ov = ovs ∧ Below w.heap.size w wr ∧ ResN wr w.heap.size (.int .i64 n.places) tv ∧ ResC wr (w.heap.size + 1) none 0 0 none 0 0 ∧ ResC wr Bc xa xl xc ya yl yc ∧
      Ints wr (.slice xa xl xc) (caseAt n cs os k).mark ∧ Ints wr (.slice ya yl yc) (caseAt n cs os k).busy ∧ (∀ g, ov.ownBlock = some g → SlOff g (.slice xa xl xc)) ∧ (∀ g, ov.ownBlock = some g → SlOff g (.slice ya yl yc)) ∧ wr.ownsRow w.heap.size 30 1 ov ((playC n cs os).2.take k).length (((playC n cs os).2.take k).map (Value.int .i64)))
    case atStart => exact ⟨0, _, _, _, _, _, _, _, by omega, rfl, rfl, c0, hbn, hR, hc, hI, hI2, (fun g e => by simp [Value.ownBlock] at e), (fun g e => by simp [Value.ownBlock] at e), hown⟩
    case round =>
      clear c0 hbn hR hc hI hI2 hown
      obtain ⟨k, ov, xa, ya, xl, xc, yl, yc, hkg, rfl, rfl, c0, hbn, hR, hc, hI, hI2, hoM, hoB, hX⟩ := hrel
      have Hpl : Hid ((playC n cs os).2.length = len) := by show _ = _; rw [play_length, Hlen.out]
      by_cases hk : k < len
      · obtain ⟨ob, of, rfl, hol, o1, o2⟩ := (hu.below c0).at hk
        obtain ⟨kd, Hkd⟩ : ∃ z, Hid ((opAt os k).1 = z) := ⟨_, rfl⟩
        obtain ⟨tr, Htr⟩ : ∃ z, Hid ((opAt os k).2 = z) := ⟨_, rfl⟩
        rw [Hkd.out] at o1
        rw [Htr.out] at o2
        have Hr : Hid (rightC n (caseAt n cs os k) = true) := play_right _ Hri.out
        have Hnext : Hid (caseAt n cs os (k + 1) = if (doC n (caseAt n cs os k) kd tr).2 = 0 then (doC n (caseAt n cs os k) kd tr).1 else caseAt n cs os k) := by
          show _ = _
          rw [caseAt_succ n cs (by rw [Hlen.out]; exact hk)]
          unfold stepC
          rw [Hkd.out, Htr.out]
        have Herr : Hid (nth (playC n cs os).2 k = (doC n (caseAt n cs os k) kd tr).2) := by
          show _ = _
          rw [err_at n cs (by rw [Hlen.out]; exact hk), Hkd.out, Htr.out]
        obtain ⟨ck, Hck⟩ : ∃ c, Hid (caseAt n cs os k = c) := ⟨_, rfl⟩
        rw [Hck.out] at hI hI2 Hr Hnext Herr
        have bo := below_new wr (.cells #[.int .i64 kd, .int .i64 tr] 29)
        have hbo := box2_new wr (.int .i64 kd) (.int .i64 tr) 29
        obtain ⟨Bo, HBo⟩ : ∃ B, Hid (wr.heap.size = B) := ⟨_, rfl⟩
        rw [HBo.out] at hbo
        obtain ⟨wo, Hwo⟩ : ∃ v, Hid (wr.alloc (.cells #[.int .i64 kd, .int .i64 tr] 29) = v) := ⟨_, rfl⟩
        rw [Hwo.out] at bo hbo
        go_upto_region 8 with fail
        rw [Hwo.out, HBo.out]
        clear Hwo o1 o2 hol
        replace c0 := below_then c0 bo
        replace hR := hR.below bo
        replace hbn := hbn.below bo
        replace hc := hc.below bo
        replace hI := hI.below bo
        replace hI2 := hI2.below bo
        replace hX := ((ownsRow_on hX).below bo).now
        clear bo HBo
        have hv : Net wo (.agg #[.int .i64 n.places, tv]) n := ⟨_, rfl, hT.below c0⟩
        obtain ⟨x0, x1, x2⟩ := hbn.box
        obtain ⟨y1, y2, _, _, _⟩ := hc.facts
        obtain ⟨o0, o1, o2⟩ := id hbo
        go_wp2_with fail
        refine (pdo_own _ _ n ck kd tr wo (by exact hv) (by exact ⟨_, _, _, _, _, _, rfl, hI, hI2⟩) hsm).mono ?_
        rintro e w4 ⟨r, rfl, hC, hCF, b⟩
        obtain ⟨za, zl, zc, za2, zl2, zc2, rfl, hZ, hZ2⟩ := hC
        obtain ⟨hf1, hf2⟩ := hCF.parts
        have ho1 : ∀ g, ov.ownBlock = some g → SlOff g (.slice za zl zc) := fun g e => hf1.off (hX.lt g e).2
        have ho2 : ∀ g, ov.ownBlock = some g → SlOff g (.slice za2 zl2 zc2) := fun g e => hf2.off (hX.lt g e).2
        replace c0 := below_then c0 b
        replace hR := hR.below b
        replace hbn := hbn.below b
        replace hc := hc.below b
        replace hI := hI.below b
        replace hI2 := hI2.below b
        replace hX := ((ownsRow_on hX).below b).now
        clear b x0 x1 x2 y1 y2 o0 o1 o2 hv hCF hf1 hf2 hbo
        have bn := below_new w4 (.cells #[.slice za zl zc, .slice za2 zl2 zc2] 27)
        have hbx := caseBox_new w4 za za2 zl zc zl2 zc2
        obtain ⟨Bx, HBx⟩ : ∃ B, Hid (w4.heap.size = B) := ⟨_, rfl⟩
        rw [HBx.out] at hbx
        obtain ⟨w5, Hw5⟩ : ∃ v, Hid (w4.alloc (.cells #[.slice za zl zc, .slice za2 zl2 zc2] 27) = v) := ⟨_, rfl⟩
        rw [Hw5.out] at bn hbx
        go_upto_region 9 with fail
        rw [Hw5.out, HBx.out]
        clear Hw5 HBx
        replace c0 := below_then c0 bn
        replace hR := hR.below bn
        replace hbn := hbn.below bn
        replace hc := hc.below bn
        replace hI := hI.below bn
        replace hI2 := hI2.below bn
        replace hZ := hZ.below bn
        replace hZ2 := hZ2.below bn
        replace hX := ((ownsRow_on hX).below bn).now
        clear bn
        obtain ⟨d, Hd⟩ : ∃ d, Hid ((doC n ck kd tr).2 = d) := ⟨_, rfl⟩
        rw [Hd.out]
        rw [Hd.out] at Hnext Herr
        have Hsn : Hid ((playC n cs os).2.take (k + 1) = (playC n cs os).2.take k ++ [d]) := by show _ = _; rw [take_map_snoc (by rw [Hpl.out]; exact hk), Herr.out]
        have Htl : Hid (((playC n cs os).2.take k).length + 1 ≤ 17592186044416) := by show _ ≤ _; rw [List.length_take]; omega
        by_cases hd : d = 0
        · subst hd
          rw [if_pos rfl] at Hnext
          obtain ⟨nx, Hnx⟩ : ∃ c, Hid ((doC n ck kd tr).1 = c) := ⟨_, rfl⟩
          rw [Hnx.out] at hZ hZ2 Hnext
          obtain ⟨q1, q2, q3, q4, q5⟩ := hc.facts
          obtain ⟨r1, r2, _, _, _⟩ := hbx.facts
          obtain ⟨W1, HW1⟩ : ∃ W, Hid ((w5.setCell ⟨Bc, 0, none⟩ (.slice za zl zc)).setCell ⟨Bc, 1, none⟩ (.slice za2 zl2 zc2) = W) := ⟨_, rfl⟩
          have e1 : (w5.setCell ⟨Bc, 0, none⟩ (.slice za zl zc)).cell? ⟨Bc, 1, none⟩ = some (.slice ya yl yc) := by rw [World.cell?_setCell_other _ _ _ _ (by simp)]; exact q2
          have hZ' := (hZ.putS q1 (.slice za zl zc)).putS e1 (.slice za2 zl2 zc2)
          have hZ2' := (hZ2.putS q1 (.slice za zl zc)).putS e1 (.slice za2 zl2 zc2)
          have hnB := err_block hX hc.cells (by decide)
          have hX' := own_putS (own_putS hX hnB 0 (.slice za zl zc)) hnB 1 (.slice za2 zl2 zc2)
          have hR' := (hR.set (p := ⟨Bc, 0, none⟩) (by show Bc ≠ _; omega) (.slice za zl zc)).set (p := ⟨Bc, 1, none⟩) (by show Bc ≠ _; omega) (.slice za2 zl2 zc2)
          have hbn' := (hbn.set (p := ⟨Bc, 0, none⟩) (by show Bc ≠ _; omega) (.slice za zl zc)).set (p := ⟨Bc, 1, none⟩) (by show Bc ≠ _; omega) (.slice za2 zl2 zc2)
          have c0' := (c0.setCell (p := ⟨Bc, 0, none⟩) (by show _ ≤ Bc; omega) (.slice za zl zc)).setCell (p := ⟨Bc, 1, none⟩) (by show _ ≤ Bc; omega) (.slice za2 zl2 zc2)
          have hc' := hc.put2 HW1.out
          rw [HW1.out] at hZ' hZ2' hX' hR' hbn' c0'
          clear hI hI2 hZ hZ2 hX hR hbn c0 hc e1 hoM hoB
          go_upto_region 11 with fail
          rw [HW1.out]
          clear HW1 q1 q2 q3 q4 q5 r1 r2 hbx
          have hn1 := err_block hX' hbn'.cells (by decide)
          have hn2 := err_block hX' hR'.cells (by decide)
          have hn3 := err_block hX' hc'.cells (by decide)
          go_wp2_with (at_builtin; refine wp_append_err rfl _ _ rfl w.heap.size W1 ov _ 0 hX' c0'.size rfl rfl Htl.out ?_; intro v' w6 hX2 hs6 hk6 hB6 hat6)
          rw [← Hsn.out] at hX2
          have c2 := hB6 _ c0'
          have hbn2 := hbn'.keep hk6 hn1
          have hR2 := hR'.keep hk6 hn2
          have hc2 := hc'.keep hk6 hn3
          have hM2 := hZ'.keep hs6 hk6 ho1
          have hB2 := hZ2'.keep hs6 hk6 ho2
          have hp1 : ∀ g, v'.ownBlock = some g → SlOff g (.slice za zl zc) := fun g e => by
            rcases hat6 with q | q
            · exact ho1 g (by rw [← q]; exact e)
            · rw [q] at e; injection e with e; exact hZ'.offHigh (by omega)
          have hp2 : ∀ g, v'.ownBlock = some g → SlOff g (.slice za2 zl2 zc2) := fun g e => by
            rcases hat6 with q | q
            · exact ho2 g (by rw [← q]; exact e)
            · rw [q] at e; injection e with e; exact hZ2'.offHigh (by omega)
          rw [show nx = caseAt n cs os (k + 1) from Hnext.out.symm] at hM2 hB2
          clear hX' hR' hc' hbn' c0' hZ' hZ2' Hnext hn1 hn2 hn3 ho1 ho2
          go_wp2
          go_roundg (gk - 1)
          case measure => omega
          case rel => exact ⟨k + 1, _, _, _, _, _, _, _, by omega, by go_num, rfl, c2, hbn2, hR2, hc2, hM2, hB2, hp1, hp2, hX2⟩
        · have hd' : (d == 0) = false := by simpa using hd
          rw [if_neg hd] at Hnext
          have hn1 := err_block hX hbn.cells (by decide)
          have hn2 := err_block hX hR.cells (by decide)
          have hn3 := err_block hX hc.cells (by decide)
          go_wp2_with (at_builtin; refine wp_append_err rfl _ _ rfl w.heap.size w5 ov _ d hX c0.size rfl rfl Htl.out ?_; intro v' w6 hX2 hs6 hk6 hB6 hat6)
          rw [← Hsn.out] at hX2
          have c2 := hB6 _ c0
          have hbn2 := hbn.keep hk6 hn1
          have hR2 := hR.keep hk6 hn2
          have hc2 := hc.keep hk6 hn3
          have hM2 := hI.keep hs6 hk6 hoM
          have hB2 := hI2.keep hs6 hk6 hoB
          have hp1 : ∀ g, v'.ownBlock = some g → SlOff g (.slice xa xl xc) := fun g e => by
            rcases hat6 with q | q
            · exact hoM g (by rw [← q]; exact e)
            · rw [q] at e; injection e with e; exact hI.offHigh (by omega)
          have hp2 : ∀ g, v'.ownBlock = some g → SlOff g (.slice ya yl yc) := fun g e => by
            rcases hat6 with q | q
            · exact hoB g (by rw [← q]; exact e)
            · rw [q] at e; injection e with e; exact hI2.offHigh (by omega)
          rw [show ck = caseAt n cs os (k + 1) from Hnext.out.symm] at hM2 hB2
          clear hX hR hc hbn c0 hI hI2 Hnext hZ hZ2 hbx hn1 hn2 hn3 hoM hoB
          go_wp2
          go_roundg (gk - 1)
          case measure => omega
          case rel => exact ⟨k + 1, _, _, _, _, _, _, _, by omega, by go_num, rfl, c2, hbn2, hR2, hc2, hM2, hB2, hp1, hp2, hX2⟩
      · obtain rfl : k = len := by omega
        have e0 : Hid (caseAt n cs os k = (playC n cs os).1) := caseAt_all n cs (by rw [Hlen.out]; exact Nat.le_refl _)
        rw [e0.out] at hI hI2
        rw [List.take_of_length_le (by rw [Hpl.out]; exact Nat.le_refl _)] at hX
        obtain ⟨la, ll, lc, rfl⟩ := ownsRow_slice hX
        obtain ⟨y1, y2, _, _, _⟩ := hc.facts
        obtain ⟨q1, q2, q3, q4, q5⟩ := hR.facts
        obtain ⟨W2, HW2⟩ : ∃ W2, Hid ((wr.setCell ⟨w.heap.size + 1, 0, none⟩ (.slice xa xl xc)).setCell ⟨w.heap.size + 1, 1, none⟩ (.slice ya yl yc) = W2) := ⟨_, rfl⟩
        obtain ⟨z1, z2, z3, z4⟩ := hR.fill c0 (by omega) HW2.out hI hI2
        have hnR := err_block hX hR.cells (by decide)
        have hX' := own_putS (own_putS hX hnR 0 (.slice xa xl xc)) hnR 1 (.slice ya yl yc)
        rw [HW2.out] at hX'
        have hL := errs_ints hX' (by rw [Hpl.out]; omega)
        clear hI hI2 hX hR hc hbn c0 hX'
        go_wp2
        rw [HW2.out]
        exact bodyPost_ret (v := .tuple #[.agg #[.slice xa xl xc, .slice ya yl yc], .slice la ll lc, .int .i64 0]) (results_case3 rfl rfl rfl rfl z1 z2) rfl ⟨_, _, by rw [Hall.out], by rw [Hall.out]; exact z3, by rw [Hall.out]; exact hL, z4⟩
  · have E : Hid (playAll n i os = (noCase, [], d)) := by show _ = _; unfold playAll; rw [if_neg (by rw [Hd.out]; exact hd), Hd.out]
    have hd' : (d == 0) = false := by simpa using hd
    have hd2 : (d != 0) = true := by simpa using hd
    obtain ⟨q1, q2, q3, q4, q5⟩ := hR.facts
    have hb0 := begin_err (n := n) (i := i) (by rw [Hd.out]; exact hd)
    rw [hb0] at hI hI2
    obtain ⟨y1, y2, _, _, _⟩ := hc.facts
    obtain ⟨W2, HW2⟩ : ∃ W2, Hid ((w2.setCell ⟨w.heap.size + 1, 0, none⟩ (.slice ra rl rc)).setCell ⟨w.heap.size + 1, 1, none⟩ (.slice ra2 rl2 rc2) = W2) := ⟨_, rfl⟩
    obtain ⟨z1, z2, z3, z4⟩ := hR.fill c0 (by omega) HW2.out hI hI2
    clear hI hI2 hc hbn Hd hb0
    go_wp2
    rw [HW2.out]
    exact bodyPost_ret (v := .tuple #[.agg #[.slice ra rl rc, .slice ra2 rl2 rc2], .slice none 0 0, .int .i64 d]) (results_case3 rfl rfl rfl rfl z1 z2) rfl ⟨_, _, by rw [E.out], by rw [E.out]; exact z3, by rw [E.out]; exact Ints.nil _, z4⟩


end Go.Proofs.Ytffaamljogbmlaa
