/- AlignNone: without a trace it costs the shortest word; one label more costs one more or less, at most. (Made by tools/gen_alignnone.py.) -/
import Derived.Test.YtakgppoeikcepaaAlive21
import Derived.Test.YtakgppoeikcepaaGr27
import Derived.Test.YtakgppoeikcepaaGr10
namespace Go.Proofs.Ytakgppoeikcepaa
open Go.RowKit
set_option linter.unusedVariables false
set_option linter.unusedSimpArgs false
set_option maxRecDepth 4000

/-! ### plainly -/
theorem costM_le : ∀ ms : List MoveL, costM ms ≤ ms.length
  | [] => Nat.le_refl _
  | m :: ms => by
    have h1 := costM_le ms
    have h2 := price_le m
    show priceM m + costM ms ≤ (m :: ms).length
    rw [List.length_cons]
    omega
theorem AlignAns.small {n : NetL} {i o : Int} {tr : List Int} {ms : List MoveL} {c d : Int} (h : AlignAns n i o tr ms c d) : ∃ k : Nat, c = k ∧ k ≤ ms.length := by
  obtain ⟨d0, _, h2, h3⟩ := h.ex
  by_cases hd : d0 = 0
  · rcases h3 hd with ⟨_, _, rfl, _⟩ | ⟨_, _, _, rfl, _⟩ | ⟨_, _, e, _, _, _, h, _⟩
    · exact ⟨0, rfl, Nat.zero_le _⟩
    · exact ⟨0, rfl, Nat.zero_le _⟩
    · exact ⟨costM ms, h.symm, costM_le ms⟩
  · obtain ⟨_, rfl, _⟩ := h2 hd
    exact ⟨0, rfl, Nat.zero_le _⟩
theorem TongErr.whole {n : NetL} {i o : Int} (h : TongErr n i o 0) : ShapeOk n i o ∧ ∃ s, graphL n (startL n.places i) 300 = (s, 0) ∧ Whole n (startL n.places i) s := by
  rcases h with ⟨h1, _⟩ | ⟨h1, h2⟩
  · exact absurd rfl h1
  · refine ⟨h1, (graphL n (startL n.places i) 300).1, Prod.ext rfl h2, graphL_whole (Prod.ext rfl h2)⟩
/-- Where it answers: the mark, the way, the cost. -/
theorem AlignAns.zero {n : NetL} {i o : Int} {tr : List Int} {ms : List MoveL} {c : Int} (h : AlignAns n i o tr ms c 0) : TongErr n i o 0 ∧ tr.length ≤ 60 ∧ ∃ s e, graphL n (startL n.places i) 300 = (s, 0) ∧ Whole n (startL n.places i) s ∧ e < s.marks.length ∧ markAt s.marks e = startL n.places o ∧
    Lay s.arcs (labT n) tr (0, 0) ms (e, tr.length) ∧ (costM ms : Int) = c ∧ Cheap s.arcs (labT n) tr (0, 0) (e, tr.length) (costM ms) := by
  obtain ⟨d0, h1, h2, h3⟩ := h.ex
  by_cases hd : d0 = 0
  · subst hd
    obtain ⟨_, s, hs, hw⟩ := h1.whole
    rcases h3 rfl with ⟨_, q, _⟩ | ⟨_, _, q, _⟩ | ⟨q0, _, e, q1, q2, q3, q4, q5⟩
    · omega
    · omega
    · rw [hs] at q1 q2 q3 q5
      exact ⟨h1, q0, s, e, hs, hw, q1, q2, q3, q4, q5⟩
  · exact absurd (h2 hd).1.symm hd
theorem none_more {n : NetL} {i o a : Int} {tr : List Int} {ms ns : List MoveL} {c d : Int} (h : AlignAns n i o tr ms c 0) (k : AlignAns n i o (tr ++ [a]) ns d 0) : c ≤ d + 1 ∧ d ≤ c + 1 := by
  obtain ⟨_, _, s, e, hs, hw, h1, h2, h3, h4, h5⟩ := h.zero
  obtain ⟨_, _, s', e', hs', _, k1, k2, k3, k4, k5⟩ := k.zero
  rw [hs] at hs'
  injection hs' with hs' _
  subst hs'
  obtain rfl := mark_inj hw.nodup h1 k1 (h2.trans k2.symm)
  obtain ⟨x, x1, x2⟩ := h3.longer (x := a)
  obtain ⟨y, y1, y2⟩ := k3.shorter
  have := k5.2 x x1
  have := h5.2 y y1
  omega
theorem word_end {n : NetL} {i o : Int} {s : SpaceL} {e : Nat} (hs : graphL n (startL n.places i) 300 = (s, 0)) (hw : Whole n (startL n.places i) s) (he : e < s.marks.length) (h2 : markAt s.marks e = startL n.places o) (w : List Int) : WordN n (startL n.places i) (startL n.places o) w ↔ Way s.arcs (labT n) 0 w e := by
  rw [hw.word]
  constructor
  · rintro ⟨e', h1, h3, h4⟩
    obtain rfl := mark_inj hw.nodup he h1 (h2.trans h3.symm)
    exact h4
  · intro h
    exact ⟨e, he, h2, h⟩
theorem none_least {n : NetL} {i o : Int} {ms : List MoveL} {c d k f : Int} (h : AlignAns n i o [] ms c d) (l : LeastAns n i o k f) : d = f ∧ (d = 0 → c = k) := by
  obtain ⟨d0, h1, h2, h3⟩ := h.ex
  obtain ⟨d1, l1, l2, l3⟩ := l.ex
  obtain rfl := h1.unique l1
  by_cases hd : d0 = 0
  · subst hd
    obtain ⟨_, s, hs, hw⟩ := h1.whole
    rcases h3 rfl with ⟨q, _⟩ | ⟨_, q, q1, _⟩ | ⟨_, q0, e, q1, q2, q3, q4, q5⟩
    · simp at q
    · rw [hs] at q
      rcases l3 rfl with ⟨r, _⟩ | ⟨r, ws, r1, _⟩
      · exact ⟨by omega, fun e => by omega⟩
      · exfalso
        obtain ⟨e, e1, e2, _⟩ := hw.word.1 r1
        exact q e e1 e2
    · rw [hs] at q1 q2 q3 q5
      have hword := word_end hs hw q1 q2
      rcases l3 rfl with ⟨_, _, r⟩ | ⟨r, ws, r1, r2, r3⟩
      · exfalso
        obtain ⟨w, _, hwy⟩ := q3.nil_way
        exact r w ((hword w).2 hwy)
      · refine ⟨by omega, fun _ => ?_⟩
        obtain ⟨w, e1, hwy⟩ := q3.nil_way
        have a1 := r3 w ((hword w).2 hwy)
        obtain ⟨kk, hk⟩ := (hword ws).1 r1
        obtain ⟨xs, x1, x2⟩ := Lay.way (tr := []) 0 hk (fun _ _ _ => trivial)
        have a2 := q5.2 xs x1
        omega
  · obtain ⟨rfl, rfl, _⟩ := h2 hd
    obtain ⟨rfl, rfl⟩ := l2 hd
    exact ⟨rfl, fun e => absurd e hd⟩

theorem elemI : ElemT 25 3 1 8 := ElemT.of (z := .int .i64 0) Try.underlying25 (by kernel_rfl) rfl (by omega)
theorem MovesV.len {w : World} {v : Value} {ms : List MoveL} (h : MovesV w v ms) : ms.length ≤ 1000000 := by
  obtain ⟨a, c, _, h, _⟩ := CellsV.slice h
  exact h

set_option maxHeartbeats 8000000 in
theorem alignNone_walk (v0 v3 : Value) (x0 : NetL) (x1 x2 : Int) (x3 : List Int) (x4 : Int) (W : World) (i0 : Net W v0 x0) (i3 : Ints W v3 x3) (hl : x3.length ≤ 17592186043904) :
    Calls Try.prog 5 #[v0, .int .i64 x1, .int .i64 x2, v3, .int .i64 x4] W fun e W' => e = .returned (.bool true) ∧ Below W.heap.size W W' := by
  obtain ⟨tv, rfl, hT⟩ := id i0
  obtain ⟨na, nl, nc, rfl, _⟩ := id hT
  obtain ⟨ta, tl, tc, rfl, htl, _, _⟩ := id i3
  have Htl : Hid (x3.length = tl) := htl
  clear htl hT
  have hbx := box2_new W (.int .i64 x0.places) (.slice na nl nc) 24
  have c := below_new W (.cells #[.int .i64 x0.places, .slice na nl nc] 24)
  obtain ⟨w0, H0⟩ : ∃ u, Hid (W.alloc (.cells #[.int .i64 x0.places, .slice na nl nc] 24) = u) := ⟨_, rfl⟩
  rw [H0.out] at hbx c
  obtain ⟨NB, HNB⟩ : ∃ z, Hid (W.heap.size = z) := ⟨_, rfl⟩
  have Hc : Hid (Below W.heap.size W w0) := c
  rw [HNB.out] at hbx
  clear c
  go_enter Try.func5, Try.ntmps5
  go_upto_region 1 with fail
  rw [H0.out, HNB.out]
  go_upto_region 3 with (go_at_call 8; refine (alive21_any _).mono ?_; rintro e w1 ⟨rfl, b⟩)
  have c1 := below_then Hc.out b
  have hbx1 := hbx.below b
  obtain ⟨_, y0, y1⟩ := id hbx1
  have hC := align_any (i := x1) (o := x2) (i0.below c1) (show Ints w1 (.slice none 0 0) [] from Ints.nil _)
  unfold alignGoes at hC
  clear b hbx
  go_upto_region 4 with (go_at_call 6; refine hC.mono ?_; rintro e w2 ⟨r1, ms1, ca, ea, rfl, hA1, hM1, b⟩; obtain ⟨ra1, rc1, rfl⟩ := hM1.slice)
  have c2 := below_then c1 b
  have hbx2 := hbx1.below b
  clear hC b hbx1 c1 y0 y1 hM1
  obtain ⟨_, y0, y1⟩ := id hbx2
  have hC := tongue_least _ x0 x1 x2 w2 (i0.below c2)
  go_upto_region 5 with (go_at_call 12; refine hC.mono ?_; rintro e w3 ⟨ka, fa, rfl, hL, b⟩)
  have c3 := below_then c2 b
  have hbx3 := hbx2.below b
  obtain ⟨Hef, Hck⟩ : Hid (ea = fa) ∧ Hid (ea = 0 → ca = ka) := none_least hA1 hL
  clear hC b hbx2 c2 y0 y1 hL hA1
  obtain ⟨_, y0, y1⟩ := id hbx3
  have hC := align_any (i := x1) (o := x2) (i0.below c3) (i3.below c3)
  unfold alignGoes at hC
  go_upto_region 6 with (go_at_call 6; refine hC.mono ?_; rintro e w4 ⟨r2, ms2, cx, ex, rfl, hA2, hM2, b⟩; obtain ⟨ra2, rc2, rfl⟩ := hM2.slice)
  have c4 := below_then c3 b
  have hbx4 := hbx3.below b
  have Hm2 : Hid (ms2.length ≤ 1000000) := hM2.len
  clear hC b hbx3 c3 y0 y1 hM2
  go_cut [20, 21] (fun x20 x21 wc => ∃ ms3 cy ey, x20 = .int .i64 cy ∧ x21 = .int .i64 ey ∧ AlignAns x0 x1 x2 (x3 ++ [x4]) ms3 cy ey ∧ ms3.length ≤ 1000000 ∧ Below w4.heap.size w4 wc)
  case first =>
    have HS : Hid (∀ w', Below w4.heap.size w4 w' →  w'.cell? ⟨NB, 0, none⟩ = some (.int .i64 x0.places) ∧ w'.cell? ⟨NB, 1, none⟩ = some (.slice na nl nc)) := fun w' hb => by
      obtain ⟨_, q0, q1⟩ := hbx4.below hb
      exact ⟨q0, q1⟩
    have HI : Hid (∀ w', Below w4.heap.size w4 w' → Ints w' (.slice ta tl tc) x3 ∧ Net w' (.agg #[.int .i64 x0.places, .slice na nl nc]) x0) := fun w' hb => ⟨(i3.below c4).below hb, (i0.below c4).below hb⟩
    refine wp_region_held_drew (S := (fun w' => w'.cell? ⟨NB, 0, none⟩ = some (.int .i64 x0.places) ∧ w'.cell? ⟨NB, 1, none⟩ = some (.slice na nl nc))) (by kernel_rfl) (HS.out _ (Below.refl _ _).drew) (fun hH => ?_)
    have b : Below w4.heap.size w4 w4.drew := (Below.refl _ _).drew
    obtain ⟨u0, Hv0⟩ : ∃ v0', Hid (w4.drew = v0') := ⟨_, rfl⟩
    rw [Hv0.out] at hH b ⊢
    clear Hv0
    refine wpAnyH_take (i := 0) (v := .agg #[.int .i64 x0.places, .slice na nl nc]) rfl (by kernel_rfl) (by kernel_rfl) (by kernel_rfl) (fun _ _ _ h => h) (.inl ⟨by rfl, fun w' hS' => by obtain ⟨s0, s1⟩ := hS'; go_simp⟩) hH ?_
    simp only [List.getElem_toArray, List.getElem_cons_succ, List.getElem_cons_zero, Act.put, List.setIfInBounds_toArray, List.set_cons_zero, List.set_cons_succ]
    refine wpAnyH_take (i := 1) (v := .int .i64 x1) rfl (by kernel_rfl) (by kernel_rfl) (by kernel_rfl) (fun _ _ _ h => h) (.inl ⟨by rfl, fun _ _ => rfl⟩) hH ?_
    simp only [List.getElem_toArray, List.getElem_cons_succ, List.getElem_cons_zero, Act.put, List.setIfInBounds_toArray, List.set_cons_zero, List.set_cons_succ]
    refine wpAnyH_take (i := 2) (v := .int .i64 x2) rfl (by kernel_rfl) (by kernel_rfl) (by kernel_rfl) (fun _ _ _ h => h) (.inl ⟨by rfl, fun _ _ => rfl⟩) hH ?_
    simp only [List.getElem_toArray, List.getElem_cons_succ, List.getElem_cons_zero, Act.put, List.setIfInBounds_toArray, List.set_cons_zero, List.set_cons_succ]
    refine wpAnyH_take (i := 3) (v := .slice ta tl tc) rfl (by kernel_rfl) (by kernel_rfl) (by kernel_rfl) (fun _ _ _ h => h) (.inl ⟨by rfl, fun _ _ => rfl⟩) hH ?_
    simp only [List.getElem_toArray, List.getElem_cons_succ, List.getElem_cons_zero, Act.put, List.setIfInBounds_toArray, List.set_cons_zero, List.set_cons_succ]
    refine wpAnyH_take (i := 5) (v := .int .i64 x4) rfl (by kernel_rfl) (by kernel_rfl) (by kernel_rfl) (fun _ _ _ h => h) (.inl ⟨by rfl, fun _ _ => rfl⟩) hH ?_
    simp only [List.getElem_toArray, List.getElem_cons_succ, List.getElem_cons_zero, Act.put, List.setIfInBounds_toArray, List.set_cons_zero, List.set_cons_succ]
    refine wpAnyH_ready (rs := [4, 6]) (by kernel_rfl) (by simp) ?_
    refine (AllReadyH.cons rfl (fun K hK => ?_) (AllReadyH.cons rfl (fun K hK => ?_) AllReadyH.nil))
    · simp only [List.getElem_toArray, List.getElem_cons_succ, List.getElem_cons_zero]
      rw [if_pos (by rfl)]
      go_wp2_with fail
      have b0 := b
      refine (clone_any _ x3 u0 (HI.out _ b).1).mono ?_
      rintro e u1 ⟨r, rfl, hO⟩
      obtain ⟨qa, ql, qc, rfl⟩ := ownsRow_slice hO.1
      have bs : Below u0.heap.size u0 u1 := hO.2.1
      replace b := below_then b bs
      refine hK.out _ _ (HS.out _ b) (fun hH => ?_)
      clear hK
      have bs := below_new u1 (.cells #[.int .i64 x4] 3)
      have hlit : Box1 (u1.alloc (.cells #[.int .i64 x4] 3)) u1.heap.size (.int .i64 x4) := box1_new u1 _ _
      obtain ⟨u2, Hn⟩ : ∃ z, Hid (u1.alloc (.cells #[.int .i64 x4] 3) = z) := ⟨_, rfl⟩
      obtain ⟨M, HM⟩ : ∃ z, Hid (u1.heap.size = z) := ⟨_, rfl⟩
      rw [Hn.out, HM.out] at hlit
      rw [Hn.out] at bs
      replace hO := hO.trans bs
      refine wpAnyH_ready (rs := [6]) (by kernel_rfl) (by simp) ?_
      refine AllReadyH.cons rfl (fun K hK => ?_) AllReadyH.nil
      simp only [List.getElem_toArray, List.getElem_cons_succ, List.getElem_cons_zero]
      rw [if_pos (by rfl)]
      go_wp2_with fail
      rw [Hn.out, HM.out]
      replace b := below_then b bs
      refine hK.out _ _ (HS.out _ b) (fun hH => ?_)
      clear hK
      refine wpAnyH_ready (rs := [7]) (by kernel_rfl) (by simp) ?_
      refine AllReadyH.cons rfl (fun K hK => ?_) AllReadyH.nil
      simp only [List.getElem_toArray, List.getElem_cons_succ, List.getElem_cons_zero]
      have hx3 := Htl.out
      refine wpr_append_cells elemI (by rfl) _ _ rfl u0.heap.size u0 u2 (.slice qa ql qc) x3.length 1 1 ⟨M, 0, none⟩ (x3.map (Value.int .i64)) [.int .i64 x4] hO rfl rfl rfl (fun j u hj => by match j, hj with | 0, hj => (injection hj with hj; subst hj; exact hlit.2)) (by intro u hu; simp only [List.mem_cons, List.not_mem_nil, or_false] at hu; subst hu; rfl) (by unfold maxLen; omega) (by omega) ?_
      intro v' u3 hO3 hg3
      obtain ⟨qa2, ql2, qc2, rfl⟩ := ownsRow_slice hO3.1
      have bs : Below u2.heap.size u2 u3 ∨ True := .inr trivial
      have b3 : Below w4.heap.size w4 u3 := by
        have q := hO3.2.1
        have hbase : Below w4.heap.size w4 u0 := b0
        exact hbase.trans (q.mono hbase.size)
      have hO4 : Own u0.heap.size u0 u3 (.slice qa2 ql2 qc2) (x3 ++ [x4]) := by
        have e1 : (x3 ++ [x4]).length = x3.length + 1 := by simp
        have e2 : (x3 ++ [x4]).map (Value.int .i64) = x3.map (Value.int .i64) ++ [.int .i64 x4] := by simp
        show _ ∧ _
        rw [e1, e2]
        exact hO3
      have hI4 := hO4.ints (by simp; omega)
      have HC := align_any (i := x1) (o := x2) (HI.out _ b3).2 hI4
      unfold alignGoes at HC
      refine hK.out _ _ (HS.out _ b3) (fun hH => ?_)
      clear hK hO hO3 hO4 hlit
      refine wpAnyH_ready (rs := [8]) (by kernel_rfl) (by simp) ?_
      refine AllReadyH.cons rfl (fun K hK => ?_) AllReadyH.nil
      simp only [List.getElem_toArray, List.getElem_cons_succ, List.getElem_cons_zero]
      rw [if_pos (by rfl)]
      go_wp2_with fail
      refine HC.mono ?_
      rintro e u4 ⟨r4, ms3, cy, ey, rfl, hA3, hM3, bs4⟩
      obtain ⟨ra4, rc4, rfl⟩ := hM3.slice
      have b4 := below_then b3 bs4
      have hm3 := hM3.len
      refine hK.out _ _ (HS.out _ b4) (fun hH => ?_)
      clear hK HC
      refine wpAnyH_take (i := 9) (v := .tuple #[.slice ra4 ms3.length rc4, .int .i64 cy, .int .i64 ey]) rfl (by kernel_rfl) (by kernel_rfl) (by kernel_rfl) (fun _ _ _ h => h) (.inl ⟨by rfl, fun _ _ => rfl⟩) hH ?_
      simp only [List.getElem_toArray, List.getElem_cons_succ, List.getElem_cons_zero, Act.put, List.setIfInBounds_toArray, List.set_cons_zero, List.set_cons_succ]
      refine wpAnyH_take (i := 10) (v := .slice ra4 ms3.length rc4) rfl (by kernel_rfl) (by kernel_rfl) (by kernel_rfl) (fun _ _ _ h => h) (.inl ⟨by rfl, fun w' hS' => by first | (go_simp; done) | (go_simp; rfl) | (go_simp; intro h; omega) | (go_simp; omega)⟩) hH ?_
      simp only [List.getElem_toArray, List.getElem_cons_succ, List.getElem_cons_zero, Act.put, List.setIfInBounds_toArray, List.set_cons_zero, List.set_cons_succ]
      refine wpAnyH_take (i := 11) (v := .int .i64 cy) rfl (by kernel_rfl) (by kernel_rfl) (by kernel_rfl) (fun _ _ _ h => h) (.inl ⟨by rfl, fun w' hS' => by first | (go_simp; done) | (go_simp; rfl) | (go_simp; intro h; omega) | (go_simp; omega)⟩) hH ?_
      simp only [List.getElem_toArray, List.getElem_cons_succ, List.getElem_cons_zero, Act.put, List.setIfInBounds_toArray, List.set_cons_zero, List.set_cons_succ]
      refine wpAnyH_take (i := 12) (v := .int .i64 ey) rfl (by kernel_rfl) (by kernel_rfl) (by kernel_rfl) (fun _ _ _ h => h) (.inl ⟨by rfl, fun w' hS' => by first | (go_simp; done) | (go_simp; rfl) | (go_simp; intro h; omega) | (go_simp; omega)⟩) hH ?_
      simp only [List.getElem_toArray, List.getElem_cons_succ, List.getElem_cons_zero, Act.put, List.setIfInBounds_toArray, List.set_cons_zero, List.set_cons_succ]
      refine wpAnyH_take (i := 13) (v := .slice ra4 ms3.length rc4) rfl (by kernel_rfl) (by kernel_rfl) (by kernel_rfl) (fun _ _ _ h => h) (.inl ⟨by rfl, fun _ _ => rfl⟩) hH ?_
      simp only [List.getElem_toArray, List.getElem_cons_succ, List.getElem_cons_zero, Act.put, List.setIfInBounds_toArray, List.set_cons_zero, List.set_cons_succ]
      refine wpAnyH_take (i := 14) (v := .int .i64 cy) rfl (by kernel_rfl) (by kernel_rfl) (by kernel_rfl) (fun _ _ _ h => h) (.inl ⟨by rfl, fun _ _ => rfl⟩) hH ?_
      simp only [List.getElem_toArray, List.getElem_cons_succ, List.getElem_cons_zero, Act.put, List.setIfInBounds_toArray, List.set_cons_zero, List.set_cons_succ]
      refine wpAnyH_take (i := 15) (v := .int .i64 ey) rfl (by kernel_rfl) (by kernel_rfl) (by kernel_rfl) (fun _ _ _ h => h) (.inl ⟨by rfl, fun _ _ => rfl⟩) hH ?_
      simp only [List.getElem_toArray, List.getElem_cons_succ, List.getElem_cons_zero, Act.put, List.setIfInBounds_toArray, List.set_cons_zero, List.set_cons_succ]
      refine wpAnyH_done (by kernel_rfl) ?_ _
      go_wp2_with fail
      go_meet
      exact ⟨ms3, cy, ey, rfl, rfl, hA3, hm3, b4⟩
    · simp only [List.getElem_toArray, List.getElem_cons_succ, List.getElem_cons_zero]
      rw [if_pos (by rfl)]
      have bs := below_new u0 (.cells #[.int .i64 x4] 3)
      have hlit : Box1 (u0.alloc (.cells #[.int .i64 x4] 3)) u0.heap.size (.int .i64 x4) := box1_new u0 _ _
      obtain ⟨u1, Hn⟩ : ∃ z, Hid (u0.alloc (.cells #[.int .i64 x4] 3) = z) := ⟨_, rfl⟩
      obtain ⟨M, HM⟩ : ∃ z, Hid (u0.heap.size = z) := ⟨_, rfl⟩
      rw [Hn.out, HM.out] at hlit
      rw [Hn.out] at bs
      go_wp2_with fail
      rw [Hn.out, HM.out]
      replace b := below_then b bs
      refine hK.out _ _ (HS.out _ b) (fun hH => ?_)
      clear hK
      have b0 := b
      refine wpAnyH_ready (rs := [4]) (by kernel_rfl) (by simp) ?_
      refine AllReadyH.cons rfl (fun K hK => ?_) AllReadyH.nil
      simp only [List.getElem_toArray, List.getElem_cons_succ, List.getElem_cons_zero]
      rw [if_pos (by rfl)]
      go_wp2_with fail
      refine (clone_any _ x3 u1 (HI.out _ b).1).mono ?_
      rintro e u2 ⟨r, rfl, hO⟩
      obtain ⟨qa, ql, qc, rfl⟩ := ownsRow_slice hO.1
      have bs : Below u1.heap.size u1 u2 := hO.2.1
      replace b := below_then b bs
      replace hlit := hlit.below bs
      refine hK.out _ _ (HS.out _ b) (fun hH => ?_)
      clear hK
      refine wpAnyH_ready (rs := [7]) (by kernel_rfl) (by simp) ?_
      refine AllReadyH.cons rfl (fun K hK => ?_) AllReadyH.nil
      simp only [List.getElem_toArray, List.getElem_cons_succ, List.getElem_cons_zero]
      have hx3 := Htl.out
      refine wpr_append_cells elemI (by rfl) _ _ rfl u1.heap.size u1 u2 (.slice qa ql qc) x3.length 1 1 ⟨M, 0, none⟩ (x3.map (Value.int .i64)) [.int .i64 x4] hO rfl rfl rfl (fun j u hj => by match j, hj with | 0, hj => (injection hj with hj; subst hj; exact hlit.2)) (by intro u hu; simp only [List.mem_cons, List.not_mem_nil, or_false] at hu; subst hu; rfl) (by unfold maxLen; omega) (by omega) ?_
      intro v' u3 hO3 hg3
      obtain ⟨qa2, ql2, qc2, rfl⟩ := ownsRow_slice hO3.1
      have bs : Below u2.heap.size u2 u3 ∨ True := .inr trivial
      have b3 : Below w4.heap.size w4 u3 := by
        have q := hO3.2.1
        have hbase : Below w4.heap.size w4 u1 := b0
        exact hbase.trans (q.mono hbase.size)
      have hO4 : Own u1.heap.size u1 u3 (.slice qa2 ql2 qc2) (x3 ++ [x4]) := by
        have e1 : (x3 ++ [x4]).length = x3.length + 1 := by simp
        have e2 : (x3 ++ [x4]).map (Value.int .i64) = x3.map (Value.int .i64) ++ [.int .i64 x4] := by simp
        show _ ∧ _
        rw [e1, e2]
        exact hO3
      have hI4 := hO4.ints (by simp; omega)
      have HC := align_any (i := x1) (o := x2) (HI.out _ b3).2 hI4
      unfold alignGoes at HC
      refine hK.out _ _ (HS.out _ b3) (fun hH => ?_)
      clear hK hO hO3 hO4 hlit
      refine wpAnyH_ready (rs := [8]) (by kernel_rfl) (by simp) ?_
      refine AllReadyH.cons rfl (fun K hK => ?_) AllReadyH.nil
      simp only [List.getElem_toArray, List.getElem_cons_succ, List.getElem_cons_zero]
      rw [if_pos (by rfl)]
      go_wp2_with fail
      refine HC.mono ?_
      rintro e u4 ⟨r4, ms3, cy, ey, rfl, hA3, hM3, bs4⟩
      obtain ⟨ra4, rc4, rfl⟩ := hM3.slice
      have b4 := below_then b3 bs4
      have hm3 := hM3.len
      refine hK.out _ _ (HS.out _ b4) (fun hH => ?_)
      clear hK HC
      refine wpAnyH_take (i := 9) (v := .tuple #[.slice ra4 ms3.length rc4, .int .i64 cy, .int .i64 ey]) rfl (by kernel_rfl) (by kernel_rfl) (by kernel_rfl) (fun _ _ _ h => h) (.inl ⟨by rfl, fun _ _ => rfl⟩) hH ?_
      simp only [List.getElem_toArray, List.getElem_cons_succ, List.getElem_cons_zero, Act.put, List.setIfInBounds_toArray, List.set_cons_zero, List.set_cons_succ]
      refine wpAnyH_take (i := 10) (v := .slice ra4 ms3.length rc4) rfl (by kernel_rfl) (by kernel_rfl) (by kernel_rfl) (fun _ _ _ h => h) (.inl ⟨by rfl, fun w' hS' => by first | (go_simp; done) | (go_simp; rfl) | (go_simp; intro h; omega) | (go_simp; omega)⟩) hH ?_
      simp only [List.getElem_toArray, List.getElem_cons_succ, List.getElem_cons_zero, Act.put, List.setIfInBounds_toArray, List.set_cons_zero, List.set_cons_succ]
      refine wpAnyH_take (i := 11) (v := .int .i64 cy) rfl (by kernel_rfl) (by kernel_rfl) (by kernel_rfl) (fun _ _ _ h => h) (.inl ⟨by rfl, fun w' hS' => by first | (go_simp; done) | (go_simp; rfl) | (go_simp; intro h; omega) | (go_simp; omega)⟩) hH ?_
      simp only [List.getElem_toArray, List.getElem_cons_succ, List.getElem_cons_zero, Act.put, List.setIfInBounds_toArray, List.set_cons_zero, List.set_cons_succ]
      refine wpAnyH_take (i := 12) (v := .int .i64 ey) rfl (by kernel_rfl) (by kernel_rfl) (by kernel_rfl) (fun _ _ _ h => h) (.inl ⟨by rfl, fun w' hS' => by first | (go_simp; done) | (go_simp; rfl) | (go_simp; intro h; omega) | (go_simp; omega)⟩) hH ?_
      simp only [List.getElem_toArray, List.getElem_cons_succ, List.getElem_cons_zero, Act.put, List.setIfInBounds_toArray, List.set_cons_zero, List.set_cons_succ]
      refine wpAnyH_take (i := 13) (v := .slice ra4 ms3.length rc4) rfl (by kernel_rfl) (by kernel_rfl) (by kernel_rfl) (fun _ _ _ h => h) (.inl ⟨by rfl, fun _ _ => rfl⟩) hH ?_
      simp only [List.getElem_toArray, List.getElem_cons_succ, List.getElem_cons_zero, Act.put, List.setIfInBounds_toArray, List.set_cons_zero, List.set_cons_succ]
      refine wpAnyH_take (i := 14) (v := .int .i64 cy) rfl (by kernel_rfl) (by kernel_rfl) (by kernel_rfl) (fun _ _ _ h => h) (.inl ⟨by rfl, fun _ _ => rfl⟩) hH ?_
      simp only [List.getElem_toArray, List.getElem_cons_succ, List.getElem_cons_zero, Act.put, List.setIfInBounds_toArray, List.set_cons_zero, List.set_cons_succ]
      refine wpAnyH_take (i := 15) (v := .int .i64 ey) rfl (by kernel_rfl) (by kernel_rfl) (by kernel_rfl) (fun _ _ _ h => h) (.inl ⟨by rfl, fun _ _ => rfl⟩) hH ?_
      simp only [List.getElem_toArray, List.getElem_cons_succ, List.getElem_cons_zero, Act.put, List.setIfInBounds_toArray, List.set_cons_zero, List.set_cons_succ]
      refine wpAnyH_done (by kernel_rfl) ?_ _
      go_wp2_with fail
      go_meet
      exact ⟨ms3, cy, ey, rfl, rfl, hA3, hm3, b4⟩
  case rest =>
    obtain ⟨ms3, cy, ey, rfl, rfl, hA3, hm3, bc⟩ := hcut
    have HW : Hid (Below W.heap.size W wc) := below_then c4 bc
    obtain ⟨X, rfl, hX⟩ := hA2.small
    obtain ⟨Y, rfl, hY⟩ := hA3.small
    have hXs : X ≤ 1000000 := Nat.le_trans hX Hm2.out
    have hYs : Y ≤ 1000000 := Nat.le_trans hY hm3
    have HXY : Hid (ex = 0 → ey = 0 → (X : Int) ≤ Y + 1 ∧ (Y : Int) ≤ X + 1) := fun e1 e2 => by subst e1 e2; exact none_more hA2 hA3
    have wL : IntKind.i64.wrap ((X : Int) - 1) = (X : Int) - 1 := Go.IntWalk.i64_in _ ⟨by omega, by omega⟩
    have wM : IntKind.i64.wrap ((X : Int) + 1) = (X : Int) + 1 := Go.IntWalk.i64_in _ ⟨by omega, by omega⟩
    have e1 := Hef.out
    subst e1
    clear hA2 hA3 bc c4 hbx4 hX hY hm3
    go_upto_region 7 with fail
    go_cut [78] (fun x78 wd => x78 = .bool false ∧ wd = wc)
    case first =>
      by_cases g0 : ex = 0
      · subst g0
        by_cases h0 : ey = 0
        · subst h0
          obtain ⟨q1, q2⟩ := HXY.out rfl rfl
          have n1 : ¬ (X : Int) + 1 < (Y : Int) := by omega
          have n2 : ¬ (Y : Int) < (X : Int) - 1 := by omega
          go_wp2_with fail
          go_meet
          exact ⟨rfl, rfl⟩
        · have n1 : (ey == 0) = false := by rw [beq_eq_false_iff_ne]; exact h0
          go_wp2_with fail
          go_meet
          exact ⟨rfl, rfl⟩
      · have n1 : (ex == 0) = false := by rw [beq_eq_false_iff_ne]; exact g0
        go_wp2_with fail
        go_meet
        exact ⟨rfl, rfl⟩
    case rest =>
      obtain ⟨rfl, rfl⟩ := hcut
      by_cases g0 : ea = 0
      · subst g0
        have e2 := Hck.out rfl
        subst e2
        go_wp2
        go_ret
        exact ⟨rfl, HW.out⟩
      · have n1 : (ea == 0) = false := by rw [beq_eq_false_iff_ne]; exact g0
        go_wp2
        go_ret
        exact ⟨rfl, HW.out⟩

end Go.Proofs.Ytakgppoeikcepaa