import Derived.Test.YtakgppoeikcepaaGr28
import Derived.Test.YtakgppoeikcepaaTongRef1
import Derived.Test.YtakgppoeikcepaaGr29
import Derived.Test.YtakgppoeikcepaaGr00
import Derived.BigQuiet
import Derived.BigRegion
import Derived.Test.YtakgppoeikcepaaGr06
/- The document's own cost of alignments, walked. (Under way.) -/
namespace Go.Proofs.Ytakgppoeikcepaa
open Go.RowKit
set_option linter.unusedVariables false
set_option linter.unusedSimpArgs false
set_option maxRecDepth 4000

theorem Ints.row {w : World} {a : Option Addr} {l c : Nat} {xs : List Int} (h : Ints w (.slice a l c) xs) : Row w a xs := by
  obtain ⟨a', l', c', e, _, _, _, hr⟩ := h
  injection e with e1 e2 e3
  subst e1
  exact hr

/-- What UCost answers. -/
def UAns (n : NetL) (i o : Int) (tr : List Int) (c d : Int) : Prop := ∃ s a d0, Lsp n i o s a d0 ∧
  ((¬ d0 = 0 ∧ c = 0 ∧ d = d0) ∨ (d0 = 0 ∧ 60 < tr.length ∧ c = 0 ∧ d = 2) ∨ (d0 = 0 ∧ tr.length ≤ 60 ∧ a < 0 ∧ c = 0 ∧ d = 3) ∨
   (d0 = 0 ∧ tr.length ≤ 60 ∧ 0 ≤ a ∧ d = 0 ∧ ∃ f, CostOk s.arcs (labT n) tr s.marks.length f ∧ CalmTo s.arcs (labT n) tr s.marks.length f (tr.length + 1) 0 0 ∧ c = f tr.length a.toNat))

theorem label_okU {n : NetL} (hn : netOk n = true) {k : Nat} (hk : k < n.trans.length) : 0 ≤ (tranAt n.trans k).label ∧ (tranAt n.trans k).label ≤ 26 := by
  unfold netOk tranOk tranHead at hn
  simp only [Bool.and_eq_true, List.all_eq_true, decide_eq_true_eq] at hn
  have := hn.2 (tranAt n.trans k) (by unfold tranAt; rw [List.getD_eq_getElem?_getD, List.getElem?_eq_getElem hk]; exact List.getElem_mem hk)
  omega

/-- While the rows are made: the first k are there, and far. -/
def Made (X T : Nat) (w wr : World) (R K C j : Nat) : Prop := ∃ g f, MatI X w wr R K C g f ∧ wr.cell? ⟨T, 0, none⟩ = some (.slice (some ⟨X, 0, none⟩) R R) ∧ X < T ∧ T < wr.heap.size ∧ (∀ k, k < K → g k ≠ T) ∧
  (∀ k m, k < K → m < C → (k + 1 < K ∨ m < j) → f k m = farC)

theorem CostAt.again {X T ab : Nat} {w wr : World} {R C : Nat} {g : Nat → Nat} {f : Nat → Nat → Int} {b : Bool} (h : CostAt X T ab w wr R C g f b) : CostAt X T wr.heap.size w (wr.alloc (.cells #[.bool b] 4)) R C g f b := by
  have bA := below_new wr (.cells #[.bool b] 4)
  have hA0 := box1_new wr (.bool b) 4
  exact ⟨h.mat.to bA, by rw [bA.cell (p := ⟨T, 0, none⟩) h.boxB.2.1]; exact h.box, ⟨h.boxB.1, Nat.lt_of_lt_of_le h.boxB.2.1 bA.size, h.boxB.2.2⟩, hA0.2, World.frozen?_alloc_at _ _ _ _ rfl,
    ⟨h.mat.size, hA0.1, by have := h.boxB.2.1; omega, fun k hk => by have := h.mat.hi k hk; omega⟩⟩

set_option maxHeartbeats 8000000 in
theorem ucost_any (v u : Value) (n : NetL) (i o : Int) (tr : List Int) (w : World) (hv : Net w v n) (hu : Ints w u tr) (hsm : SmallNet n) :
    Calls Try.prog 7 #[v, .int .i64 i, .int .i64 o, u] w fun e w' => ∃ c d, e = .returned (.tuple #[.int .i64 c, .int .i64 d]) ∧ UAns n i o tr c d ∧ Below w.heap.size w w' := by
  obtain ⟨tv, rfl, hT⟩ := id hv
  obtain ⟨na, nl, nc, rfl, hnl, hnm, _⟩ := id hT
  have Hnl : Hid (n.trans.length = nl) := hnl
  clear hnl
  obtain ⟨ta, tl, tc, rfl, htl, htm, _⟩ := id hu
  have Htl : Hid (tr.length = tl) := htl
  clear htl
  have hbx := box2_new w (.int .i64 n.places) (.slice na nl nc) 24
  have c := below_new w (.cells #[.int .i64 n.places, .slice na nl nc] 24)
  obtain ⟨w0, H0⟩ : ∃ u, Hid (w.alloc (.cells #[.int .i64 n.places, .slice na nl nc] 24) = u) := ⟨_, rfl⟩
  rw [H0.out] at hbx c
  obtain ⟨NB, HNB⟩ : ∃ z, Hid (w.heap.size = z) := ⟨_, rfl⟩
  rw [HNB.out] at hbx
  have Hc : Hid (Below w.heap.size w w0) := c
  clear c
  obtain ⟨_, y0, y1⟩ := id hbx
  go_enter Try.func7, Try.ntmps7
  go_upto_region 1 with fail
  rw [H0.out, HNB.out]
  go_wp2_with fail
  refine (lspace_any _ n i o _ (by exact hv.below Hc.out) hsm).mono ?_
  rintro e w1 ⟨r, s, a, d, rfl, ⟨hS, hL⟩, b⟩
  have c1 := below_then Hc.out b
  have hbx1 := hbx.below b
  obtain ⟨mv, av, rfl, hM, hAr⟩ := id hS
  obtain ⟨ma, mc, rfl, hmx, _⟩ := hM.slice
  obtain ⟨aa, al, ac, rfl, hal, halm, _⟩ := id hAr
  have Hal : Hid (s.arcs.length = al) := by show _ = _; rw [← hal, List.length_map]
  clear hal
  clear y0 y1 b hbx
  have hsb := box2_new w1 (.slice ma s.marks.length mc) (.slice aa al ac) 49
  have bn := below_new w1 (.cells #[.slice ma s.marks.length mc, .slice aa al ac] 49)
  obtain ⟨SB, HSB⟩ : ∃ z, Hid (w1.heap.size = z) := ⟨_, rfl⟩
  obtain ⟨w2, H2⟩ : ∃ u, Hid (w1.alloc (.cells #[.slice ma s.marks.length mc, .slice aa al ac] 49) = u) := ⟨_, rfl⟩
  rw [H2.out] at hsb bn
  rw [HSB.out] at hsb
  replace c1 := below_then c1 bn
  replace hbx1 := hbx1.below bn
  replace hM := hM.below bn
  replace hAr := hAr.below bn
  go_upto_region 2 with fail
  rw [H2.out, HSB.out]
  clear hS bn
  by_cases hd : d = 0
  · subst hd
    by_cases h60 : 60 < tl
    · have n1 : decide ((tl : Int) > 60) = true := by rw [decide_eq_true_eq]; omega
      have R : Hid (UAns n i o tr 0 2) := ⟨s, a, 0, hL, .inr (.inl ⟨rfl, by rw [Htl.out]; exact h60, rfl, rfl⟩)⟩
      clear hL
      go_wp2
      go_ret2
      exact ⟨0, 2, rfl, R.out, c1⟩
    · have n1 : decide ((tl : Int) > 60) = false := by rw [decide_eq_false_iff_not]; omega
      by_cases ha : a < 0
      · have n2 : decide (a < 0) = true := by rw [decide_eq_true_eq]; exact ha
        have R : Hid (UAns n i o tr 0 3) := ⟨s, a, 0, hL, .inr (.inr (.inl ⟨rfl, by rw [Htl.out]; omega, ha, rfl, rfl⟩))⟩
        clear hL
        go_wp2
        go_ret2
        exact ⟨0, 3, rfl, R.out, c1⟩
      · have n2 : decide (a < 0) = false := by rw [decide_eq_false_iff_not]; exact ha
        rcases hL with ⟨q, _⟩ | ⟨hSh, hG, hE⟩
        · exact absurd rfl q
        have hW : Whole n (startL n.places i) s := graphL_whole hG
        have hM3 : s.marks.length ≤ 300 := by have := graphL_small n (startL n.places i) 300; rw [hG] at this; exact this
        have hM1 : 0 < s.marks.length := hW.here.1
        have Harcs : Hid (∀ a ∈ s.arcs, a.frm < s.marks.length ∧ a.dst < s.marks.length ∧ a.tran < n.trans.length) := fun a ha => by
          obtain ⟨q1, q2, q3, _⟩ := hW.sound a ha
          exact ⟨q1, q2, q3⟩
        have Hlab : Hid (∀ a ∈ s.arcs, 0 ≤ labT n a.tran) := fun a ha => by
          have h1 := (Harcs.out a ha).2.2
          exact (label_okU hSh.ok h1).1
        have HR : Hid (∀ f, CostOk s.arcs (labT n) tr s.marks.length f → CalmTo s.arcs (labT n) tr s.marks.length f (tr.length + 1) 0 0 → UAns n i o tr (f tr.length a.toNat) 0) := fun f h1 h2 =>
          ⟨s, a, 0, .inr ⟨hSh, hG, hE⟩, .inr (.inr (.inr ⟨rfl, by rw [Htl.out]; omega, by omega, rfl, f, h1, h2, rfl⟩))⟩
        have HaM : Hid (a.toNat < s.marks.length) := by
          rcases hE with ⟨q, _⟩ | ⟨g, q, hg, _⟩
          · omega
          · show _ < _; omega
        obtain ⟨M, HM⟩ : ∃ M, Hid (s.marks.length = M) := ⟨_, rfl⟩
        rw [HM.out] at hM hM3 hM1 Harcs HR HaM hsb ⊢
        clear hE hG hW hSh
        have wT : IntKind.i64.wrap ((tl : Int) + 1) = (((tl + 1 : Nat)) : Int) := by rw [show ((tl : Int) + 1) = ((tl + 1 : Nat) : Int) by omega]; exact Go.IntWalk.i64_in _ ⟨by omega, by omega⟩
        obtain ⟨w3, hmk, hMat, hz3⟩ := make_rowsC w2 (tl + 1) M (by omega)
        rw [show (((tl + 1 : Nat)) : Int) = (tl : Int) + 1 by omega] at hmk wT
        obtain ⟨X, HX⟩ : ∃ X, Hid (w2.heap.size = X) := ⟨_, rfl⟩
        rw [HX.out] at hmk hMat hz3
        have hT0 := box1_new w3 (.slice (some ⟨X, 0, none⟩) (tl + 1) (tl + 1)) 46
        have bT := below_new w3 (.cells #[.slice (some ⟨X, 0, none⟩) (tl + 1) (tl + 1)] 46)
        have hMat4 := hMat.to bT
        obtain ⟨w4, H4⟩ : ∃ u, Hid (w3.alloc (.cells #[.slice (some ⟨X, 0, none⟩) (tl + 1) (tl + 1)] 46) = u) := ⟨_, rfl⟩
        obtain ⟨T, HTT⟩ : ∃ X, Hid (w3.heap.size = X) := ⟨_, rfl⟩
        rw [H4.out] at hT0 bT hMat4
        rw [HTT.out] at hT0
        have hXT : X < T := by rw [← HTT.out]; exact hMat.size
        have hmade : Made X T w2 w4 (tl + 1) 0 M 0 := ⟨_, _, hMat4, hT0.2, hXT, hT0.1, (fun k hk => by omega), fun k m hk => by omega⟩
        have HT1 : Hid (w3.heap.size = X + 1) := hz3
        have hb4 := hT0.2
        clear hMat hT0 hMat4 hz3 wT
        have hsbX : SB < X := by rw [← HX.out]; exact hsb.1
        go_upto_region 9 with fail
        rw [H4.out, HTT.out]
        go_wp2_with fail
        go_loopg [53] (tl + 1) (fun gk i' wr => ∃ k : Nat, k + gk = tl + 1 ∧ i' = .int .i64 (k : Int) ∧ Made X T w2 wr (tl + 1) k M M)
        case atStart => exact ⟨0, by omega, rfl, by obtain ⟨g, f, q1, q2, q3, q4, q5, q6⟩ := hmade; exact ⟨g, f, q1, q2, q3, q4, q5, fun k m hk => by omega⟩⟩
        case round =>
          clear hmade
          obtain ⟨k, hkg, rfl, g, f, hMt, hbT, _, hTl, hgT, hfar⟩ := hrel
          obtain ⟨G, hGk⟩ : ∃ G, G = gk := ⟨_, rfl⟩
          subst hGk
          by_cases hk : k < tl + 1
          · have hsw : Below w2.heap.size w2 wr := by rw [HX.out]; exact hMt.below
            have hS0 := (hsb.below hsw).2.1
            obtain ⟨w5, hmk5, hRow⟩ := make_intsZ wr.drew M (M : Int) rfl (by omega)
            have bd := (Below.refl wr.heap.size wr).drew
            have hMt5 : MatI X w2 (w5.setCell ⟨X, k, none⟩ (.slice (some ⟨wr.heap.size, 0, none⟩) M M)) (tl + 1) (k + 1) M (fun j => if j = k then wr.heap.size else g j) (fun j m => if j = k then 0 else f j m) := (hMt.to bd).grow hk hRow
            have bd5 : Below wr.heap.size wr w5 := below_then bd hRow.below
            have e0 := (hMt.to bd5).none_ k (Nat.le_refl _) hk
            have e1 := (hMt.to bd5).rowF k hk
            go_upto_region 12 with fail
            refine wp_region_held_drew (S := (fun w' => w'.cell? ⟨T, 0, none⟩ = some (.slice (some ⟨X, 0, none⟩) (tl + 1) (tl + 1)) ∧ w'.cell? ⟨SB, 0, none⟩ = some (.slice ma M mc))) (by kernel_rfl) (⟨by rw [bd.cell (p := ⟨T, 0, none⟩) hTl]; exact hbT, by rw [bd.cell (p := ⟨SB, 0, none⟩) (Nat.lt_trans hsbX hMt.size)]; exact hS0⟩) (fun hH => ?_)
            refine wpAnyH_take (i := 0) (v := .slice (some ⟨X, 0, none⟩) (tl + 1) (tl + 1)) rfl (by kernel_rfl) (by kernel_rfl) (by kernel_rfl) (fun _ _ _ h => h) (.inl ⟨by rfl, fun w' hS' => by obtain ⟨s1, s2⟩ := hS'; go_simp⟩) hH ?_
            simp only [List.getElem_toArray, List.getElem_cons_succ, List.getElem_cons_zero, Act.put, List.setIfInBounds_toArray, List.set_cons_zero, List.set_cons_succ]
            refine wpAnyH_take (i := 1) (v := .int .i64 (k : Int)) rfl (by kernel_rfl) (by kernel_rfl) (by kernel_rfl) (fun _ _ _ h => h) (.inl ⟨by rfl, fun _ _ => rfl⟩) hH ?_
            simp only [List.getElem_toArray, List.getElem_cons_succ, List.getElem_cons_zero, Act.put, List.setIfInBounds_toArray, List.set_cons_zero, List.set_cons_succ]
            refine wpAnyH_take (i := 2) (v := .pointer (some ⟨SB, 0, none⟩)) rfl (by kernel_rfl) (by kernel_rfl) (by kernel_rfl) (fun _ _ _ h => h) (.inl ⟨by rfl, fun w' hS' => by first | (go_simp; done) | (go_simp; rfl) | (go_simp; intro h; omega) | (go_simp; omega)⟩) hH ?_
            simp only [List.getElem_toArray, List.getElem_cons_succ, List.getElem_cons_zero, Act.put, List.setIfInBounds_toArray, List.set_cons_zero, List.set_cons_succ]
            refine wpAnyH_take (i := 3) (v := .slice ma M mc) rfl (by kernel_rfl) (by kernel_rfl) (by kernel_rfl) (fun _ _ _ h => h) (.inl ⟨by rfl, fun w' hS' => by obtain ⟨s1, s2⟩ := hS'; go_simp⟩) hH ?_
            simp only [List.getElem_toArray, List.getElem_cons_succ, List.getElem_cons_zero, Act.put, List.setIfInBounds_toArray, List.set_cons_zero, List.set_cons_succ]
            refine wpAnyH_take (i := 4) (v := .int .i64 (M : Int)) rfl (by kernel_rfl) (by kernel_rfl) (by kernel_rfl) (fun _ _ _ h => h) (.inl ⟨by rfl, fun w' hS' => by first | (go_simp; done) | (go_simp; rfl) | (go_simp; intro h; omega) | (go_simp; omega)⟩) hH ?_
            simp only [List.getElem_toArray, List.getElem_cons_succ, List.getElem_cons_zero, Act.put, List.setIfInBounds_toArray, List.set_cons_zero, List.set_cons_succ]
            refine wpAnyH_ready (rs := [5]) (by kernel_rfl) (by simp) ?_
            refine AllReadyH.cons rfl (fun K hK => ?_) AllReadyH.nil
            simp only [List.getElem_toArray, List.getElem_cons_succ, List.getElem_cons_zero]
            rw [if_pos (by rfl)]
            go_wp2_with fail
            refine hK.out _ _ (⟨by rw [bd5.cell (p := ⟨T, 0, none⟩) hTl]; exact hbT, by rw [bd5.cell (p := ⟨SB, 0, none⟩) (Nat.lt_trans hsbX hMt.size)]; exact hS0⟩) (fun hH => ?_)
            clear hK
            refine wpAnyH_take (i := 6) (v := .pointer (some ⟨X, k, none⟩)) rfl (by kernel_rfl) (by kernel_rfl) (by kernel_rfl) (fun _ _ _ h => h) (.inl ⟨by rfl, fun w' hS' => by first | (go_simp; done) | (go_simp; rfl) | (go_simp; intro h; omega) | (go_simp; omega)⟩) hH ?_
            simp only [List.getElem_toArray, List.getElem_cons_succ, List.getElem_cons_zero, Act.put, List.setIfInBounds_toArray, List.set_cons_zero, List.set_cons_succ]
            refine wpAnyH_ready (rs := [7]) (by kernel_rfl) (by simp) ?_
            refine AllReadyH.cons rfl (fun K hK => ?_) AllReadyH.nil
            simp only [List.getElem_toArray, List.getElem_cons_succ, List.getElem_cons_zero]
            rw [if_pos (by rfl)]
            go_wp2_with fail
            refine hK.out _ _ (⟨by rw [World.cell?_setCell_other _ _ _ _ (by intro q; injection q with q; omega), bd5.cell (p := ⟨T, 0, none⟩) hTl]; exact hbT, by rw [World.cell?_setCell_other _ _ _ _ (by intro q; injection q with q; omega), bd5.cell (p := ⟨SB, 0, none⟩) (Nat.lt_trans hsbX hMt.size)]; exact hS0⟩) (fun hH => ?_)
            clear hK
            refine wpAnyH_done (by kernel_rfl) ?_ _
            clear hH
            have hk1 : (k : Int) < (tl : Int) + 1 := by omega
            obtain ⟨g1, Hg1⟩ : ∃ g1, Hid ((fun j => if j = k then wr.heap.size else g j) = g1) := ⟨_, rfl⟩
            obtain ⟨f1, Hf1⟩ : ∃ f1, Hid ((fun j m => if j = k then 0 else f j m) = f1) := ⟨_, rfl⟩
            rw [Hg1.out, Hf1.out] at hMt5
            have hbT6 : (w5.setCell ⟨X, k, none⟩ (.slice (some ⟨wr.heap.size, 0, none⟩) M M)).cell? ⟨T, 0, none⟩ = some (.slice (some ⟨X, 0, none⟩) (tl + 1) (tl + 1)) := by
              rw [World.cell?_setCell_other _ _ _ _ (by intro q; injection q with q; omega), bd5.cell (p := ⟨T, 0, none⟩) hTl]; exact hbT
            have hfar1 : ∀ k' m, k' < k + 1 → m < M → (k' + 1 < k + 1 ∨ m < 0) → f1 k' m = farC := fun k' m h1 h2 h3 => by
              rw [← Hf1.out]
              show (if k' = k then 0 else f k' m) = _
              rw [if_neg (by omega)]
              exact hfar k' m (by omega) h2 (.inr h2)
            have hgT1 : ∀ j, j < k + 1 → g1 j ≠ T := fun j hj => by
              rw [← Hg1.out]
              show (if j = k then wr.heap.size else g j) ≠ T
              split
              · omega
              · exact hgT j (by omega)
            have hTl6 : T < (w5.setCell ⟨X, k, none⟩ (.slice (some ⟨wr.heap.size, 0, none⟩) M M)).heap.size := by
              have := bd5.size
              simp [World.setCell]
              omega
            obtain ⟨w6, H6⟩ : ∃ u, Hid (w5.setCell ⟨X, k, none⟩ (.slice (some ⟨wr.heap.size, 0, none⟩) M M) = u) := ⟨_, rfl⟩
            rw [H6.out] at hMt5 hbT6 hTl6
            rw [H6.out]
            have hmade : Made X T w2 w6 (tl + 1) (k + 1) M 0 := ⟨g1, f1, hMt5, hbT6, hXT, hTl6, hgT1, hfar1⟩
            have r0 := hMt5.row k (by omega)
            clear hMt hfar hgT hTl hbT hRow hmk5 e0 e1 bd bd5 hMt5 hfar1 hgT1 hTl6
            go_wp2_with fail
            go_loopg [68] M (fun gk i' wr => ∃ j : Nat, j + gk = M ∧ i' = .int .i64 (j : Int) ∧ Made X T w2 wr (tl + 1) (k + 1) M j)
            case atStart => exact ⟨0, by omega, rfl, hmade⟩
            case round =>
              clear hmade r0 hbT6
              obtain ⟨j, hjg, rfl, g2, f2, hMt, hbT, _, hTl, hgT, hfar⟩ := hrel
              have r0 := hMt.row k (by omega)
              by_cases hj : j < M
              · have e0 := hMt.cell k j (by omega) hj
                have e1 := hMt.cellF k j (by omega) hj
                have hlo := hMt.lo k (by omega)
                have hgk := hgT k (by omega)
                have R : Hid (Made X T w2 (wr.setCell ⟨g2 k, j, none⟩ (.int .i64 1073741824)) (tl + 1) (k + 1) M (j + 1)) := ⟨g2, _, hMt.put (by omega) hj _, by rw [World.cell?_setCell_other _ _ _ _ (by intro q; injection q with q; omega)]; exact hbT, hXT, by simpa [World.setCell] using hTl, hgT, fun k' m h1 h2 h3 => by
                  by_cases e : k' = k ∧ m = j
                  · obtain ⟨rfl, rfl⟩ := e
                    rw [putC_same]
                  · rw [putC_other e]
                    exact hfar k' m h1 h2 (by omega)⟩
                clear hMt hfar hgT
                go_wp2
                go_roundg (gk - 1)
                case measure => omega
                case rel => exact ⟨j + 1, by omega, by go_num, R.out⟩
              · obtain rfl : j = M := by omega
                have R : Hid (Made X T w2 wr (tl + 1) (k + 1) j j) := ⟨g2, f2, hMt, hbT, hXT, hTl, hgT, hfar⟩
                clear hMt hfar hgT hbT hTl r0
                go_wp2
                go_roundg (G - 1)
                case measure => omega
                case rel => exact ⟨k + 1, by omega, by go_num, R.out⟩
          · obtain rfl : k = tl + 1 := by omega
            have hMt0 : MatI X w2 wr (tl + 1) (tl + 1) M g (fun _ _ => farC) := hMt.congr fun k m h1 h2 => (hfar k m h1 h2 (.inr h2)).symm
            have hput := hMt0.put (k := 0) (m := 0) (by omega) hM1 0
            have r0 := hMt0.row 0 (by omega)
            have e0 := hMt0.cell 0 0 (by omega) hM1
            have e1 := hMt0.cellF 0 0 (by omega) hM1
            have hlo := hMt0.lo 0 (by omega)
            have hg0 := hgT 0 (by omega)
            have hbT6 : (wr.setCell ⟨g 0, 0, none⟩ (.int .i64 0)).cell? ⟨T, 0, none⟩ = some (.slice (some ⟨X, 0, none⟩) (tl + 1) (tl + 1)) := by
              rw [World.cell?_setCell_other _ _ _ _ (by intro q; injection q with q; omega)]; exact hbT
            have hTl6 : T < (wr.setCell ⟨g 0, 0, none⟩ (.int .i64 0)).heap.size := by simpa [World.setCell] using hTl
            obtain ⟨w6, H6⟩ : ∃ u, Hid (wr.setCell ⟨g 0, 0, none⟩ (.int .i64 0) = u) := ⟨_, rfl⟩
            rw [H6.out] at hput hbT6 hTl6
            clear hMt hfar
            go_upto_region 20 with fail
            rw [H6.out]
            have bA := below_new w6 (.cells #[.bool true] 4)
            have hA0 := box1_new w6 (.bool true) 4
            have hC0 : CostAt X T w6.heap.size w2 (w6.alloc (.cells #[.bool true] 4)) (tl + 1) M g startC true :=
              ⟨hput.to bA, by rw [bA.cell (p := ⟨T, 0, none⟩) hTl6]; exact hbT6, ⟨hXT, Nat.lt_of_lt_of_le hTl6 bA.size, hgT⟩, hA0.2, World.frozen?_alloc_at _ _ _ _ rfl,
               ⟨Nat.lt_of_lt_of_le hput.size (Nat.le_refl _), hA0.1, by omega, fun k hk => by have := hput.hi k hk; omega⟩⟩
            obtain ⟨w7, H7⟩ : ∃ u, Hid (w6.alloc (.cells #[.bool true] 4) = u) := ⟨_, rfl⟩
            obtain ⟨ab, Hab⟩ : ∃ u, Hid (w6.heap.size = u) := ⟨_, rfl⟩
            rw [H7.out, Hab.out] at hC0
            clear hMt0 hput r0 e0 e1 hbT6 hTl6 bA hA0 hbT hTl hlo hg0 hgT hkg hk
            go_wp2_with fail
            rw [H7.out, Hab.out]
            go_loopg [16] (leftC (tl + 1) M startC true) (fun gk t' wr => ∃ (ab : Nat) (f : Nat → Nat → Int) (ag : Bool), t' = .pointer (some ⟨ab, 0, none⟩) ∧ CostAt X T ab w2 wr (tl + 1) M g f ag ∧ CostOk s.arcs (labT n) tr M f ∧ Hid (ag = false → CalmTo s.arcs (labT n) tr M f (tr.length + 1) 0 0) ∧ Hid (gk = leftC (tl + 1) M f ag))
            case atStart => exact ⟨ab, startC, true, rfl, hC0, costOk_start, (fun q => by cases q), rfl⟩
            case round =>
              clear hC0
              obtain ⟨ab, f, ag, rfl, hC, hOk, HCalm, HG⟩ := hrel
              obtain ⟨g3, rfl⟩ : ∃ z, z = gk := ⟨_, rfl⟩
              have x0 := hC.flag
              cases ag
              · -- nothing costs less: the end
                have hsw : Below w2.heap.size w2 wr := by rw [HX.out]; exact hC.mat.below
                have r0 := hC.box
                have r1 := hC.mat.row tl (by omega)
                have HaM2 := HaM.out
                have ha1 : a = ((a.toNat : Nat) : Int) := by omega
                obtain ⟨av, Hav⟩ : ∃ av, Hid (a.toNat = av) := ⟨_, rfl⟩
                rw [Hav.out] at HaM2 ha1
                have r2 := hC.mat.cell tl av (by omega) HaM2
                have R : Hid (UAns n i o tr (f tl av) 0) := by have := HR.out f hOk (HCalm.out rfl); rw [Htl.out, Hav.out] at this; exact this
                have cEnd : Hid (Below w.heap.size w wr) := below_then c1 hsw
                obtain ⟨z, HZ⟩ : ∃ z, Hid (f tl av = z) := ⟨_, rfl⟩
                rw [HZ.out] at r2 R
                clear hC hOk HCalm HR HaM
                subst ha1
                go_wp2
                go_ret2
                exact ⟨z, 0, rfl, R.out, cEnd.out⟩
              · have hC1 := hC.set false
                have hf16 := hC.flagF
                obtain ⟨w8, H8⟩ : ∃ u, Hid (wr.setCell ⟨ab, 0, none⟩ (.bool false) = u) := ⟨_, rfl⟩
                rw [H8.out] at hC1
                have hP0 : Prog s.arcs (labT n) tr M f f false 0 0 0 := Prog.start hOk
                clear hOk HCalm hC
                go_upto_region 23 with fail
                rw [H8.out]
                have r0 := hC1.box
                go_wp2_with fail
                go_loopg [87] (tl + 1) (fun gk i' wr => ∃ (k : Nat) (f1 : Nat → Nat → Int) (ag1 : Bool), k + gk = tl + 1 ∧ i' = .int .i64 (k : Int) ∧ CostAt X T ab w2 wr (tl + 1) M g f1 ag1 ∧ Prog s.arcs (labT n) tr M f f1 ag1 k 0 0)
                case atStart => exact ⟨0, f, false, by omega, rfl, hC1, hP0⟩
                case round =>
                  clear hC1 hP0 r0
                  obtain ⟨k, f1, ag1, hkg, rfl, hC1, hP⟩ := hrel
                  obtain ⟨g4, rfl⟩ : ∃ z, z = gk := ⟨_, rfl⟩
                  by_cases hk : k < tl + 1
                  · have hsw : Below w2.heap.size w2 wr := by rw [HX.out]; exact hC1.mat.below
                    have hS1 := (hsb.below hsw).2.2
                    have n4 : decide ((k : Int) < (tl : Int) + 1) = true := by rw [decide_eq_true_eq]; omega
                    have n5 : (k : Int) < (tl : Int) + 1 := by omega
                    go_wp2_with fail
                    go_loopg [93] al (fun gk i' wr => ∃ (j : Nat) (f1 : Nat → Nat → Int) (ag1 : Bool), j + gk = al ∧ i' = .int .i64 (j : Int) ∧ CostAt X T ab w2 wr (tl + 1) M g f1 ag1 ∧ Prog s.arcs (labT n) tr M f f1 ag1 k j 0)
                    case atStart => exact ⟨0, f1, ag1, by omega, rfl, hC1, hP⟩
                    case round =>
                      clear hC1 hP hS1 hsw f1 ag1
                      obtain ⟨j, f1, ag1, hjg, rfl, hC1, hP⟩ := hrel
                      obtain ⟨g5, rfl⟩ : ∃ z, z = gk := ⟨_, rfl⟩
                      have hsw : Below w2.heap.size w2 wr := by rw [HX.out]; exact hC1.mat.below
                      by_cases hj : j < al
                      · have hja : j < s.arcs.length := by rw [Hal.out]; exact hj
                        obtain ⟨A, hAj⟩ : ∃ A, s.arcs[j]? = some A := ⟨_, List.getElem?_eq_getElem hja⟩
                        have HAj : Hid (s.arcs[j]? = some A) := hAj
                        have hA : s.arcs[j] = A := by rw [List.getElem?_eq_getElem hja] at hAj; injection hAj
                        have HAm : Hid (A ∈ s.arcs) := List.mem_of_getElem? HAj.out
                        obtain ⟨q1, q2, q3⟩ := Harcs.out A HAm.out
                        have hla := Hlab.out A HAm.out
                        have hrc := (hAr.below hsw).at (k := j) (by rw [List.length_map]; exact hja)
                        simp only [List.getElem_map] at hrc
                        rw [hA] at hrc
                        clear hA hAj
                        obtain ⟨bA, oA, rfl, hltA, u0, u1, u2⟩ := hrc
                        simp only [arcZ] at u0 u1 u2
                        have HCs : Hid (CostAt X T ab w2 wr (tl + 1) M g f1 ag1) := hC1
                        clear hC1
                        obtain ⟨bt, ot, t1, t2, rfl, hltT, l0, _, _, _, _⟩ := ((hT.below c1).below hsw).at (k := A.tran) (by rw [← Hnl.out]; exact q3)
                        obtain ⟨L, HL⟩ : ∃ L, Hid (labT n A.tran = L) := ⟨_, rfl⟩
                        rw [show (tranAt n.trans A.tran).label = L from HL.out] at l0
                        have bA' := below_new wr (.cells #[.int .i64 (A.frm : Int), .int .i64 (A.tran : Int), .int .i64 (A.dst : Int)] 69)
                        have hAx := box3_new wr (.int .i64 (A.frm : Int)) (.int .i64 (A.tran : Int)) (.int .i64 (A.dst : Int)) 69
                        have hNx := ((hbx1.below hsw).below bA').2.2
                        have l1 := (bA'.cell (p := ⟨bt, ot + A.tran * 3, none⟩) hltT).trans l0
                        obtain ⟨Ar, HAr⟩ : ∃ z, Hid (wr.heap.size = z) := ⟨_, rfl⟩
                        obtain ⟨wa, Hwa⟩ : ∃ z, Hid (wr.alloc (.cells #[.int .i64 (A.frm : Int), .int .i64 (A.tran : Int), .int .i64 (A.dst : Int)] 69) = z) := ⟨_, rfl⟩
                        have HCa : Hid (CostAt X T ab w2 wa (tl + 1) M g f1 ag1) := by rw [← Hwa.out]; exact HCs.out.to bA'
                        rw [Hwa.out] at hAx hNx l1
                        rw [HAr.out] at hAx
                        obtain ⟨_, z0, z1, z2⟩ := id hAx
                        have htn : (A.tran : Int) < (nl : Int) := by have := Hnl.out; omega
                        clear l0 bA' hltT
                        go_upto_region 30 with fail
                        rw [Hwa.out, HAr.out]
                        go_upto_region 31 with fail
                        have hkT : k ≤ tr.length := by rw [Htl.out]; omega
                        have q1' : A.frm < M := q1
                        have hle := hP.ok.le (k := k) (m := A.frm) hkT q1
                        have hB := fun w' hw' => better_any (HCa.out.to hw' : CostAt X T ab w2 w' (tl + 1) M g f1 ag1) k A.dst (f1 k A.frm + min L 1) (by omega) q2 (by omega) (by omega)
                        have hc2 := HCa.out.mat.cell k A.frm (by omega) q1
                        have hr2 := HCa.out.mat.row k (by omega)
                        have hb2 := HCa.out.box
                        obtain ⟨gk, Hgk⟩ : ∃ z, Hid (g k = z) := ⟨_, rfl⟩
                        obtain ⟨Z, HZ⟩ : ∃ z, Hid (f1 k A.frm = z) := ⟨_, rfl⟩
                        rw [Hgk.out, HZ.out] at hc2
                        rw [Hgk.out] at hr2
                        rw [HZ.out] at hB hle
                        have hz2 : Z ≤ 1073741824 := hle.2
                        have hz1 : 0 ≤ Z := hle.1
                        have HL0 : Hid (0 ≤ L) := by show _ ≤ _; rw [← HL.out]; exact hla
                        have hLm : 0 ≤ min L 1 ∧ min L 1 ≤ 1 := by have := HL0.out; omega
                        have wZ : IntKind.i64.wrap (Z + min L 1) = Z + min L 1 := Go.IntWalk.i64_in _ ⟨by omega, by omega⟩
                        have bdr := (Below.refl wa.heap.size wa).drew
                        have hB31 := hB _ bdr
                        have HS31 : Hid (wa.drew.cell? ⟨Ar, 2, none⟩ = some (.int .i64 (A.dst : Int)) ∧ wa.drew.cell? ⟨T, 0, none⟩ = some (.slice (some ⟨X, 0, none⟩) (tl + 1) (tl + 1)) ∧ wa.drew.cell? ⟨X, k, none⟩ = some (.slice (some ⟨gk, 0, none⟩) M M) ∧ wa.drew.cell? ⟨Ar, 0, none⟩ = some (.int .i64 (A.frm : Int)) ∧ wa.drew.cell? ⟨gk, A.frm, none⟩ = some (.int .i64 Z)) := ⟨z2, hb2, hr2, z0, hc2⟩
                        clear hB hle
                        refine wp_region_Z (S := (fun w' => w'.cell? ⟨Ar, 2, none⟩ = some (.int .i64 (A.dst : Int)) ∧ w'.cell? ⟨T, 0, none⟩ = some (.slice (some ⟨X, 0, none⟩) (tl + 1) (tl + 1)) ∧ w'.cell? ⟨X, k, none⟩ = some (.slice (some ⟨gk, 0, none⟩) M M) ∧ w'.cell? ⟨Ar, 0, none⟩ = some (.int .i64 (A.frm : Int)) ∧ w'.cell? ⟨gk, A.frm, none⟩ = some (.int .i64 Z))) (by kernel_rfl) 15 HS31.out (fun hH => ?_)
                        refine wpZ_takeP (i := 0) (v := .func (.func 22) #[] #[.pointer (some ⟨T, 0, none⟩), .pointer (some ⟨ab, 0, none⟩)]) rfl (by kernel_rfl) (by kernel_rfl) (by kernel_rfl) (fun _ _ _ h => h) (.inl ⟨by rfl, fun _ _ => rfl⟩) hH (by decide) ?_
                        simp only [List.getElem_toArray, List.getElem_cons_succ, List.getElem_cons_zero, Act.put, List.setIfInBounds_toArray, List.set_cons_zero, List.set_cons_succ]
                        refine wpZ_takeP (i := 1) (v := .int .i64 (k : Int)) rfl (by kernel_rfl) (by kernel_rfl) (by kernel_rfl) (fun _ _ _ h => h) (.inl ⟨by rfl, fun _ _ => rfl⟩) hH (by decide) ?_
                        simp only [List.getElem_toArray, List.getElem_cons_succ, List.getElem_cons_zero, Act.put, List.setIfInBounds_toArray, List.set_cons_zero, List.set_cons_succ]
                        refine wpZ_takeP (i := 2) (v := .pointer (some ⟨Ar, 2, none⟩)) rfl (by kernel_rfl) (by kernel_rfl) (by kernel_rfl) (fun _ _ _ h => h) (.inl ⟨by rfl, fun w' hS' => by first | (go_simp; done) | (go_simp; rfl) | (go_simp; intro h; omega) | (go_simp; omega)⟩) hH (by decide) ?_
                        simp only [List.getElem_toArray, List.getElem_cons_succ, List.getElem_cons_zero, Act.put, List.setIfInBounds_toArray, List.set_cons_zero, List.set_cons_succ]
                        refine wpZ_take (i := 3) (v := .int .i64 (A.dst : Int)) rfl (by kernel_rfl) (by kernel_rfl) (by kernel_rfl) (fun _ _ _ h => h) (.inl ⟨by rfl, fun w' hS' => by obtain ⟨s1, s2, s3, s4, s5⟩ := hS'; go_simp⟩) hH rfl (by decide) (by kernel_rfl) (by kernel_rfl) ?_
                        simp only [List.getElem_toArray, List.getElem_cons_succ, List.getElem_cons_zero, Act.put, List.setIfInBounds_toArray, List.set_cons_zero, List.set_cons_succ]
                        refine wpZ_take (i := 4) (v := .slice (some ⟨X, 0, none⟩) (tl + 1) (tl + 1)) rfl (by kernel_rfl) (by kernel_rfl) (by kernel_rfl) (fun _ _ _ h => h) (.inl ⟨by rfl, fun w' hS' => by obtain ⟨s1, s2, s3, s4, s5⟩ := hS'; go_simp⟩) hH rfl (by decide) (by kernel_rfl) (by kernel_rfl) ?_
                        simp only [List.getElem_toArray, List.getElem_cons_succ, List.getElem_cons_zero, Act.put, List.setIfInBounds_toArray, List.set_cons_zero, List.set_cons_succ]
                        refine wpZ_takeP (i := 5) (v := .int .i64 (k : Int)) rfl (by kernel_rfl) (by kernel_rfl) (by kernel_rfl) (fun _ _ _ h => h) (.inl ⟨by rfl, fun _ _ => rfl⟩) hH (by decide) ?_
                        simp only [List.getElem_toArray, List.getElem_cons_succ, List.getElem_cons_zero, Act.put, List.setIfInBounds_toArray, List.set_cons_zero, List.set_cons_succ]
                        refine wpZ_takeP (i := 6) (v := .pointer (some ⟨X, k, none⟩)) rfl (by kernel_rfl) (by kernel_rfl) (by kernel_rfl) (fun _ _ _ h => h) (.inl ⟨by rfl, fun w' hS' => by first | (go_simp; done) | (go_simp; rfl) | (go_simp; intro h; omega) | (go_simp; omega)⟩) hH (by decide) ?_
                        simp only [List.getElem_toArray, List.getElem_cons_succ, List.getElem_cons_zero, Act.put, List.setIfInBounds_toArray, List.set_cons_zero, List.set_cons_succ]
                        refine wpZ_take (i := 7) (v := .slice (some ⟨gk, 0, none⟩) M M) rfl (by kernel_rfl) (by kernel_rfl) (by kernel_rfl) (fun _ _ _ h => h) (.inl ⟨by rfl, fun w' hS' => by obtain ⟨s1, s2, s3, s4, s5⟩ := hS'; go_simp⟩) hH rfl (by decide) (by kernel_rfl) (by kernel_rfl) ?_
                        simp only [List.getElem_toArray, List.getElem_cons_succ, List.getElem_cons_zero, Act.put, List.setIfInBounds_toArray, List.set_cons_zero, List.set_cons_succ]
                        refine wpZ_takeP (i := 8) (v := .pointer (some ⟨Ar, 0, none⟩)) rfl (by kernel_rfl) (by kernel_rfl) (by kernel_rfl) (fun _ _ _ h => h) (.inl ⟨by rfl, fun w' hS' => by first | (go_simp; done) | (go_simp; rfl) | (go_simp; intro h; omega) | (go_simp; omega)⟩) hH (by decide) ?_
                        simp only [List.getElem_toArray, List.getElem_cons_succ, List.getElem_cons_zero, Act.put, List.setIfInBounds_toArray, List.set_cons_zero, List.set_cons_succ]
                        refine wpZ_take (i := 9) (v := .int .i64 (A.frm : Int)) rfl (by kernel_rfl) (by kernel_rfl) (by kernel_rfl) (fun _ _ _ h => h) (.inl ⟨by rfl, fun w' hS' => by obtain ⟨s1, s2, s3, s4, s5⟩ := hS'; go_simp⟩) hH rfl (by decide) (by kernel_rfl) (by kernel_rfl) ?_
                        simp only [List.getElem_toArray, List.getElem_cons_succ, List.getElem_cons_zero, Act.put, List.setIfInBounds_toArray, List.set_cons_zero, List.set_cons_succ]
                        refine wpZ_takeP (i := 10) (v := .pointer (some ⟨gk, A.frm, none⟩)) rfl (by kernel_rfl) (by kernel_rfl) (by kernel_rfl) (fun _ _ _ h => h) (.inl ⟨by rfl, fun w' hS' => by first | (go_simp; done) | (go_simp; rfl) | (go_simp; intro h; omega) | (go_simp; omega)⟩) hH (by decide) ?_
                        simp only [List.getElem_toArray, List.getElem_cons_succ, List.getElem_cons_zero, Act.put, List.setIfInBounds_toArray, List.set_cons_zero, List.set_cons_succ]
                        refine wpZ_take (i := 11) (v := .int .i64 Z) rfl (by kernel_rfl) (by kernel_rfl) (by kernel_rfl) (fun _ _ _ h => h) (.inl ⟨by rfl, fun w' hS' => by obtain ⟨s1, s2, s3, s4, s5⟩ := hS'; go_simp⟩) hH rfl (by decide) (by kernel_rfl) (by kernel_rfl) ?_
                        simp only [List.getElem_toArray, List.getElem_cons_succ, List.getElem_cons_zero, Act.put, List.setIfInBounds_toArray, List.set_cons_zero, List.set_cons_succ]
                        refine wpZ_takeP (i := 12) (v := .int .i64 L) rfl (by kernel_rfl) (by kernel_rfl) (by kernel_rfl) (fun _ _ _ h => h) (.inl ⟨by rfl, fun _ _ => rfl⟩) hH (by decide) ?_
                        simp only [List.getElem_toArray, List.getElem_cons_succ, List.getElem_cons_zero, Act.put, List.setIfInBounds_toArray, List.set_cons_zero, List.set_cons_succ]
                        refine wpZ_takeP (i := 13) (v := .int .i64 (min L 1)) rfl (by kernel_rfl) (by kernel_rfl) (by kernel_rfl) (fun _ _ _ h => h) (.inl ⟨by rfl, fun w' hS' => by first | (go_simp; done) | (go_simp; rfl) | (go_simp; intro h; omega) | (go_simp; omega)⟩) hH (by decide) ?_
                        simp only [List.getElem_toArray, List.getElem_cons_succ, List.getElem_cons_zero, Act.put, List.setIfInBounds_toArray, List.set_cons_zero, List.set_cons_succ]
                        refine wpZ_takeP (i := 14) (v := .int .i64 (Z + min L 1)) rfl (by kernel_rfl) (by kernel_rfl) (by kernel_rfl) (fun _ _ _ h => h) (.inl ⟨by rfl, fun w' hS' => by first | (go_simp; done) | (go_simp; rfl) | (go_simp; intro h; omega) | (go_simp; omega)⟩) hH (by decide) ?_
                        simp only [List.getElem_toArray, List.getElem_cons_succ, List.getElem_cons_zero, Act.put, List.setIfInBounds_toArray, List.set_cons_zero, List.set_cons_succ]
                        refine wpZ_ready (rs := [15]) (by kernel_rfl) (by simp) ?_
                        refine AllZ.last rfl (by kernel_rfl) (fun K hK => ?_) AllZ.nil
                        simp only [List.getElem_toArray, List.getElem_cons_succ, List.getElem_cons_zero]
                        rw [if_pos (by rfl)]
                        go_wp2_with fail
                        refine hB31.mono ?_
                        rintro e w9 ⟨rfl, hC9, _, hO9⟩
                        refine hK.out _ _ ?_
                        clear hK
                        refine wpZ_done (by kernel_rfl) ?_ _
                        have HC9 : Hid (CostAt X T ab w2 w9 (tl + 1) M g (f1C (labT n) f1 k A) (g1C (labT n) f1 k A ag1)) := by
                          show CostAt _ _ _ _ _ _ _ _ _ _
                          unfold f1C g1C
                          rw [HL.out, HZ.out]
                          exact hC9
                        have hArg : Ar ≠ gk := by have h1 := HCs.out.mat.hi k (by omega); rw [Hgk.out] at h1; have h2 := HAr.out; omega
                        have hArb : Ar ≠ ab := by have h1 := HCs.out.flagB.2.1; have h2 := HAr.out; omega
                        have hO9' : Others gk ab wa.drew w9 := by rw [← Hgk.out]; exact hO9
                        have v0 : Hid (w9.cell? ⟨Ar, 0, none⟩ = some (.int .i64 (A.frm : Int))) := (hO9' Ar 0 hArg hArb).trans z0
                        have v2 : Hid (w9.cell? ⟨Ar, 2, none⟩ = some (.int .i64 (A.dst : Int))) := (hO9' Ar 2 hArg hArb).trans z2
                        clear hC9 HS31 hB31 bdr wZ hLm hc2 hr2 hb2 hH hO9 hO9'
                        by_cases hkt : k < tl
                        · have n3 : decide ((k : Int) < (tl : Int)) = true := by rw [decide_eq_true_eq]; omega
                          have hkI : (k : Int) < (tl : Int) := by omega
                          have hkt2 : k < tr.length := by rw [Htl.out]; exact hkt
                          have hsw9 : Below w2.heap.size w2 w9 := by rw [HX.out]; exact HC9.out.mat.below
                          obtain ⟨tb, tq, rfl, htb, t0⟩ := ((hu.below c1).below hsw9).row k hkt2
                          obtain ⟨tk, Htk⟩ : ∃ z, Hid (nth tr k = z) := ⟨_, rfl⟩
                          rw [Htk.out] at t0
                          by_cases hL1 : 0 < L
                          · have n4 : decide (L > 0) = true := by rw [decide_eq_true_eq]; exact hL1
                            by_cases hte : tk = L
                            · have n5 : (tk == L) = true := by rw [beq_iff_eq]; exact hte
                              have hbo : both tr k (labT n A.tran) = true := by
                                unfold both
                                rw [HL.out, Htk.out, decide_eq_true hkt2, decide_eq_true hL1, n5]; rfl
                              have hP1 := hP.arcYes HAj.out hkT q1 q2 hla hbo
                              have hle := (hP.mid.arc1 (k := k) hkT HAm.out q1 q2 hla).ok.le (k := k) (m := A.frm) hkT q1
                              have hB := fun w' hw' => better_any (HC9.out.to hw' : CostAt X T ab w2 w' (tl + 1) M g (f1C (labT n) f1 k A) (g1C (labT n) f1 k A ag1)) (k + 1) A.dst (f1C (labT n) f1 k A k A.frm) (by omega) q2 (by omega) (by omega)
                              have hc2 := HC9.out.mat.cell k A.frm (by omega) q1
                              have hr2 := HC9.out.mat.row k (by omega)
                              have hb2 := HC9.out.box
                              obtain ⟨Z2, HZ2⟩ : ∃ z, Hid (f1C (labT n) f1 k A k A.frm = z) := ⟨_, rfl⟩
                              rw [HZ2.out] at hc2 hP1 hB
                              rw [Hgk.out] at hc2 hr2
                              rw [show (((k + 1 : Nat)) : Int) = (k : Int) + 1 by omega] at hB
                              have wk : IntKind.i64.wrap ((k : Int) + 1) = (k : Int) + 1 := Go.IntWalk.i64_in _ ⟨by omega, by omega⟩
                              have bdr := (Below.refl w9.heap.size w9).drew
                              have hB33 := hB _ bdr
                              have HS33 : Hid (w9.drew.cell? ⟨Ar, 2, none⟩ = some (.int .i64 (A.dst : Int)) ∧ w9.drew.cell? ⟨T, 0, none⟩ = some (.slice (some ⟨X, 0, none⟩) (tl + 1) (tl + 1)) ∧ w9.drew.cell? ⟨X, k, none⟩ = some (.slice (some ⟨gk, 0, none⟩) M M) ∧ w9.drew.cell? ⟨Ar, 0, none⟩ = some (.int .i64 (A.frm : Int)) ∧ w9.drew.cell? ⟨gk, A.frm, none⟩ = some (.int .i64 Z2)) := ⟨v2.out, hb2, hr2, v0.out, hc2⟩
                              clear hB hle hP
                              go_upto_region 33 with fail
                              refine wp_region_Z (S := (fun w' => w'.cell? ⟨Ar, 2, none⟩ = some (.int .i64 (A.dst : Int)) ∧ w'.cell? ⟨T, 0, none⟩ = some (.slice (some ⟨X, 0, none⟩) (tl + 1) (tl + 1)) ∧ w'.cell? ⟨X, k, none⟩ = some (.slice (some ⟨gk, 0, none⟩) M M) ∧ w'.cell? ⟨Ar, 0, none⟩ = some (.int .i64 (A.frm : Int)) ∧ w'.cell? ⟨gk, A.frm, none⟩ = some (.int .i64 Z2))) (by kernel_rfl) 13 HS33.out (fun hH => ?_)
                              refine wpZ_takeP (i := 0) (v := .func (.func 22) #[] #[.pointer (some ⟨T, 0, none⟩), .pointer (some ⟨ab, 0, none⟩)]) rfl (by kernel_rfl) (by kernel_rfl) (by kernel_rfl) (fun _ _ _ h => h) (.inl ⟨by rfl, fun _ _ => rfl⟩) hH (by decide) ?_
                              simp only [List.getElem_toArray, List.getElem_cons_succ, List.getElem_cons_zero, Act.put, List.setIfInBounds_toArray, List.set_cons_zero, List.set_cons_succ]
                              refine wpZ_takeP (i := 1) (v := .int .i64 (k : Int)) rfl (by kernel_rfl) (by kernel_rfl) (by kernel_rfl) (fun _ _ _ h => h) (.inl ⟨by rfl, fun _ _ => rfl⟩) hH (by decide) ?_
                              simp only [List.getElem_toArray, List.getElem_cons_succ, List.getElem_cons_zero, Act.put, List.setIfInBounds_toArray, List.set_cons_zero, List.set_cons_succ]
                              refine wpZ_takeP (i := 2) (v := .int .i64 ((k : Int) + 1)) rfl (by kernel_rfl) (by kernel_rfl) (by kernel_rfl) (fun _ _ _ h => h) (.inl ⟨by rfl, fun w' hS' => by first | (go_simp; done) | (go_simp; rfl) | (go_simp; intro h; omega) | (go_simp; omega)⟩) hH (by decide) ?_
                              simp only [List.getElem_toArray, List.getElem_cons_succ, List.getElem_cons_zero, Act.put, List.setIfInBounds_toArray, List.set_cons_zero, List.set_cons_succ]
                              refine wpZ_takeP (i := 3) (v := .pointer (some ⟨Ar, 2, none⟩)) rfl (by kernel_rfl) (by kernel_rfl) (by kernel_rfl) (fun _ _ _ h => h) (.inl ⟨by rfl, fun w' hS' => by first | (go_simp; done) | (go_simp; rfl) | (go_simp; intro h; omega) | (go_simp; omega)⟩) hH (by decide) ?_
                              simp only [List.getElem_toArray, List.getElem_cons_succ, List.getElem_cons_zero, Act.put, List.setIfInBounds_toArray, List.set_cons_zero, List.set_cons_succ]
                              refine wpZ_take (i := 4) (v := .int .i64 (A.dst : Int)) rfl (by kernel_rfl) (by kernel_rfl) (by kernel_rfl) (fun _ _ _ h => h) (.inl ⟨by rfl, fun w' hS' => by obtain ⟨s1, s2, s3, s4, s5⟩ := hS'; go_simp⟩) hH rfl (by decide) (by kernel_rfl) (by kernel_rfl) ?_
                              simp only [List.getElem_toArray, List.getElem_cons_succ, List.getElem_cons_zero, Act.put, List.setIfInBounds_toArray, List.set_cons_zero, List.set_cons_succ]
                              refine wpZ_take (i := 5) (v := .slice (some ⟨X, 0, none⟩) (tl + 1) (tl + 1)) rfl (by kernel_rfl) (by kernel_rfl) (by kernel_rfl) (fun _ _ _ h => h) (.inl ⟨by rfl, fun w' hS' => by obtain ⟨s1, s2, s3, s4, s5⟩ := hS'; go_simp⟩) hH rfl (by decide) (by kernel_rfl) (by kernel_rfl) ?_
                              simp only [List.getElem_toArray, List.getElem_cons_succ, List.getElem_cons_zero, Act.put, List.setIfInBounds_toArray, List.set_cons_zero, List.set_cons_succ]
                              refine wpZ_takeP (i := 6) (v := .int .i64 (k : Int)) rfl (by kernel_rfl) (by kernel_rfl) (by kernel_rfl) (fun _ _ _ h => h) (.inl ⟨by rfl, fun _ _ => rfl⟩) hH (by decide) ?_
                              simp only [List.getElem_toArray, List.getElem_cons_succ, List.getElem_cons_zero, Act.put, List.setIfInBounds_toArray, List.set_cons_zero, List.set_cons_succ]
                              refine wpZ_takeP (i := 7) (v := .pointer (some ⟨X, k, none⟩)) rfl (by kernel_rfl) (by kernel_rfl) (by kernel_rfl) (fun _ _ _ h => h) (.inl ⟨by rfl, fun w' hS' => by first | (go_simp; done) | (go_simp; rfl) | (go_simp; intro h; omega) | (go_simp; omega)⟩) hH (by decide) ?_
                              simp only [List.getElem_toArray, List.getElem_cons_succ, List.getElem_cons_zero, Act.put, List.setIfInBounds_toArray, List.set_cons_zero, List.set_cons_succ]
                              refine wpZ_take (i := 8) (v := .slice (some ⟨gk, 0, none⟩) M M) rfl (by kernel_rfl) (by kernel_rfl) (by kernel_rfl) (fun _ _ _ h => h) (.inl ⟨by rfl, fun w' hS' => by obtain ⟨s1, s2, s3, s4, s5⟩ := hS'; go_simp⟩) hH rfl (by decide) (by kernel_rfl) (by kernel_rfl) ?_
                              simp only [List.getElem_toArray, List.getElem_cons_succ, List.getElem_cons_zero, Act.put, List.setIfInBounds_toArray, List.set_cons_zero, List.set_cons_succ]
                              refine wpZ_takeP (i := 9) (v := .pointer (some ⟨Ar, 0, none⟩)) rfl (by kernel_rfl) (by kernel_rfl) (by kernel_rfl) (fun _ _ _ h => h) (.inl ⟨by rfl, fun w' hS' => by first | (go_simp; done) | (go_simp; rfl) | (go_simp; intro h; omega) | (go_simp; omega)⟩) hH (by decide) ?_
                              simp only [List.getElem_toArray, List.getElem_cons_succ, List.getElem_cons_zero, Act.put, List.setIfInBounds_toArray, List.set_cons_zero, List.set_cons_succ]
                              refine wpZ_take (i := 10) (v := .int .i64 (A.frm : Int)) rfl (by kernel_rfl) (by kernel_rfl) (by kernel_rfl) (fun _ _ _ h => h) (.inl ⟨by rfl, fun w' hS' => by obtain ⟨s1, s2, s3, s4, s5⟩ := hS'; go_simp⟩) hH rfl (by decide) (by kernel_rfl) (by kernel_rfl) ?_
                              simp only [List.getElem_toArray, List.getElem_cons_succ, List.getElem_cons_zero, Act.put, List.setIfInBounds_toArray, List.set_cons_zero, List.set_cons_succ]
                              refine wpZ_takeP (i := 11) (v := .pointer (some ⟨gk, A.frm, none⟩)) rfl (by kernel_rfl) (by kernel_rfl) (by kernel_rfl) (fun _ _ _ h => h) (.inl ⟨by rfl, fun w' hS' => by first | (go_simp; done) | (go_simp; rfl) | (go_simp; intro h; omega) | (go_simp; omega)⟩) hH (by decide) ?_
                              simp only [List.getElem_toArray, List.getElem_cons_succ, List.getElem_cons_zero, Act.put, List.setIfInBounds_toArray, List.set_cons_zero, List.set_cons_succ]
                              refine wpZ_take (i := 12) (v := .int .i64 Z2) rfl (by kernel_rfl) (by kernel_rfl) (by kernel_rfl) (fun _ _ _ h => h) (.inl ⟨by rfl, fun w' hS' => by obtain ⟨s1, s2, s3, s4, s5⟩ := hS'; go_simp⟩) hH rfl (by decide) (by kernel_rfl) (by kernel_rfl) ?_
                              simp only [List.getElem_toArray, List.getElem_cons_succ, List.getElem_cons_zero, Act.put, List.setIfInBounds_toArray, List.set_cons_zero, List.set_cons_succ]
                              refine wpZ_ready (rs := [13]) (by kernel_rfl) (by simp) ?_
                              refine AllZ.last rfl (by kernel_rfl) (fun K hK => ?_) AllZ.nil
                              simp only [List.getElem_toArray, List.getElem_cons_succ, List.getElem_cons_zero]
                              rw [if_pos (by rfl)]
                              go_wp2_with fail
                              refine hB33.mono ?_
                              rintro e w10 ⟨rfl, hC10, _, _⟩
                              refine hK.out _ _ ?_
                              clear hK
                              refine wpZ_done (by kernel_rfl) ?_ _
                              clear HS33 hB33 bdr wk hc2 hr2 hb2 hH
                              go_wp2
                              go_roundg (g5 - 1)
                              case measure => omega
                              case rel => exact ⟨j + 1, _, _, by omega, by go_num, hC10, hP1⟩
                            · have n5 : (tk == L) = false := by rw [beq_eq_false_iff_ne]; exact hte
                              have hbo : both tr k (labT n A.tran) = false := by
                                unfold both
                                rw [HL.out, Htk.out, n5, Bool.and_false]
                              have hP1 := hP.arcNo HAj.out hkT q1 q2 hla hbo
                              clear hP
                              go_wp2
                              go_roundg (g5 - 1)
                              case measure => omega
                              case rel => exact ⟨j + 1, _, _, by omega, by go_num, HC9.out, hP1⟩
                          · have n4 : decide (L > 0) = false := by rw [decide_eq_false_iff_not]; exact hL1
                            have hbo : both tr k (labT n A.tran) = false := by
                              unfold both
                              rw [HL.out, decide_eq_false hL1, Bool.and_false]; rfl
                            have hP1 := hP.arcNo HAj.out hkT q1 q2 hla hbo
                            clear hP
                            go_wp2
                            go_roundg (g5 - 1)
                            case measure => omega
                            case rel => exact ⟨j + 1, _, _, by omega, by go_num, HC9.out, hP1⟩
                        · have hbo : both tr k (labT n A.tran) = false := by unfold both; rw [decide_eq_false (by rw [Htl.out]; exact hkt)]; rfl
                          have hP1 := hP.arcNo HAj.out hkT q1 q2 hla hbo
                          have n3 : decide ((k : Int) < (tl : Int)) = false := by rw [decide_eq_false_iff_not]; omega
                          clear hP
                          go_wp2
                          go_roundg (g5 - 1)
                          case measure => omega
                          case rel => exact ⟨j + 1, _, _, by omega, by go_num, HC9.out, hP1⟩
                      · have HjA : Hid (s.arcs.length = j) := by show _ = _; rw [Hal.out]; omega
                        have hP0 : Prog s.arcs (labT n) tr M f f1 ag1 k s.arcs.length 0 := by rw [HjA.out]; exact hP
                        have hS0 := (hsb.below hsw).2.1
                        go_wp2_with fail
                        go_loopg [154] M (fun gk i' wr => ∃ (m : Nat) (f1 : Nat → Nat → Int) (ag1 : Bool), m + gk = M ∧ i' = .int .i64 (m : Int) ∧ CostAt X T ab w2 wr (tl + 1) M g f1 ag1 ∧ Prog s.arcs (labT n) tr M f f1 ag1 k s.arcs.length m)
                        case atStart => exact ⟨0, f1, ag1, by omega, rfl, hC1, hP0⟩
                        case round =>
                          clear hC1 hP hP0 hS0 hsw f1 ag1
                          obtain ⟨m, f1, ag1, hmg, rfl, hC1, hP⟩ := hrel
                          obtain ⟨g6, rfl⟩ : ∃ z, z = gk := ⟨_, rfl⟩
                          by_cases hm : m < M
                          · by_cases hkt : k < tl
                            · have hP1 := hP.markYes (by rw [Htl.out]; exact hkt) hm
                              have n3 : decide ((k : Int) < (tl : Int)) = true := by rw [decide_eq_true_eq]; omega
                              have hle := hP.ok.le (k := k) (m := m) (by rw [Htl.out]; omega) hm
                              have r0 := hC1.box
                              have r1 := hC1.mat.row k (by omega)
                              have r2 := hC1.mat.cell k m (by omega) hm
                              have hB := better_any hC1 (k + 1) m (f1 k m + 1) (by omega) hm (by omega) (by omega)
                              rw [show (((k + 1 : Nat)) : Int) = (k : Int) + 1 by omega] at hB
                              obtain ⟨z, HZ⟩ : ∃ z, Hid (f1 k m = z) := ⟨_, rfl⟩
                              rw [HZ.out] at hP1 hle r2 hB
                              have hz2 : z ≤ 1073741824 := hle.2
                              have hz1 : 0 ≤ z := hle.1
                              clear hP hC1 hle
                              go_upto_region 40 with (go_at_call 22; refine hB.mono ?_; rintro e w9 ⟨rfl, hC9, _, _⟩)
                              clear hB
                              go_wp2
                              go_roundg (g6 - 1)
                              case measure => omega
                              case rel => exact ⟨m + 1, _, _, by omega, by go_num, hC9, hP1⟩
                            · have hP1 := hP.markNo (by rw [Htl.out]; exact hkt)
                              have n3 : decide ((k : Int) < (tl : Int)) = false := by rw [decide_eq_false_iff_not]; omega
                              go_wp2
                              go_roundg (g6 - 1)
                              case measure => omega
                              case rel => exact ⟨m + 1, f1, ag1, by omega, by go_num, hC1, hP1⟩
                          · obtain rfl : m = M := by omega
                            have hP1 := hP.rowNext
                            go_wp2
                            go_roundg (g4 - 1)
                            case measure => omega
                            case rel => exact ⟨k + 1, f1, ag1, by omega, by go_num, hC1, hP1⟩
                  · obtain rfl : k = tl + 1 := by omega
                    have hf := hP.falls
                    rw [Htl.out] at hf
                    have x0 := hC1.flag
                    have hC9 := hC1.again
                    have HCl : Hid (ag1 = false → CalmTo s.arcs (labT n) tr M f1 (tr.length + 1) 0 0) := fun q => by have := (hP.calm q).2; rw [Htl.out]; exact this
                    have hOk1 := hP.ok
                    have hg3 : leftC (tl + 1) M f1 ag1 < g3 := by rw [HG.out]; exact hf
                    clear hP hf hC1
                    go_wp2
                    go_roundg (leftC (tl + 1) M f1 ag1)
                    case measure => exact hg3
                    case rel => exact ⟨_, f1, ag1, rfl, hC9, hOk1, HCl, rfl⟩
  · have n1 : (d == 0) = false := by rw [beq_eq_false_iff_ne]; exact hd
    have n2 : (d != 0) = true := by rw [bne_iff_ne]; exact hd
    have R : Hid (UAns n i o tr 0 d) := ⟨s, a, d, hL, .inl ⟨hd, rfl, rfl⟩⟩
    clear hL
    go_wp2
    go_ret2
    exact ⟨0, d, rfl, R.out, c1⟩

end Go.Proofs.Ytakgppoeikcepaa

/- spread: on from all spots of a level. (Made by tools/gen_alignspread.py.) -/
namespace Go.Proofs.Ytakgppoeikcepaa
open Go.RowKit
set_option linter.unusedVariables false
set_option linter.unusedSimpArgs false
set_option maxRecDepth 4000

theorem room_of {A : List ArcL} {lb : Nat → Int} {tr : List Int} {N c n X : Nat} {here : Nat × Nat} {sh : StepL} {st : SrchL} {pend : List (Nat × Nat)} {l : List ((Nat × Nat) × MoveL)} (hc : sh.cost = c) (h : InvS A lb tr N c st pend) (hh : st.by_ here = some sh) (hl : ∀ x ∈ l, AStep A lb tr here x.2 x.1 ∧ x.1.1 < N ∧ x.1.2 ≤ tr.length)
    (hs : sizeS N tr.length c st ≤ X) (hX : X + n + 1 ≤ 1000000) : RoomA here c n st l := by
  intro l1 l2 e
  have h1 := InvS.roomAll (l := l1) hc h hh (fun x hx => hl x (by rw [e]; exact List.mem_append.2 (.inl hx)))
  unfold sizeS at h1 hs
  omega

theorem row_len {w : World} {B : Nat} {e : TypeId} {size n l c : Nat} {a : Option Addr} {xs : List Value} (h : w.ownsRow B e size (.slice a l c) n xs) : l = n := by
  rcases h.2 with ⟨q, h0⟩ | ⟨g, cap, cur, q, _⟩
  · injection q with _ q _; omega
  · injection q
theorem row_spot {w : World} {B l c k : Nat} {a : Option Addr} {ls : List (Nat × Nat)} (h : w.ownsRow B 60 2 (.slice a l c) ls.length (cellsS ls)) (hk : k < ls.length) :
    ∃ b, a = some ⟨b, 0, none⟩ ∧ w.cell? ⟨b, k * 2, none⟩ = some (.int .i64 ((ls.getD k (0, 0)).1 : Int)) ∧ w.cell? ⟨b, k * 2 + 1, none⟩ = some (.int .i64 ((ls.getD k (0, 0)).2 : Int)) := by
  have h0 := h
  rcases h.2 with ⟨q, hz⟩ | ⟨g, cap, cur, q, _⟩
  · omega
  · injection q with q1 q2 q3
    subst q1 q2 q3
    obtain ⟨e1, e2⟩ := cellsS_at ls k hk
    exact ⟨g, rfl, by rw [h0.cellAt (k * 2) (by omega)]; exact e1, by rw [h0.cellAt (k * 2 + 1) (by omega)]; exact e2⟩

/-- spread at work. -/
structure SprA (B L D mb n0 C Sx S c N : Nat) (st0 : SrchL) (lv0 dv0 v0 v1 v2 : Value) (tr : List Int) (ts : List TranL) (R : Nat → List ArcL) (A : List ArcL) (w wr : World) (kk n : Nat) (st : SrchL) (lv dv : Value) : Prop where
  at_ : SpAt B wr L D mb n st lv dv
  costB : Box1 wr C (.int .i64 (c : Int))
  ptrB : Box1 wr Sx (.pointer (some ⟨S, 0, none⟩))
  srch : Box4A wr S v0 v1 v2 (.map (some mb))
  off : ¬ mineA L D mb lv dv C ∧ ¬ mineA L D mb lv dv Sx ∧ ¬ mineA L D mb lv dv S
  read : ReadA (mineA L D mb lv dv) wr v0 v1 v2 tr ts N R
  keeps : KeepsA w (mineA L D mb lv0 dv0) wr (mineA L D mb lv dv)
  inv : InvS A (lbT ts) tr N c st (st.level.drop kk)
  le : kk ≤ st.level.length
  count : n + st0.level.length = n0 + st.level.length + st.dear.length
  size : sizeS N tr.length c st ≤ sizeS N tr.length c st0
  grow : st0.level.length ≤ st.level.length
section
variable {B L D mb n0 C Sx S c N : Nat} {st0 : SrchL} {lv0 dv0 v0 v1 v2 : Value} {tr : List Int} {ts : List TranL} {R : Nat → List ArcL} {A : List ArcL} {w wr : World} {kk n : Nat} {st : SrchL} {lv dv : Value}
theorem SprA.below {w2 : World} (h : SprA B L D mb n0 C Sx S c N st0 lv0 dv0 v0 v1 v2 tr ts R A w wr kk n st lv dv) (hb : Below wr.heap.size wr w2) : SprA B L D mb n0 C Sx S c N st0 lv0 dv0 v0 v1 v2 tr ts R A w w2 kk n st lv dv :=
  ⟨h.at_.to hb, h.costB.below hb, h.ptrB.below hb, h.srch.below hb, h.off, h.read.below hb, h.keeps.trans (KeepsA.below hb _), h.inv, h.le, h.count, h.size, h.grow⟩
theorem SprA.here (h : SprA B L D mb n0 C Sx S c N st0 lv0 dv0 v0 v1 v2 tr ts R A w wr kk n st lv dv) (hk : kk < st.level.length) : st.level.drop kk = st.level.getD kk (0, 0) :: st.level.drop (kk + 1) ∧ ∃ s, st.by_ (st.level.getD kk (0, 0)) = some s ∧ s.cost ≤ c := by
  have e : st.level.drop kk = st.level.getD kk (0, 0) :: st.level.drop (kk + 1) := by
    rw [List.drop_eq_getElem_cons hk]
    congr 1
    simp [List.getD, hk]
  exact ⟨e, h.inv.levelIn _ (by rw [e]; simp)⟩
theorem SprA.skip (h : SprA B L D mb n0 C Sx S c N st0 lv0 dv0 v0 v1 v2 tr ts R A w wr kk n st lv dv) (hk : kk < st.level.length) {s : StepL} (hs : st.by_ (st.level.getD kk (0, 0)) = some s) (hc : s.cost < c) : SprA B L D mb n0 C Sx S c N st0 lv0 dv0 v0 v1 v2 tr ts R A w wr (kk + 1) n st lv dv := by
  have hI := h.inv
  rw [(h.here hk).1] at hI
  exact ⟨h.at_, h.costB, h.ptrB, h.srch, h.off, h.read, h.keeps, hI.stale hs hc, hk, h.count, h.size, h.grow⟩
theorem moves_in (hA : ∀ a ∈ A, a.dst < N ∧ a.tran < ts.length) {p : Nat × Nat} (h1 : p.1 < N) (h2 : p.2 ≤ tr.length) : ∀ x ∈ movesS (lbT ts) tr p (A.filter fun a => a.frm == p.1), AStep A (lbT ts) tr p x.2 x.1 ∧ x.1.1 < N ∧ x.1.2 ≤ tr.length := by
  intro x hx
  have hs := (moves_iff (A := A) (lb := lbT ts) (tr := tr) (p := p) x.2 x.1).2 hx
  exact ⟨hs, hs.mark (fun a ha => (hA a ha).1) h1, hs.seen.2.2 h2⟩
theorem relaxAll_dear (here : Nat × Nat) (c : Nat) : ∀ (l : List ((Nat × Nat) × MoveL)) (st : SrchL), st.dear.length ≤ (relaxAll here c st l).dear.length
  | [], st => Nat.le_refl _
  | x :: l, st => by
    refine Nat.le_trans ?_ (relaxAll_dear here c l (relaxS here c st x))
    rw [relax_dear, List.length_append]
    omega
/-- All moves from a spot were looked at. -/
theorem SprA.gone {H n' : Nat} {lv' dv' : Value} {w2 w3 : World} {l : List ((Nat × Nat) × MoveL)} (h : SprA B L D mb n0 C Sx S c N st0 lv0 dv0 v0 v1 v2 tr ts R A w wr kk n st lv dv) (hk : kk < st.level.length) {s : StepL} (hs : st.by_ (st.level.getD kk (0, 0)) = some s) (hc : s.cost = c)
    (hl : l = movesS (lbT ts) tr (st.level.getD kk (0, 0)) (A.filter fun a => a.frm == (st.level.getD kk (0, 0)).1)) (hA : ∀ a ∈ A, a.dst < N ∧ a.tran < ts.length) (hb : Below wr.heap.size wr w2)
    (hE : EachA B L D mb n H C Sx S c (st.level.getD kk (0, 0)) st lv dv v0 v1 v2 tr ts N R w2 w3 l n' lv' dv') :
    SprA B L D mb n0 C Sx S c N st0 lv0 dv0 v0 v1 v2 tr ts R A w w3 (kk + 1) n' (relaxAll (st.level.getD kk (0, 0)) c st l) lv' dv' ∧
      (relaxAll (st.level.getD kk (0, 0)) c st l).level.length + phiS N tr.length c (relaxAll (st.level.getD kk (0, 0)) c st l).by_ ≤ st.level.length + phiS N tr.length c st.by_ := by
  obtain ⟨h1, h2⟩ := (h.inv.range _ _ hs).2
  have hin := moves_in (tr := tr) hA h1 h2
  rw [← hl] at hin
  have hI := h.inv
  rw [(h.here hk).1] at hI
  have hG := hI.gone hs hc (l := l) (fun m q => by rw [hl]; exact moves_iff m q) (fun x hx => (hin x hx).2)
  have hroom := InvS.roomAll (l := l) hc hI hs hin
  have hd := relaxAll_dear (st.level.getD kk (0, 0)) c l st
  have hlv := relaxAll_level (st.level.getD kk (0, 0)) c l st
  have hll : st.level.length ≤ (relaxAll (st.level.getD kk (0, 0)) c st l).level.length := by rw [hlv, List.length_append]; omega
  have e : st.level.drop (kk + 1) ++ pushedAll (st.level.getD kk (0, 0)) c st l = (relaxAll (st.level.getD kk (0, 0)) c st l).level.drop (kk + 1) := by
    rw [hlv, List.drop_append_of_le_length hk]
  rw [e] at hG
  have hcnt := hE.count
  have hcnt0 := h.count
  refine ⟨⟨hE.at_, hE.fix.costB, hE.fix.ptrB, hE.fix.srch, ⟨hE.fix.off.2.1, hE.fix.off.2.2.1, hE.fix.off.2.2.2⟩, hE.read, (h.keeps.trans (KeepsA.below hb _)).trans hE.keeps, hG, by omega, by omega, Nat.le_trans hroom h.size, Nat.le_trans h.grow hll⟩, ?_⟩
  unfold sizeS at hroom
  omega
theorem SprA.range (h : SprA B L D mb n0 C Sx S c N st0 lv0 dv0 v0 v1 v2 tr ts R A w wr kk n st lv dv) {p : Nat × Nat} {s : StepL} (hs : st.by_ p = some s) : p.1 < N ∧ p.2 ≤ tr.length := (h.inv.range _ _ hs).2
end

/-- The blocks that a search writes, between two levels. -/
def mine0 (mb : Nat) (lv : Value) (k : Nat) : Prop := k = mb ∨ lv.ownBlock = some k

set_option maxHeartbeats 8000000 in
theorem spread_any {B mb n S c N : Nat} {st : SrchL} {lv v0 v1 v2 : Value} {tr : List Int} {ts : List TranL} {R : Nat → List ArcL} {A : List ArcL} {w : World} (hm : MapA 60 spotLit okS w mb n (mapV st.by_)) (hrow : w.ownsRow B 60 2 lv st.level.length (cellsS st.level)) (hd : st.dear = [])
    (hS : Box4A w S v0 v1 v2 (.map (some mb))) (hoff : ¬ mine0 mb lv S) (hread : ReadA (mine0 mb lv) w v0 v1 v2 tr ts N R) (hap : lv.ownBlock ≠ some mb) (hBm : B ≤ mb) (hI : InvS A (lbT ts) tr N c st st.level) (hR : ∀ i, i < N → R i = A.filter fun a => a.frm == i)
    (hA : ∀ a ∈ A, a.dst < N ∧ a.tran < ts.length) (htr : tr.length ≤ 60) (hN : N ≤ 300) (hc : c ≤ 1000000) (hsz : n + 2 * sizeS N tr.length c st + 1 ≤ 1000000) :
    Calls Try.prog 30 #[.pointer (some ⟨S, 0, none⟩), lv, .int .i64 (c : Int)] w fun e w' => ∃ n' dv' st', e = .returned dv' ∧ MapA 60 spotLit okS w' mb n' (mapV st'.by_) ∧ w'.ownsRow B 60 2 dv' st'.dear.length (cellsS st'.dear) ∧ dv'.ownBlock ≠ some mb ∧
      KeepsA w (mine0 mb lv) w' (mine0 mb dv') ∧ InvS A (lbT ts) tr N c st' [] ∧ n' + phiS N tr.length c st'.by_ ≤ n + phiS N tr.length c st.by_ ∧ st'.dear.length + phiS N tr.length c st'.by_ ≤ phiS N tr.length c st.by_ := by
  have hx1 := box1_new w (.pointer (some ⟨S, 0, none⟩)) 88
  have b1 := below_new w (.cells #[.pointer (some ⟨S, 0, none⟩)] 88)
  have z1 : (w.alloc (.cells #[.pointer (some ⟨S, 0, none⟩)] 88)).heap.size = w.heap.size + 1 := by simp
  obtain ⟨w1, H1⟩ : ∃ u, Hid (w.alloc (.cells #[.pointer (some ⟨S, 0, none⟩)] 88) = u) := ⟨_, rfl⟩
  rw [H1.out] at hx1 b1 z1
  obtain ⟨la, ll, lc, rfl⟩ := ownsRow_slice hrow
  have hx2 := box1_new w1 (.slice la ll lc) 89
  have f2 : (w1.alloc (.cells #[.slice la ll lc] 89)).frozen? ⟨w1.heap.size, 0, none⟩ = false := World.frozen?_alloc_at _ _ _ _ rfl
  have b2 := below_new w1 (.cells #[.slice la ll lc] 89)
  have z2 : (w1.alloc (.cells #[.slice la ll lc] 89)).heap.size = w.heap.size + 1 + 1 := by simp [z1]
  obtain ⟨w2, H2⟩ : ∃ u, Hid (w1.alloc (.cells #[.slice la ll lc] 89) = u) := ⟨_, rfl⟩
  rw [H2.out] at hx2 b2 z2 f2
  have hx3 := box1_new w2 (.int .i64 (c : Int)) 3
  have b3 := below_new w2 (.cells #[.int .i64 (c : Int)] 3)
  have z3 : (w2.alloc (.cells #[.int .i64 (c : Int)] 3)).heap.size = w.heap.size + 1 + 1 + 1 := by simp [z2]
  obtain ⟨w3, H3⟩ : ∃ u, Hid (w2.alloc (.cells #[.int .i64 (c : Int)] 3) = u) := ⟨_, rfl⟩
  rw [H3.out] at hx3 b3 z3
  have hx4 := box1_new w3 (.slice none 0 0) 89
  have f4 : (w3.alloc (.cells #[.slice none 0 0] 89)).frozen? ⟨w3.heap.size, 0, none⟩ = false := World.frozen?_alloc_at _ _ _ _ rfl
  have b4 := below_new w3 (.cells #[.slice none 0 0] 89)
  have z4 : (w3.alloc (.cells #[.slice none 0 0] 89)).heap.size = w.heap.size + 1 + 1 + 1 + 1 := by simp [z3]
  obtain ⟨w4, H4⟩ : ∃ u, Hid (w3.alloc (.cells #[.slice none 0 0] 89) = u) := ⟨_, rfl⟩
  rw [H4.out] at hx4 b4 z4 f4
  rw [z1] at hx2 f2
  rw [z2] at hx3
  rw [z3] at hx4 f4
  have f2b : w4.frozen? ⟨w.heap.size + 1, 0, none⟩ = false := by
    rw [b4.frozen (p := ⟨w.heap.size + 1, 0, none⟩) (by show w.heap.size + 1 < w3.heap.size; omega), b3.frozen (p := ⟨w.heap.size + 1, 0, none⟩) (by show w.heap.size + 1 < w2.heap.size; omega)]
    exact f2
  replace hx1 := ((hx1.below b2).below b3).below b4
  replace hx2 := (hx2.below b3).below b4
  replace hx3 := hx3.below b4
  have b := below_then (below_then (below_then b1 b2) b3) b4
  have hlt : ∀ k, (Value.slice la ll lc).ownBlock = some k → B ≤ k ∧ k < w.heap.size := fun k hk => ownsRow_lt hrow hk
  have hmb := hm.lt
  obtain ⟨X, HX⟩ : ∃ x, Hid (w.heap.size = x) := ⟨_, rfl⟩
  have hlo : ∀ k, X ≤ k → (Value.slice la ll lc).ownBlock ≠ some k := fun k hk e => by have := (hlt k e).2; have := HX.out; omega
  rw [HX.out] at hx1 hx2 hx3 hx4 f4 f2b hmb
  have hAt : SpAt B w4 (X + 1) (X + 1 + 1 + 1) mb n st (.slice la ll lc) (.slice none 0 0) := by
    have hB : B ≤ X + 1 := by omega
    refine ⟨((ownsRow_on hrow).below b).now, by rw [hd]; exact World.ownsRow_nil _ _ _ _, hm.below b, hx2.2, hx4.2, f2b, f4, hx2.1, hx4.1, hB, by omega, hBm, ⟨by omega, by omega, by omega⟩, ⟨hlo _ (by omega), hlo _ (by omega), hap⟩, ⟨?_, ?_, ?_⟩, fun k _ => ?_⟩ <;> simp [Value.ownBlock]
  have hmine : ∀ k, k < X → ¬ mine0 mb (.slice la ll lc) k → ¬ mineA (X + 1) (X + 1 + 1 + 1) mb (.slice la ll lc) (.slice none 0 0) k := by
    rintro k hk hn (e | e | e | e | e)
    · omega
    · omega
    · exact hn (.inl e)
    · exact hn (.inr e)
    · simp [Value.ownBlock] at e
  have hRead4 : ReadA (mineA (X + 1) (X + 1 + 1 + 1) mb (.slice la ll lc) (.slice none 0 0)) w4 v0 v1 v2 tr ts N R := by
    have hmw : ∀ k, k < w.heap.size → ¬ mine0 mb (.slice la ll lc) k → ¬ mineA (X + 1) (X + 1 + 1 + 1) mb (.slice la ll lc) (.slice none 0 0) k := by rw [HX.out]; exact hmine
    refine ⟨(hread.trace.weaken hmw).below b, (hread.trans.weaken hmw).below b, ?_⟩
    obtain ⟨rb, rv, e, hrb, hrs⟩ := hread.rows
    exact ⟨rb, rv, e, Nat.lt_of_lt_of_le hrb b.size, fun i hi => ((hrs i hi).weaken hmw).below b⟩
  have hKeep4 : KeepsA w (mine0 mb (.slice la ll lc)) w4 (mineA (X + 1) (X + 1 + 1 + 1) mb (.slice la ll lc) (.slice none 0 0)) := ⟨b.size, fun k hk hn => ⟨b.block k hk, hmine k (by rw [← HX.out]; exact hk) hn⟩, SameO.below b⟩
  have HKeep4 : Hid _ := hKeep4
  have hgo : SprA B (X + 1) (X + 1 + 1 + 1) mb n (X + 1 + 1) X S c N st (.slice la ll lc) (.slice none 0 0) v0 v1 v2 tr ts R A w4 w4 0 n st (.slice la ll lc) (.slice none 0 0) := by
    refine ⟨hAt, hx3, hx1, hS.below b, ⟨?_, ?_, ?_⟩, hRead4, KeepsA.refl _ _, by simpa using hI, Nat.zero_le _, by rw [hd]; rfl, Nat.le_refl _, Nat.le_refl _⟩
    · rintro (e | e | e | e | e)
      · omega
      · omega
      · omega
      · exact hlo _ (by omega) e
      · simp [Value.ownBlock] at e
    · rintro (e | e | e | e | e)
      · omega
      · omega
      · omega
      · exact hlo _ (by omega) e
      · simp [Value.ownBlock] at e
    · exact hmine S (by rw [← HX.out]; exact hS.1) hoff
  have HRR : Hid (∀ i, i < N → R i = A.filter fun a => a.frm == i) := hR
  have HAA : Hid (∀ a ∈ A, a.dst < N ∧ a.tran < ts.length) := hA
  have HSZ : Hid (n + 2 * sizeS N tr.length c st + 1 ≤ 1000000) := hsz
  have HSS : Hid (sizeS N tr.length c st = st.level.length + phiS N tr.length c st.by_) := by show _ = _; unfold sizeS; rw [hd]; simp
  clear hAt hRead4 hKeep4 hmine hlo hlt hx1 hx2 hx3 hx4 f2 f2b f4 b1 b2 b3 b4 z1 z2 z3 z4 hm hrow hS hoff hread hap hI hR hA hsz b hmb hd
  go_enter Try.func30, Try.ntmps30
  go_upto_region 2 with fail
  rw [H1.out, H2.out, H3.out, H4.out, HX.out]
  go_wp2_with fail
  go_loopg [8] (sizeS N tr.length c st) (fun gk i' wr => ∃ (k n' : Nat) (st' : SrchL) (lv' dv' : Value), i' = .int .i64 (k : Int) ∧ SprA B (X + 1) (X + 1 + 1 + 1) mb n (X + 1 + 1) X S c N st (.slice la ll lc) (.slice none 0 0) v0 v1 v2 tr ts R A w4 wr k n' st' lv' dv' ∧ st'.level.length + phiS N tr.length c st'.by_ = k + gk)
  case atStart => exact ⟨0, n, st, _, _, rfl, hgo, by rw [HSS.out]; omega⟩
  case round =>
    clear hgo
    obtain ⟨k, n', st', lv', dv', rfl, hQ, hgk⟩ := hrel
    obtain ⟨la', ll', lc', rfl⟩ := ownsRow_slice hQ.at_.rowL
    have Hl1 : Hid (st'.level.length = ll') := (row_len hQ.at_.rowL).symm
    have c1 := hQ.at_.cellL
    have hbig : ll' + st'.dear.length + n' + 1 ≤ 1000000 ∧ ll' ≤ 1000000 := by
      have h1 := hQ.size; have h2 := HSZ.out; have h3 := hQ.count; have h4 := Hl1.out
      unfold sizeS at h1 h2
      omega
    by_cases hk : k < ll'
    · have hkl : k < st'.level.length := by rw [Hl1.out]; exact hk
      obtain ⟨rb, rfl, r1, r2⟩ := row_spot hQ.at_.rowL hkl
      obtain ⟨_, s, hs, hsc⟩ := hQ.here hkl
      have hrg := hQ.range hs
      obtain ⟨hp, Hhp⟩ : ∃ p, Hid (st'.level.getD k (0, 0) = p) := ⟨_, rfl⟩
      rw [Hhp.out] at r1 r2 hs hrg
      obtain ⟨h1, h2⟩ := hp
      simp only at r1 r2 hrg
      have i0 : (0 : Int) ≤ (k : Int) := by omega
      have i1 : (k : Int) < (ll' : Int) := by omega
      have hH := box2_new wr (.int .i64 (h1 : Int)) (.int .i64 (h2 : Int)) 60
      have bA := below_new wr (.cells #[.int .i64 (h1 : Int), .int .i64 (h2 : Int)] 60)
      have HnH : Hid (¬ mineA (X + 1) (X + 1 + 1 + 1) mb (.slice (some ⟨rb, 0, none⟩) ll' lc') dv' wr.heap.size) := hQ.at_.new (Nat.le_refl _)
      obtain ⟨wA, HA⟩ : ∃ u, Hid (wr.alloc (.cells #[.int .i64 (h1 : Int), .int .i64 (h2 : Int)] 60) = u) := ⟨_, rfl⟩
      rw [HA.out] at hH bA
      go_upto_region 6 with fail
      rw [HA.out]
      obtain ⟨H, HHs⟩ : ∃ x, Hid (wr.heap.size = x) := ⟨_, rfl⟩
      have HbA : Hid (Below wr.heap.size wr wA) := bA
      rw [HHs.out] at hH HnH ⊢
      clear HA bA c1 r1 r2
      obtain ⟨sc, Hsc⟩ : ∃ q, Hid (s.cost = q) := ⟨_, rfl⟩
      rw [Hsc.out] at hsc
      have hQA := hQ.below HbA.out
      obtain ⟨q, hq⟩ : ∃ q, decide (sc < c) = q := ⟨_, rfl⟩
      go_cut [28] (fun x28 wc => x28 = .bool q ∧ Below wA.heap.size wA wc)
      case first =>
        have HV : Hid ((mapV st'.by_ (h1, h2)).getD stepZ = .agg #[.int .i64 (s.frm.1 : Int), .int .i64 (s.frm.2 : Int), .int .i64 s.move.kind, .int .i64 s.move.label, .int .i64 s.move.tran, .int .i64 (sc : Int)]) := by
          show _ = _
          unfold mapV
          rw [hs, ← Hsc.out]; rfl
        obtain ⟨a0, Ha0⟩ : ∃ z, Hid ((s.frm.1 : Int) = z) := ⟨_, rfl⟩
        obtain ⟨a1, Ha1⟩ : ∃ z, Hid ((s.frm.2 : Int) = z) := ⟨_, rfl⟩
        obtain ⟨a2, Ha2⟩ : ∃ z, Hid (s.move.kind = z) := ⟨_, rfl⟩
        obtain ⟨a3, Ha3⟩ : ∃ z, Hid (s.move.label = z) := ⟨_, rfl⟩
        obtain ⟨a4, Ha4⟩ : ∃ z, Hid (s.move.tran = z) := ⟨_, rfl⟩
        rw [Ha0.out, Ha1.out, Ha2.out, Ha3.out, Ha4.out] at HV
        have hok : okS (h1, h2) := ⟨by show h1 ≤ _; omega, by show h2 ≤ _; omega⟩
        have HLK : Hid (∀ w' : World, MapA 60 spotLit okS w' mb n' (mapV st'.by_) → (Instr.lookup 56 (.map (some mb)) (.agg #[.int .i64 (h1 : Int), .int .i64 (h2 : Int)]) false).run Try.prog w' = .ok (.agg #[.int .i64 a0, .int .i64 a1, .int .i64 a2, .int .i64 a3, .int .i64 a4, .int .i64 (sc : Int)]) w') := fun w' hm => by
          have := hm.look spot_key Try.underlying56 (e := 64) (z := stepZ) (by kernel_rfl) hok
          rw [HV.out] at this
          exact this
        have HS : Hid (∀ w', Below wA.heap.size wA w' →  w'.cell? ⟨X, 0, none⟩ = some (.pointer (some ⟨S, 0, none⟩)) ∧ w'.cell? ⟨S, 3, none⟩ = some (.map (some mb)) ∧ w'.cell? ⟨H, 0, none⟩ = some (.int .i64 (h1 : Int)) ∧ w'.cell? ⟨H, 1, none⟩ = some (.int .i64 (h2 : Int)) ∧ w'.cell? ⟨(X + 1 + 1), 0, none⟩ = some (.int .i64 (c : Int)) ∧ MapA 60 spotLit okS w' mb n' (mapV st'.by_)) := fun w' hb => by
          have hq' := hQA.below hb
          obtain ⟨_, q1, q2, q3, q4⟩ := hq'.srch
          obtain ⟨_, q5⟩ := hq'.ptrB
          obtain ⟨_, q6⟩ := hq'.costB
          obtain ⟨_, q7, q8⟩ := hH.below hb
          exact ⟨q5, q4, q7, q8, q6, hq'.at_.map⟩
        refine wp_region_held_drew (S := (fun w' => w'.cell? ⟨X, 0, none⟩ = some (.pointer (some ⟨S, 0, none⟩)) ∧ w'.cell? ⟨S, 3, none⟩ = some (.map (some mb)) ∧ w'.cell? ⟨H, 0, none⟩ = some (.int .i64 (h1 : Int)) ∧ w'.cell? ⟨H, 1, none⟩ = some (.int .i64 (h2 : Int)) ∧ w'.cell? ⟨(X + 1 + 1), 0, none⟩ = some (.int .i64 (c : Int)) ∧ MapA 60 spotLit okS w' mb n' (mapV st'.by_))) (by kernel_rfl) (HS.out _ (Below.refl _ _).drew) (fun hH => ?_)
        have b : Below wA.heap.size wA wA.drew := (Below.refl _ _).drew
        obtain ⟨v0', Hv0⟩ : ∃ v0', Hid (wA.drew = v0') := ⟨_, rfl⟩
        rw [Hv0.out] at hH b ⊢
        clear Hv0
        refine wpAnyH_take (i := 0) (v := .pointer (some ⟨S, 0, none⟩)) rfl (by kernel_rfl) (by kernel_rfl) (by kernel_rfl) (fun _ _ _ h => h) (.inl ⟨by rfl, fun w' hS' => by obtain ⟨s0, s1, s2, s3, s4, hm⟩ := hS'; go_simp⟩) hH ?_
        simp only [List.getElem_toArray, List.getElem_cons_succ, List.getElem_cons_zero, Act.put, List.setIfInBounds_toArray, List.set_cons_zero, List.set_cons_succ]
        refine wpAnyH_take (i := 1) (v := .pointer (some ⟨S, 0, none⟩)) rfl (by kernel_rfl) (by kernel_rfl) (by kernel_rfl) (fun _ _ _ h => h) (.inl ⟨by rfl, fun w' hS' => by first | (go_simp; done) | (go_simp; rfl) | (go_simp; intro h; omega) | (go_simp; omega)⟩) hH ?_
        simp only [List.getElem_toArray, List.getElem_cons_succ, List.getElem_cons_zero, Act.put, List.setIfInBounds_toArray, List.set_cons_zero, List.set_cons_succ]
        refine wpAnyH_take (i := 2) (v := .pointer (some ⟨S, 3, none⟩)) rfl (by kernel_rfl) (by kernel_rfl) (by kernel_rfl) (fun _ _ _ h => h) (.inl ⟨by rfl, fun w' hS' => by first | (go_simp; done) | (go_simp; rfl) | (go_simp; intro h; omega) | (go_simp; omega)⟩) hH ?_
        simp only [List.getElem_toArray, List.getElem_cons_succ, List.getElem_cons_zero, Act.put, List.setIfInBounds_toArray, List.set_cons_zero, List.set_cons_succ]
        refine wpAnyH_take (i := 3) (v := .map (some mb)) rfl (by kernel_rfl) (by kernel_rfl) (by kernel_rfl) (fun _ _ _ h => h) (.inl ⟨by rfl, fun w' hS' => by obtain ⟨s0, s1, s2, s3, s4, hm⟩ := hS'; go_simp⟩) hH ?_
        simp only [List.getElem_toArray, List.getElem_cons_succ, List.getElem_cons_zero, Act.put, List.setIfInBounds_toArray, List.set_cons_zero, List.set_cons_succ]
        refine wpAnyH_take (i := 4) (v := .agg #[.int .i64 (h1 : Int), .int .i64 (h2 : Int)]) rfl (by kernel_rfl) (by kernel_rfl) (by kernel_rfl) (fun _ _ _ h => h) (.inl ⟨by rfl, fun w' hS' => by obtain ⟨s0, s1, s2, s3, s4, hm⟩ := hS'; go_simp⟩) hH ?_
        simp only [List.getElem_toArray, List.getElem_cons_succ, List.getElem_cons_zero, Act.put, List.setIfInBounds_toArray, List.set_cons_zero, List.set_cons_succ]
        refine wpAnyH_take (i := 5) (v := .agg #[.int .i64 a0, .int .i64 a1, .int .i64 a2, .int .i64 a3, .int .i64 a4, .int .i64 (sc : Int)]) rfl (by kernel_rfl) (by kernel_rfl) (by kernel_rfl) (fun _ _ _ h => h) (.inl ⟨by rfl, fun w' hS' => by obtain ⟨s0, s1, s2, s3, s4, hm⟩ := hS'; have hrun := HLK.out _ hm; go_simp⟩) hH ?_
        simp only [List.getElem_toArray, List.getElem_cons_succ, List.getElem_cons_zero, Act.put, List.setIfInBounds_toArray, List.set_cons_zero, List.set_cons_succ]
        refine wpAnyH_take (i := 6) (v := .int .i64 (sc : Int)) rfl (by kernel_rfl) (by kernel_rfl) (by kernel_rfl) (fun _ _ _ h => h) (.inl ⟨by rfl, fun w' hS' => by first | (go_simp; done) | (go_simp; rfl) | (go_simp; intro h; omega) | (go_simp; omega)⟩) hH ?_
        simp only [List.getElem_toArray, List.getElem_cons_succ, List.getElem_cons_zero, Act.put, List.setIfInBounds_toArray, List.set_cons_zero, List.set_cons_succ]
        refine wpAnyH_take (i := 7) (v := .int .i64 (c : Int)) rfl (by kernel_rfl) (by kernel_rfl) (by kernel_rfl) (fun _ _ _ h => h) (.inl ⟨by rfl, fun w' hS' => by obtain ⟨s0, s1, s2, s3, s4, hm⟩ := hS'; go_simp⟩) hH ?_
        simp only [List.getElem_toArray, List.getElem_cons_succ, List.getElem_cons_zero, Act.put, List.setIfInBounds_toArray, List.set_cons_zero, List.set_cons_succ]
        refine wpAnyH_take (i := 8) (v := .bool q) rfl (by kernel_rfl) (by kernel_rfl) (by kernel_rfl) (fun _ _ _ h => h) (.inl ⟨by rfl, fun w' hS' => by first | (go_simp; done) | (go_simp; rfl) | (go_simp; intro h; omega) | (go_simp; omega)⟩) hH ?_
        simp only [List.getElem_toArray, List.getElem_cons_succ, List.getElem_cons_zero, Act.put, List.setIfInBounds_toArray, List.set_cons_zero, List.set_cons_succ]
        refine wpAnyH_done (by kernel_rfl) ?_ _
        go_wp2_with fail
        go_meet
        exact ⟨rfl, b⟩
      case rest =>
        obtain ⟨rfl, bc⟩ := hcut
        obtain ⟨w5, rfl⟩ : ∃ z, z = wc := ⟨_, rfl⟩
        have hQ5 := hQA.below bc
        have hH5 := hH.below bc
        have Hb5 : Hid (Below wr.heap.size wr w5) := below_then HbA.out bc
        clear hQA hH bc
        by_cases hlt : sc < c
        · have hqt : q = true := by rw [← hq]; exact decide_eq_true hlt
          subst hqt
          have HS : Hid _ := hQ5.skip hkl (by rw [Hhp.out]; exact hs) (by rw [Hsc.out]; exact hlt)
          clear hQ5 hQ hH5 hq
          go_wp2
          go_roundg (gk - 1)
          case measure => have := Hl1.out; omega
          case rel => exact ⟨k + 1, n', st', _, _, by go_num, HS.out, by have := Hl1.out; omega⟩
        · have hqf : q = false := by rw [← hq]; exact decide_eq_false hlt
          have hcc : sc = c := by omega
          subst hqf
          have hF : FixA w5 H (X + 1 + 1) X S mb (h1, h2) c v0 v1 v2 (mineA (X + 1) (X + 1 + 1 + 1) mb (.slice (some ⟨rb, 0, none⟩) ll' lc') dv') := ⟨hH5, hQ5.costB, hQ5.ptrB, hQ5.srch, HnH.out, hQ5.off.1, hQ5.off.2.1, hQ5.off.2.2⟩
          have hE := EachA.start (B := B) (n := n') (st := st') (here := (h1, h2)) hQ5.at_ hF hQ5.read
          have hRh : R h1 = A.filter fun a => a.frm == h1 := HRR.out h1 hrg.1
          have hI' := hQ5.inv
          have hRoom : RoomA (h1, h2) c n' st' (movesS (lbT ts) tr (h1, h2) (R (h1, h2).1)) := by
            have hin := moves_in (p := (h1, h2)) (tr := tr) HAA.out hrg.1 hrg.2
            simp only
            rw [hRh]
            exact room_of (X := sizeS N tr.length c st) (by rw [Hsc.out]; exact hcc) hI' hs hin hQ5.size (by have h1 := hQ5.size; have h2 := HSZ.out; have h3 := hQ5.count; unfold sizeS at h1 h2 ⊢; omega)
          have HC := each_any hE hrg.1 hrg.2 htr hN (fun a ha => HAA.out a (by simp only at ha; rw [hRh] at ha; exact (List.mem_filter.1 ha).1)) hc hRoom
          obtain ⟨_, p0⟩ := hQ5.ptrB
          obtain ⟨_, x1, x2⟩ := hH5
          have HGo : Hid (∀ n2 lv2 dv2 w6, EachA B (X + 1) (X + 1 + 1 + 1) mb n' H (X + 1 + 1) X S c (h1, h2) st' (.slice (some ⟨rb, 0, none⟩) ll' lc') dv' v0 v1 v2 tr ts N R w5 w6 (movesS (lbT ts) tr (h1, h2) (R (h1, h2).1)) n2 lv2 dv2 →
              ∃ st2, SprA B (X + 1) (X + 1 + 1 + 1) mb n (X + 1 + 1) X S c N st (.slice la ll lc) (.slice none 0 0) v0 v1 v2 tr ts R A w4 w6 (k + 1) n2 st2 lv2 dv2 ∧ st2.level.length + phiS N tr.length c st2.by_ ≤ st'.level.length + phiS N tr.length c st'.by_) := fun n2 lv2 dv2 w6 hE6 => by
            have := hQ5.gone (w2 := w5) hkl (by rw [Hhp.out]; exact hs) (by rw [Hsc.out]; exact hcc) (l := movesS (lbT ts) tr (h1, h2) (R (h1, h2).1)) (by rw [Hhp.out]; simp only; rw [hRh]) HAA.out (Below.refl _ _) (by rw [Hhp.out]; exact hE6)
            exact ⟨_, this⟩
          clear hE hF hQ hI' hRoom hRh hq
          simp only at HC
          go_wp2_with (go_at_call 51; refine HC.mono ?_; rintro e w6 ⟨n2, lv2, dv2, rfl, hE6⟩)
          obtain ⟨st2, hS2, hlen⟩ := HGo.out _ _ _ _ hE6
          have HS2 : Hid _ := hS2
          have hle2 := hS2.le
          clear hE6 hS2 hQ5 HC HGo
          go_roundg (st2.level.length + phiS N tr.length c st2.by_ - (k + 1))
          case measure => have := Hl1.out; omega
          case rel => exact ⟨k + 1, n2, st2, _, _, by go_num, HS2.out, by omega⟩
    · have hke : k = st'.level.length := by have := hQ.le; have := Hl1.out; omega
      have i1 : ¬ (k : Int) < (ll' : Int) := by omega
      have cd := hQ.at_.cellD
      have hI' := hQ.inv
      rw [hke, List.drop_length] at hI'
      have HEnd : Hid (MapA 60 spotLit okS wr mb n' (mapV st'.by_) ∧ wr.ownsRow B 60 2 dv' st'.dear.length (cellsS st'.dear) ∧ dv'.ownBlock ≠ some mb ∧
          KeepsA w (mine0 mb (.slice la ll lc)) wr (mine0 mb dv') ∧ InvS A (lbT ts) tr N c st' [] ∧ n' + phiS N tr.length c st'.by_ ≤ n + phiS N tr.length c st.by_ ∧ st'.dear.length + phiS N tr.length c st'.by_ ≤ phiS N tr.length c st.by_) := by
        refine ⟨hQ.at_.map, hQ.at_.rowD, hQ.at_.apD.2.2, ?_, hI', ?_, ?_⟩
        · have hk2 := HKeep4.out.trans hQ.keeps
          exact ⟨hk2.size, fun j hj hn => by
            obtain ⟨g1, g2⟩ := hk2.block j hj hn
            exact ⟨g1, fun q => g2 (q.elim (fun e => .inr (.inr (.inl e))) fun e => .inr (.inr (.inr (.inr e))))⟩, hk2.same⟩
        · have h1 := hQ.size; have h2 := HSS.out; have h3 := hQ.count
          unfold sizeS at h1 h2
          omega
        · have h1 := hQ.size; have h2 := HSS.out; have h4 := hQ.grow
          unfold sizeS at h1 h2
          omega
      clear hQ hI'
      go_wp2
      go_ret
      exact ⟨n', dv', rfl, st', HEnd.out⟩

end Go.Proofs.Ytakgppoeikcepaa
/- find: level by level. (Made by tools/gen_alignfw.py.) -/
namespace Go.Proofs.Ytakgppoeikcepaa
open Go.RowKit
set_option linter.unusedVariables false
set_option linter.unusedSimpArgs false
set_option maxRecDepth 4000

def zeroStep : StepL := ⟨(0, 0), ⟨0, 0, 0⟩, 0⟩
theorem mine0_keeps {w w' : World} {mb : Nat} {lv lv' : Value} (h : KeepsA w (mine0 mb lv) w' (mine0 mb lv')) (hl : ∀ k, k < w.heap.size → lv.ownBlock ≠ some k) : KeepsA w (fun k => k = mb) w' (mine0 mb lv') :=
  ⟨h.size, fun k hk hn => h.block k hk (fun q => q.elim hn (hl k hk)), h.same⟩
def roomN (N T : Nat) : Nat := 2 * (N * (T + 1))
theorem roomN_le {N T : Nat} (hN : N ≤ 300) (hT : T ≤ 60) : roomN N T ≤ 36600 := by
  unfold roomN
  have : N * (T + 1) ≤ 300 * 61 := Nat.mul_le_mul hN (by omega)
  omega

/-- find at work: between two levels. -/
structure FindA (B mb S Gb N : Nat) (goal : Nat × Nat) (v0 v1 v2 : Value) (tr : List Int) (ts : List TranL) (R : Nat → List ArcL) (A : List ArcL) (w wr : World) (c n : Nat) (st : SrchL) (lv : Value) : Prop where
  map : MapA 60 spotLit okS wr mb n (mapV st.by_)
  row : wr.ownsRow B 60 2 lv st.level.length (cellsS st.level)
  dear : st.dear = []
  srch : Box4A wr S v0 v1 v2 (.map (some mb))
  goalB : Box2 wr Gb (.int .i64 (goal.1 : Int)) (.int .i64 (goal.2 : Int))
  off : ¬ mine0 mb lv S ∧ ¬ mine0 mb lv Gb
  read : ReadA (mine0 mb lv) wr v0 v1 v2 tr ts N R
  ap : lv.ownBlock ≠ some mb
  inv : InvS A (lbT ts) tr N c st st.level
  keeps : KeepsA w (fun k => k = mb) wr (mine0 mb lv)
  small : n + phiS N tr.length c st.by_ ≤ roomN N tr.length + 1 ∧ st.level.length + phiS N tr.length c st.by_ ≤ roomN N tr.length + 1
section
variable {B mb S Gb N : Nat} {goal : Nat × Nat} {v0 v1 v2 : Value} {tr : List Int} {ts : List TranL} {R : Nat → List ArcL} {A : List ArcL} {w wr : World} {c n : Nat} {st : SrchL} {lv : Value}
theorem FindA.below {w2 : World} (h : FindA B mb S Gb N goal v0 v1 v2 tr ts R A w wr c n st lv) (hb : Below wr.heap.size wr w2) : FindA B mb S Gb N goal v0 v1 v2 tr ts R A w w2 c n st lv :=
  ⟨h.map.below hb, ((ownsRow_on h.row).below hb).now, h.dear, h.srch.below hb, h.goalB.below hb, h.off, h.read.below hb, h.ap, h.inv, h.keeps.trans (KeepsA.below hb _), h.small⟩
theorem FindA.next {w2 : World} {n' : Nat} {dv' : Value} {st' : SrchL} (h : FindA B mb S Gb N goal v0 v1 v2 tr ts R A w wr c n st lv) (h1 : MapA 60 spotLit okS w2 mb n' (mapV st'.by_)) (h2 : w2.ownsRow B 60 2 dv' st'.dear.length (cellsS st'.dear)) (h3 : dv'.ownBlock ≠ some mb)
    (h4 : KeepsA wr (mine0 mb lv) w2 (mine0 mb dv')) (h5 : InvS A (lbT ts) tr N c st' []) (h6 : n' + phiS N tr.length c st'.by_ ≤ n + phiS N tr.length c st.by_) (h7 : st'.dear.length + phiS N tr.length c st'.by_ ≤ phiS N tr.length c st.by_) :
    FindA B mb S Gb N goal v0 v1 v2 tr ts R A w w2 (c + 1) n' ⟨st'.by_, st'.dear, []⟩ dv' := by
  obtain ⟨a1, b1⟩ := h4.box4A h.srch h.off.1
  obtain ⟨a2, b2⟩ := h4.box2A h.goalB h.off.2
  have hp := phi_next N tr.length c st'.by_
  have hs := h.small
  have hpl := phi_le N tr.length c st.by_
  refine ⟨h1, h2, rfl, a1, a2, ⟨b1, b2⟩, h.read.keeps h4, h3, h5.next, h.keeps.trans h4, ?_, ?_⟩
  · simp only; omega
  · simp only; unfold roomN; omega
end

set_option maxHeartbeats 8000000 in
theorem find_any {B mb S N : Nat} {goal : Nat × Nat} {v0 v1 v2 : Value} {tr : List Int} {ts : List TranL} {R : Nat → List ArcL} {A : List ArcL} {w : World} (hm : MapA 60 spotLit okS w mb 0 (fun _ => none))
    (hS : Box4A w S v0 v1 v2 (.map (some mb))) (hoff : S ≠ mb) (hread : ReadA (fun k => k = mb) w v0 v1 v2 tr ts N R) (hBm : B ≤ mb) (hR : ∀ i, i < N → R i = A.filter fun a => a.frm == i)
    (hA : ∀ a ∈ A, a.dst < N ∧ a.tran < ts.length) (htr : tr.length ≤ 60) (hN : N ≤ 300) (hN0 : 0 < N) (hg : okS goal) :
    Calls Try.prog 19 #[.pointer (some ⟨S, 0, none⟩), .agg #[.int .i64 (goal.1 : Int), .int .i64 (goal.2 : Int)]] w fun e w' => ∃ n' c' st', e = .returned (.tuple #[]) ∧ MapA 60 spotLit okS w' mb n' (mapV st'.by_) ∧
      KeepsA w (fun k => k = mb) w' (fun k => k = mb) ∧ InvS A (lbT ts) tr N c' st' [] ∧ ((st'.by_ goal).isSome = true ∨ st'.dear = []) := by
  obtain ⟨g1, g2⟩ := goal
  simp only
  have hx1 := box2_new w (.int .i64 (g1 : Int)) (.int .i64 (g2 : Int)) 60
  have b1 := below_new w (.cells #[.int .i64 (g1 : Int), .int .i64 (g2 : Int)] 60)
  have z1 : (w.alloc (.cells #[.int .i64 (g1 : Int), .int .i64 (g2 : Int)] 60)).heap.size = w.heap.size + 1 := by simp
  obtain ⟨w1, H1⟩ : ∃ u, Hid (w.alloc (.cells #[.int .i64 (g1 : Int), .int .i64 (g2 : Int)] 60) = u) := ⟨_, rfl⟩
  rw [H1.out] at hx1 b1 z1
  have hx2 := box2_new w1 (.int .i64 0) (.int .i64 0) 60
  have b2 := below_new w1 (.cells #[.int .i64 0, .int .i64 0] 60)
  have z2 : (w1.alloc (.cells #[.int .i64 0, .int .i64 0] 60)).heap.size = w.heap.size + 1 + 1 := by simp [z1]
  obtain ⟨w2, H2⟩ : ∃ u, Hid (w1.alloc (.cells #[.int .i64 0, .int .i64 0] 60) = u) := ⟨_, rfl⟩
  rw [H2.out] at hx2 b2 z2
  rw [z1] at hx2
  replace hx1 := hx1.below b2
  have b := below_then b1 b2
  have hmb := hm.lt
  have hSl := hS.1
  obtain ⟨X, HX⟩ : ∃ x, Hid (w.heap.size = x) := ⟨_, rfl⟩
  have Hb : Hid (Below w.heap.size w w2) := b
  have HZ : Hid (w2.heap.size = X + 1 + 1) := by show _ = _; rw [z2, HX.out]
  rw [HX.out] at hx1 hx2 hmb hSl
  replace hm := hm.below b
  replace hS := hS.below b
  replace hread := hread.below b
  have HRR : Hid (∀ i, i < N → R i = A.filter fun a => a.frm == i) := hR
  have HAA : Hid (∀ a ∈ A, a.dst < N ∧ a.tran < ts.length) := hA
  have HP : Hid (roomN N tr.length ≤ 36600) := roomN_le hN htr
  clear hR hA b b1 b2 z1 z2
  go_enter Try.func19, Try.ntmps19
  go_upto_region 2 with fail
  rw [H1.out, H2.out, HX.out]
  go_cut [] (fun wc => MapA 60 spotLit okS wc mb 1 (mapV (putS (fun _ => none) (0, 0) zeroStep)) ∧ KeepsA w (fun k => k = mb) wc (fun k => k = mb) ∧ KeepsA w2 (fun k => k = mb) wc (fun k => k = mb))
  case first =>
    have HS : Hid (∀ w', Below w2.heap.size w2 w' →  w'.cell? ⟨S, 3, none⟩ = some (.map (some mb)) ∧ w'.cell? ⟨(X + 1), 0, none⟩ = some (.int .i64 0) ∧ w'.cell? ⟨(X + 1), 1, none⟩ = some (.int .i64 0)) := fun w' hb => by
      obtain ⟨_, q1, q2, q3, q4⟩ := hS.below hb
      obtain ⟨_, q6, q7⟩ := hx2.below hb
      exact ⟨q4, q6, q7⟩
    refine wp_region_held_drew (S := (fun w' => w'.cell? ⟨S, 3, none⟩ = some (.map (some mb)) ∧ w'.cell? ⟨(X + 1), 0, none⟩ = some (.int .i64 0) ∧ w'.cell? ⟨(X + 1), 1, none⟩ = some (.int .i64 0))) (by kernel_rfl) (HS.out _ (Below.refl _ _).drew) (fun hH => ?_)
    have b : Below w2.heap.size w2 w2.drew := (Below.refl _ _).drew
    obtain ⟨v0', Hv0⟩ : ∃ v0', Hid (w2.drew = v0') := ⟨_, rfl⟩
    rw [Hv0.out] at hH b ⊢
    clear Hv0
    refine wpAnyH_take (i := 0) (v := .pointer (some ⟨S, 0, none⟩)) rfl (by kernel_rfl) (by kernel_rfl) (by kernel_rfl) (fun _ _ _ h => h) (.inl ⟨by rfl, fun _ _ => rfl⟩) hH ?_
    simp only [List.getElem_toArray, List.getElem_cons_succ, List.getElem_cons_zero, Act.put, List.setIfInBounds_toArray, List.set_cons_zero, List.set_cons_succ]
    refine wpAnyH_take (i := 1) (v := .pointer (some ⟨S, 0, none⟩)) rfl (by kernel_rfl) (by kernel_rfl) (by kernel_rfl) (fun _ _ _ h => h) (.inl ⟨by rfl, fun w' hS' => by first | (go_simp; done) | (go_simp; rfl) | (go_simp; intro h; omega) | (go_simp; omega)⟩) hH ?_
    simp only [List.getElem_toArray, List.getElem_cons_succ, List.getElem_cons_zero, Act.put, List.setIfInBounds_toArray, List.set_cons_zero, List.set_cons_succ]
    refine wpAnyH_take (i := 2) (v := .pointer (some ⟨S, 3, none⟩)) rfl (by kernel_rfl) (by kernel_rfl) (by kernel_rfl) (fun _ _ _ h => h) (.inl ⟨by rfl, fun w' hS' => by first | (go_simp; done) | (go_simp; rfl) | (go_simp; intro h; omega) | (go_simp; omega)⟩) hH ?_
    simp only [List.getElem_toArray, List.getElem_cons_succ, List.getElem_cons_zero, Act.put, List.setIfInBounds_toArray, List.set_cons_zero, List.set_cons_succ]
    refine wpAnyH_take (i := 3) (v := .map (some mb)) rfl (by kernel_rfl) (by kernel_rfl) (by kernel_rfl) (fun _ _ _ h => h) (.inl ⟨by rfl, fun w' hS' => by obtain ⟨s0, s1, s2⟩ := hS'; go_simp⟩) hH ?_
    simp only [List.getElem_toArray, List.getElem_cons_succ, List.getElem_cons_zero, Act.put, List.setIfInBounds_toArray, List.set_cons_zero, List.set_cons_succ]
    refine wpAnyH_take (i := 4) (v := .agg #[.int .i64 0, .int .i64 0]) rfl (by kernel_rfl) (by kernel_rfl) (by kernel_rfl) (fun _ _ _ h => h) (.inl ⟨by rfl, fun w' hS' => by obtain ⟨s0, s1, s2⟩ := hS'; go_simp⟩) hH ?_
    simp only [List.getElem_toArray, List.getElem_cons_succ, List.getElem_cons_zero, Act.put, List.setIfInBounds_toArray, List.set_cons_zero, List.set_cons_succ]
    refine wpAnyH_take (i := 5) (v := .agg #[.int .i64 0, .int .i64 0, .int .i64 0, .int .i64 0, .int .i64 0, .int .i64 0]) rfl (by kernel_rfl) (by kernel_rfl) (by kernel_rfl) (fun _ _ _ h => h) (.inl ⟨by rfl, fun w' hS' => by first | (go_simp; done) | (go_simp; rfl) | (go_simp; intro h; omega) | (go_simp; omega)⟩) hH ?_
    simp only [List.getElem_toArray, List.getElem_cons_succ, List.getElem_cons_zero, Act.put, List.setIfInBounds_toArray, List.set_cons_zero, List.set_cons_succ]
    obtain ⟨w5, hrun, hput, hg5⟩ := (hm.below b).put spot_key Try.underlying56 (by unfold maxLen; omega) (x := (0, 0)) ⟨by show 0 ≤ _; omega, by show 0 ≤ _; omega⟩ (stepV zeroStep)
    have hm5 := hput (mapV (putS (fun _ => none) (0, 0) zeroStep)) (by unfold mapV putS; simp) (fun y hy => by unfold mapV putS; rw [if_neg hy]; rfl)
    have hK6 : KeepsA v0' (fun k => k = mb) w5 (fun k => k = mb) := ⟨hg5.size, fun k hk hn => ⟨hg5.block k hk (fun e => by injection e with e; exact hn e), hn⟩, SameO.grown hg5⟩
    have HK6 : Hid (KeepsA w (fun k => k = mb) w5 (fun k => k = mb)) := (KeepsA.below (below_then Hb.out b) _).trans hK6
    have HK7 : Hid (KeepsA w2 (fun k => k = mb) w5 (fun k => k = mb)) := (KeepsA.below b _).trans hK6
    have hrun' : (Instr.mapUpdate 56 (.map (some mb)) (.agg #[.int .i64 0, .int .i64 0]) (.agg #[.int .i64 0, .int .i64 0, .int .i64 0, .int .i64 0, .int .i64 0, .int .i64 0])).run Try.prog v0' = .ok () w5 := hrun
    clear hrun hput
    refine wpAnyH_ready (rs := [6]) (by kernel_rfl) (by simp) ?_
    refine AllReadyH.cons rfl (fun K hK => ?_) AllReadyH.nil
    simp only [List.getElem_toArray, List.getElem_cons_succ, List.getElem_cons_zero]
    rw [if_pos (by rfl)]
    go_wp2_with fail
    refine hK.out _ _ ?_ (fun hH => ?_)
    · obtain ⟨_, q1, q2, q3, q4⟩ := (HK7.out.box4A hS hoff).1
      obtain ⟨_, q6, q7⟩ := (HK7.out.box2A hx2 (by omega)).1
      exact ⟨q4, q6, q7⟩
    refine wpAnyH_done (by kernel_rfl) ?_ _
    go_wp2_with fail
    go_meet
    exact ⟨hm5, HK6.out, HK7.out⟩
  case rest =>
    obtain ⟨hm3, hK3, hK23⟩ := hcut
    obtain ⟨w3, rfl⟩ : ∃ z, z = wc := ⟨_, rfl⟩
    obtain ⟨hS3, _⟩ := hK23.box4A hS hoff
    obtain ⟨hG3, _⟩ := hK23.box2A hx1 (by omega)
    obtain ⟨hB3, _⟩ := hK23.box2A hx2 (by omega)
    have hr3 := hread.keeps hK23
    have hsz3 : X + 1 + 1 ≤ w3.heap.size := by rw [← HZ.out]; exact hK23.size
    clear hm hS hread hx1 hx2 hK23
    obtain ⟨_, x1, x2⟩ := id hB3
    have b4 := below_new w3 (.cells #[.int .i64 0, .int .i64 0] 60)
    obtain ⟨LB, HLB⟩ : ∃ z, Hid (w3.heap.size = z) := ⟨_, rfl⟩
    have hrow : (w3.alloc (.cells #[.int .i64 0, .int .i64 0] 60)).ownsRow B 60 2 (.slice (some ⟨w3.heap.size, 0, none⟩) 1 1) 1 (cellsS [(0, 0)]) := by
      have hB3s : B ≤ w3.heap.size := by omega
      have := World.ownsRow_lit (e := 60) (size := 2) (base := B) w3 #[.int .i64 0, .int .i64 0] 1 hB3s (by unfold maxLen; omega) rfl
      exact this
    obtain ⟨w4, H4⟩ : ∃ u, Hid (w3.alloc (.cells #[.int .i64 0, .int .i64 0] 60) = u) := ⟨_, rfl⟩
    rw [H4.out] at b4 hrow
    rw [HLB.out] at hrow
    have hFA : FindA B mb S X N (g1, g2) v0 v1 v2 tr ts R A w w4 0 1 ⟨putS (fun _ => none) (0, 0) zeroStep, [(0, 0)], []⟩ (.slice (some ⟨LB, 0, none⟩) 1 1) := by
      have hmine : ∀ k, k < w3.heap.size → ¬ k = mb → ¬ mine0 mb (.slice (some ⟨LB, 0, none⟩) 1 1) k := by
        rintro k hk hn (e | e)
        · exact hn e
        · simp [Value.ownBlock] at e; have := HLB.out; omega
      refine ⟨hm3.below b4, hrow, rfl, hS3.below b4, hG3.below b4, ⟨hmine S hS3.1 hoff, hmine X hG3.1 (by omega)⟩, ⟨(hr3.trace.weaken hmine).below b4, (hr3.trans.weaken hmine).below b4, ?_⟩, ?_, InvS.start _ rfl hN0, ?_, ?_⟩
      · obtain ⟨rb, rv, e, hrb, hrs⟩ := hr3.rows
        exact ⟨rb, rv, e, Nat.lt_of_lt_of_le hrb b4.size, fun i hi => ((hrs i hi).weaken hmine).below b4⟩
      · simp [Value.ownBlock]; have := HLB.out; omega
      · exact ⟨Nat.le_trans hK3.size b4.size, fun k hk hn => by
          obtain ⟨q1, q2⟩ := hK3.block k hk hn
          have hk3 : k < w3.heap.size := Nat.lt_of_lt_of_le hk hK3.size
          exact ⟨(b4.block k hk3).trans q1, hmine k hk3 hn⟩, hK3.same.trans (SameO.below b4)⟩
      · have h1 : phiS N tr.length 0 (putS (fun _ => none) (0, 0) zeroStep) + 1 ≤ roomN N tr.length := by
          have h2 : phiS N tr.length 0 (putS (fun _ => none) (0, 0) zeroStep) + 1 ≤ phiS N tr.length 0 (fun _ => none) := by
            unfold phiS
            refine sum_ltS (p := (0, 0)) (fun q _ => ?_) (mem_grid.2 ⟨hN0, Nat.zero_le _⟩) ?_
            · exact Nat.le_trans (phi1_le _ _) (Nat.le_refl _)
            · unfold phi1 putS zeroStep; simp
          exact Nat.le_trans h2 (phi_le _ _ _ _)
        simp only
        constructor
        · omega
        · simp; omega
    have HF4 : Hid _ := hFA
    clear hm3 hK3 hS3 hG3 hB3 hr3 b4 hrow
    go_upto_region 4 with fail
    rw [H4.out, HLB.out]
    go_wp2_with fail
    go_loopg [5, 6] 73203 (fun gk lv' c' wr => ∃ (c n : Nat) (st : SrchL) (lv : Value), lv' = lv ∧ c' = .int .i64 (c : Int) ∧ FindA B mb S X N (g1, g2) v0 v1 v2 tr ts R A w wr c n st lv ∧ 2 * phiS N tr.length c st.by_ + (if st.level = [] then 0 else 1) ≤ gk ∧ c + gk ≤ 73203)
    case atStart =>
      refine ⟨0, 1, _, _, rfl, rfl, HF4.out, ?_, by omega⟩
      have h1 := phi_le N tr.length 0 (putS (fun _ => none) (0, 0) zeroStep)
      have h2 := HP.out
      unfold roomN at h2
      simp only
      rw [if_neg (by simp)]
      omega
    case round =>
      clear hFA
      obtain ⟨c, n, st, lv, rfl, rfl, hF, hgk, hcg⟩ := hrel
      obtain ⟨la, ll, lc, rfl⟩ := ownsRow_slice hF.row
      have Hll : Hid (st.level.length = ll) := (row_len hF.row).symm
      have HPs : Hid (phiS N tr.length c st.by_ ≤ roomN N tr.length) := phi_le _ _ _ _
      by_cases hl : 0 < ll
      · have hne : st.level ≠ [] := fun e => by have := Hll.out; rw [e] at this; simp at this; omega
        rw [if_neg hne] at hgk
        have i0 : (0 : Int) < (ll : Int) := by omega
        have hC := spread_any hF.map hF.row hF.dear hF.srch hF.off.1 hF.read hF.ap hBm hF.inv HRR.out HAA.out htr hN (by omega) (by
          have h1 := hF.small; have h2 := HP.out
          unfold sizeS
          rw [hF.dear]
          simp only [List.length_nil]
          omega)
        have HGo : Hid (∀ n' dv' st' w6, MapA 60 spotLit okS w6 mb n' (mapV st'.by_) → w6.ownsRow B 60 2 dv' st'.dear.length (cellsS st'.dear) → dv'.ownBlock ≠ some mb →
            KeepsA wr (mine0 mb (.slice la ll lc)) w6 (mine0 mb dv') → InvS A (lbT ts) tr N c st' [] → n' + phiS N tr.length c st'.by_ ≤ n + phiS N tr.length c st.by_ → st'.dear.length + phiS N tr.length c st'.by_ ≤ phiS N tr.length c st.by_ →
            FindA B mb S X N (g1, g2) v0 v1 v2 tr ts R A w w6 (c + 1) n' ⟨st'.by_, st'.dear, []⟩ dv') := fun n' dv' st' w6 h1 h2 h3 h4 h5 h6 h7 => hF.next h1 h2 h3 h4 h5 h6 h7
        go_wp2_with (go_at_call 30; refine hC.mono ?_; rintro e w5 ⟨n', dv', st', rfl, h1, h2, h3, h4, h5, h6, h7⟩)
        have hF5 := HGo.out _ _ _ _ h1 h2 h3 h4 h5 h6 h7
        have HI5 : Hid (InvS A (lbT ts) tr N c st' []) := h5
        have HM5 : Hid (MapA 60 spotLit okS w5 mb n' (mapV st'.by_)) := h1
        have HGk : Hid (2 * phiS N tr.length (c + 1) st'.by_ + (if st'.dear = [] then 0 else 1) ≤ gk - 1 ∧ 1 ≤ gk) := by
          have q1 := phi_next N tr.length c st'.by_
          show _ ∧ _
          by_cases hd : st'.dear = []
          · rw [if_pos hd]; omega
          · rw [if_neg hd]
            have : 0 < st'.dear.length := List.length_pos_iff.2 hd
            omega
        have h6' : Hid (n' + phiS N tr.length c st'.by_ ≤ n + phiS N tr.length c st.by_) := h6
        clear h1 h2 h3 h4 h5 h6 h7 hC HGo hF hgk
        obtain ⟨a0, a1, a2, a3, a4, a5, q, Hla, Hlq⟩ : ∃ a0 a1 a2 a3 a4 a5 q, Hid ((mapV st'.by_ (g1, g2)).getD stepZ = .agg #[.int .i64 a0, .int .i64 a1, .int .i64 a2, .int .i64 a3, .int .i64 a4, .int .i64 a5]) ∧ Hid ((mapV st'.by_ (g1, g2)).isSome = q) := by
          obtain ⟨a0, a1, a2, a3, a4, a5, q, e1, e2, e3⟩ := mapV_at st'.by_ (g1, g2)
          exact ⟨a0, a1, a2, a3, a4, a5, q, e1, e2⟩
        go_upto_region 8 with fail
        go_cut [8] (fun x8 wc => x8 = .bool q ∧ Below w5.heap.size w5 wc)
        case first =>
          have HLK : Hid (∀ w' : World, MapA 60 spotLit okS w' mb n' (mapV st'.by_) → (Instr.lookup 56 (.map (some mb)) (.agg #[.int .i64 (g1 : Int), .int .i64 (g2 : Int)]) true).run Try.prog w' = .ok (.tuple #[.agg #[.int .i64 a0, .int .i64 a1, .int .i64 a2, .int .i64 a3, .int .i64 a4, .int .i64 a5], .bool q]) w') := fun w' hm => by
            have := hm.look_ok spot_key Try.underlying56 (e := 64) (z := stepZ) (by kernel_rfl) hg
            rw [Hla.out, Hlq.out] at this
            exact this
          have HS : Hid (∀ w', Below w5.heap.size w5 w' →  w'.cell? ⟨S, 3, none⟩ = some (.map (some mb)) ∧ w'.cell? ⟨X, 0, none⟩ = some (.int .i64 (g1 : Int)) ∧ w'.cell? ⟨X, 1, none⟩ = some (.int .i64 (g2 : Int)) ∧ MapA 60 spotLit okS w' mb n' (mapV st'.by_)) := fun w' hb => by
            have q := hF5.below hb
            obtain ⟨_, q1, q2, q3, q4⟩ := q.srch
            obtain ⟨_, q6, q7⟩ := q.goalB
            exact ⟨q4, q6, q7, HM5.out.below hb⟩
          refine wp_region_held_drew (S := (fun w' => w'.cell? ⟨S, 3, none⟩ = some (.map (some mb)) ∧ w'.cell? ⟨X, 0, none⟩ = some (.int .i64 (g1 : Int)) ∧ w'.cell? ⟨X, 1, none⟩ = some (.int .i64 (g2 : Int)) ∧ MapA 60 spotLit okS w' mb n' (mapV st'.by_))) (by kernel_rfl) (HS.out _ (Below.refl _ _).drew) (fun hH => ?_)
          have b : Below w5.heap.size w5 w5.drew := (Below.refl _ _).drew
          obtain ⟨v0', Hv0⟩ : ∃ v0', Hid (w5.drew = v0') := ⟨_, rfl⟩
          rw [Hv0.out] at hH b ⊢
          clear Hv0
          refine wpAnyH_take (i := 0) (v := .pointer (some ⟨S, 0, none⟩)) rfl (by kernel_rfl) (by kernel_rfl) (by kernel_rfl) (fun _ _ _ h => h) (.inl ⟨by rfl, fun _ _ => rfl⟩) hH ?_
          simp only [List.getElem_toArray, List.getElem_cons_succ, List.getElem_cons_zero, Act.put, List.setIfInBounds_toArray, List.set_cons_zero, List.set_cons_succ]
          refine wpAnyH_take (i := 1) (v := .pointer (some ⟨S, 0, none⟩)) rfl (by kernel_rfl) (by kernel_rfl) (by kernel_rfl) (fun _ _ _ h => h) (.inl ⟨by rfl, fun w' hS' => by first | (go_simp; done) | (go_simp; rfl) | (go_simp; intro h; omega) | (go_simp; omega)⟩) hH ?_
          simp only [List.getElem_toArray, List.getElem_cons_succ, List.getElem_cons_zero, Act.put, List.setIfInBounds_toArray, List.set_cons_zero, List.set_cons_succ]
          refine wpAnyH_take (i := 2) (v := .pointer (some ⟨S, 3, none⟩)) rfl (by kernel_rfl) (by kernel_rfl) (by kernel_rfl) (fun _ _ _ h => h) (.inl ⟨by rfl, fun w' hS' => by first | (go_simp; done) | (go_simp; rfl) | (go_simp; intro h; omega) | (go_simp; omega)⟩) hH ?_
          simp only [List.getElem_toArray, List.getElem_cons_succ, List.getElem_cons_zero, Act.put, List.setIfInBounds_toArray, List.set_cons_zero, List.set_cons_succ]
          refine wpAnyH_take (i := 3) (v := .map (some mb)) rfl (by kernel_rfl) (by kernel_rfl) (by kernel_rfl) (fun _ _ _ h => h) (.inl ⟨by rfl, fun w' hS' => by obtain ⟨s0, s1, s2, hm⟩ := hS'; go_simp⟩) hH ?_
          simp only [List.getElem_toArray, List.getElem_cons_succ, List.getElem_cons_zero, Act.put, List.setIfInBounds_toArray, List.set_cons_zero, List.set_cons_succ]
          refine wpAnyH_take (i := 4) (v := .agg #[.int .i64 (g1 : Int), .int .i64 (g2 : Int)]) rfl (by kernel_rfl) (by kernel_rfl) (by kernel_rfl) (fun _ _ _ h => h) (.inl ⟨by rfl, fun w' hS' => by obtain ⟨s0, s1, s2, hm⟩ := hS'; go_simp⟩) hH ?_
          simp only [List.getElem_toArray, List.getElem_cons_succ, List.getElem_cons_zero, Act.put, List.setIfInBounds_toArray, List.set_cons_zero, List.set_cons_succ]
          refine wpAnyH_take (i := 5) (v := .tuple #[.agg #[.int .i64 a0, .int .i64 a1, .int .i64 a2, .int .i64 a3, .int .i64 a4, .int .i64 a5], .bool q]) rfl (by kernel_rfl) (by kernel_rfl) (by kernel_rfl) (fun _ _ _ h => h) (.inl ⟨by rfl, fun w' hS' => by obtain ⟨s0, s1, s2, hm⟩ := hS'; have hrun := HLK.out _ hm; go_simp⟩) hH ?_
          simp only [List.getElem_toArray, List.getElem_cons_succ, List.getElem_cons_zero, Act.put, List.setIfInBounds_toArray, List.set_cons_zero, List.set_cons_succ]
          refine wpAnyH_take (i := 6) (v := .tuple #[.agg #[.int .i64 a0, .int .i64 a1, .int .i64 a2, .int .i64 a3, .int .i64 a4, .int .i64 a5], .bool q]) rfl (by kernel_rfl) (by kernel_rfl) (by kernel_rfl) (fun _ _ _ h => h) (.inl ⟨by rfl, fun _ _ => rfl⟩) hH ?_
          simp only [List.getElem_toArray, List.getElem_cons_succ, List.getElem_cons_zero, Act.put, List.setIfInBounds_toArray, List.set_cons_zero, List.set_cons_succ]
          refine wpAnyH_take (i := 7) (v := .agg #[.int .i64 a0, .int .i64 a1, .int .i64 a2, .int .i64 a3, .int .i64 a4, .int .i64 a5]) rfl (by kernel_rfl) (by kernel_rfl) (by kernel_rfl) (fun _ _ _ h => h) (.inl ⟨by rfl, fun w' hS' => by first | (go_simp; done) | (go_simp; rfl) | (go_simp; intro h; omega) | (go_simp; omega)⟩) hH ?_
          simp only [List.getElem_toArray, List.getElem_cons_succ, List.getElem_cons_zero, Act.put, List.setIfInBounds_toArray, List.set_cons_zero, List.set_cons_succ]
          refine wpAnyH_take (i := 8) (v := .bool q) rfl (by kernel_rfl) (by kernel_rfl) (by kernel_rfl) (fun _ _ _ h => h) (.inl ⟨by rfl, fun w' hS' => by first | (go_simp; done) | (go_simp; rfl) | (go_simp; intro h; omega) | (go_simp; omega)⟩) hH ?_
          simp only [List.getElem_toArray, List.getElem_cons_succ, List.getElem_cons_zero, Act.put, List.setIfInBounds_toArray, List.set_cons_zero, List.set_cons_succ]
          have ba := below_new v0' (.cells #[.int .i64 0, .int .i64 0, .int .i64 0, .int .i64 0, .int .i64 0, .int .i64 0] 64)
          have hR := boxS_new v0'
          obtain ⟨M, HM⟩ : ∃ N, Hid (v0'.heap.size = N) := ⟨_, rfl⟩
          have hM2 : w5.heap.size ≤ M := by rw [← HM.out]; exact b.size
          obtain ⟨v1', Hnew⟩ : ∃ v, Hid (v0'.alloc (.cells #[.int .i64 0, .int .i64 0, .int .i64 0, .int .i64 0, .int .i64 0, .int .i64 0] 64) = v) := ⟨_, rfl⟩
          rw [Hnew.out] at ba hR
          rw [HM.out] at hR
          refine wpAnyH_ready (rs := [9]) (by kernel_rfl) (by simp) ?_
          refine AllReadyH.cons rfl (fun K hK => ?_) AllReadyH.nil
          simp only [List.getElem_toArray, List.getElem_cons_succ, List.getElem_cons_zero]
          rw [if_pos (by rfl)]
          go_wp2_with fail
          rw [Hnew.out, HM.out]
          replace b := below_then b ba
          refine hK.out _ _ (HS.out _ b) (fun hH => ?_)
          clear hK
          obtain ⟨⟨c0, c1, c2, c3, c4, c5⟩, r0, r1, r2, r3, r4, r5⟩ := hR.cells
          have bw := below_store6 b (N := M) hM2 (.int .i64 a0) (.int .i64 a1) (.int .i64 a2) (.int .i64 a3) (.int .i64 a4) (.int .i64 a5)
          obtain ⟨W2, HW2⟩ : ∃ W2, Hid (((((((v1'.setCell ⟨M, 0, none⟩ (.int .i64 a0)).setCell ⟨M, 1, none⟩ (.int .i64 a1)).setCell ⟨M, 2, none⟩ (.int .i64 a2)).setCell ⟨M, 3, none⟩ (.int .i64 a3)).setCell ⟨M, 4, none⟩ (.int .i64 a4)).setCell ⟨M, 5, none⟩ (.int .i64 a5)) = W2) := ⟨_, rfl⟩
          rw [HW2.out] at bw
          refine wpAnyH_ready (rs := [10]) (by kernel_rfl) (by simp) ?_
          refine AllReadyH.cons rfl (fun K hK => ?_) AllReadyH.nil
          simp only [List.getElem_toArray, List.getElem_cons_succ, List.getElem_cons_zero]
          rw [if_pos (by rfl)]
          go_wp2_with fail
          rw [HW2.out]
          refine hK.out _ _ (HS.out _ bw) (fun hH => ?_)
          refine wpAnyH_take (i := 11) (v := .bool q) rfl (by kernel_rfl) (by kernel_rfl) (by kernel_rfl) (fun _ _ _ h => h) (.inl ⟨by rfl, fun _ _ => rfl⟩) hH ?_
          simp only [List.getElem_toArray, List.getElem_cons_succ, List.getElem_cons_zero, Act.put, List.setIfInBounds_toArray, List.set_cons_zero, List.set_cons_succ]
          refine wpAnyH_done (by kernel_rfl) ?_ _
          go_wp2_with fail
          go_meet
          exact ⟨rfl, bw⟩
        case rest =>
          obtain ⟨rfl, bc⟩ := hcut
          obtain ⟨w6, rfl⟩ : ∃ z, z = wc := ⟨_, rfl⟩
          have hF6 := hF5.below bc
          have HM6 : Hid (MapA 60 spotLit okS w6 mb n' (mapV st'.by_)) := HM5.out.below bc
          clear hF5 bc HM5
          cases q
          · have HF6 : Hid _ := hF6
            clear hF6
            go_wp2
            go_roundg (gk - 1)
            case measure => have := HGk.out; omega
            case rel => exact ⟨c + 1, n', _, dv', rfl, by go_num, HF6.out, HGk.out.1, by have := HGk.out; omega⟩
          · have HEnd : Hid (MapA 60 spotLit okS w6 mb n' (mapV st'.by_) ∧ KeepsA w (fun k => k = mb) w6 (fun k => k = mb) ∧ InvS A (lbT ts) tr N c st' [] ∧ ((st'.by_ (g1, g2)).isSome = true ∨ st'.dear = [])) :=
              ⟨HM6.out, ⟨hF6.keeps.size, fun k hk hn => ⟨(hF6.keeps.block k hk hn).1, hn⟩, hF6.keeps.same⟩, HI5.out, .inl (by have := Hlq.out; unfold mapV at this; simpa using this)⟩
            clear hF6
            go_wp2
            (try simp only [Exit.inBlock, Exit.then])
            refine bodyPost_ret (results_none rfl _ _ _) rfl ?_
            exact ⟨n', c, st', rfl, HEnd.out⟩
      · have i0 : ¬ (0 : Int) < (ll : Int) := by omega
        have hl0 : st.level = [] := List.length_eq_zero_iff.1 (by have := Hll.out; omega)
        have hI := hF.inv
        have hd := hF.dear
        rw [hl0] at hI
        have HEnd : Hid (MapA 60 spotLit okS wr mb n (mapV st.by_) ∧ KeepsA w (fun k => k = mb) wr (fun k => k = mb) ∧ InvS A (lbT ts) tr N c st [] ∧ ((st.by_ (g1, g2)).isSome = true ∨ st.dear = [])) :=
          ⟨hF.map, ⟨hF.keeps.size, fun k hk hn => ⟨(hF.keeps.block k hk hn).1, hn⟩, hF.keeps.same⟩, hI, .inr hd⟩
        clear hF hI
        go_wp2
        go_end0
        exact ⟨rfl, n, c, st, HEnd.out⟩

end Go.Proofs.Ytakgppoeikcepaa
/- leaving: the arcs from each mark on. (Made by tools/gen_alignleave.py.) -/
namespace Go.Proofs.Ytakgppoeikcepaa
open Go.RowKit
set_option linter.unusedVariables false
set_option linter.unusedSimpArgs false
set_option maxRecDepth 4000

def fromL (A : List ArcL) (i : Nat) : List ArcL := A.filter fun a => a.frm == i
theorem fromL_one {A : List ArcL} {k : Nat} {a : ArcL} (h : A[k]? = some a) : fromL (A.take (k + 1)) a.frm = fromL (A.take k) a.frm ++ [a] := by
  unfold fromL
  rw [List.take_add_one, h, List.filter_append]
  simp
theorem fromL_other {A : List ArcL} {k : Nat} {a : ArcL} (h : A[k]? = some a) (i : Nat) (hi : i ≠ a.frm) : fromL (A.take (k + 1)) i = fromL (A.take k) i := by
  unfold fromL
  rw [List.take_add_one, h, List.filter_append]
  have : ¬ a.frm = i := fun e => hi e.symm
  simp [this]
theorem arcZ_atL {l : List ArcL} {k : Nat} {a : ArcL} (h : l[k]? = some a) {hk : k < (l.map arcZ).length} : (l.map arcZ)[k] = ((a.frm : Int), (a.tran : Int), (a.dst : Int)) := by
  have hk' : k < l.length := by simpa using hk
  rw [List.getElem_map]
  rw [List.getElem?_eq_getElem hk'] at h
  injection h with h
  rw [h]; rfl
theorem arcs_row {B : Nat} {w : World} {v : Value} {l : List ArcL} (h : w.ownsRow B 69 3 v l.length (arcCells l)) (hl : l.length ≤ 5864062014805) : Arcs w v (l.map arcZ) := by
  have h0 := h
  rcases h.2 with ⟨rfl, hz⟩ | ⟨g, cap, cur, rfl, hg, hh, hn, hcap, hsz, htake⟩
  · exact ⟨none, 0, 0, rfl, by simpa using hz, by omega, ⟨by omega, by omega, fun _ => rfl⟩, fun j hj => by simp at hj; omega⟩
  · refine ⟨_, _, _, rfl, by simp, hl, ⟨hn, by unfold maxLen at hcap; omega, fun h => by cases h⟩, fun j hj => ?_⟩
    have hj' : j < l.length := by simpa using hj
    have hgl : g < w.heap.size := (Array.getElem?_eq_some_iff.1 hh).1
    obtain ⟨e0, e1, e2⟩ := arcCells_at l j hj'
    rw [List.getElem_map]
    refine ⟨g, 0, rfl, hgl, ?_, ?_, ?_⟩
    · rw [Nat.zero_add, h0.cellAt (j * 3) (by omega)]; exact e0
    · rw [Nat.zero_add, h0.cellAt (j * 3 + 1) (by omega)]; exact e1
    · rw [Nat.zero_add, h0.cellAt (j * 3 + 2) (by omega)]; exact e2

set_option maxHeartbeats 8000000 in
theorem leaving_any {v : Value} {s : SpaceL} {w : World} (hv : Space w v s) (hN : s.marks.length ≤ 300) (hA : ∀ a ∈ s.arcs, a.frm < s.marks.length) :
    Calls Try.prog 18 #[v] w fun e w' => ∃ r, e = .returned r ∧ RowsOn (fun k => w.heap.size ≤ k ∧ k < w'.heap.size) r s.marks.length (fromL s.arcs) w' ∧ Below w.heap.size w w' := by
  obtain ⟨mv, av, rfl, hM, hAr⟩ := hv
  obtain ⟨ma, mc, rfl, _, _⟩ := hM.slice
  obtain ⟨aa, ac, rfl, hlab⟩ := hAr.slice
  obtain ⟨N, HN⟩ : ∃ N, Hid (s.marks.length = N) := ⟨_, rfl⟩
  obtain ⟨la, Hla⟩ : ∃ N, Hid (s.arcs.length = N) := ⟨_, rfl⟩
  rw [List.length_map, Hla.out] at hAr hlab
  rw [List.length_map, Hla.out]
  rw [HN.out] at hM hN ⊢
  have HA : Hid (∀ a ∈ s.arcs, a.frm < N) := by show ∀ a ∈ s.arcs, a.frm < N; rw [← HN.out]; exact hA
  have hx := box2_new w (.slice ma N mc) (.slice aa la ac) 49
  have b1 := below_new w (.cells #[.slice ma N mc, .slice aa la ac] 49)
  have z1 : (w.alloc (.cells #[.slice ma N mc, .slice aa la ac] 49)).heap.size = w.heap.size + 1 := by simp
  obtain ⟨w1, H1⟩ : ∃ u, Hid (w.alloc (.cells #[.slice ma N mc, .slice aa la ac] 49) = u) := ⟨_, rfl⟩
  rw [H1.out] at hx b1 z1
  obtain ⟨w2, hmk, hR⟩ := make_arcs w1 N (by omega)
  have hx2 := hx.below hR.below
  have HAr : Hid (∀ w', Below w.heap.size w w' → Arcs w' (.slice aa la ac) (s.arcs.map arcZ)) := fun w' hb => hAr.below hb
  obtain ⟨W, HW⟩ : ∃ x, Hid (w.heap.size = x) := ⟨_, rfl⟩
  obtain ⟨X, HX⟩ : ∃ x, Hid (w1.heap.size = x) := ⟨_, rfl⟩
  have HWX : Hid (X = W + 1) := by show _ = _; rw [← HX.out, z1, HW.out]
  have Hb1 : Hid (Below W w w1) := by show Below W w w1; rw [← HW.out]; exact b1
  rw [HX.out] at hR hmk
  rw [HW.out] at hx hx2 HAr
  obtain ⟨_, x0, x1⟩ := id hx
  obtain ⟨_, y0, y1⟩ := id hx2
  clear hM hAr hA b1 z1
  go_enter Try.func18, Try.ntmps18
  go_upto_region 1 with fail
  rw [H1.out, HW.out]
  go_upto_region 2 with fail
  clear hmk x0 x1
  go_wp2_with fail
  go_loopg [13] la (fun gk i' wr => ∃ (k : Nat) (rv : Nat → Value), k + gk = la ∧ i' = .int .i64 (k : Int) ∧ ArcsAt X w1 wr N rv (fromL (s.arcs.take k)))
  case atStart => exact ⟨0, _, by omega, rfl, by have e : fromL (s.arcs.take 0) = fun _ => [] := (by funext i; rfl); rw [e]; exact hR⟩
  case round =>
    clear hR hx2 hx y0 y1
    obtain ⟨k, rv, hkg, rfl, hR⟩ := hrel
    have hbX : Below W w wr := Hb1.out.trans (hR.below.mono (by have := HWX.out; omega))
    by_cases hk : k < la
    · have hkl : k < s.arcs.length := by rw [Hla.out]; exact hk
      obtain ⟨a, Ha⟩ : ∃ a, Hid (s.arcs[k]? = some a) := ⟨_, List.getElem?_eq_getElem hkl⟩
      have hfr := HA.out a (List.mem_of_getElem? Ha.out)
      obtain ⟨ab, ao, rfl, hab, c0, c1, c2⟩ := (HAr.out _ hbX).at (k := k) (by simpa using hkl)
      rw [arcZ_atL Ha.out] at c0 c1 c2
      have Hone : Hid (fromL (s.arcs.take (k + 1)) a.frm = fromL (s.arcs.take k) a.frm ++ [a]) := fromL_one Ha.out
      have Hoth : Hid (∀ i, i ≠ a.frm → fromL (s.arcs.take (k + 1)) i = fromL (s.arcs.take k) i) := fun i hi => fromL_other Ha.out i hi
      have Hlen : Hid ((fromL (s.arcs.take k) a.frm).length + 1 ≤ 5864062014805) := by
        show _ ≤ _
        have h1 : (fromL (s.arcs.take k) a.frm).length ≤ (s.arcs.take k).length := List.length_filter_le _ _
        rw [List.length_take] at h1
        omega
      obtain ⟨af, at_, ad⟩ := a
      simp only at c0 c1 c2 hfr Hone Hoth Hlen
      clear hkl
      have hy := box3_new wr (.int .i64 (af : Int)) (.int .i64 (at_ : Int)) (.int .i64 (ad : Int)) 69
      have bA := below_new wr (.cells #[.int .i64 (af : Int), .int .i64 (at_ : Int), .int .i64 (ad : Int)] 69)
      have hRA := hR.to bA
      have HnY : Hid (∀ i, i < N → (rv i).ownBlock ≠ some wr.heap.size) := fun i hi e => by have := (ownsRow_lt (hR.own i hi) e).2; omega
      have HYX : Hid (X < wr.heap.size) := hR.size
      obtain ⟨wA, HwA⟩ : ∃ z, Hid (wr.alloc (.cells #[.int .i64 (af : Int), .int .i64 (at_ : Int), .int .i64 (ad : Int)] 69) = z) := ⟨_, rfl⟩
      rw [HwA.out] at hy bA hRA
      go_upto_region 5 with fail
      rw [HwA.out]
      clear c0 c1 c2 hR HwA
      obtain ⟨y, HY⟩ : ∃ y, Hid (wr.heap.size = y) := ⟨_, rfl⟩
      rw [HY.out] at hy HnY HYX ⊢
      obtain ⟨ra, rc, hrv⟩ := hRA.slice hfr
      have i0 : (0 : Int) ≤ (af : Int) := by omega
      have i1 : (af : Int) < (N : Int) := by omega
      have HS : Hid (∀ w', Below wA.heap.size wA w' →  w'.cell? ⟨y, 0, none⟩ = some (.int .i64 (af : Int)) ∧ w'.cell? ⟨y, 1, none⟩ = some (.int .i64 (at_ : Int)) ∧ w'.cell? ⟨y, 2, none⟩ = some (.int .i64 (ad : Int)) ∧ w'.cell? ⟨X, af, none⟩ = some (.slice ra (fromL (s.arcs.take k) af).length rc)) := fun w' hb => by
        obtain ⟨_, q0, q1, q2⟩ := hy.below hb
        exact ⟨q0, q1, q2, by rw [← hrv]; exact (hRA.to hb).cells af hfr⟩
      refine wp_region_Z (S := (fun w' => w'.cell? ⟨y, 0, none⟩ = some (.int .i64 (af : Int)) ∧ w'.cell? ⟨y, 1, none⟩ = some (.int .i64 (at_ : Int)) ∧ w'.cell? ⟨y, 2, none⟩ = some (.int .i64 (ad : Int)) ∧ w'.cell? ⟨X, af, none⟩ = some (.slice ra (fromL (s.arcs.take k) af).length rc))) (by kernel_rfl) 12 (HS.out _ (Below.refl _ _).drew) (fun hH => ?_)
      have b : Below wA.heap.size wA wA.drew := (Below.refl _ _).drew
      obtain ⟨v0', Hv0⟩ : ∃ v0', Hid (wA.drew = v0') := ⟨_, rfl⟩
      rw [Hv0.out] at hH b ⊢
      clear Hv0
      refine wpZ_takeP (i := 0) (v := .slice (some ⟨X, 0, none⟩) N N) rfl (by kernel_rfl) (by kernel_rfl) (by kernel_rfl) (fun _ _ _ h => h) (.inl ⟨by rfl, fun _ _ => rfl⟩) hH (by decide) ?_
      simp only [List.getElem_toArray, List.getElem_cons_succ, List.getElem_cons_zero, Act.put, List.setIfInBounds_toArray, List.set_cons_zero, List.set_cons_succ]
      refine wpZ_takeP (i := 1) (v := .pointer (some ⟨y, 0, none⟩)) rfl (by kernel_rfl) (by kernel_rfl) (by kernel_rfl) (fun _ _ _ h => h) (.inl ⟨by rfl, fun w' hS' => by first | (go_simp; done) | (go_simp; rfl) | (go_simp; intro h; omega) | (go_simp; omega)⟩) hH (by decide) ?_
      simp only [List.getElem_toArray, List.getElem_cons_succ, List.getElem_cons_zero, Act.put, List.setIfInBounds_toArray, List.set_cons_zero, List.set_cons_succ]
      refine wpZ_take (i := 2) (v := .int .i64 (af : Int)) rfl (by kernel_rfl) (by kernel_rfl) (by kernel_rfl) (fun _ _ _ h => h) (.inl ⟨by rfl, fun w' hS' => by obtain ⟨s0, s1, s2, s3⟩ := hS'; go_simp⟩) hH rfl (by decide) (by kernel_rfl) (by kernel_rfl) ?_
      simp only [List.getElem_toArray, List.getElem_cons_succ, List.getElem_cons_zero, Act.put, List.setIfInBounds_toArray, List.set_cons_zero, List.set_cons_succ]
      refine wpZ_takeP (i := 3) (v := .slice (some ⟨X, 0, none⟩) N N) rfl (by kernel_rfl) (by kernel_rfl) (by kernel_rfl) (fun _ _ _ h => h) (.inl ⟨by rfl, fun _ _ => rfl⟩) hH (by decide) ?_
      simp only [List.getElem_toArray, List.getElem_cons_succ, List.getElem_cons_zero, Act.put, List.setIfInBounds_toArray, List.set_cons_zero, List.set_cons_succ]
      refine wpZ_takeP (i := 4) (v := .pointer (some ⟨y, 0, none⟩)) rfl (by kernel_rfl) (by kernel_rfl) (by kernel_rfl) (fun _ _ _ h => h) (.inl ⟨by rfl, fun w' hS' => by first | (go_simp; done) | (go_simp; rfl) | (go_simp; intro h; omega) | (go_simp; omega)⟩) hH (by decide) ?_
      simp only [List.getElem_toArray, List.getElem_cons_succ, List.getElem_cons_zero, Act.put, List.setIfInBounds_toArray, List.set_cons_zero, List.set_cons_succ]
      refine wpZ_take (i := 5) (v := .int .i64 (af : Int)) rfl (by kernel_rfl) (by kernel_rfl) (by kernel_rfl) (fun _ _ _ h => h) (.inl ⟨by rfl, fun w' hS' => by obtain ⟨s0, s1, s2, s3⟩ := hS'; go_simp⟩) hH rfl (by decide) (by kernel_rfl) (by kernel_rfl) ?_
      simp only [List.getElem_toArray, List.getElem_cons_succ, List.getElem_cons_zero, Act.put, List.setIfInBounds_toArray, List.set_cons_zero, List.set_cons_succ]
      refine wpZ_takeP (i := 6) (v := .pointer (some ⟨X, af, none⟩)) rfl (by kernel_rfl) (by kernel_rfl) (by kernel_rfl) (fun _ _ _ h => h) (.inl ⟨by rfl, fun w' hS' => by first | (go_simp; done) | (go_simp; rfl) | (go_simp; intro h; omega) | (go_simp; omega)⟩) hH (by decide) ?_
      simp only [List.getElem_toArray, List.getElem_cons_succ, List.getElem_cons_zero, Act.put, List.setIfInBounds_toArray, List.set_cons_zero, List.set_cons_succ]
      refine wpZ_take (i := 7) (v := .slice ra (fromL (s.arcs.take k) af).length rc) rfl (by kernel_rfl) (by kernel_rfl) (by kernel_rfl) (fun _ _ _ h => h) (.inl ⟨by rfl, fun w' hS' => by obtain ⟨s0, s1, s2, s3⟩ := hS'; go_simp⟩) hH rfl (by decide) (by kernel_rfl) (by kernel_rfl) ?_
      simp only [List.getElem_toArray, List.getElem_cons_succ, List.getElem_cons_zero, Act.put, List.setIfInBounds_toArray, List.set_cons_zero, List.set_cons_succ]
      refine wpZ_take (i := 8) (v := .agg #[.int .i64 (af : Int), .int .i64 (at_ : Int), .int .i64 (ad : Int)]) rfl (by kernel_rfl) (by kernel_rfl) (by kernel_rfl) (fun _ _ _ h => h) (.inl ⟨by rfl, fun w' hS' => by obtain ⟨s0, s1, s2, s3⟩ := hS'; go_simp⟩) hH rfl (by decide) (by kernel_rfl) (by kernel_rfl) ?_
      simp only [List.getElem_toArray, List.getElem_cons_succ, List.getElem_cons_zero, Act.put, List.setIfInBounds_toArray, List.set_cons_zero, List.set_cons_succ]
      have ba := below_new v0' (.cells #[.int .i64 (af : Int), .int .i64 (at_ : Int), .int .i64 (ad : Int)] 69)
      obtain ⟨M, HM'⟩ : ∃ N, Hid (v0'.heap.size = N) := ⟨_, rfl⟩
      have hS8 := hRA.to b
      obtain ⟨v1', Hnew⟩ : ∃ v, Hid (v0'.alloc (.cells #[.int .i64 (af : Int), .int .i64 (at_ : Int), .int .i64 (ad : Int)] 69) = v) := ⟨_, rfl⟩
      rw [Hnew.out] at ba
      refine wpZ_ready (rs := [9]) (by kernel_rfl) (by simp) ?_
      refine AllZ.cons rfl (fun K hK => ?_) AllZ.nil
      simp only [List.getElem_toArray, List.getElem_cons_succ, List.getElem_cons_zero]
      rw [if_pos (by rfl)]
      go_wp2_with fail
      rw [Hnew.out]
      replace b := below_then b ba
      refine hK.out _ _ (HS.out _ b) (fun hH => ?_)
      clear hK
      refine wpZ_ready (rs := [10]) (by kernel_rfl) (by simp) ?_
      refine AllZ.cons rfl (fun K hK => ?_) AllZ.nil
      simp only [List.getElem_toArray, List.getElem_cons_succ, List.getElem_cons_zero]
      refine wpr_append_arc (by rfl) _ _ rfl (X + 1) v0' v1' (.slice ra (fromL (s.arcs.take k) af).length rc) (fromL (s.arcs.take k) af) (af : Int) (at_ : Int) (ad : Int) Hnew.out.symm (by rw [← hrv]; exact hS8.own af hfr) rfl rfl Hlen.out hS8.size ?_
      intro v' w6 hO6 hg6 hat6
      obtain ⟨a5, l5, c5, rfl⟩ := ownsRow_slice hO6
      rw [Hnew.out] at hg6 hat6
      rw [← hrv] at hg6 hat6
      have hS9 := hRA.to b
      obtain ⟨u0, u1⟩ := hS9.grown hfr hg6
      have hP9 := (hy.below b)
      have hHS :  w6.cell? ⟨y, 0, none⟩ = some (.int .i64 (af : Int)) ∧ w6.cell? ⟨y, 1, none⟩ = some (.int .i64 (at_ : Int)) ∧ w6.cell? ⟨y, 2, none⟩ = some (.int .i64 (ad : Int)) ∧ w6.cell? ⟨X, af, none⟩ = some (.slice ra (fromL (s.arcs.take k) af).length rc) := by
        have hb6 : w6.heap[y]? = v1'.heap[y]? := hg6.block y hP9.1 (fun e => HnY.out af hfr e.symm)
        obtain ⟨_, q0, q1, q2⟩ := hP9
        exact ⟨(World.cell?_of_block (a := ⟨y, 0, none⟩) hb6).trans q0, (World.cell?_of_block (a := ⟨y, 1, none⟩) hb6).trans q1, (World.cell?_of_block (a := ⟨y, 2, none⟩) hb6).trans q2, by rw [← hrv]; exact u0⟩
      have HR10 : Hid (ArcsAt X w1 (w6.setCell ⟨X, af, none⟩ (.slice a5 l5 c5)) N (fun j => if j = af then .slice a5 l5 c5 else rv j) (fromL (s.arcs.take (k + 1)))) := hS9.put (z := ⟨af, at_, ad⟩) hfr hO6 hg6 hat6 Hone.out Hoth.out
      refine hK.out _ _ hHS (fun hH => ?_)
      clear hK
      refine wpZ_takeP (i := 11) (v := .pointer (some ⟨X, af, none⟩)) rfl (by kernel_rfl) (by kernel_rfl) (by kernel_rfl) (fun _ _ _ h => h) (.inl ⟨by rfl, fun w' hS' => by first | (go_simp; done) | (go_simp; rfl) | (go_simp; intro h; omega) | (go_simp; omega)⟩) hH (by decide) ?_
      simp only [List.getElem_toArray, List.getElem_cons_succ, List.getElem_cons_zero, Act.put, List.setIfInBounds_toArray, List.set_cons_zero, List.set_cons_succ]
      rw [hrv] at u0
      refine wpZ_ready (rs := [12]) (by kernel_rfl) (by simp) ?_
      refine AllZ.last rfl (by kernel_rfl) (fun K hK => ?_) AllZ.nil
      simp only [List.getElem_toArray, List.getElem_cons_succ, List.getElem_cons_zero]
      rw [if_pos (by rfl)]
      go_wp2_with fail
      refine hK.out _ _ ?_
      clear hK
      refine wpZ_done (by kernel_rfl) ?_ _
      go_wp2_with fail
      obtain ⟨_, z0, z1⟩ : True ∧ True ∧ True := ⟨trivial, trivial, trivial⟩
      clear hRA hS9 hP9
      go_roundg (gk - 1)
      case measure => omega
      case rel => exact ⟨k + 1, _, by omega, by go_num, HR10.out⟩
    · obtain rfl : k = la := by omega
      have HEnd : Hid (RowsOn (fun k => W ≤ k ∧ k < wr.heap.size) (.slice (some ⟨X, 0, none⟩) N N) N (fromL s.arcs) wr ∧ Below W w wr) := by
        refine ⟨⟨X, rv, rfl, hR.size, fun i hi => ?_⟩, hbX⟩
        have hown := hR.own i hi
        rw [List.take_of_length_le (by rw [Hla.out]; exact Nat.le_refl _)] at hown
        have hll : (fromL s.arcs i).length ≤ 5864062014805 := by
          have : (fromL s.arcs i).length ≤ s.arcs.length := List.length_filter_le _ _
          have := Hla.out; omega
        intro w3 hs3 hk3
        refine ⟨?_, ?_⟩
        · exact (World.cell?_of_block (a := ⟨X, i, none⟩) (hk3 X hR.size ⟨by have := HWX.out; omega, hR.size⟩)).trans (hR.cells i hi)
        · exact arcs_row ((ownsRow_on hown).to hs3 fun j hj q => hk3 j hj ⟨by have := q.2; have := HWX.out; omega, hj⟩).now hll
      clear hR
      go_wp2
      go_ret
      rw [HW.out]
      exact ⟨_, rfl, HEnd.out.1, HEnd.out.2⟩

end Go.Proofs.Ytakgppoeikcepaa
/- Moves in rows; slices.Reverse over them. -/
namespace Go.Proofs.Ytakgppoeikcepaa
open Go.RowKit
set_option linter.unusedVariables false
set_option linter.unusedSimpArgs false
set_option maxRecDepth 4000

def moveC (m : MoveL) : List Value := [.int .i64 m.kind, .int .i64 m.label, .int .i64 m.tran]
def cellsM (l : List MoveL) : List Value := l.flatMap moveC
def noMove : MoveL := ⟨0, 0, 0⟩
theorem cellsM_append (l : List MoveL) (m : MoveL) : cellsM (l ++ [m]) = cellsM l ++ moveC m := by simp [cellsM]
theorem cellsM_length : ∀ l : List MoveL, (cellsM l).length = l.length * 3
  | [] => rfl
  | x :: r => by
    have e : cellsM (x :: r) = moveC x ++ cellsM r := rfl
    rw [e, List.length_append, cellsM_length r]
    show 3 + _ = _
    simp only [List.length_cons]
    omega
theorem cellsM_at : ∀ (l : List MoveL) (k : Nat), k < l.length → (cellsM l)[k * 3]? = some (.int .i64 (l.getD k noMove).kind) ∧ (cellsM l)[k * 3 + 1]? = some (.int .i64 (l.getD k noMove).label) ∧ (cellsM l)[k * 3 + 2]? = some (.int .i64 (l.getD k noMove).tran)
  | x :: l, 0, _ => ⟨rfl, rfl, rfl⟩
  | x :: l, k + 1, h => by
    have h1 := cellsM_at l k (by simpa using h)
    have e : cellsM (x :: l) = .int .i64 x.kind :: .int .i64 x.label :: .int .i64 x.tran :: cellsM l := rfl
    rw [e, show (k + 1) * 3 + 2 = k * 3 + 2 + 1 + 1 + 1 by omega, show (k + 1) * 3 + 1 = k * 3 + 1 + 1 + 1 + 1 by omega, show (k + 1) * 3 = k * 3 + 1 + 1 + 1 by omega]
    simpa using h1
theorem cellsM_set : ∀ (l : List MoveL) (k : Nat) (m : MoveL), k < l.length → cellsM (l.set k m) = (((cellsM l).set (k * 3) (.int .i64 m.kind)).set (k * 3 + 1) (.int .i64 m.label)).set (k * 3 + 2) (.int .i64 m.tran)
  | x :: l, 0, m, _ => rfl
  | x :: l, k + 1, m, h => by
    have h1 := cellsM_set l k m (by simpa using h)
    have e : ∀ y r, cellsM (y :: r) = .int .i64 y.kind :: .int .i64 y.label :: .int .i64 y.tran :: cellsM r := fun _ _ => rfl
    rw [List.set_cons_succ, e, e, h1, show (k + 1) * 3 + 2 = k * 3 + 2 + 1 + 1 + 1 by omega, show (k + 1) * 3 + 1 = k * 3 + 1 + 1 + 1 + 1 by omega, show (k + 1) * 3 = k * 3 + 1 + 1 + 1 by omega]
    rfl
theorem one_cellsM {l : List MoveL} : ∀ u ∈ cellsM l, u.oneCell' = true := by
  intro u hu
  obtain ⟨x, _, hx⟩ := List.mem_flatMap.1 hu
  unfold moveC at hx
  simp only [List.mem_cons, List.not_mem_nil, or_false] at hx
  rcases hx with rfl | rfl | rfl <;> rfl

/-- The first k are swapped with the last k. -/
def swapM (zs : List MoveL) : Nat → List MoveL
  | 0 => zs
  | k + 1 => ((swapM zs k).set k ((swapM zs k).getD (zs.length - 1 - k) noMove)).set (zs.length - 1 - k) ((swapM zs k).getD k noMove)
theorem swapM_length (zs : List MoveL) : ∀ k, (swapM zs k).length = zs.length
  | 0 => rfl
  | k + 1 => by show (((swapM zs k).set _ _).set _ _).length = _; rw [List.length_set, List.length_set, swapM_length zs k]
theorem getD_setM {l : List MoveL} {k j : Nat} {m : MoveL} (hk : k < l.length) : (l.set k m).getD j noMove = if j = k then m else l.getD j noMove := by
  rw [List.getD_eq_getElem?_getD, List.getD_eq_getElem?_getD, List.getElem?_set]
  by_cases h : k = j
  · subst h; rw [if_pos rfl, if_pos hk, if_pos rfl]; rfl
  · rw [if_neg h, if_neg fun e => h e.symm]
theorem swapM_at (zs : List MoveL) : ∀ (k : Nat), 2 * k ≤ zs.length → ∀ j, j < zs.length → (swapM zs k).getD j noMove = if j < k ∨ zs.length - 1 - j < k then zs.getD (zs.length - 1 - j) noMove else zs.getD j noMove
  | 0, _, j, hj => by rw [if_neg (by omega)]; rfl
  | k + 1, hk, j, hj => by
    have hL := swapM_length zs k
    show (((swapM zs k).set _ _).set _ _).getD j noMove = _
    rw [getD_setM (by rw [List.length_set, hL]; omega), getD_setM (by rw [hL]; omega)]
    have ih := swapM_at zs k (by omega)
    by_cases h1 : j = zs.length - 1 - k
    · rw [if_pos h1, ih k (by omega), if_neg (by omega), if_pos (by omega)]
      congr 1; omega
    · rw [if_neg h1]
      by_cases h2 : j = k
      · rw [if_pos h2, ih _ (by omega), if_neg (by omega), if_pos (by omega), h2]
      · rw [if_neg h2, ih j hj]
        by_cases h3 : j < k ∨ zs.length - 1 - j < k
        · rw [if_pos h3, if_pos (by omega)]
        · rw [if_neg h3, if_neg (by omega)]
theorem swapM_reverse (zs : List MoveL) (k : Nat) (hk : 2 * k ≤ zs.length) (hk2 : zs.length ≤ 2 * k + 1) : swapM zs k = zs.reverse := by
  apply List.ext_getElem
  · rw [swapM_length, List.length_reverse]
  · intro j h1 h2
    rw [swapM_length] at h1
    have h := swapM_at zs k hk j h1
    rw [List.getElem_reverse]
    have e1 : (swapM zs k).getD j noMove = (swapM zs k)[j] := by simp [List.getD, h1, swapM_length]
    have e2 : zs.getD (zs.length - 1 - j) noMove = zs[zs.length - 1 - j] := by simp [List.getD, show zs.length - 1 - j < zs.length by omega]
    rw [← e1, h]
    by_cases h3 : j < k ∨ zs.length - 1 - j < k
    · rw [if_pos h3, e2]
    · have e3 : zs.length - 1 - j = j := by omega
      rw [if_neg h3, ← e2, e3]

set_option maxHeartbeats 4000000 in
theorem revmoves_any (B : Nat) (w0 : World) (v : Value) (zs : List MoveL) (w : World) (h : OwnC B w0 w 35 3 v zs.length (cellsM zs)) (hm : zs.length ≤ 1000000) :
    Calls Try.prog 31 #[v] w fun e w' => e = .returned (.tuple #[]) ∧ OwnC B w0 w' 35 3 v zs.length (cellsM zs.reverse) := by
  obtain ⟨hown, hb, hB⟩ := h
  obtain ⟨len, Hlen⟩ : ∃ len, Hid (zs.length = len) := ⟨_, rfl⟩
  by_cases h1 : zs.length ≤ 1
  · have e : zs.reverse = zs := by rw [← swapM_reverse zs 0 (by omega) (by omega)]; rfl
    rw [e]
    obtain ⟨a, c, rfl⟩ := OwnC.slice (w := w0) ⟨hown, hb, hB⟩
    rw [Hlen.out] at hown h1 ⊢
    go_enter Try.func31, Try.ntmps31
    go_wp2
    refine wp_loop_rounds 1 ?_
    rw [rounds_succ]
    go_wp2
    go_end0
    exact ⟨rfl, hown, hb, hB⟩
  · obtain ⟨g, cap, rfl, hgB⟩ : ∃ g cap, v = .slice (some ⟨g, 0, none⟩) zs.length cap ∧ B ≤ g := by
      obtain ⟨_, hcase⟩ := hown
      rcases hcase with ⟨_, h0⟩ | ⟨g, cap', cur, rfl, hg, _⟩
      · omega
      · exact ⟨g, cap', rfl, hg⟩
    have hle : len ≤ 1000000 := by rw [← Hlen.out]; exact hm
    have hl2 : ¬ len ≤ 1 := by rw [← Hlen.out]; exact h1
    rw [Hlen.out] at hown ⊢
    clear hm h1
    go_enter Try.func31, Try.ntmps31
    go_wp2
    go_loopg [2, 3] len (fun gq i j wr => ∃ k q : Nat, k + gq = len ∧ i = .int .i64 k ∧ j = .int .i64 q ∧ q + k + 1 = len ∧ k ≤ q + 1 ∧ wr.ownsRow B 35 3 (.slice (some ⟨g, 0, none⟩) len cap) len (cellsM (swapM zs k)) ∧ Below B w0 wr ∧ B ≤ wr.heap.size)
    case atStart => exact ⟨0, len - 1, by omega, rfl, by congr 1; omega, by omega, by omega, hown, hb, hB⟩
    case round =>
      clear hown hb hB
      obtain ⟨k, q, hkg, rfl, rfl, hkq, hk1, hown, hb, hB⟩ := hrel
      by_cases hlt : k < q
      · have hL := swapM_length zs k
        rw [Hlen.out] at hL
        obtain ⟨c0, c1, c2⟩ := cellsM_at (swapM zs k) k (by omega)
        obtain ⟨d0, d1, d2⟩ := cellsM_at (swapM zs k) q (by omega)
        rw [← hown.cellAt (k * 3) (by omega)] at c0
        rw [← hown.cellAt (k * 3 + 1) (by omega)] at c1
        rw [← hown.cellAt (k * 3 + 2) (by omega)] at c2
        rw [← hown.cellAt (q * 3) (by omega)] at d0
        rw [← hown.cellAt (q * 3 + 1) (by omega)] at d1
        rw [← hown.cellAt (q * 3 + 2) (by omega)] at d2
        obtain ⟨mk, Hmk⟩ : ∃ m, Hid ((swapM zs k).getD k noMove = m) := ⟨_, rfl⟩
        obtain ⟨mq, Hmq⟩ : ∃ m, Hid ((swapM zs k).getD q noMove = m) := ⟨_, rfl⟩
        rw [Hmk.out] at c0 c1 c2
        rw [Hmq.out] at d0 d1 d2
        obtain ⟨k0, k1, k2⟩ := mk
        obtain ⟨q0, q1, q2⟩ := mq
        simp only at c0 c1 c2 d0 d1 d2
        have hne : ¬ k = q := by omega
        have hne2 : ¬ q = k := by omega
        have hkl : k < len := by omega
        have hql : q < len := by omega
        have n0 : ¬ k * 3 = q * 3 := by omega
        have st := (((((hown.stored (k * 3) (.int .i64 q0)).1.stored (k * 3 + 1) (.int .i64 q1)).1.stored (k * 3 + 2) (.int .i64 q2)).1.stored (q * 3) (.int .i64 k0)).1.stored (q * 3 + 1) (.int .i64 k1)).1.stored (q * 3 + 2) (.int .i64 k2)
        obtain ⟨W2, HW2⟩ : ∃ W2, Hid ((((((wr.setCell ⟨g, k * 3, none⟩ (.int .i64 q0)).setCell ⟨g, k * 3 + 1, none⟩ (.int .i64 q1)).setCell ⟨g, k * 3 + 2, none⟩ (.int .i64 q2)).setCell ⟨g, q * 3, none⟩ (.int .i64 k0)).setCell ⟨g, q * 3 + 1, none⟩ (.int .i64 k1)).setCell ⟨g, q * 3 + 2, none⟩ (.int .i64 k2) = W2) := ⟨_, rfl⟩
        have HR : Hid (W2.ownsRow B 35 3 (.slice (some ⟨g, 0, none⟩) len cap) len (cellsM (swapM zs (k + 1)))) := by
          have e : zs.length - 1 - k = q := by have := Hlen.out; omega
          have e2 : cellsM (swapM zs (k + 1)) = ((((((cellsM (swapM zs k)).set (k * 3) (.int .i64 q0)).set (k * 3 + 1) (.int .i64 q1)).set (k * 3 + 2) (.int .i64 q2)).set (q * 3) (.int .i64 k0)).set (q * 3 + 1) (.int .i64 k1)).set (q * 3 + 2) (.int .i64 k2) := by
            rw [swapM, e, Hmk.out, Hmq.out, cellsM_set _ _ _ (by rw [List.length_set]; omega), cellsM_set _ _ _ (by omega)]
          show W2.ownsRow _ _ _ _ _ _
          rw [e2, ← HW2.out]
          exact st.1
        have HB : Hid (Below B w0 W2) := by
          show Below B w0 W2
          rw [← HW2.out]
          exact (((((hb.setCell (p := ⟨g, k * 3, none⟩) hgB _).setCell (p := ⟨g, k * 3 + 1, none⟩) hgB _).setCell (p := ⟨g, k * 3 + 2, none⟩) hgB _).setCell (p := ⟨g, q * 3, none⟩) hgB _).setCell (p := ⟨g, q * 3 + 1, none⟩) hgB _).setCell (p := ⟨g, q * 3 + 2, none⟩) hgB _
        have HBs : Hid (B ≤ W2.heap.size) := by show B ≤ _; rw [← HW2.out]; simpa [World.setCell] using hB
        have f0 := hown.frozenAt (k * 3)
        have f1 := hown.frozenAt (k * 3 + 1)
        have f2 := hown.frozenAt (k * 3 + 2)
        have f3 := hown.frozenAt (q * 3)
        have f4 := hown.frozenAt (q * 3 + 1)
        have f5 := hown.frozenAt (q * 3 + 2)
        clear st hown hb hL
        go_wp2
        go_region
        all_goals go_wp2
        rw [HW2.out]
        go_roundg (gk - 1)
        case measure => omega
        case rel => exact ⟨k + 1, q - 1, by omega, by go_num, by congr 1; omega, by omega, by omega, HR.out.drew, HB.out.drew, HBs.out⟩
      · have e : swapM zs k = zs.reverse := swapM_reverse zs k (by have := Hlen.out; omega) (by have := Hlen.out; omega)
        rw [e] at hown
        go_wp2
        go_end0
        exact ⟨rfl, hown, hb, hB⟩

end Go.Proofs.Ytakgppoeikcepaa
