/- The answers of the document itself for shape: closing a net, walked. -/
import Derived.Test.YthkalnijmlhgiaaShape5
namespace Go.Proofs.Ythkalnijmlhgiaa
open Go.RowKit
set_option linter.unusedVariables false
set_option maxRecDepth 4000

theorem shape_some {n : NetL} {i o : Int} (h : ShapeOk n i o) : 0 < n.trans.length := by
  rcases Nat.eq_zero_or_pos n.trans.length with q | q
  · exfalso
    have hw := h.p1 o.toNat (by have := h.o0; have := h.o1; omega)
    have : o.toNat = i.toNat := hw (fun p => p = i.toNat) rfl (fun k a b hk => by omega)
    have := h.ne
    have := h.i0
    have := h.o0
    omega
  · exact q

theorem results_net {fn : Func} {p u : Tmp} {tmps : Array Value} {w : World} {b : Nat} {x y v : Value} (h : fn.results = #[.cell p 24, .tmp u]) (hp : tmps.getD p undef = .pointer (some ⟨b, 0, none⟩)) (hu : tmps.getD u undef = v) (h1 : w.cell? ⟨b, 0, none⟩ = some x) (h2 : w.cell? ⟨b, 1, none⟩ = some y) :
    (results fn tmps).run Try.prog w = .ok (.tuple #[.agg #[x, y], v]) w := by
  rw [results_cell_tmp h, hp, hu]
  simp [asAddr, go_sem, h1, h2]

theorem closed_bad {n : NetL} {i o d : Int} (hd : Judged n i o d) (h0 : d ≠ 0) : Closed n i o ⟨0, []⟩ d := ⟨fun hs => absurd hs (hd.not_zero h0), fun hs => absurd hs (hd.not_zero h0), fun _ => ⟨hd, rfl⟩⟩
theorem closed_full {n : NetL} {i o : Int} (hs : ShapeOk n i o) (hl : ¬ n.trans.length < 24) : Closed n i o ⟨0, []⟩ 4 := ⟨fun _ q => absurd q hl, fun _ _ => ⟨rfl, rfl⟩, fun q => absurd hs q⟩
theorem closed_right {n : NetL} {i o : Int} (hs : ShapeOk n i o) (hl : n.trans.length < 24) : Closed n i o (closeL n i o) 0 := ⟨fun _ _ => ⟨rfl, rfl⟩, fun _ q => absurd hl q, fun q => absurd hs q⟩

theorem net_none (w : World) : Net w (.agg #[.int .i64 0, .slice none 0 0]) ⟨0, []⟩ := ⟨_, rfl, none, 0, 0, rfl, rfl, by omega, ⟨by omega, by omega, fun _ => rfl⟩, fun j hj => absurd hj (by simp)⟩

/-- A row of numbers that a callee made stands, whatever is appended to a row of transitions, and whatever older cells are written. -/
theorem row_stays {wB wC wD : World} {BO B g : Nat} {r v : Value} {xs : List Int} {m : Nat} {cs : List Value} {ob : Obj} {u u2 : Value} {o o2 : Nat} (h : wC.ownsRow BO 3 1 r xs.length (xs.map (Value.int .i64))) (hBO : BO ≤ wC.heap.size) (k : wC.ownsRow B 43 3 v m cs) (hg : (wC.alloc ob).grownBy wD v.ownBlock) (hlt : g < BO) (hx : xs.length ≤ 17592186044416) :
    Ints ((wD.setCell ⟨g, o, none⟩ u).setCell ⟨g, o2, none⟩ u2) r xs := by
  have h1 := rows_apart (h.alloc ob) (k.alloc ob) hg
  have h2 := ownsRow_setCell_below (ownsRow_setCell_below h1 (a := ⟨g, o, none⟩) hlt u) (a := ⟨g, o2, none⟩) hlt u2
  have hs : BO ≤ ((wD.setCell ⟨g, o, none⟩ u).setCell ⟨g, o2, none⟩ u2).heap.size := by
    have := hg.size
    simp [World.setCell] at this ⊢
    omega
  exact Own.ints (B := BO) (w := (wD.setCell ⟨g, o, none⟩ u).setCell ⟨g, o2, none⟩ u2) ⟨h2, Below.refl _ _, hs⟩ hx

theorem start_short (P i : Int) : (startL P i).length ≤ 16 := by rw [start_length]; omega

/-- Read as the net that was closed. -/
theorem close_read {w Wf : World} {B T : Nat} {n : NetL} {i o : Int} {tvs : List (Int × Value × Value)} {vD sO sI : Value} (htl : tvs.length = T) (hTl : n.trans.length = T) (hT24 : T < 24) (hto : TvOf w n.trans tvs) (c : Below w.heap.size w Wf)
    (hown : Wf.ownsRow B 43 3 vD (tvs.length + 1) (tvCells tvs ++ [.int .i64 0, sO, sI])) (h1 : Ints Wf sO (startL n.places o)) (h2 : Ints Wf sI (startL n.places i)) : Trans Wf vD (closeL n i o).trans := by
  have e : tvCells tvs ++ [.int .i64 0, sO, sI] = tvCells (tvs ++ [(0, sO, sI)]) := by rw [tvCells_append]; rfl
  have el : tvs.length + 1 = (tvs ++ [((0 : Int), sO, sI)]).length := by simp
  rw [e, el] at hown
  refine tran_read (ts := (closeL n i o).trans) hown (by simp; omega) (by rw [close_count]; simp; omega) fun j hj => ?_
  by_cases q : j < tvs.length
  · rw [List.getElem_append_left q, close_at n i o (by omega)]
    obtain ⟨e1, e2, e3⟩ := hto j q
    exact ⟨e1, e2.below c, e3.below c⟩
  · have ej : j = tvs.length := by simp at hj; omega
    subst ej
    rw [List.getElem_append_right (Nat.le_refl _)]
    simp only [Nat.sub_self, List.getElem_cons_zero]
    rw [show tvs.length = n.trans.length by omega, close_last]
    exact ⟨rfl, h1, h2⟩

set_option maxRecDepth 8000 in
set_option maxHeartbeats 4000000 in
theorem hclose_any (v : Value) (n : NetL) (i o : Int) (w : World) (hv : Net w v n) (hsm : SmallNet n) :
    Calls Try.prog 8 #[v, .int .i64 i, .int .i64 o] w fun e w' => ∃ r c d, e = .returned (.tuple #[r, .int .i64 d]) ∧ (Net w' r c ∧ Closed n i o c d) ∧ Below w.heap.size w w' := by
  obtain ⟨tv, rfl, hT⟩ := hv
  obtain ⟨w0, Hw0⟩ : ∃ w0, Hid ((w.alloc (.cells #[.int .i64 n.places, tv] 24)).alloc (.cells #[.int .i64 0, .slice none 0 0] 24) = w0) := ⟨_, rfl⟩
  have b1 := below_new w (.cells #[.int .i64 n.places, tv] 24)
  have b2 := below_new (w.alloc (.cells #[.int .i64 n.places, tv] 24)) (.cells #[.int .i64 0, .slice none 0 0] 24)
  have c : Below w.heap.size w w0 := by rw [← Hw0.out]; exact below_then b1 b2
  have hbx : Box2 w0 w.heap.size (.int .i64 n.places) tv := by rw [← Hw0.out]; exact (box2_new w _ tv 24).below b2
  have hblk : w0.heap[w.heap.size + 1]? = some (.cells #[.int .i64 0, .slice none 0 0] 24 (0, 0)) := by
    rw [← Hw0.out]
    have e : (w.alloc (.cells #[.int .i64 n.places, tv] 24)).heap.size = w.heap.size + 1 := by simp
    rw [← e]
    show ((w.alloc (.cells #[.int .i64 n.places, tv] 24)).heap.push _)[(w.alloc (.cells #[.int .i64 n.places, tv] 24)).heap.size]? = _
    rw [Array.getElem?_push_size]
  have hlt1 : w.heap.size + 1 < w0.heap.size := (Array.getElem?_eq_some_iff.1 hblk).1
  have hv : Net w0 (.agg #[.int .i64 n.places, tv]) n := ⟨_, rfl, hT.below c⟩
  clear b1 b2
  obtain ⟨x0, x1, x2⟩ := id hbx
  go_enter Try.func8, Try.ntmps8
  go_upto_region 1 with fail
  rw [Hw0.out]
  clear Hw0
  go_wp2_with fail
  clear x0 x1 x2
  refine (hwrong_any _ n i o _ (by exact hv) hsm).mono ?_
  rintro e w1 ⟨d, rfl, hd, b⟩
  replace hbx := hbx.below b
  replace hblk := (b.block (w.heap.size + 1) hlt1).trans hblk
  replace hlt1 := Nat.lt_of_lt_of_le hlt1 b.size
  replace hv := hv.below b
  replace c := below_then c b
  clear b
  have q1 : w1.cell? ⟨w.heap.size + 1, 0, none⟩ = some (.int .i64 0) := by simp [World.cell?, hblk]
  have q2 : w1.cell? ⟨w.heap.size + 1, 1, none⟩ = some (.slice none 0 0) := by simp [World.cell?, hblk]
  have q3 : w1.frozen? ⟨w.heap.size + 1, 0, none⟩ = false := by simp [World.frozen?, hblk]
  have q4 : w1.frozen? ⟨w.heap.size + 1, 1, none⟩ = false := by simp [World.frozen?, hblk]
  obtain ⟨a, T, cap, rfl, hTl, _, _, _⟩ := id hT
  obtain ⟨x0, x1, x2⟩ := id hbx
  obtain ⟨W2, HW2⟩ : ∃ W2, Hid ((w1.setCell ⟨w.heap.size + 1, 0, none⟩ (.int .i64 0)).setCell ⟨w.heap.size + 1, 1, none⟩ (.slice none 0 0) = W2) := ⟨_, rfl⟩
  have c2 : Below w.heap.size w W2 := by rw [← HW2.out]; exact (c.setCell (p := ⟨w.heap.size + 1, 0, none⟩) (by simp) _).setCell (p := ⟨w.heap.size + 1, 1, none⟩) (by simp) _
  have z1 : W2.cell? ⟨w.heap.size + 1, 0, none⟩ = some (.int .i64 0) := by
    rw [← HW2.out, World.cell?_setCell_other _ _ _ _ (by simp)]
    exact World.cell?_setCell_same _ _ _ q1
  have z2 : W2.cell? ⟨w.heap.size + 1, 1, none⟩ = some (.slice none 0 0) := by
    rw [← HW2.out]
    exact World.cell?_setCell_same' _ _ _ (by rw [World.cell?_setCell_other _ _ _ _ (by simp), q2]; rfl)
  by_cases hd0 : d = 0
  · subst hd0
    have hS := hd.zero
    by_cases h24 : T < 24
    · have hT0 : 0 < T := by have := shape_some hS; omega
      obtain ⟨tb, toff, _, _, rfl, htlt, _⟩ := hT.at hT0
      obtain ⟨tvs, htl, htc, hto⟩ := trans_cells hT T (Nat.le_refl _)
      have hC : Hid (Closed n i o (closeL n i o) 0) := closed_right hS (by omega)
      have Hto : Hid _ := hto
      have Hone : Hid (∀ u ∈ tvCells tvs, u.oneCell' = true) := tv_one hto
      have cd : Below w.heap.size w (w1.drew.alloc (.cells #[] 43)) := below_then (below_then c ((Below.refl w1.heap.size w1).drew)) (below_new _ _)
      have Htc : Hid (∀ j u, (tvCells tvs)[j]? = some u → (w1.drew.alloc (.cells #[] 43)).cell? ⟨tb, toff + j, none⟩ = some u) := fun j u hj => (cd.cell (p := ⟨tb, toff + j, none⟩) htlt).trans (htc j u hj)
      have HTl : Hid (n.trans.length = T) := hTl
      have Htl : Hid (tvs.length = T) := htl
      clear hS hd hto htc HW2 c2 z1 z2 cd hTl htl W2
      go_upto_region 6 with fail
      go_region_held3 (fun w' => w'.cell? ⟨w.heap.size, 0, none⟩ = some (.int .i64 n.places) ∧ w'.cell? ⟨w.heap.size, 1, none⟩ = some (.slice (some ⟨tb, toff, none⟩) T cap))
        (go_keep)
        (first
          | (go_at_call_of 11 o; refine (hstart_own _ n o _ ?_).mono ?_; exact hv.below bA; rintro e wB ⟨rB, rfl, hB⟩; obtain ⟨aB, lB, cB, rfl⟩ := hB.slice; have bB := below_then bA hB.2.1; obtain ⟨xB0, xB1, xB2⟩ := hbx.below bB)
          | (go_at_call_of 11 i; refine (hstart_own _ n i _ ?_).mono ?_; exact hv.below bB; rintro e wC ⟨rC, rfl, hC2⟩; obtain ⟨aC, lC, cC, rfl⟩ := hC2.slice; have bC := below_then bB hC2.2.1; obtain ⟨xC0, xC1, xC2⟩ := hbx.below bC)
          | (refine wpr_append_tvs rfl _ _ rfl w1.heap.size (w1.drew.alloc (.cells #[] 43)) (.slice (some ⟨w1.drew.heap.size, 0, none⟩) 0 0) [] tvs tb toff T cap (rowT_none w1.drew w1.heap.size (Nat.le_refl _)) rfl rfl Htl.out Htc.out Hone.out (by simp; omega) (by simp) ?_; intro vA wA hA hgA; obtain ⟨aA, lA, cA, rfl⟩ := ownsRow_slice hA; have bA : Below w1.heap.size w1 wA := (((Below.refl w1.heap.size w1).drew).alloc (Nat.le_refl _) _).grown hgA (by simp) (fun k hk => by simp [Value.ownBlock] at hk; omega); obtain ⟨xA0, xA1, xA2⟩ := hbx.below bA)
          | (have hrow : OwnT w1.heap.size w1 wC (.slice aA lA cA) tvs := ((show OwnT w1.heap.size w1 wA (.slice aA lA cA) tvs from ⟨hA, bA, bA.size⟩).trans hB.2.1).trans hC2.2.1; refine wpr_append_tran rfl _ _ rfl w1.heap.size wC (.slice aA lA cA) tvs 0 aB aC lB lC cB cC hrow.1 rfl rfl (by have := Htl.out; omega) bC.size ?_; intro vD wD hD hgD hatD; obtain ⟨aD, lD, cD, rfl⟩ := ownsRow_slice hD; have bD : Below w1.heap.size w1 wD := (bC.alloc bC.size _).grown hgD (by have := bC.size; simp; omega) (fun k hk => (hrow.1.lt k hk).1); obtain ⟨xD0, xD1, xD2⟩ := hbx.below bD; have r1 := (bD.cell (p := ⟨w.heap.size + 1, 0, none⟩) hlt1).trans q1; have r2 := (bD.cell (p := ⟨w.heap.size + 1, 1, none⟩) hlt1).trans q2; have r3 := (bD.frozen (p := ⟨w.heap.size + 1, 0, none⟩) hlt1).trans q3; have r4 := (bD.frozen (p := ⟨w.heap.size + 1, 1, none⟩) hlt1).trans q4))
      all_goals
        obtain ⟨Wf, HWf⟩ : ∃ Wf, Hid ((wD.setCell ⟨w.heap.size + 1, 0, none⟩ (.int .i64 n.places)).setCell ⟨w.heap.size + 1, 1, none⟩ (.slice aD lD cD) = Wf) := ⟨_, rfl⟩
        have hAs := bA.size
        have hBs := hB.2.1.size
        have hCs := hC2.2.1.size
        have hI1 : Ints Wf (.slice aB lB cB) (startL n.places o) := by
          rw [← HWf.out]
          exact row_stays (wB := wB) (hB.trans hC2.2.1).1 (by omega) hrow.1 hgD (by omega) (Nat.le_trans (start_short _ _) (by omega))
        have hI2 : Ints Wf (.slice aC lC cC) (startL n.places i) := by
          rw [← HWf.out]
          exact row_stays (wB := wB) hC2.1 (by omega) hrow.1 hgD (by omega) (Nat.le_trans (start_short _ _) (by omega))
        have cf : Below w.heap.size w Wf := by
          rw [← HWf.out]
          exact ((below_then c bD).setCell (p := ⟨w.heap.size + 1, 0, none⟩) (by simp) _).setCell (p := ⟨w.heap.size + 1, 1, none⟩) (by simp) _
        have hrf : Wf.ownsRow w1.heap.size 43 3 (.slice aD lD cD) (tvs.length + 1) (tvCells tvs ++ [.int .i64 0, .slice aB lB cB, .slice aC lC cC]) := by
          rw [← HWf.out]
          exact ownsRow_setCell_below (ownsRow_setCell_below hD (a := ⟨w.heap.size + 1, 0, none⟩) hlt1 _) (a := ⟨w.heap.size + 1, 1, none⟩) hlt1 _
        have hTr := close_read Htl.out HTl.out h24 Hto.out cf hrf hI1 hI2
        have z1 : Wf.cell? ⟨w.heap.size + 1, 0, none⟩ = some (.int .i64 n.places) := by
          rw [← HWf.out, World.cell?_setCell_other _ _ _ _ (by simp)]
          exact World.cell?_setCell_same _ _ _ r1
        have z2 : Wf.cell? ⟨w.heap.size + 1, 1, none⟩ = some (.slice aD lD cD) := by
          rw [← HWf.out]
          exact World.cell?_setCell_same' _ _ _ (by rw [World.cell?_setCell_other _ _ _ _ (by simp), r2]; rfl)
        clear hI1 hI2 hrf hA hgA hB hC2 hD hgD hatD hrow r1 r2 r3 r4 xA0 xA1 xA2 xB0 xB1 xB2 xC0 xC1 xC2 xD0 xD1 xD2 bA bB bC bD
        go_wp2
        rw [HWf.out]
        exact bodyPost_ret (v := .tuple #[.agg #[.int .i64 n.places, .slice aD lD cD], .int .i64 0]) (results_net rfl rfl rfl z1 z2) rfl ⟨_, closeL n i o, _, rfl, ⟨⟨_, rfl, hTr⟩, hC.out⟩, cf⟩
    · have hC : Hid (Closed n i o ⟨0, []⟩ 4) := closed_full hS (by omega)
      have h24' : (24 : Int) ≤ (T : Int) := by omega
      clear hS hd
      go_wp2
      rw [HW2.out]
      exact bodyPost_ret (v := .tuple #[.agg #[.int .i64 0, .slice none 0 0], .int .i64 4]) (results_net rfl rfl rfl z1 z2) rfl ⟨_, _, _, rfl, ⟨net_none _, hC.out⟩, c2⟩
  · have hne : (d != 0) = true := by simpa using hd0
    have hne2 : (d == 0) = false := by simpa using hd0
    have hC : Hid (Closed n i o ⟨0, []⟩ d) := closed_bad hd hd0
    go_wp2
    rw [HW2.out]
    exact bodyPost_ret (v := .tuple #[.agg #[.int .i64 0, .slice none 0 0], .int .i64 d]) (results_net rfl rfl rfl z1 z2) rfl ⟨_, _, _, rfl, ⟨net_none _, hC.out⟩, c2⟩

end Go.Proofs.Ythkalnijmlhgiaa
