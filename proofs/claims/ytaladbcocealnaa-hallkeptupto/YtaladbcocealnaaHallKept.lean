/- Nothing that is sure is lost, and nothing else is there. (Made by tools/gen_hallkept.py.) -/
import Derived.Test.YtaladbcocealnaaGr22
import Derived.Test.YtaladbcocealnaaHallTwice
import Derived.Lib.MinMax
namespace Go.Proofs.Ytaladbcocealnaa
open Go.RowKit
set_option linter.unusedVariables false
set_option linter.unusedSimpArgs false
set_option maxRecDepth 4000

set_option maxHeartbeats 16000000 in
theorem hallKept_walk (v r u1 u2 : Value) (n : NetL) (i : Int) (roles : List (List Int)) (bs xs : List HOp) (keep : Int) (w : World) (hv : Net w v n) (hr : Lists w r roles) (hu1 : HOpsV w u1 bs) (hu2 : HOpsV w u2 xs) (hbk : BulkNet n) (hs1 : bs.length ≤ 1048576) (hs2 : xs.length ≤ 1048576) (hkw : -9223372036854775808 ≤ keep ∧ keep ≤ 9223372036854775807) :
    Calls Try.prog 4 #[v, .int .i64 i, r, u1, u2, .int .i64 keep] w fun e w' => e = .returned (.bool true) ∧ Below w.heap.size w w' := by
  obtain ⟨tv, rfl, hT⟩ := hv
  have c := below_new w (.cells #[.int .i64 n.places, tv] 24)
  have hbx := box2_new w (.int .i64 n.places) tv 24
  obtain ⟨w0, Hw0⟩ : ∃ w0, Hid (w.alloc (.cells #[.int .i64 n.places, tv] 24) = w0) := ⟨_, rfl⟩
  rw [Hw0.out] at c hbx
  obtain ⟨Nb, HNb⟩ : ∃ N, Hid (bs.length = N) := ⟨_, rfl⟩
  obtain ⟨Nx, HNx⟩ : ∃ N, Hid (xs.length = N) := ⟨_, rfl⟩
  obtain ⟨a1, c1, rfl, _, _⟩ := CellsV.slice hu1
  obtain ⟨a2, c2, rfl, _, _⟩ := CellsV.slice hu2
  have HU1 : Hid (HOpsV w (.slice a1 Nb c1) bs) := by show HOpsV _ _ _; rw [← HNb.out]; exact hu1
  have HU2 : Hid (HOpsV w (.slice a2 Nx c2) xs) := by show HOpsV _ _ _; rw [← HNx.out]; exact hu2
  rw [HNb.out] at hs1 ⊢
  rw [HNx.out] at hs2 ⊢
  clear hu1 hu2 hbk
  go_enter Try.func4, Try.ntmps4
  go_upto_region 1 with fail
  rw [Hw0.out]
  clear Hw0
  go_wp2_with fail
  refine (alive19_any w0).mono ?_
  rintro e w1 ⟨rfl, b⟩
  replace c := below_then c b
  replace hbx := hbx.below b
  clear b
  go_wp2_with fail
  refine (other_any _ bs w1 (by exact HU1.out.below c)).mono ?_
  rintro e w2 ⟨o1, rfl, ho1, b⟩
  replace c := below_then c b
  replace hbx := hbx.below b
  clear b
  cases o1 with
  | true =>
    clear ho1
    go_wp2
    go_ret
    exact ⟨rfl, c⟩
  | false =>
  have Ho1 : Hid (∀ k, k < bs.length → (hopAt bs k).kind = 1) := fun k hk => Classical.byContradiction fun q => by
    have := ho1.2 ⟨k, hk, q⟩; cases this
  clear ho1
  go_wp2_with fail
  refine (other_any _ xs w2 (by exact HU2.out.below c)).mono ?_
  rintro e w3 ⟨o2, rfl, ho2, b⟩
  replace c := below_then c b
  replace hbx := hbx.below b
  clear b
  cases o2 with
  | true =>
    clear ho2
    go_wp2
    go_ret
    exact ⟨rfl, c⟩
  | false =>
  have Ho2 : Hid (∀ k, k < xs.length → (hopAt xs k).kind = 1) := fun k hk => Classical.byContradiction fun q => by
    have := ho2.2 ⟨k, hk, q⟩; cases this
  clear ho2
  -- all: what was ahead, the sync, what came behind
  obtain ⟨all, Hall⟩ : ∃ l, Hid (bs ++ [(⟨2, 0, noDOp⟩ : HOp)] ++ xs = l) := ⟨_, rfl⟩
  obtain ⟨A, HA⟩ : ∃ A, Hid (Nb + 1 + Nx = A) := ⟨_, rfl⟩
  have HA1 : Hid (all.length = A) := by show _ = _; rw [← Hall.out, List.length_append, List.length_append, HNb.out, HNx.out, ← HA.out]; rfl
  have HL1 : Hid (A + 1 ≤ maxLen) := by have := HA.out; show _ ≤ _; unfold maxLen; omega
  have HL2 : Hid ((A + 1) * 56 ≤ 140737488355328) := by have := HA.out; show _ ≤ _; omega
  have HL3 : Hid (A + 1 ≤ 2513169434916) := by have := HA.out; show _ ≤ _; omega
  have bl := below_new w3 (.cells #[.int .i64 2, .int .i64 0, .int .i64 0, .int .i64 0, .int .i64 0, .int .i64 0, .int .i64 0] 47)
  have hl := cellsAt_new w3 #[.int .i64 2, .int .i64 0, .int .i64 0, .int .i64 0, .int .i64 0, .int .i64 0, .int .i64 0] 47
  obtain ⟨wa, Hwa⟩ : ∃ v, Hid (w3.alloc (.cells #[.int .i64 2, .int .i64 0, .int .i64 0, .int .i64 0, .int .i64 0, .int .i64 0, .int .i64 0] 47) = v) := ⟨_, rfl⟩
  rw [Hwa.out] at bl hl
  have sa : wa.heap.size = w3.heap.size + 1 := by rw [← Hwa.out]; simp
  have hla := hl.lt
  have hLit : CellsV wa (.slice (some ⟨w3.heap.size, 0, none⟩) 1 1) 7 2513169434916 1 (hopCells [⟨2, 0, noDOp⟩]) := by
    refine ⟨_, _, rfl, rfl, by omega, ⟨Nat.le_refl _, by omega, fun h => by cases h⟩, hopCells_one _, fun j u hj => ⟨_, 0, rfl, hla, ?_⟩⟩
    rw [Nat.zero_add, hl.cell]
    simpa [hopCells, hopA, noDOp] using hj
  have bl2 := below_new wa (.cells #[.slice a1 Nb c1, .slice (some ⟨w3.heap.size, 0, none⟩) 1 1, .slice a2 Nx c2] 26)
  have hl2 := cellsAt_new wa #[.slice a1 Nb c1, .slice (some ⟨w3.heap.size, 0, none⟩) 1 1, .slice a2 Nx c2] 26
  rw [sa] at hl2
  obtain ⟨wb, Hwb⟩ : ∃ v, Hid ((w3.alloc (.cells #[.int .i64 2, .int .i64 0, .int .i64 0, .int .i64 0, .int .i64 0, .int .i64 0, .int .i64 0] 47)).alloc (.cells #[.slice a1 Nb c1, .slice (some ⟨w3.heap.size, 0, none⟩) 1 1, .slice a2 Nx c2] 26) = v) := ⟨_, rfl⟩
  have hwb : wa.alloc (.cells #[.slice a1 Nb c1, .slice (some ⟨w3.heap.size, 0, none⟩) 1 1, .slice a2 Nx c2] 26) = wb := by rw [← Hwa.out]; exact Hwb.out
  rw [hwb] at bl2 hl2
  have c9 := below_then (below_then c bl) bl2
  have hU1b : CellsV wb (.slice a1 Nb c1) 7 2513169434916 Nb (hopCells bs) := by have := HU1.out.below c9; unfold HOpsV at this; rw [HNb.out] at this; exact this
  have hU2b : CellsV wb (.slice a2 Nx c2) 7 2513169434916 Nx (hopCells xs) := by have := HU2.out.below c9; unfold HOpsV at this; rw [HNx.out] at this; exact this
  have hLis : LisC wb (.slice (some ⟨w3.heap.size + 1, 0, none⟩) 3 3) 7 2513169434916 [(Nb, hopCells bs), (1, hopCells [⟨2, 0, noDOp⟩]), (Nx, hopCells xs)] := by
    refine ⟨_, _, _, rfl, rfl, by omega, ⟨Nat.le_refl _, by omega, fun h => by cases h⟩, fun j hj => ?_⟩
    match j, hj with
    | 0, _ => exact ⟨_, 0, _, rfl, hl2.lt, hl2.cell 0, hU1b⟩
    | 1, _ => exact ⟨_, 0, _, rfl, hl2.lt, hl2.cell 1, hLit.below bl2⟩
    | 2, _ => exact ⟨_, 0, _, rfl, hl2.lt, hl2.cell 2, hU2b⟩
    | j + 3, h => exact absurd (show j + 3 < 3 from h) (by omega)
  have HcatN : Hid (catN [(Nb, hopCells bs), (1, hopCells [⟨2, 0, noDOp⟩]), (Nx, hopCells xs)] 3 = A) := by show _ = _; rw [← HA.out]; simp [catN]; omega
  have HcatC : Hid (catC [(Nb, hopCells bs), (1, hopCells [⟨2, 0, noDOp⟩]), (Nx, hopCells xs)] 3 = hopCells all) := by show _ = _; rw [← Hall.out, hopCells_append, hopCells_append]; simp [catC]
  have hbx0 := hbx.below (below_then bl bl2)
  have hcatle : catN [(Nb, hopCells bs), (1, hopCells [⟨2, 0, noDOp⟩]), (Nx, hopCells xs)] 3 ≤ 2513169434916 := by rw [HcatN.out]; have := HL3.out; omega
  clear hwb sa hl hl2 hla hU1b hU2b hLit bl bl2 hbx c Hwa
  go_wp2_with (rw [Hwb.out])
  refine (concat_hops _ [(Nb, hopCells bs), (1, hopCells [⟨2, 0, noDOp⟩]), (Nx, hopCells xs)] wb (by exact hLis) hcatle).mono ?_
  rintro e w5 ⟨rA, rfl, hO⟩
  have hO : OwnC wb.heap.size wb w5 47 7 rA A (hopCells all) := by rw [← HcatN.out, ← HcatC.out]; exact hO
  obtain ⟨oa, oc, rfl⟩ := hO.slice
  have c := below_then c9 hO.2.1
  have hbx := hbx0.below hO.2.1
  have hAll := hO.cells (most := 2513169434916) (by have := HL3.out; omega) (hopCells_one all)
  clear hO hLis hcatle hbx0 c9 Hwb
  obtain ⟨x0, x1, x2⟩ := id hbx
  have hH : HOpsV w5 (.slice oa A oc) all := by unfold HOpsV; rw [HA1.out]; exact hAll
  go_wp2_with fail
  refine (hall_own _ _ _ n i roles all w5 (by exact ⟨_, rfl, hT.below c⟩) (by exact hr.below c) (by exact hH)).mono ?_
  rintro e wp ⟨ra, la, lac, rfl, hDa, hAa, bp, _, _⟩
  obtain ⟨XA, HXA⟩ : ∃ D, Hid ((hallAll n i roles all).2.1 = D) := ⟨_, rfl⟩
  obtain ⟨ER, HER⟩ : ∃ D, Hid ((hallAll n i roles all).2.2 = D) := ⟨_, rfl⟩
  obtain ⟨XL, HXL⟩ : ∃ D, Hid (XA.length = D) := ⟨_, rfl⟩
  rw [HXA.out] at hAa ⊢
  rw [HXL.out] at hAa ⊢
  rw [HER.out]
  obtain ⟨EL, HEL⟩ : ∃ D, Hid ((hallAll n i roles all).1.items.length = D) := ⟨_, rfl⟩
  obtain ⟨d1, d2, d3, d4, d5, d6, d7, d9, rfl, h1, h2, h3⟩ := hDa
  rw [HEL.out]
  clear h1 h2 h3 x0 x1 x2 hH
  replace c := below_then c bp
  replace hbx := hbx.below bp
  replace hAll := hAll.below bp
  have bn := below_new wp (.cells #[.slice d1 d2 d3, .slice d4 d5 d6, .slice d7 EL d9] 32)
  obtain ⟨w4, Hw4⟩ : ∃ v, Hid (wp.alloc (.cells #[.slice d1 d2 d3, .slice d4 d5 d6, .slice d7 EL d9] 32) = v) := ⟨_, rfl⟩
  rw [Hw4.out] at bn
  go_upto_region 8 with fail
  rw [Hw4.out]
  replace c := below_then c bn
  replace hbx := hbx.below bn
  replace hAll := hAll.below bn
  replace hAa := hAa.below bn
  clear bn bp Hw4
  obtain ⟨DA, HDA⟩ : ∃ D, Hid ((hallAll n i roles (all ++ [(⟨3, keep, noDOp⟩ : HOp)])).1 = D) := ⟨_, rfl⟩
  obtain ⟨FR, HFR⟩ : ∃ D, Hid ((hallAll n i roles (all ++ [(⟨3, keep, noDOp⟩ : HOp)])).2.2 = D) := ⟨_, rfl⟩
  obtain ⟨DL, HDL⟩ : ∃ D, Hid (DA.items.length = D) := ⟨_, rfl⟩
  go_cut [18, 20] (fun x18 x20 wc => ∃ (Bb : Nat) (b1 : Option Addr) (b2 b3 : Nat) (b4 : Option Addr) (b5 b6 : Nat) (b7 : Option Addr) (b9 : Nat), x18 = .pointer (some ⟨Bb, 0, none⟩) ∧ x20 = .int .i64 FR ∧ CellsAt wc Bb #[.slice b1 b2 b3, .slice b4 b5 b6, .slice b7 DL b9] 32 ∧ DeskV wc (.agg #[.slice b1 b2 b3, .slice b4 b5 b6, .slice b7 DL b9]) DA ∧ Below w4.heap.size w4 wc)
  case first =>
    refine wp_region_held_drew (S := (fun w' => w'.cell? ⟨w.heap.size, 0, none⟩ = some (.int .i64 n.places) ∧ w'.cell? ⟨w.heap.size, 1, none⟩ = some (tv))) (by kernel_rfl) ⟨(hbx.below (Below.refl _ _).drew).2.1, (hbx.below (Below.refl _ _).drew).2.2⟩ (fun hH => ?_)
    have b : Below w4.heap.size w4 w4.drew := (Below.refl _ _).drew
    obtain ⟨v0, Hv0⟩ : ∃ v0, Hid (w4.drew = v0) := ⟨_, rfl⟩
    rw [Hv0.out] at hH b ⊢
    clear Hv0
    refine wpAnyH_take (i := 0) (v := .agg #[.int .i64 n.places, tv]) rfl (by kernel_rfl) (by kernel_rfl) (by kernel_rfl) (fun _ _ _ h => h) (.inl ⟨by rfl, fun w' hS' => by obtain ⟨s0, s1⟩ := hS'; go_simp⟩) hH ?_
    simp only [List.getElem_toArray, List.getElem_cons_succ, List.getElem_cons_zero, Act.put, List.setIfInBounds_toArray, List.set_cons_zero, List.set_cons_succ]
    refine wpAnyH_take (i := 1) (v := .int .i64 i) rfl (by kernel_rfl) (by kernel_rfl) (by kernel_rfl) (fun _ _ _ h => h) (.inl ⟨by rfl, fun _ _ => rfl⟩) hH ?_
    simp only [List.getElem_toArray, List.getElem_cons_succ, List.getElem_cons_zero, Act.put, List.setIfInBounds_toArray, List.set_cons_zero, List.set_cons_succ]
    refine wpAnyH_take (i := 2) (v := r) rfl (by kernel_rfl) (by kernel_rfl) (by kernel_rfl) (fun _ _ _ h => h) (.inl ⟨by rfl, fun _ _ => rfl⟩) hH ?_
    simp only [List.getElem_toArray, List.getElem_cons_succ, List.getElem_cons_zero, Act.put, List.setIfInBounds_toArray, List.set_cons_zero, List.set_cons_succ]
    refine wpAnyH_take (i := 3) (v := .slice oa A oc) rfl (by kernel_rfl) (by kernel_rfl) (by kernel_rfl) (fun _ _ _ h => h) (.inl ⟨by rfl, fun _ _ => rfl⟩) hH ?_
    simp only [List.getElem_toArray, List.getElem_cons_succ, List.getElem_cons_zero, Act.put, List.setIfInBounds_toArray, List.set_cons_zero, List.set_cons_succ]
    refine wpAnyH_take (i := 5) (v := .int .i64 keep) rfl (by kernel_rfl) (by kernel_rfl) (by kernel_rfl) (fun _ _ _ h => h) (.inl ⟨by rfl, fun _ _ => rfl⟩) hH ?_
    simp only [List.getElem_toArray, List.getElem_cons_succ, List.getElem_cons_zero, Act.put, List.setIfInBounds_toArray, List.set_cons_zero, List.set_cons_succ]
    refine wpAnyH_take (i := 6) (v := .agg #[.int .i64 3, .int .i64 keep, .int .i64 0, .int .i64 0, .int .i64 0, .int .i64 0, .int .i64 0]) rfl (by kernel_rfl) (by kernel_rfl) (by kernel_rfl) (fun _ _ _ h => h) (.inl ⟨by rfl, fun w' hS' => by first | (go_simp; done) | (go_simp; rfl) | (go_simp; intro h; omega) | (go_simp; omega)⟩) hH ?_
    simp only [List.getElem_toArray, List.getElem_cons_succ, List.getElem_cons_zero, Act.put, List.setIfInBounds_toArray, List.set_cons_zero, List.set_cons_succ]
    refine wpAnyH_ready (rs := [4, 7, 14]) (by kernel_rfl) (by simp) ?_
    refine (AllReadyH.cons rfl (fun K hK => ?_) (AllReadyH.cons rfl (fun K hK => ?_) (AllReadyH.cons rfl (fun K hK => ?_) AllReadyH.nil)))
    · simp only [List.getElem_toArray, List.getElem_cons_succ, List.getElem_cons_zero]
      rw [if_pos (by rfl)]
      go_wp2_with fail
      refine (clone_hops _ A (hopCells all) v0 (by exact hAll.below b)).mono ?_
      rintro e v1 ⟨rc, rfl, hO⟩
      have HO0 : Hid (w4.heap.size ≤ v0.heap.size) := b.size
      obtain ⟨ca, cc, rfl⟩ := hO.slice
      have HcB : Hid (∀ q, (Value.slice ca A cc).ownBlock = some q → w4.heap.size ≤ q) := fun q e => Nat.le_trans HO0.out (hO.1.lt q e).1
      replace b := below_then b hO.2.1
      refine hK.out _ _ ⟨(hbx.below b).2.1, (hbx.below b).2.2⟩ (fun hH => ?_)
      clear hK
      refine wpAnyH_ready (rs := [7, 14]) (by kernel_rfl) (by simp) ?_
      refine (AllReadyH.cons rfl (fun K hK => ?_) (AllReadyH.cons rfl (fun K hK => ?_) AllReadyH.nil))
      · simp only [List.getElem_toArray, List.getElem_cons_succ, List.getElem_cons_zero]
        rw [if_pos (by rfl)]
        have bs := below_new v1 (.cells #[.int .i64 3, .int .i64 keep, .int .i64 0, .int .i64 0, .int .i64 0, .int .i64 0, .int .i64 0] 47)
        have hL := cellsAt_new v1 #[.int .i64 3, .int .i64 keep, .int .i64 0, .int .i64 0, .int .i64 0, .int .i64 0, .int .i64 0] 47
        obtain ⟨Bl, HBl⟩ : ∃ B, Hid (v1.heap.size = B) := ⟨_, rfl⟩
        obtain ⟨v2, Hv2⟩ : ∃ v, Hid (v1.alloc (.cells #[.int .i64 3, .int .i64 keep, .int .i64 0, .int .i64 0, .int .i64 0, .int .i64 0, .int .i64 0] 47) = v) := ⟨_, rfl⟩
        rw [Hv2.out] at bs hL
        rw [HBl.out] at hL
        go_wp2_with fail
        rw [Hv2.out, HBl.out]
        replace hO := hO.trans bs
        replace b := below_then b bs
        refine hK.out _ _ ⟨(hbx.below b).2.1, (hbx.below b).2.2⟩ (fun hH => ?_)
        clear hK
        clear bs
        refine wpAnyH_ready (rs := [8, 14]) (by kernel_rfl) (by simp) ?_
        refine (AllReadyH.cons rfl (fun K hK => ?_) (AllReadyH.cons rfl (fun K hK => ?_) AllReadyH.nil))
        · simp only [List.getElem_toArray, List.getElem_cons_succ, List.getElem_cons_zero]
          refine wpr_append_cells elem_hops (by rfl) _ _ rfl v0.heap.size v0 v2 (.slice ca A cc) A 1 1 ⟨Bl, 0, none⟩ (hopCells all) (hopA ⟨3, keep, noDOp⟩).toList hO rfl rfl rfl (fun j u hj => by rw [addr_add, Nat.zero_add, hL.cell]; simpa [hopA, noDOp] using hj) (fun u hu => hopCells_one [⟨3, keep, noDOp⟩] u (by simpa [hopCells] using hu)) HL1.out HL2.out ?_
          intro nv v3 hO2 hg
          obtain ⟨na, nl, nc, rfl⟩ := ownsRow_slice hO2.1
          rw [show hopCells all ++ (hopA ⟨3, keep, noDOp⟩).toList = hopCells (all ++ [⟨3, keep, noDOp⟩]) by rw [hopCells_append]; simp [hopCells]] at hO2
          have hH2 := OwnC.hops hO2 (by rw [List.length_append, HA1.out]; rfl) HL3.out
          have b8 := b
          replace b : Below w4.heap.size w4 v3 := b.grown hg b.size (fun q e => HcB.out q e)
          refine hK.out _ _ ⟨(hbx.below b).2.1, (hbx.below b).2.2⟩ (fun hH => ?_)
          clear hK
          clear hO hL hg hO2 b8
          refine wpAnyH_ready (rs := [9, 14]) (by kernel_rfl) (by simp) ?_
          refine (AllReadyH.cons rfl (fun K hK => ?_) (AllReadyH.cons rfl (fun K hK => ?_) AllReadyH.nil))
          · simp only [List.getElem_toArray, List.getElem_cons_succ, List.getElem_cons_zero]
            rw [if_pos (by rfl)]
            go_wp2_with fail
            refine (hall_own _ _ _ n i roles (all ++ [⟨3, keep, noDOp⟩]) v3 (by exact ⟨_, rfl, hT.below (below_then c b)⟩) (by exact hr.below (below_then c b)) (by exact hH2)).mono ?_
            rintro e v4 ⟨rb, lb, lbc, rfl, hDb, _, bs, hFb, _⟩
            rw [HDA.out] at hDb
            rw [HFR.out]
            obtain ⟨L2, HL2e⟩ : ∃ L, Hid ((hallAll n i roles (all ++ [(⟨3, keep, noDOp⟩ : HOp)])).2.1.length = L) := ⟨_, rfl⟩
            rw [HL2e.out]
            have KB := (desk_on hDb hFb).weaken (D' := fun k => v3.heap.size ≤ k) (fun k _ hk => hk)
            obtain ⟨b1, b2, b3, b4, b5, b6, b7, b9, rfl, k1, k2, k3⟩ := hDb
            clear k1 k2 k3
            rw [HDL.out] at KB ⊢
            replace b := below_then b bs
            refine hK.out _ _ ⟨(hbx.below b).2.1, (hbx.below b).2.2⟩ (fun hH => ?_)
            clear hK
            clear bs hH2
            refine wpAnyH_take (i := 10) (v := .tuple #[.agg #[.slice b1 b2 b3, .slice b4 b5 b6, .slice b7 DL b9], .slice lb L2 lbc, .int .i64 FR]) rfl (by kernel_rfl) (by kernel_rfl) (by kernel_rfl) (fun _ _ _ h => h) (.inl ⟨by rfl, fun _ _ => rfl⟩) hH ?_
            simp only [List.getElem_toArray, List.getElem_cons_succ, List.getElem_cons_zero, Act.put, List.setIfInBounds_toArray, List.set_cons_zero, List.set_cons_succ]
            refine wpAnyH_take (i := 11) (v := .agg #[.slice b1 b2 b3, .slice b4 b5 b6, .slice b7 DL b9]) rfl (by kernel_rfl) (by kernel_rfl) (by kernel_rfl) (fun _ _ _ h => h) (.inl ⟨by rfl, fun w' hS' => by first | (go_simp; done) | (go_simp; rfl) | (go_simp; intro h; omega) | (go_simp; omega)⟩) hH ?_
            simp only [List.getElem_toArray, List.getElem_cons_succ, List.getElem_cons_zero, Act.put, List.setIfInBounds_toArray, List.set_cons_zero, List.set_cons_succ]
            refine wpAnyH_take (i := 12) (v := .slice lb L2 lbc) rfl (by kernel_rfl) (by kernel_rfl) (by kernel_rfl) (fun _ _ _ h => h) (.inl ⟨by rfl, fun w' hS' => by first | (go_simp; done) | (go_simp; rfl) | (go_simp; intro h; omega) | (go_simp; omega)⟩) hH ?_
            simp only [List.getElem_toArray, List.getElem_cons_succ, List.getElem_cons_zero, Act.put, List.setIfInBounds_toArray, List.set_cons_zero, List.set_cons_succ]
            refine wpAnyH_take (i := 13) (v := .int .i64 FR) rfl (by kernel_rfl) (by kernel_rfl) (by kernel_rfl) (fun _ _ _ h => h) (.inl ⟨by rfl, fun w' hS' => by first | (go_simp; done) | (go_simp; rfl) | (go_simp; intro h; omega) | (go_simp; omega)⟩) hH ?_
            simp only [List.getElem_toArray, List.getElem_cons_succ, List.getElem_cons_zero, Act.put, List.setIfInBounds_toArray, List.set_cons_zero, List.set_cons_succ]
            have bs := below_new v4 (.cells #[.slice none 0 0, .slice none 0 0, .slice none 0 0] 32)
            have hX := cellsAt_new v4 #[.slice none 0 0, .slice none 0 0, .slice none 0 0] 32
            obtain ⟨Bb, HBb⟩ : ∃ B, Hid (v4.heap.size = B) := ⟨_, rfl⟩
            have HBbB : Hid (w4.heap.size ≤ Bb) := by show _ ≤ _; rw [← HBb.out]; exact b.size
            obtain ⟨v5, Hv5⟩ : ∃ v, Hid (v4.alloc (.cells #[.slice none 0 0, .slice none 0 0, .slice none 0 0] 32) = v) := ⟨_, rfl⟩
            rw [Hv5.out] at bs hX
            rw [HBb.out] at hX
            refine wpAnyH_ready (rs := [14]) (by kernel_rfl) (by simp) ?_
            refine AllReadyH.cons rfl (fun K hK => ?_) AllReadyH.nil
            simp only [List.getElem_toArray, List.getElem_cons_succ, List.getElem_cons_zero]
            rw [if_pos (by rfl)]
            go_wp2_with fail
            rw [Hv5.out, HBb.out]
            replace KB := KB.skip (.cells #[.slice none 0 0, .slice none 0 0, .slice none 0 0] 32)
            rw [Hv5.out, HBb.out] at KB
            replace b := below_then b bs
            refine hK.out _ _ ⟨(hbx.below b).2.1, (hbx.below b).2.2⟩ (fun hH => ?_)
            clear hK
            clear bs
            have f0 := hX.frozen 0
            have f1 := hX.frozen 1
            have f2 := hX.frozen 2
            have x0' : v5.cell? ⟨Bb, 0, none⟩ = some (.slice none 0 0) := hX.cell 0
            have x1' : v5.cell? ⟨Bb, 1, none⟩ = some (.slice none 0 0) := hX.cell 1
            have x2' : v5.cell? ⟨Bb, 2, none⟩ = some (.slice none 0 0) := hX.cell 2
            have hXf := ((hX.put 0 (.slice b1 b2 b3)).put 1 (.slice b4 b5 b6)).put 2 (.slice b7 DL b9)
            have KBf := ((KB.set (a := ⟨Bb, 0, none⟩) (fun q => q.2 rfl) (.slice b1 b2 b3)).set (a := ⟨Bb, 1, none⟩) (fun q => q.2 rfl) (.slice b4 b5 b6)).set (a := ⟨Bb, 2, none⟩) (fun q => q.2 rfl) (.slice b7 DL b9)
            have bf := ((b.setCell (p := ⟨Bb, 0, none⟩) HBbB.out (.slice b1 b2 b3)).setCell (p := ⟨Bb, 1, none⟩) HBbB.out (.slice b4 b5 b6)).setCell (p := ⟨Bb, 2, none⟩) HBbB.out (.slice b7 DL b9)
            obtain ⟨W9, HW9⟩ : ∃ v, Hid (((v5.setCell ⟨Bb, 0, none⟩ (.slice b1 b2 b3)).setCell ⟨Bb, 1, none⟩ (.slice b4 b5 b6)).setCell ⟨Bb, 2, none⟩ (.slice b7 DL b9) = v) := ⟨_, rfl⟩
            rw [HW9.out] at hXf KBf bf
            have hXf : CellsAt W9 Bb #[.slice b1 b2 b3, .slice b4 b5 b6, .slice b7 DL b9] 32 := hXf
            refine wpAnyH_ready (rs := [15]) (by kernel_rfl) (by simp) ?_
            refine AllReadyH.cons rfl (fun K hK => ?_) AllReadyH.nil
            simp only [List.getElem_toArray, List.getElem_cons_succ, List.getElem_cons_zero]
            rw [if_pos (by rfl)]
            go_wp2_with fail
            rw [HW9.out]
            refine hK.out _ _ ⟨(hbx.below bf).2.1, (hbx.below bf).2.2⟩ (fun hH => ?_)
            clear hK
            refine wpAnyH_take (i := 16) (v := .slice lb L2 lbc) rfl (by kernel_rfl) (by kernel_rfl) (by kernel_rfl) (fun _ _ _ h => h) (.inl ⟨by rfl, fun _ _ => rfl⟩) hH ?_
            simp only [List.getElem_toArray, List.getElem_cons_succ, List.getElem_cons_zero, Act.put, List.setIfInBounds_toArray, List.set_cons_zero, List.set_cons_succ]
            refine wpAnyH_take (i := 17) (v := .int .i64 FR) rfl (by kernel_rfl) (by kernel_rfl) (by kernel_rfl) (fun _ _ _ h => h) (.inl ⟨by rfl, fun _ _ => rfl⟩) hH ?_
            simp only [List.getElem_toArray, List.getElem_cons_succ, List.getElem_cons_zero, Act.put, List.setIfInBounds_toArray, List.set_cons_zero, List.set_cons_succ]
            refine wpAnyH_done (by kernel_rfl) ?_ _
            go_wp2_with fail
            go_meet
            exact ⟨Bb, b1, b2, b3, b4, b5, b6, b7, b9, rfl, rfl, hXf, KBf.now, bf⟩
          · simp only [List.getElem_toArray, List.getElem_cons_succ, List.getElem_cons_zero]
            rw [if_pos (by rfl)]
            have bs := below_new v3 (.cells #[.slice none 0 0, .slice none 0 0, .slice none 0 0] 32)
            have hX := cellsAt_new v3 #[.slice none 0 0, .slice none 0 0, .slice none 0 0] 32
            obtain ⟨Bb, HBb⟩ : ∃ B, Hid (v3.heap.size = B) := ⟨_, rfl⟩
            have HBbB : Hid (w4.heap.size ≤ Bb) := by show _ ≤ _; rw [← HBb.out]; exact b.size
            obtain ⟨v4, Hv4⟩ : ∃ v, Hid (v3.alloc (.cells #[.slice none 0 0, .slice none 0 0, .slice none 0 0] 32) = v) := ⟨_, rfl⟩
            rw [Hv4.out] at bs hX
            rw [HBb.out] at hX
            go_wp2_with fail
            rw [Hv4.out, HBb.out]
            replace hH2 := hH2.below bs
            replace b := below_then b bs
            refine hK.out _ _ ⟨(hbx.below b).2.1, (hbx.below b).2.2⟩ (fun hH => ?_)
            clear hK
            clear bs
            refine wpAnyH_ready (rs := [9]) (by kernel_rfl) (by simp) ?_
            refine AllReadyH.cons rfl (fun K hK => ?_) AllReadyH.nil
            simp only [List.getElem_toArray, List.getElem_cons_succ, List.getElem_cons_zero]
            rw [if_pos (by rfl)]
            go_wp2_with fail
            refine (hall_own _ _ _ n i roles (all ++ [⟨3, keep, noDOp⟩]) v4 (by exact ⟨_, rfl, hT.below (below_then c b)⟩) (by exact hr.below (below_then c b)) (by exact hH2)).mono ?_
            rintro e v5 ⟨rb, lb, lbc, rfl, hDb, _, bs, hFb, _⟩
            rw [HDA.out] at hDb
            rw [HFR.out]
            obtain ⟨L2, HL2e⟩ : ∃ L, Hid ((hallAll n i roles (all ++ [(⟨3, keep, noDOp⟩ : HOp)])).2.1.length = L) := ⟨_, rfl⟩
            rw [HL2e.out]
            have KB := (desk_on hDb hFb).weaken (D' := fun k => v4.heap.size ≤ k) (fun k _ hk => hk)
            obtain ⟨b1, b2, b3, b4, b5, b6, b7, b9, rfl, k1, k2, k3⟩ := hDb
            clear k1 k2 k3
            rw [HDL.out] at KB ⊢
            replace KB := KB.weaken (D' := fun k => v4.heap.size ≤ k ∧ k ≠ Bb) (fun k _ hk => ⟨hk, fun e => by have := hX.lt; have hk : v4.heap.size ≤ k := hk; omega⟩)
            replace hX := hX.below bs
            replace b := below_then b bs
            refine hK.out _ _ ⟨(hbx.below b).2.1, (hbx.below b).2.2⟩ (fun hH => ?_)
            clear hK
            clear bs hH2
            refine wpAnyH_take (i := 10) (v := .tuple #[.agg #[.slice b1 b2 b3, .slice b4 b5 b6, .slice b7 DL b9], .slice lb L2 lbc, .int .i64 FR]) rfl (by kernel_rfl) (by kernel_rfl) (by kernel_rfl) (fun _ _ _ h => h) (.inl ⟨by rfl, fun _ _ => rfl⟩) hH ?_
            simp only [List.getElem_toArray, List.getElem_cons_succ, List.getElem_cons_zero, Act.put, List.setIfInBounds_toArray, List.set_cons_zero, List.set_cons_succ]
            refine wpAnyH_take (i := 11) (v := .agg #[.slice b1 b2 b3, .slice b4 b5 b6, .slice b7 DL b9]) rfl (by kernel_rfl) (by kernel_rfl) (by kernel_rfl) (fun _ _ _ h => h) (.inl ⟨by rfl, fun w' hS' => by first | (go_simp; done) | (go_simp; rfl) | (go_simp; intro h; omega) | (go_simp; omega)⟩) hH ?_
            simp only [List.getElem_toArray, List.getElem_cons_succ, List.getElem_cons_zero, Act.put, List.setIfInBounds_toArray, List.set_cons_zero, List.set_cons_succ]
            refine wpAnyH_take (i := 12) (v := .slice lb L2 lbc) rfl (by kernel_rfl) (by kernel_rfl) (by kernel_rfl) (fun _ _ _ h => h) (.inl ⟨by rfl, fun w' hS' => by first | (go_simp; done) | (go_simp; rfl) | (go_simp; intro h; omega) | (go_simp; omega)⟩) hH ?_
            simp only [List.getElem_toArray, List.getElem_cons_succ, List.getElem_cons_zero, Act.put, List.setIfInBounds_toArray, List.set_cons_zero, List.set_cons_succ]
            refine wpAnyH_take (i := 13) (v := .int .i64 FR) rfl (by kernel_rfl) (by kernel_rfl) (by kernel_rfl) (fun _ _ _ h => h) (.inl ⟨by rfl, fun w' hS' => by first | (go_simp; done) | (go_simp; rfl) | (go_simp; intro h; omega) | (go_simp; omega)⟩) hH ?_
            simp only [List.getElem_toArray, List.getElem_cons_succ, List.getElem_cons_zero, Act.put, List.setIfInBounds_toArray, List.set_cons_zero, List.set_cons_succ]
            have f0 := hX.frozen 0
            have f1 := hX.frozen 1
            have f2 := hX.frozen 2
            have x0' : v5.cell? ⟨Bb, 0, none⟩ = some (.slice none 0 0) := hX.cell 0
            have x1' : v5.cell? ⟨Bb, 1, none⟩ = some (.slice none 0 0) := hX.cell 1
            have x2' : v5.cell? ⟨Bb, 2, none⟩ = some (.slice none 0 0) := hX.cell 2
            have hXf := ((hX.put 0 (.slice b1 b2 b3)).put 1 (.slice b4 b5 b6)).put 2 (.slice b7 DL b9)
            have KBf := ((KB.set (a := ⟨Bb, 0, none⟩) (fun q => q.2 rfl) (.slice b1 b2 b3)).set (a := ⟨Bb, 1, none⟩) (fun q => q.2 rfl) (.slice b4 b5 b6)).set (a := ⟨Bb, 2, none⟩) (fun q => q.2 rfl) (.slice b7 DL b9)
            have bf := ((b.setCell (p := ⟨Bb, 0, none⟩) HBbB.out (.slice b1 b2 b3)).setCell (p := ⟨Bb, 1, none⟩) HBbB.out (.slice b4 b5 b6)).setCell (p := ⟨Bb, 2, none⟩) HBbB.out (.slice b7 DL b9)
            obtain ⟨W9, HW9⟩ : ∃ v, Hid (((v5.setCell ⟨Bb, 0, none⟩ (.slice b1 b2 b3)).setCell ⟨Bb, 1, none⟩ (.slice b4 b5 b6)).setCell ⟨Bb, 2, none⟩ (.slice b7 DL b9) = v) := ⟨_, rfl⟩
            rw [HW9.out] at hXf KBf bf
            have hXf : CellsAt W9 Bb #[.slice b1 b2 b3, .slice b4 b5 b6, .slice b7 DL b9] 32 := hXf
            refine wpAnyH_ready (rs := [15]) (by kernel_rfl) (by simp) ?_
            refine AllReadyH.cons rfl (fun K hK => ?_) AllReadyH.nil
            simp only [List.getElem_toArray, List.getElem_cons_succ, List.getElem_cons_zero]
            rw [if_pos (by rfl)]
            go_wp2_with fail
            rw [HW9.out]
            refine hK.out _ _ ⟨(hbx.below bf).2.1, (hbx.below bf).2.2⟩ (fun hH => ?_)
            clear hK
            refine wpAnyH_take (i := 16) (v := .slice lb L2 lbc) rfl (by kernel_rfl) (by kernel_rfl) (by kernel_rfl) (fun _ _ _ h => h) (.inl ⟨by rfl, fun _ _ => rfl⟩) hH ?_
            simp only [List.getElem_toArray, List.getElem_cons_succ, List.getElem_cons_zero, Act.put, List.setIfInBounds_toArray, List.set_cons_zero, List.set_cons_succ]
            refine wpAnyH_take (i := 17) (v := .int .i64 FR) rfl (by kernel_rfl) (by kernel_rfl) (by kernel_rfl) (fun _ _ _ h => h) (.inl ⟨by rfl, fun _ _ => rfl⟩) hH ?_
            simp only [List.getElem_toArray, List.getElem_cons_succ, List.getElem_cons_zero, Act.put, List.setIfInBounds_toArray, List.set_cons_zero, List.set_cons_succ]
            refine wpAnyH_done (by kernel_rfl) ?_ _
            go_wp2_with fail
            go_meet
            exact ⟨Bb, b1, b2, b3, b4, b5, b6, b7, b9, rfl, rfl, hXf, KBf.now, bf⟩
        · simp only [List.getElem_toArray, List.getElem_cons_succ, List.getElem_cons_zero]
          rw [if_pos (by rfl)]
          have bs := below_new v2 (.cells #[.slice none 0 0, .slice none 0 0, .slice none 0 0] 32)
          have hX := cellsAt_new v2 #[.slice none 0 0, .slice none 0 0, .slice none 0 0] 32
          obtain ⟨Bb, HBb⟩ : ∃ B, Hid (v2.heap.size = B) := ⟨_, rfl⟩
          have HBbB : Hid (w4.heap.size ≤ Bb) := by show _ ≤ _; rw [← HBb.out]; exact b.size
          obtain ⟨v3, Hv3⟩ : ∃ v, Hid (v2.alloc (.cells #[.slice none 0 0, .slice none 0 0, .slice none 0 0] 32) = v) := ⟨_, rfl⟩
          rw [Hv3.out] at bs hX
          rw [HBb.out] at hX
          have HRB : Hid (∀ q, (Value.slice ca A cc).ownBlock = some q → q ≠ Bb) := fun q e => by have := (hO.1.lt q e).2; rw [HBb.out] at this; omega
          go_wp2_with fail
          rw [Hv3.out, HBb.out]
          replace hL := hL.below bs
          replace hO := hO.trans bs
          replace b := below_then b bs
          refine hK.out _ _ ⟨(hbx.below b).2.1, (hbx.below b).2.2⟩ (fun hH => ?_)
          clear hK
          clear bs
          refine wpAnyH_ready (rs := [8]) (by kernel_rfl) (by simp) ?_
          refine AllReadyH.cons rfl (fun K hK => ?_) AllReadyH.nil
          simp only [List.getElem_toArray, List.getElem_cons_succ, List.getElem_cons_zero]
          refine wpr_append_cells elem_hops (by rfl) _ _ rfl v0.heap.size v0 v3 (.slice ca A cc) A 1 1 ⟨Bl, 0, none⟩ (hopCells all) (hopA ⟨3, keep, noDOp⟩).toList hO rfl rfl rfl (fun j u hj => by rw [addr_add, Nat.zero_add, hL.cell]; simpa [hopA, noDOp] using hj) (fun u hu => hopCells_one [⟨3, keep, noDOp⟩] u (by simpa [hopCells] using hu)) HL1.out HL2.out ?_
          intro nv v4 hO2 hg
          obtain ⟨na, nl, nc, rfl⟩ := ownsRow_slice hO2.1
          rw [show hopCells all ++ (hopA ⟨3, keep, noDOp⟩).toList = hopCells (all ++ [⟨3, keep, noDOp⟩]) by rw [hopCells_append]; simp [hopCells]] at hO2
          have hH2 := OwnC.hops hO2 (by rw [List.length_append, HA1.out]; rfl) HL3.out
          have b8 := b
          replace b : Below w4.heap.size w4 v4 := b.grown hg b.size (fun q e => HcB.out q e)
          replace hX : CellsAt v4 Bb #[.slice none 0 0, .slice none 0 0, .slice none 0 0] 32 := (hg.block Bb hX.lt (fun e => HRB.out _ e.symm rfl)).trans hX
          refine hK.out _ _ ⟨(hbx.below b).2.1, (hbx.below b).2.2⟩ (fun hH => ?_)
          clear hK
          clear hO hL hg hO2 b8
          refine wpAnyH_ready (rs := [9]) (by kernel_rfl) (by simp) ?_
          refine AllReadyH.cons rfl (fun K hK => ?_) AllReadyH.nil
          simp only [List.getElem_toArray, List.getElem_cons_succ, List.getElem_cons_zero]
          rw [if_pos (by rfl)]
          go_wp2_with fail
          refine (hall_own _ _ _ n i roles (all ++ [⟨3, keep, noDOp⟩]) v4 (by exact ⟨_, rfl, hT.below (below_then c b)⟩) (by exact hr.below (below_then c b)) (by exact hH2)).mono ?_
          rintro e v5 ⟨rb, lb, lbc, rfl, hDb, _, bs, hFb, _⟩
          rw [HDA.out] at hDb
          rw [HFR.out]
          obtain ⟨L2, HL2e⟩ : ∃ L, Hid ((hallAll n i roles (all ++ [(⟨3, keep, noDOp⟩ : HOp)])).2.1.length = L) := ⟨_, rfl⟩
          rw [HL2e.out]
          have KB := (desk_on hDb hFb).weaken (D' := fun k => v4.heap.size ≤ k) (fun k _ hk => hk)
          obtain ⟨b1, b2, b3, b4, b5, b6, b7, b9, rfl, k1, k2, k3⟩ := hDb
          clear k1 k2 k3
          rw [HDL.out] at KB ⊢
          replace KB := KB.weaken (D' := fun k => v4.heap.size ≤ k ∧ k ≠ Bb) (fun k _ hk => ⟨hk, fun e => by have := hX.lt; have hk : v4.heap.size ≤ k := hk; omega⟩)
          replace hX := hX.below bs
          replace b := below_then b bs
          refine hK.out _ _ ⟨(hbx.below b).2.1, (hbx.below b).2.2⟩ (fun hH => ?_)
          clear hK
          clear bs hH2
          refine wpAnyH_take (i := 10) (v := .tuple #[.agg #[.slice b1 b2 b3, .slice b4 b5 b6, .slice b7 DL b9], .slice lb L2 lbc, .int .i64 FR]) rfl (by kernel_rfl) (by kernel_rfl) (by kernel_rfl) (fun _ _ _ h => h) (.inl ⟨by rfl, fun _ _ => rfl⟩) hH ?_
          simp only [List.getElem_toArray, List.getElem_cons_succ, List.getElem_cons_zero, Act.put, List.setIfInBounds_toArray, List.set_cons_zero, List.set_cons_succ]
          refine wpAnyH_take (i := 11) (v := .agg #[.slice b1 b2 b3, .slice b4 b5 b6, .slice b7 DL b9]) rfl (by kernel_rfl) (by kernel_rfl) (by kernel_rfl) (fun _ _ _ h => h) (.inl ⟨by rfl, fun w' hS' => by first | (go_simp; done) | (go_simp; rfl) | (go_simp; intro h; omega) | (go_simp; omega)⟩) hH ?_
          simp only [List.getElem_toArray, List.getElem_cons_succ, List.getElem_cons_zero, Act.put, List.setIfInBounds_toArray, List.set_cons_zero, List.set_cons_succ]
          refine wpAnyH_take (i := 12) (v := .slice lb L2 lbc) rfl (by kernel_rfl) (by kernel_rfl) (by kernel_rfl) (fun _ _ _ h => h) (.inl ⟨by rfl, fun w' hS' => by first | (go_simp; done) | (go_simp; rfl) | (go_simp; intro h; omega) | (go_simp; omega)⟩) hH ?_
          simp only [List.getElem_toArray, List.getElem_cons_succ, List.getElem_cons_zero, Act.put, List.setIfInBounds_toArray, List.set_cons_zero, List.set_cons_succ]
          refine wpAnyH_take (i := 13) (v := .int .i64 FR) rfl (by kernel_rfl) (by kernel_rfl) (by kernel_rfl) (fun _ _ _ h => h) (.inl ⟨by rfl, fun w' hS' => by first | (go_simp; done) | (go_simp; rfl) | (go_simp; intro h; omega) | (go_simp; omega)⟩) hH ?_
          simp only [List.getElem_toArray, List.getElem_cons_succ, List.getElem_cons_zero, Act.put, List.setIfInBounds_toArray, List.set_cons_zero, List.set_cons_succ]
          have f0 := hX.frozen 0
          have f1 := hX.frozen 1
          have f2 := hX.frozen 2
          have x0' : v5.cell? ⟨Bb, 0, none⟩ = some (.slice none 0 0) := hX.cell 0
          have x1' : v5.cell? ⟨Bb, 1, none⟩ = some (.slice none 0 0) := hX.cell 1
          have x2' : v5.cell? ⟨Bb, 2, none⟩ = some (.slice none 0 0) := hX.cell 2
          have hXf := ((hX.put 0 (.slice b1 b2 b3)).put 1 (.slice b4 b5 b6)).put 2 (.slice b7 DL b9)
          have KBf := ((KB.set (a := ⟨Bb, 0, none⟩) (fun q => q.2 rfl) (.slice b1 b2 b3)).set (a := ⟨Bb, 1, none⟩) (fun q => q.2 rfl) (.slice b4 b5 b6)).set (a := ⟨Bb, 2, none⟩) (fun q => q.2 rfl) (.slice b7 DL b9)
          have bf := ((b.setCell (p := ⟨Bb, 0, none⟩) HBbB.out (.slice b1 b2 b3)).setCell (p := ⟨Bb, 1, none⟩) HBbB.out (.slice b4 b5 b6)).setCell (p := ⟨Bb, 2, none⟩) HBbB.out (.slice b7 DL b9)
          obtain ⟨W9, HW9⟩ : ∃ v, Hid (((v5.setCell ⟨Bb, 0, none⟩ (.slice b1 b2 b3)).setCell ⟨Bb, 1, none⟩ (.slice b4 b5 b6)).setCell ⟨Bb, 2, none⟩ (.slice b7 DL b9) = v) := ⟨_, rfl⟩
          rw [HW9.out] at hXf KBf bf
          have hXf : CellsAt W9 Bb #[.slice b1 b2 b3, .slice b4 b5 b6, .slice b7 DL b9] 32 := hXf
          refine wpAnyH_ready (rs := [15]) (by kernel_rfl) (by simp) ?_
          refine AllReadyH.cons rfl (fun K hK => ?_) AllReadyH.nil
          simp only [List.getElem_toArray, List.getElem_cons_succ, List.getElem_cons_zero]
          rw [if_pos (by rfl)]
          go_wp2_with fail
          rw [HW9.out]
          refine hK.out _ _ ⟨(hbx.below bf).2.1, (hbx.below bf).2.2⟩ (fun hH => ?_)
          clear hK
          refine wpAnyH_take (i := 16) (v := .slice lb L2 lbc) rfl (by kernel_rfl) (by kernel_rfl) (by kernel_rfl) (fun _ _ _ h => h) (.inl ⟨by rfl, fun _ _ => rfl⟩) hH ?_
          simp only [List.getElem_toArray, List.getElem_cons_succ, List.getElem_cons_zero, Act.put, List.setIfInBounds_toArray, List.set_cons_zero, List.set_cons_succ]
          refine wpAnyH_take (i := 17) (v := .int .i64 FR) rfl (by kernel_rfl) (by kernel_rfl) (by kernel_rfl) (fun _ _ _ h => h) (.inl ⟨by rfl, fun _ _ => rfl⟩) hH ?_
          simp only [List.getElem_toArray, List.getElem_cons_succ, List.getElem_cons_zero, Act.put, List.setIfInBounds_toArray, List.set_cons_zero, List.set_cons_succ]
          refine wpAnyH_done (by kernel_rfl) ?_ _
          go_wp2_with fail
          go_meet
          exact ⟨Bb, b1, b2, b3, b4, b5, b6, b7, b9, rfl, rfl, hXf, KBf.now, bf⟩
      · simp only [List.getElem_toArray, List.getElem_cons_succ, List.getElem_cons_zero]
        rw [if_pos (by rfl)]
        have bs := below_new v1 (.cells #[.slice none 0 0, .slice none 0 0, .slice none 0 0] 32)
        have hX := cellsAt_new v1 #[.slice none 0 0, .slice none 0 0, .slice none 0 0] 32
        obtain ⟨Bb, HBb⟩ : ∃ B, Hid (v1.heap.size = B) := ⟨_, rfl⟩
        have HBbB : Hid (w4.heap.size ≤ Bb) := by show _ ≤ _; rw [← HBb.out]; exact b.size
        obtain ⟨v2, Hv2⟩ : ∃ v, Hid (v1.alloc (.cells #[.slice none 0 0, .slice none 0 0, .slice none 0 0] 32) = v) := ⟨_, rfl⟩
        rw [Hv2.out] at bs hX
        rw [HBb.out] at hX
        have HRB : Hid (∀ q, (Value.slice ca A cc).ownBlock = some q → q ≠ Bb) := fun q e => by have := (hO.1.lt q e).2; rw [HBb.out] at this; omega
        go_wp2_with fail
        rw [Hv2.out, HBb.out]
        replace hO := hO.trans bs
        replace b := below_then b bs
        refine hK.out _ _ ⟨(hbx.below b).2.1, (hbx.below b).2.2⟩ (fun hH => ?_)
        clear hK
        clear bs
        have bs := below_new v2 (.cells #[.int .i64 3, .int .i64 keep, .int .i64 0, .int .i64 0, .int .i64 0, .int .i64 0, .int .i64 0] 47)
        have hL := cellsAt_new v2 #[.int .i64 3, .int .i64 keep, .int .i64 0, .int .i64 0, .int .i64 0, .int .i64 0, .int .i64 0] 47
        obtain ⟨Bl, HBl⟩ : ∃ B, Hid (v2.heap.size = B) := ⟨_, rfl⟩
        obtain ⟨v3, Hv3⟩ : ∃ v, Hid (v2.alloc (.cells #[.int .i64 3, .int .i64 keep, .int .i64 0, .int .i64 0, .int .i64 0, .int .i64 0, .int .i64 0] 47) = v) := ⟨_, rfl⟩
        rw [Hv3.out] at bs hL
        rw [HBl.out] at hL
        refine wpAnyH_ready (rs := [7]) (by kernel_rfl) (by simp) ?_
        refine AllReadyH.cons rfl (fun K hK => ?_) AllReadyH.nil
        simp only [List.getElem_toArray, List.getElem_cons_succ, List.getElem_cons_zero]
        rw [if_pos (by rfl)]
        go_wp2_with fail
        rw [Hv3.out, HBl.out]
        replace hX := hX.below bs
        replace hO := hO.trans bs
        replace b := below_then b bs
        refine hK.out _ _ ⟨(hbx.below b).2.1, (hbx.below b).2.2⟩ (fun hH => ?_)
        clear hK
        clear bs
        refine wpAnyH_ready (rs := [8]) (by kernel_rfl) (by simp) ?_
        refine AllReadyH.cons rfl (fun K hK => ?_) AllReadyH.nil
        simp only [List.getElem_toArray, List.getElem_cons_succ, List.getElem_cons_zero]
        refine wpr_append_cells elem_hops (by rfl) _ _ rfl v0.heap.size v0 v3 (.slice ca A cc) A 1 1 ⟨Bl, 0, none⟩ (hopCells all) (hopA ⟨3, keep, noDOp⟩).toList hO rfl rfl rfl (fun j u hj => by rw [addr_add, Nat.zero_add, hL.cell]; simpa [hopA, noDOp] using hj) (fun u hu => hopCells_one [⟨3, keep, noDOp⟩] u (by simpa [hopCells] using hu)) HL1.out HL2.out ?_
        intro nv v4 hO2 hg
        obtain ⟨na, nl, nc, rfl⟩ := ownsRow_slice hO2.1
        rw [show hopCells all ++ (hopA ⟨3, keep, noDOp⟩).toList = hopCells (all ++ [⟨3, keep, noDOp⟩]) by rw [hopCells_append]; simp [hopCells]] at hO2
        have hH2 := OwnC.hops hO2 (by rw [List.length_append, HA1.out]; rfl) HL3.out
        have b8 := b
        replace b : Below w4.heap.size w4 v4 := b.grown hg b.size (fun q e => HcB.out q e)
        replace hX : CellsAt v4 Bb #[.slice none 0 0, .slice none 0 0, .slice none 0 0] 32 := (hg.block Bb hX.lt (fun e => HRB.out _ e.symm rfl)).trans hX
        refine hK.out _ _ ⟨(hbx.below b).2.1, (hbx.below b).2.2⟩ (fun hH => ?_)
        clear hK
        clear hO hL hg hO2 b8
        refine wpAnyH_ready (rs := [9]) (by kernel_rfl) (by simp) ?_
        refine AllReadyH.cons rfl (fun K hK => ?_) AllReadyH.nil
        simp only [List.getElem_toArray, List.getElem_cons_succ, List.getElem_cons_zero]
        rw [if_pos (by rfl)]
        go_wp2_with fail
        refine (hall_own _ _ _ n i roles (all ++ [⟨3, keep, noDOp⟩]) v4 (by exact ⟨_, rfl, hT.below (below_then c b)⟩) (by exact hr.below (below_then c b)) (by exact hH2)).mono ?_
        rintro e v5 ⟨rb, lb, lbc, rfl, hDb, _, bs, hFb, _⟩
        rw [HDA.out] at hDb
        rw [HFR.out]
        obtain ⟨L2, HL2e⟩ : ∃ L, Hid ((hallAll n i roles (all ++ [(⟨3, keep, noDOp⟩ : HOp)])).2.1.length = L) := ⟨_, rfl⟩
        rw [HL2e.out]
        have KB := (desk_on hDb hFb).weaken (D' := fun k => v4.heap.size ≤ k) (fun k _ hk => hk)
        obtain ⟨b1, b2, b3, b4, b5, b6, b7, b9, rfl, k1, k2, k3⟩ := hDb
        clear k1 k2 k3
        rw [HDL.out] at KB ⊢
        replace KB := KB.weaken (D' := fun k => v4.heap.size ≤ k ∧ k ≠ Bb) (fun k _ hk => ⟨hk, fun e => by have := hX.lt; have hk : v4.heap.size ≤ k := hk; omega⟩)
        replace hX := hX.below bs
        replace b := below_then b bs
        refine hK.out _ _ ⟨(hbx.below b).2.1, (hbx.below b).2.2⟩ (fun hH => ?_)
        clear hK
        clear bs hH2
        refine wpAnyH_take (i := 10) (v := .tuple #[.agg #[.slice b1 b2 b3, .slice b4 b5 b6, .slice b7 DL b9], .slice lb L2 lbc, .int .i64 FR]) rfl (by kernel_rfl) (by kernel_rfl) (by kernel_rfl) (fun _ _ _ h => h) (.inl ⟨by rfl, fun _ _ => rfl⟩) hH ?_
        simp only [List.getElem_toArray, List.getElem_cons_succ, List.getElem_cons_zero, Act.put, List.setIfInBounds_toArray, List.set_cons_zero, List.set_cons_succ]
        refine wpAnyH_take (i := 11) (v := .agg #[.slice b1 b2 b3, .slice b4 b5 b6, .slice b7 DL b9]) rfl (by kernel_rfl) (by kernel_rfl) (by kernel_rfl) (fun _ _ _ h => h) (.inl ⟨by rfl, fun w' hS' => by first | (go_simp; done) | (go_simp; rfl) | (go_simp; intro h; omega) | (go_simp; omega)⟩) hH ?_
        simp only [List.getElem_toArray, List.getElem_cons_succ, List.getElem_cons_zero, Act.put, List.setIfInBounds_toArray, List.set_cons_zero, List.set_cons_succ]
        refine wpAnyH_take (i := 12) (v := .slice lb L2 lbc) rfl (by kernel_rfl) (by kernel_rfl) (by kernel_rfl) (fun _ _ _ h => h) (.inl ⟨by rfl, fun w' hS' => by first | (go_simp; done) | (go_simp; rfl) | (go_simp; intro h; omega) | (go_simp; omega)⟩) hH ?_
        simp only [List.getElem_toArray, List.getElem_cons_succ, List.getElem_cons_zero, Act.put, List.setIfInBounds_toArray, List.set_cons_zero, List.set_cons_succ]
        refine wpAnyH_take (i := 13) (v := .int .i64 FR) rfl (by kernel_rfl) (by kernel_rfl) (by kernel_rfl) (fun _ _ _ h => h) (.inl ⟨by rfl, fun w' hS' => by first | (go_simp; done) | (go_simp; rfl) | (go_simp; intro h; omega) | (go_simp; omega)⟩) hH ?_
        simp only [List.getElem_toArray, List.getElem_cons_succ, List.getElem_cons_zero, Act.put, List.setIfInBounds_toArray, List.set_cons_zero, List.set_cons_succ]
        have f0 := hX.frozen 0
        have f1 := hX.frozen 1
        have f2 := hX.frozen 2
        have x0' : v5.cell? ⟨Bb, 0, none⟩ = some (.slice none 0 0) := hX.cell 0
        have x1' : v5.cell? ⟨Bb, 1, none⟩ = some (.slice none 0 0) := hX.cell 1
        have x2' : v5.cell? ⟨Bb, 2, none⟩ = some (.slice none 0 0) := hX.cell 2
        have hXf := ((hX.put 0 (.slice b1 b2 b3)).put 1 (.slice b4 b5 b6)).put 2 (.slice b7 DL b9)
        have KBf := ((KB.set (a := ⟨Bb, 0, none⟩) (fun q => q.2 rfl) (.slice b1 b2 b3)).set (a := ⟨Bb, 1, none⟩) (fun q => q.2 rfl) (.slice b4 b5 b6)).set (a := ⟨Bb, 2, none⟩) (fun q => q.2 rfl) (.slice b7 DL b9)
        have bf := ((b.setCell (p := ⟨Bb, 0, none⟩) HBbB.out (.slice b1 b2 b3)).setCell (p := ⟨Bb, 1, none⟩) HBbB.out (.slice b4 b5 b6)).setCell (p := ⟨Bb, 2, none⟩) HBbB.out (.slice b7 DL b9)
        obtain ⟨W9, HW9⟩ : ∃ v, Hid (((v5.setCell ⟨Bb, 0, none⟩ (.slice b1 b2 b3)).setCell ⟨Bb, 1, none⟩ (.slice b4 b5 b6)).setCell ⟨Bb, 2, none⟩ (.slice b7 DL b9) = v) := ⟨_, rfl⟩
        rw [HW9.out] at hXf KBf bf
        have hXf : CellsAt W9 Bb #[.slice b1 b2 b3, .slice b4 b5 b6, .slice b7 DL b9] 32 := hXf
        refine wpAnyH_ready (rs := [15]) (by kernel_rfl) (by simp) ?_
        refine AllReadyH.cons rfl (fun K hK => ?_) AllReadyH.nil
        simp only [List.getElem_toArray, List.getElem_cons_succ, List.getElem_cons_zero]
        rw [if_pos (by rfl)]
        go_wp2_with fail
        rw [HW9.out]
        refine hK.out _ _ ⟨(hbx.below bf).2.1, (hbx.below bf).2.2⟩ (fun hH => ?_)
        clear hK
        refine wpAnyH_take (i := 16) (v := .slice lb L2 lbc) rfl (by kernel_rfl) (by kernel_rfl) (by kernel_rfl) (fun _ _ _ h => h) (.inl ⟨by rfl, fun _ _ => rfl⟩) hH ?_
        simp only [List.getElem_toArray, List.getElem_cons_succ, List.getElem_cons_zero, Act.put, List.setIfInBounds_toArray, List.set_cons_zero, List.set_cons_succ]
        refine wpAnyH_take (i := 17) (v := .int .i64 FR) rfl (by kernel_rfl) (by kernel_rfl) (by kernel_rfl) (fun _ _ _ h => h) (.inl ⟨by rfl, fun _ _ => rfl⟩) hH ?_
        simp only [List.getElem_toArray, List.getElem_cons_succ, List.getElem_cons_zero, Act.put, List.setIfInBounds_toArray, List.set_cons_zero, List.set_cons_succ]
        refine wpAnyH_done (by kernel_rfl) ?_ _
        go_wp2_with fail
        go_meet
        exact ⟨Bb, b1, b2, b3, b4, b5, b6, b7, b9, rfl, rfl, hXf, KBf.now, bf⟩
    · simp only [List.getElem_toArray, List.getElem_cons_succ, List.getElem_cons_zero]
      rw [if_pos (by rfl)]
      have bs := below_new v0 (.cells #[.int .i64 3, .int .i64 keep, .int .i64 0, .int .i64 0, .int .i64 0, .int .i64 0, .int .i64 0] 47)
      have hL := cellsAt_new v0 #[.int .i64 3, .int .i64 keep, .int .i64 0, .int .i64 0, .int .i64 0, .int .i64 0, .int .i64 0] 47
      obtain ⟨Bl, HBl⟩ : ∃ B, Hid (v0.heap.size = B) := ⟨_, rfl⟩
      obtain ⟨v1, Hv1⟩ : ∃ v, Hid (v0.alloc (.cells #[.int .i64 3, .int .i64 keep, .int .i64 0, .int .i64 0, .int .i64 0, .int .i64 0, .int .i64 0] 47) = v) := ⟨_, rfl⟩
      rw [Hv1.out] at bs hL
      rw [HBl.out] at hL
      go_wp2_with fail
      rw [Hv1.out, HBl.out]
      replace b := below_then b bs
      refine hK.out _ _ ⟨(hbx.below b).2.1, (hbx.below b).2.2⟩ (fun hH => ?_)
      clear hK
      clear bs
      refine wpAnyH_ready (rs := [4, 14]) (by kernel_rfl) (by simp) ?_
      refine (AllReadyH.cons rfl (fun K hK => ?_) (AllReadyH.cons rfl (fun K hK => ?_) AllReadyH.nil))
      · simp only [List.getElem_toArray, List.getElem_cons_succ, List.getElem_cons_zero]
        rw [if_pos (by rfl)]
        go_wp2_with fail
        refine (clone_hops _ A (hopCells all) v1 (by exact hAll.below b)).mono ?_
        rintro e v2 ⟨rc, rfl, hO⟩
        have HO0 : Hid (w4.heap.size ≤ v1.heap.size) := b.size
        obtain ⟨ca, cc, rfl⟩ := hO.slice
        have HcB : Hid (∀ q, (Value.slice ca A cc).ownBlock = some q → w4.heap.size ≤ q) := fun q e => Nat.le_trans HO0.out (hO.1.lt q e).1
        replace hL := hL.below hO.2.1
        replace b := below_then b hO.2.1
        refine hK.out _ _ ⟨(hbx.below b).2.1, (hbx.below b).2.2⟩ (fun hH => ?_)
        clear hK
        refine wpAnyH_ready (rs := [8, 14]) (by kernel_rfl) (by simp) ?_
        refine (AllReadyH.cons rfl (fun K hK => ?_) (AllReadyH.cons rfl (fun K hK => ?_) AllReadyH.nil))
        · simp only [List.getElem_toArray, List.getElem_cons_succ, List.getElem_cons_zero]
          refine wpr_append_cells elem_hops (by rfl) _ _ rfl v1.heap.size v1 v2 (.slice ca A cc) A 1 1 ⟨Bl, 0, none⟩ (hopCells all) (hopA ⟨3, keep, noDOp⟩).toList hO rfl rfl rfl (fun j u hj => by rw [addr_add, Nat.zero_add, hL.cell]; simpa [hopA, noDOp] using hj) (fun u hu => hopCells_one [⟨3, keep, noDOp⟩] u (by simpa [hopCells] using hu)) HL1.out HL2.out ?_
          intro nv v3 hO2 hg
          obtain ⟨na, nl, nc, rfl⟩ := ownsRow_slice hO2.1
          rw [show hopCells all ++ (hopA ⟨3, keep, noDOp⟩).toList = hopCells (all ++ [⟨3, keep, noDOp⟩]) by rw [hopCells_append]; simp [hopCells]] at hO2
          have hH2 := OwnC.hops hO2 (by rw [List.length_append, HA1.out]; rfl) HL3.out
          have b8 := b
          replace b : Below w4.heap.size w4 v3 := b.grown hg b.size (fun q e => HcB.out q e)
          refine hK.out _ _ ⟨(hbx.below b).2.1, (hbx.below b).2.2⟩ (fun hH => ?_)
          clear hK
          clear hO hL hg hO2 b8
          refine wpAnyH_ready (rs := [9, 14]) (by kernel_rfl) (by simp) ?_
          refine (AllReadyH.cons rfl (fun K hK => ?_) (AllReadyH.cons rfl (fun K hK => ?_) AllReadyH.nil))
          · simp only [List.getElem_toArray, List.getElem_cons_succ, List.getElem_cons_zero]
            rw [if_pos (by rfl)]
            go_wp2_with fail
            refine (hall_own _ _ _ n i roles (all ++ [⟨3, keep, noDOp⟩]) v3 (by exact ⟨_, rfl, hT.below (below_then c b)⟩) (by exact hr.below (below_then c b)) (by exact hH2)).mono ?_
            rintro e v4 ⟨rb, lb, lbc, rfl, hDb, _, bs, hFb, _⟩
            rw [HDA.out] at hDb
            rw [HFR.out]
            obtain ⟨L2, HL2e⟩ : ∃ L, Hid ((hallAll n i roles (all ++ [(⟨3, keep, noDOp⟩ : HOp)])).2.1.length = L) := ⟨_, rfl⟩
            rw [HL2e.out]
            have KB := (desk_on hDb hFb).weaken (D' := fun k => v3.heap.size ≤ k) (fun k _ hk => hk)
            obtain ⟨b1, b2, b3, b4, b5, b6, b7, b9, rfl, k1, k2, k3⟩ := hDb
            clear k1 k2 k3
            rw [HDL.out] at KB ⊢
            replace b := below_then b bs
            refine hK.out _ _ ⟨(hbx.below b).2.1, (hbx.below b).2.2⟩ (fun hH => ?_)
            clear hK
            clear bs hH2
            refine wpAnyH_take (i := 10) (v := .tuple #[.agg #[.slice b1 b2 b3, .slice b4 b5 b6, .slice b7 DL b9], .slice lb L2 lbc, .int .i64 FR]) rfl (by kernel_rfl) (by kernel_rfl) (by kernel_rfl) (fun _ _ _ h => h) (.inl ⟨by rfl, fun _ _ => rfl⟩) hH ?_
            simp only [List.getElem_toArray, List.getElem_cons_succ, List.getElem_cons_zero, Act.put, List.setIfInBounds_toArray, List.set_cons_zero, List.set_cons_succ]
            refine wpAnyH_take (i := 11) (v := .agg #[.slice b1 b2 b3, .slice b4 b5 b6, .slice b7 DL b9]) rfl (by kernel_rfl) (by kernel_rfl) (by kernel_rfl) (fun _ _ _ h => h) (.inl ⟨by rfl, fun w' hS' => by first | (go_simp; done) | (go_simp; rfl) | (go_simp; intro h; omega) | (go_simp; omega)⟩) hH ?_
            simp only [List.getElem_toArray, List.getElem_cons_succ, List.getElem_cons_zero, Act.put, List.setIfInBounds_toArray, List.set_cons_zero, List.set_cons_succ]
            refine wpAnyH_take (i := 12) (v := .slice lb L2 lbc) rfl (by kernel_rfl) (by kernel_rfl) (by kernel_rfl) (fun _ _ _ h => h) (.inl ⟨by rfl, fun w' hS' => by first | (go_simp; done) | (go_simp; rfl) | (go_simp; intro h; omega) | (go_simp; omega)⟩) hH ?_
            simp only [List.getElem_toArray, List.getElem_cons_succ, List.getElem_cons_zero, Act.put, List.setIfInBounds_toArray, List.set_cons_zero, List.set_cons_succ]
            refine wpAnyH_take (i := 13) (v := .int .i64 FR) rfl (by kernel_rfl) (by kernel_rfl) (by kernel_rfl) (fun _ _ _ h => h) (.inl ⟨by rfl, fun w' hS' => by first | (go_simp; done) | (go_simp; rfl) | (go_simp; intro h; omega) | (go_simp; omega)⟩) hH ?_
            simp only [List.getElem_toArray, List.getElem_cons_succ, List.getElem_cons_zero, Act.put, List.setIfInBounds_toArray, List.set_cons_zero, List.set_cons_succ]
            have bs := below_new v4 (.cells #[.slice none 0 0, .slice none 0 0, .slice none 0 0] 32)
            have hX := cellsAt_new v4 #[.slice none 0 0, .slice none 0 0, .slice none 0 0] 32
            obtain ⟨Bb, HBb⟩ : ∃ B, Hid (v4.heap.size = B) := ⟨_, rfl⟩
            have HBbB : Hid (w4.heap.size ≤ Bb) := by show _ ≤ _; rw [← HBb.out]; exact b.size
            obtain ⟨v5, Hv5⟩ : ∃ v, Hid (v4.alloc (.cells #[.slice none 0 0, .slice none 0 0, .slice none 0 0] 32) = v) := ⟨_, rfl⟩
            rw [Hv5.out] at bs hX
            rw [HBb.out] at hX
            refine wpAnyH_ready (rs := [14]) (by kernel_rfl) (by simp) ?_
            refine AllReadyH.cons rfl (fun K hK => ?_) AllReadyH.nil
            simp only [List.getElem_toArray, List.getElem_cons_succ, List.getElem_cons_zero]
            rw [if_pos (by rfl)]
            go_wp2_with fail
            rw [Hv5.out, HBb.out]
            replace KB := KB.skip (.cells #[.slice none 0 0, .slice none 0 0, .slice none 0 0] 32)
            rw [Hv5.out, HBb.out] at KB
            replace b := below_then b bs
            refine hK.out _ _ ⟨(hbx.below b).2.1, (hbx.below b).2.2⟩ (fun hH => ?_)
            clear hK
            clear bs
            have f0 := hX.frozen 0
            have f1 := hX.frozen 1
            have f2 := hX.frozen 2
            have x0' : v5.cell? ⟨Bb, 0, none⟩ = some (.slice none 0 0) := hX.cell 0
            have x1' : v5.cell? ⟨Bb, 1, none⟩ = some (.slice none 0 0) := hX.cell 1
            have x2' : v5.cell? ⟨Bb, 2, none⟩ = some (.slice none 0 0) := hX.cell 2
            have hXf := ((hX.put 0 (.slice b1 b2 b3)).put 1 (.slice b4 b5 b6)).put 2 (.slice b7 DL b9)
            have KBf := ((KB.set (a := ⟨Bb, 0, none⟩) (fun q => q.2 rfl) (.slice b1 b2 b3)).set (a := ⟨Bb, 1, none⟩) (fun q => q.2 rfl) (.slice b4 b5 b6)).set (a := ⟨Bb, 2, none⟩) (fun q => q.2 rfl) (.slice b7 DL b9)
            have bf := ((b.setCell (p := ⟨Bb, 0, none⟩) HBbB.out (.slice b1 b2 b3)).setCell (p := ⟨Bb, 1, none⟩) HBbB.out (.slice b4 b5 b6)).setCell (p := ⟨Bb, 2, none⟩) HBbB.out (.slice b7 DL b9)
            obtain ⟨W9, HW9⟩ : ∃ v, Hid (((v5.setCell ⟨Bb, 0, none⟩ (.slice b1 b2 b3)).setCell ⟨Bb, 1, none⟩ (.slice b4 b5 b6)).setCell ⟨Bb, 2, none⟩ (.slice b7 DL b9) = v) := ⟨_, rfl⟩
            rw [HW9.out] at hXf KBf bf
            have hXf : CellsAt W9 Bb #[.slice b1 b2 b3, .slice b4 b5 b6, .slice b7 DL b9] 32 := hXf
            refine wpAnyH_ready (rs := [15]) (by kernel_rfl) (by simp) ?_
            refine AllReadyH.cons rfl (fun K hK => ?_) AllReadyH.nil
            simp only [List.getElem_toArray, List.getElem_cons_succ, List.getElem_cons_zero]
            rw [if_pos (by rfl)]
            go_wp2_with fail
            rw [HW9.out]
            refine hK.out _ _ ⟨(hbx.below bf).2.1, (hbx.below bf).2.2⟩ (fun hH => ?_)
            clear hK
            refine wpAnyH_take (i := 16) (v := .slice lb L2 lbc) rfl (by kernel_rfl) (by kernel_rfl) (by kernel_rfl) (fun _ _ _ h => h) (.inl ⟨by rfl, fun _ _ => rfl⟩) hH ?_
            simp only [List.getElem_toArray, List.getElem_cons_succ, List.getElem_cons_zero, Act.put, List.setIfInBounds_toArray, List.set_cons_zero, List.set_cons_succ]
            refine wpAnyH_take (i := 17) (v := .int .i64 FR) rfl (by kernel_rfl) (by kernel_rfl) (by kernel_rfl) (fun _ _ _ h => h) (.inl ⟨by rfl, fun _ _ => rfl⟩) hH ?_
            simp only [List.getElem_toArray, List.getElem_cons_succ, List.getElem_cons_zero, Act.put, List.setIfInBounds_toArray, List.set_cons_zero, List.set_cons_succ]
            refine wpAnyH_done (by kernel_rfl) ?_ _
            go_wp2_with fail
            go_meet
            exact ⟨Bb, b1, b2, b3, b4, b5, b6, b7, b9, rfl, rfl, hXf, KBf.now, bf⟩
          · simp only [List.getElem_toArray, List.getElem_cons_succ, List.getElem_cons_zero]
            rw [if_pos (by rfl)]
            have bs := below_new v3 (.cells #[.slice none 0 0, .slice none 0 0, .slice none 0 0] 32)
            have hX := cellsAt_new v3 #[.slice none 0 0, .slice none 0 0, .slice none 0 0] 32
            obtain ⟨Bb, HBb⟩ : ∃ B, Hid (v3.heap.size = B) := ⟨_, rfl⟩
            have HBbB : Hid (w4.heap.size ≤ Bb) := by show _ ≤ _; rw [← HBb.out]; exact b.size
            obtain ⟨v4, Hv4⟩ : ∃ v, Hid (v3.alloc (.cells #[.slice none 0 0, .slice none 0 0, .slice none 0 0] 32) = v) := ⟨_, rfl⟩
            rw [Hv4.out] at bs hX
            rw [HBb.out] at hX
            go_wp2_with fail
            rw [Hv4.out, HBb.out]
            replace hH2 := hH2.below bs
            replace b := below_then b bs
            refine hK.out _ _ ⟨(hbx.below b).2.1, (hbx.below b).2.2⟩ (fun hH => ?_)
            clear hK
            clear bs
            refine wpAnyH_ready (rs := [9]) (by kernel_rfl) (by simp) ?_
            refine AllReadyH.cons rfl (fun K hK => ?_) AllReadyH.nil
            simp only [List.getElem_toArray, List.getElem_cons_succ, List.getElem_cons_zero]
            rw [if_pos (by rfl)]
            go_wp2_with fail
            refine (hall_own _ _ _ n i roles (all ++ [⟨3, keep, noDOp⟩]) v4 (by exact ⟨_, rfl, hT.below (below_then c b)⟩) (by exact hr.below (below_then c b)) (by exact hH2)).mono ?_
            rintro e v5 ⟨rb, lb, lbc, rfl, hDb, _, bs, hFb, _⟩
            rw [HDA.out] at hDb
            rw [HFR.out]
            obtain ⟨L2, HL2e⟩ : ∃ L, Hid ((hallAll n i roles (all ++ [(⟨3, keep, noDOp⟩ : HOp)])).2.1.length = L) := ⟨_, rfl⟩
            rw [HL2e.out]
            have KB := (desk_on hDb hFb).weaken (D' := fun k => v4.heap.size ≤ k) (fun k _ hk => hk)
            obtain ⟨b1, b2, b3, b4, b5, b6, b7, b9, rfl, k1, k2, k3⟩ := hDb
            clear k1 k2 k3
            rw [HDL.out] at KB ⊢
            replace KB := KB.weaken (D' := fun k => v4.heap.size ≤ k ∧ k ≠ Bb) (fun k _ hk => ⟨hk, fun e => by have := hX.lt; have hk : v4.heap.size ≤ k := hk; omega⟩)
            replace hX := hX.below bs
            replace b := below_then b bs
            refine hK.out _ _ ⟨(hbx.below b).2.1, (hbx.below b).2.2⟩ (fun hH => ?_)
            clear hK
            clear bs hH2
            refine wpAnyH_take (i := 10) (v := .tuple #[.agg #[.slice b1 b2 b3, .slice b4 b5 b6, .slice b7 DL b9], .slice lb L2 lbc, .int .i64 FR]) rfl (by kernel_rfl) (by kernel_rfl) (by kernel_rfl) (fun _ _ _ h => h) (.inl ⟨by rfl, fun _ _ => rfl⟩) hH ?_
            simp only [List.getElem_toArray, List.getElem_cons_succ, List.getElem_cons_zero, Act.put, List.setIfInBounds_toArray, List.set_cons_zero, List.set_cons_succ]
            refine wpAnyH_take (i := 11) (v := .agg #[.slice b1 b2 b3, .slice b4 b5 b6, .slice b7 DL b9]) rfl (by kernel_rfl) (by kernel_rfl) (by kernel_rfl) (fun _ _ _ h => h) (.inl ⟨by rfl, fun w' hS' => by first | (go_simp; done) | (go_simp; rfl) | (go_simp; intro h; omega) | (go_simp; omega)⟩) hH ?_
            simp only [List.getElem_toArray, List.getElem_cons_succ, List.getElem_cons_zero, Act.put, List.setIfInBounds_toArray, List.set_cons_zero, List.set_cons_succ]
            refine wpAnyH_take (i := 12) (v := .slice lb L2 lbc) rfl (by kernel_rfl) (by kernel_rfl) (by kernel_rfl) (fun _ _ _ h => h) (.inl ⟨by rfl, fun w' hS' => by first | (go_simp; done) | (go_simp; rfl) | (go_simp; intro h; omega) | (go_simp; omega)⟩) hH ?_
            simp only [List.getElem_toArray, List.getElem_cons_succ, List.getElem_cons_zero, Act.put, List.setIfInBounds_toArray, List.set_cons_zero, List.set_cons_succ]
            refine wpAnyH_take (i := 13) (v := .int .i64 FR) rfl (by kernel_rfl) (by kernel_rfl) (by kernel_rfl) (fun _ _ _ h => h) (.inl ⟨by rfl, fun w' hS' => by first | (go_simp; done) | (go_simp; rfl) | (go_simp; intro h; omega) | (go_simp; omega)⟩) hH ?_
            simp only [List.getElem_toArray, List.getElem_cons_succ, List.getElem_cons_zero, Act.put, List.setIfInBounds_toArray, List.set_cons_zero, List.set_cons_succ]
            have f0 := hX.frozen 0
            have f1 := hX.frozen 1
            have f2 := hX.frozen 2
            have x0' : v5.cell? ⟨Bb, 0, none⟩ = some (.slice none 0 0) := hX.cell 0
            have x1' : v5.cell? ⟨Bb, 1, none⟩ = some (.slice none 0 0) := hX.cell 1
            have x2' : v5.cell? ⟨Bb, 2, none⟩ = some (.slice none 0 0) := hX.cell 2
            have hXf := ((hX.put 0 (.slice b1 b2 b3)).put 1 (.slice b4 b5 b6)).put 2 (.slice b7 DL b9)
            have KBf := ((KB.set (a := ⟨Bb, 0, none⟩) (fun q => q.2 rfl) (.slice b1 b2 b3)).set (a := ⟨Bb, 1, none⟩) (fun q => q.2 rfl) (.slice b4 b5 b6)).set (a := ⟨Bb, 2, none⟩) (fun q => q.2 rfl) (.slice b7 DL b9)
            have bf := ((b.setCell (p := ⟨Bb, 0, none⟩) HBbB.out (.slice b1 b2 b3)).setCell (p := ⟨Bb, 1, none⟩) HBbB.out (.slice b4 b5 b6)).setCell (p := ⟨Bb, 2, none⟩) HBbB.out (.slice b7 DL b9)
            obtain ⟨W9, HW9⟩ : ∃ v, Hid (((v5.setCell ⟨Bb, 0, none⟩ (.slice b1 b2 b3)).setCell ⟨Bb, 1, none⟩ (.slice b4 b5 b6)).setCell ⟨Bb, 2, none⟩ (.slice b7 DL b9) = v) := ⟨_, rfl⟩
            rw [HW9.out] at hXf KBf bf
            have hXf : CellsAt W9 Bb #[.slice b1 b2 b3, .slice b4 b5 b6, .slice b7 DL b9] 32 := hXf
            refine wpAnyH_ready (rs := [15]) (by kernel_rfl) (by simp) ?_
            refine AllReadyH.cons rfl (fun K hK => ?_) AllReadyH.nil
            simp only [List.getElem_toArray, List.getElem_cons_succ, List.getElem_cons_zero]
            rw [if_pos (by rfl)]
            go_wp2_with fail
            rw [HW9.out]
            refine hK.out _ _ ⟨(hbx.below bf).2.1, (hbx.below bf).2.2⟩ (fun hH => ?_)
            clear hK
            refine wpAnyH_take (i := 16) (v := .slice lb L2 lbc) rfl (by kernel_rfl) (by kernel_rfl) (by kernel_rfl) (fun _ _ _ h => h) (.inl ⟨by rfl, fun _ _ => rfl⟩) hH ?_
            simp only [List.getElem_toArray, List.getElem_cons_succ, List.getElem_cons_zero, Act.put, List.setIfInBounds_toArray, List.set_cons_zero, List.set_cons_succ]
            refine wpAnyH_take (i := 17) (v := .int .i64 FR) rfl (by kernel_rfl) (by kernel_rfl) (by kernel_rfl) (fun _ _ _ h => h) (.inl ⟨by rfl, fun _ _ => rfl⟩) hH ?_
            simp only [List.getElem_toArray, List.getElem_cons_succ, List.getElem_cons_zero, Act.put, List.setIfInBounds_toArray, List.set_cons_zero, List.set_cons_succ]
            refine wpAnyH_done (by kernel_rfl) ?_ _
            go_wp2_with fail
            go_meet
            exact ⟨Bb, b1, b2, b3, b4, b5, b6, b7, b9, rfl, rfl, hXf, KBf.now, bf⟩
        · simp only [List.getElem_toArray, List.getElem_cons_succ, List.getElem_cons_zero]
          rw [if_pos (by rfl)]
          have bs := below_new v2 (.cells #[.slice none 0 0, .slice none 0 0, .slice none 0 0] 32)
          have hX := cellsAt_new v2 #[.slice none 0 0, .slice none 0 0, .slice none 0 0] 32
          obtain ⟨Bb, HBb⟩ : ∃ B, Hid (v2.heap.size = B) := ⟨_, rfl⟩
          have HBbB : Hid (w4.heap.size ≤ Bb) := by show _ ≤ _; rw [← HBb.out]; exact b.size
          obtain ⟨v3, Hv3⟩ : ∃ v, Hid (v2.alloc (.cells #[.slice none 0 0, .slice none 0 0, .slice none 0 0] 32) = v) := ⟨_, rfl⟩
          rw [Hv3.out] at bs hX
          rw [HBb.out] at hX
          have HRB : Hid (∀ q, (Value.slice ca A cc).ownBlock = some q → q ≠ Bb) := fun q e => by have := (hO.1.lt q e).2; rw [HBb.out] at this; omega
          go_wp2_with fail
          rw [Hv3.out, HBb.out]
          replace hL := hL.below bs
          replace hO := hO.trans bs
          replace b := below_then b bs
          refine hK.out _ _ ⟨(hbx.below b).2.1, (hbx.below b).2.2⟩ (fun hH => ?_)
          clear hK
          clear bs
          refine wpAnyH_ready (rs := [8]) (by kernel_rfl) (by simp) ?_
          refine AllReadyH.cons rfl (fun K hK => ?_) AllReadyH.nil
          simp only [List.getElem_toArray, List.getElem_cons_succ, List.getElem_cons_zero]
          refine wpr_append_cells elem_hops (by rfl) _ _ rfl v1.heap.size v1 v3 (.slice ca A cc) A 1 1 ⟨Bl, 0, none⟩ (hopCells all) (hopA ⟨3, keep, noDOp⟩).toList hO rfl rfl rfl (fun j u hj => by rw [addr_add, Nat.zero_add, hL.cell]; simpa [hopA, noDOp] using hj) (fun u hu => hopCells_one [⟨3, keep, noDOp⟩] u (by simpa [hopCells] using hu)) HL1.out HL2.out ?_
          intro nv v4 hO2 hg
          obtain ⟨na, nl, nc, rfl⟩ := ownsRow_slice hO2.1
          rw [show hopCells all ++ (hopA ⟨3, keep, noDOp⟩).toList = hopCells (all ++ [⟨3, keep, noDOp⟩]) by rw [hopCells_append]; simp [hopCells]] at hO2
          have hH2 := OwnC.hops hO2 (by rw [List.length_append, HA1.out]; rfl) HL3.out
          have b8 := b
          replace b : Below w4.heap.size w4 v4 := b.grown hg b.size (fun q e => HcB.out q e)
          replace hX : CellsAt v4 Bb #[.slice none 0 0, .slice none 0 0, .slice none 0 0] 32 := (hg.block Bb hX.lt (fun e => HRB.out _ e.symm rfl)).trans hX
          refine hK.out _ _ ⟨(hbx.below b).2.1, (hbx.below b).2.2⟩ (fun hH => ?_)
          clear hK
          clear hO hL hg hO2 b8
          refine wpAnyH_ready (rs := [9]) (by kernel_rfl) (by simp) ?_
          refine AllReadyH.cons rfl (fun K hK => ?_) AllReadyH.nil
          simp only [List.getElem_toArray, List.getElem_cons_succ, List.getElem_cons_zero]
          rw [if_pos (by rfl)]
          go_wp2_with fail
          refine (hall_own _ _ _ n i roles (all ++ [⟨3, keep, noDOp⟩]) v4 (by exact ⟨_, rfl, hT.below (below_then c b)⟩) (by exact hr.below (below_then c b)) (by exact hH2)).mono ?_
          rintro e v5 ⟨rb, lb, lbc, rfl, hDb, _, bs, hFb, _⟩
          rw [HDA.out] at hDb
          rw [HFR.out]
          obtain ⟨L2, HL2e⟩ : ∃ L, Hid ((hallAll n i roles (all ++ [(⟨3, keep, noDOp⟩ : HOp)])).2.1.length = L) := ⟨_, rfl⟩
          rw [HL2e.out]
          have KB := (desk_on hDb hFb).weaken (D' := fun k => v4.heap.size ≤ k) (fun k _ hk => hk)
          obtain ⟨b1, b2, b3, b4, b5, b6, b7, b9, rfl, k1, k2, k3⟩ := hDb
          clear k1 k2 k3
          rw [HDL.out] at KB ⊢
          replace KB := KB.weaken (D' := fun k => v4.heap.size ≤ k ∧ k ≠ Bb) (fun k _ hk => ⟨hk, fun e => by have := hX.lt; have hk : v4.heap.size ≤ k := hk; omega⟩)
          replace hX := hX.below bs
          replace b := below_then b bs
          refine hK.out _ _ ⟨(hbx.below b).2.1, (hbx.below b).2.2⟩ (fun hH => ?_)
          clear hK
          clear bs hH2
          refine wpAnyH_take (i := 10) (v := .tuple #[.agg #[.slice b1 b2 b3, .slice b4 b5 b6, .slice b7 DL b9], .slice lb L2 lbc, .int .i64 FR]) rfl (by kernel_rfl) (by kernel_rfl) (by kernel_rfl) (fun _ _ _ h => h) (.inl ⟨by rfl, fun _ _ => rfl⟩) hH ?_
          simp only [List.getElem_toArray, List.getElem_cons_succ, List.getElem_cons_zero, Act.put, List.setIfInBounds_toArray, List.set_cons_zero, List.set_cons_succ]
          refine wpAnyH_take (i := 11) (v := .agg #[.slice b1 b2 b3, .slice b4 b5 b6, .slice b7 DL b9]) rfl (by kernel_rfl) (by kernel_rfl) (by kernel_rfl) (fun _ _ _ h => h) (.inl ⟨by rfl, fun w' hS' => by first | (go_simp; done) | (go_simp; rfl) | (go_simp; intro h; omega) | (go_simp; omega)⟩) hH ?_
          simp only [List.getElem_toArray, List.getElem_cons_succ, List.getElem_cons_zero, Act.put, List.setIfInBounds_toArray, List.set_cons_zero, List.set_cons_succ]
          refine wpAnyH_take (i := 12) (v := .slice lb L2 lbc) rfl (by kernel_rfl) (by kernel_rfl) (by kernel_rfl) (fun _ _ _ h => h) (.inl ⟨by rfl, fun w' hS' => by first | (go_simp; done) | (go_simp; rfl) | (go_simp; intro h; omega) | (go_simp; omega)⟩) hH ?_
          simp only [List.getElem_toArray, List.getElem_cons_succ, List.getElem_cons_zero, Act.put, List.setIfInBounds_toArray, List.set_cons_zero, List.set_cons_succ]
          refine wpAnyH_take (i := 13) (v := .int .i64 FR) rfl (by kernel_rfl) (by kernel_rfl) (by kernel_rfl) (fun _ _ _ h => h) (.inl ⟨by rfl, fun w' hS' => by first | (go_simp; done) | (go_simp; rfl) | (go_simp; intro h; omega) | (go_simp; omega)⟩) hH ?_
          simp only [List.getElem_toArray, List.getElem_cons_succ, List.getElem_cons_zero, Act.put, List.setIfInBounds_toArray, List.set_cons_zero, List.set_cons_succ]
          have f0 := hX.frozen 0
          have f1 := hX.frozen 1
          have f2 := hX.frozen 2
          have x0' : v5.cell? ⟨Bb, 0, none⟩ = some (.slice none 0 0) := hX.cell 0
          have x1' : v5.cell? ⟨Bb, 1, none⟩ = some (.slice none 0 0) := hX.cell 1
          have x2' : v5.cell? ⟨Bb, 2, none⟩ = some (.slice none 0 0) := hX.cell 2
          have hXf := ((hX.put 0 (.slice b1 b2 b3)).put 1 (.slice b4 b5 b6)).put 2 (.slice b7 DL b9)
          have KBf := ((KB.set (a := ⟨Bb, 0, none⟩) (fun q => q.2 rfl) (.slice b1 b2 b3)).set (a := ⟨Bb, 1, none⟩) (fun q => q.2 rfl) (.slice b4 b5 b6)).set (a := ⟨Bb, 2, none⟩) (fun q => q.2 rfl) (.slice b7 DL b9)
          have bf := ((b.setCell (p := ⟨Bb, 0, none⟩) HBbB.out (.slice b1 b2 b3)).setCell (p := ⟨Bb, 1, none⟩) HBbB.out (.slice b4 b5 b6)).setCell (p := ⟨Bb, 2, none⟩) HBbB.out (.slice b7 DL b9)
          obtain ⟨W9, HW9⟩ : ∃ v, Hid (((v5.setCell ⟨Bb, 0, none⟩ (.slice b1 b2 b3)).setCell ⟨Bb, 1, none⟩ (.slice b4 b5 b6)).setCell ⟨Bb, 2, none⟩ (.slice b7 DL b9) = v) := ⟨_, rfl⟩
          rw [HW9.out] at hXf KBf bf
          have hXf : CellsAt W9 Bb #[.slice b1 b2 b3, .slice b4 b5 b6, .slice b7 DL b9] 32 := hXf
          refine wpAnyH_ready (rs := [15]) (by kernel_rfl) (by simp) ?_
          refine AllReadyH.cons rfl (fun K hK => ?_) AllReadyH.nil
          simp only [List.getElem_toArray, List.getElem_cons_succ, List.getElem_cons_zero]
          rw [if_pos (by rfl)]
          go_wp2_with fail
          rw [HW9.out]
          refine hK.out _ _ ⟨(hbx.below bf).2.1, (hbx.below bf).2.2⟩ (fun hH => ?_)
          clear hK
          refine wpAnyH_take (i := 16) (v := .slice lb L2 lbc) rfl (by kernel_rfl) (by kernel_rfl) (by kernel_rfl) (fun _ _ _ h => h) (.inl ⟨by rfl, fun _ _ => rfl⟩) hH ?_
          simp only [List.getElem_toArray, List.getElem_cons_succ, List.getElem_cons_zero, Act.put, List.setIfInBounds_toArray, List.set_cons_zero, List.set_cons_succ]
          refine wpAnyH_take (i := 17) (v := .int .i64 FR) rfl (by kernel_rfl) (by kernel_rfl) (by kernel_rfl) (fun _ _ _ h => h) (.inl ⟨by rfl, fun _ _ => rfl⟩) hH ?_
          simp only [List.getElem_toArray, List.getElem_cons_succ, List.getElem_cons_zero, Act.put, List.setIfInBounds_toArray, List.set_cons_zero, List.set_cons_succ]
          refine wpAnyH_done (by kernel_rfl) ?_ _
          go_wp2_with fail
          go_meet
          exact ⟨Bb, b1, b2, b3, b4, b5, b6, b7, b9, rfl, rfl, hXf, KBf.now, bf⟩
      · simp only [List.getElem_toArray, List.getElem_cons_succ, List.getElem_cons_zero]
        rw [if_pos (by rfl)]
        have bs := below_new v1 (.cells #[.slice none 0 0, .slice none 0 0, .slice none 0 0] 32)
        have hX := cellsAt_new v1 #[.slice none 0 0, .slice none 0 0, .slice none 0 0] 32
        obtain ⟨Bb, HBb⟩ : ∃ B, Hid (v1.heap.size = B) := ⟨_, rfl⟩
        have HBbB : Hid (w4.heap.size ≤ Bb) := by show _ ≤ _; rw [← HBb.out]; exact b.size
        obtain ⟨v2, Hv2⟩ : ∃ v, Hid (v1.alloc (.cells #[.slice none 0 0, .slice none 0 0, .slice none 0 0] 32) = v) := ⟨_, rfl⟩
        rw [Hv2.out] at bs hX
        rw [HBb.out] at hX
        go_wp2_with fail
        rw [Hv2.out, HBb.out]
        replace hL := hL.below bs
        replace b := below_then b bs
        refine hK.out _ _ ⟨(hbx.below b).2.1, (hbx.below b).2.2⟩ (fun hH => ?_)
        clear hK
        clear bs
        refine wpAnyH_ready (rs := [4]) (by kernel_rfl) (by simp) ?_
        refine AllReadyH.cons rfl (fun K hK => ?_) AllReadyH.nil
        simp only [List.getElem_toArray, List.getElem_cons_succ, List.getElem_cons_zero]
        rw [if_pos (by rfl)]
        go_wp2_with fail
        refine (clone_hops _ A (hopCells all) v2 (by exact hAll.below b)).mono ?_
        rintro e v3 ⟨rc, rfl, hO⟩
        have HO0 : Hid (w4.heap.size ≤ v2.heap.size) := b.size
        obtain ⟨ca, cc, rfl⟩ := hO.slice
        have HcB : Hid (∀ q, (Value.slice ca A cc).ownBlock = some q → w4.heap.size ≤ q) := fun q e => Nat.le_trans HO0.out (hO.1.lt q e).1
        have HRB : Hid (∀ q, (Value.slice ca A cc).ownBlock = some q → q ≠ Bb) := fun q e => by have := (hO.1.lt q e).1; have := hX.lt; omega
        replace hX := hX.below hO.2.1
        replace hL := hL.below hO.2.1
        replace b := below_then b hO.2.1
        refine hK.out _ _ ⟨(hbx.below b).2.1, (hbx.below b).2.2⟩ (fun hH => ?_)
        clear hK
        refine wpAnyH_ready (rs := [8]) (by kernel_rfl) (by simp) ?_
        refine AllReadyH.cons rfl (fun K hK => ?_) AllReadyH.nil
        simp only [List.getElem_toArray, List.getElem_cons_succ, List.getElem_cons_zero]
        refine wpr_append_cells elem_hops (by rfl) _ _ rfl v2.heap.size v2 v3 (.slice ca A cc) A 1 1 ⟨Bl, 0, none⟩ (hopCells all) (hopA ⟨3, keep, noDOp⟩).toList hO rfl rfl rfl (fun j u hj => by rw [addr_add, Nat.zero_add, hL.cell]; simpa [hopA, noDOp] using hj) (fun u hu => hopCells_one [⟨3, keep, noDOp⟩] u (by simpa [hopCells] using hu)) HL1.out HL2.out ?_
        intro nv v4 hO2 hg
        obtain ⟨na, nl, nc, rfl⟩ := ownsRow_slice hO2.1
        rw [show hopCells all ++ (hopA ⟨3, keep, noDOp⟩).toList = hopCells (all ++ [⟨3, keep, noDOp⟩]) by rw [hopCells_append]; simp [hopCells]] at hO2
        have hH2 := OwnC.hops hO2 (by rw [List.length_append, HA1.out]; rfl) HL3.out
        have b8 := b
        replace b : Below w4.heap.size w4 v4 := b.grown hg b.size (fun q e => HcB.out q e)
        replace hX : CellsAt v4 Bb #[.slice none 0 0, .slice none 0 0, .slice none 0 0] 32 := (hg.block Bb hX.lt (fun e => HRB.out _ e.symm rfl)).trans hX
        refine hK.out _ _ ⟨(hbx.below b).2.1, (hbx.below b).2.2⟩ (fun hH => ?_)
        clear hK
        clear hO hL hg hO2 b8
        refine wpAnyH_ready (rs := [9]) (by kernel_rfl) (by simp) ?_
        refine AllReadyH.cons rfl (fun K hK => ?_) AllReadyH.nil
        simp only [List.getElem_toArray, List.getElem_cons_succ, List.getElem_cons_zero]
        rw [if_pos (by rfl)]
        go_wp2_with fail
        refine (hall_own _ _ _ n i roles (all ++ [⟨3, keep, noDOp⟩]) v4 (by exact ⟨_, rfl, hT.below (below_then c b)⟩) (by exact hr.below (below_then c b)) (by exact hH2)).mono ?_
        rintro e v5 ⟨rb, lb, lbc, rfl, hDb, _, bs, hFb, _⟩
        rw [HDA.out] at hDb
        rw [HFR.out]
        obtain ⟨L2, HL2e⟩ : ∃ L, Hid ((hallAll n i roles (all ++ [(⟨3, keep, noDOp⟩ : HOp)])).2.1.length = L) := ⟨_, rfl⟩
        rw [HL2e.out]
        have KB := (desk_on hDb hFb).weaken (D' := fun k => v4.heap.size ≤ k) (fun k _ hk => hk)
        obtain ⟨b1, b2, b3, b4, b5, b6, b7, b9, rfl, k1, k2, k3⟩ := hDb
        clear k1 k2 k3
        rw [HDL.out] at KB ⊢
        replace KB := KB.weaken (D' := fun k => v4.heap.size ≤ k ∧ k ≠ Bb) (fun k _ hk => ⟨hk, fun e => by have := hX.lt; have hk : v4.heap.size ≤ k := hk; omega⟩)
        replace hX := hX.below bs
        replace b := below_then b bs
        refine hK.out _ _ ⟨(hbx.below b).2.1, (hbx.below b).2.2⟩ (fun hH => ?_)
        clear hK
        clear bs hH2
        refine wpAnyH_take (i := 10) (v := .tuple #[.agg #[.slice b1 b2 b3, .slice b4 b5 b6, .slice b7 DL b9], .slice lb L2 lbc, .int .i64 FR]) rfl (by kernel_rfl) (by kernel_rfl) (by kernel_rfl) (fun _ _ _ h => h) (.inl ⟨by rfl, fun _ _ => rfl⟩) hH ?_
        simp only [List.getElem_toArray, List.getElem_cons_succ, List.getElem_cons_zero, Act.put, List.setIfInBounds_toArray, List.set_cons_zero, List.set_cons_succ]
        refine wpAnyH_take (i := 11) (v := .agg #[.slice b1 b2 b3, .slice b4 b5 b6, .slice b7 DL b9]) rfl (by kernel_rfl) (by kernel_rfl) (by kernel_rfl) (fun _ _ _ h => h) (.inl ⟨by rfl, fun w' hS' => by first | (go_simp; done) | (go_simp; rfl) | (go_simp; intro h; omega) | (go_simp; omega)⟩) hH ?_
        simp only [List.getElem_toArray, List.getElem_cons_succ, List.getElem_cons_zero, Act.put, List.setIfInBounds_toArray, List.set_cons_zero, List.set_cons_succ]
        refine wpAnyH_take (i := 12) (v := .slice lb L2 lbc) rfl (by kernel_rfl) (by kernel_rfl) (by kernel_rfl) (fun _ _ _ h => h) (.inl ⟨by rfl, fun w' hS' => by first | (go_simp; done) | (go_simp; rfl) | (go_simp; intro h; omega) | (go_simp; omega)⟩) hH ?_
        simp only [List.getElem_toArray, List.getElem_cons_succ, List.getElem_cons_zero, Act.put, List.setIfInBounds_toArray, List.set_cons_zero, List.set_cons_succ]
        refine wpAnyH_take (i := 13) (v := .int .i64 FR) rfl (by kernel_rfl) (by kernel_rfl) (by kernel_rfl) (fun _ _ _ h => h) (.inl ⟨by rfl, fun w' hS' => by first | (go_simp; done) | (go_simp; rfl) | (go_simp; intro h; omega) | (go_simp; omega)⟩) hH ?_
        simp only [List.getElem_toArray, List.getElem_cons_succ, List.getElem_cons_zero, Act.put, List.setIfInBounds_toArray, List.set_cons_zero, List.set_cons_succ]
        have f0 := hX.frozen 0
        have f1 := hX.frozen 1
        have f2 := hX.frozen 2
        have x0' : v5.cell? ⟨Bb, 0, none⟩ = some (.slice none 0 0) := hX.cell 0
        have x1' : v5.cell? ⟨Bb, 1, none⟩ = some (.slice none 0 0) := hX.cell 1
        have x2' : v5.cell? ⟨Bb, 2, none⟩ = some (.slice none 0 0) := hX.cell 2
        have hXf := ((hX.put 0 (.slice b1 b2 b3)).put 1 (.slice b4 b5 b6)).put 2 (.slice b7 DL b9)
        have KBf := ((KB.set (a := ⟨Bb, 0, none⟩) (fun q => q.2 rfl) (.slice b1 b2 b3)).set (a := ⟨Bb, 1, none⟩) (fun q => q.2 rfl) (.slice b4 b5 b6)).set (a := ⟨Bb, 2, none⟩) (fun q => q.2 rfl) (.slice b7 DL b9)
        have bf := ((b.setCell (p := ⟨Bb, 0, none⟩) HBbB.out (.slice b1 b2 b3)).setCell (p := ⟨Bb, 1, none⟩) HBbB.out (.slice b4 b5 b6)).setCell (p := ⟨Bb, 2, none⟩) HBbB.out (.slice b7 DL b9)
        obtain ⟨W9, HW9⟩ : ∃ v, Hid (((v5.setCell ⟨Bb, 0, none⟩ (.slice b1 b2 b3)).setCell ⟨Bb, 1, none⟩ (.slice b4 b5 b6)).setCell ⟨Bb, 2, none⟩ (.slice b7 DL b9) = v) := ⟨_, rfl⟩
        rw [HW9.out] at hXf KBf bf
        have hXf : CellsAt W9 Bb #[.slice b1 b2 b3, .slice b4 b5 b6, .slice b7 DL b9] 32 := hXf
        refine wpAnyH_ready (rs := [15]) (by kernel_rfl) (by simp) ?_
        refine AllReadyH.cons rfl (fun K hK => ?_) AllReadyH.nil
        simp only [List.getElem_toArray, List.getElem_cons_succ, List.getElem_cons_zero]
        rw [if_pos (by rfl)]
        go_wp2_with fail
        rw [HW9.out]
        refine hK.out _ _ ⟨(hbx.below bf).2.1, (hbx.below bf).2.2⟩ (fun hH => ?_)
        clear hK
        refine wpAnyH_take (i := 16) (v := .slice lb L2 lbc) rfl (by kernel_rfl) (by kernel_rfl) (by kernel_rfl) (fun _ _ _ h => h) (.inl ⟨by rfl, fun _ _ => rfl⟩) hH ?_
        simp only [List.getElem_toArray, List.getElem_cons_succ, List.getElem_cons_zero, Act.put, List.setIfInBounds_toArray, List.set_cons_zero, List.set_cons_succ]
        refine wpAnyH_take (i := 17) (v := .int .i64 FR) rfl (by kernel_rfl) (by kernel_rfl) (by kernel_rfl) (fun _ _ _ h => h) (.inl ⟨by rfl, fun _ _ => rfl⟩) hH ?_
        simp only [List.getElem_toArray, List.getElem_cons_succ, List.getElem_cons_zero, Act.put, List.setIfInBounds_toArray, List.set_cons_zero, List.set_cons_succ]
        refine wpAnyH_done (by kernel_rfl) ?_ _
        go_wp2_with fail
        go_meet
        exact ⟨Bb, b1, b2, b3, b4, b5, b6, b7, b9, rfl, rfl, hXf, KBf.now, bf⟩
    · simp only [List.getElem_toArray, List.getElem_cons_succ, List.getElem_cons_zero]
      rw [if_pos (by rfl)]
      have bs := below_new v0 (.cells #[.slice none 0 0, .slice none 0 0, .slice none 0 0] 32)
      have hX := cellsAt_new v0 #[.slice none 0 0, .slice none 0 0, .slice none 0 0] 32
      obtain ⟨Bb, HBb⟩ : ∃ B, Hid (v0.heap.size = B) := ⟨_, rfl⟩
      have HBbB : Hid (w4.heap.size ≤ Bb) := by show _ ≤ _; rw [← HBb.out]; exact b.size
      obtain ⟨v1, Hv1⟩ : ∃ v, Hid (v0.alloc (.cells #[.slice none 0 0, .slice none 0 0, .slice none 0 0] 32) = v) := ⟨_, rfl⟩
      rw [Hv1.out] at bs hX
      rw [HBb.out] at hX
      go_wp2_with fail
      rw [Hv1.out, HBb.out]
      replace b := below_then b bs
      refine hK.out _ _ ⟨(hbx.below b).2.1, (hbx.below b).2.2⟩ (fun hH => ?_)
      clear hK
      clear bs
      refine wpAnyH_ready (rs := [4, 7]) (by kernel_rfl) (by simp) ?_
      refine (AllReadyH.cons rfl (fun K hK => ?_) (AllReadyH.cons rfl (fun K hK => ?_) AllReadyH.nil))
      · simp only [List.getElem_toArray, List.getElem_cons_succ, List.getElem_cons_zero]
        rw [if_pos (by rfl)]
        go_wp2_with fail
        refine (clone_hops _ A (hopCells all) v1 (by exact hAll.below b)).mono ?_
        rintro e v2 ⟨rc, rfl, hO⟩
        have HO0 : Hid (w4.heap.size ≤ v1.heap.size) := b.size
        obtain ⟨ca, cc, rfl⟩ := hO.slice
        have HcB : Hid (∀ q, (Value.slice ca A cc).ownBlock = some q → w4.heap.size ≤ q) := fun q e => Nat.le_trans HO0.out (hO.1.lt q e).1
        have HRB : Hid (∀ q, (Value.slice ca A cc).ownBlock = some q → q ≠ Bb) := fun q e => by have := (hO.1.lt q e).1; have := hX.lt; omega
        replace hX := hX.below hO.2.1
        replace b := below_then b hO.2.1
        refine hK.out _ _ ⟨(hbx.below b).2.1, (hbx.below b).2.2⟩ (fun hH => ?_)
        clear hK
        have bs := below_new v2 (.cells #[.int .i64 3, .int .i64 keep, .int .i64 0, .int .i64 0, .int .i64 0, .int .i64 0, .int .i64 0] 47)
        have hL := cellsAt_new v2 #[.int .i64 3, .int .i64 keep, .int .i64 0, .int .i64 0, .int .i64 0, .int .i64 0, .int .i64 0] 47
        obtain ⟨Bl, HBl⟩ : ∃ B, Hid (v2.heap.size = B) := ⟨_, rfl⟩
        obtain ⟨v3, Hv3⟩ : ∃ v, Hid (v2.alloc (.cells #[.int .i64 3, .int .i64 keep, .int .i64 0, .int .i64 0, .int .i64 0, .int .i64 0, .int .i64 0] 47) = v) := ⟨_, rfl⟩
        rw [Hv3.out] at bs hL
        rw [HBl.out] at hL
        refine wpAnyH_ready (rs := [7]) (by kernel_rfl) (by simp) ?_
        refine AllReadyH.cons rfl (fun K hK => ?_) AllReadyH.nil
        simp only [List.getElem_toArray, List.getElem_cons_succ, List.getElem_cons_zero]
        rw [if_pos (by rfl)]
        go_wp2_with fail
        rw [Hv3.out, HBl.out]
        replace hX := hX.below bs
        replace hO := hO.trans bs
        replace b := below_then b bs
        refine hK.out _ _ ⟨(hbx.below b).2.1, (hbx.below b).2.2⟩ (fun hH => ?_)
        clear hK
        clear bs
        refine wpAnyH_ready (rs := [8]) (by kernel_rfl) (by simp) ?_
        refine AllReadyH.cons rfl (fun K hK => ?_) AllReadyH.nil
        simp only [List.getElem_toArray, List.getElem_cons_succ, List.getElem_cons_zero]
        refine wpr_append_cells elem_hops (by rfl) _ _ rfl v1.heap.size v1 v3 (.slice ca A cc) A 1 1 ⟨Bl, 0, none⟩ (hopCells all) (hopA ⟨3, keep, noDOp⟩).toList hO rfl rfl rfl (fun j u hj => by rw [addr_add, Nat.zero_add, hL.cell]; simpa [hopA, noDOp] using hj) (fun u hu => hopCells_one [⟨3, keep, noDOp⟩] u (by simpa [hopCells] using hu)) HL1.out HL2.out ?_
        intro nv v4 hO2 hg
        obtain ⟨na, nl, nc, rfl⟩ := ownsRow_slice hO2.1
        rw [show hopCells all ++ (hopA ⟨3, keep, noDOp⟩).toList = hopCells (all ++ [⟨3, keep, noDOp⟩]) by rw [hopCells_append]; simp [hopCells]] at hO2
        have hH2 := OwnC.hops hO2 (by rw [List.length_append, HA1.out]; rfl) HL3.out
        have b8 := b
        replace b : Below w4.heap.size w4 v4 := b.grown hg b.size (fun q e => HcB.out q e)
        replace hX : CellsAt v4 Bb #[.slice none 0 0, .slice none 0 0, .slice none 0 0] 32 := (hg.block Bb hX.lt (fun e => HRB.out _ e.symm rfl)).trans hX
        refine hK.out _ _ ⟨(hbx.below b).2.1, (hbx.below b).2.2⟩ (fun hH => ?_)
        clear hK
        clear hO hL hg hO2 b8
        refine wpAnyH_ready (rs := [9]) (by kernel_rfl) (by simp) ?_
        refine AllReadyH.cons rfl (fun K hK => ?_) AllReadyH.nil
        simp only [List.getElem_toArray, List.getElem_cons_succ, List.getElem_cons_zero]
        rw [if_pos (by rfl)]
        go_wp2_with fail
        refine (hall_own _ _ _ n i roles (all ++ [⟨3, keep, noDOp⟩]) v4 (by exact ⟨_, rfl, hT.below (below_then c b)⟩) (by exact hr.below (below_then c b)) (by exact hH2)).mono ?_
        rintro e v5 ⟨rb, lb, lbc, rfl, hDb, _, bs, hFb, _⟩
        rw [HDA.out] at hDb
        rw [HFR.out]
        obtain ⟨L2, HL2e⟩ : ∃ L, Hid ((hallAll n i roles (all ++ [(⟨3, keep, noDOp⟩ : HOp)])).2.1.length = L) := ⟨_, rfl⟩
        rw [HL2e.out]
        have KB := (desk_on hDb hFb).weaken (D' := fun k => v4.heap.size ≤ k) (fun k _ hk => hk)
        obtain ⟨b1, b2, b3, b4, b5, b6, b7, b9, rfl, k1, k2, k3⟩ := hDb
        clear k1 k2 k3
        rw [HDL.out] at KB ⊢
        replace KB := KB.weaken (D' := fun k => v4.heap.size ≤ k ∧ k ≠ Bb) (fun k _ hk => ⟨hk, fun e => by have := hX.lt; have hk : v4.heap.size ≤ k := hk; omega⟩)
        replace hX := hX.below bs
        replace b := below_then b bs
        refine hK.out _ _ ⟨(hbx.below b).2.1, (hbx.below b).2.2⟩ (fun hH => ?_)
        clear hK
        clear bs hH2
        refine wpAnyH_take (i := 10) (v := .tuple #[.agg #[.slice b1 b2 b3, .slice b4 b5 b6, .slice b7 DL b9], .slice lb L2 lbc, .int .i64 FR]) rfl (by kernel_rfl) (by kernel_rfl) (by kernel_rfl) (fun _ _ _ h => h) (.inl ⟨by rfl, fun _ _ => rfl⟩) hH ?_
        simp only [List.getElem_toArray, List.getElem_cons_succ, List.getElem_cons_zero, Act.put, List.setIfInBounds_toArray, List.set_cons_zero, List.set_cons_succ]
        refine wpAnyH_take (i := 11) (v := .agg #[.slice b1 b2 b3, .slice b4 b5 b6, .slice b7 DL b9]) rfl (by kernel_rfl) (by kernel_rfl) (by kernel_rfl) (fun _ _ _ h => h) (.inl ⟨by rfl, fun w' hS' => by first | (go_simp; done) | (go_simp; rfl) | (go_simp; intro h; omega) | (go_simp; omega)⟩) hH ?_
        simp only [List.getElem_toArray, List.getElem_cons_succ, List.getElem_cons_zero, Act.put, List.setIfInBounds_toArray, List.set_cons_zero, List.set_cons_succ]
        refine wpAnyH_take (i := 12) (v := .slice lb L2 lbc) rfl (by kernel_rfl) (by kernel_rfl) (by kernel_rfl) (fun _ _ _ h => h) (.inl ⟨by rfl, fun w' hS' => by first | (go_simp; done) | (go_simp; rfl) | (go_simp; intro h; omega) | (go_simp; omega)⟩) hH ?_
        simp only [List.getElem_toArray, List.getElem_cons_succ, List.getElem_cons_zero, Act.put, List.setIfInBounds_toArray, List.set_cons_zero, List.set_cons_succ]
        refine wpAnyH_take (i := 13) (v := .int .i64 FR) rfl (by kernel_rfl) (by kernel_rfl) (by kernel_rfl) (fun _ _ _ h => h) (.inl ⟨by rfl, fun w' hS' => by first | (go_simp; done) | (go_simp; rfl) | (go_simp; intro h; omega) | (go_simp; omega)⟩) hH ?_
        simp only [List.getElem_toArray, List.getElem_cons_succ, List.getElem_cons_zero, Act.put, List.setIfInBounds_toArray, List.set_cons_zero, List.set_cons_succ]
        have f0 := hX.frozen 0
        have f1 := hX.frozen 1
        have f2 := hX.frozen 2
        have x0' : v5.cell? ⟨Bb, 0, none⟩ = some (.slice none 0 0) := hX.cell 0
        have x1' : v5.cell? ⟨Bb, 1, none⟩ = some (.slice none 0 0) := hX.cell 1
        have x2' : v5.cell? ⟨Bb, 2, none⟩ = some (.slice none 0 0) := hX.cell 2
        have hXf := ((hX.put 0 (.slice b1 b2 b3)).put 1 (.slice b4 b5 b6)).put 2 (.slice b7 DL b9)
        have KBf := ((KB.set (a := ⟨Bb, 0, none⟩) (fun q => q.2 rfl) (.slice b1 b2 b3)).set (a := ⟨Bb, 1, none⟩) (fun q => q.2 rfl) (.slice b4 b5 b6)).set (a := ⟨Bb, 2, none⟩) (fun q => q.2 rfl) (.slice b7 DL b9)
        have bf := ((b.setCell (p := ⟨Bb, 0, none⟩) HBbB.out (.slice b1 b2 b3)).setCell (p := ⟨Bb, 1, none⟩) HBbB.out (.slice b4 b5 b6)).setCell (p := ⟨Bb, 2, none⟩) HBbB.out (.slice b7 DL b9)
        obtain ⟨W9, HW9⟩ : ∃ v, Hid (((v5.setCell ⟨Bb, 0, none⟩ (.slice b1 b2 b3)).setCell ⟨Bb, 1, none⟩ (.slice b4 b5 b6)).setCell ⟨Bb, 2, none⟩ (.slice b7 DL b9) = v) := ⟨_, rfl⟩
        rw [HW9.out] at hXf KBf bf
        have hXf : CellsAt W9 Bb #[.slice b1 b2 b3, .slice b4 b5 b6, .slice b7 DL b9] 32 := hXf
        refine wpAnyH_ready (rs := [15]) (by kernel_rfl) (by simp) ?_
        refine AllReadyH.cons rfl (fun K hK => ?_) AllReadyH.nil
        simp only [List.getElem_toArray, List.getElem_cons_succ, List.getElem_cons_zero]
        rw [if_pos (by rfl)]
        go_wp2_with fail
        rw [HW9.out]
        refine hK.out _ _ ⟨(hbx.below bf).2.1, (hbx.below bf).2.2⟩ (fun hH => ?_)
        clear hK
        refine wpAnyH_take (i := 16) (v := .slice lb L2 lbc) rfl (by kernel_rfl) (by kernel_rfl) (by kernel_rfl) (fun _ _ _ h => h) (.inl ⟨by rfl, fun _ _ => rfl⟩) hH ?_
        simp only [List.getElem_toArray, List.getElem_cons_succ, List.getElem_cons_zero, Act.put, List.setIfInBounds_toArray, List.set_cons_zero, List.set_cons_succ]
        refine wpAnyH_take (i := 17) (v := .int .i64 FR) rfl (by kernel_rfl) (by kernel_rfl) (by kernel_rfl) (fun _ _ _ h => h) (.inl ⟨by rfl, fun _ _ => rfl⟩) hH ?_
        simp only [List.getElem_toArray, List.getElem_cons_succ, List.getElem_cons_zero, Act.put, List.setIfInBounds_toArray, List.set_cons_zero, List.set_cons_succ]
        refine wpAnyH_done (by kernel_rfl) ?_ _
        go_wp2_with fail
        go_meet
        exact ⟨Bb, b1, b2, b3, b4, b5, b6, b7, b9, rfl, rfl, hXf, KBf.now, bf⟩
      · simp only [List.getElem_toArray, List.getElem_cons_succ, List.getElem_cons_zero]
        rw [if_pos (by rfl)]
        have bs := below_new v1 (.cells #[.int .i64 3, .int .i64 keep, .int .i64 0, .int .i64 0, .int .i64 0, .int .i64 0, .int .i64 0] 47)
        have hL := cellsAt_new v1 #[.int .i64 3, .int .i64 keep, .int .i64 0, .int .i64 0, .int .i64 0, .int .i64 0, .int .i64 0] 47
        obtain ⟨Bl, HBl⟩ : ∃ B, Hid (v1.heap.size = B) := ⟨_, rfl⟩
        obtain ⟨v2, Hv2⟩ : ∃ v, Hid (v1.alloc (.cells #[.int .i64 3, .int .i64 keep, .int .i64 0, .int .i64 0, .int .i64 0, .int .i64 0, .int .i64 0] 47) = v) := ⟨_, rfl⟩
        rw [Hv2.out] at bs hL
        rw [HBl.out] at hL
        go_wp2_with fail
        rw [Hv2.out, HBl.out]
        replace hX := hX.below bs
        replace b := below_then b bs
        refine hK.out _ _ ⟨(hbx.below b).2.1, (hbx.below b).2.2⟩ (fun hH => ?_)
        clear hK
        clear bs
        refine wpAnyH_ready (rs := [4]) (by kernel_rfl) (by simp) ?_
        refine AllReadyH.cons rfl (fun K hK => ?_) AllReadyH.nil
        simp only [List.getElem_toArray, List.getElem_cons_succ, List.getElem_cons_zero]
        rw [if_pos (by rfl)]
        go_wp2_with fail
        refine (clone_hops _ A (hopCells all) v2 (by exact hAll.below b)).mono ?_
        rintro e v3 ⟨rc, rfl, hO⟩
        have HO0 : Hid (w4.heap.size ≤ v2.heap.size) := b.size
        obtain ⟨ca, cc, rfl⟩ := hO.slice
        have HcB : Hid (∀ q, (Value.slice ca A cc).ownBlock = some q → w4.heap.size ≤ q) := fun q e => Nat.le_trans HO0.out (hO.1.lt q e).1
        have HRB : Hid (∀ q, (Value.slice ca A cc).ownBlock = some q → q ≠ Bb) := fun q e => by have := (hO.1.lt q e).1; have := hX.lt; omega
        replace hX := hX.below hO.2.1
        replace hL := hL.below hO.2.1
        replace b := below_then b hO.2.1
        refine hK.out _ _ ⟨(hbx.below b).2.1, (hbx.below b).2.2⟩ (fun hH => ?_)
        clear hK
        refine wpAnyH_ready (rs := [8]) (by kernel_rfl) (by simp) ?_
        refine AllReadyH.cons rfl (fun K hK => ?_) AllReadyH.nil
        simp only [List.getElem_toArray, List.getElem_cons_succ, List.getElem_cons_zero]
        refine wpr_append_cells elem_hops (by rfl) _ _ rfl v2.heap.size v2 v3 (.slice ca A cc) A 1 1 ⟨Bl, 0, none⟩ (hopCells all) (hopA ⟨3, keep, noDOp⟩).toList hO rfl rfl rfl (fun j u hj => by rw [addr_add, Nat.zero_add, hL.cell]; simpa [hopA, noDOp] using hj) (fun u hu => hopCells_one [⟨3, keep, noDOp⟩] u (by simpa [hopCells] using hu)) HL1.out HL2.out ?_
        intro nv v4 hO2 hg
        obtain ⟨na, nl, nc, rfl⟩ := ownsRow_slice hO2.1
        rw [show hopCells all ++ (hopA ⟨3, keep, noDOp⟩).toList = hopCells (all ++ [⟨3, keep, noDOp⟩]) by rw [hopCells_append]; simp [hopCells]] at hO2
        have hH2 := OwnC.hops hO2 (by rw [List.length_append, HA1.out]; rfl) HL3.out
        have b8 := b
        replace b : Below w4.heap.size w4 v4 := b.grown hg b.size (fun q e => HcB.out q e)
        replace hX : CellsAt v4 Bb #[.slice none 0 0, .slice none 0 0, .slice none 0 0] 32 := (hg.block Bb hX.lt (fun e => HRB.out _ e.symm rfl)).trans hX
        refine hK.out _ _ ⟨(hbx.below b).2.1, (hbx.below b).2.2⟩ (fun hH => ?_)
        clear hK
        clear hO hL hg hO2 b8
        refine wpAnyH_ready (rs := [9]) (by kernel_rfl) (by simp) ?_
        refine AllReadyH.cons rfl (fun K hK => ?_) AllReadyH.nil
        simp only [List.getElem_toArray, List.getElem_cons_succ, List.getElem_cons_zero]
        rw [if_pos (by rfl)]
        go_wp2_with fail
        refine (hall_own _ _ _ n i roles (all ++ [⟨3, keep, noDOp⟩]) v4 (by exact ⟨_, rfl, hT.below (below_then c b)⟩) (by exact hr.below (below_then c b)) (by exact hH2)).mono ?_
        rintro e v5 ⟨rb, lb, lbc, rfl, hDb, _, bs, hFb, _⟩
        rw [HDA.out] at hDb
        rw [HFR.out]
        obtain ⟨L2, HL2e⟩ : ∃ L, Hid ((hallAll n i roles (all ++ [(⟨3, keep, noDOp⟩ : HOp)])).2.1.length = L) := ⟨_, rfl⟩
        rw [HL2e.out]
        have KB := (desk_on hDb hFb).weaken (D' := fun k => v4.heap.size ≤ k) (fun k _ hk => hk)
        obtain ⟨b1, b2, b3, b4, b5, b6, b7, b9, rfl, k1, k2, k3⟩ := hDb
        clear k1 k2 k3
        rw [HDL.out] at KB ⊢
        replace KB := KB.weaken (D' := fun k => v4.heap.size ≤ k ∧ k ≠ Bb) (fun k _ hk => ⟨hk, fun e => by have := hX.lt; have hk : v4.heap.size ≤ k := hk; omega⟩)
        replace hX := hX.below bs
        replace b := below_then b bs
        refine hK.out _ _ ⟨(hbx.below b).2.1, (hbx.below b).2.2⟩ (fun hH => ?_)
        clear hK
        clear bs hH2
        refine wpAnyH_take (i := 10) (v := .tuple #[.agg #[.slice b1 b2 b3, .slice b4 b5 b6, .slice b7 DL b9], .slice lb L2 lbc, .int .i64 FR]) rfl (by kernel_rfl) (by kernel_rfl) (by kernel_rfl) (fun _ _ _ h => h) (.inl ⟨by rfl, fun _ _ => rfl⟩) hH ?_
        simp only [List.getElem_toArray, List.getElem_cons_succ, List.getElem_cons_zero, Act.put, List.setIfInBounds_toArray, List.set_cons_zero, List.set_cons_succ]
        refine wpAnyH_take (i := 11) (v := .agg #[.slice b1 b2 b3, .slice b4 b5 b6, .slice b7 DL b9]) rfl (by kernel_rfl) (by kernel_rfl) (by kernel_rfl) (fun _ _ _ h => h) (.inl ⟨by rfl, fun w' hS' => by first | (go_simp; done) | (go_simp; rfl) | (go_simp; intro h; omega) | (go_simp; omega)⟩) hH ?_
        simp only [List.getElem_toArray, List.getElem_cons_succ, List.getElem_cons_zero, Act.put, List.setIfInBounds_toArray, List.set_cons_zero, List.set_cons_succ]
        refine wpAnyH_take (i := 12) (v := .slice lb L2 lbc) rfl (by kernel_rfl) (by kernel_rfl) (by kernel_rfl) (fun _ _ _ h => h) (.inl ⟨by rfl, fun w' hS' => by first | (go_simp; done) | (go_simp; rfl) | (go_simp; intro h; omega) | (go_simp; omega)⟩) hH ?_
        simp only [List.getElem_toArray, List.getElem_cons_succ, List.getElem_cons_zero, Act.put, List.setIfInBounds_toArray, List.set_cons_zero, List.set_cons_succ]
        refine wpAnyH_take (i := 13) (v := .int .i64 FR) rfl (by kernel_rfl) (by kernel_rfl) (by kernel_rfl) (fun _ _ _ h => h) (.inl ⟨by rfl, fun w' hS' => by first | (go_simp; done) | (go_simp; rfl) | (go_simp; intro h; omega) | (go_simp; omega)⟩) hH ?_
        simp only [List.getElem_toArray, List.getElem_cons_succ, List.getElem_cons_zero, Act.put, List.setIfInBounds_toArray, List.set_cons_zero, List.set_cons_succ]
        have f0 := hX.frozen 0
        have f1 := hX.frozen 1
        have f2 := hX.frozen 2
        have x0' : v5.cell? ⟨Bb, 0, none⟩ = some (.slice none 0 0) := hX.cell 0
        have x1' : v5.cell? ⟨Bb, 1, none⟩ = some (.slice none 0 0) := hX.cell 1
        have x2' : v5.cell? ⟨Bb, 2, none⟩ = some (.slice none 0 0) := hX.cell 2
        have hXf := ((hX.put 0 (.slice b1 b2 b3)).put 1 (.slice b4 b5 b6)).put 2 (.slice b7 DL b9)
        have KBf := ((KB.set (a := ⟨Bb, 0, none⟩) (fun q => q.2 rfl) (.slice b1 b2 b3)).set (a := ⟨Bb, 1, none⟩) (fun q => q.2 rfl) (.slice b4 b5 b6)).set (a := ⟨Bb, 2, none⟩) (fun q => q.2 rfl) (.slice b7 DL b9)
        have bf := ((b.setCell (p := ⟨Bb, 0, none⟩) HBbB.out (.slice b1 b2 b3)).setCell (p := ⟨Bb, 1, none⟩) HBbB.out (.slice b4 b5 b6)).setCell (p := ⟨Bb, 2, none⟩) HBbB.out (.slice b7 DL b9)
        obtain ⟨W9, HW9⟩ : ∃ v, Hid (((v5.setCell ⟨Bb, 0, none⟩ (.slice b1 b2 b3)).setCell ⟨Bb, 1, none⟩ (.slice b4 b5 b6)).setCell ⟨Bb, 2, none⟩ (.slice b7 DL b9) = v) := ⟨_, rfl⟩
        rw [HW9.out] at hXf KBf bf
        have hXf : CellsAt W9 Bb #[.slice b1 b2 b3, .slice b4 b5 b6, .slice b7 DL b9] 32 := hXf
        refine wpAnyH_ready (rs := [15]) (by kernel_rfl) (by simp) ?_
        refine AllReadyH.cons rfl (fun K hK => ?_) AllReadyH.nil
        simp only [List.getElem_toArray, List.getElem_cons_succ, List.getElem_cons_zero]
        rw [if_pos (by rfl)]
        go_wp2_with fail
        rw [HW9.out]
        refine hK.out _ _ ⟨(hbx.below bf).2.1, (hbx.below bf).2.2⟩ (fun hH => ?_)
        clear hK
        refine wpAnyH_take (i := 16) (v := .slice lb L2 lbc) rfl (by kernel_rfl) (by kernel_rfl) (by kernel_rfl) (fun _ _ _ h => h) (.inl ⟨by rfl, fun _ _ => rfl⟩) hH ?_
        simp only [List.getElem_toArray, List.getElem_cons_succ, List.getElem_cons_zero, Act.put, List.setIfInBounds_toArray, List.set_cons_zero, List.set_cons_succ]
        refine wpAnyH_take (i := 17) (v := .int .i64 FR) rfl (by kernel_rfl) (by kernel_rfl) (by kernel_rfl) (fun _ _ _ h => h) (.inl ⟨by rfl, fun _ _ => rfl⟩) hH ?_
        simp only [List.getElem_toArray, List.getElem_cons_succ, List.getElem_cons_zero, Act.put, List.setIfInBounds_toArray, List.set_cons_zero, List.set_cons_succ]
        refine wpAnyH_done (by kernel_rfl) ?_ _
        go_wp2_with fail
        go_meet
        exact ⟨Bb, b1, b2, b3, b4, b5, b6, b7, b9, rfl, rfl, hXf, KBf.now, bf⟩
  case rest =>
    obtain ⟨Ba, b1, b2, b3, b4, b5, b6, b7, b9, rfl, rfl, hXb, hDb, b⟩ := hcut
    obtain ⟨w6, rfl⟩ : ∃ w6, w6 = wc := ⟨_, rfl⟩
    replace c := below_then c b
    replace hbx := hbx.below b
    replace hAa := hAa.below b
    clear b hAll
    by_cases h0 : (beginC n i).2 = 0
    · have hE0 : ER = 0 := by rw [← HER.out]; exact (kept_err n i roles all [] h0).1
      have hF0 : FR = 0 := by rw [← HFR.out]; exact (kept_err n i roles _ [] h0).1
      subst hE0 hF0
      obtain ⟨hk1, hk2⟩ := kept_all n i roles bs xs keep Ho1.out Ho2.out XA (by rw [Hall.out]; exact HXA.out) h0
      rw [Hall.out, HDA.out] at hk1
      have hXLA : XL = A := by rw [← HXL.out, hk2, HNb.out, HNx.out, HA.out]
      subst hXLA
      obtain ⟨A1, HA1e⟩ : ∃ l, Hid (ackTo bs XA bs.length = l) := ⟨_, rfl⟩
      obtain ⟨AM, HAMe⟩ : ∃ l, Hid (ackTo xs (XA.drop (bs.length + 1)) xs.length = l) := ⟨_, rfl⟩
      rw [HA1e.out, HAMe.out] at hk1
      have Hk1 : Hid (DA = (deskAll n i roles (A1 ++ AM.take ((max keep 0).toNat / 7))).1) := hk1
      have Herr : Hid ((deskAll n i roles (A1 ++ AM.take ((max keep 0).toNat / 7))).2.2 = 0) := (kept_err n i roles [] _ h0).2
      have HAL : Hid (A1.length ≤ 1048576 ∧ AM.length ≤ 1048576) := by
        have e1 := ackTo_le bs XA bs.length
        have e2 := ackTo_le xs (XA.drop (bs.length + 1)) xs.length
        rw [HA1e.out, HNb.out] at e1
        rw [HAMe.out, HNx.out] at e2
        exact ⟨Nat.le_trans e1 hs1, Nat.le_trans e2 hs2⟩
      have eAA : (((XL : Nat) : Int) != (XL : Int)) = false := by simp
      clear hk1 hk2 h0
      go_wp2_with fail
      refine (acked_any _ _ bs XA w6 (by exact HU1.out.below c) (by exact hAa) (by rw [HXL.out, HNb.out, ← HA.out]; omega) (by rw [HNb.out]; omega)).mono ?_
      rintro e w7 ⟨r1, rfl, hR1⟩
      rw [HA1e.out] at hR1
      obtain ⟨L1, HL1e⟩ : ∃ L, Hid (A1.length = L) := ⟨_, rfl⟩
      rw [HL1e.out] at hR1
      obtain ⟨r1a, r1c, rfl⟩ := hR1.slice
      have b := hR1.2.1
      replace c := below_then c b
      replace hbx := hbx.below b
      replace hAa := hAa.below b
      replace hXb := hXb.below b
      replace hDb := hDb.below b
      replace hR1 : CellsV w7 (.slice r1a L1 r1c) 5 3518437208883 L1 (doCells A1) := hR1.cells (by have := HAL.out.1; have := HL1e.out; omega) (fun u hu => doCells_one A1 u hu)
      clear b
      have HAMe2 : Hid (ackTo xs (XA.drop (Nb + 1)) xs.length = AM) := by show _ = _; rw [← HNb.out]; exact HAMe.out
      obtain ⟨LM, HLMe⟩ : ∃ L, Hid (AM.length = L) := ⟨_, rfl⟩
      have hNb1 : Nb + 1 ≤ XL := by have := HA.out; omega
      obtain ⟨lb0, lo0, rfl, _, _, _⟩ := hAa.at (k := 0) (by omega)
      have hcap : XL ≤ lac := by
        obtain ⟨_, _, _, e, _, _, ⟨s1, _, _⟩, _⟩ := hAa
        injection e with _ e2 e3
        omega
      have hi1 : ((Nb : Int) + 1) ≤ (XL : Int) := by omega
      have hNbw : Go.IntKind.i64.wrap ((Nb : Int) + 1) = (Nb : Int) + 1 := Go.IntWalk.i64_in _ (by omega)
      go_upto_region 12 with fail
      go_cut [22] (fun x22 wc => ∃ (r2a : Option Addr) (r2c : Nat), x22 = .slice r2a LM r2c ∧ CellsV wc (.slice r2a LM r2c) 5 3518437208883 LM (doCells AM) ∧ Below w7.heap.size w7 wc)
      case first =>
        by_cases hc : lac = Nb + 1
        · subst hc
          have hDr : OpsV w7 (.slice (some ⟨lb0, lo0, none⟩) (XL - (Nb + 1)) (Nb + 1 - (Nb + 1))) (ansL (XA.drop (Nb + 1))) := by
            rw [ansL_drop]
            exact hAa.drop hNb1 (by rw [if_pos rfl])
          rw [show XL - (Nb + 1) = 0 by omega, Nat.sub_self] at hDr
          go_wp2_with fail
          refine (acked_any _ _ xs (XA.drop (Nb + 1)) w7 (by exact HU2.out.below c) (by exact hDr) (by rw [List.length_drop, HXL.out, HNx.out, ← HA.out]; omega) (by rw [HNx.out]; omega)).mono ?_
          rintro e w8 ⟨r2, rfl, hR2⟩
          rw [HAMe2.out, HLMe.out] at hR2
          obtain ⟨r2a, r2c, rfl⟩ := hR2.slice
          have hR2c := hR2.cells (most := 3518437208883) (by have := HAL.out.2; have := HLMe.out; omega) (fun u hu => doCells_one AM u hu)
          have bb := hR2.2.1
          go_wp2_with fail
          go_meet
          exact ⟨r2a, r2c, rfl, hR2c, bb⟩
        · have hDr : OpsV w7 (.slice (some ⟨lb0, lo0 + (Nb + 1) * 2, none⟩) (XL - (Nb + 1)) (lac - (Nb + 1))) (ansL (XA.drop (Nb + 1))) := by
            rw [ansL_drop]
            exact hAa.drop hNb1 (by rw [if_neg hc])
          go_wp2_with fail
          refine (acked_any _ _ xs (XA.drop (Nb + 1)) w7 (by exact HU2.out.below c) (by exact hDr) (by rw [List.length_drop, HXL.out, HNx.out, ← HA.out]; omega) (by rw [HNx.out]; omega)).mono ?_
          rintro e w8 ⟨r2, rfl, hR2⟩
          rw [HAMe2.out, HLMe.out] at hR2
          obtain ⟨r2a, r2c, rfl⟩ := hR2.slice
          have hR2c := hR2.cells (most := 3518437208883) (by have := HAL.out.2; have := HLMe.out; omega) (fun u hu => doCells_one AM u hu)
          have bb := hR2.2.1
          go_wp2_with fail
          go_meet
          exact ⟨r2a, r2c, rfl, hR2c, bb⟩
      case rest =>
      obtain ⟨r2a, r2c, rfl, hR2, b⟩ := hcut
      obtain ⟨w8, rfl⟩ : ∃ w8, w8 = wc := ⟨_, rfl⟩
      replace c := below_then c b
      replace hbx := hbx.below b
      replace hXb := hXb.below b
      replace hDb := hDb.below b
      replace hR1 := hR1.below b
      clear b hAa hNbw hi1 hcap hNb1
      obtain ⟨LF, HLF⟩ : ∃ L, Hid (L = min ((max keep 0).toNat / 7) LM) := ⟨_, rfl⟩
      have hq : Go.IntKind.i64.wrap (Int.tdiv (max keep 0) 7) = max keep 0 / 7 := Go.IntWalk.i64_quo _ _ (by omega)
      have HLFi : Hid (min (max keep 0 / 7) (LM : Int) = (LF : Int)) := by have := HLF.out; show _ = _; omega
      have hLFM : LF ≤ LM := by have := HLF.out; omega
      have hLMc : LM ≤ r2c := by
        obtain ⟨_, _, e2, _, _, ⟨s1, _, _⟩, _, _⟩ := hR2
        injection e2 with _ _ e3
        omega
      have hLFc : LF ≤ r2c := by omega
      have hLFi : (LF : Int) ≤ (r2c : Int) := by omega
      obtain ⟨A2, HA2⟩ : ∃ l, Hid (AM.take LF = l) := ⟨_, rfl⟩
      have HA2l : Hid (A2.length = LF) := by show _ = _; rw [← HA2.out, List.length_take, HLMe.out]; omega
      have hDW0 : AM.take ((max keep 0).toNat / 7) = A2 := by rw [← HA2.out, take_min, HLMe.out, ← HLF.out]
      have HDW : Hid ((deskAll n i roles (A1 ++ A2)).1 = DA) := by show _ = _; rw [← hDW0]; exact Hk1.out.symm
      have HGR : Hid ((deskAll n i roles (A1 ++ A2)).2.2 = 0) := by show _ = _; rw [← hDW0]; exact Herr.out
      replace hR2 : CellsV w8 (.slice r2a LF r2c) 5 3518437208883 LF (doCells A2) := by
        have := hR2.take hLFM
        rw [doCells_take, HA2.out] at this
        exact this
      obtain ⟨L12, HL12⟩ : ∃ L, Hid (L1 + LF = L) := ⟨_, rfl⟩
      have HA12 : Hid ((A1 ++ A2).length = L12) := by show _ = _; rw [List.length_append, HL1e.out, HA2l.out, HL12.out]
      have HA12le : Hid (L12 ≤ 3518437208883) := by
        have := HAL.out; have := HL1e.out; have := HLMe.out; have := HL12.out
        show _ ≤ _
        omega
      have HcatN2 : Hid (catN [(L1, doCells A1), (LF, doCells A2)] 2 = L12) := by show _ = _; rw [← HL12.out]; simp [catN]
      have HcatC2 : Hid (catC [(L1, doCells A1), (LF, doCells A2)] 2 = doCells (A1 ++ A2)) := by show _ = _; rw [doCells_append]; simp [catC]
      have HcatLe : Hid (catN [(L1, doCells A1), (LF, doCells A2)] 2 ≤ 3518437208883) := by show _ ≤ _; rw [HcatN2.out]; exact HA12le.out
      clear hLMc hDW0
      go_upto_region 14 with fail
      rw [HLFi.out]
      clear hq
      go_cut [24, 26] (fun x24 x26 wc => ∃ (Bb : Nat) (g1 : Option Addr) (g2 g3 : Nat) (g4 : Option Addr) (g5 g6 : Nat) (g7 : Option Addr) (g9 : Nat), x24 = .pointer (some ⟨Bb, 0, none⟩) ∧ x26 = .int .i64 0 ∧ CellsAt wc Bb #[.slice g1 g2 g3, .slice g4 g5 g6, .slice g7 DL g9] 32 ∧ DeskV wc (.agg #[.slice g1 g2 g3, .slice g4 g5 g6, .slice g7 DL g9]) DA ∧ Below w8.heap.size w8 wc)
      case first =>
        refine wp_region_held_drew (S := (fun w' => w'.cell? ⟨w.heap.size, 0, none⟩ = some (.int .i64 n.places) ∧ w'.cell? ⟨w.heap.size, 1, none⟩ = some (tv))) (by kernel_rfl) ⟨(hbx.below (Below.refl _ _).drew).2.1, (hbx.below (Below.refl _ _).drew).2.2⟩ (fun hH => ?_)
        have b : Below w8.heap.size w8 w8.drew := (Below.refl _ _).drew
        obtain ⟨v0, Hv0⟩ : ∃ v0, Hid (w8.drew = v0) := ⟨_, rfl⟩
        rw [Hv0.out] at hH b ⊢
        clear Hv0
        refine wpAnyH_take (i := 0) (v := .agg #[.int .i64 n.places, tv]) rfl (by kernel_rfl) (by kernel_rfl) (by kernel_rfl) (fun _ _ _ h => h) (.inl ⟨by rfl, fun w' hS' => by obtain ⟨s0, s1⟩ := hS'; go_simp⟩) hH ?_
        simp only [List.getElem_toArray, List.getElem_cons_succ, List.getElem_cons_zero, Act.put, List.setIfInBounds_toArray, List.set_cons_zero, List.set_cons_succ]
        refine wpAnyH_take (i := 1) (v := .int .i64 i) rfl (by kernel_rfl) (by kernel_rfl) (by kernel_rfl) (fun _ _ _ h => h) (.inl ⟨by rfl, fun _ _ => rfl⟩) hH ?_
        simp only [List.getElem_toArray, List.getElem_cons_succ, List.getElem_cons_zero, Act.put, List.setIfInBounds_toArray, List.set_cons_zero, List.set_cons_succ]
        refine wpAnyH_take (i := 2) (v := r) rfl (by kernel_rfl) (by kernel_rfl) (by kernel_rfl) (fun _ _ _ h => h) (.inl ⟨by rfl, fun _ _ => rfl⟩) hH ?_
        simp only [List.getElem_toArray, List.getElem_cons_succ, List.getElem_cons_zero, Act.put, List.setIfInBounds_toArray, List.set_cons_zero, List.set_cons_succ]
        refine wpAnyH_take (i := 3) (v := .slice r1a L1 r1c) rfl (by kernel_rfl) (by kernel_rfl) (by kernel_rfl) (fun _ _ _ h => h) (.inl ⟨by rfl, fun _ _ => rfl⟩) hH ?_
        simp only [List.getElem_toArray, List.getElem_cons_succ, List.getElem_cons_zero, Act.put, List.setIfInBounds_toArray, List.set_cons_zero, List.set_cons_succ]
        refine wpAnyH_take (i := 4) (v := .slice r2a LM r2c) rfl (by kernel_rfl) (by kernel_rfl) (by kernel_rfl) (fun _ _ _ h => h) (.inl ⟨by rfl, fun _ _ => rfl⟩) hH ?_
        simp only [List.getElem_toArray, List.getElem_cons_succ, List.getElem_cons_zero, Act.put, List.setIfInBounds_toArray, List.set_cons_zero, List.set_cons_succ]
        refine wpAnyH_take (i := 5) (v := .int .i64 (LF : Int)) rfl (by kernel_rfl) (by kernel_rfl) (by kernel_rfl) (fun _ _ _ h => h) (.inl ⟨by rfl, fun _ _ => rfl⟩) hH ?_
        simp only [List.getElem_toArray, List.getElem_cons_succ, List.getElem_cons_zero, Act.put, List.setIfInBounds_toArray, List.set_cons_zero, List.set_cons_succ]
        refine wpAnyH_take (i := 6) (v := .slice r2a LF r2c) rfl (by kernel_rfl) (by kernel_rfl) (by kernel_rfl) (fun _ _ _ h => h) (.inl ⟨by rfl, fun w' hS' => by first | (go_simp; done) | (go_simp; rfl) | (go_simp; intro h; omega) | (go_simp; omega)⟩) hH ?_
        simp only [List.getElem_toArray, List.getElem_cons_succ, List.getElem_cons_zero, Act.put, List.setIfInBounds_toArray, List.set_cons_zero, List.set_cons_succ]
        refine wpAnyH_ready (rs := [7, 14]) (by kernel_rfl) (by simp) ?_
        refine (AllReadyH.cons rfl (fun K hK => ?_) (AllReadyH.cons rfl (fun K hK => ?_) AllReadyH.nil))
        · simp only [List.getElem_toArray, List.getElem_cons_succ, List.getElem_cons_zero]
          rw [if_pos (by rfl)]
          have bs := below_new v0 (.cells #[.slice r1a L1 r1c, .slice r2a LF r2c] 52)
          have hL := cellsAt_new v0 #[.slice r1a L1 r1c, .slice r2a LF r2c] 52
          obtain ⟨Bl, HBl⟩ : ∃ B, Hid (v0.heap.size = B) := ⟨_, rfl⟩
          obtain ⟨v1, Hv1⟩ : ∃ v, Hid (v0.alloc (.cells #[.slice r1a L1 r1c, .slice r2a LF r2c] 52) = v) := ⟨_, rfl⟩
          rw [Hv1.out] at bs hL
          rw [HBl.out] at hL
          have hLis : LisC v1 (.slice (some ⟨Bl, 0, none⟩) 2 2) 5 3518437208883 [(L1, doCells A1), (LF, doCells A2)] := by
            refine ⟨_, _, _, rfl, rfl, by omega, ⟨Nat.le_refl _, by omega, fun h => by cases h⟩, fun j hj => ?_⟩
            match j, hj with
            | 0, _ => exact ⟨_, 0, _, rfl, hL.lt, hL.cell 0, hR1.below (below_then b bs)⟩
            | 1, _ => exact ⟨_, 0, _, rfl, hL.lt, hL.cell 1, hR2.below (below_then b bs)⟩
            | j + 2, h => exact absurd (show j + 2 < 2 from h) (by omega)
          go_wp2_with fail
          rw [Hv1.out, HBl.out]
          replace b := below_then b bs
          refine hK.out _ _ ⟨(hbx.below b).2.1, (hbx.below b).2.2⟩ (fun hH => ?_)
          clear hK
          clear bs hL
          refine wpAnyH_ready (rs := [8, 14]) (by kernel_rfl) (by simp) ?_
          refine (AllReadyH.cons rfl (fun K hK => ?_) (AllReadyH.cons rfl (fun K hK => ?_) AllReadyH.nil))
          · simp only [List.getElem_toArray, List.getElem_cons_succ, List.getElem_cons_zero]
            rw [if_pos (by rfl)]
            go_wp2_with fail
            refine (concat_rdop _ [(L1, doCells A1), (LF, doCells A2)] v1 (by exact hLis) HcatLe.out).mono ?_
            rintro e v2 ⟨rc, rfl, hO⟩
            have hq : v2.ownsRow v1.heap.size 45 5 rc L12 (doCells (A1 ++ A2)) := by rw [← HcatN2.out, ← HcatC2.out]; exact hO.1
            have hH2 : DOpsV v2 rc (A1 ++ A2) := dops_of (B := v1.heap.size) (by rw [HA12.out]; exact hq) (by rw [HA12.out]; exact HA12le.out)
            have bO := hO.2.1
            clear hO hq
            replace hLis := hLis.below bO
            replace b := below_then b bO
            refine hK.out _ _ ⟨(hbx.below b).2.1, (hbx.below b).2.2⟩ (fun hH => ?_)
            clear hK
            refine wpAnyH_ready (rs := [9, 14]) (by kernel_rfl) (by simp) ?_
            refine (AllReadyH.cons rfl (fun K hK => ?_) (AllReadyH.cons rfl (fun K hK => ?_) AllReadyH.nil))
            · simp only [List.getElem_toArray, List.getElem_cons_succ, List.getElem_cons_zero]
              rw [if_pos (by rfl)]
              go_wp2_with fail
              refine (desk_play _ _ _ n i roles (A1 ++ A2) v2 (by exact ⟨_, rfl, hT.below (below_then c b)⟩) (by exact hr.below (below_then c b)) (by exact hH2)).mono ?_
              rintro e v3 ⟨rb, lb, lbc, rfl, hDb, _, bs⟩
              rw [HDW.out] at hDb
              rw [HGR.out]
              obtain ⟨L2, HL2e⟩ : ∃ L, Hid ((deskAll n i roles (A1 ++ A2)).2.1.length = L) := ⟨_, rfl⟩
              rw [HL2e.out]
              obtain ⟨g1, g2, g3, g4, g5, g6, g7, g9, rfl, k1, k2, k3⟩ := id hDb
              clear k1 k2 k3
              rw [HDL.out] at hDb ⊢
              replace b := below_then b bs
              refine hK.out _ _ ⟨(hbx.below b).2.1, (hbx.below b).2.2⟩ (fun hH => ?_)
              clear hK
              clear bs hH2
              refine wpAnyH_take (i := 10) (v := .tuple #[.agg #[.slice g1 g2 g3, .slice g4 g5 g6, .slice g7 DL g9], .slice lb L2 lbc, .int .i64 0]) rfl (by kernel_rfl) (by kernel_rfl) (by kernel_rfl) (fun _ _ _ h => h) (.inl ⟨by rfl, fun _ _ => rfl⟩) hH ?_
              simp only [List.getElem_toArray, List.getElem_cons_succ, List.getElem_cons_zero, Act.put, List.setIfInBounds_toArray, List.set_cons_zero, List.set_cons_succ]
              refine wpAnyH_take (i := 11) (v := .agg #[.slice g1 g2 g3, .slice g4 g5 g6, .slice g7 DL g9]) rfl (by kernel_rfl) (by kernel_rfl) (by kernel_rfl) (fun _ _ _ h => h) (.inl ⟨by rfl, fun w' hS' => by first | (go_simp; done) | (go_simp; rfl) | (go_simp; intro h; omega) | (go_simp; omega)⟩) hH ?_
              simp only [List.getElem_toArray, List.getElem_cons_succ, List.getElem_cons_zero, Act.put, List.setIfInBounds_toArray, List.set_cons_zero, List.set_cons_succ]
              refine wpAnyH_take (i := 12) (v := .slice lb L2 lbc) rfl (by kernel_rfl) (by kernel_rfl) (by kernel_rfl) (fun _ _ _ h => h) (.inl ⟨by rfl, fun w' hS' => by first | (go_simp; done) | (go_simp; rfl) | (go_simp; intro h; omega) | (go_simp; omega)⟩) hH ?_
              simp only [List.getElem_toArray, List.getElem_cons_succ, List.getElem_cons_zero, Act.put, List.setIfInBounds_toArray, List.set_cons_zero, List.set_cons_succ]
              refine wpAnyH_take (i := 13) (v := .int .i64 0) rfl (by kernel_rfl) (by kernel_rfl) (by kernel_rfl) (fun _ _ _ h => h) (.inl ⟨by rfl, fun w' hS' => by first | (go_simp; done) | (go_simp; rfl) | (go_simp; intro h; omega) | (go_simp; omega)⟩) hH ?_
              simp only [List.getElem_toArray, List.getElem_cons_succ, List.getElem_cons_zero, Act.put, List.setIfInBounds_toArray, List.set_cons_zero, List.set_cons_succ]
              have bs := below_new v3 (.cells #[.slice none 0 0, .slice none 0 0, .slice none 0 0] 32)
              have hX := cellsAt_new v3 #[.slice none 0 0, .slice none 0 0, .slice none 0 0] 32
              obtain ⟨Bb, HBb⟩ : ∃ B, Hid (v3.heap.size = B) := ⟨_, rfl⟩
              have HBbB : Hid (w8.heap.size ≤ Bb) := by show _ ≤ _; rw [← HBb.out]; exact b.size
              obtain ⟨v4, Hv4⟩ : ∃ v, Hid (v3.alloc (.cells #[.slice none 0 0, .slice none 0 0, .slice none 0 0] 32) = v) := ⟨_, rfl⟩
              rw [Hv4.out] at bs hX
              rw [HBb.out] at hX
              refine wpAnyH_ready (rs := [14]) (by kernel_rfl) (by simp) ?_
              refine AllReadyH.cons rfl (fun K hK => ?_) AllReadyH.nil
              simp only [List.getElem_toArray, List.getElem_cons_succ, List.getElem_cons_zero]
              rw [if_pos (by rfl)]
              go_wp2_with fail
              rw [Hv4.out, HBb.out]
              replace hDb := hDb.below bs
              replace b := below_then b bs
              refine hK.out _ _ ⟨(hbx.below b).2.1, (hbx.below b).2.2⟩ (fun hH => ?_)
              clear hK
              clear bs
              have f0 := hX.frozen 0
              have f1 := hX.frozen 1
              have f2 := hX.frozen 2
              have x0' : v4.cell? ⟨Bb, 0, none⟩ = some (.slice none 0 0) := hX.cell 0
              have x1' : v4.cell? ⟨Bb, 1, none⟩ = some (.slice none 0 0) := hX.cell 1
              have x2' : v4.cell? ⟨Bb, 2, none⟩ = some (.slice none 0 0) := hX.cell 2
              have hXf := ((hX.put 0 (.slice g1 g2 g3)).put 1 (.slice g4 g5 g6)).put 2 (.slice g7 DL g9)
              have hDf := ((hDb.putS x0' (.slice g1 g2 g3)).putS (p := ⟨Bb, 1, none⟩) (by rw [World.cell?_setCell_other _ _ _ _ (by simp)]; exact x1') (.slice g4 g5 g6)).putS (p := ⟨Bb, 2, none⟩) (by rw [World.cell?_setCell_other _ _ _ _ (by simp), World.cell?_setCell_other _ _ _ _ (by simp)]; exact x2') (.slice g7 DL g9)
              have bf := ((b.setCell (p := ⟨Bb, 0, none⟩) HBbB.out (.slice g1 g2 g3)).setCell (p := ⟨Bb, 1, none⟩) HBbB.out (.slice g4 g5 g6)).setCell (p := ⟨Bb, 2, none⟩) HBbB.out (.slice g7 DL g9)
              obtain ⟨W9, HW9⟩ : ∃ v, Hid (((v4.setCell ⟨Bb, 0, none⟩ (.slice g1 g2 g3)).setCell ⟨Bb, 1, none⟩ (.slice g4 g5 g6)).setCell ⟨Bb, 2, none⟩ (.slice g7 DL g9) = v) := ⟨_, rfl⟩
              rw [HW9.out] at hXf hDf bf
              have hXf : CellsAt W9 Bb #[.slice g1 g2 g3, .slice g4 g5 g6, .slice g7 DL g9] 32 := hXf
              refine wpAnyH_ready (rs := [15]) (by kernel_rfl) (by simp) ?_
              refine AllReadyH.cons rfl (fun K hK => ?_) AllReadyH.nil
              simp only [List.getElem_toArray, List.getElem_cons_succ, List.getElem_cons_zero]
              rw [if_pos (by rfl)]
              go_wp2_with fail
              rw [HW9.out]
              refine hK.out _ _ ⟨(hbx.below bf).2.1, (hbx.below bf).2.2⟩ (fun hH => ?_)
              clear hK
              refine wpAnyH_take (i := 16) (v := .slice lb L2 lbc) rfl (by kernel_rfl) (by kernel_rfl) (by kernel_rfl) (fun _ _ _ h => h) (.inl ⟨by rfl, fun _ _ => rfl⟩) hH ?_
              simp only [List.getElem_toArray, List.getElem_cons_succ, List.getElem_cons_zero, Act.put, List.setIfInBounds_toArray, List.set_cons_zero, List.set_cons_succ]
              refine wpAnyH_take (i := 17) (v := .int .i64 0) rfl (by kernel_rfl) (by kernel_rfl) (by kernel_rfl) (fun _ _ _ h => h) (.inl ⟨by rfl, fun _ _ => rfl⟩) hH ?_
              simp only [List.getElem_toArray, List.getElem_cons_succ, List.getElem_cons_zero, Act.put, List.setIfInBounds_toArray, List.set_cons_zero, List.set_cons_succ]
              refine wpAnyH_done (by kernel_rfl) ?_ _
              go_wp2_with fail
              go_meet
              exact ⟨Bb, g1, g2, g3, g4, g5, g6, g7, g9, rfl, rfl, hXf, hDf, bf⟩
            · simp only [List.getElem_toArray, List.getElem_cons_succ, List.getElem_cons_zero]
              rw [if_pos (by rfl)]
              have bs := below_new v2 (.cells #[.slice none 0 0, .slice none 0 0, .slice none 0 0] 32)
              have hX := cellsAt_new v2 #[.slice none 0 0, .slice none 0 0, .slice none 0 0] 32
              obtain ⟨Bb, HBb⟩ : ∃ B, Hid (v2.heap.size = B) := ⟨_, rfl⟩
              have HBbB : Hid (w8.heap.size ≤ Bb) := by show _ ≤ _; rw [← HBb.out]; exact b.size
              obtain ⟨v3, Hv3⟩ : ∃ v, Hid (v2.alloc (.cells #[.slice none 0 0, .slice none 0 0, .slice none 0 0] 32) = v) := ⟨_, rfl⟩
              rw [Hv3.out] at bs hX
              rw [HBb.out] at hX
              go_wp2_with fail
              rw [Hv3.out, HBb.out]
              replace hH2 := hH2.below bs
              replace b := below_then b bs
              refine hK.out _ _ ⟨(hbx.below b).2.1, (hbx.below b).2.2⟩ (fun hH => ?_)
              clear hK
              clear bs
              refine wpAnyH_ready (rs := [9]) (by kernel_rfl) (by simp) ?_
              refine AllReadyH.cons rfl (fun K hK => ?_) AllReadyH.nil
              simp only [List.getElem_toArray, List.getElem_cons_succ, List.getElem_cons_zero]
              rw [if_pos (by rfl)]
              go_wp2_with fail
              refine (desk_play _ _ _ n i roles (A1 ++ A2) v3 (by exact ⟨_, rfl, hT.below (below_then c b)⟩) (by exact hr.below (below_then c b)) (by exact hH2)).mono ?_
              rintro e v4 ⟨rb, lb, lbc, rfl, hDb, _, bs⟩
              rw [HDW.out] at hDb
              rw [HGR.out]
              obtain ⟨L2, HL2e⟩ : ∃ L, Hid ((deskAll n i roles (A1 ++ A2)).2.1.length = L) := ⟨_, rfl⟩
              rw [HL2e.out]
              obtain ⟨g1, g2, g3, g4, g5, g6, g7, g9, rfl, k1, k2, k3⟩ := id hDb
              clear k1 k2 k3
              rw [HDL.out] at hDb ⊢
              replace hX := hX.below bs
              replace b := below_then b bs
              refine hK.out _ _ ⟨(hbx.below b).2.1, (hbx.below b).2.2⟩ (fun hH => ?_)
              clear hK
              clear bs hH2
              refine wpAnyH_take (i := 10) (v := .tuple #[.agg #[.slice g1 g2 g3, .slice g4 g5 g6, .slice g7 DL g9], .slice lb L2 lbc, .int .i64 0]) rfl (by kernel_rfl) (by kernel_rfl) (by kernel_rfl) (fun _ _ _ h => h) (.inl ⟨by rfl, fun _ _ => rfl⟩) hH ?_
              simp only [List.getElem_toArray, List.getElem_cons_succ, List.getElem_cons_zero, Act.put, List.setIfInBounds_toArray, List.set_cons_zero, List.set_cons_succ]
              refine wpAnyH_take (i := 11) (v := .agg #[.slice g1 g2 g3, .slice g4 g5 g6, .slice g7 DL g9]) rfl (by kernel_rfl) (by kernel_rfl) (by kernel_rfl) (fun _ _ _ h => h) (.inl ⟨by rfl, fun w' hS' => by first | (go_simp; done) | (go_simp; rfl) | (go_simp; intro h; omega) | (go_simp; omega)⟩) hH ?_
              simp only [List.getElem_toArray, List.getElem_cons_succ, List.getElem_cons_zero, Act.put, List.setIfInBounds_toArray, List.set_cons_zero, List.set_cons_succ]
              refine wpAnyH_take (i := 12) (v := .slice lb L2 lbc) rfl (by kernel_rfl) (by kernel_rfl) (by kernel_rfl) (fun _ _ _ h => h) (.inl ⟨by rfl, fun w' hS' => by first | (go_simp; done) | (go_simp; rfl) | (go_simp; intro h; omega) | (go_simp; omega)⟩) hH ?_
              simp only [List.getElem_toArray, List.getElem_cons_succ, List.getElem_cons_zero, Act.put, List.setIfInBounds_toArray, List.set_cons_zero, List.set_cons_succ]
              refine wpAnyH_take (i := 13) (v := .int .i64 0) rfl (by kernel_rfl) (by kernel_rfl) (by kernel_rfl) (fun _ _ _ h => h) (.inl ⟨by rfl, fun w' hS' => by first | (go_simp; done) | (go_simp; rfl) | (go_simp; intro h; omega) | (go_simp; omega)⟩) hH ?_
              simp only [List.getElem_toArray, List.getElem_cons_succ, List.getElem_cons_zero, Act.put, List.setIfInBounds_toArray, List.set_cons_zero, List.set_cons_succ]
              have f0 := hX.frozen 0
              have f1 := hX.frozen 1
              have f2 := hX.frozen 2
              have x0' : v4.cell? ⟨Bb, 0, none⟩ = some (.slice none 0 0) := hX.cell 0
              have x1' : v4.cell? ⟨Bb, 1, none⟩ = some (.slice none 0 0) := hX.cell 1
              have x2' : v4.cell? ⟨Bb, 2, none⟩ = some (.slice none 0 0) := hX.cell 2
              have hXf := ((hX.put 0 (.slice g1 g2 g3)).put 1 (.slice g4 g5 g6)).put 2 (.slice g7 DL g9)
              have hDf := ((hDb.putS x0' (.slice g1 g2 g3)).putS (p := ⟨Bb, 1, none⟩) (by rw [World.cell?_setCell_other _ _ _ _ (by simp)]; exact x1') (.slice g4 g5 g6)).putS (p := ⟨Bb, 2, none⟩) (by rw [World.cell?_setCell_other _ _ _ _ (by simp), World.cell?_setCell_other _ _ _ _ (by simp)]; exact x2') (.slice g7 DL g9)
              have bf := ((b.setCell (p := ⟨Bb, 0, none⟩) HBbB.out (.slice g1 g2 g3)).setCell (p := ⟨Bb, 1, none⟩) HBbB.out (.slice g4 g5 g6)).setCell (p := ⟨Bb, 2, none⟩) HBbB.out (.slice g7 DL g9)
              obtain ⟨W9, HW9⟩ : ∃ v, Hid (((v4.setCell ⟨Bb, 0, none⟩ (.slice g1 g2 g3)).setCell ⟨Bb, 1, none⟩ (.slice g4 g5 g6)).setCell ⟨Bb, 2, none⟩ (.slice g7 DL g9) = v) := ⟨_, rfl⟩
              rw [HW9.out] at hXf hDf bf
              have hXf : CellsAt W9 Bb #[.slice g1 g2 g3, .slice g4 g5 g6, .slice g7 DL g9] 32 := hXf
              refine wpAnyH_ready (rs := [15]) (by kernel_rfl) (by simp) ?_
              refine AllReadyH.cons rfl (fun K hK => ?_) AllReadyH.nil
              simp only [List.getElem_toArray, List.getElem_cons_succ, List.getElem_cons_zero]
              rw [if_pos (by rfl)]
              go_wp2_with fail
              rw [HW9.out]
              refine hK.out _ _ ⟨(hbx.below bf).2.1, (hbx.below bf).2.2⟩ (fun hH => ?_)
              clear hK
              refine wpAnyH_take (i := 16) (v := .slice lb L2 lbc) rfl (by kernel_rfl) (by kernel_rfl) (by kernel_rfl) (fun _ _ _ h => h) (.inl ⟨by rfl, fun _ _ => rfl⟩) hH ?_
              simp only [List.getElem_toArray, List.getElem_cons_succ, List.getElem_cons_zero, Act.put, List.setIfInBounds_toArray, List.set_cons_zero, List.set_cons_succ]
              refine wpAnyH_take (i := 17) (v := .int .i64 0) rfl (by kernel_rfl) (by kernel_rfl) (by kernel_rfl) (fun _ _ _ h => h) (.inl ⟨by rfl, fun _ _ => rfl⟩) hH ?_
              simp only [List.getElem_toArray, List.getElem_cons_succ, List.getElem_cons_zero, Act.put, List.setIfInBounds_toArray, List.set_cons_zero, List.set_cons_succ]
              refine wpAnyH_done (by kernel_rfl) ?_ _
              go_wp2_with fail
              go_meet
              exact ⟨Bb, g1, g2, g3, g4, g5, g6, g7, g9, rfl, rfl, hXf, hDf, bf⟩
          · simp only [List.getElem_toArray, List.getElem_cons_succ, List.getElem_cons_zero]
            rw [if_pos (by rfl)]
            have bs := below_new v1 (.cells #[.slice none 0 0, .slice none 0 0, .slice none 0 0] 32)
            have hX := cellsAt_new v1 #[.slice none 0 0, .slice none 0 0, .slice none 0 0] 32
            obtain ⟨Bb, HBb⟩ : ∃ B, Hid (v1.heap.size = B) := ⟨_, rfl⟩
            have HBbB : Hid (w8.heap.size ≤ Bb) := by show _ ≤ _; rw [← HBb.out]; exact b.size
            obtain ⟨v2, Hv2⟩ : ∃ v, Hid (v1.alloc (.cells #[.slice none 0 0, .slice none 0 0, .slice none 0 0] 32) = v) := ⟨_, rfl⟩
            rw [Hv2.out] at bs hX
            rw [HBb.out] at hX
            go_wp2_with fail
            rw [Hv2.out, HBb.out]
            replace hLis := hLis.below bs
            replace b := below_then b bs
            refine hK.out _ _ ⟨(hbx.below b).2.1, (hbx.below b).2.2⟩ (fun hH => ?_)
            clear hK
            clear bs
            refine wpAnyH_ready (rs := [8]) (by kernel_rfl) (by simp) ?_
            refine AllReadyH.cons rfl (fun K hK => ?_) AllReadyH.nil
            simp only [List.getElem_toArray, List.getElem_cons_succ, List.getElem_cons_zero]
            rw [if_pos (by rfl)]
            go_wp2_with fail
            refine (concat_rdop _ [(L1, doCells A1), (LF, doCells A2)] v2 (by exact hLis) HcatLe.out).mono ?_
            rintro e v3 ⟨rc, rfl, hO⟩
            have hq : v3.ownsRow v2.heap.size 45 5 rc L12 (doCells (A1 ++ A2)) := by rw [← HcatN2.out, ← HcatC2.out]; exact hO.1
            have hH2 : DOpsV v3 rc (A1 ++ A2) := dops_of (B := v2.heap.size) (by rw [HA12.out]; exact hq) (by rw [HA12.out]; exact HA12le.out)
            have bO := hO.2.1
            clear hO hq
            replace hX := hX.below bO
            replace hLis := hLis.below bO
            replace b := below_then b bO
            refine hK.out _ _ ⟨(hbx.below b).2.1, (hbx.below b).2.2⟩ (fun hH => ?_)
            clear hK
            refine wpAnyH_ready (rs := [9]) (by kernel_rfl) (by simp) ?_
            refine AllReadyH.cons rfl (fun K hK => ?_) AllReadyH.nil
            simp only [List.getElem_toArray, List.getElem_cons_succ, List.getElem_cons_zero]
            rw [if_pos (by rfl)]
            go_wp2_with fail
            refine (desk_play _ _ _ n i roles (A1 ++ A2) v3 (by exact ⟨_, rfl, hT.below (below_then c b)⟩) (by exact hr.below (below_then c b)) (by exact hH2)).mono ?_
            rintro e v4 ⟨rb, lb, lbc, rfl, hDb, _, bs⟩
            rw [HDW.out] at hDb
            rw [HGR.out]
            obtain ⟨L2, HL2e⟩ : ∃ L, Hid ((deskAll n i roles (A1 ++ A2)).2.1.length = L) := ⟨_, rfl⟩
            rw [HL2e.out]
            obtain ⟨g1, g2, g3, g4, g5, g6, g7, g9, rfl, k1, k2, k3⟩ := id hDb
            clear k1 k2 k3
            rw [HDL.out] at hDb ⊢
            replace hX := hX.below bs
            replace b := below_then b bs
            refine hK.out _ _ ⟨(hbx.below b).2.1, (hbx.below b).2.2⟩ (fun hH => ?_)
            clear hK
            clear bs hH2
            refine wpAnyH_take (i := 10) (v := .tuple #[.agg #[.slice g1 g2 g3, .slice g4 g5 g6, .slice g7 DL g9], .slice lb L2 lbc, .int .i64 0]) rfl (by kernel_rfl) (by kernel_rfl) (by kernel_rfl) (fun _ _ _ h => h) (.inl ⟨by rfl, fun _ _ => rfl⟩) hH ?_
            simp only [List.getElem_toArray, List.getElem_cons_succ, List.getElem_cons_zero, Act.put, List.setIfInBounds_toArray, List.set_cons_zero, List.set_cons_succ]
            refine wpAnyH_take (i := 11) (v := .agg #[.slice g1 g2 g3, .slice g4 g5 g6, .slice g7 DL g9]) rfl (by kernel_rfl) (by kernel_rfl) (by kernel_rfl) (fun _ _ _ h => h) (.inl ⟨by rfl, fun w' hS' => by first | (go_simp; done) | (go_simp; rfl) | (go_simp; intro h; omega) | (go_simp; omega)⟩) hH ?_
            simp only [List.getElem_toArray, List.getElem_cons_succ, List.getElem_cons_zero, Act.put, List.setIfInBounds_toArray, List.set_cons_zero, List.set_cons_succ]
            refine wpAnyH_take (i := 12) (v := .slice lb L2 lbc) rfl (by kernel_rfl) (by kernel_rfl) (by kernel_rfl) (fun _ _ _ h => h) (.inl ⟨by rfl, fun w' hS' => by first | (go_simp; done) | (go_simp; rfl) | (go_simp; intro h; omega) | (go_simp; omega)⟩) hH ?_
            simp only [List.getElem_toArray, List.getElem_cons_succ, List.getElem_cons_zero, Act.put, List.setIfInBounds_toArray, List.set_cons_zero, List.set_cons_succ]
            refine wpAnyH_take (i := 13) (v := .int .i64 0) rfl (by kernel_rfl) (by kernel_rfl) (by kernel_rfl) (fun _ _ _ h => h) (.inl ⟨by rfl, fun w' hS' => by first | (go_simp; done) | (go_simp; rfl) | (go_simp; intro h; omega) | (go_simp; omega)⟩) hH ?_
            simp only [List.getElem_toArray, List.getElem_cons_succ, List.getElem_cons_zero, Act.put, List.setIfInBounds_toArray, List.set_cons_zero, List.set_cons_succ]
            have f0 := hX.frozen 0
            have f1 := hX.frozen 1
            have f2 := hX.frozen 2
            have x0' : v4.cell? ⟨Bb, 0, none⟩ = some (.slice none 0 0) := hX.cell 0
            have x1' : v4.cell? ⟨Bb, 1, none⟩ = some (.slice none 0 0) := hX.cell 1
            have x2' : v4.cell? ⟨Bb, 2, none⟩ = some (.slice none 0 0) := hX.cell 2
            have hXf := ((hX.put 0 (.slice g1 g2 g3)).put 1 (.slice g4 g5 g6)).put 2 (.slice g7 DL g9)
            have hDf := ((hDb.putS x0' (.slice g1 g2 g3)).putS (p := ⟨Bb, 1, none⟩) (by rw [World.cell?_setCell_other _ _ _ _ (by simp)]; exact x1') (.slice g4 g5 g6)).putS (p := ⟨Bb, 2, none⟩) (by rw [World.cell?_setCell_other _ _ _ _ (by simp), World.cell?_setCell_other _ _ _ _ (by simp)]; exact x2') (.slice g7 DL g9)
            have bf := ((b.setCell (p := ⟨Bb, 0, none⟩) HBbB.out (.slice g1 g2 g3)).setCell (p := ⟨Bb, 1, none⟩) HBbB.out (.slice g4 g5 g6)).setCell (p := ⟨Bb, 2, none⟩) HBbB.out (.slice g7 DL g9)
            obtain ⟨W9, HW9⟩ : ∃ v, Hid (((v4.setCell ⟨Bb, 0, none⟩ (.slice g1 g2 g3)).setCell ⟨Bb, 1, none⟩ (.slice g4 g5 g6)).setCell ⟨Bb, 2, none⟩ (.slice g7 DL g9) = v) := ⟨_, rfl⟩
            rw [HW9.out] at hXf hDf bf
            have hXf : CellsAt W9 Bb #[.slice g1 g2 g3, .slice g4 g5 g6, .slice g7 DL g9] 32 := hXf
            refine wpAnyH_ready (rs := [15]) (by kernel_rfl) (by simp) ?_
            refine AllReadyH.cons rfl (fun K hK => ?_) AllReadyH.nil
            simp only [List.getElem_toArray, List.getElem_cons_succ, List.getElem_cons_zero]
            rw [if_pos (by rfl)]
            go_wp2_with fail
            rw [HW9.out]
            refine hK.out _ _ ⟨(hbx.below bf).2.1, (hbx.below bf).2.2⟩ (fun hH => ?_)
            clear hK
            refine wpAnyH_take (i := 16) (v := .slice lb L2 lbc) rfl (by kernel_rfl) (by kernel_rfl) (by kernel_rfl) (fun _ _ _ h => h) (.inl ⟨by rfl, fun _ _ => rfl⟩) hH ?_
            simp only [List.getElem_toArray, List.getElem_cons_succ, List.getElem_cons_zero, Act.put, List.setIfInBounds_toArray, List.set_cons_zero, List.set_cons_succ]
            refine wpAnyH_take (i := 17) (v := .int .i64 0) rfl (by kernel_rfl) (by kernel_rfl) (by kernel_rfl) (fun _ _ _ h => h) (.inl ⟨by rfl, fun _ _ => rfl⟩) hH ?_
            simp only [List.getElem_toArray, List.getElem_cons_succ, List.getElem_cons_zero, Act.put, List.setIfInBounds_toArray, List.set_cons_zero, List.set_cons_succ]
            refine wpAnyH_done (by kernel_rfl) ?_ _
            go_wp2_with fail
            go_meet
            exact ⟨Bb, g1, g2, g3, g4, g5, g6, g7, g9, rfl, rfl, hXf, hDf, bf⟩
        · simp only [List.getElem_toArray, List.getElem_cons_succ, List.getElem_cons_zero]
          rw [if_pos (by rfl)]
          have bs := below_new v0 (.cells #[.slice none 0 0, .slice none 0 0, .slice none 0 0] 32)
          have hX := cellsAt_new v0 #[.slice none 0 0, .slice none 0 0, .slice none 0 0] 32
          obtain ⟨Bb, HBb⟩ : ∃ B, Hid (v0.heap.size = B) := ⟨_, rfl⟩
          have HBbB : Hid (w8.heap.size ≤ Bb) := by show _ ≤ _; rw [← HBb.out]; exact b.size
          obtain ⟨v1, Hv1⟩ : ∃ v, Hid (v0.alloc (.cells #[.slice none 0 0, .slice none 0 0, .slice none 0 0] 32) = v) := ⟨_, rfl⟩
          rw [Hv1.out] at bs hX
          rw [HBb.out] at hX
          go_wp2_with fail
          rw [Hv1.out, HBb.out]
          replace b := below_then b bs
          refine hK.out _ _ ⟨(hbx.below b).2.1, (hbx.below b).2.2⟩ (fun hH => ?_)
          clear hK
          clear bs
          have bs := below_new v1 (.cells #[.slice r1a L1 r1c, .slice r2a LF r2c] 52)
          have hL := cellsAt_new v1 #[.slice r1a L1 r1c, .slice r2a LF r2c] 52
          obtain ⟨Bl, HBl⟩ : ∃ B, Hid (v1.heap.size = B) := ⟨_, rfl⟩
          obtain ⟨v2, Hv2⟩ : ∃ v, Hid (v1.alloc (.cells #[.slice r1a L1 r1c, .slice r2a LF r2c] 52) = v) := ⟨_, rfl⟩
          rw [Hv2.out] at bs hL
          rw [HBl.out] at hL
          have hLis : LisC v2 (.slice (some ⟨Bl, 0, none⟩) 2 2) 5 3518437208883 [(L1, doCells A1), (LF, doCells A2)] := by
            refine ⟨_, _, _, rfl, rfl, by omega, ⟨Nat.le_refl _, by omega, fun h => by cases h⟩, fun j hj => ?_⟩
            match j, hj with
            | 0, _ => exact ⟨_, 0, _, rfl, hL.lt, hL.cell 0, hR1.below (below_then b bs)⟩
            | 1, _ => exact ⟨_, 0, _, rfl, hL.lt, hL.cell 1, hR2.below (below_then b bs)⟩
            | j + 2, h => exact absurd (show j + 2 < 2 from h) (by omega)
          refine wpAnyH_ready (rs := [7]) (by kernel_rfl) (by simp) ?_
          refine AllReadyH.cons rfl (fun K hK => ?_) AllReadyH.nil
          simp only [List.getElem_toArray, List.getElem_cons_succ, List.getElem_cons_zero]
          rw [if_pos (by rfl)]
          go_wp2_with fail
          rw [Hv2.out, HBl.out]
          replace hX := hX.below bs
          replace b := below_then b bs
          refine hK.out _ _ ⟨(hbx.below b).2.1, (hbx.below b).2.2⟩ (fun hH => ?_)
          clear hK
          clear bs hL
          refine wpAnyH_ready (rs := [8]) (by kernel_rfl) (by simp) ?_
          refine AllReadyH.cons rfl (fun K hK => ?_) AllReadyH.nil
          simp only [List.getElem_toArray, List.getElem_cons_succ, List.getElem_cons_zero]
          rw [if_pos (by rfl)]
          go_wp2_with fail
          refine (concat_rdop _ [(L1, doCells A1), (LF, doCells A2)] v2 (by exact hLis) HcatLe.out).mono ?_
          rintro e v3 ⟨rc, rfl, hO⟩
          have hq : v3.ownsRow v2.heap.size 45 5 rc L12 (doCells (A1 ++ A2)) := by rw [← HcatN2.out, ← HcatC2.out]; exact hO.1
          have hH2 : DOpsV v3 rc (A1 ++ A2) := dops_of (B := v2.heap.size) (by rw [HA12.out]; exact hq) (by rw [HA12.out]; exact HA12le.out)
          have bO := hO.2.1
          clear hO hq
          replace hX := hX.below bO
          replace hLis := hLis.below bO
          replace b := below_then b bO
          refine hK.out _ _ ⟨(hbx.below b).2.1, (hbx.below b).2.2⟩ (fun hH => ?_)
          clear hK
          refine wpAnyH_ready (rs := [9]) (by kernel_rfl) (by simp) ?_
          refine AllReadyH.cons rfl (fun K hK => ?_) AllReadyH.nil
          simp only [List.getElem_toArray, List.getElem_cons_succ, List.getElem_cons_zero]
          rw [if_pos (by rfl)]
          go_wp2_with fail
          refine (desk_play _ _ _ n i roles (A1 ++ A2) v3 (by exact ⟨_, rfl, hT.below (below_then c b)⟩) (by exact hr.below (below_then c b)) (by exact hH2)).mono ?_
          rintro e v4 ⟨rb, lb, lbc, rfl, hDb, _, bs⟩
          rw [HDW.out] at hDb
          rw [HGR.out]
          obtain ⟨L2, HL2e⟩ : ∃ L, Hid ((deskAll n i roles (A1 ++ A2)).2.1.length = L) := ⟨_, rfl⟩
          rw [HL2e.out]
          obtain ⟨g1, g2, g3, g4, g5, g6, g7, g9, rfl, k1, k2, k3⟩ := id hDb
          clear k1 k2 k3
          rw [HDL.out] at hDb ⊢
          replace hX := hX.below bs
          replace b := below_then b bs
          refine hK.out _ _ ⟨(hbx.below b).2.1, (hbx.below b).2.2⟩ (fun hH => ?_)
          clear hK
          clear bs hH2
          refine wpAnyH_take (i := 10) (v := .tuple #[.agg #[.slice g1 g2 g3, .slice g4 g5 g6, .slice g7 DL g9], .slice lb L2 lbc, .int .i64 0]) rfl (by kernel_rfl) (by kernel_rfl) (by kernel_rfl) (fun _ _ _ h => h) (.inl ⟨by rfl, fun _ _ => rfl⟩) hH ?_
          simp only [List.getElem_toArray, List.getElem_cons_succ, List.getElem_cons_zero, Act.put, List.setIfInBounds_toArray, List.set_cons_zero, List.set_cons_succ]
          refine wpAnyH_take (i := 11) (v := .agg #[.slice g1 g2 g3, .slice g4 g5 g6, .slice g7 DL g9]) rfl (by kernel_rfl) (by kernel_rfl) (by kernel_rfl) (fun _ _ _ h => h) (.inl ⟨by rfl, fun w' hS' => by first | (go_simp; done) | (go_simp; rfl) | (go_simp; intro h; omega) | (go_simp; omega)⟩) hH ?_
          simp only [List.getElem_toArray, List.getElem_cons_succ, List.getElem_cons_zero, Act.put, List.setIfInBounds_toArray, List.set_cons_zero, List.set_cons_succ]
          refine wpAnyH_take (i := 12) (v := .slice lb L2 lbc) rfl (by kernel_rfl) (by kernel_rfl) (by kernel_rfl) (fun _ _ _ h => h) (.inl ⟨by rfl, fun w' hS' => by first | (go_simp; done) | (go_simp; rfl) | (go_simp; intro h; omega) | (go_simp; omega)⟩) hH ?_
          simp only [List.getElem_toArray, List.getElem_cons_succ, List.getElem_cons_zero, Act.put, List.setIfInBounds_toArray, List.set_cons_zero, List.set_cons_succ]
          refine wpAnyH_take (i := 13) (v := .int .i64 0) rfl (by kernel_rfl) (by kernel_rfl) (by kernel_rfl) (fun _ _ _ h => h) (.inl ⟨by rfl, fun w' hS' => by first | (go_simp; done) | (go_simp; rfl) | (go_simp; intro h; omega) | (go_simp; omega)⟩) hH ?_
          simp only [List.getElem_toArray, List.getElem_cons_succ, List.getElem_cons_zero, Act.put, List.setIfInBounds_toArray, List.set_cons_zero, List.set_cons_succ]
          have f0 := hX.frozen 0
          have f1 := hX.frozen 1
          have f2 := hX.frozen 2
          have x0' : v4.cell? ⟨Bb, 0, none⟩ = some (.slice none 0 0) := hX.cell 0
          have x1' : v4.cell? ⟨Bb, 1, none⟩ = some (.slice none 0 0) := hX.cell 1
          have x2' : v4.cell? ⟨Bb, 2, none⟩ = some (.slice none 0 0) := hX.cell 2
          have hXf := ((hX.put 0 (.slice g1 g2 g3)).put 1 (.slice g4 g5 g6)).put 2 (.slice g7 DL g9)
          have hDf := ((hDb.putS x0' (.slice g1 g2 g3)).putS (p := ⟨Bb, 1, none⟩) (by rw [World.cell?_setCell_other _ _ _ _ (by simp)]; exact x1') (.slice g4 g5 g6)).putS (p := ⟨Bb, 2, none⟩) (by rw [World.cell?_setCell_other _ _ _ _ (by simp), World.cell?_setCell_other _ _ _ _ (by simp)]; exact x2') (.slice g7 DL g9)
          have bf := ((b.setCell (p := ⟨Bb, 0, none⟩) HBbB.out (.slice g1 g2 g3)).setCell (p := ⟨Bb, 1, none⟩) HBbB.out (.slice g4 g5 g6)).setCell (p := ⟨Bb, 2, none⟩) HBbB.out (.slice g7 DL g9)
          obtain ⟨W9, HW9⟩ : ∃ v, Hid (((v4.setCell ⟨Bb, 0, none⟩ (.slice g1 g2 g3)).setCell ⟨Bb, 1, none⟩ (.slice g4 g5 g6)).setCell ⟨Bb, 2, none⟩ (.slice g7 DL g9) = v) := ⟨_, rfl⟩
          rw [HW9.out] at hXf hDf bf
          have hXf : CellsAt W9 Bb #[.slice g1 g2 g3, .slice g4 g5 g6, .slice g7 DL g9] 32 := hXf
          refine wpAnyH_ready (rs := [15]) (by kernel_rfl) (by simp) ?_
          refine AllReadyH.cons rfl (fun K hK => ?_) AllReadyH.nil
          simp only [List.getElem_toArray, List.getElem_cons_succ, List.getElem_cons_zero]
          rw [if_pos (by rfl)]
          go_wp2_with fail
          rw [HW9.out]
          refine hK.out _ _ ⟨(hbx.below bf).2.1, (hbx.below bf).2.2⟩ (fun hH => ?_)
          clear hK
          refine wpAnyH_take (i := 16) (v := .slice lb L2 lbc) rfl (by kernel_rfl) (by kernel_rfl) (by kernel_rfl) (fun _ _ _ h => h) (.inl ⟨by rfl, fun _ _ => rfl⟩) hH ?_
          simp only [List.getElem_toArray, List.getElem_cons_succ, List.getElem_cons_zero, Act.put, List.setIfInBounds_toArray, List.set_cons_zero, List.set_cons_succ]
          refine wpAnyH_take (i := 17) (v := .int .i64 0) rfl (by kernel_rfl) (by kernel_rfl) (by kernel_rfl) (fun _ _ _ h => h) (.inl ⟨by rfl, fun _ _ => rfl⟩) hH ?_
          simp only [List.getElem_toArray, List.getElem_cons_succ, List.getElem_cons_zero, Act.put, List.setIfInBounds_toArray, List.set_cons_zero, List.set_cons_succ]
          refine wpAnyH_done (by kernel_rfl) ?_ _
          go_wp2_with fail
          go_meet
          exact ⟨Bb, g1, g2, g3, g4, g5, g6, g7, g9, rfl, rfl, hXf, hDf, bf⟩
      case rest =>
      obtain ⟨Bb, g1, g2, g3, g4, g5, g6, g7, g9, rfl, rfl, hXg, hDg, b⟩ := hcut
      obtain ⟨w9, rfl⟩ : ∃ w9, w9 = wc := ⟨_, rfl⟩
      replace c := below_then c b
      replace hXb := hXb.below b
      replace hDb := hDb.below b
      have y0 : w9.cell? ⟨Bb, 0, none⟩ = some (.slice g1 g2 g3) := hXg.cell 0
      have y1 : w9.cell? ⟨Bb, 1, none⟩ = some (.slice g4 g5 g6) := hXg.cell 1
      have y2 : w9.cell? ⟨Bb, 2, none⟩ = some (.slice g7 DL g9) := hXg.cell 2
      have z0 : w9.cell? ⟨Ba, 0, none⟩ = some (.slice b1 b2 b3) := hXb.cell 0
      have z1 : w9.cell? ⟨Ba, 1, none⟩ = some (.slice b4 b5 b6) := hXb.cell 1
      have z2 : w9.cell? ⟨Ba, 2, none⟩ = some (.slice b7 DL b9) := hXb.cell 2
      go_wp2_with fail
      refine (samedesk_same _ _ DA w9 (by exact hDb) (by exact hDg)).mono ?_
      rintro e w10 ⟨rfl, b10⟩
      replace c := below_then c b10
      clear y0 y1 y2 z0 z1 z2
      go_wp2
      go_ret
      exact ⟨rfl, c⟩
    · have hEF : FR = ER := by rw [← HER.out, ← HFR.out, kept_none n i roles _ h0, kept_none n i roles _ h0]
      have hE : ¬ ER = 0 := by rw [← HER.out, kept_none n i roles _ h0]; exact h0
      subst hEF
      have e3 : (FR == 0) = false := by simpa using hE
      have e4 : (FR != 0) = true := by simpa using hE
      have e5 : (FR == FR) = true := by simp
      clear hE h0
      go_wp2
      go_ret
      exact ⟨rfl, c⟩

end Go.Proofs.Ytaladbcocealnaa
