/- One crash more loses nothing more. (Made by tools/gen_halltwice.py.) -/
import Derived.Test.YtaladbcocealnaaGr22
namespace Go.Proofs.Ytaladbcocealnaa
open Go.RowKit
set_option linter.unusedVariables false
set_option linter.unusedSimpArgs false
set_option maxRecDepth 4000

theorem On.skip {D : Nat → Prop} {w : World} {R : World → Prop} (h : On D w R) (o : Obj) : On (fun k => D k ∧ k ≠ w.heap.size) (w.alloc o) R := fun w' hs hk =>
  h w' (Nat.le_trans (below_new w o).size hs) fun k hk1 hD => (hk k (Nat.lt_of_lt_of_le hk1 (below_new w o).size) ⟨hD, by omega⟩).trans ((below_new w o).block k hk1)
theorem box2_kept {w w' : World} {b : Nat} {x y : Value} {row : Option Nat} (h : Box2 w b x y) (hg : w.grownBy w' row) (hn : ¬ some b = row) : Box2 w' b x y :=
  ⟨Nat.lt_of_lt_of_le h.1 hg.size, (World.cell?_of_block (a := ⟨b, 0, none⟩) (hg.block b h.1 hn)).trans h.2.1, (World.cell?_of_block (a := ⟨b, 1, none⟩) (hg.block b h.1 hn)).trans h.2.2⟩
theorem box2_aside3 {w : World} {b B : Nat} {x y : Value} (h : Box2 w b x y) (hn : b ≠ B) (p q r : Value) : Box2 (((w.setCell ⟨B, 0, none⟩ p).setCell ⟨B, 1, none⟩ q).setCell ⟨B, 2, none⟩ r) b x y := by
  have e : (((w.setCell ⟨B, 0, none⟩ p).setCell ⟨B, 1, none⟩ q).setCell ⟨B, 2, none⟩ r).heap[b]? = w.heap[b]? := by
    rw [Below.heap_setCell _ ⟨B, 2, none⟩ _ b hn, Below.heap_setCell _ ⟨B, 1, none⟩ _ b hn, Below.heap_setCell _ ⟨B, 0, none⟩ _ b hn]
  exact ⟨by have := h.1; simpa [World.setCell] using this, (World.cell?_of_block (a := ⟨b, 0, none⟩) e).trans h.2.1, (World.cell?_of_block (a := ⟨b, 1, none⟩) e).trans h.2.2⟩

/-- What two crashes come to, and one. -/
theorem twice_same (n : NetL) (i : Int) (roles : List (List Int)) (os : List HOp) (k m : Int) :
    (hallAll n i roles ((os ++ [⟨3, k, noDOp⟩]) ++ [⟨3, m, noDOp⟩])).1 = (hallAll n i roles (os ++ [⟨3, k, noDOp⟩])).1 ∧
      (hallAll n i roles ((os ++ [⟨3, k, noDOp⟩]) ++ [⟨3, m, noDOp⟩])).2.2 = (hallAll n i roles (os ++ [⟨3, k, noDOp⟩])).2.2 := by
  unfold hallAll
  by_cases h : (beginC n i).2 = 0
  · rw [if_pos h, if_pos h]
    refine ⟨?_, rfl⟩
    simp only
    rw [hall_append, hall_append]
    exact hall_twice n roles (deskBegin n i) ((inv_begin n roles (deskBegin n i)).play os) ⟨3, k, noDOp⟩ ⟨3, m, noDOp⟩ rfl rfl
  · rw [if_neg h, if_neg h]
    exact ⟨rfl, rfl⟩

set_option maxHeartbeats 8000000 in
theorem hallTwice_walk (v r u : Value) (n : NetL) (i : Int) (roles : List (List Int)) (ops : List HOp) (keep more : Int) (w : World) (hv : Net w v n) (hr : Lists w r roles) (hu : HOpsV w u ops) (hsz : ops.length + 2 ≤ 2513169434916) :
    Calls Try.prog 5 #[v, .int .i64 i, r, u, .int .i64 keep, .int .i64 more] w fun e w' => e = .returned (.bool true) ∧ Below w.heap.size w w' := by
  obtain ⟨tv, rfl, hT⟩ := hv
  have c := below_new w (.cells #[.int .i64 n.places, tv] 24)
  have hbx := box2_new w (.int .i64 n.places) tv 24
  obtain ⟨w0, Hw0⟩ : ∃ w0, Hid (w.alloc (.cells #[.int .i64 n.places, tv] 24) = w0) := ⟨_, rfl⟩
  rw [Hw0.out] at c hbx
  obtain ⟨N, HN⟩ : ∃ N, Hid (ops.length = N) := ⟨_, rfl⟩
  have HNz : Hid (N + 2 ≤ 2513169434916) := by show _ ≤ _; rw [← HN.out]; exact hsz
  have HL1 : Hid (N + 1 + 1 ≤ maxLen) := by have := HNz.out; show _ ≤ _; unfold maxLen; omega
  have HL2 : Hid ((N + 1 + 1) * 56 ≤ 140737488355328) := by have := HNz.out; show _ ≤ _; omega
  have HL3 : Hid (N + 1 + 1 ≤ 2513169434916) := HNz.out
  have HL0 : Hid (N + 1 ≤ maxLen) := by have := HNz.out; show _ ≤ _; unfold maxLen; omega
  have HL4 : Hid ((N + 1) * 56 ≤ 140737488355328) := by have := HNz.out; show _ ≤ _; omega
  have hu0 : CellsV w u 7 2513169434916 N (hopCells ops) := by rw [← HN.out]; exact hu
  clear hsz hu
  go_enter Try.func5, Try.ntmps5
  go_upto_region 1 with fail
  rw [Hw0.out]
  go_wp2_with fail
  refine (alive19_any w0).mono ?_
  rintro e w1 ⟨rfl, b⟩
  have Hw1 : Hid (w.heap.size + 1 ≤ w1.heap.size) := by
    have e : w0.heap.size = w.heap.size + 1 := by rw [← Hw0.out]; simp
    have := b.size
    show _ ≤ _
    omega
  clear Hw0
  replace c := below_then c b
  replace hbx := hbx.below b
  clear b
  have hu1 := hu0.below c
  go_wp2_with fail
  refine (clone_hops _ N (hopCells ops) w1 (by exact hu1)).mono ?_
  rintro e w2 ⟨r1, rfl, hO⟩
  have Hc1 : Hid (Below w.heap.size w w1) := c
  clear hu1 c
  obtain ⟨os1, Hos1⟩ : ∃ l, Hid (ops ++ [(⟨3, keep, noDOp⟩ : HOp)] = l) := ⟨_, rfl⟩
  have HN1 : Hid (os1.length = N + 1) := by show _ = _; rw [← Hos1.out, List.length_append, HN.out]; rfl
  have hbx1 := hbx
  go_upto_region 4 with (at_builtin; refine wp_append_cell1 elem_hops rfl _ _ rfl w1.heap.size w1 w2 r1 N (hopCells ops) (hopA ⟨3, keep, noDOp⟩) hO rfl (fun u hu => hopCells_one [⟨3, keep, noDOp⟩] u (by simpa [hopCells] using hu)) rfl rfl HL0.out HL4.out ?_; intro ov w3 hO3 _)
  have c := below_then Hc1.out (hO3.2.1)
  replace hbx := hbx1.below hO3.2.1
  rw [show hopCells ops ++ (hopA ⟨3, keep, noDOp⟩).toList = hopCells os1 by rw [← Hos1.out, hopCells_append]; simp [hopCells]] at hO3
  obtain ⟨oa, oc, rfl⟩ := hO3.slice
  obtain ⟨B1, HB1e⟩ : ∃ B, Hid (w3.heap.size = B) := ⟨_, rfl⟩
  have HB1 : Hid (w.heap.size + 1 ≤ B1) := by have := Hw1.out; have := hO3.2.1.size; show _ ≤ _; rw [← HB1e.out]; omega
  have HOB : Hid (∀ k, (Value.slice oa (N + 1) oc).ownBlock = some k → k < B1) := fun k e => by rw [← HB1e.out]; exact (hO3.1.lt k e).2
  have hH1 := hO3.hops HN1.out (by have := HL3.out; omega)
  clear hO hbx1
  obtain ⟨x0, x1, x2⟩ := id hbx
  have HP2 : Hid ((hallAll n i roles (os1 ++ [⟨3, more, noDOp⟩])).1 = (hallAll n i roles os1).1 ∧ (hallAll n i roles (os1 ++ [⟨3, more, noDOp⟩])).2.2 = (hallAll n i roles os1).2.2) := by
    rw [← Hos1.out]; exact twice_same n i roles ops keep more
  go_wp2_with fail
  refine (hall_own _ _ _ n i roles os1 w3 (by exact ⟨_, rfl, hT.below c⟩) (by exact hr.below c) (by exact hH1)).mono ?_
  rintro e wp ⟨ra, la, lac, rfl, hDa, _, bp, hFa, _⟩
  obtain ⟨DA, HDA⟩ : ∃ D, Hid ((hallAll n i roles os1).1 = D) := ⟨_, rfl⟩
  obtain ⟨ER, HER⟩ : ∃ D, Hid ((hallAll n i roles os1).2.2 = D) := ⟨_, rfl⟩
  obtain ⟨LA, HLA⟩ : ∃ D, Hid ((hallAll n i roles os1).2.1.length = D) := ⟨_, rfl⟩
  rw [HDA.out] at hDa HP2
  rw [HER.out] at HP2 ⊢
  rw [HLA.out]
  have KA := desk_on hDa hFa
  obtain ⟨DL, HDL⟩ : ∃ D, Hid (DA.items.length = D) := ⟨_, rfl⟩
  obtain ⟨d1, d2, d3, d4, d5, d6, d7, d9, rfl, h1, h2, h3⟩ := id hDa
  rw [HDL.out] at h3 KA hDa ⊢
  clear h1 h2 h3 hDa
  have hO := hO3.trans bp
  replace c := below_then c bp
  replace hbx := hbx.below bp
  have bn := below_new wp (.cells #[.slice d1 d2 d3, .slice d4 d5 d6, .slice d7 DL d9] 32)
  have hXa := cellsAt_new wp #[.slice d1 d2 d3, .slice d4 d5 d6, .slice d7 DL d9] 32
  obtain ⟨Ba, HBa⟩ : ∃ B, Hid (wp.heap.size = B) := ⟨_, rfl⟩
  obtain ⟨w4, Hw4⟩ : ∃ v, Hid (wp.alloc (.cells #[.slice d1 d2 d3, .slice d4 d5 d6, .slice d7 DL d9] 32) = v) := ⟨_, rfl⟩
  rw [Hw4.out] at bn hXa
  rw [HBa.out] at hXa
  go_upto_region 5 with fail
  rw [Hw4.out, HBa.out]
  have hB1a : B1 ≤ Ba := by rw [← HBa.out, ← HB1e.out]; exact bp.size
  replace KA : On (fun k => B1 ≤ k) wp (fun w' => DeskV w' (.agg #[.slice d1 d2 d3, .slice d4 d5 d6, .slice d7 DL d9]) DA) := by rw [← HB1e.out]; exact KA
  replace KA : On (fun k => B1 ≤ k ∧ k ≤ Ba) w4 (fun w' => DeskV w' (.agg #[.slice d1 d2 d3, .slice d4 d5 d6, .slice d7 DL d9]) DA ∧ CellsAt w' Ba #[.slice d1 d2 d3, .slice d4 d5 d6, .slice d7 DL d9] 32 ∧ B1 ≤ w'.heap.size) := fun w' hs hk =>
    ⟨KA w' (Nat.le_trans bn.size hs) (fun k hk1 hD => (hk k (Nat.lt_of_lt_of_le hk1 bn.size) ⟨hD, by rw [HBa.out] at hk1; omega⟩).trans (bn.block k hk1)), (hk Ba hXa.lt ⟨hB1a, Nat.le_refl _⟩).trans hXa, by have := hXa.lt; omega⟩
  replace c := below_then c bn
  replace hbx := hbx.below bn
  replace hO := hO.trans bn
  clear x0 x1 x2 bn bp hO3 hH1 Hw4 hXa hu0 hFa
  go_cut [17, 19] (fun x17 x19 wc => ∃ (Bb : Nat) (b1 : Option Addr) (b2 b3 : Nat) (b4 : Option Addr) (b5 b6 : Nat) (b7 : Option Addr) (b9 : Nat), x17 = .pointer (some ⟨Bb, 0, none⟩) ∧ x19 = .int .i64 ER ∧ CellsAt wc Bb #[.slice b1 b2 b3, .slice b4 b5 b6, .slice b7 DL b9] 32 ∧ DeskV wc (.agg #[.slice b1 b2 b3, .slice b4 b5 b6, .slice b7 DL b9]) DA ∧ (DeskV wc (.agg #[.slice d1 d2 d3, .slice d4 d5 d6, .slice d7 DL d9]) DA ∧ CellsAt wc Ba #[.slice d1 d2 d3, .slice d4 d5 d6, .slice d7 DL d9] 32 ∧ B1 ≤ wc.heap.size) ∧ Below w.heap.size w wc)
  case first =>
    refine wp_region_held_drew (S := (fun w' => w'.cell? ⟨w.heap.size, 0, none⟩ = some (.int .i64 n.places) ∧ w'.cell? ⟨w.heap.size, 1, none⟩ = some (tv))) (by kernel_rfl) ⟨(hbx.below (Below.refl _ _).drew).2.1, (hbx.below (Below.refl _ _).drew).2.2⟩ (fun hH => ?_)
    have b : Below w4.heap.size w4 w4.drew := (Below.refl _ _).drew
    obtain ⟨v0, Hv0⟩ : ∃ v0, Hid (w4.drew = v0) := ⟨_, rfl⟩
    rw [Hv0.out] at hH b ⊢
    clear Hv0
    replace hbx := hbx.below b
    replace c := below_then c b
    replace hO := hO.trans b
    replace KA := KA.below b
    clear b
    refine wpAnyH_take (i := 0) (v := .agg #[.int .i64 n.places, tv]) rfl (by kernel_rfl) (by kernel_rfl) (by kernel_rfl) (fun _ _ _ h => h) (.inl ⟨by rfl, fun w' hS' => by obtain ⟨s0, s1⟩ := hS'; go_simp⟩) hH ?_
    simp only [List.getElem_toArray, List.getElem_cons_succ, List.getElem_cons_zero, Act.put, List.setIfInBounds_toArray, List.set_cons_zero, List.set_cons_succ]
    refine wpAnyH_take (i := 1) (v := .int .i64 i) rfl (by kernel_rfl) (by kernel_rfl) (by kernel_rfl) (fun _ _ _ h => h) (.inl ⟨by rfl, fun _ _ => rfl⟩) hH ?_
    simp only [List.getElem_toArray, List.getElem_cons_succ, List.getElem_cons_zero, Act.put, List.setIfInBounds_toArray, List.set_cons_zero, List.set_cons_succ]
    refine wpAnyH_take (i := 2) (v := r) rfl (by kernel_rfl) (by kernel_rfl) (by kernel_rfl) (fun _ _ _ h => h) (.inl ⟨by rfl, fun _ _ => rfl⟩) hH ?_
    simp only [List.getElem_toArray, List.getElem_cons_succ, List.getElem_cons_zero, Act.put, List.setIfInBounds_toArray, List.set_cons_zero, List.set_cons_succ]
    refine wpAnyH_take (i := 3) (v := .slice oa (N + 1) oc) rfl (by kernel_rfl) (by kernel_rfl) (by kernel_rfl) (fun _ _ _ h => h) (.inl ⟨by rfl, fun _ _ => rfl⟩) hH ?_
    simp only [List.getElem_toArray, List.getElem_cons_succ, List.getElem_cons_zero, Act.put, List.setIfInBounds_toArray, List.set_cons_zero, List.set_cons_succ]
    refine wpAnyH_take (i := 4) (v := .int .i64 more) rfl (by kernel_rfl) (by kernel_rfl) (by kernel_rfl) (fun _ _ _ h => h) (.inl ⟨by rfl, fun _ _ => rfl⟩) hH ?_
    simp only [List.getElem_toArray, List.getElem_cons_succ, List.getElem_cons_zero, Act.put, List.setIfInBounds_toArray, List.set_cons_zero, List.set_cons_succ]
    refine wpAnyH_take (i := 5) (v := .agg #[.int .i64 3, .int .i64 more, .int .i64 0, .int .i64 0, .int .i64 0, .int .i64 0, .int .i64 0]) rfl (by kernel_rfl) (by kernel_rfl) (by kernel_rfl) (fun _ _ _ h => h) (.inl ⟨by rfl, fun w' hS' => by first | (go_simp; done) | (go_simp; rfl) | (go_simp; intro h; omega) | (go_simp; omega)⟩) hH ?_
    simp only [List.getElem_toArray, List.getElem_cons_succ, List.getElem_cons_zero, Act.put, List.setIfInBounds_toArray, List.set_cons_zero, List.set_cons_succ]
    refine wpAnyH_ready (rs := [6, 13]) (by kernel_rfl) (by simp) ?_
    refine (AllReadyH.cons rfl (fun K hK => ?_) (AllReadyH.cons rfl (fun K hK => ?_) AllReadyH.nil))
    · simp only [List.getElem_toArray, List.getElem_cons_succ, List.getElem_cons_zero]
      rw [if_pos (by rfl)]
      have bs := below_new v0 (.cells #[.int .i64 3, .int .i64 more, .int .i64 0, .int .i64 0, .int .i64 0, .int .i64 0, .int .i64 0] 47)
      have hL := cellsAt_new v0 #[.int .i64 3, .int .i64 more, .int .i64 0, .int .i64 0, .int .i64 0, .int .i64 0, .int .i64 0] 47
      obtain ⟨Bl, HBl⟩ : ∃ B, Hid (v0.heap.size = B) := ⟨_, rfl⟩
      obtain ⟨v1, Hv1⟩ : ∃ v, Hid (v0.alloc (.cells #[.int .i64 3, .int .i64 more, .int .i64 0, .int .i64 0, .int .i64 0, .int .i64 0, .int .i64 0] 47) = v) := ⟨_, rfl⟩
      rw [Hv1.out] at bs hL
      rw [HBl.out] at hL
      go_wp2_with fail
      rw [Hv1.out, HBl.out]
      replace hbx := hbx.below bs
      replace c := below_then c bs
      replace KA := KA.below bs
      replace hO := hO.trans bs
      refine hK.out _ _ ⟨hbx.2.1, hbx.2.2⟩ (fun hH => ?_)
      clear hK
      clear bs
      refine wpAnyH_ready (rs := [7, 13]) (by kernel_rfl) (by simp) ?_
      refine (AllReadyH.cons rfl (fun K hK => ?_) (AllReadyH.cons rfl (fun K hK => ?_) AllReadyH.nil))
      · simp only [List.getElem_toArray, List.getElem_cons_succ, List.getElem_cons_zero]
        refine wpr_append_cells elem_hops (by rfl) _ _ rfl w1.heap.size w1 v1 (.slice oa (N + 1) oc) (N + 1) 1 1 ⟨Bl, 0, none⟩ (hopCells os1) (hopA ⟨3, more, noDOp⟩).toList hO rfl rfl rfl (fun j u hj => by rw [addr_add, Nat.zero_add, hL.cell]; simpa [hopA, noDOp] using hj) (fun u hu => hopCells_one [⟨3, more, noDOp⟩] u (by simpa [hopCells] using hu)) HL1.out HL2.out ?_
        intro nv v2 hO2 hg
        obtain ⟨na, nl, nc, rfl⟩ := ownsRow_slice hO2.1
        rw [show hopCells os1 ++ (hopA ⟨3, more, noDOp⟩).toList = hopCells (os1 ++ [⟨3, more, noDOp⟩]) by rw [hopCells_append]; simp [hopCells]] at hO2
        have hH2 := OwnC.hops hO2 (by rw [List.length_append, HN1.out]; rfl) HL3.out
        have hg1 : ∀ k, some k = (Value.slice oa (N + 1) oc).ownBlock → w1.heap.size ≤ k ∧ k < B1 := fun k e => ⟨(hO.1.lt k e.symm).1, HOB.out k e.symm⟩
        replace KA := KA.grown hg (fun k _ hD e => by have := (hg1 k e).2; have hD : B1 ≤ k ∧ k ≤ Ba := hD; omega)
        replace c : Below w.heap.size w v2 := c.grown hg (Nat.le_trans c.size (Nat.le_refl _)) (fun k e => by have := (hg1 k e.symm).1; have := Hw1.out; omega)
        have hbx2 := hbx
        replace hbx : Box2 v2 w.heap.size (.int .i64 n.places) tv := box2_kept hbx hg (fun e => by have := (hg1 _ e).1; have := Hw1.out; omega)
        refine hK.out _ _ ⟨hbx.2.1, hbx.2.2⟩ (fun hH => ?_)
        clear hK
        clear hO hL hg1 hbx2 hg hO2
        refine wpAnyH_ready (rs := [8, 13]) (by kernel_rfl) (by simp) ?_
        refine (AllReadyH.cons rfl (fun K hK => ?_) (AllReadyH.cons rfl (fun K hK => ?_) AllReadyH.nil))
        · simp only [List.getElem_toArray, List.getElem_cons_succ, List.getElem_cons_zero]
          rw [if_pos (by rfl)]
          go_wp2_with fail
          refine (hall_own _ _ _ n i roles (os1 ++ [⟨3, more, noDOp⟩]) v2 (by exact ⟨_, rfl, hT.below c⟩) (by exact hr.below c) (by exact hH2)).mono ?_
          rintro e v3 ⟨rb, lb, lbc, rfl, hDb, _, bs, hFb, _⟩
          rw [HP2.out.1] at hDb
          rw [HP2.out.2]
          obtain ⟨L2, HL2e⟩ : ∃ L, Hid ((hallAll n i roles (os1 ++ [(⟨3, more, noDOp⟩ : HOp)])).2.1.length = L) := ⟨_, rfl⟩
          rw [HL2e.out]
          have KB := (desk_on hDb hFb).weaken (D' := fun k => v2.heap.size ≤ k) (fun k _ hk => hk)
          obtain ⟨b1, b2, b3, b4, b5, b6, b7, b9, rfl, k1, k2, k3⟩ := hDb
          clear k1 k2 k3
          rw [HDL.out] at KB ⊢
          have hszc := c.size
          replace hbx := hbx.below bs
          replace c := below_then c bs
          replace KA := KA.below bs
          refine hK.out _ _ ⟨hbx.2.1, hbx.2.2⟩ (fun hH => ?_)
          clear hK
          clear bs hH2
          refine wpAnyH_take (i := 9) (v := .tuple #[.agg #[.slice b1 b2 b3, .slice b4 b5 b6, .slice b7 DL b9], .slice lb L2 lbc, .int .i64 ER]) rfl (by kernel_rfl) (by kernel_rfl) (by kernel_rfl) (fun _ _ _ h => h) (.inl ⟨by rfl, fun _ _ => rfl⟩) hH ?_
          simp only [List.getElem_toArray, List.getElem_cons_succ, List.getElem_cons_zero, Act.put, List.setIfInBounds_toArray, List.set_cons_zero, List.set_cons_succ]
          refine wpAnyH_take (i := 10) (v := .agg #[.slice b1 b2 b3, .slice b4 b5 b6, .slice b7 DL b9]) rfl (by kernel_rfl) (by kernel_rfl) (by kernel_rfl) (fun _ _ _ h => h) (.inl ⟨by rfl, fun w' hS' => by first | (go_simp; done) | (go_simp; rfl) | (go_simp; intro h; omega) | (go_simp; omega)⟩) hH ?_
          simp only [List.getElem_toArray, List.getElem_cons_succ, List.getElem_cons_zero, Act.put, List.setIfInBounds_toArray, List.set_cons_zero, List.set_cons_succ]
          refine wpAnyH_take (i := 11) (v := .slice lb L2 lbc) rfl (by kernel_rfl) (by kernel_rfl) (by kernel_rfl) (fun _ _ _ h => h) (.inl ⟨by rfl, fun w' hS' => by first | (go_simp; done) | (go_simp; rfl) | (go_simp; intro h; omega) | (go_simp; omega)⟩) hH ?_
          simp only [List.getElem_toArray, List.getElem_cons_succ, List.getElem_cons_zero, Act.put, List.setIfInBounds_toArray, List.set_cons_zero, List.set_cons_succ]
          refine wpAnyH_take (i := 12) (v := .int .i64 ER) rfl (by kernel_rfl) (by kernel_rfl) (by kernel_rfl) (fun _ _ _ h => h) (.inl ⟨by rfl, fun w' hS' => by first | (go_simp; done) | (go_simp; rfl) | (go_simp; intro h; omega) | (go_simp; omega)⟩) hH ?_
          simp only [List.getElem_toArray, List.getElem_cons_succ, List.getElem_cons_zero, Act.put, List.setIfInBounds_toArray, List.set_cons_zero, List.set_cons_succ]
          have bs := below_new v3 (.cells #[.slice none 0 0, .slice none 0 0, .slice none 0 0] 32)
          have hX := cellsAt_new v3 #[.slice none 0 0, .slice none 0 0, .slice none 0 0] 32
          obtain ⟨Bb, HBb⟩ : ∃ B, Hid (v3.heap.size = B) := ⟨_, rfl⟩
          obtain ⟨v4, Hv4⟩ : ∃ v, Hid (v3.alloc (.cells #[.slice none 0 0, .slice none 0 0, .slice none 0 0] 32) = v) := ⟨_, rfl⟩
          rw [Hv4.out] at bs hX
          rw [HBb.out] at hX
          have HBb2 : Hid (¬ (B1 ≤ Bb ∧ Bb ≤ Ba)) := fun q => by have := KA.now.2.1.lt; rw [HBb.out] at this; omega
          have HBbB : Hid (B1 ≤ Bb) := by show _ ≤ _; rw [← HBb.out]; exact KA.now.2.2
          refine wpAnyH_ready (rs := [13]) (by kernel_rfl) (by simp) ?_
          refine AllReadyH.cons rfl (fun K hK => ?_) AllReadyH.nil
          simp only [List.getElem_toArray, List.getElem_cons_succ, List.getElem_cons_zero]
          rw [if_pos (by rfl)]
          go_wp2_with fail
          rw [Hv4.out, HBb.out]
          replace KB := KB.skip (.cells #[.slice none 0 0, .slice none 0 0, .slice none 0 0] 32)
          rw [Hv4.out, HBb.out] at KB
          replace hbx := hbx.below bs
          replace c := below_then c bs
          replace KA := KA.below bs
          refine hK.out _ _ ⟨hbx.2.1, hbx.2.2⟩ (fun hH => ?_)
          clear hK
          clear bs
          have f0 := hX.frozen 0
          have f1 := hX.frozen 1
          have f2 := hX.frozen 2
          have x0' : v4.cell? ⟨Bb, 0, none⟩ = some (.slice none 0 0) := hX.cell 0
          have x1' : v4.cell? ⟨Bb, 1, none⟩ = some (.slice none 0 0) := hX.cell 1
          have x2' : v4.cell? ⟨Bb, 2, none⟩ = some (.slice none 0 0) := hX.cell 2
          have hBbw : w.heap.size + 1 ≤ Bb := by have := HBbB.out; have := HB1.out; omega
          have hXf := ((hX.put 0 (.slice b1 b2 b3)).put 1 (.slice b4 b5 b6)).put 2 (.slice b7 DL b9)
          have KBf := ((KB.set (a := ⟨Bb, 0, none⟩) (fun q => q.2 rfl) (.slice b1 b2 b3)).set (a := ⟨Bb, 1, none⟩) (fun q => q.2 rfl) (.slice b4 b5 b6)).set (a := ⟨Bb, 2, none⟩) (fun q => q.2 rfl) (.slice b7 DL b9)
          have cf := ((c.setCell (p := ⟨Bb, 0, none⟩) (Nat.le_of_succ_le hBbw) (.slice b1 b2 b3)).setCell (p := ⟨Bb, 1, none⟩) (Nat.le_of_succ_le hBbw) (.slice b4 b5 b6)).setCell (p := ⟨Bb, 2, none⟩) (Nat.le_of_succ_le hBbw) (.slice b7 DL b9)
          have KAf := ((KA.set (a := ⟨Bb, 0, none⟩) (fun q => HBb2.out q) (.slice b1 b2 b3)).set (a := ⟨Bb, 1, none⟩) (fun q => HBb2.out q) (.slice b4 b5 b6)).set (a := ⟨Bb, 2, none⟩) (fun q => HBb2.out q) (.slice b7 DL b9)
          have hbxf : Box2 (((v4.setCell ⟨Bb, 0, none⟩ (.slice b1 b2 b3)).setCell ⟨Bb, 1, none⟩ (.slice b4 b5 b6)).setCell ⟨Bb, 2, none⟩ (.slice b7 DL b9)) w.heap.size (.int .i64 n.places) tv := box2_aside3 hbx (by omega) _ _ _
          obtain ⟨W9, HW9⟩ : ∃ v, Hid (((v4.setCell ⟨Bb, 0, none⟩ (.slice b1 b2 b3)).setCell ⟨Bb, 1, none⟩ (.slice b4 b5 b6)).setCell ⟨Bb, 2, none⟩ (.slice b7 DL b9) = v) := ⟨_, rfl⟩
          rw [HW9.out] at hXf KBf cf KAf hbxf
          have hXf : CellsAt W9 Bb #[.slice b1 b2 b3, .slice b4 b5 b6, .slice b7 DL b9] 32 := hXf
          refine wpAnyH_ready (rs := [14]) (by kernel_rfl) (by simp) ?_
          refine AllReadyH.cons rfl (fun K hK => ?_) AllReadyH.nil
          simp only [List.getElem_toArray, List.getElem_cons_succ, List.getElem_cons_zero]
          rw [if_pos (by rfl)]
          go_wp2_with fail
          rw [HW9.out]
          refine hK.out _ _ ⟨hbxf.2.1, hbxf.2.2⟩ (fun hH => ?_)
          clear hK
          refine wpAnyH_take (i := 15) (v := .slice lb L2 lbc) rfl (by kernel_rfl) (by kernel_rfl) (by kernel_rfl) (fun _ _ _ h => h) (.inl ⟨by rfl, fun _ _ => rfl⟩) hH ?_
          simp only [List.getElem_toArray, List.getElem_cons_succ, List.getElem_cons_zero, Act.put, List.setIfInBounds_toArray, List.set_cons_zero, List.set_cons_succ]
          refine wpAnyH_take (i := 16) (v := .int .i64 ER) rfl (by kernel_rfl) (by kernel_rfl) (by kernel_rfl) (fun _ _ _ h => h) (.inl ⟨by rfl, fun _ _ => rfl⟩) hH ?_
          simp only [List.getElem_toArray, List.getElem_cons_succ, List.getElem_cons_zero, Act.put, List.setIfInBounds_toArray, List.set_cons_zero, List.set_cons_succ]
          refine wpAnyH_done (by kernel_rfl) ?_ _
          go_wp2_with fail
          go_meet
          exact ⟨Bb, b1, b2, b3, b4, b5, b6, b7, b9, rfl, rfl, hXf, KBf.now, KAf.now, cf⟩
        · simp only [List.getElem_toArray, List.getElem_cons_succ, List.getElem_cons_zero]
          rw [if_pos (by rfl)]
          have bs := below_new v2 (.cells #[.slice none 0 0, .slice none 0 0, .slice none 0 0] 32)
          have hX := cellsAt_new v2 #[.slice none 0 0, .slice none 0 0, .slice none 0 0] 32
          obtain ⟨Bb, HBb⟩ : ∃ B, Hid (v2.heap.size = B) := ⟨_, rfl⟩
          obtain ⟨v3, Hv3⟩ : ∃ v, Hid (v2.alloc (.cells #[.slice none 0 0, .slice none 0 0, .slice none 0 0] 32) = v) := ⟨_, rfl⟩
          rw [Hv3.out] at bs hX
          rw [HBb.out] at hX
          have HBb2 : Hid (¬ (B1 ≤ Bb ∧ Bb ≤ Ba)) := fun q => by have := KA.now.2.1.lt; rw [HBb.out] at this; omega
          have HBbB : Hid (B1 ≤ Bb) := by show _ ≤ _; rw [← HBb.out]; exact KA.now.2.2
          go_wp2_with fail
          rw [Hv3.out, HBb.out]
          replace hbx := hbx.below bs
          replace c := below_then c bs
          replace KA := KA.below bs
          replace hH2 := hH2.below bs
          refine hK.out _ _ ⟨hbx.2.1, hbx.2.2⟩ (fun hH => ?_)
          clear hK
          clear bs
          refine wpAnyH_ready (rs := [8]) (by kernel_rfl) (by simp) ?_
          refine AllReadyH.cons rfl (fun K hK => ?_) AllReadyH.nil
          simp only [List.getElem_toArray, List.getElem_cons_succ, List.getElem_cons_zero]
          rw [if_pos (by rfl)]
          go_wp2_with fail
          refine (hall_own _ _ _ n i roles (os1 ++ [⟨3, more, noDOp⟩]) v3 (by exact ⟨_, rfl, hT.below c⟩) (by exact hr.below c) (by exact hH2)).mono ?_
          rintro e v4 ⟨rb, lb, lbc, rfl, hDb, _, bs, hFb, _⟩
          rw [HP2.out.1] at hDb
          rw [HP2.out.2]
          obtain ⟨L2, HL2e⟩ : ∃ L, Hid ((hallAll n i roles (os1 ++ [(⟨3, more, noDOp⟩ : HOp)])).2.1.length = L) := ⟨_, rfl⟩
          rw [HL2e.out]
          have KB := (desk_on hDb hFb).weaken (D' := fun k => v3.heap.size ≤ k) (fun k _ hk => hk)
          obtain ⟨b1, b2, b3, b4, b5, b6, b7, b9, rfl, k1, k2, k3⟩ := hDb
          clear k1 k2 k3
          rw [HDL.out] at KB ⊢
          replace KB := KB.weaken (D' := fun k => v3.heap.size ≤ k ∧ k ≠ Bb) (fun k _ hk => ⟨hk, fun e => by have := hX.lt; have hk : v3.heap.size ≤ k := hk; omega⟩)
          have hszc := c.size
          replace hbx := hbx.below bs
          replace c := below_then c bs
          replace KA := KA.below bs
          replace hX := hX.below bs
          refine hK.out _ _ ⟨hbx.2.1, hbx.2.2⟩ (fun hH => ?_)
          clear hK
          clear bs hH2
          refine wpAnyH_take (i := 9) (v := .tuple #[.agg #[.slice b1 b2 b3, .slice b4 b5 b6, .slice b7 DL b9], .slice lb L2 lbc, .int .i64 ER]) rfl (by kernel_rfl) (by kernel_rfl) (by kernel_rfl) (fun _ _ _ h => h) (.inl ⟨by rfl, fun _ _ => rfl⟩) hH ?_
          simp only [List.getElem_toArray, List.getElem_cons_succ, List.getElem_cons_zero, Act.put, List.setIfInBounds_toArray, List.set_cons_zero, List.set_cons_succ]
          refine wpAnyH_take (i := 10) (v := .agg #[.slice b1 b2 b3, .slice b4 b5 b6, .slice b7 DL b9]) rfl (by kernel_rfl) (by kernel_rfl) (by kernel_rfl) (fun _ _ _ h => h) (.inl ⟨by rfl, fun w' hS' => by first | (go_simp; done) | (go_simp; rfl) | (go_simp; intro h; omega) | (go_simp; omega)⟩) hH ?_
          simp only [List.getElem_toArray, List.getElem_cons_succ, List.getElem_cons_zero, Act.put, List.setIfInBounds_toArray, List.set_cons_zero, List.set_cons_succ]
          refine wpAnyH_take (i := 11) (v := .slice lb L2 lbc) rfl (by kernel_rfl) (by kernel_rfl) (by kernel_rfl) (fun _ _ _ h => h) (.inl ⟨by rfl, fun w' hS' => by first | (go_simp; done) | (go_simp; rfl) | (go_simp; intro h; omega) | (go_simp; omega)⟩) hH ?_
          simp only [List.getElem_toArray, List.getElem_cons_succ, List.getElem_cons_zero, Act.put, List.setIfInBounds_toArray, List.set_cons_zero, List.set_cons_succ]
          refine wpAnyH_take (i := 12) (v := .int .i64 ER) rfl (by kernel_rfl) (by kernel_rfl) (by kernel_rfl) (fun _ _ _ h => h) (.inl ⟨by rfl, fun w' hS' => by first | (go_simp; done) | (go_simp; rfl) | (go_simp; intro h; omega) | (go_simp; omega)⟩) hH ?_
          simp only [List.getElem_toArray, List.getElem_cons_succ, List.getElem_cons_zero, Act.put, List.setIfInBounds_toArray, List.set_cons_zero, List.set_cons_succ]
          have f0 := hX.frozen 0
          have f1 := hX.frozen 1
          have f2 := hX.frozen 2
          have x0' : v4.cell? ⟨Bb, 0, none⟩ = some (.slice none 0 0) := hX.cell 0
          have x1' : v4.cell? ⟨Bb, 1, none⟩ = some (.slice none 0 0) := hX.cell 1
          have x2' : v4.cell? ⟨Bb, 2, none⟩ = some (.slice none 0 0) := hX.cell 2
          have hBbw : w.heap.size + 1 ≤ Bb := by have := HBbB.out; have := HB1.out; omega
          have hXf := ((hX.put 0 (.slice b1 b2 b3)).put 1 (.slice b4 b5 b6)).put 2 (.slice b7 DL b9)
          have KBf := ((KB.set (a := ⟨Bb, 0, none⟩) (fun q => q.2 rfl) (.slice b1 b2 b3)).set (a := ⟨Bb, 1, none⟩) (fun q => q.2 rfl) (.slice b4 b5 b6)).set (a := ⟨Bb, 2, none⟩) (fun q => q.2 rfl) (.slice b7 DL b9)
          have cf := ((c.setCell (p := ⟨Bb, 0, none⟩) (Nat.le_of_succ_le hBbw) (.slice b1 b2 b3)).setCell (p := ⟨Bb, 1, none⟩) (Nat.le_of_succ_le hBbw) (.slice b4 b5 b6)).setCell (p := ⟨Bb, 2, none⟩) (Nat.le_of_succ_le hBbw) (.slice b7 DL b9)
          have KAf := ((KA.set (a := ⟨Bb, 0, none⟩) (fun q => HBb2.out q) (.slice b1 b2 b3)).set (a := ⟨Bb, 1, none⟩) (fun q => HBb2.out q) (.slice b4 b5 b6)).set (a := ⟨Bb, 2, none⟩) (fun q => HBb2.out q) (.slice b7 DL b9)
          have hbxf : Box2 (((v4.setCell ⟨Bb, 0, none⟩ (.slice b1 b2 b3)).setCell ⟨Bb, 1, none⟩ (.slice b4 b5 b6)).setCell ⟨Bb, 2, none⟩ (.slice b7 DL b9)) w.heap.size (.int .i64 n.places) tv := box2_aside3 hbx (by omega) _ _ _
          obtain ⟨W9, HW9⟩ : ∃ v, Hid (((v4.setCell ⟨Bb, 0, none⟩ (.slice b1 b2 b3)).setCell ⟨Bb, 1, none⟩ (.slice b4 b5 b6)).setCell ⟨Bb, 2, none⟩ (.slice b7 DL b9) = v) := ⟨_, rfl⟩
          rw [HW9.out] at hXf KBf cf KAf hbxf
          have hXf : CellsAt W9 Bb #[.slice b1 b2 b3, .slice b4 b5 b6, .slice b7 DL b9] 32 := hXf
          refine wpAnyH_ready (rs := [14]) (by kernel_rfl) (by simp) ?_
          refine AllReadyH.cons rfl (fun K hK => ?_) AllReadyH.nil
          simp only [List.getElem_toArray, List.getElem_cons_succ, List.getElem_cons_zero]
          rw [if_pos (by rfl)]
          go_wp2_with fail
          rw [HW9.out]
          refine hK.out _ _ ⟨hbxf.2.1, hbxf.2.2⟩ (fun hH => ?_)
          clear hK
          refine wpAnyH_take (i := 15) (v := .slice lb L2 lbc) rfl (by kernel_rfl) (by kernel_rfl) (by kernel_rfl) (fun _ _ _ h => h) (.inl ⟨by rfl, fun _ _ => rfl⟩) hH ?_
          simp only [List.getElem_toArray, List.getElem_cons_succ, List.getElem_cons_zero, Act.put, List.setIfInBounds_toArray, List.set_cons_zero, List.set_cons_succ]
          refine wpAnyH_take (i := 16) (v := .int .i64 ER) rfl (by kernel_rfl) (by kernel_rfl) (by kernel_rfl) (fun _ _ _ h => h) (.inl ⟨by rfl, fun _ _ => rfl⟩) hH ?_
          simp only [List.getElem_toArray, List.getElem_cons_succ, List.getElem_cons_zero, Act.put, List.setIfInBounds_toArray, List.set_cons_zero, List.set_cons_succ]
          refine wpAnyH_done (by kernel_rfl) ?_ _
          go_wp2_with fail
          go_meet
          exact ⟨Bb, b1, b2, b3, b4, b5, b6, b7, b9, rfl, rfl, hXf, KBf.now, KAf.now, cf⟩
      · simp only [List.getElem_toArray, List.getElem_cons_succ, List.getElem_cons_zero]
        rw [if_pos (by rfl)]
        have bs := below_new v1 (.cells #[.slice none 0 0, .slice none 0 0, .slice none 0 0] 32)
        have hX := cellsAt_new v1 #[.slice none 0 0, .slice none 0 0, .slice none 0 0] 32
        obtain ⟨Bb, HBb⟩ : ∃ B, Hid (v1.heap.size = B) := ⟨_, rfl⟩
        obtain ⟨v2, Hv2⟩ : ∃ v, Hid (v1.alloc (.cells #[.slice none 0 0, .slice none 0 0, .slice none 0 0] 32) = v) := ⟨_, rfl⟩
        rw [Hv2.out] at bs hX
        rw [HBb.out] at hX
        have HBb2 : Hid (¬ (B1 ≤ Bb ∧ Bb ≤ Ba)) := fun q => by have := KA.now.2.1.lt; rw [HBb.out] at this; omega
        have HBbB : Hid (B1 ≤ Bb) := by show _ ≤ _; rw [← HBb.out]; exact KA.now.2.2
        go_wp2_with fail
        rw [Hv2.out, HBb.out]
        replace hbx := hbx.below bs
        replace c := below_then c bs
        replace KA := KA.below bs
        replace hO := hO.trans bs
        replace hL := hL.below bs
        refine hK.out _ _ ⟨hbx.2.1, hbx.2.2⟩ (fun hH => ?_)
        clear hK
        clear bs
        refine wpAnyH_ready (rs := [7]) (by kernel_rfl) (by simp) ?_
        refine AllReadyH.cons rfl (fun K hK => ?_) AllReadyH.nil
        simp only [List.getElem_toArray, List.getElem_cons_succ, List.getElem_cons_zero]
        refine wpr_append_cells elem_hops (by rfl) _ _ rfl w1.heap.size w1 v2 (.slice oa (N + 1) oc) (N + 1) 1 1 ⟨Bl, 0, none⟩ (hopCells os1) (hopA ⟨3, more, noDOp⟩).toList hO rfl rfl rfl (fun j u hj => by rw [addr_add, Nat.zero_add, hL.cell]; simpa [hopA, noDOp] using hj) (fun u hu => hopCells_one [⟨3, more, noDOp⟩] u (by simpa [hopCells] using hu)) HL1.out HL2.out ?_
        intro nv v3 hO2 hg
        obtain ⟨na, nl, nc, rfl⟩ := ownsRow_slice hO2.1
        rw [show hopCells os1 ++ (hopA ⟨3, more, noDOp⟩).toList = hopCells (os1 ++ [⟨3, more, noDOp⟩]) by rw [hopCells_append]; simp [hopCells]] at hO2
        have hH2 := OwnC.hops hO2 (by rw [List.length_append, HN1.out]; rfl) HL3.out
        have hg1 : ∀ k, some k = (Value.slice oa (N + 1) oc).ownBlock → w1.heap.size ≤ k ∧ k < B1 := fun k e => ⟨(hO.1.lt k e.symm).1, HOB.out k e.symm⟩
        replace KA := KA.grown hg (fun k _ hD e => by have := (hg1 k e).2; have hD : B1 ≤ k ∧ k ≤ Ba := hD; omega)
        replace c : Below w.heap.size w v3 := c.grown hg (Nat.le_trans c.size (Nat.le_refl _)) (fun k e => by have := (hg1 k e.symm).1; have := Hw1.out; omega)
        have hbx2 := hbx
        replace hbx : Box2 v3 w.heap.size (.int .i64 n.places) tv := box2_kept hbx hg (fun e => by have := (hg1 _ e).1; have := Hw1.out; omega)
        replace hX : CellsAt v3 Bb #[.slice none 0 0, .slice none 0 0, .slice none 0 0] 32 := (hg.block Bb hX.lt (fun e => by have := (hg1 _ e).2; have := HBbB.out; omega)).trans hX
        refine hK.out _ _ ⟨hbx.2.1, hbx.2.2⟩ (fun hH => ?_)
        clear hK
        clear hO hL hg1 hbx2 hg hO2
        refine wpAnyH_ready (rs := [8]) (by kernel_rfl) (by simp) ?_
        refine AllReadyH.cons rfl (fun K hK => ?_) AllReadyH.nil
        simp only [List.getElem_toArray, List.getElem_cons_succ, List.getElem_cons_zero]
        rw [if_pos (by rfl)]
        go_wp2_with fail
        refine (hall_own _ _ _ n i roles (os1 ++ [⟨3, more, noDOp⟩]) v3 (by exact ⟨_, rfl, hT.below c⟩) (by exact hr.below c) (by exact hH2)).mono ?_
        rintro e v4 ⟨rb, lb, lbc, rfl, hDb, _, bs, hFb, _⟩
        rw [HP2.out.1] at hDb
        rw [HP2.out.2]
        obtain ⟨L2, HL2e⟩ : ∃ L, Hid ((hallAll n i roles (os1 ++ [(⟨3, more, noDOp⟩ : HOp)])).2.1.length = L) := ⟨_, rfl⟩
        rw [HL2e.out]
        have KB := (desk_on hDb hFb).weaken (D' := fun k => v3.heap.size ≤ k) (fun k _ hk => hk)
        obtain ⟨b1, b2, b3, b4, b5, b6, b7, b9, rfl, k1, k2, k3⟩ := hDb
        clear k1 k2 k3
        rw [HDL.out] at KB ⊢
        replace KB := KB.weaken (D' := fun k => v3.heap.size ≤ k ∧ k ≠ Bb) (fun k _ hk => ⟨hk, fun e => by have := hX.lt; have hk : v3.heap.size ≤ k := hk; omega⟩)
        have hszc := c.size
        replace hbx := hbx.below bs
        replace c := below_then c bs
        replace KA := KA.below bs
        replace hX := hX.below bs
        refine hK.out _ _ ⟨hbx.2.1, hbx.2.2⟩ (fun hH => ?_)
        clear hK
        clear bs hH2
        refine wpAnyH_take (i := 9) (v := .tuple #[.agg #[.slice b1 b2 b3, .slice b4 b5 b6, .slice b7 DL b9], .slice lb L2 lbc, .int .i64 ER]) rfl (by kernel_rfl) (by kernel_rfl) (by kernel_rfl) (fun _ _ _ h => h) (.inl ⟨by rfl, fun _ _ => rfl⟩) hH ?_
        simp only [List.getElem_toArray, List.getElem_cons_succ, List.getElem_cons_zero, Act.put, List.setIfInBounds_toArray, List.set_cons_zero, List.set_cons_succ]
        refine wpAnyH_take (i := 10) (v := .agg #[.slice b1 b2 b3, .slice b4 b5 b6, .slice b7 DL b9]) rfl (by kernel_rfl) (by kernel_rfl) (by kernel_rfl) (fun _ _ _ h => h) (.inl ⟨by rfl, fun w' hS' => by first | (go_simp; done) | (go_simp; rfl) | (go_simp; intro h; omega) | (go_simp; omega)⟩) hH ?_
        simp only [List.getElem_toArray, List.getElem_cons_succ, List.getElem_cons_zero, Act.put, List.setIfInBounds_toArray, List.set_cons_zero, List.set_cons_succ]
        refine wpAnyH_take (i := 11) (v := .slice lb L2 lbc) rfl (by kernel_rfl) (by kernel_rfl) (by kernel_rfl) (fun _ _ _ h => h) (.inl ⟨by rfl, fun w' hS' => by first | (go_simp; done) | (go_simp; rfl) | (go_simp; intro h; omega) | (go_simp; omega)⟩) hH ?_
        simp only [List.getElem_toArray, List.getElem_cons_succ, List.getElem_cons_zero, Act.put, List.setIfInBounds_toArray, List.set_cons_zero, List.set_cons_succ]
        refine wpAnyH_take (i := 12) (v := .int .i64 ER) rfl (by kernel_rfl) (by kernel_rfl) (by kernel_rfl) (fun _ _ _ h => h) (.inl ⟨by rfl, fun w' hS' => by first | (go_simp; done) | (go_simp; rfl) | (go_simp; intro h; omega) | (go_simp; omega)⟩) hH ?_
        simp only [List.getElem_toArray, List.getElem_cons_succ, List.getElem_cons_zero, Act.put, List.setIfInBounds_toArray, List.set_cons_zero, List.set_cons_succ]
        have f0 := hX.frozen 0
        have f1 := hX.frozen 1
        have f2 := hX.frozen 2
        have x0' : v4.cell? ⟨Bb, 0, none⟩ = some (.slice none 0 0) := hX.cell 0
        have x1' : v4.cell? ⟨Bb, 1, none⟩ = some (.slice none 0 0) := hX.cell 1
        have x2' : v4.cell? ⟨Bb, 2, none⟩ = some (.slice none 0 0) := hX.cell 2
        have hBbw : w.heap.size + 1 ≤ Bb := by have := HBbB.out; have := HB1.out; omega
        have hXf := ((hX.put 0 (.slice b1 b2 b3)).put 1 (.slice b4 b5 b6)).put 2 (.slice b7 DL b9)
        have KBf := ((KB.set (a := ⟨Bb, 0, none⟩) (fun q => q.2 rfl) (.slice b1 b2 b3)).set (a := ⟨Bb, 1, none⟩) (fun q => q.2 rfl) (.slice b4 b5 b6)).set (a := ⟨Bb, 2, none⟩) (fun q => q.2 rfl) (.slice b7 DL b9)
        have cf := ((c.setCell (p := ⟨Bb, 0, none⟩) (Nat.le_of_succ_le hBbw) (.slice b1 b2 b3)).setCell (p := ⟨Bb, 1, none⟩) (Nat.le_of_succ_le hBbw) (.slice b4 b5 b6)).setCell (p := ⟨Bb, 2, none⟩) (Nat.le_of_succ_le hBbw) (.slice b7 DL b9)
        have KAf := ((KA.set (a := ⟨Bb, 0, none⟩) (fun q => HBb2.out q) (.slice b1 b2 b3)).set (a := ⟨Bb, 1, none⟩) (fun q => HBb2.out q) (.slice b4 b5 b6)).set (a := ⟨Bb, 2, none⟩) (fun q => HBb2.out q) (.slice b7 DL b9)
        have hbxf : Box2 (((v4.setCell ⟨Bb, 0, none⟩ (.slice b1 b2 b3)).setCell ⟨Bb, 1, none⟩ (.slice b4 b5 b6)).setCell ⟨Bb, 2, none⟩ (.slice b7 DL b9)) w.heap.size (.int .i64 n.places) tv := box2_aside3 hbx (by omega) _ _ _
        obtain ⟨W9, HW9⟩ : ∃ v, Hid (((v4.setCell ⟨Bb, 0, none⟩ (.slice b1 b2 b3)).setCell ⟨Bb, 1, none⟩ (.slice b4 b5 b6)).setCell ⟨Bb, 2, none⟩ (.slice b7 DL b9) = v) := ⟨_, rfl⟩
        rw [HW9.out] at hXf KBf cf KAf hbxf
        have hXf : CellsAt W9 Bb #[.slice b1 b2 b3, .slice b4 b5 b6, .slice b7 DL b9] 32 := hXf
        refine wpAnyH_ready (rs := [14]) (by kernel_rfl) (by simp) ?_
        refine AllReadyH.cons rfl (fun K hK => ?_) AllReadyH.nil
        simp only [List.getElem_toArray, List.getElem_cons_succ, List.getElem_cons_zero]
        rw [if_pos (by rfl)]
        go_wp2_with fail
        rw [HW9.out]
        refine hK.out _ _ ⟨hbxf.2.1, hbxf.2.2⟩ (fun hH => ?_)
        clear hK
        refine wpAnyH_take (i := 15) (v := .slice lb L2 lbc) rfl (by kernel_rfl) (by kernel_rfl) (by kernel_rfl) (fun _ _ _ h => h) (.inl ⟨by rfl, fun _ _ => rfl⟩) hH ?_
        simp only [List.getElem_toArray, List.getElem_cons_succ, List.getElem_cons_zero, Act.put, List.setIfInBounds_toArray, List.set_cons_zero, List.set_cons_succ]
        refine wpAnyH_take (i := 16) (v := .int .i64 ER) rfl (by kernel_rfl) (by kernel_rfl) (by kernel_rfl) (fun _ _ _ h => h) (.inl ⟨by rfl, fun _ _ => rfl⟩) hH ?_
        simp only [List.getElem_toArray, List.getElem_cons_succ, List.getElem_cons_zero, Act.put, List.setIfInBounds_toArray, List.set_cons_zero, List.set_cons_succ]
        refine wpAnyH_done (by kernel_rfl) ?_ _
        go_wp2_with fail
        go_meet
        exact ⟨Bb, b1, b2, b3, b4, b5, b6, b7, b9, rfl, rfl, hXf, KBf.now, KAf.now, cf⟩
    · simp only [List.getElem_toArray, List.getElem_cons_succ, List.getElem_cons_zero]
      rw [if_pos (by rfl)]
      have bs := below_new v0 (.cells #[.slice none 0 0, .slice none 0 0, .slice none 0 0] 32)
      have hX := cellsAt_new v0 #[.slice none 0 0, .slice none 0 0, .slice none 0 0] 32
      obtain ⟨Bb, HBb⟩ : ∃ B, Hid (v0.heap.size = B) := ⟨_, rfl⟩
      obtain ⟨v1, Hv1⟩ : ∃ v, Hid (v0.alloc (.cells #[.slice none 0 0, .slice none 0 0, .slice none 0 0] 32) = v) := ⟨_, rfl⟩
      rw [Hv1.out] at bs hX
      rw [HBb.out] at hX
      have HBb2 : Hid (¬ (B1 ≤ Bb ∧ Bb ≤ Ba)) := fun q => by have := KA.now.2.1.lt; rw [HBb.out] at this; omega
      have HBbB : Hid (B1 ≤ Bb) := by show _ ≤ _; rw [← HBb.out]; exact KA.now.2.2
      go_wp2_with fail
      rw [Hv1.out, HBb.out]
      replace hbx := hbx.below bs
      replace c := below_then c bs
      replace KA := KA.below bs
      replace hO := hO.trans bs
      refine hK.out _ _ ⟨hbx.2.1, hbx.2.2⟩ (fun hH => ?_)
      clear hK
      clear bs
      have bs := below_new v1 (.cells #[.int .i64 3, .int .i64 more, .int .i64 0, .int .i64 0, .int .i64 0, .int .i64 0, .int .i64 0] 47)
      have hL := cellsAt_new v1 #[.int .i64 3, .int .i64 more, .int .i64 0, .int .i64 0, .int .i64 0, .int .i64 0, .int .i64 0] 47
      obtain ⟨Bl, HBl⟩ : ∃ B, Hid (v1.heap.size = B) := ⟨_, rfl⟩
      obtain ⟨v2, Hv2⟩ : ∃ v, Hid (v1.alloc (.cells #[.int .i64 3, .int .i64 more, .int .i64 0, .int .i64 0, .int .i64 0, .int .i64 0, .int .i64 0] 47) = v) := ⟨_, rfl⟩
      rw [Hv2.out] at bs hL
      rw [HBl.out] at hL
      refine wpAnyH_ready (rs := [6]) (by kernel_rfl) (by simp) ?_
      refine AllReadyH.cons rfl (fun K hK => ?_) AllReadyH.nil
      simp only [List.getElem_toArray, List.getElem_cons_succ, List.getElem_cons_zero]
      rw [if_pos (by rfl)]
      go_wp2_with fail
      rw [Hv2.out, HBl.out]
      replace hbx := hbx.below bs
      replace c := below_then c bs
      replace KA := KA.below bs
      replace hO := hO.trans bs
      replace hX := hX.below bs
      refine hK.out _ _ ⟨hbx.2.1, hbx.2.2⟩ (fun hH => ?_)
      clear hK
      clear bs
      refine wpAnyH_ready (rs := [7]) (by kernel_rfl) (by simp) ?_
      refine AllReadyH.cons rfl (fun K hK => ?_) AllReadyH.nil
      simp only [List.getElem_toArray, List.getElem_cons_succ, List.getElem_cons_zero]
      refine wpr_append_cells elem_hops (by rfl) _ _ rfl w1.heap.size w1 v2 (.slice oa (N + 1) oc) (N + 1) 1 1 ⟨Bl, 0, none⟩ (hopCells os1) (hopA ⟨3, more, noDOp⟩).toList hO rfl rfl rfl (fun j u hj => by rw [addr_add, Nat.zero_add, hL.cell]; simpa [hopA, noDOp] using hj) (fun u hu => hopCells_one [⟨3, more, noDOp⟩] u (by simpa [hopCells] using hu)) HL1.out HL2.out ?_
      intro nv v3 hO2 hg
      obtain ⟨na, nl, nc, rfl⟩ := ownsRow_slice hO2.1
      rw [show hopCells os1 ++ (hopA ⟨3, more, noDOp⟩).toList = hopCells (os1 ++ [⟨3, more, noDOp⟩]) by rw [hopCells_append]; simp [hopCells]] at hO2
      have hH2 := OwnC.hops hO2 (by rw [List.length_append, HN1.out]; rfl) HL3.out
      have hg1 : ∀ k, some k = (Value.slice oa (N + 1) oc).ownBlock → w1.heap.size ≤ k ∧ k < B1 := fun k e => ⟨(hO.1.lt k e.symm).1, HOB.out k e.symm⟩
      replace KA := KA.grown hg (fun k _ hD e => by have := (hg1 k e).2; have hD : B1 ≤ k ∧ k ≤ Ba := hD; omega)
      replace c : Below w.heap.size w v3 := c.grown hg (Nat.le_trans c.size (Nat.le_refl _)) (fun k e => by have := (hg1 k e.symm).1; have := Hw1.out; omega)
      have hbx2 := hbx
      replace hbx : Box2 v3 w.heap.size (.int .i64 n.places) tv := box2_kept hbx hg (fun e => by have := (hg1 _ e).1; have := Hw1.out; omega)
      replace hX : CellsAt v3 Bb #[.slice none 0 0, .slice none 0 0, .slice none 0 0] 32 := (hg.block Bb hX.lt (fun e => by have := (hg1 _ e).2; have := HBbB.out; omega)).trans hX
      refine hK.out _ _ ⟨hbx.2.1, hbx.2.2⟩ (fun hH => ?_)
      clear hK
      clear hO hL hg1 hbx2 hg hO2
      refine wpAnyH_ready (rs := [8]) (by kernel_rfl) (by simp) ?_
      refine AllReadyH.cons rfl (fun K hK => ?_) AllReadyH.nil
      simp only [List.getElem_toArray, List.getElem_cons_succ, List.getElem_cons_zero]
      rw [if_pos (by rfl)]
      go_wp2_with fail
      refine (hall_own _ _ _ n i roles (os1 ++ [⟨3, more, noDOp⟩]) v3 (by exact ⟨_, rfl, hT.below c⟩) (by exact hr.below c) (by exact hH2)).mono ?_
      rintro e v4 ⟨rb, lb, lbc, rfl, hDb, _, bs, hFb, _⟩
      rw [HP2.out.1] at hDb
      rw [HP2.out.2]
      obtain ⟨L2, HL2e⟩ : ∃ L, Hid ((hallAll n i roles (os1 ++ [(⟨3, more, noDOp⟩ : HOp)])).2.1.length = L) := ⟨_, rfl⟩
      rw [HL2e.out]
      have KB := (desk_on hDb hFb).weaken (D' := fun k => v3.heap.size ≤ k) (fun k _ hk => hk)
      obtain ⟨b1, b2, b3, b4, b5, b6, b7, b9, rfl, k1, k2, k3⟩ := hDb
      clear k1 k2 k3
      rw [HDL.out] at KB ⊢
      replace KB := KB.weaken (D' := fun k => v3.heap.size ≤ k ∧ k ≠ Bb) (fun k _ hk => ⟨hk, fun e => by have := hX.lt; have hk : v3.heap.size ≤ k := hk; omega⟩)
      have hszc := c.size
      replace hbx := hbx.below bs
      replace c := below_then c bs
      replace KA := KA.below bs
      replace hX := hX.below bs
      refine hK.out _ _ ⟨hbx.2.1, hbx.2.2⟩ (fun hH => ?_)
      clear hK
      clear bs hH2
      refine wpAnyH_take (i := 9) (v := .tuple #[.agg #[.slice b1 b2 b3, .slice b4 b5 b6, .slice b7 DL b9], .slice lb L2 lbc, .int .i64 ER]) rfl (by kernel_rfl) (by kernel_rfl) (by kernel_rfl) (fun _ _ _ h => h) (.inl ⟨by rfl, fun _ _ => rfl⟩) hH ?_
      simp only [List.getElem_toArray, List.getElem_cons_succ, List.getElem_cons_zero, Act.put, List.setIfInBounds_toArray, List.set_cons_zero, List.set_cons_succ]
      refine wpAnyH_take (i := 10) (v := .agg #[.slice b1 b2 b3, .slice b4 b5 b6, .slice b7 DL b9]) rfl (by kernel_rfl) (by kernel_rfl) (by kernel_rfl) (fun _ _ _ h => h) (.inl ⟨by rfl, fun w' hS' => by first | (go_simp; done) | (go_simp; rfl) | (go_simp; intro h; omega) | (go_simp; omega)⟩) hH ?_
      simp only [List.getElem_toArray, List.getElem_cons_succ, List.getElem_cons_zero, Act.put, List.setIfInBounds_toArray, List.set_cons_zero, List.set_cons_succ]
      refine wpAnyH_take (i := 11) (v := .slice lb L2 lbc) rfl (by kernel_rfl) (by kernel_rfl) (by kernel_rfl) (fun _ _ _ h => h) (.inl ⟨by rfl, fun w' hS' => by first | (go_simp; done) | (go_simp; rfl) | (go_simp; intro h; omega) | (go_simp; omega)⟩) hH ?_
      simp only [List.getElem_toArray, List.getElem_cons_succ, List.getElem_cons_zero, Act.put, List.setIfInBounds_toArray, List.set_cons_zero, List.set_cons_succ]
      refine wpAnyH_take (i := 12) (v := .int .i64 ER) rfl (by kernel_rfl) (by kernel_rfl) (by kernel_rfl) (fun _ _ _ h => h) (.inl ⟨by rfl, fun w' hS' => by first | (go_simp; done) | (go_simp; rfl) | (go_simp; intro h; omega) | (go_simp; omega)⟩) hH ?_
      simp only [List.getElem_toArray, List.getElem_cons_succ, List.getElem_cons_zero, Act.put, List.setIfInBounds_toArray, List.set_cons_zero, List.set_cons_succ]
      have f0 := hX.frozen 0
      have f1 := hX.frozen 1
      have f2 := hX.frozen 2
      have x0' : v4.cell? ⟨Bb, 0, none⟩ = some (.slice none 0 0) := hX.cell 0
      have x1' : v4.cell? ⟨Bb, 1, none⟩ = some (.slice none 0 0) := hX.cell 1
      have x2' : v4.cell? ⟨Bb, 2, none⟩ = some (.slice none 0 0) := hX.cell 2
      have hBbw : w.heap.size + 1 ≤ Bb := by have := HBbB.out; have := HB1.out; omega
      have hXf := ((hX.put 0 (.slice b1 b2 b3)).put 1 (.slice b4 b5 b6)).put 2 (.slice b7 DL b9)
      have KBf := ((KB.set (a := ⟨Bb, 0, none⟩) (fun q => q.2 rfl) (.slice b1 b2 b3)).set (a := ⟨Bb, 1, none⟩) (fun q => q.2 rfl) (.slice b4 b5 b6)).set (a := ⟨Bb, 2, none⟩) (fun q => q.2 rfl) (.slice b7 DL b9)
      have cf := ((c.setCell (p := ⟨Bb, 0, none⟩) (Nat.le_of_succ_le hBbw) (.slice b1 b2 b3)).setCell (p := ⟨Bb, 1, none⟩) (Nat.le_of_succ_le hBbw) (.slice b4 b5 b6)).setCell (p := ⟨Bb, 2, none⟩) (Nat.le_of_succ_le hBbw) (.slice b7 DL b9)
      have KAf := ((KA.set (a := ⟨Bb, 0, none⟩) (fun q => HBb2.out q) (.slice b1 b2 b3)).set (a := ⟨Bb, 1, none⟩) (fun q => HBb2.out q) (.slice b4 b5 b6)).set (a := ⟨Bb, 2, none⟩) (fun q => HBb2.out q) (.slice b7 DL b9)
      have hbxf : Box2 (((v4.setCell ⟨Bb, 0, none⟩ (.slice b1 b2 b3)).setCell ⟨Bb, 1, none⟩ (.slice b4 b5 b6)).setCell ⟨Bb, 2, none⟩ (.slice b7 DL b9)) w.heap.size (.int .i64 n.places) tv := box2_aside3 hbx (by omega) _ _ _
      obtain ⟨W9, HW9⟩ : ∃ v, Hid (((v4.setCell ⟨Bb, 0, none⟩ (.slice b1 b2 b3)).setCell ⟨Bb, 1, none⟩ (.slice b4 b5 b6)).setCell ⟨Bb, 2, none⟩ (.slice b7 DL b9) = v) := ⟨_, rfl⟩
      rw [HW9.out] at hXf KBf cf KAf hbxf
      have hXf : CellsAt W9 Bb #[.slice b1 b2 b3, .slice b4 b5 b6, .slice b7 DL b9] 32 := hXf
      refine wpAnyH_ready (rs := [14]) (by kernel_rfl) (by simp) ?_
      refine AllReadyH.cons rfl (fun K hK => ?_) AllReadyH.nil
      simp only [List.getElem_toArray, List.getElem_cons_succ, List.getElem_cons_zero]
      rw [if_pos (by rfl)]
      go_wp2_with fail
      rw [HW9.out]
      refine hK.out _ _ ⟨hbxf.2.1, hbxf.2.2⟩ (fun hH => ?_)
      clear hK
      refine wpAnyH_take (i := 15) (v := .slice lb L2 lbc) rfl (by kernel_rfl) (by kernel_rfl) (by kernel_rfl) (fun _ _ _ h => h) (.inl ⟨by rfl, fun _ _ => rfl⟩) hH ?_
      simp only [List.getElem_toArray, List.getElem_cons_succ, List.getElem_cons_zero, Act.put, List.setIfInBounds_toArray, List.set_cons_zero, List.set_cons_succ]
      refine wpAnyH_take (i := 16) (v := .int .i64 ER) rfl (by kernel_rfl) (by kernel_rfl) (by kernel_rfl) (fun _ _ _ h => h) (.inl ⟨by rfl, fun _ _ => rfl⟩) hH ?_
      simp only [List.getElem_toArray, List.getElem_cons_succ, List.getElem_cons_zero, Act.put, List.setIfInBounds_toArray, List.set_cons_zero, List.set_cons_succ]
      refine wpAnyH_done (by kernel_rfl) ?_ _
      go_wp2_with fail
      go_meet
      exact ⟨Bb, b1, b2, b3, b4, b5, b6, b7, b9, rfl, rfl, hXf, KBf.now, KAf.now, cf⟩
  case rest =>
    obtain ⟨Bb, b1, b2, b3, b4, b5, b6, b7, b9, rfl, rfl, hXb, hDb, ⟨hDa, hXa, _⟩, c⟩ := hcut
    obtain ⟨w9, rfl⟩ : ∃ w9, w9 = wc := ⟨_, rfl⟩
    have e1 : (ER == ER) = true := by simp
    have y0 : w9.cell? ⟨Bb, 0, none⟩ = some (.slice b1 b2 b3) := hXb.cell 0
    have y1 : w9.cell? ⟨Bb, 1, none⟩ = some (.slice b4 b5 b6) := hXb.cell 1
    have y2 : w9.cell? ⟨Bb, 2, none⟩ = some (.slice b7 DL b9) := hXb.cell 2
    have z0 : w9.cell? ⟨Ba, 0, none⟩ = some (.slice d1 d2 d3) := hXa.cell 0
    have z1 : w9.cell? ⟨Ba, 1, none⟩ = some (.slice d4 d5 d6) := hXa.cell 1
    have z2 : w9.cell? ⟨Ba, 2, none⟩ = some (.slice d7 DL d9) := hXa.cell 2
    go_wp2_with fail
    refine (samedesk_same _ _ DA w9 (by exact hDa) (by exact hDb)).mono ?_
    rintro e w10 ⟨rfl, b⟩
    replace c := below_then c b
    clear y0 y1 y2 z0 z1 z2
    go_wp2
    go_ret
    exact ⟨rfl, c⟩

end Go.Proofs.Ytaladbcocealnaa
