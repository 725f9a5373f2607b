import Derived.Test.YtaladbcocealnaaGr22
import Derived.Lib.MinMax
/- One crash more loses nothing more. (Made by tools/gen_halltwice.py.) -/
namespace Go.Proofs.Ytaladbcocealnaa
open Go.RowKit
set_option linter.unusedVariables false
set_option linter.unusedSimpArgs false
set_option maxRecDepth 4000

theorem On.skip {D : Nat → Prop} {w : World} {R : World → Prop} (h : On D w R) (o : Obj) : On (fun k => D k ∧ k ≠ w.heap.size) (w.alloc o) R := fun w' hs hk =>
  h w' (Nat.le_trans (below_new w o).size hs) fun k hk1 hD => (hk k (Nat.lt_of_lt_of_le hk1 (below_new w o).size) ⟨hD, by omega⟩).trans ((below_new w o).block k hk1)
theorem box2_kept {w w' : World} {b : Nat} {x y : Value} {row : Option Nat} (h : Box2 w b x y) (hg : w.grownBy w' row) (hn : ¬ some b = row) : Box2 w' b x y :=
  ⟨Nat.lt_of_lt_of_le h.1 hg.size, (World.cell?_of_block (a := ⟨b, 0, none⟩) (hg.block b h.1 hn)).trans h.2.1, (World.cell?_of_block (a := ⟨b, 1, none⟩) (hg.block b h.1 hn)).trans h.2.2⟩
theorem box2_aside3 {w : World} {b B : Nat} {x y : Value} (h : Box2 w b x y) (hn : b ≠ B) (p q r : Value) : Box2 (((w.setCell ⟨B, 0, none⟩ p).setCell ⟨B, 1, none⟩ q).setCell ⟨B, 2, none⟩ r) b x y := by
  have e : (((w.setCell ⟨B, 0, none⟩ p).setCell ⟨B, 1, none⟩ q).setCell ⟨B, 2, none⟩ r).heap[b]? = w.heap[b]? := by
    rw [Below.heap_setCell _ ⟨B, 2, none⟩ _ b hn, Below.heap_setCell _ ⟨B, 1, none⟩ _ b hn, Below.heap_setCell _ ⟨B, 0, none⟩ _ b hn]
  exact ⟨by have := h.1; simpa [World.setCell] using this, (World.cell?_of_block (a := ⟨b, 0, none⟩) e).trans h.2.1, (World.cell?_of_block (a := ⟨b, 1, none⟩) e).trans h.2.2⟩

/-- What two crashes come to, and one. -/
theorem twice_same (n : NetL) (i : Int) (roles : List (List Int)) (os : List HOp) (k m : Int) :
    (hallAll n i roles ((os ++ [⟨3, k, noDOp⟩]) ++ [⟨3, m, noDOp⟩])).1 = (hallAll n i roles (os ++ [⟨3, k, noDOp⟩])).1 ∧
      (hallAll n i roles ((os ++ [⟨3, k, noDOp⟩]) ++ [⟨3, m, noDOp⟩])).2.2 = (hallAll n i roles (os ++ [⟨3, k, noDOp⟩])).2.2 := by
  unfold hallAll
  by_cases h : (beginC n i).2 = 0
  · rw [if_pos h, if_pos h]
    refine ⟨?_, rfl⟩
    simp only
    rw [hall_append, hall_append]
    exact hall_twice n roles (deskBegin n i) ((inv_begin n roles (deskBegin n i)).play os) ⟨3, k, noDOp⟩ ⟨3, m, noDOp⟩ rfl rfl
  · rw [if_neg h, if_neg h]
    exact ⟨rfl, rfl⟩

set_option maxHeartbeats 8000000 in
theorem hallTwice_walk (v r u : Value) (n : NetL) (i : Int) (roles : List (List Int)) (ops : List HOp) (keep more : Int) (w : World) (hv : Net w v n) (hr : Lists w r roles) (hu : HOpsV w u ops) (hsz : ops.length + 2 ≤ 2513169434916) :
    Calls Try.prog 5 #[v, .int .i64 i, r, u, .int .i64 keep, .int .i64 more] w fun e w' => e = .returned (.bool true) ∧ Below w.heap.size w w' := by
  obtain ⟨tv, rfl, hT⟩ := hv
  have c := below_new w (.cells #[.int .i64 n.places, tv] 24)
  have hbx := box2_new w (.int .i64 n.places) tv 24
  obtain ⟨w0, Hw0⟩ : ∃ w0, Hid (w.alloc (.cells #[.int .i64 n.places, tv] 24) = w0) := ⟨_, rfl⟩
  rw [Hw0.out] at c hbx
  obtain ⟨N, HN⟩ : ∃ N, Hid (ops.length = N) := ⟨_, rfl⟩
  have HNz : Hid (N + 2 ≤ 2513169434916) := by show _ ≤ _; rw [← HN.out]; exact hsz
  have HL1 : Hid (N + 1 + 1 ≤ maxLen) := by have := HNz.out; show _ ≤ _; unfold maxLen; omega
  have HL2 : Hid ((N + 1 + 1) * 56 ≤ 140737488355328) := by have := HNz.out; show _ ≤ _; omega
  have HL3 : Hid (N + 1 + 1 ≤ 2513169434916) := HNz.out
  have HL0 : Hid (N + 1 ≤ maxLen) := by have := HNz.out; show _ ≤ _; unfold maxLen; omega
  have HL4 : Hid ((N + 1) * 56 ≤ 140737488355328) := by have := HNz.out; show _ ≤ _; omega
  have hu0 : CellsV w u 7 2513169434916 N (hopCells ops) := by rw [← HN.out]; exact hu
  clear hsz hu
  go_enter Try.func5, Try.ntmps5
  go_upto_region 1 with fail
  rw [Hw0.out]
  go_wp2_with fail
  refine (alive19_any w0).mono ?_
  rintro e w1 ⟨rfl, b⟩
  have Hw1 : Hid (w.heap.size + 1 ≤ w1.heap.size) := by
    have e : w0.heap.size = w.heap.size + 1 := by rw [← Hw0.out]; simp
    have := b.size
    show _ ≤ _
    omega
  clear Hw0
  replace c := below_then c b
  replace hbx := hbx.below b
  clear b
  have hu1 := hu0.below c
  go_wp2_with fail
  refine (clone_hops _ N (hopCells ops) w1 (by exact hu1)).mono ?_
  rintro e w2 ⟨r1, rfl, hO⟩
  have Hc1 : Hid (Below w.heap.size w w1) := c
  clear hu1 c
  obtain ⟨os1, Hos1⟩ : ∃ l, Hid (ops ++ [(⟨3, keep, noDOp⟩ : HOp)] = l) := ⟨_, rfl⟩
  have HN1 : Hid (os1.length = N + 1) := by show _ = _; rw [← Hos1.out, List.length_append, HN.out]; rfl
  have hbx1 := hbx
  go_upto_region 4 with (at_builtin; refine wp_append_cell1 elem_hops rfl _ _ rfl w1.heap.size w1 w2 r1 N (hopCells ops) (hopA ⟨3, keep, noDOp⟩) hO rfl (fun u hu => hopCells_one [⟨3, keep, noDOp⟩] u (by simpa [hopCells] using hu)) rfl rfl HL0.out HL4.out ?_; intro ov w3 hO3 _)
  have c := below_then Hc1.out (hO3.2.1)
  replace hbx := hbx1.below hO3.2.1
  rw [show hopCells ops ++ (hopA ⟨3, keep, noDOp⟩).toList = hopCells os1 by rw [← Hos1.out, hopCells_append]; simp [hopCells]] at hO3
  obtain ⟨oa, oc, rfl⟩ := hO3.slice
  obtain ⟨B1, HB1e⟩ : ∃ B, Hid (w3.heap.size = B) := ⟨_, rfl⟩
  have HB1 : Hid (w.heap.size + 1 ≤ B1) := by have := Hw1.out; have := hO3.2.1.size; show _ ≤ _; rw [← HB1e.out]; omega
  have HOB : Hid (∀ k, (Value.slice oa (N + 1) oc).ownBlock = some k → k < B1) := fun k e => by rw [← HB1e.out]; exact (hO3.1.lt k e).2
  have hH1 := hO3.hops HN1.out (by have := HL3.out; omega)
  clear hO hbx1
  obtain ⟨x0, x1, x2⟩ := id hbx
  have HP2 : Hid ((hallAll n i roles (os1 ++ [⟨3, more, noDOp⟩])).1 = (hallAll n i roles os1).1 ∧ (hallAll n i roles (os1 ++ [⟨3, more, noDOp⟩])).2.2 = (hallAll n i roles os1).2.2) := by
    rw [← Hos1.out]; exact twice_same n i roles ops keep more
  go_wp2_with fail
  refine (hall_own _ _ _ n i roles os1 w3 (by exact ⟨_, rfl, hT.below c⟩) (by exact hr.below c) (by exact hH1)).mono ?_
  rintro e wp ⟨ra, la, lac, rfl, hDa, _, bp, hFa, _⟩
  obtain ⟨DA, HDA⟩ : ∃ D, Hid ((hallAll n i roles os1).1 = D) := ⟨_, rfl⟩
  obtain ⟨ER, HER⟩ : ∃ D, Hid ((hallAll n i roles os1).2.2 = D) := ⟨_, rfl⟩
  obtain ⟨LA, HLA⟩ : ∃ D, Hid ((hallAll n i roles os1).2.1.length = D) := ⟨_, rfl⟩
  rw [HDA.out] at hDa HP2
  rw [HER.out] at HP2 ⊢
  rw [HLA.out]
  have KA := desk_on hDa hFa
  obtain ⟨DL, HDL⟩ : ∃ D, Hid (DA.items.length = D) := ⟨_, rfl⟩
  obtain ⟨d1, d2, d3, d4, d5, d6, d7, d9, rfl, h1, h2, h3⟩ := id hDa
  rw [HDL.out] at h3 KA hDa ⊢
  clear h1 h2 h3 hDa
  have hO := hO3.trans bp
  replace c := below_then c bp
  replace hbx := hbx.below bp
  have bn := below_new wp (.cells #[.slice d1 d2 d3, .slice d4 d5 d6, .slice d7 DL d9] 32)
  have hXa := cellsAt_new wp #[.slice d1 d2 d3, .slice d4 d5 d6, .slice d7 DL d9] 32
  obtain ⟨Ba, HBa⟩ : ∃ B, Hid (wp.heap.size = B) := ⟨_, rfl⟩
  obtain ⟨w4, Hw4⟩ : ∃ v, Hid (wp.alloc (.cells #[.slice d1 d2 d3, .slice d4 d5 d6, .slice d7 DL d9] 32) = v) := ⟨_, rfl⟩
  rw [Hw4.out] at bn hXa
  rw [HBa.out] at hXa
  go_upto_region 5 with fail
  rw [Hw4.out, HBa.out]
  have hB1a : B1 ≤ Ba := by rw [← HBa.out, ← HB1e.out]; exact bp.size
  replace KA : On (fun k => B1 ≤ k) wp (fun w' => DeskV w' (.agg #[.slice d1 d2 d3, .slice d4 d5 d6, .slice d7 DL d9]) DA) := by rw [← HB1e.out]; exact KA
  replace KA : On (fun k => B1 ≤ k ∧ k ≤ Ba) w4 (fun w' => DeskV w' (.agg #[.slice d1 d2 d3, .slice d4 d5 d6, .slice d7 DL d9]) DA ∧ CellsAt w' Ba #[.slice d1 d2 d3, .slice d4 d5 d6, .slice d7 DL d9] 32 ∧ B1 ≤ w'.heap.size) := fun w' hs hk =>
    ⟨KA w' (Nat.le_trans bn.size hs) (fun k hk1 hD => (hk k (Nat.lt_of_lt_of_le hk1 bn.size) ⟨hD, by rw [HBa.out] at hk1; omega⟩).trans (bn.block k hk1)), (hk Ba hXa.lt ⟨hB1a, Nat.le_refl _⟩).trans hXa, by have := hXa.lt; omega⟩
  replace c := below_then c bn
  replace hbx := hbx.below bn
  replace hO := hO.trans bn
  clear x0 x1 x2 bn bp hO3 hH1 Hw4 hXa hu0 hFa
  go_cut [17, 19] (fun x17 x19 wc => ∃ (Bb : Nat) (b1 : Option Addr) (b2 b3 : Nat) (b4 : Option Addr) (b5 b6 : Nat) (b7 : Option Addr) (b9 : Nat), x17 = .pointer (some ⟨Bb, 0, none⟩) ∧ x19 = .int .i64 ER ∧ CellsAt wc Bb #[.slice b1 b2 b3, .slice b4 b5 b6, .slice b7 DL b9] 32 ∧ DeskV wc (.agg #[.slice b1 b2 b3, .slice b4 b5 b6, .slice b7 DL b9]) DA ∧ (DeskV wc (.agg #[.slice d1 d2 d3, .slice d4 d5 d6, .slice d7 DL d9]) DA ∧ CellsAt wc Ba #[.slice d1 d2 d3, .slice d4 d5 d6, .slice d7 DL d9] 32 ∧ B1 ≤ wc.heap.size) ∧ Below w.heap.size w wc)
  case first =>
    refine wp_region_held_drew (S := (fun w' => w'.cell? ⟨w.heap.size, 0, none⟩ = some (.int .i64 n.places) ∧ w'.cell? ⟨w.heap.size, 1, none⟩ = some (tv))) (by kernel_rfl) ⟨(hbx.below (Below.refl _ _).drew).2.1, (hbx.below (Below.refl _ _).drew).2.2⟩ (fun hH => ?_)
    have b : Below w4.heap.size w4 w4.drew := (Below.refl _ _).drew
    obtain ⟨v0, Hv0⟩ : ∃ v0, Hid (w4.drew = v0) := ⟨_, rfl⟩
    rw [Hv0.out] at hH b ⊢
    clear Hv0
    replace hbx := hbx.below b
    replace c := below_then c b
    replace hO := hO.trans b
    replace KA := KA.below b
    clear b
    refine wpAnyH_take (i := 0) (v := .agg #[.int .i64 n.places, tv]) rfl (by kernel_rfl) (by kernel_rfl) (by kernel_rfl) (fun _ _ _ h => h) (.inl ⟨by rfl, fun w' hS' => by obtain ⟨s0, s1⟩ := hS'; go_simp⟩) hH ?_
    simp only [List.getElem_toArray, List.getElem_cons_succ, List.getElem_cons_zero, Act.put, List.setIfInBounds_toArray, List.set_cons_zero, List.set_cons_succ]
    refine wpAnyH_take (i := 1) (v := .int .i64 i) rfl (by kernel_rfl) (by kernel_rfl) (by kernel_rfl) (fun _ _ _ h => h) (.inl ⟨by rfl, fun _ _ => rfl⟩) hH ?_
    simp only [List.getElem_toArray, List.getElem_cons_succ, List.getElem_cons_zero, Act.put, List.setIfInBounds_toArray, List.set_cons_zero, List.set_cons_succ]
    refine wpAnyH_take (i := 2) (v := r) rfl (by kernel_rfl) (by kernel_rfl) (by kernel_rfl) (fun _ _ _ h => h) (.inl ⟨by rfl, fun _ _ => rfl⟩) hH ?_
    simp only [List.getElem_toArray, List.getElem_cons_succ, List.getElem_cons_zero, Act.put, List.setIfInBounds_toArray, List.set_cons_zero, List.set_cons_succ]
    refine wpAnyH_take (i := 3) (v := .slice oa (N + 1) oc) rfl (by kernel_rfl) (by kernel_rfl) (by kernel_rfl) (fun _ _ _ h => h) (.inl ⟨by rfl, fun _ _ => rfl⟩) hH ?_
    simp only [List.getElem_toArray, List.getElem_cons_succ, List.getElem_cons_zero, Act.put, List.setIfInBounds_toArray, List.set_cons_zero, List.set_cons_succ]
    refine wpAnyH_take (i := 4) (v := .int .i64 more) rfl (by kernel_rfl) (by kernel_rfl) (by kernel_rfl) (fun _ _ _ h => h) (.inl ⟨by rfl, fun _ _ => rfl⟩) hH ?_
    simp only [List.getElem_toArray, List.getElem_cons_succ, List.getElem_cons_zero, Act.put, List.setIfInBounds_toArray, List.set_cons_zero, List.set_cons_succ]
    refine wpAnyH_take (i := 5) (v := .agg #[.int .i64 3, .int .i64 more, .int .i64 0, .int .i64 0, .int .i64 0, .int .i64 0, .int .i64 0]) rfl (by kernel_rfl) (by kernel_rfl) (by kernel_rfl) (fun _ _ _ h => h) (.inl ⟨by rfl, fun w' hS' => by first | (go_simp; done) | (go_simp; rfl) | (go_simp; intro h; omega) | (go_simp; omega)⟩) hH ?_
    simp only [List.getElem_toArray, List.getElem_cons_succ, List.getElem_cons_zero, Act.put, List.setIfInBounds_toArray, List.set_cons_zero, List.set_cons_succ]
    refine wpAnyH_ready (rs := [6, 13]) (by kernel_rfl) (by simp) ?_
    refine (AllReadyH.cons rfl (fun K hK => ?_) (AllReadyH.cons rfl (fun K hK => ?_) AllReadyH.nil))
    · simp only [List.getElem_toArray, List.getElem_cons_succ, List.getElem_cons_zero]
      rw [if_pos (by rfl)]
      have bs := below_new v0 (.cells #[.int .i64 3, .int .i64 more, .int .i64 0, .int .i64 0, .int .i64 0, .int .i64 0, .int .i64 0] 47)
      have hL := cellsAt_new v0 #[.int .i64 3, .int .i64 more, .int .i64 0, .int .i64 0, .int .i64 0, .int .i64 0, .int .i64 0] 47
      obtain ⟨Bl, HBl⟩ : ∃ B, Hid (v0.heap.size = B) := ⟨_, rfl⟩
      obtain ⟨v1, Hv1⟩ : ∃ v, Hid (v0.alloc (.cells #[.int .i64 3, .int .i64 more, .int .i64 0, .int .i64 0, .int .i64 0, .int .i64 0, .int .i64 0] 47) = v) := ⟨_, rfl⟩
      rw [Hv1.out] at bs hL
      rw [HBl.out] at hL
      go_wp2_with fail
      rw [Hv1.out, HBl.out]
      replace hbx := hbx.below bs
      replace c := below_then c bs
      replace KA := KA.below bs
      replace hO := hO.trans bs
      refine hK.out _ _ ⟨hbx.2.1, hbx.2.2⟩ (fun hH => ?_)
      clear hK
      clear bs
      refine wpAnyH_ready (rs := [7, 13]) (by kernel_rfl) (by simp) ?_
      refine (AllReadyH.cons rfl (fun K hK => ?_) (AllReadyH.cons rfl (fun K hK => ?_) AllReadyH.nil))
      · simp only [List.getElem_toArray, List.getElem_cons_succ, List.getElem_cons_zero]
        refine wpr_append_cells elem_hops (by rfl) _ _ rfl w1.heap.size w1 v1 (.slice oa (N + 1) oc) (N + 1) 1 1 ⟨Bl, 0, none⟩ (hopCells os1) (hopA ⟨3, more, noDOp⟩).toList hO rfl rfl rfl (fun j u hj => by rw [addr_add, Nat.zero_add, hL.cell]; simpa [hopA, noDOp] using hj) (fun u hu => hopCells_one [⟨3, more, noDOp⟩] u (by simpa [hopCells] using hu)) HL1.out HL2.out ?_
        intro nv v2 hO2 hg
        obtain ⟨na, nl, nc, rfl⟩ := ownsRow_slice hO2.1
        rw [show hopCells os1 ++ (hopA ⟨3, more, noDOp⟩).toList = hopCells (os1 ++ [⟨3, more, noDOp⟩]) by rw [hopCells_append]; simp [hopCells]] at hO2
        have hH2 := OwnC.hops hO2 (by rw [List.length_append, HN1.out]; rfl) HL3.out
        have hg1 : ∀ k, some k = (Value.slice oa (N + 1) oc).ownBlock → w1.heap.size ≤ k ∧ k < B1 := fun k e => ⟨(hO.1.lt k e.symm).1, HOB.out k e.symm⟩
        replace KA := KA.grown hg (fun k _ hD e => by have := (hg1 k e).2; have hD : B1 ≤ k ∧ k ≤ Ba := hD; omega)
        replace c : Below w.heap.size w v2 := c.grown hg (Nat.le_trans c.size (Nat.le_refl _)) (fun k e => by have := (hg1 k e.symm).1; have := Hw1.out; omega)
        have hbx2 := hbx
        replace hbx : Box2 v2 w.heap.size (.int .i64 n.places) tv := box2_kept hbx hg (fun e => by have := (hg1 _ e).1; have := Hw1.out; omega)
        refine hK.out _ _ ⟨hbx.2.1, hbx.2.2⟩ (fun hH => ?_)
        clear hK
        clear hO hL hg1 hbx2 hg hO2
        refine wpAnyH_ready (rs := [8, 13]) (by kernel_rfl) (by simp) ?_
        refine (AllReadyH.cons rfl (fun K hK => ?_) (AllReadyH.cons rfl (fun K hK => ?_) AllReadyH.nil))
        · simp only [List.getElem_toArray, List.getElem_cons_succ, List.getElem_cons_zero]
          rw [if_pos (by rfl)]
          go_wp2_with fail
          refine (hall_own _ _ _ n i roles (os1 ++ [⟨3, more, noDOp⟩]) v2 (by exact ⟨_, rfl, hT.below c⟩) (by exact hr.below c) (by exact hH2)).mono ?_
          rintro e v3 ⟨rb, lb, lbc, rfl, hDb, _, bs, hFb, _⟩
          rw [HP2.out.1] at hDb
          rw [HP2.out.2]
          obtain ⟨L2, HL2e⟩ : ∃ L, Hid ((hallAll n i roles (os1 ++ [(⟨3, more, noDOp⟩ : HOp)])).2.1.length = L) := ⟨_, rfl⟩
          rw [HL2e.out]
          have KB := (desk_on hDb hFb).weaken (D' := fun k => v2.heap.size ≤ k) (fun k _ hk => hk)
          obtain ⟨b1, b2, b3, b4, b5, b6, b7, b9, rfl, k1, k2, k3⟩ := hDb
          clear k1 k2 k3
          rw [HDL.out] at KB ⊢
          have hszc := c.size
          replace hbx := hbx.below bs
          replace c := below_then c bs
          replace KA := KA.below bs
          refine hK.out _ _ ⟨hbx.2.1, hbx.2.2⟩ (fun hH => ?_)
          clear hK
          clear bs hH2
          refine wpAnyH_take (i := 9) (v := .tuple #[.agg #[.slice b1 b2 b3, .slice b4 b5 b6, .slice b7 DL b9], .slice lb L2 lbc, .int .i64 ER]) rfl (by kernel_rfl) (by kernel_rfl) (by kernel_rfl) (fun _ _ _ h => h) (.inl ⟨by rfl, fun _ _ => rfl⟩) hH ?_
          simp only [List.getElem_toArray, List.getElem_cons_succ, List.getElem_cons_zero, Act.put, List.setIfInBounds_toArray, List.set_cons_zero, List.set_cons_succ]
          refine wpAnyH_take (i := 10) (v := .agg #[.slice b1 b2 b3, .slice b4 b5 b6, .slice b7 DL b9]) rfl (by kernel_rfl) (by kernel_rfl) (by kernel_rfl) (fun _ _ _ h => h) (.inl ⟨by rfl, fun w' hS' => by first | (go_simp; done) | (go_simp; rfl) | (go_simp; intro h; omega) | (go_simp; omega)⟩) hH ?_
          simp only [List.getElem_toArray, List.getElem_cons_succ, List.getElem_cons_zero, Act.put, List.setIfInBounds_toArray, List.set_cons_zero, List.set_cons_succ]
          refine wpAnyH_take (i := 11) (v := .slice lb L2 lbc) rfl (by kernel_rfl) (by kernel_rfl) (by kernel_rfl) (fun _ _ _ h => h) (.inl ⟨by rfl, fun w' hS' => by first | (go_simp; done) | (go_simp; rfl) | (go_simp; intro h; omega) | (go_simp; omega)⟩) hH ?_
          simp only [List.getElem_toArray, List.getElem_cons_succ, List.getElem_cons_zero, Act.put, List.setIfInBounds_toArray, List.set_cons_zero, List.set_cons_succ]
          refine wpAnyH_take (i := 12) (v := .int .i64 ER) rfl (by kernel_rfl) (by kernel_rfl) (by kernel_rfl) (fun _ _ _ h => h) (.inl ⟨by rfl, fun w' hS' => by first | (go_simp; done) | (go_simp; rfl) | (go_simp; intro h; omega) | (go_simp; omega)⟩) hH ?_
          simp only [List.getElem_toArray, List.getElem_cons_succ, List.getElem_cons_zero, Act.put, List.setIfInBounds_toArray, List.set_cons_zero, List.set_cons_succ]
          have bs := below_new v3 (.cells #[.slice none 0 0, .slice none 0 0, .slice none 0 0] 32)
          have hX := cellsAt_new v3 #[.slice none 0 0, .slice none 0 0, .slice none 0 0] 32
          obtain ⟨Bb, HBb⟩ : ∃ B, Hid (v3.heap.size = B) := ⟨_, rfl⟩
          obtain ⟨v4, Hv4⟩ : ∃ v, Hid (v3.alloc (.cells #[.slice none 0 0, .slice none 0 0, .slice none 0 0] 32) = v) := ⟨_, rfl⟩
          rw [Hv4.out] at bs hX
          rw [HBb.out] at hX
          have HBb2 : Hid (¬ (B1 ≤ Bb ∧ Bb ≤ Ba)) := fun q => by have := KA.now.2.1.lt; rw [HBb.out] at this; omega
          have HBbB : Hid (B1 ≤ Bb) := by show _ ≤ _; rw [← HBb.out]; exact KA.now.2.2
          refine wpAnyH_ready (rs := [13]) (by kernel_rfl) (by simp) ?_
          refine AllReadyH.cons rfl (fun K hK => ?_) AllReadyH.nil
          simp only [List.getElem_toArray, List.getElem_cons_succ, List.getElem_cons_zero]
          rw [if_pos (by rfl)]
          go_wp2_with fail
          rw [Hv4.out, HBb.out]
          replace KB := KB.skip (.cells #[.slice none 0 0, .slice none 0 0, .slice none 0 0] 32)
          rw [Hv4.out, HBb.out] at KB
          replace hbx := hbx.below bs
          replace c := below_then c bs
          replace KA := KA.below bs
          refine hK.out _ _ ⟨hbx.2.1, hbx.2.2⟩ (fun hH => ?_)
          clear hK
          clear bs
          have f0 := hX.frozen 0
          have f1 := hX.frozen 1
          have f2 := hX.frozen 2
          have x0' : v4.cell? ⟨Bb, 0, none⟩ = some (.slice none 0 0) := hX.cell 0
          have x1' : v4.cell? ⟨Bb, 1, none⟩ = some (.slice none 0 0) := hX.cell 1
          have x2' : v4.cell? ⟨Bb, 2, none⟩ = some (.slice none 0 0) := hX.cell 2
          have hBbw : w.heap.size + 1 ≤ Bb := by have := HBbB.out; have := HB1.out; omega
          have hXf := ((hX.put 0 (.slice b1 b2 b3)).put 1 (.slice b4 b5 b6)).put 2 (.slice b7 DL b9)
          have KBf := ((KB.set (a := ⟨Bb, 0, none⟩) (fun q => q.2 rfl) (.slice b1 b2 b3)).set (a := ⟨Bb, 1, none⟩) (fun q => q.2 rfl) (.slice b4 b5 b6)).set (a := ⟨Bb, 2, none⟩) (fun q => q.2 rfl) (.slice b7 DL b9)
          have cf := ((c.setCell (p := ⟨Bb, 0, none⟩) (Nat.le_of_succ_le hBbw) (.slice b1 b2 b3)).setCell (p := ⟨Bb, 1, none⟩) (Nat.le_of_succ_le hBbw) (.slice b4 b5 b6)).setCell (p := ⟨Bb, 2, none⟩) (Nat.le_of_succ_le hBbw) (.slice b7 DL b9)
          have KAf := ((KA.set (a := ⟨Bb, 0, none⟩) (fun q => HBb2.out q) (.slice b1 b2 b3)).set (a := ⟨Bb, 1, none⟩) (fun q => HBb2.out q) (.slice b4 b5 b6)).set (a := ⟨Bb, 2, none⟩) (fun q => HBb2.out q) (.slice b7 DL b9)
          have hbxf : Box2 (((v4.setCell ⟨Bb, 0, none⟩ (.slice b1 b2 b3)).setCell ⟨Bb, 1, none⟩ (.slice b4 b5 b6)).setCell ⟨Bb, 2, none⟩ (.slice b7 DL b9)) w.heap.size (.int .i64 n.places) tv := box2_aside3 hbx (by omega) _ _ _
          obtain ⟨W9, HW9⟩ : ∃ v, Hid (((v4.setCell ⟨Bb, 0, none⟩ (.slice b1 b2 b3)).setCell ⟨Bb, 1, none⟩ (.slice b4 b5 b6)).setCell ⟨Bb, 2, none⟩ (.slice b7 DL b9) = v) := ⟨_, rfl⟩
          rw [HW9.out] at hXf KBf cf KAf hbxf
          have hXf : CellsAt W9 Bb #[.slice b1 b2 b3, .slice b4 b5 b6, .slice b7 DL b9] 32 := hXf
          refine wpAnyH_ready (rs := [14]) (by kernel_rfl) (by simp) ?_
          refine AllReadyH.cons rfl (fun K hK => ?_) AllReadyH.nil
          simp only [List.getElem_toArray, List.getElem_cons_succ, List.getElem_cons_zero]
          rw [if_pos (by rfl)]
          go_wp2_with fail
          rw [HW9.out]
          refine hK.out _ _ ⟨hbxf.2.1, hbxf.2.2⟩ (fun hH => ?_)
          clear hK
          refine wpAnyH_take (i := 15) (v := .slice lb L2 lbc) rfl (by kernel_rfl) (by kernel_rfl) (by kernel_rfl) (fun _ _ _ h => h) (.inl ⟨by rfl, fun _ _ => rfl⟩) hH ?_
          simp only [List.getElem_toArray, List.getElem_cons_succ, List.getElem_cons_zero, Act.put, List.setIfInBounds_toArray, List.set_cons_zero, List.set_cons_succ]
          refine wpAnyH_take (i := 16) (v := .int .i64 ER) rfl (by kernel_rfl) (by kernel_rfl) (by kernel_rfl) (fun _ _ _ h => h) (.inl ⟨by rfl, fun _ _ => rfl⟩) hH ?_
          simp only [List.getElem_toArray, List.getElem_cons_succ, List.getElem_cons_zero, Act.put, List.setIfInBounds_toArray, List.set_cons_zero, List.set_cons_succ]
          refine wpAnyH_done (by kernel_rfl) ?_ _
          go_wp2_with fail
          go_meet
          exact ⟨Bb, b1, b2, b3, b4, b5, b6, b7, b9, rfl, rfl, hXf, KBf.now, KAf.now, cf⟩
        · simp only [List.getElem_toArray, List.getElem_cons_succ, List.getElem_cons_zero]
          rw [if_pos (by rfl)]
          have bs := below_new v2 (.cells #[.slice none 0 0, .slice none 0 0, .slice none 0 0] 32)
          have hX := cellsAt_new v2 #[.slice none 0 0, .slice none 0 0, .slice none 0 0] 32
          obtain ⟨Bb, HBb⟩ : ∃ B, Hid (v2.heap.size = B) := ⟨_, rfl⟩
          obtain ⟨v3, Hv3⟩ : ∃ v, Hid (v2.alloc (.cells #[.slice none 0 0, .slice none 0 0, .slice none 0 0] 32) = v) := ⟨_, rfl⟩
          rw [Hv3.out] at bs hX
          rw [HBb.out] at hX
          have HBb2 : Hid (¬ (B1 ≤ Bb ∧ Bb ≤ Ba)) := fun q => by have := KA.now.2.1.lt; rw [HBb.out] at this; omega
          have HBbB : Hid (B1 ≤ Bb) := by show _ ≤ _; rw [← HBb.out]; exact KA.now.2.2
          go_wp2_with fail
          rw [Hv3.out, HBb.out]
          replace hbx := hbx.below bs
          replace c := below_then c bs
          replace KA := KA.below bs
          replace hH2 := hH2.below bs
          refine hK.out _ _ ⟨hbx.2.1, hbx.2.2⟩ (fun hH => ?_)
          clear hK
          clear bs
          refine wpAnyH_ready (rs := [8]) (by kernel_rfl) (by simp) ?_
          refine AllReadyH.cons rfl (fun K hK => ?_) AllReadyH.nil
          simp only [List.getElem_toArray, List.getElem_cons_succ, List.getElem_cons_zero]
          rw [if_pos (by rfl)]
          go_wp2_with fail
          refine (hall_own _ _ _ n i roles (os1 ++ [⟨3, more, noDOp⟩]) v3 (by exact ⟨_, rfl, hT.below c⟩) (by exact hr.below c) (by exact hH2)).mono ?_
          rintro e v4 ⟨rb, lb, lbc, rfl, hDb, _, bs, hFb, _⟩
          rw [HP2.out.1] at hDb
          rw [HP2.out.2]
          obtain ⟨L2, HL2e⟩ : ∃ L, Hid ((hallAll n i roles (os1 ++ [(⟨3, more, noDOp⟩ : HOp)])).2.1.length = L) := ⟨_, rfl⟩
          rw [HL2e.out]
          have KB := (desk_on hDb hFb).weaken (D' := fun k => v3.heap.size ≤ k) (fun k _ hk => hk)
          obtain ⟨b1, b2, b3, b4, b5, b6, b7, b9, rfl, k1, k2, k3⟩ := hDb
          clear k1 k2 k3
          rw [HDL.out] at KB ⊢
          replace KB := KB.weaken (D' := fun k => v3.heap.size ≤ k ∧ k ≠ Bb) (fun k _ hk => ⟨hk, fun e => by have := hX.lt; have hk : v3.heap.size ≤ k := hk; omega⟩)
          have hszc := c.size
          replace hbx := hbx.below bs
          replace c := below_then c bs
          replace KA := KA.below bs
          replace hX := hX.below bs
          refine hK.out _ _ ⟨hbx.2.1, hbx.2.2⟩ (fun hH => ?_)
          clear hK
          clear bs hH2
          refine wpAnyH_take (i := 9) (v := .tuple #[.agg #[.slice b1 b2 b3, .slice b4 b5 b6, .slice b7 DL b9], .slice lb L2 lbc, .int .i64 ER]) rfl (by kernel_rfl) (by kernel_rfl) (by kernel_rfl) (fun _ _ _ h => h) (.inl ⟨by rfl, fun _ _ => rfl⟩) hH ?_
          simp only [List.getElem_toArray, List.getElem_cons_succ, List.getElem_cons_zero, Act.put, List.setIfInBounds_toArray, List.set_cons_zero, List.set_cons_succ]
          refine wpAnyH_take (i := 10) (v := .agg #[.slice b1 b2 b3, .slice b4 b5 b6, .slice b7 DL b9]) rfl (by kernel_rfl) (by kernel_rfl) (by kernel_rfl) (fun _ _ _ h => h) (.inl ⟨by rfl, fun w' hS' => by first | (go_simp; done) | (go_simp; rfl) | (go_simp; intro h; omega) | (go_simp; omega)⟩) hH ?_
          simp only [List.getElem_toArray, List.getElem_cons_succ, List.getElem_cons_zero, Act.put, List.setIfInBounds_toArray, List.set_cons_zero, List.set_cons_succ]
          refine wpAnyH_take (i := 11) (v := .slice lb L2 lbc) rfl (by kernel_rfl) (by kernel_rfl) (by kernel_rfl) (fun _ _ _ h => h) (.inl ⟨by rfl, fun w' hS' => by first | (go_simp; done) | (go_simp; rfl) | (go_simp; intro h; omega) | (go_simp; omega)⟩) hH ?_
          simp only [List.getElem_toArray, List.getElem_cons_succ, List.getElem_cons_zero, Act.put, List.setIfInBounds_toArray, List.set_cons_zero, List.set_cons_succ]
          refine wpAnyH_take (i := 12) (v := .int .i64 ER) rfl (by kernel_rfl) (by kernel_rfl) (by kernel_rfl) (fun _ _ _ h => h) (.inl ⟨by rfl, fun w' hS' => by first | (go_simp; done) | (go_simp; rfl) | (go_simp; intro h; omega) | (go_simp; omega)⟩) hH ?_
          simp only [List.getElem_toArray, List.getElem_cons_succ, List.getElem_cons_zero, Act.put, List.setIfInBounds_toArray, List.set_cons_zero, List.set_cons_succ]
          have f0 := hX.frozen 0
          have f1 := hX.frozen 1
          have f2 := hX.frozen 2
          have x0' : v4.cell? ⟨Bb, 0, none⟩ = some (.slice none 0 0) := hX.cell 0
          have x1' : v4.cell? ⟨Bb, 1, none⟩ = some (.slice none 0 0) := hX.cell 1
          have x2' : v4.cell? ⟨Bb, 2, none⟩ = some (.slice none 0 0) := hX.cell 2
          have hBbw : w.heap.size + 1 ≤ Bb := by have := HBbB.out; have := HB1.out; omega
          have hXf := ((hX.put 0 (.slice b1 b2 b3)).put 1 (.slice b4 b5 b6)).put 2 (.slice b7 DL b9)
          have KBf := ((KB.set (a := ⟨Bb, 0, none⟩) (fun q => q.2 rfl) (.slice b1 b2 b3)).set (a := ⟨Bb, 1, none⟩) (fun q => q.2 rfl) (.slice b4 b5 b6)).set (a := ⟨Bb, 2, none⟩) (fun q => q.2 rfl) (.slice b7 DL b9)
          have cf := ((c.setCell (p := ⟨Bb, 0, none⟩) (Nat.le_of_succ_le hBbw) (.slice b1 b2 b3)).setCell (p := ⟨Bb, 1, none⟩) (Nat.le_of_succ_le hBbw) (.slice b4 b5 b6)).setCell (p := ⟨Bb, 2, none⟩) (Nat.le_of_succ_le hBbw) (.slice b7 DL b9)
          have KAf := ((KA.set (a := ⟨Bb, 0, none⟩) (fun q => HBb2.out q) (.slice b1 b2 b3)).set (a := ⟨Bb, 1, none⟩) (fun q => HBb2.out q) (.slice b4 b5 b6)).set (a := ⟨Bb, 2, none⟩) (fun q => HBb2.out q) (.slice b7 DL b9)
          have hbxf : Box2 (((v4.setCell ⟨Bb, 0, none⟩ (.slice b1 b2 b3)).setCell ⟨Bb, 1, none⟩ (.slice b4 b5 b6)).setCell ⟨Bb, 2, none⟩ (.slice b7 DL b9)) w.heap.size (.int .i64 n.places) tv := box2_aside3 hbx (by omega) _ _ _
          obtain ⟨W9, HW9⟩ : ∃ v, Hid (((v4.setCell ⟨Bb, 0, none⟩ (.slice b1 b2 b3)).setCell ⟨Bb, 1, none⟩ (.slice b4 b5 b6)).setCell ⟨Bb, 2, none⟩ (.slice b7 DL b9) = v) := ⟨_, rfl⟩
          rw [HW9.out] at hXf KBf cf KAf hbxf
          have hXf : CellsAt W9 Bb #[.slice b1 b2 b3, .slice b4 b5 b6, .slice b7 DL b9] 32 := hXf
          refine wpAnyH_ready (rs := [14]) (by kernel_rfl) (by simp) ?_
          refine AllReadyH.cons rfl (fun K hK => ?_) AllReadyH.nil
          simp only [List.getElem_toArray, List.getElem_cons_succ, List.getElem_cons_zero]
          rw [if_pos (by rfl)]
          go_wp2_with fail
          rw [HW9.out]
          refine hK.out _ _ ⟨hbxf.2.1, hbxf.2.2⟩ (fun hH => ?_)
          clear hK
          refine wpAnyH_take (i := 15) (v := .slice lb L2 lbc) rfl (by kernel_rfl) (by kernel_rfl) (by kernel_rfl) (fun _ _ _ h => h) (.inl ⟨by rfl, fun _ _ => rfl⟩) hH ?_
          simp only [List.getElem_toArray, List.getElem_cons_succ, List.getElem_cons_zero, Act.put, List.setIfInBounds_toArray, List.set_cons_zero, List.set_cons_succ]
          refine wpAnyH_take (i := 16) (v := .int .i64 ER) rfl (by kernel_rfl) (by kernel_rfl) (by kernel_rfl) (fun _ _ _ h => h) (.inl ⟨by rfl, fun _ _ => rfl⟩) hH ?_
          simp only [List.getElem_toArray, List.getElem_cons_succ, List.getElem_cons_zero, Act.put, List.setIfInBounds_toArray, List.set_cons_zero, List.set_cons_succ]
          refine wpAnyH_done (by kernel_rfl) ?_ _
          go_wp2_with fail
          go_meet
          exact ⟨Bb, b1, b2, b3, b4, b5, b6, b7, b9, rfl, rfl, hXf, KBf.now, KAf.now, cf⟩
      · simp only [List.getElem_toArray, List.getElem_cons_succ, List.getElem_cons_zero]
        rw [if_pos (by rfl)]
        have bs := below_new v1 (.cells #[.slice none 0 0, .slice none 0 0, .slice none 0 0] 32)
        have hX := cellsAt_new v1 #[.slice none 0 0, .slice none 0 0, .slice none 0 0] 32
        obtain ⟨Bb, HBb⟩ : ∃ B, Hid (v1.heap.size = B) := ⟨_, rfl⟩
        obtain ⟨v2, Hv2⟩ : ∃ v, Hid (v1.alloc (.cells #[.slice none 0 0, .slice none 0 0, .slice none 0 0] 32) = v) := ⟨_, rfl⟩
        rw [Hv2.out] at bs hX
        rw [HBb.out] at hX
        have HBb2 : Hid (¬ (B1 ≤ Bb ∧ Bb ≤ Ba)) := fun q => by have := KA.now.2.1.lt; rw [HBb.out] at this; omega
        have HBbB : Hid (B1 ≤ Bb) := by show _ ≤ _; rw [← HBb.out]; exact KA.now.2.2
        go_wp2_with fail
        rw [Hv2.out, HBb.out]
        replace hbx := hbx.below bs
        replace c := below_then c bs
        replace KA := KA.below bs
        replace hO := hO.trans bs
        replace hL := hL.below bs
        refine hK.out _ _ ⟨hbx.2.1, hbx.2.2⟩ (fun hH => ?_)
        clear hK
        clear bs
        refine wpAnyH_ready (rs := [7]) (by kernel_rfl) (by simp) ?_
        refine AllReadyH.cons rfl (fun K hK => ?_) AllReadyH.nil
        simp only [List.getElem_toArray, List.getElem_cons_succ, List.getElem_cons_zero]
        refine wpr_append_cells elem_hops (by rfl) _ _ rfl w1.heap.size w1 v2 (.slice oa (N + 1) oc) (N + 1) 1 1 ⟨Bl, 0, none⟩ (hopCells os1) (hopA ⟨3, more, noDOp⟩).toList hO rfl rfl rfl (fun j u hj => by rw [addr_add, Nat.zero_add, hL.cell]; simpa [hopA, noDOp] using hj) (fun u hu => hopCells_one [⟨3, more, noDOp⟩] u (by simpa [hopCells] using hu)) HL1.out HL2.out ?_
        intro nv v3 hO2 hg
        obtain ⟨na, nl, nc, rfl⟩ := ownsRow_slice hO2.1
        rw [show hopCells os1 ++ (hopA ⟨3, more, noDOp⟩).toList = hopCells (os1 ++ [⟨3, more, noDOp⟩]) by rw [hopCells_append]; simp [hopCells]] at hO2
        have hH2 := OwnC.hops hO2 (by rw [List.length_append, HN1.out]; rfl) HL3.out
        have hg1 : ∀ k, some k = (Value.slice oa (N + 1) oc).ownBlock → w1.heap.size ≤ k ∧ k < B1 := fun k e => ⟨(hO.1.lt k e.symm).1, HOB.out k e.symm⟩
        replace KA := KA.grown hg (fun k _ hD e => by have := (hg1 k e).2; have hD : B1 ≤ k ∧ k ≤ Ba := hD; omega)
        replace c : Below w.heap.size w v3 := c.grown hg (Nat.le_trans c.size (Nat.le_refl _)) (fun k e => by have := (hg1 k e.symm).1; have := Hw1.out; omega)
        have hbx2 := hbx
        replace hbx : Box2 v3 w.heap.size (.int .i64 n.places) tv := box2_kept hbx hg (fun e => by have := (hg1 _ e).1; have := Hw1.out; omega)
        replace hX : CellsAt v3 Bb #[.slice none 0 0, .slice none 0 0, .slice none 0 0] 32 := (hg.block Bb hX.lt (fun e => by have := (hg1 _ e).2; have := HBbB.out; omega)).trans hX
        refine hK.out _ _ ⟨hbx.2.1, hbx.2.2⟩ (fun hH => ?_)
        clear hK
        clear hO hL hg1 hbx2 hg hO2
        refine wpAnyH_ready (rs := [8]) (by kernel_rfl) (by simp) ?_
        refine AllReadyH.cons rfl (fun K hK => ?_) AllReadyH.nil
        simp only [List.getElem_toArray, List.getElem_cons_succ, List.getElem_cons_zero]
        rw [if_pos (by rfl)]
        go_wp2_with fail
        refine (hall_own _ _ _ n i roles (os1 ++ [⟨3, more, noDOp⟩]) v3 (by exact ⟨_, rfl, hT.below c⟩) (by exact hr.below c) (by exact hH2)).mono ?_
        rintro e v4 ⟨rb, lb, lbc, rfl, hDb, _, bs, hFb, _⟩
        rw [HP2.out.1] at hDb
        rw [HP2.out.2]
        obtain ⟨L2, HL2e⟩ : ∃ L, Hid ((hallAll n i roles (os1 ++ [(⟨3, more, noDOp⟩ : HOp)])).2.1.length = L) := ⟨_, rfl⟩
        rw [HL2e.out]
        have KB := (desk_on hDb hFb).weaken (D' := fun k => v3.heap.size ≤ k) (fun k _ hk => hk)
        obtain ⟨b1, b2, b3, b4, b5, b6, b7, b9, rfl, k1, k2, k3⟩ := hDb
        clear k1 k2 k3
        rw [HDL.out] at KB ⊢
        replace KB := KB.weaken (D' := fun k => v3.heap.size ≤ k ∧ k ≠ Bb) (fun k _ hk => ⟨hk, fun e => by have := hX.lt; have hk : v3.heap.size ≤ k := hk; omega⟩)
        have hszc := c.size
        replace hbx := hbx.below bs
        replace c := below_then c bs
        replace KA := KA.below bs
        replace hX := hX.below bs
        refine hK.out _ _ ⟨hbx.2.1, hbx.2.2⟩ (fun hH => ?_)
        clear hK
        clear bs hH2
        refine wpAnyH_take (i := 9) (v := .tuple #[.agg #[.slice b1 b2 b3, .slice b4 b5 b6, .slice b7 DL b9], .slice lb L2 lbc, .int .i64 ER]) rfl (by kernel_rfl) (by kernel_rfl) (by kernel_rfl) (fun _ _ _ h => h) (.inl ⟨by rfl, fun _ _ => rfl⟩) hH ?_
        simp only [List.getElem_toArray, List.getElem_cons_succ, List.getElem_cons_zero, Act.put, List.setIfInBounds_toArray, List.set_cons_zero, List.set_cons_succ]
        refine wpAnyH_take (i := 10) (v := .agg #[.slice b1 b2 b3, .slice b4 b5 b6, .slice b7 DL b9]) rfl (by kernel_rfl) (by kernel_rfl) (by kernel_rfl) (fun _ _ _ h => h) (.inl ⟨by rfl, fun w' hS' => by first | (go_simp; done) | (go_simp; rfl) | (go_simp; intro h; omega) | (go_simp; omega)⟩) hH ?_
        simp only [List.getElem_toArray, List.getElem_cons_succ, List.getElem_cons_zero, Act.put, List.setIfInBounds_toArray, List.set_cons_zero, List.set_cons_succ]
        refine wpAnyH_take (i := 11) (v := .slice lb L2 lbc) rfl (by kernel_rfl) (by kernel_rfl) (by kernel_rfl) (fun _ _ _ h => h) (.inl ⟨by rfl, fun w' hS' => by first | (go_simp; done) | (go_simp; rfl) | (go_simp; intro h; omega) | (go_simp; omega)⟩) hH ?_
        simp only [List.getElem_toArray, List.getElem_cons_succ, List.getElem_cons_zero, Act.put, List.setIfInBounds_toArray, List.set_cons_zero, List.set_cons_succ]
        refine wpAnyH_take (i := 12) (v := .int .i64 ER) rfl (by kernel_rfl) (by kernel_rfl) (by kernel_rfl) (fun _ _ _ h => h) (.inl ⟨by rfl, fun w' hS' => by first | (go_simp; done) | (go_simp; rfl) | (go_simp; intro h; omega) | (go_simp; omega)⟩) hH ?_
        simp only [List.getElem_toArray, List.getElem_cons_succ, List.getElem_cons_zero, Act.put, List.setIfInBounds_toArray, List.set_cons_zero, List.set_cons_succ]
        have f0 := hX.frozen 0
        have f1 := hX.frozen 1
        have f2 := hX.frozen 2
        have x0' : v4.cell? ⟨Bb, 0, none⟩ = some (.slice none 0 0) := hX.cell 0
        have x1' : v4.cell? ⟨Bb, 1, none⟩ = some (.slice none 0 0) := hX.cell 1
        have x2' : v4.cell? ⟨Bb, 2, none⟩ = some (.slice none 0 0) := hX.cell 2
        have hBbw : w.heap.size + 1 ≤ Bb := by have := HBbB.out; have := HB1.out; omega
        have hXf := ((hX.put 0 (.slice b1 b2 b3)).put 1 (.slice b4 b5 b6)).put 2 (.slice b7 DL b9)
        have KBf := ((KB.set (a := ⟨Bb, 0, none⟩) (fun q => q.2 rfl) (.slice b1 b2 b3)).set (a := ⟨Bb, 1, none⟩) (fun q => q.2 rfl) (.slice b4 b5 b6)).set (a := ⟨Bb, 2, none⟩) (fun q => q.2 rfl) (.slice b7 DL b9)
        have cf := ((c.setCell (p := ⟨Bb, 0, none⟩) (Nat.le_of_succ_le hBbw) (.slice b1 b2 b3)).setCell (p := ⟨Bb, 1, none⟩) (Nat.le_of_succ_le hBbw) (.slice b4 b5 b6)).setCell (p := ⟨Bb, 2, none⟩) (Nat.le_of_succ_le hBbw) (.slice b7 DL b9)
        have KAf := ((KA.set (a := ⟨Bb, 0, none⟩) (fun q => HBb2.out q) (.slice b1 b2 b3)).set (a := ⟨Bb, 1, none⟩) (fun q => HBb2.out q) (.slice b4 b5 b6)).set (a := ⟨Bb, 2, none⟩) (fun q => HBb2.out q) (.slice b7 DL b9)
        have hbxf : Box2 (((v4.setCell ⟨Bb, 0, none⟩ (.slice b1 b2 b3)).setCell ⟨Bb, 1, none⟩ (.slice b4 b5 b6)).setCell ⟨Bb, 2, none⟩ (.slice b7 DL b9)) w.heap.size (.int .i64 n.places) tv := box2_aside3 hbx (by omega) _ _ _
        obtain ⟨W9, HW9⟩ : ∃ v, Hid (((v4.setCell ⟨Bb, 0, none⟩ (.slice b1 b2 b3)).setCell ⟨Bb, 1, none⟩ (.slice b4 b5 b6)).setCell ⟨Bb, 2, none⟩ (.slice b7 DL b9) = v) := ⟨_, rfl⟩
        rw [HW9.out] at hXf KBf cf KAf hbxf
        have hXf : CellsAt W9 Bb #[.slice b1 b2 b3, .slice b4 b5 b6, .slice b7 DL b9] 32 := hXf
        refine wpAnyH_ready (rs := [14]) (by kernel_rfl) (by simp) ?_
        refine AllReadyH.cons rfl (fun K hK => ?_) AllReadyH.nil
        simp only [List.getElem_toArray, List.getElem_cons_succ, List.getElem_cons_zero]
        rw [if_pos (by rfl)]
        go_wp2_with fail
        rw [HW9.out]
        refine hK.out _ _ ⟨hbxf.2.1, hbxf.2.2⟩ (fun hH => ?_)
        clear hK
        refine wpAnyH_take (i := 15) (v := .slice lb L2 lbc) rfl (by kernel_rfl) (by kernel_rfl) (by kernel_rfl) (fun _ _ _ h => h) (.inl ⟨by rfl, fun _ _ => rfl⟩) hH ?_
        simp only [List.getElem_toArray, List.getElem_cons_succ, List.getElem_cons_zero, Act.put, List.setIfInBounds_toArray, List.set_cons_zero, List.set_cons_succ]
        refine wpAnyH_take (i := 16) (v := .int .i64 ER) rfl (by kernel_rfl) (by kernel_rfl) (by kernel_rfl) (fun _ _ _ h => h) (.inl ⟨by rfl, fun _ _ => rfl⟩) hH ?_
        simp only [List.getElem_toArray, List.getElem_cons_succ, List.getElem_cons_zero, Act.put, List.setIfInBounds_toArray, List.set_cons_zero, List.set_cons_succ]
        refine wpAnyH_done (by kernel_rfl) ?_ _
        go_wp2_with fail
        go_meet
        exact ⟨Bb, b1, b2, b3, b4, b5, b6, b7, b9, rfl, rfl, hXf, KBf.now, KAf.now, cf⟩
    · simp only [List.getElem_toArray, List.getElem_cons_succ, List.getElem_cons_zero]
      rw [if_pos (by rfl)]
      have bs := below_new v0 (.cells #[.slice none 0 0, .slice none 0 0, .slice none 0 0] 32)
      have hX := cellsAt_new v0 #[.slice none 0 0, .slice none 0 0, .slice none 0 0] 32
      obtain ⟨Bb, HBb⟩ : ∃ B, Hid (v0.heap.size = B) := ⟨_, rfl⟩
      obtain ⟨v1, Hv1⟩ : ∃ v, Hid (v0.alloc (.cells #[.slice none 0 0, .slice none 0 0, .slice none 0 0] 32) = v) := ⟨_, rfl⟩
      rw [Hv1.out] at bs hX
      rw [HBb.out] at hX
      have HBb2 : Hid (¬ (B1 ≤ Bb ∧ Bb ≤ Ba)) := fun q => by have := KA.now.2.1.lt; rw [HBb.out] at this; omega
      have HBbB : Hid (B1 ≤ Bb) := by show _ ≤ _; rw [← HBb.out]; exact KA.now.2.2
      go_wp2_with fail
      rw [Hv1.out, HBb.out]
      replace hbx := hbx.below bs
      replace c := below_then c bs
      replace KA := KA.below bs
      replace hO := hO.trans bs
      refine hK.out _ _ ⟨hbx.2.1, hbx.2.2⟩ (fun hH => ?_)
      clear hK
      clear bs
      have bs := below_new v1 (.cells #[.int .i64 3, .int .i64 more, .int .i64 0, .int .i64 0, .int .i64 0, .int .i64 0, .int .i64 0] 47)
      have hL := cellsAt_new v1 #[.int .i64 3, .int .i64 more, .int .i64 0, .int .i64 0, .int .i64 0, .int .i64 0, .int .i64 0] 47
      obtain ⟨Bl, HBl⟩ : ∃ B, Hid (v1.heap.size = B) := ⟨_, rfl⟩
      obtain ⟨v2, Hv2⟩ : ∃ v, Hid (v1.alloc (.cells #[.int .i64 3, .int .i64 more, .int .i64 0, .int .i64 0, .int .i64 0, .int .i64 0, .int .i64 0] 47) = v) := ⟨_, rfl⟩
      rw [Hv2.out] at bs hL
      rw [HBl.out] at hL
      refine wpAnyH_ready (rs := [6]) (by kernel_rfl) (by simp) ?_
      refine AllReadyH.cons rfl (fun K hK => ?_) AllReadyH.nil
      simp only [List.getElem_toArray, List.getElem_cons_succ, List.getElem_cons_zero]
      rw [if_pos (by rfl)]
      go_wp2_with fail
      rw [Hv2.out, HBl.out]
      replace hbx := hbx.below bs
      replace c := below_then c bs
      replace KA := KA.below bs
      replace hO := hO.trans bs
      replace hX := hX.below bs
      refine hK.out _ _ ⟨hbx.2.1, hbx.2.2⟩ (fun hH => ?_)
      clear hK
      clear bs
      refine wpAnyH_ready (rs := [7]) (by kernel_rfl) (by simp) ?_
      refine AllReadyH.cons rfl (fun K hK => ?_) AllReadyH.nil
      simp only [List.getElem_toArray, List.getElem_cons_succ, List.getElem_cons_zero]
      refine wpr_append_cells elem_hops (by rfl) _ _ rfl w1.heap.size w1 v2 (.slice oa (N + 1) oc) (N + 1) 1 1 ⟨Bl, 0, none⟩ (hopCells os1) (hopA ⟨3, more, noDOp⟩).toList hO rfl rfl rfl (fun j u hj => by rw [addr_add, Nat.zero_add, hL.cell]; simpa [hopA, noDOp] using hj) (fun u hu => hopCells_one [⟨3, more, noDOp⟩] u (by simpa [hopCells] using hu)) HL1.out HL2.out ?_
      intro nv v3 hO2 hg
      obtain ⟨na, nl, nc, rfl⟩ := ownsRow_slice hO2.1
      rw [show hopCells os1 ++ (hopA ⟨3, more, noDOp⟩).toList = hopCells (os1 ++ [⟨3, more, noDOp⟩]) by rw [hopCells_append]; simp [hopCells]] at hO2
      have hH2 := OwnC.hops hO2 (by rw [List.length_append, HN1.out]; rfl) HL3.out
      have hg1 : ∀ k, some k = (Value.slice oa (N + 1) oc).ownBlock → w1.heap.size ≤ k ∧ k < B1 := fun k e => ⟨(hO.1.lt k e.symm).1, HOB.out k e.symm⟩
      replace KA := KA.grown hg (fun k _ hD e => by have := (hg1 k e).2; have hD : B1 ≤ k ∧ k ≤ Ba := hD; omega)
      replace c : Below w.heap.size w v3 := c.grown hg (Nat.le_trans c.size (Nat.le_refl _)) (fun k e => by have := (hg1 k e.symm).1; have := Hw1.out; omega)
      have hbx2 := hbx
      replace hbx : Box2 v3 w.heap.size (.int .i64 n.places) tv := box2_kept hbx hg (fun e => by have := (hg1 _ e).1; have := Hw1.out; omega)
      replace hX : CellsAt v3 Bb #[.slice none 0 0, .slice none 0 0, .slice none 0 0] 32 := (hg.block Bb hX.lt (fun e => by have := (hg1 _ e).2; have := HBbB.out; omega)).trans hX
      refine hK.out _ _ ⟨hbx.2.1, hbx.2.2⟩ (fun hH => ?_)
      clear hK
      clear hO hL hg1 hbx2 hg hO2
      refine wpAnyH_ready (rs := [8]) (by kernel_rfl) (by simp) ?_
      refine AllReadyH.cons rfl (fun K hK => ?_) AllReadyH.nil
      simp only [List.getElem_toArray, List.getElem_cons_succ, List.getElem_cons_zero]
      rw [if_pos (by rfl)]
      go_wp2_with fail
      refine (hall_own _ _ _ n i roles (os1 ++ [⟨3, more, noDOp⟩]) v3 (by exact ⟨_, rfl, hT.below c⟩) (by exact hr.below c) (by exact hH2)).mono ?_
      rintro e v4 ⟨rb, lb, lbc, rfl, hDb, _, bs, hFb, _⟩
      rw [HP2.out.1] at hDb
      rw [HP2.out.2]
      obtain ⟨L2, HL2e⟩ : ∃ L, Hid ((hallAll n i roles (os1 ++ [(⟨3, more, noDOp⟩ : HOp)])).2.1.length = L) := ⟨_, rfl⟩
      rw [HL2e.out]
      have KB := (desk_on hDb hFb).weaken (D' := fun k => v3.heap.size ≤ k) (fun k _ hk => hk)
      obtain ⟨b1, b2, b3, b4, b5, b6, b7, b9, rfl, k1, k2, k3⟩ := hDb
      clear k1 k2 k3
      rw [HDL.out] at KB ⊢
      replace KB := KB.weaken (D' := fun k => v3.heap.size ≤ k ∧ k ≠ Bb) (fun k _ hk => ⟨hk, fun e => by have := hX.lt; have hk : v3.heap.size ≤ k := hk; omega⟩)
      have hszc := c.size
      replace hbx := hbx.below bs
      replace c := below_then c bs
      replace KA := KA.below bs
      replace hX := hX.below bs
      refine hK.out _ _ ⟨hbx.2.1, hbx.2.2⟩ (fun hH => ?_)
      clear hK
      clear bs hH2
      refine wpAnyH_take (i := 9) (v := .tuple #[.agg #[.slice b1 b2 b3, .slice b4 b5 b6, .slice b7 DL b9], .slice lb L2 lbc, .int .i64 ER]) rfl (by kernel_rfl) (by kernel_rfl) (by kernel_rfl) (fun _ _ _ h => h) (.inl ⟨by rfl, fun _ _ => rfl⟩) hH ?_
      simp only [List.getElem_toArray, List.getElem_cons_succ, List.getElem_cons_zero, Act.put, List.setIfInBounds_toArray, List.set_cons_zero, List.set_cons_succ]
      refine wpAnyH_take (i := 10) (v := .agg #[.slice b1 b2 b3, .slice b4 b5 b6, .slice b7 DL b9]) rfl (by kernel_rfl) (by kernel_rfl) (by kernel_rfl) (fun _ _ _ h => h) (.inl ⟨by rfl, fun w' hS' => by first | (go_simp; done) | (go_simp; rfl) | (go_simp; intro h; omega) | (go_simp; omega)⟩) hH ?_
      simp only [List.getElem_toArray, List.getElem_cons_succ, List.getElem_cons_zero, Act.put, List.setIfInBounds_toArray, List.set_cons_zero, List.set_cons_succ]
      refine wpAnyH_take (i := 11) (v := .slice lb L2 lbc) rfl (by kernel_rfl) (by kernel_rfl) (by kernel_rfl) (fun _ _ _ h => h) (.inl ⟨by rfl, fun w' hS' => by first | (go_simp; done) | (go_simp; rfl) | (go_simp; intro h; omega) | (go_simp; omega)⟩) hH ?_
      simp only [List.getElem_toArray, List.getElem_cons_succ, List.getElem_cons_zero, Act.put, List.setIfInBounds_toArray, List.set_cons_zero, List.set_cons_succ]
      refine wpAnyH_take (i := 12) (v := .int .i64 ER) rfl (by kernel_rfl) (by kernel_rfl) (by kernel_rfl) (fun _ _ _ h => h) (.inl ⟨by rfl, fun w' hS' => by first | (go_simp; done) | (go_simp; rfl) | (go_simp; intro h; omega) | (go_simp; omega)⟩) hH ?_
      simp only [List.getElem_toArray, List.getElem_cons_succ, List.getElem_cons_zero, Act.put, List.setIfInBounds_toArray, List.set_cons_zero, List.set_cons_succ]
      have f0 := hX.frozen 0
      have f1 := hX.frozen 1
      have f2 := hX.frozen 2
      have x0' : v4.cell? ⟨Bb, 0, none⟩ = some (.slice none 0 0) := hX.cell 0
      have x1' : v4.cell? ⟨Bb, 1, none⟩ = some (.slice none 0 0) := hX.cell 1
      have x2' : v4.cell? ⟨Bb, 2, none⟩ = some (.slice none 0 0) := hX.cell 2
      have hBbw : w.heap.size + 1 ≤ Bb := by have := HBbB.out; have := HB1.out; omega
      have hXf := ((hX.put 0 (.slice b1 b2 b3)).put 1 (.slice b4 b5 b6)).put 2 (.slice b7 DL b9)
      have KBf := ((KB.set (a := ⟨Bb, 0, none⟩) (fun q => q.2 rfl) (.slice b1 b2 b3)).set (a := ⟨Bb, 1, none⟩) (fun q => q.2 rfl) (.slice b4 b5 b6)).set (a := ⟨Bb, 2, none⟩) (fun q => q.2 rfl) (.slice b7 DL b9)
      have cf := ((c.setCell (p := ⟨Bb, 0, none⟩) (Nat.le_of_succ_le hBbw) (.slice b1 b2 b3)).setCell (p := ⟨Bb, 1, none⟩) (Nat.le_of_succ_le hBbw) (.slice b4 b5 b6)).setCell (p := ⟨Bb, 2, none⟩) (Nat.le_of_succ_le hBbw) (.slice b7 DL b9)
      have KAf := ((KA.set (a := ⟨Bb, 0, none⟩) (fun q => HBb2.out q) (.slice b1 b2 b3)).set (a := ⟨Bb, 1, none⟩) (fun q => HBb2.out q) (.slice b4 b5 b6)).set (a := ⟨Bb, 2, none⟩) (fun q => HBb2.out q) (.slice b7 DL b9)
      have hbxf : Box2 (((v4.setCell ⟨Bb, 0, none⟩ (.slice b1 b2 b3)).setCell ⟨Bb, 1, none⟩ (.slice b4 b5 b6)).setCell ⟨Bb, 2, none⟩ (.slice b7 DL b9)) w.heap.size (.int .i64 n.places) tv := box2_aside3 hbx (by omega) _ _ _
      obtain ⟨W9, HW9⟩ : ∃ v, Hid (((v4.setCell ⟨Bb, 0, none⟩ (.slice b1 b2 b3)).setCell ⟨Bb, 1, none⟩ (.slice b4 b5 b6)).setCell ⟨Bb, 2, none⟩ (.slice b7 DL b9) = v) := ⟨_, rfl⟩
      rw [HW9.out] at hXf KBf cf KAf hbxf
      have hXf : CellsAt W9 Bb #[.slice b1 b2 b3, .slice b4 b5 b6, .slice b7 DL b9] 32 := hXf
      refine wpAnyH_ready (rs := [14]) (by kernel_rfl) (by simp) ?_
      refine AllReadyH.cons rfl (fun K hK => ?_) AllReadyH.nil
      simp only [List.getElem_toArray, List.getElem_cons_succ, List.getElem_cons_zero]
      rw [if_pos (by rfl)]
      go_wp2_with fail
      rw [HW9.out]
      refine hK.out _ _ ⟨hbxf.2.1, hbxf.2.2⟩ (fun hH => ?_)
      clear hK
      refine wpAnyH_take (i := 15) (v := .slice lb L2 lbc) rfl (by kernel_rfl) (by kernel_rfl) (by kernel_rfl) (fun _ _ _ h => h) (.inl ⟨by rfl, fun _ _ => rfl⟩) hH ?_
      simp only [List.getElem_toArray, List.getElem_cons_succ, List.getElem_cons_zero, Act.put, List.setIfInBounds_toArray, List.set_cons_zero, List.set_cons_succ]
      refine wpAnyH_take (i := 16) (v := .int .i64 ER) rfl (by kernel_rfl) (by kernel_rfl) (by kernel_rfl) (fun _ _ _ h => h) (.inl ⟨by rfl, fun _ _ => rfl⟩) hH ?_
      simp only [List.getElem_toArray, List.getElem_cons_succ, List.getElem_cons_zero, Act.put, List.setIfInBounds_toArray, List.set_cons_zero, List.set_cons_succ]
      refine wpAnyH_done (by kernel_rfl) ?_ _
      go_wp2_with fail
      go_meet
      exact ⟨Bb, b1, b2, b3, b4, b5, b6, b7, b9, rfl, rfl, hXf, KBf.now, KAf.now, cf⟩
  case rest =>
    obtain ⟨Bb, b1, b2, b3, b4, b5, b6, b7, b9, rfl, rfl, hXb, hDb, ⟨hDa, hXa, _⟩, c⟩ := hcut
    obtain ⟨w9, rfl⟩ : ∃ w9, w9 = wc := ⟨_, rfl⟩
    have e1 : (ER == ER) = true := by simp
    have y0 : w9.cell? ⟨Bb, 0, none⟩ = some (.slice b1 b2 b3) := hXb.cell 0
    have y1 : w9.cell? ⟨Bb, 1, none⟩ = some (.slice b4 b5 b6) := hXb.cell 1
    have y2 : w9.cell? ⟨Bb, 2, none⟩ = some (.slice b7 DL b9) := hXb.cell 2
    have z0 : w9.cell? ⟨Ba, 0, none⟩ = some (.slice d1 d2 d3) := hXa.cell 0
    have z1 : w9.cell? ⟨Ba, 1, none⟩ = some (.slice d4 d5 d6) := hXa.cell 1
    have z2 : w9.cell? ⟨Ba, 2, none⟩ = some (.slice d7 DL d9) := hXa.cell 2
    go_wp2_with fail
    refine (samedesk_same _ _ DA w9 (by exact hDa) (by exact hDb)).mono ?_
    rintro e w10 ⟨rfl, b⟩
    replace c := below_then c b
    clear y0 y1 y2 z0 z1 z2
    go_wp2
    go_ret
    exact ⟨rfl, c⟩

end Go.Proofs.Ytaladbcocealnaa

/- Without a crash it is a desk. (Made by tools/gen_hallsame.py.) -/
namespace Go.Proofs.Ytaladbcocealnaa
open Go.RowKit
set_option linter.unusedVariables false
set_option linter.unusedSimpArgs false
set_option maxRecDepth 4000

theorem On.both {D : Nat → Prop} {w : World} {R Q : World → Prop} (h : On D w R) (g : On D w Q) : On D w (fun w' => R w' ∧ Q w') := fun w' hs hk => ⟨h w' hs hk, g w' hs hk⟩
theorem run_max4 (p1 p2 p3 p4 : Int) : ∃ m : Int, (m ≤ 255 ↔ p1 ≤ 255 ∧ p2 ≤ 255 ∧ p3 ≤ 255 ∧ p4 ≤ 255) ∧ ∀ (ts : Array TypeId) (t : TypeId) (w : World), (Builtin.max_ ts t #[.int .i64 p1, .int .i64 p2, .int .i64 p3, .int .i64 p4]).run Try.prog w = .ok (.int .i64 m) w := by
  refine ⟨max (max (max p1 p2) p3) p4, by omega, fun ts t w => ?_⟩
  simp [Builtin.max_, Builtin.max2, go_sem]
  try omega

/-- What a hall comes to in which all is sure at once, and a desk. -/
theorem same_all (n : NetL) (i : Int) (roles : List (List Int)) (os : List DOp) (hf : AllFit os) :
    (hallAll n i roles (hallOps os ++ [⟨3, 0, noDOp⟩])).1 = (deskAll n i roles os).1 ∧ (hallAll n i roles (hallOps os ++ [⟨3, 0, noDOp⟩])).2.2 = (deskAll n i roles os).2.2 ∧
      ((deskAll n i roles os).2.2 = 0 → (hallAll n i roles (hallOps os ++ [⟨3, 0, noDOp⟩])).2.1.length = 2 * os.length + 1 ∧ (deskAll n i roles os).2.1.length = os.length ∧ ∀ k, k < os.length → dansAt (hallAll n i roles (hallOps os ++ [⟨3, 0, noDOp⟩])).2.1 (2 * k) = dansAt (deskAll n i roles os).2.1 k) := by
  unfold hallAll deskAll
  by_cases h : (beginC n i).2 = 0
  · rw [if_pos h, if_pos h]
    refine ⟨hall_same_desk n roles _ os hf ⟨3, 0, noDOp⟩ rfl, rfl, fun _ => ⟨?_, ?_, fun k hk => hall_same_ans n roles _ os hf ⟨3, 0, noDOp⟩ hk⟩⟩
    · show (hallPlay _ _ _ _ _).2.length = _
      rw [hall_length, List.length_append, hallOps_length]; rfl
    · show (deskPlay _ _ _ _).2.length = _
      rw [desk_length]
  · rw [if_neg h, if_neg h]
    exact ⟨rfl, rfl, fun q => absurd q h⟩
theorem hopCells_two (o : DOp) : hopCells [⟨1, 0, o⟩, ⟨2, 0, noDOp⟩] = [.int .i64 1, .int .i64 0, .int .i64 o.kind, .int .i64 o.user, .int .i64 o.tran, .int .i64 o.item, .int .i64 o.hand, .int .i64 2, .int .i64 0, .int .i64 0, .int .i64 0, .int .i64 0, .int .i64 0, .int .i64 0] := rfl

set_option maxHeartbeats 8000000 in
theorem hallSame_walk (v r u : Value) (n : NetL) (i : Int) (roles : List (List Int)) (os : List DOp) (w : World) (hv : Net w v n) (hr : Lists w r roles) (hu : DOpsV w u os) (hbk : BulkNet n) (hsz : os.length ≤ 1048576) :
    Calls Try.prog 6 #[v, .int .i64 i, r, u] w fun e w' => e = .returned (.bool true) ∧ Below w.heap.size w w' := by
  obtain ⟨tv, rfl, hT⟩ := hv
  obtain ⟨ua, ucap, rfl, hmx, hsh⟩ := hu.slice
  have c := below_new w (.cells #[.int .i64 n.places, tv] 24)
  have hbx := box2_new w (.int .i64 n.places) tv 24
  obtain ⟨w0, Hw0⟩ : ∃ w0, Hid (w.alloc (.cells #[.int .i64 n.places, tv] 24) = w0) := ⟨_, rfl⟩
  rw [Hw0.out] at c hbx
  obtain ⟨N, HN⟩ : ∃ N, Hid (os.length = N) := ⟨_, rfl⟩
  rw [HN.out] at hu hsz ⊢
  have hN9 : N ≤ 1048576 := hsz
  have HU : Hid (DOpsV w (.slice ua N ucap) os) := hu
  clear hsz hmx hsh hu hbk
  go_enter Try.func6, Try.ntmps6
  go_upto_region 1 with fail
  rw [Hw0.out]
  go_wp2_with fail
  refine (alive19_any w0).mono ?_
  rintro e w1 ⟨rfl, b⟩
  have Hw1 : Hid (w.heap.size + 1 ≤ w1.heap.size) := by
    have e : w0.heap.size = w.heap.size + 1 := by rw [← Hw0.out]; simp
    have := b.size
    show _ ≤ _
    omega
  clear Hw0
  replace c := below_then c b
  replace hbx := hbx.below b
  clear b
  have Hc1 : Hid (Below w.heap.size w w1) := c
  have Hbx1 : Hid (Box2 w1 w.heap.size (.int .i64 n.places) tv) := hbx
  clear c hbx
  go_wp2_with fail
  go_loopg [9, 23] N (fun gk lv kv wr => ∃ k : Nat, k + gk = N ∧ kv = .int .i64 (k : Int) ∧ OwnC w1.heap.size w1 wr 47 7 lv (2 * k) (hopCells (hallOps (os.take k))) ∧ Hid (∀ j, j < k → fitsO (dopAt os j) = true))
  case atStart => exact ⟨0, by omega, rfl, OwnC.nil _ _ _, fun j hj => absurd hj (Nat.not_lt_zero _)⟩
  case round =>
    obtain ⟨k, hkg, rfl, hO, HF⟩ := hrel
    have c := below_then Hc1.out hO.2.1
    have hbx := Hbx1.out.below hO.2.1
    by_cases hk : k < N
    · obtain ⟨ub, uo, rfl, hul, p0, p1, p2, p3, p4⟩ := (HU.out.below c).at hk
      have Hsn : Hid (hallOps (os.take (k + 1)) = hallOps (os.take k) ++ [⟨1, 0, dopAt os k⟩, ⟨2, 0, noDOp⟩]) := by
        show _ = _
        rw [dop_snoc (by rw [HN.out]; exact hk), hallOps_snoc]
      have HF2 : Hid (fitsO (dopAt os k) = true → ∀ j, j < k + 1 → fitsO (dopAt os j) = true) := fun h j hj => by
        by_cases q : j = k
        · rw [q]; exact h
        · exact HF.out j (by omega)
      obtain ⟨op, Hop⟩ : ∃ o, Hid (dopAt os k = o) := ⟨_, rfl⟩
      rw [Hop.out] at p0 p1 p2 p3 p4 Hsn HF2
      obtain ⟨kd, us, tr, it, hd⟩ := op
      obtain ⟨oa, oc, rfl⟩ := hO.slice
      have bo := below_new wr (.cells #[.int .i64 kd, .int .i64 us, .int .i64 tr, .int .i64 it, .int .i64 hd] 45)
      have hbo := cellsAt_new wr #[.int .i64 kd, .int .i64 us, .int .i64 tr, .int .i64 it, .int .i64 hd] 45
      obtain ⟨Bx, HBx⟩ : ∃ B, Hid (wr.heap.size = B) := ⟨_, rfl⟩
      obtain ⟨wo, Hwo⟩ : ∃ v, Hid (wr.alloc (.cells #[.int .i64 kd, .int .i64 us, .int .i64 tr, .int .i64 it, .int .i64 hd] 45) = v) := ⟨_, rfl⟩
      rw [Hwo.out] at bo hbo
      rw [HBx.out] at hbo
      go_upto_region 7 with fail
      rw [Hwo.out, HBx.out]
      replace hO := hO.trans bo
      replace c := below_then c bo
      clear Hwo HBx p0 p1 p2 p3 p4 hul bo hbx
      have q0 : wo.cell? ⟨Bx, 0, none⟩ = some (.int .i64 kd) := hbo.cell 0
      have q1 : wo.cell? ⟨Bx, 1, none⟩ = some (.int .i64 us) := hbo.cell 1
      have q2 : wo.cell? ⟨Bx, 2, none⟩ = some (.int .i64 tr) := hbo.cell 2
      have q3 : wo.cell? ⟨Bx, 3, none⟩ = some (.int .i64 it) := hbo.cell 3
      have q4 : wo.cell? ⟨Bx, 4, none⟩ = some (.int .i64 hd) := hbo.cell 4
      have hbl := hbo.lt
      obtain ⟨mx, hmx1, hmx2⟩ := run_max4 kd us tr hd
      have Hmx1 : Hid _ := hmx1
      clear hmx1
      by_cases a1 : kd < 0
      · have d1 : decide (kd < 0) = true := decide_eq_true a1
        clear a1
        go_wp2
        go_ret
        exact ⟨rfl, c⟩
      have d1 : decide (kd < 0) = false := decide_eq_false a1
      by_cases a2 : us < 0
      · have d2 : decide (us < 0) = true := decide_eq_true a2
        clear a1 a2
        go_wp2
        go_ret
        exact ⟨rfl, c⟩
      have d2 : decide (us < 0) = false := decide_eq_false a2
      by_cases a3 : tr < 0
      · have d3 : decide (tr < 0) = true := decide_eq_true a3
        clear a1 a2 a3
        go_wp2
        go_ret
        exact ⟨rfl, c⟩
      have d3 : decide (tr < 0) = false := decide_eq_false a3
      by_cases a4 : hd < 0
      · have d4 : decide (hd < 0) = true := decide_eq_true a4
        clear a1 a2 a3 a4
        go_wp2
        go_ret
        exact ⟨rfl, c⟩
      have d4 : decide (hd < 0) = false := decide_eq_false a4
      by_cases a5 : it < 0
      · have d5 : decide (it < 0) = true := decide_eq_true a5
        clear a1 a2 a3 a4 a5
        go_wp2
        go_ret
        exact ⟨rfl, c⟩
      have d5 : decide (it < 0) = false := decide_eq_false a5
      by_cases a6 : 255 < mx
      · have d6 : decide (255 < mx) = true := decide_eq_true a6
        clear a1 a2 a3 a4 a5 a6
        go_wp2
        go_ret
        exact ⟨rfl, c⟩
      have d6 : decide (255 < mx) = false := decide_eq_false a6
      by_cases a7 : 65535 < it
      · have d7 : decide (65535 < it) = true := decide_eq_true a7
        clear a1 a2 a3 a4 a5 a6 a7
        go_wp2
        go_ret
        exact ⟨rfl, c⟩
      have d7 : decide (65535 < it) = false := decide_eq_false a7
      have HF3 := HF2.out (by
        obtain ⟨m1, m2, m3, m4⟩ := Hmx1.out.1 (by omega)
        rw [fits_iff]
        simp only [isByte]
        omega)
      have HF4 : Hid (∀ j, j < k + 1 → fitsO (dopAt os j) = true) := HF3
      clear HF3 HF2 a1 a2 a3 a4 a5 a6 a7
      have bl := below_new wo (.cells #[.int .i64 1, .int .i64 0, .int .i64 kd, .int .i64 us, .int .i64 tr, .int .i64 it, .int .i64 hd, .int .i64 2, .int .i64 0, .int .i64 0, .int .i64 0, .int .i64 0, .int .i64 0, .int .i64 0] 47)
      have hl := cellsAt_new wo #[.int .i64 1, .int .i64 0, .int .i64 kd, .int .i64 us, .int .i64 tr, .int .i64 it, .int .i64 hd, .int .i64 2, .int .i64 0, .int .i64 0, .int .i64 0, .int .i64 0, .int .i64 0, .int .i64 0] 47
      obtain ⟨Bl, HBl⟩ : ∃ B, Hid (wo.heap.size = B) := ⟨_, rfl⟩
      obtain ⟨wl, Hwl⟩ : ∃ v, Hid (wo.alloc (.cells #[.int .i64 1, .int .i64 0, .int .i64 kd, .int .i64 us, .int .i64 tr, .int .i64 it, .int .i64 hd, .int .i64 2, .int .i64 0, .int .i64 0, .int .i64 0, .int .i64 0, .int .i64 0, .int .i64 0] 47) = v) := ⟨_, rfl⟩
      rw [Hwl.out] at bl hl
      rw [HBl.out] at hl
      have hlt := hl.lt
      have hLit : CellsV wl (.slice (some ⟨Bl, 0, none⟩) 2 2) 7 2513169434916 2 (hopCells [⟨1, 0, ⟨kd, us, tr, it, hd⟩⟩, ⟨2, 0, noDOp⟩]) := by
        refine ⟨_, _, rfl, rfl, by omega, ⟨Nat.le_refl _, by omega, fun h => by cases h⟩, hopCells_one _, fun j u hj => ⟨_, 0, rfl, hlt, ?_⟩⟩
        rw [Nat.zero_add, hl.cell]
        rw [hopCells_two] at hj
        simpa using hj
      have hO2 := hO.trans bl
      have HL1 : Hid (2 * k + 2 ≤ maxLen) := by show _ ≤ _; unfold maxLen; omega
      have HL2 : Hid ((2 * k + 2) * 56 ≤ 140737488355328) := by show _ ≤ _; omega
      have HkN : Hid (k < N) := hk
      go_wp2_with (rw [Hwl.out, HBl.out]; at_builtin; refine wp_append_cells elem_hops rfl _ _ rfl w1.heap.size w1 wl _ _ (2 * k) 2 2513169434916 (hopCells (hallOps (os.take k))) (hopCells [⟨1, 0, ⟨kd, us, tr, it, hd⟩⟩, ⟨2, 0, noDOp⟩]) hO2 rfl rfl hLit HL1.out HL2.out ?_; intro v' w6 hO6 _)
      go_roundg (gk - 1)
      case measure => have := HkN.out; omega
      case rel => exact ⟨k + 1, by have := HkN.out; omega, by go_num, by rw [Hsn.out, hopCells_append]; exact hO6, HF4⟩
    · obtain rfl : k = N := by omega
      have Hfit : Hid (AllFit os) := fun j hj => HF.out j (by rw [← HN.out]; exact hj)
      have et : os.take k = os := List.take_of_length_le (by rw [HN.out]; exact Nat.le_refl _)
      rw [et] at hO
      clear et HF hk hkg
      obtain ⟨os1, Hos1⟩ : ∃ l, Hid (hallOps os = l) := ⟨_, rfl⟩
      obtain ⟨M, HM⟩ : ∃ M, Hid (2 * k = M) := ⟨_, rfl⟩
      have hM9 : M ≤ 2097152 := by have := HM.out; omega
      rw [HM.out, Hos1.out] at hO
      have HN1 : Hid (os1.length = M) := by show _ = _; rw [← Hos1.out, hallOps_length, HN.out, HM.out]
      have HL1 : Hid (M + 1 ≤ maxLen) := by show _ ≤ _; unfold maxLen; omega
      have HL2 : Hid ((M + 1) * 56 ≤ 140737488355328) := by show _ ≤ _; omega
      have HL3 : Hid (M + 1 ≤ 2513169434916) := by show _ ≤ _; omega
      obtain ⟨oa, oc, rfl⟩ := hO.slice
      obtain ⟨DA, HDA⟩ : ∃ D, Hid ((deskAll n i roles os).1 = D) := ⟨_, rfl⟩
      obtain ⟨ER, HER⟩ : ∃ D, Hid ((deskAll n i roles os).2.2 = D) := ⟨_, rfl⟩
      obtain ⟨YA, HYA⟩ : ∃ D, Hid ((deskAll n i roles os).2.1 = D) := ⟨_, rfl⟩
      obtain ⟨XA, HXA⟩ : ∃ D, Hid ((hallAll n i roles (hallOps os ++ [(⟨3, 0, noDOp⟩ : HOp)])).2.1 = D) := ⟨_, rfl⟩
      obtain ⟨XL, HXL⟩ : ∃ D, Hid (XA.length = D) := ⟨_, rfl⟩
      obtain ⟨YL, HYL⟩ : ∃ D, Hid (YA.length = D) := ⟨_, rfl⟩
      obtain ⟨DL, HDL⟩ : ∃ D, Hid (DA.items.length = D) := ⟨_, rfl⟩
      have HP2 : Hid ((hallAll n i roles (os1 ++ [⟨3, 0, noDOp⟩])).1 = DA ∧ (hallAll n i roles (os1 ++ [⟨3, 0, noDOp⟩])).2.2 = ER ∧ (hallAll n i roles (os1 ++ [⟨3, 0, noDOp⟩])).2.1 = XA) := by
        obtain ⟨e1, e2, _⟩ := same_all n i roles os Hfit.out
        rw [← Hos1.out, ← HDA.out, ← HER.out]
        exact ⟨e1, e2, HXA.out⟩
      have HP3 : Hid (ER = 0 → XL = M + 1 ∧ YL = k ∧ ∀ j, j < k → dansAt XA (2 * j) = dansAt YA j) := fun h0 => by
        obtain ⟨_, _, e3⟩ := same_all n i roles os Hfit.out
        rw [HER.out, HYA.out, HXA.out, HN.out, HXL.out, HYL.out, HM.out] at e3
        exact e3 h0
      obtain ⟨B1, HB1e⟩ : ∃ B, Hid (wr.heap.size = B) := ⟨_, rfl⟩
      have HB1 : Hid (w.heap.size + 1 ≤ B1) := by have := Hw1.out; have := hO.2.1.size; show _ ≤ _; rw [← HB1e.out]; omega
      have HOB : Hid (∀ q, (Value.slice oa M oc).ownBlock = some q → q < B1) := fun q e => by rw [← HB1e.out]; exact (hO.1.lt q e).2
      have KA : On (fun _ => False) wr (fun w' => B1 ≤ w'.heap.size) := fun w' hs _ => by rw [← HB1e.out]; exact hs
      obtain ⟨w4, rfl⟩ : ∃ w4, w4 = wr := ⟨_, rfl⟩
      go_upto_region 11 with fail
      go_cut [12, 13, 14] (fun x12 x13 x14 wc => ∃ (Bb : Nat) (b1 : Option Addr) (b2 b3 : Nat) (b4 : Option Addr) (b5 b6 : Nat) (b7 : Option Addr) (b9 : Nat) (lb : Option Addr) (lbc : Nat), x12 = .pointer (some ⟨Bb, 0, none⟩) ∧ x13 = .slice lb XL lbc ∧ x14 = .int .i64 ER ∧ CellsAt wc Bb #[.slice b1 b2 b3, .slice b4 b5 b6, .slice b7 DL b9] 32 ∧ (DeskV wc (.agg #[.slice b1 b2 b3, .slice b4 b5 b6, .slice b7 DL b9]) DA ∧ OpsV wc (.slice lb XL lbc) (ansL XA)) ∧ Box2 wc w.heap.size (.int .i64 n.places) tv ∧ Below w.heap.size w wc)
      case first =>
        refine wp_region_held_drew (S := (fun w' => w'.cell? ⟨w.heap.size, 0, none⟩ = some (.int .i64 n.places) ∧ w'.cell? ⟨w.heap.size, 1, none⟩ = some (tv))) (by kernel_rfl) ⟨(hbx.below (Below.refl _ _).drew).2.1, (hbx.below (Below.refl _ _).drew).2.2⟩ (fun hH => ?_)
        have b : Below w4.heap.size w4 w4.drew := (Below.refl _ _).drew
        obtain ⟨v0, Hv0⟩ : ∃ v0, Hid (w4.drew = v0) := ⟨_, rfl⟩
        rw [Hv0.out] at hH b ⊢
        clear Hv0
        replace hbx := hbx.below b
        replace c := below_then c b
        replace hO := hO.trans b
        replace KA := KA.below b
        clear b
        refine wpAnyH_take (i := 0) (v := .agg #[.int .i64 n.places, tv]) rfl (by kernel_rfl) (by kernel_rfl) (by kernel_rfl) (fun _ _ _ h => h) (.inl ⟨by rfl, fun w' hS' => by obtain ⟨s0, s1⟩ := hS'; go_simp⟩) hH ?_
        simp only [List.getElem_toArray, List.getElem_cons_succ, List.getElem_cons_zero, Act.put, List.setIfInBounds_toArray, List.set_cons_zero, List.set_cons_succ]
        refine wpAnyH_take (i := 1) (v := .int .i64 i) rfl (by kernel_rfl) (by kernel_rfl) (by kernel_rfl) (fun _ _ _ h => h) (.inl ⟨by rfl, fun _ _ => rfl⟩) hH ?_
        simp only [List.getElem_toArray, List.getElem_cons_succ, List.getElem_cons_zero, Act.put, List.setIfInBounds_toArray, List.set_cons_zero, List.set_cons_succ]
        refine wpAnyH_take (i := 2) (v := r) rfl (by kernel_rfl) (by kernel_rfl) (by kernel_rfl) (fun _ _ _ h => h) (.inl ⟨by rfl, fun _ _ => rfl⟩) hH ?_
        simp only [List.getElem_toArray, List.getElem_cons_succ, List.getElem_cons_zero, Act.put, List.setIfInBounds_toArray, List.set_cons_zero, List.set_cons_succ]
        refine wpAnyH_take (i := 3) (v := .slice oa M oc) rfl (by kernel_rfl) (by kernel_rfl) (by kernel_rfl) (fun _ _ _ h => h) (.inl ⟨by rfl, fun _ _ => rfl⟩) hH ?_
        simp only [List.getElem_toArray, List.getElem_cons_succ, List.getElem_cons_zero, Act.put, List.setIfInBounds_toArray, List.set_cons_zero, List.set_cons_succ]
        refine wpAnyH_take (i := 4) (v := .agg #[.int .i64 3, .int .i64 0, .int .i64 0, .int .i64 0, .int .i64 0, .int .i64 0, .int .i64 0]) rfl (by kernel_rfl) (by kernel_rfl) (by kernel_rfl) (fun _ _ _ h => h) (.inl ⟨by rfl, fun w' hS' => by first | (go_simp; done) | (go_simp; rfl) | (go_simp; intro h; omega) | (go_simp; omega)⟩) hH ?_
        simp only [List.getElem_toArray, List.getElem_cons_succ, List.getElem_cons_zero, Act.put, List.setIfInBounds_toArray, List.set_cons_zero, List.set_cons_succ]
        refine wpAnyH_ready (rs := [5, 12]) (by kernel_rfl) (by simp) ?_
        refine (AllReadyH.cons rfl (fun K hK => ?_) (AllReadyH.cons rfl (fun K hK => ?_) AllReadyH.nil))
        · simp only [List.getElem_toArray, List.getElem_cons_succ, List.getElem_cons_zero]
          rw [if_pos (by rfl)]
          have bs := below_new v0 (.cells #[.int .i64 3, .int .i64 0, .int .i64 0, .int .i64 0, .int .i64 0, .int .i64 0, .int .i64 0] 47)
          have hL := cellsAt_new v0 #[.int .i64 3, .int .i64 0, .int .i64 0, .int .i64 0, .int .i64 0, .int .i64 0, .int .i64 0] 47
          obtain ⟨Bl, HBl⟩ : ∃ B, Hid (v0.heap.size = B) := ⟨_, rfl⟩
          obtain ⟨v1, Hv1⟩ : ∃ v, Hid (v0.alloc (.cells #[.int .i64 3, .int .i64 0, .int .i64 0, .int .i64 0, .int .i64 0, .int .i64 0, .int .i64 0] 47) = v) := ⟨_, rfl⟩
          rw [Hv1.out] at bs hL
          rw [HBl.out] at hL
          go_wp2_with fail
          rw [Hv1.out, HBl.out]
          replace hbx := hbx.below bs
          replace c := below_then c bs
          replace KA := KA.below bs
          replace hO := hO.trans bs
          refine hK.out _ _ ⟨hbx.2.1, hbx.2.2⟩ (fun hH => ?_)
          clear hK
          clear bs
          refine wpAnyH_ready (rs := [6, 12]) (by kernel_rfl) (by simp) ?_
          refine (AllReadyH.cons rfl (fun K hK => ?_) (AllReadyH.cons rfl (fun K hK => ?_) AllReadyH.nil))
          · simp only [List.getElem_toArray, List.getElem_cons_succ, List.getElem_cons_zero]
            refine wpr_append_cells elem_hops (by rfl) _ _ rfl w1.heap.size w1 v1 (.slice oa M oc) M 1 1 ⟨Bl, 0, none⟩ (hopCells os1) (hopA ⟨3, 0, noDOp⟩).toList hO rfl rfl rfl (fun j u hj => by rw [addr_add, Nat.zero_add, hL.cell]; simpa [hopA, noDOp] using hj) (fun u hu => hopCells_one [⟨3, 0, noDOp⟩] u (by simpa [hopCells] using hu)) HL1.out HL2.out ?_
            intro nv v2 hO2 hg
            obtain ⟨na, nl, nc, rfl⟩ := ownsRow_slice hO2.1
            rw [show hopCells os1 ++ (hopA ⟨3, 0, noDOp⟩).toList = hopCells (os1 ++ [⟨3, 0, noDOp⟩]) by rw [hopCells_append]; simp [hopCells]] at hO2
            have hH2 := OwnC.hops hO2 (by rw [List.length_append, HN1.out]; rfl) HL3.out
            have hg1 : ∀ k, some k = (Value.slice oa M oc).ownBlock → w1.heap.size ≤ k ∧ k < B1 := fun k e => ⟨(hO.1.lt k e.symm).1, HOB.out k e.symm⟩
            replace KA := KA.grown hg (fun k _ hD e => hD.elim)
            replace c : Below w.heap.size w v2 := c.grown hg (Nat.le_trans c.size (Nat.le_refl _)) (fun k e => by have := (hg1 k e.symm).1; have := Hw1.out; omega)
            have hbx2 := hbx
            replace hbx : Box2 v2 w.heap.size (.int .i64 n.places) tv := box2_kept hbx hg (fun e => by have := (hg1 _ e).1; have := Hw1.out; omega)
            refine hK.out _ _ ⟨hbx.2.1, hbx.2.2⟩ (fun hH => ?_)
            clear hK
            clear hO hL hg1 hbx2 hg hO2
            refine wpAnyH_ready (rs := [7, 12]) (by kernel_rfl) (by simp) ?_
            refine (AllReadyH.cons rfl (fun K hK => ?_) (AllReadyH.cons rfl (fun K hK => ?_) AllReadyH.nil))
            · simp only [List.getElem_toArray, List.getElem_cons_succ, List.getElem_cons_zero]
              rw [if_pos (by rfl)]
              go_wp2_with fail
              refine (hall_own _ _ _ n i roles (os1 ++ [⟨3, 0, noDOp⟩]) v2 (by exact ⟨_, rfl, hT.below c⟩) (by exact hr.below c) (by exact hH2)).mono ?_
              rintro e v3 ⟨rb, lb, lbc, rfl, hDb, hAb, bs, hFb, hFa⟩
              rw [HP2.out.1] at hDb
              rw [HP2.out.2.2] at hAb hFa ⊢
              rw [HXL.out] at hAb hFa ⊢
              rw [HP2.out.2.1]
              have KB := On.both ((desk_on hDb hFb).weaken (D' := fun k => v2.heap.size ≤ k) (fun k _ hk => hk)) (ans_on hAb hFa)
              obtain ⟨b1, b2, b3, b4, b5, b6, b7, b9, rfl, k1, k2, k3⟩ := hDb
              clear k1 k2 k3
              rw [HDL.out] at KB ⊢
              have hszc := c.size
              replace hbx := hbx.below bs
              replace c := below_then c bs
              replace KA := KA.below bs
              refine hK.out _ _ ⟨hbx.2.1, hbx.2.2⟩ (fun hH => ?_)
              clear hK
              clear bs hH2
              refine wpAnyH_take (i := 8) (v := .tuple #[.agg #[.slice b1 b2 b3, .slice b4 b5 b6, .slice b7 DL b9], .slice lb XL lbc, .int .i64 ER]) rfl (by kernel_rfl) (by kernel_rfl) (by kernel_rfl) (fun _ _ _ h => h) (.inl ⟨by rfl, fun _ _ => rfl⟩) hH ?_
              simp only [List.getElem_toArray, List.getElem_cons_succ, List.getElem_cons_zero, Act.put, List.setIfInBounds_toArray, List.set_cons_zero, List.set_cons_succ]
              refine wpAnyH_take (i := 9) (v := .agg #[.slice b1 b2 b3, .slice b4 b5 b6, .slice b7 DL b9]) rfl (by kernel_rfl) (by kernel_rfl) (by kernel_rfl) (fun _ _ _ h => h) (.inl ⟨by rfl, fun w' hS' => by first | (go_simp; done) | (go_simp; rfl) | (go_simp; intro h; omega) | (go_simp; omega)⟩) hH ?_
              simp only [List.getElem_toArray, List.getElem_cons_succ, List.getElem_cons_zero, Act.put, List.setIfInBounds_toArray, List.set_cons_zero, List.set_cons_succ]
              refine wpAnyH_take (i := 10) (v := .slice lb XL lbc) rfl (by kernel_rfl) (by kernel_rfl) (by kernel_rfl) (fun _ _ _ h => h) (.inl ⟨by rfl, fun w' hS' => by first | (go_simp; done) | (go_simp; rfl) | (go_simp; intro h; omega) | (go_simp; omega)⟩) hH ?_
              simp only [List.getElem_toArray, List.getElem_cons_succ, List.getElem_cons_zero, Act.put, List.setIfInBounds_toArray, List.set_cons_zero, List.set_cons_succ]
              refine wpAnyH_take (i := 11) (v := .int .i64 ER) rfl (by kernel_rfl) (by kernel_rfl) (by kernel_rfl) (fun _ _ _ h => h) (.inl ⟨by rfl, fun w' hS' => by first | (go_simp; done) | (go_simp; rfl) | (go_simp; intro h; omega) | (go_simp; omega)⟩) hH ?_
              simp only [List.getElem_toArray, List.getElem_cons_succ, List.getElem_cons_zero, Act.put, List.setIfInBounds_toArray, List.set_cons_zero, List.set_cons_succ]
              have bs := below_new v3 (.cells #[.slice none 0 0, .slice none 0 0, .slice none 0 0] 32)
              have hX := cellsAt_new v3 #[.slice none 0 0, .slice none 0 0, .slice none 0 0] 32
              obtain ⟨Bb, HBb⟩ : ∃ B, Hid (v3.heap.size = B) := ⟨_, rfl⟩
              obtain ⟨v4, Hv4⟩ : ∃ v, Hid (v3.alloc (.cells #[.slice none 0 0, .slice none 0 0, .slice none 0 0] 32) = v) := ⟨_, rfl⟩
              rw [Hv4.out] at bs hX
              rw [HBb.out] at hX
              have HBb2 : Hid (¬ False) := fun q => q
              have HBbB : Hid (B1 ≤ Bb) := by show _ ≤ _; rw [← HBb.out]; exact KA.now
              refine wpAnyH_ready (rs := [12]) (by kernel_rfl) (by simp) ?_
              refine AllReadyH.cons rfl (fun K hK => ?_) AllReadyH.nil
              simp only [List.getElem_toArray, List.getElem_cons_succ, List.getElem_cons_zero]
              rw [if_pos (by rfl)]
              go_wp2_with fail
              rw [Hv4.out, HBb.out]
              replace KB := KB.skip (.cells #[.slice none 0 0, .slice none 0 0, .slice none 0 0] 32)
              rw [Hv4.out, HBb.out] at KB
              replace hbx := hbx.below bs
              replace c := below_then c bs
              replace KA := KA.below bs
              refine hK.out _ _ ⟨hbx.2.1, hbx.2.2⟩ (fun hH => ?_)
              clear hK
              clear bs
              have f0 := hX.frozen 0
              have f1 := hX.frozen 1
              have f2 := hX.frozen 2
              have x0' : v4.cell? ⟨Bb, 0, none⟩ = some (.slice none 0 0) := hX.cell 0
              have x1' : v4.cell? ⟨Bb, 1, none⟩ = some (.slice none 0 0) := hX.cell 1
              have x2' : v4.cell? ⟨Bb, 2, none⟩ = some (.slice none 0 0) := hX.cell 2
              have hBbw : w.heap.size + 1 ≤ Bb := by have := HBbB.out; have := HB1.out; omega
              have hXf := ((hX.put 0 (.slice b1 b2 b3)).put 1 (.slice b4 b5 b6)).put 2 (.slice b7 DL b9)
              have KBf := ((KB.set (a := ⟨Bb, 0, none⟩) (fun q => q.2 rfl) (.slice b1 b2 b3)).set (a := ⟨Bb, 1, none⟩) (fun q => q.2 rfl) (.slice b4 b5 b6)).set (a := ⟨Bb, 2, none⟩) (fun q => q.2 rfl) (.slice b7 DL b9)
              have cf := ((c.setCell (p := ⟨Bb, 0, none⟩) (Nat.le_of_succ_le hBbw) (.slice b1 b2 b3)).setCell (p := ⟨Bb, 1, none⟩) (Nat.le_of_succ_le hBbw) (.slice b4 b5 b6)).setCell (p := ⟨Bb, 2, none⟩) (Nat.le_of_succ_le hBbw) (.slice b7 DL b9)
              have KAf := ((KA.set (a := ⟨Bb, 0, none⟩) (fun q => HBb2.out q) (.slice b1 b2 b3)).set (a := ⟨Bb, 1, none⟩) (fun q => HBb2.out q) (.slice b4 b5 b6)).set (a := ⟨Bb, 2, none⟩) (fun q => HBb2.out q) (.slice b7 DL b9)
              have hbxf : Box2 (((v4.setCell ⟨Bb, 0, none⟩ (.slice b1 b2 b3)).setCell ⟨Bb, 1, none⟩ (.slice b4 b5 b6)).setCell ⟨Bb, 2, none⟩ (.slice b7 DL b9)) w.heap.size (.int .i64 n.places) tv := box2_aside3 hbx (by omega) _ _ _
              obtain ⟨W9, HW9⟩ : ∃ v, Hid (((v4.setCell ⟨Bb, 0, none⟩ (.slice b1 b2 b3)).setCell ⟨Bb, 1, none⟩ (.slice b4 b5 b6)).setCell ⟨Bb, 2, none⟩ (.slice b7 DL b9) = v) := ⟨_, rfl⟩
              rw [HW9.out] at hXf KBf cf KAf hbxf
              have hXf : CellsAt W9 Bb #[.slice b1 b2 b3, .slice b4 b5 b6, .slice b7 DL b9] 32 := hXf
              refine wpAnyH_ready (rs := [13]) (by kernel_rfl) (by simp) ?_
              refine AllReadyH.cons rfl (fun K hK => ?_) AllReadyH.nil
              simp only [List.getElem_toArray, List.getElem_cons_succ, List.getElem_cons_zero]
              rw [if_pos (by rfl)]
              go_wp2_with fail
              rw [HW9.out]
              refine hK.out _ _ ⟨hbxf.2.1, hbxf.2.2⟩ (fun hH => ?_)
              clear hK
              refine wpAnyH_take (i := 14) (v := .slice lb XL lbc) rfl (by kernel_rfl) (by kernel_rfl) (by kernel_rfl) (fun _ _ _ h => h) (.inl ⟨by rfl, fun _ _ => rfl⟩) hH ?_
              simp only [List.getElem_toArray, List.getElem_cons_succ, List.getElem_cons_zero, Act.put, List.setIfInBounds_toArray, List.set_cons_zero, List.set_cons_succ]
              refine wpAnyH_take (i := 15) (v := .int .i64 ER) rfl (by kernel_rfl) (by kernel_rfl) (by kernel_rfl) (fun _ _ _ h => h) (.inl ⟨by rfl, fun _ _ => rfl⟩) hH ?_
              simp only [List.getElem_toArray, List.getElem_cons_succ, List.getElem_cons_zero, Act.put, List.setIfInBounds_toArray, List.set_cons_zero, List.set_cons_succ]
              refine wpAnyH_done (by kernel_rfl) ?_ _
              go_wp2_with fail
              go_meet
              exact ⟨Bb, b1, b2, b3, b4, b5, b6, b7, b9, lb, lbc, rfl, rfl, rfl, hXf, KBf.now, hbxf, cf⟩
            · simp only [List.getElem_toArray, List.getElem_cons_succ, List.getElem_cons_zero]
              rw [if_pos (by rfl)]
              have bs := below_new v2 (.cells #[.slice none 0 0, .slice none 0 0, .slice none 0 0] 32)
              have hX := cellsAt_new v2 #[.slice none 0 0, .slice none 0 0, .slice none 0 0] 32
              obtain ⟨Bb, HBb⟩ : ∃ B, Hid (v2.heap.size = B) := ⟨_, rfl⟩
              obtain ⟨v3, Hv3⟩ : ∃ v, Hid (v2.alloc (.cells #[.slice none 0 0, .slice none 0 0, .slice none 0 0] 32) = v) := ⟨_, rfl⟩
              rw [Hv3.out] at bs hX
              rw [HBb.out] at hX
              have HBb2 : Hid (¬ False) := fun q => q
              have HBbB : Hid (B1 ≤ Bb) := by show _ ≤ _; rw [← HBb.out]; exact KA.now
              go_wp2_with fail
              rw [Hv3.out, HBb.out]
              replace hbx := hbx.below bs
              replace c := below_then c bs
              replace KA := KA.below bs
              replace hH2 := hH2.below bs
              refine hK.out _ _ ⟨hbx.2.1, hbx.2.2⟩ (fun hH => ?_)
              clear hK
              clear bs
              refine wpAnyH_ready (rs := [7]) (by kernel_rfl) (by simp) ?_
              refine AllReadyH.cons rfl (fun K hK => ?_) AllReadyH.nil
              simp only [List.getElem_toArray, List.getElem_cons_succ, List.getElem_cons_zero]
              rw [if_pos (by rfl)]
              go_wp2_with fail
              refine (hall_own _ _ _ n i roles (os1 ++ [⟨3, 0, noDOp⟩]) v3 (by exact ⟨_, rfl, hT.below c⟩) (by exact hr.below c) (by exact hH2)).mono ?_
              rintro e v4 ⟨rb, lb, lbc, rfl, hDb, hAb, bs, hFb, hFa⟩
              rw [HP2.out.1] at hDb
              rw [HP2.out.2.2] at hAb hFa ⊢
              rw [HXL.out] at hAb hFa ⊢
              rw [HP2.out.2.1]
              have KB := On.both ((desk_on hDb hFb).weaken (D' := fun k => v3.heap.size ≤ k) (fun k _ hk => hk)) (ans_on hAb hFa)
              obtain ⟨b1, b2, b3, b4, b5, b6, b7, b9, rfl, k1, k2, k3⟩ := hDb
              clear k1 k2 k3
              rw [HDL.out] at KB ⊢
              replace KB := KB.weaken (D' := fun k => v3.heap.size ≤ k ∧ k ≠ Bb) (fun k _ hk => ⟨hk, fun e => by have := hX.lt; have hk : v3.heap.size ≤ k := hk; omega⟩)
              have hszc := c.size
              replace hbx := hbx.below bs
              replace c := below_then c bs
              replace KA := KA.below bs
              replace hX := hX.below bs
              refine hK.out _ _ ⟨hbx.2.1, hbx.2.2⟩ (fun hH => ?_)
              clear hK
              clear bs hH2
              refine wpAnyH_take (i := 8) (v := .tuple #[.agg #[.slice b1 b2 b3, .slice b4 b5 b6, .slice b7 DL b9], .slice lb XL lbc, .int .i64 ER]) rfl (by kernel_rfl) (by kernel_rfl) (by kernel_rfl) (fun _ _ _ h => h) (.inl ⟨by rfl, fun _ _ => rfl⟩) hH ?_
              simp only [List.getElem_toArray, List.getElem_cons_succ, List.getElem_cons_zero, Act.put, List.setIfInBounds_toArray, List.set_cons_zero, List.set_cons_succ]
              refine wpAnyH_take (i := 9) (v := .agg #[.slice b1 b2 b3, .slice b4 b5 b6, .slice b7 DL b9]) rfl (by kernel_rfl) (by kernel_rfl) (by kernel_rfl) (fun _ _ _ h => h) (.inl ⟨by rfl, fun w' hS' => by first | (go_simp; done) | (go_simp; rfl) | (go_simp; intro h; omega) | (go_simp; omega)⟩) hH ?_
              simp only [List.getElem_toArray, List.getElem_cons_succ, List.getElem_cons_zero, Act.put, List.setIfInBounds_toArray, List.set_cons_zero, List.set_cons_succ]
              refine wpAnyH_take (i := 10) (v := .slice lb XL lbc) rfl (by kernel_rfl) (by kernel_rfl) (by kernel_rfl) (fun _ _ _ h => h) (.inl ⟨by rfl, fun w' hS' => by first | (go_simp; done) | (go_simp; rfl) | (go_simp; intro h; omega) | (go_simp; omega)⟩) hH ?_
              simp only [List.getElem_toArray, List.getElem_cons_succ, List.getElem_cons_zero, Act.put, List.setIfInBounds_toArray, List.set_cons_zero, List.set_cons_succ]
              refine wpAnyH_take (i := 11) (v := .int .i64 ER) rfl (by kernel_rfl) (by kernel_rfl) (by kernel_rfl) (fun _ _ _ h => h) (.inl ⟨by rfl, fun w' hS' => by first | (go_simp; done) | (go_simp; rfl) | (go_simp; intro h; omega) | (go_simp; omega)⟩) hH ?_
              simp only [List.getElem_toArray, List.getElem_cons_succ, List.getElem_cons_zero, Act.put, List.setIfInBounds_toArray, List.set_cons_zero, List.set_cons_succ]
              have f0 := hX.frozen 0
              have f1 := hX.frozen 1
              have f2 := hX.frozen 2
              have x0' : v4.cell? ⟨Bb, 0, none⟩ = some (.slice none 0 0) := hX.cell 0
              have x1' : v4.cell? ⟨Bb, 1, none⟩ = some (.slice none 0 0) := hX.cell 1
              have x2' : v4.cell? ⟨Bb, 2, none⟩ = some (.slice none 0 0) := hX.cell 2
              have hBbw : w.heap.size + 1 ≤ Bb := by have := HBbB.out; have := HB1.out; omega
              have hXf := ((hX.put 0 (.slice b1 b2 b3)).put 1 (.slice b4 b5 b6)).put 2 (.slice b7 DL b9)
              have KBf := ((KB.set (a := ⟨Bb, 0, none⟩) (fun q => q.2 rfl) (.slice b1 b2 b3)).set (a := ⟨Bb, 1, none⟩) (fun q => q.2 rfl) (.slice b4 b5 b6)).set (a := ⟨Bb, 2, none⟩) (fun q => q.2 rfl) (.slice b7 DL b9)
              have cf := ((c.setCell (p := ⟨Bb, 0, none⟩) (Nat.le_of_succ_le hBbw) (.slice b1 b2 b3)).setCell (p := ⟨Bb, 1, none⟩) (Nat.le_of_succ_le hBbw) (.slice b4 b5 b6)).setCell (p := ⟨Bb, 2, none⟩) (Nat.le_of_succ_le hBbw) (.slice b7 DL b9)
              have KAf := ((KA.set (a := ⟨Bb, 0, none⟩) (fun q => HBb2.out q) (.slice b1 b2 b3)).set (a := ⟨Bb, 1, none⟩) (fun q => HBb2.out q) (.slice b4 b5 b6)).set (a := ⟨Bb, 2, none⟩) (fun q => HBb2.out q) (.slice b7 DL b9)
              have hbxf : Box2 (((v4.setCell ⟨Bb, 0, none⟩ (.slice b1 b2 b3)).setCell ⟨Bb, 1, none⟩ (.slice b4 b5 b6)).setCell ⟨Bb, 2, none⟩ (.slice b7 DL b9)) w.heap.size (.int .i64 n.places) tv := box2_aside3 hbx (by omega) _ _ _
              obtain ⟨W9, HW9⟩ : ∃ v, Hid (((v4.setCell ⟨Bb, 0, none⟩ (.slice b1 b2 b3)).setCell ⟨Bb, 1, none⟩ (.slice b4 b5 b6)).setCell ⟨Bb, 2, none⟩ (.slice b7 DL b9) = v) := ⟨_, rfl⟩
              rw [HW9.out] at hXf KBf cf KAf hbxf
              have hXf : CellsAt W9 Bb #[.slice b1 b2 b3, .slice b4 b5 b6, .slice b7 DL b9] 32 := hXf
              refine wpAnyH_ready (rs := [13]) (by kernel_rfl) (by simp) ?_
              refine AllReadyH.cons rfl (fun K hK => ?_) AllReadyH.nil
              simp only [List.getElem_toArray, List.getElem_cons_succ, List.getElem_cons_zero]
              rw [if_pos (by rfl)]
              go_wp2_with fail
              rw [HW9.out]
              refine hK.out _ _ ⟨hbxf.2.1, hbxf.2.2⟩ (fun hH => ?_)
              clear hK
              refine wpAnyH_take (i := 14) (v := .slice lb XL lbc) rfl (by kernel_rfl) (by kernel_rfl) (by kernel_rfl) (fun _ _ _ h => h) (.inl ⟨by rfl, fun _ _ => rfl⟩) hH ?_
              simp only [List.getElem_toArray, List.getElem_cons_succ, List.getElem_cons_zero, Act.put, List.setIfInBounds_toArray, List.set_cons_zero, List.set_cons_succ]
              refine wpAnyH_take (i := 15) (v := .int .i64 ER) rfl (by kernel_rfl) (by kernel_rfl) (by kernel_rfl) (fun _ _ _ h => h) (.inl ⟨by rfl, fun _ _ => rfl⟩) hH ?_
              simp only [List.getElem_toArray, List.getElem_cons_succ, List.getElem_cons_zero, Act.put, List.setIfInBounds_toArray, List.set_cons_zero, List.set_cons_succ]
              refine wpAnyH_done (by kernel_rfl) ?_ _
              go_wp2_with fail
              go_meet
              exact ⟨Bb, b1, b2, b3, b4, b5, b6, b7, b9, lb, lbc, rfl, rfl, rfl, hXf, KBf.now, hbxf, cf⟩
          · simp only [List.getElem_toArray, List.getElem_cons_succ, List.getElem_cons_zero]
            rw [if_pos (by rfl)]
            have bs := below_new v1 (.cells #[.slice none 0 0, .slice none 0 0, .slice none 0 0] 32)
            have hX := cellsAt_new v1 #[.slice none 0 0, .slice none 0 0, .slice none 0 0] 32
            obtain ⟨Bb, HBb⟩ : ∃ B, Hid (v1.heap.size = B) := ⟨_, rfl⟩
            obtain ⟨v2, Hv2⟩ : ∃ v, Hid (v1.alloc (.cells #[.slice none 0 0, .slice none 0 0, .slice none 0 0] 32) = v) := ⟨_, rfl⟩
            rw [Hv2.out] at bs hX
            rw [HBb.out] at hX
            have HBb2 : Hid (¬ False) := fun q => q
            have HBbB : Hid (B1 ≤ Bb) := by show _ ≤ _; rw [← HBb.out]; exact KA.now
            go_wp2_with fail
            rw [Hv2.out, HBb.out]
            replace hbx := hbx.below bs
            replace c := below_then c bs
            replace KA := KA.below bs
            replace hO := hO.trans bs
            replace hL := hL.below bs
            refine hK.out _ _ ⟨hbx.2.1, hbx.2.2⟩ (fun hH => ?_)
            clear hK
            clear bs
            refine wpAnyH_ready (rs := [6]) (by kernel_rfl) (by simp) ?_
            refine AllReadyH.cons rfl (fun K hK => ?_) AllReadyH.nil
            simp only [List.getElem_toArray, List.getElem_cons_succ, List.getElem_cons_zero]
            refine wpr_append_cells elem_hops (by rfl) _ _ rfl w1.heap.size w1 v2 (.slice oa M oc) M 1 1 ⟨Bl, 0, none⟩ (hopCells os1) (hopA ⟨3, 0, noDOp⟩).toList hO rfl rfl rfl (fun j u hj => by rw [addr_add, Nat.zero_add, hL.cell]; simpa [hopA, noDOp] using hj) (fun u hu => hopCells_one [⟨3, 0, noDOp⟩] u (by simpa [hopCells] using hu)) HL1.out HL2.out ?_
            intro nv v3 hO2 hg
            obtain ⟨na, nl, nc, rfl⟩ := ownsRow_slice hO2.1
            rw [show hopCells os1 ++ (hopA ⟨3, 0, noDOp⟩).toList = hopCells (os1 ++ [⟨3, 0, noDOp⟩]) by rw [hopCells_append]; simp [hopCells]] at hO2
            have hH2 := OwnC.hops hO2 (by rw [List.length_append, HN1.out]; rfl) HL3.out
            have hg1 : ∀ k, some k = (Value.slice oa M oc).ownBlock → w1.heap.size ≤ k ∧ k < B1 := fun k e => ⟨(hO.1.lt k e.symm).1, HOB.out k e.symm⟩
            replace KA := KA.grown hg (fun k _ hD e => hD.elim)
            replace c : Below w.heap.size w v3 := c.grown hg (Nat.le_trans c.size (Nat.le_refl _)) (fun k e => by have := (hg1 k e.symm).1; have := Hw1.out; omega)
            have hbx2 := hbx
            replace hbx : Box2 v3 w.heap.size (.int .i64 n.places) tv := box2_kept hbx hg (fun e => by have := (hg1 _ e).1; have := Hw1.out; omega)
            replace hX : CellsAt v3 Bb #[.slice none 0 0, .slice none 0 0, .slice none 0 0] 32 := (hg.block Bb hX.lt (fun e => by have := (hg1 _ e).2; have := HBbB.out; omega)).trans hX
            refine hK.out _ _ ⟨hbx.2.1, hbx.2.2⟩ (fun hH => ?_)
            clear hK
            clear hO hL hg1 hbx2 hg hO2
            refine wpAnyH_ready (rs := [7]) (by kernel_rfl) (by simp) ?_
            refine AllReadyH.cons rfl (fun K hK => ?_) AllReadyH.nil
            simp only [List.getElem_toArray, List.getElem_cons_succ, List.getElem_cons_zero]
            rw [if_pos (by rfl)]
            go_wp2_with fail
            refine (hall_own _ _ _ n i roles (os1 ++ [⟨3, 0, noDOp⟩]) v3 (by exact ⟨_, rfl, hT.below c⟩) (by exact hr.below c) (by exact hH2)).mono ?_
            rintro e v4 ⟨rb, lb, lbc, rfl, hDb, hAb, bs, hFb, hFa⟩
            rw [HP2.out.1] at hDb
            rw [HP2.out.2.2] at hAb hFa ⊢
            rw [HXL.out] at hAb hFa ⊢
            rw [HP2.out.2.1]
            have KB := On.both ((desk_on hDb hFb).weaken (D' := fun k => v3.heap.size ≤ k) (fun k _ hk => hk)) (ans_on hAb hFa)
            obtain ⟨b1, b2, b3, b4, b5, b6, b7, b9, rfl, k1, k2, k3⟩ := hDb
            clear k1 k2 k3
            rw [HDL.out] at KB ⊢
            replace KB := KB.weaken (D' := fun k => v3.heap.size ≤ k ∧ k ≠ Bb) (fun k _ hk => ⟨hk, fun e => by have := hX.lt; have hk : v3.heap.size ≤ k := hk; omega⟩)
            have hszc := c.size
            replace hbx := hbx.below bs
            replace c := below_then c bs
            replace KA := KA.below bs
            replace hX := hX.below bs
            refine hK.out _ _ ⟨hbx.2.1, hbx.2.2⟩ (fun hH => ?_)
            clear hK
            clear bs hH2
            refine wpAnyH_take (i := 8) (v := .tuple #[.agg #[.slice b1 b2 b3, .slice b4 b5 b6, .slice b7 DL b9], .slice lb XL lbc, .int .i64 ER]) rfl (by kernel_rfl) (by kernel_rfl) (by kernel_rfl) (fun _ _ _ h => h) (.inl ⟨by rfl, fun _ _ => rfl⟩) hH ?_
            simp only [List.getElem_toArray, List.getElem_cons_succ, List.getElem_cons_zero, Act.put, List.setIfInBounds_toArray, List.set_cons_zero, List.set_cons_succ]
            refine wpAnyH_take (i := 9) (v := .agg #[.slice b1 b2 b3, .slice b4 b5 b6, .slice b7 DL b9]) rfl (by kernel_rfl) (by kernel_rfl) (by kernel_rfl) (fun _ _ _ h => h) (.inl ⟨by rfl, fun w' hS' => by first | (go_simp; done) | (go_simp; rfl) | (go_simp; intro h; omega) | (go_simp; omega)⟩) hH ?_
            simp only [List.getElem_toArray, List.getElem_cons_succ, List.getElem_cons_zero, Act.put, List.setIfInBounds_toArray, List.set_cons_zero, List.set_cons_succ]
            refine wpAnyH_take (i := 10) (v := .slice lb XL lbc) rfl (by kernel_rfl) (by kernel_rfl) (by kernel_rfl) (fun _ _ _ h => h) (.inl ⟨by rfl, fun w' hS' => by first | (go_simp; done) | (go_simp; rfl) | (go_simp; intro h; omega) | (go_simp; omega)⟩) hH ?_
            simp only [List.getElem_toArray, List.getElem_cons_succ, List.getElem_cons_zero, Act.put, List.setIfInBounds_toArray, List.set_cons_zero, List.set_cons_succ]
            refine wpAnyH_take (i := 11) (v := .int .i64 ER) rfl (by kernel_rfl) (by kernel_rfl) (by kernel_rfl) (fun _ _ _ h => h) (.inl ⟨by rfl, fun w' hS' => by first | (go_simp; done) | (go_simp; rfl) | (go_simp; intro h; omega) | (go_simp; omega)⟩) hH ?_
            simp only [List.getElem_toArray, List.getElem_cons_succ, List.getElem_cons_zero, Act.put, List.setIfInBounds_toArray, List.set_cons_zero, List.set_cons_succ]
            have f0 := hX.frozen 0
            have f1 := hX.frozen 1
            have f2 := hX.frozen 2
            have x0' : v4.cell? ⟨Bb, 0, none⟩ = some (.slice none 0 0) := hX.cell 0
            have x1' : v4.cell? ⟨Bb, 1, none⟩ = some (.slice none 0 0) := hX.cell 1
            have x2' : v4.cell? ⟨Bb, 2, none⟩ = some (.slice none 0 0) := hX.cell 2
            have hBbw : w.heap.size + 1 ≤ Bb := by have := HBbB.out; have := HB1.out; omega
            have hXf := ((hX.put 0 (.slice b1 b2 b3)).put 1 (.slice b4 b5 b6)).put 2 (.slice b7 DL b9)
            have KBf := ((KB.set (a := ⟨Bb, 0, none⟩) (fun q => q.2 rfl) (.slice b1 b2 b3)).set (a := ⟨Bb, 1, none⟩) (fun q => q.2 rfl) (.slice b4 b5 b6)).set (a := ⟨Bb, 2, none⟩) (fun q => q.2 rfl) (.slice b7 DL b9)
            have cf := ((c.setCell (p := ⟨Bb, 0, none⟩) (Nat.le_of_succ_le hBbw) (.slice b1 b2 b3)).setCell (p := ⟨Bb, 1, none⟩) (Nat.le_of_succ_le hBbw) (.slice b4 b5 b6)).setCell (p := ⟨Bb, 2, none⟩) (Nat.le_of_succ_le hBbw) (.slice b7 DL b9)
            have KAf := ((KA.set (a := ⟨Bb, 0, none⟩) (fun q => HBb2.out q) (.slice b1 b2 b3)).set (a := ⟨Bb, 1, none⟩) (fun q => HBb2.out q) (.slice b4 b5 b6)).set (a := ⟨Bb, 2, none⟩) (fun q => HBb2.out q) (.slice b7 DL b9)
            have hbxf : Box2 (((v4.setCell ⟨Bb, 0, none⟩ (.slice b1 b2 b3)).setCell ⟨Bb, 1, none⟩ (.slice b4 b5 b6)).setCell ⟨Bb, 2, none⟩ (.slice b7 DL b9)) w.heap.size (.int .i64 n.places) tv := box2_aside3 hbx (by omega) _ _ _
            obtain ⟨W9, HW9⟩ : ∃ v, Hid (((v4.setCell ⟨Bb, 0, none⟩ (.slice b1 b2 b3)).setCell ⟨Bb, 1, none⟩ (.slice b4 b5 b6)).setCell ⟨Bb, 2, none⟩ (.slice b7 DL b9) = v) := ⟨_, rfl⟩
            rw [HW9.out] at hXf KBf cf KAf hbxf
            have hXf : CellsAt W9 Bb #[.slice b1 b2 b3, .slice b4 b5 b6, .slice b7 DL b9] 32 := hXf
            refine wpAnyH_ready (rs := [13]) (by kernel_rfl) (by simp) ?_
            refine AllReadyH.cons rfl (fun K hK => ?_) AllReadyH.nil
            simp only [List.getElem_toArray, List.getElem_cons_succ, List.getElem_cons_zero]
            rw [if_pos (by rfl)]
            go_wp2_with fail
            rw [HW9.out]
            refine hK.out _ _ ⟨hbxf.2.1, hbxf.2.2⟩ (fun hH => ?_)
            clear hK
            refine wpAnyH_take (i := 14) (v := .slice lb XL lbc) rfl (by kernel_rfl) (by kernel_rfl) (by kernel_rfl) (fun _ _ _ h => h) (.inl ⟨by rfl, fun _ _ => rfl⟩) hH ?_
            simp only [List.getElem_toArray, List.getElem_cons_succ, List.getElem_cons_zero, Act.put, List.setIfInBounds_toArray, List.set_cons_zero, List.set_cons_succ]
            refine wpAnyH_take (i := 15) (v := .int .i64 ER) rfl (by kernel_rfl) (by kernel_rfl) (by kernel_rfl) (fun _ _ _ h => h) (.inl ⟨by rfl, fun _ _ => rfl⟩) hH ?_
            simp only [List.getElem_toArray, List.getElem_cons_succ, List.getElem_cons_zero, Act.put, List.setIfInBounds_toArray, List.set_cons_zero, List.set_cons_succ]
            refine wpAnyH_done (by kernel_rfl) ?_ _
            go_wp2_with fail
            go_meet
            exact ⟨Bb, b1, b2, b3, b4, b5, b6, b7, b9, lb, lbc, rfl, rfl, rfl, hXf, KBf.now, hbxf, cf⟩
        · simp only [List.getElem_toArray, List.getElem_cons_succ, List.getElem_cons_zero]
          rw [if_pos (by rfl)]
          have bs := below_new v0 (.cells #[.slice none 0 0, .slice none 0 0, .slice none 0 0] 32)
          have hX := cellsAt_new v0 #[.slice none 0 0, .slice none 0 0, .slice none 0 0] 32
          obtain ⟨Bb, HBb⟩ : ∃ B, Hid (v0.heap.size = B) := ⟨_, rfl⟩
          obtain ⟨v1, Hv1⟩ : ∃ v, Hid (v0.alloc (.cells #[.slice none 0 0, .slice none 0 0, .slice none 0 0] 32) = v) := ⟨_, rfl⟩
          rw [Hv1.out] at bs hX
          rw [HBb.out] at hX
          have HBb2 : Hid (¬ False) := fun q => q
          have HBbB : Hid (B1 ≤ Bb) := by show _ ≤ _; rw [← HBb.out]; exact KA.now
          go_wp2_with fail
          rw [Hv1.out, HBb.out]
          replace hbx := hbx.below bs
          replace c := below_then c bs
          replace KA := KA.below bs
          replace hO := hO.trans bs
          refine hK.out _ _ ⟨hbx.2.1, hbx.2.2⟩ (fun hH => ?_)
          clear hK
          clear bs
          have bs := below_new v1 (.cells #[.int .i64 3, .int .i64 0, .int .i64 0, .int .i64 0, .int .i64 0, .int .i64 0, .int .i64 0] 47)
          have hL := cellsAt_new v1 #[.int .i64 3, .int .i64 0, .int .i64 0, .int .i64 0, .int .i64 0, .int .i64 0, .int .i64 0] 47
          obtain ⟨Bl, HBl⟩ : ∃ B, Hid (v1.heap.size = B) := ⟨_, rfl⟩
          obtain ⟨v2, Hv2⟩ : ∃ v, Hid (v1.alloc (.cells #[.int .i64 3, .int .i64 0, .int .i64 0, .int .i64 0, .int .i64 0, .int .i64 0, .int .i64 0] 47) = v) := ⟨_, rfl⟩
          rw [Hv2.out] at bs hL
          rw [HBl.out] at hL
          refine wpAnyH_ready (rs := [5]) (by kernel_rfl) (by simp) ?_
          refine AllReadyH.cons rfl (fun K hK => ?_) AllReadyH.nil
          simp only [List.getElem_toArray, List.getElem_cons_succ, List.getElem_cons_zero]
          rw [if_pos (by rfl)]
          go_wp2_with fail
          rw [Hv2.out, HBl.out]
          replace hbx := hbx.below bs
          replace c := below_then c bs
          replace KA := KA.below bs
          replace hO := hO.trans bs
          replace hX := hX.below bs
          refine hK.out _ _ ⟨hbx.2.1, hbx.2.2⟩ (fun hH => ?_)
          clear hK
          clear bs
          refine wpAnyH_ready (rs := [6]) (by kernel_rfl) (by simp) ?_
          refine AllReadyH.cons rfl (fun K hK => ?_) AllReadyH.nil
          simp only [List.getElem_toArray, List.getElem_cons_succ, List.getElem_cons_zero]
          refine wpr_append_cells elem_hops (by rfl) _ _ rfl w1.heap.size w1 v2 (.slice oa M oc) M 1 1 ⟨Bl, 0, none⟩ (hopCells os1) (hopA ⟨3, 0, noDOp⟩).toList hO rfl rfl rfl (fun j u hj => by rw [addr_add, Nat.zero_add, hL.cell]; simpa [hopA, noDOp] using hj) (fun u hu => hopCells_one [⟨3, 0, noDOp⟩] u (by simpa [hopCells] using hu)) HL1.out HL2.out ?_
          intro nv v3 hO2 hg
          obtain ⟨na, nl, nc, rfl⟩ := ownsRow_slice hO2.1
          rw [show hopCells os1 ++ (hopA ⟨3, 0, noDOp⟩).toList = hopCells (os1 ++ [⟨3, 0, noDOp⟩]) by rw [hopCells_append]; simp [hopCells]] at hO2
          have hH2 := OwnC.hops hO2 (by rw [List.length_append, HN1.out]; rfl) HL3.out
          have hg1 : ∀ k, some k = (Value.slice oa M oc).ownBlock → w1.heap.size ≤ k ∧ k < B1 := fun k e => ⟨(hO.1.lt k e.symm).1, HOB.out k e.symm⟩
          replace KA := KA.grown hg (fun k _ hD e => hD.elim)
          replace c : Below w.heap.size w v3 := c.grown hg (Nat.le_trans c.size (Nat.le_refl _)) (fun k e => by have := (hg1 k e.symm).1; have := Hw1.out; omega)
          have hbx2 := hbx
          replace hbx : Box2 v3 w.heap.size (.int .i64 n.places) tv := box2_kept hbx hg (fun e => by have := (hg1 _ e).1; have := Hw1.out; omega)
          replace hX : CellsAt v3 Bb #[.slice none 0 0, .slice none 0 0, .slice none 0 0] 32 := (hg.block Bb hX.lt (fun e => by have := (hg1 _ e).2; have := HBbB.out; omega)).trans hX
          refine hK.out _ _ ⟨hbx.2.1, hbx.2.2⟩ (fun hH => ?_)
          clear hK
          clear hO hL hg1 hbx2 hg hO2
          refine wpAnyH_ready (rs := [7]) (by kernel_rfl) (by simp) ?_
          refine AllReadyH.cons rfl (fun K hK => ?_) AllReadyH.nil
          simp only [List.getElem_toArray, List.getElem_cons_succ, List.getElem_cons_zero]
          rw [if_pos (by rfl)]
          go_wp2_with fail
          refine (hall_own _ _ _ n i roles (os1 ++ [⟨3, 0, noDOp⟩]) v3 (by exact ⟨_, rfl, hT.below c⟩) (by exact hr.below c) (by exact hH2)).mono ?_
          rintro e v4 ⟨rb, lb, lbc, rfl, hDb, hAb, bs, hFb, hFa⟩
          rw [HP2.out.1] at hDb
          rw [HP2.out.2.2] at hAb hFa ⊢
          rw [HXL.out] at hAb hFa ⊢
          rw [HP2.out.2.1]
          have KB := On.both ((desk_on hDb hFb).weaken (D' := fun k => v3.heap.size ≤ k) (fun k _ hk => hk)) (ans_on hAb hFa)
          obtain ⟨b1, b2, b3, b4, b5, b6, b7, b9, rfl, k1, k2, k3⟩ := hDb
          clear k1 k2 k3
          rw [HDL.out] at KB ⊢
          replace KB := KB.weaken (D' := fun k => v3.heap.size ≤ k ∧ k ≠ Bb) (fun k _ hk => ⟨hk, fun e => by have := hX.lt; have hk : v3.heap.size ≤ k := hk; omega⟩)
          have hszc := c.size
          replace hbx := hbx.below bs
          replace c := below_then c bs
          replace KA := KA.below bs
          replace hX := hX.below bs
          refine hK.out _ _ ⟨hbx.2.1, hbx.2.2⟩ (fun hH => ?_)
          clear hK
          clear bs hH2
          refine wpAnyH_take (i := 8) (v := .tuple #[.agg #[.slice b1 b2 b3, .slice b4 b5 b6, .slice b7 DL b9], .slice lb XL lbc, .int .i64 ER]) rfl (by kernel_rfl) (by kernel_rfl) (by kernel_rfl) (fun _ _ _ h => h) (.inl ⟨by rfl, fun _ _ => rfl⟩) hH ?_
          simp only [List.getElem_toArray, List.getElem_cons_succ, List.getElem_cons_zero, Act.put, List.setIfInBounds_toArray, List.set_cons_zero, List.set_cons_succ]
          refine wpAnyH_take (i := 9) (v := .agg #[.slice b1 b2 b3, .slice b4 b5 b6, .slice b7 DL b9]) rfl (by kernel_rfl) (by kernel_rfl) (by kernel_rfl) (fun _ _ _ h => h) (.inl ⟨by rfl, fun w' hS' => by first | (go_simp; done) | (go_simp; rfl) | (go_simp; intro h; omega) | (go_simp; omega)⟩) hH ?_
          simp only [List.getElem_toArray, List.getElem_cons_succ, List.getElem_cons_zero, Act.put, List.setIfInBounds_toArray, List.set_cons_zero, List.set_cons_succ]
          refine wpAnyH_take (i := 10) (v := .slice lb XL lbc) rfl (by kernel_rfl) (by kernel_rfl) (by kernel_rfl) (fun _ _ _ h => h) (.inl ⟨by rfl, fun w' hS' => by first | (go_simp; done) | (go_simp; rfl) | (go_simp; intro h; omega) | (go_simp; omega)⟩) hH ?_
          simp only [List.getElem_toArray, List.getElem_cons_succ, List.getElem_cons_zero, Act.put, List.setIfInBounds_toArray, List.set_cons_zero, List.set_cons_succ]
          refine wpAnyH_take (i := 11) (v := .int .i64 ER) rfl (by kernel_rfl) (by kernel_rfl) (by kernel_rfl) (fun _ _ _ h => h) (.inl ⟨by rfl, fun w' hS' => by first | (go_simp; done) | (go_simp; rfl) | (go_simp; intro h; omega) | (go_simp; omega)⟩) hH ?_
          simp only [List.getElem_toArray, List.getElem_cons_succ, List.getElem_cons_zero, Act.put, List.setIfInBounds_toArray, List.set_cons_zero, List.set_cons_succ]
          have f0 := hX.frozen 0
          have f1 := hX.frozen 1
          have f2 := hX.frozen 2
          have x0' : v4.cell? ⟨Bb, 0, none⟩ = some (.slice none 0 0) := hX.cell 0
          have x1' : v4.cell? ⟨Bb, 1, none⟩ = some (.slice none 0 0) := hX.cell 1
          have x2' : v4.cell? ⟨Bb, 2, none⟩ = some (.slice none 0 0) := hX.cell 2
          have hBbw : w.heap.size + 1 ≤ Bb := by have := HBbB.out; have := HB1.out; omega
          have hXf := ((hX.put 0 (.slice b1 b2 b3)).put 1 (.slice b4 b5 b6)).put 2 (.slice b7 DL b9)
          have KBf := ((KB.set (a := ⟨Bb, 0, none⟩) (fun q => q.2 rfl) (.slice b1 b2 b3)).set (a := ⟨Bb, 1, none⟩) (fun q => q.2 rfl) (.slice b4 b5 b6)).set (a := ⟨Bb, 2, none⟩) (fun q => q.2 rfl) (.slice b7 DL b9)
          have cf := ((c.setCell (p := ⟨Bb, 0, none⟩) (Nat.le_of_succ_le hBbw) (.slice b1 b2 b3)).setCell (p := ⟨Bb, 1, none⟩) (Nat.le_of_succ_le hBbw) (.slice b4 b5 b6)).setCell (p := ⟨Bb, 2, none⟩) (Nat.le_of_succ_le hBbw) (.slice b7 DL b9)
          have KAf := ((KA.set (a := ⟨Bb, 0, none⟩) (fun q => HBb2.out q) (.slice b1 b2 b3)).set (a := ⟨Bb, 1, none⟩) (fun q => HBb2.out q) (.slice b4 b5 b6)).set (a := ⟨Bb, 2, none⟩) (fun q => HBb2.out q) (.slice b7 DL b9)
          have hbxf : Box2 (((v4.setCell ⟨Bb, 0, none⟩ (.slice b1 b2 b3)).setCell ⟨Bb, 1, none⟩ (.slice b4 b5 b6)).setCell ⟨Bb, 2, none⟩ (.slice b7 DL b9)) w.heap.size (.int .i64 n.places) tv := box2_aside3 hbx (by omega) _ _ _
          obtain ⟨W9, HW9⟩ : ∃ v, Hid (((v4.setCell ⟨Bb, 0, none⟩ (.slice b1 b2 b3)).setCell ⟨Bb, 1, none⟩ (.slice b4 b5 b6)).setCell ⟨Bb, 2, none⟩ (.slice b7 DL b9) = v) := ⟨_, rfl⟩
          rw [HW9.out] at hXf KBf cf KAf hbxf
          have hXf : CellsAt W9 Bb #[.slice b1 b2 b3, .slice b4 b5 b6, .slice b7 DL b9] 32 := hXf
          refine wpAnyH_ready (rs := [13]) (by kernel_rfl) (by simp) ?_
          refine AllReadyH.cons rfl (fun K hK => ?_) AllReadyH.nil
          simp only [List.getElem_toArray, List.getElem_cons_succ, List.getElem_cons_zero]
          rw [if_pos (by rfl)]
          go_wp2_with fail
          rw [HW9.out]
          refine hK.out _ _ ⟨hbxf.2.1, hbxf.2.2⟩ (fun hH => ?_)
          clear hK
          refine wpAnyH_take (i := 14) (v := .slice lb XL lbc) rfl (by kernel_rfl) (by kernel_rfl) (by kernel_rfl) (fun _ _ _ h => h) (.inl ⟨by rfl, fun _ _ => rfl⟩) hH ?_
          simp only [List.getElem_toArray, List.getElem_cons_succ, List.getElem_cons_zero, Act.put, List.setIfInBounds_toArray, List.set_cons_zero, List.set_cons_succ]
          refine wpAnyH_take (i := 15) (v := .int .i64 ER) rfl (by kernel_rfl) (by kernel_rfl) (by kernel_rfl) (fun _ _ _ h => h) (.inl ⟨by rfl, fun _ _ => rfl⟩) hH ?_
          simp only [List.getElem_toArray, List.getElem_cons_succ, List.getElem_cons_zero, Act.put, List.setIfInBounds_toArray, List.set_cons_zero, List.set_cons_succ]
          refine wpAnyH_done (by kernel_rfl) ?_ _
          go_wp2_with fail
          go_meet
          exact ⟨Bb, b1, b2, b3, b4, b5, b6, b7, b9, lb, lbc, rfl, rfl, rfl, hXf, KBf.now, hbxf, cf⟩
      case rest =>
        obtain ⟨Bb, b1, b2, b3, b4, b5, b6, b7, b9, lb, lbc, rfl, rfl, rfl, hXb, ⟨hDb, hAb⟩, hbx, c⟩ := hcut
        obtain ⟨w5, rfl⟩ : ∃ w5, w5 = wc := ⟨_, rfl⟩
        obtain ⟨x0, x1, x2⟩ := id hbx
        clear KA hO
        go_wp2_with fail
        refine (desk_play _ _ _ n i roles os w5 (by exact ⟨_, rfl, hT.below c⟩) (by exact hr.below c) (by exact HU.out.below c)).mono ?_
        rintro e w6 ⟨rv, la, lac, rfl, hDa, hAa, b⟩
        rw [HDA.out] at hDa
        rw [HYA.out] at hAa ⊢
        rw [HYL.out] at hAa ⊢
        rw [HER.out]
        replace hDb := hDb.below b
        replace hAb := hAb.below b
        replace hXb := hXb.below b
        replace c := below_then c b
        clear b x0 x1 x2 hbx
        obtain ⟨d1, d2, d3, d4, d5, d6, d7, d9, rfl, h1, h2, h3⟩ := id hDa
        rw [HDL.out] at h3 hDa ⊢
        clear h1 h2 h3
        have bn := below_new w6 (.cells #[.slice d1 d2 d3, .slice d4 d5 d6, .slice d7 DL d9] 32)
        have hXa := cellsAt_new w6 #[.slice d1 d2 d3, .slice d4 d5 d6, .slice d7 DL d9] 32
        obtain ⟨Ba, HBa⟩ : ∃ B, Hid (w6.heap.size = B) := ⟨_, rfl⟩
        obtain ⟨w7, Hw7⟩ : ∃ v, Hid (w6.alloc (.cells #[.slice d1 d2 d3, .slice d4 d5 d6, .slice d7 DL d9] 32) = v) := ⟨_, rfl⟩
        rw [Hw7.out] at bn hXa
        rw [HBa.out] at hXa
        go_upto_region 13 with fail
        rw [Hw7.out, HBa.out]
        replace hDb := hDb.below bn
        replace hAb := hAb.below bn
        replace hXb := hXb.below bn
        replace hDa := hDa.below bn
        replace hAa := hAa.below bn
        replace c := below_then c bn
        clear bn Hw7
        have e1 : (ER == ER) = true := by simp
        have e2 : (ER != ER) = false := by simp
        by_cases hE : ER = 0
        · subst hE
          obtain ⟨rfl, rfl, hans⟩ := HP3.out rfl
          have Hans : Hid _ := hans
          clear hans
          have Hc7 : Hid (Below w.heap.size w w7) := c
          have HXB : Hid (CellsAt w7 Bb #[.slice b1 b2 b3, .slice b4 b5 b6, .slice b7 DL b9] 32 ∧ CellsAt w7 Ba #[.slice d1 d2 d3, .slice d4 d5 d6, .slice d7 DL d9] 32) := ⟨hXb, hXa⟩
          have HDD : Hid (DeskV w7 (.agg #[.slice b1 b2 b3, .slice b4 b5 b6, .slice b7 DL b9]) DA ∧ DeskV w7 (.agg #[.slice d1 d2 d3, .slice d4 d5 d6, .slice d7 DL d9]) DA) := ⟨hDb, hDa⟩
          have HAA : Hid (OpsV w7 (.slice lb (M + 1) lbc) (ansL XA) ∧ OpsV w7 (.slice la YL lac) (ansL YA)) := ⟨hAb, hAa⟩
          have hM2 : 2 * YL = M := HM.out
          clear c hXb hXa hDb hDa hAb hAa
          go_wp2_with fail
          go_loopg [121] YL (fun gk kv wr => ∃ j : Nat, j + gk = YL ∧ kv = .int .i64 (j : Int) ∧ Below w7.heap.size w7 wr)
          case atStart => exact ⟨0, by omega, rfl, Below.refl _ _⟩
          case round =>
            obtain ⟨j, hjg, rfl, hb⟩ := hrel
            by_cases hj : j < YL
            · obtain ⟨xb, xo, rfl, _, p0, p1⟩ := (HAA.out.1.below hb).at (k := 2 * j) (by omega)
              obtain ⟨yb, yo, rfl, _, q0, q1⟩ := (HAA.out.2.below hb).at (k := j) hj
              rw [ansL_at] at p0 p1 q0 q1
              rw [Hans.out j hj] at p0 p1
              obtain ⟨Z, HZ⟩ : ∃ Z, Hid (dansAt YA j = Z) := ⟨_, rfl⟩
              rw [HZ.out] at p0 p1 q0 q1
              obtain ⟨z1, z2⟩ := Z
              simp only at p0 p1 q0 q1
              have f1 : (z1 == z1) = true := by simp
              have f2 : (z2 == z2) = true := by simp
              go_wp2_with fail
              go_quiet (fail)
              have R := below_drewN hb nq
              clear p0 p1 q0 q1
              go_wp2
              go_roundg (gk - 1)
              case measure => omega
              case rel => exact ⟨j + 1, by omega, by go_num, R⟩
            · have hXb := HXB.out.1.below hb
              have hXa := HXB.out.2.below hb
              have y0 : wr.cell? ⟨Bb, 0, none⟩ = some (.slice b1 b2 b3) := hXb.cell 0
              have y1 : wr.cell? ⟨Bb, 1, none⟩ = some (.slice b4 b5 b6) := hXb.cell 1
              have y2 : wr.cell? ⟨Bb, 2, none⟩ = some (.slice b7 DL b9) := hXb.cell 2
              have z0 : wr.cell? ⟨Ba, 0, none⟩ = some (.slice d1 d2 d3) := hXa.cell 0
              have z1 : wr.cell? ⟨Ba, 1, none⟩ = some (.slice d4 d5 d6) := hXa.cell 1
              have z2 : wr.cell? ⟨Ba, 2, none⟩ = some (.slice d7 DL d9) := hXa.cell 2
              go_wp2_with fail
              refine (samedesk_same _ _ DA wr (by exact HDD.out.1.below hb) (by exact HDD.out.2.below hb)).mono ?_
              rintro e w10 ⟨rfl, b⟩
              have R := below_then (below_then Hc7.out hb) b
              clear y0 y1 y2 z0 z1 z2
              go_wp2
              go_ret
              exact ⟨rfl, R⟩
        · have e3 : (ER == 0) = false := by simpa using hE
          have e4 : (ER != 0) = true := by simpa using hE
          clear hE
          go_wp2
          go_ret
          exact ⟨rfl, c⟩

end Go.Proofs.Ytaladbcocealnaa
