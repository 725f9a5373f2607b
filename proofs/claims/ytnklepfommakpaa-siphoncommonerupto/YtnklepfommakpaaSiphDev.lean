/- Package siphon as it landed: Siphon, Trap, Most, MostTrap. -/
import Derived.Deep.RegionHeld3
import Derived.Test.YtnklepfommakpaaSiphDev4
namespace Go.Proofs.Ytnklepfommakpaa
open Go.RowKit
set_option linter.unusedVariables false
set_option linter.unusedSimpArgs false

set_option maxRecDepth 4000 in
set_option maxHeartbeats 2000000 in
theorem siphon_most (v u : Value) (n : NetL) (l : List Int) (w : World) (hv : Net w v n) (hu : Ints w u l) :
    Calls Try.prog 14 #[v, u] w fun e w' => ∃ r, e = .returned r ∧ Ints w' r (mostL n l) ∧ Below w.heap.size w w' := by
  obtain ⟨tv, rfl, hT⟩ := hv
  have c := below_new w (.cells #[.int .i64 n.places, tv] 24)
  have hbx := box2_new w (.int .i64 n.places) tv 24
  have hv : Net _ (.agg #[.int .i64 n.places, tv]) n := ⟨_, rfl, hT.below c⟩
  replace hu := hu.below c
  clear hT
  go_enter Try.func14, Try.ntmps14
  go_wp2_with fail
  refine (grouped_any _ u n l _ (by exact hv) hu).mono ?_
  rintro e w1 ⟨g, rfl, hm, b⟩
  replace hbx := hbx.below b
  replace hv := hv.below b
  replace c := below_then c b
  clear b hu
  have hG0 : GrpAt (w1.alloc (.cells (grpC fun _ => false) 47)) w1.heap.size (fun _ => false) := grpAt_new w1 _
  have b0 := below_new w1 (.cells (grpC fun _ => false) 47)
  have hG : Hid (GrpAt (storeG (w1.alloc (.cells (grpC fun _ => false) 47)) w1.heap.size g) w1.heap.size g) := hG0.store g
  have b2 : Hid (Below w1.heap.size w1 (storeG (w1.alloc (.cells (grpC fun _ => false) 47)) w1.heap.size g)) := below_storeG b0 (Nat.le_refl _) g
  cases hp : placesL n l
  · have E : Hid (mostL n l = []) := most_none hp
    clear hm hp
    go_wp2_with (refine wpList_store_grp rfl _ _ rfl w1.heap.size (fun _ => false) g rfl rfl hG0 ?_; intro W HW; rw [HW] at hG b2; clear HW hG0 b0)
    go_ret
    exact ⟨_, rfl, by rw [E.out]; exact ⟨none, 0, 0, rfl, rfl, by omega, ⟨by omega, by omega, fun _ => rfl⟩, fun j hj => absurd hj (by simp)⟩, below_then c b2.out⟩
  · have hmm := hm hp
    clear hm
    go_upto_region 2 with (refine wpList_store_grp rfl _ _ rfl w1.heap.size (fun _ => false) g rfl rfl hG0 ?_; intro W HW; rw [HW] at hG b2; clear HW hG0 b0)
    replace hbx := hbx.below b2.out
    replace hv := hv.below b2.out
    replace c := below_then c b2.out
    clear b2
    have hG := hG.out
    obtain ⟨x0, x1, x2⟩ := id hbx
    go_wp2_with (refine wpList_load_grp rfl _ rfl w1.heap.size g rfl hG ?_)
    refine (largest_any _ n g _ (by exact hv) ?_).mono ?_
    · obtain ⟨q1, q2⟩ := placesL_iff.1 hp
      exact placesL_iff.2 ⟨q1, fun p hq => q2 p ((hmm p).1 hq)⟩
    rintro e w2 ⟨g2, rfl, ⟨hL, hS⟩, b⟩
    have E : Hid (setL g2 = mostL n l) := left_most hp hmm hL hS
    replace c := below_then c b
    go_wp2_with fail
    refine (rising_any g2 w2).mono ?_
    rintro e w3 ⟨r, rfl, hO⟩
    go_wp2
    go_ret
    refine ⟨_, rfl, ?_, below_then c hO.2.1⟩
    rw [← E.out]
    refine hO.ints ?_
    have := setTo_length g2 16
    exact Nat.le_trans this (by omega)

theorem siphon_mosttrap (v u : Value) (n : NetL) (l : List Int) (w : World) (hv : Net w v n) (hu : Ints w u l) :
    Calls Try.prog 16 #[v, u] w fun e w' => ∃ r, e = .returned r ∧ Ints w' r (mostL (turnL n) l) ∧ Below w.heap.size w w' := by
  obtain ⟨tv, rfl, hT⟩ := hv
  have c := below_new w (.cells #[.int .i64 n.places, tv] 24)
  have hbx := box2_new w (.int .i64 n.places) tv 24
  have hv : Net _ (.agg #[.int .i64 n.places, tv]) n := ⟨_, rfl, hT.below c⟩
  replace hu := hu.below c
  clear hT
  go_enter Try.func16, Try.ntmps16
  go_wp2_with fail
  refine (net_turned _ n _ (by exact hv)).mono ?_
  rintro e w1 ⟨r, rfl, hr, b⟩
  replace hu := hu.below b
  replace c := below_then c b
  clear b hv
  go_wp2_with fail
  refine (siphon_most r u (turnL n) l _ hr hu).mono ?_
  rintro e w2 ⟨r2, rfl, hr2, b⟩
  go_wp2
  go_ret
  exact ⟨_, rfl, hr2, below_then c b⟩

theorem yields_load_grp {ops : Array Oper} {S : World → Prop} {o : Oper} {a : Act} (hw : Region.wanted o (yielded ops a.tmps) = true) (x : Operand) (ho : o.op = .load 47 x) (b : Nat) (g : Nat → Bool) (hx : a.eval x = .pointer (some ⟨b, 0, none⟩)) (hS : ∀ w, S w → GrpAt w b g) :
    YieldsIf Try.prog ops S o (grpV g) a :=
  .inl ⟨hw, fun w hw' => by
    unfold execOp
    simp only [ho, hx, Instr.loadAt, Instr.sureAddr, Sem.run_bind, Sem.run_pure, Result.andThen_ok, loadVar_grp w b _ _ _ (hS w hw').lit rfl]⟩

theorem equal_grp (w : World) (d : Nat) (g h : Nat → Bool) : (Op.equalIn (d + 2) 47 (.agg (grpC g)) (.agg (grpC h))).run Try.prog w = .ok (sameG g h) w := by
  have hg := grpC_at g
  have hh := grpC_at h
  unfold sameG
  generalize grpC g = xs at *
  generalize grpC h = ys at *
  rw [List.range_eq_range', Op.equalIn]
  simp only [Sem.run_bind, run_underlying Try.underlying47, Result.andThen_ok, Try.sizeOf4, Std.Legacy.Range.forIn_eq_forIn_range', Std.Legacy.Range.size, Nat.sub_zero, Nat.add_sub_cancel, Nat.div_one]
  have hl : ∀ i ∈ List.range' 0 16 1, i < 16 := fun i hi => by simpa using (List.mem_range'_1.1 hi).2
  generalize List.range' 0 16 1 = l at hl ⊢
  induction l with
  | nil => simp
  | cons i l ih =>
    have hi : i < 16 := hl i (by simp)
    have px : (part 4 xs (i * 1)).run Try.prog w = .ok (.bool (g i)) w := by
      simp [part, isAgg, run_underlying Try.underlying4, hg i hi]
    have py : (part 4 ys (i * 1)).run Try.prog w = .ok (.bool (h i)) w := by
      simp [part, isAgg, run_underlying Try.underlying4, hh i hi]
    have pe := run_equalIn_bool (P := Try.prog) w d 4 (g i) (h i) Try.underlying4
    simp only [List.forIn_cons, Sem.run_bind, px, py, pe, Result.andThen_ok, List.all_cons]
    cases hb : (g i == h i)
    · simp
    · simp only [Bool.not_true, Bool.false_eq_true, if_false, Sem.run_pure, Result.andThen_ok, Bool.true_and]
      exact ih fun j hj => hl j (by simp [hj])

theorem eql_grp (w : World) (g h : Nat → Bool) : (binOp .eql 47 (grpV g) (grpV h)).run Try.prog w = .ok (.bool (sameG g h)) w := by
  have e := equal_grp w 9998 g h
  rw [run_eql_struct, e]
  rfl

theorem guard_grp (w : World) (x y : Operand) (g h : Nat → Bool) : (eqGuard .eql 47 x y (grpV g) (grpV h)).run Try.prog w = .ok () w := by
  have e : Try.prog.eqGuardType Try.prog.depth 47 = false := by kernel_rfl
  simp [eqGuard, Sem.run_bind, run_program, e]

theorem yields_eql_grp {ops : Array Oper} {S : World → Prop} {o : Oper} {a : Act} (hw : Region.wanted o (yielded ops a.tmps) = true) (x y : Operand) (t : TypeId) (ho : o.op = .binOp .eql 47 x y t) (g h : Nat → Bool) (hx : a.eval x = grpV g) (hy : a.eval y = grpV h) :
    YieldsIf Try.prog ops S o (.bool (sameG g h)) a :=
  .inl ⟨hw, fun w hw' => by
    unfold execOp
    simp only [ho, hx, hy, Sem.run_bind, Sem.run_pure, Result.andThen_ok, guard_grp w x y g h, eql_grp w g h]⟩

theorem range_two {w : World} {b : Nat} {x y : Value} (h1 : w.cell? ⟨b, 0, none⟩ = some x) (h2 : w.cell? ⟨b, 1, none⟩ = some y) : w.rangeAt b 0 [x, y] := by
  intro j v hj
  match j, hj with
  | 0, hj => simp at hj; subst hj; exact h1
  | 1, hj => simp at hj; subst hj; exact h2

set_option maxRecDepth 4000 in
set_option maxHeartbeats 2000000 in
theorem siphon_siphon (v u : Value) (n : NetL) (l : List Int) (w : World) (hv : Net w v n) (hu : Ints w u l) :
    Calls Try.prog 10 #[v, u] w fun e w' => e = .returned (.bool (siphL n l)) ∧ Below w.heap.size w w' := by
  obtain ⟨tv, rfl, hT⟩ := hv
  have c := below_new w (.cells #[.int .i64 n.places, tv] 24)
  have hbx := box2_new w (.int .i64 n.places) tv 24
  have hv : Net _ (.agg #[.int .i64 n.places, tv]) n := ⟨_, rfl, hT.below c⟩
  replace hu := hu.below c
  clear hT
  go_enter Try.func10, Try.ntmps10
  go_wp2_with fail
  refine (grouped_any _ u n l _ (by exact hv) hu).mono ?_
  rintro e w1 ⟨g, rfl, hm, b⟩
  replace hbx := hbx.below b
  replace hv := hv.below b
  replace c := below_then c b
  clear b hu
  have hG0 : GrpAt (w1.alloc (.cells (grpC fun _ => false) 47)) w1.heap.size (fun _ => false) := grpAt_new w1 _
  have b0 := below_new w1 (.cells (grpC fun _ => false) 47)
  have hG : Hid (GrpAt (storeG (w1.alloc (.cells (grpC fun _ => false) 47)) w1.heap.size g) w1.heap.size g) := hG0.store g
  have b2 : Hid (Below w1.heap.size w1 (storeG (w1.alloc (.cells (grpC fun _ => false) 47)) w1.heap.size g)) := below_storeG b0 (Nat.le_refl _) g
  cases hp : placesL n l
  · have E : Hid (siphL n l = false) := by show _ = _; unfold siphL; rw [hp]; rfl
    clear hm hp
    go_upto_region 2 with (refine wpList_store_grp rfl _ _ rfl w1.heap.size (fun _ => false) g rfl rfl hG0 ?_; intro W HW; rw [HW] at hG b2; clear HW hG0 b0)
    replace c := below_then (below_then c b2.out) (show Below W.heap.size W W.drew from (Below.refl _ _).drew)
    refine wp_region_held_drew (S := fun _ => True) (by kernel_rfl) trivial (fun hH => ?_)
    refine wpAnyH_take (i := 0) (v := .bool false) rfl (by kernel_rfl) (by kernel_rfl) (by kernel_rfl) (fun _ _ _ h => h) (.inl ⟨by rfl, fun _ _ => rfl⟩) hH ?_
    simp only [List.getElem_toArray, List.getElem_cons_succ, List.getElem_cons_zero, Act.put, List.setIfInBounds_toArray, List.set_cons_zero, List.set_cons_succ]
    refine wpAnyH_take (i := 1) (v := .bool false) rfl (by kernel_rfl) (by kernel_rfl) (by kernel_rfl) (fun _ _ _ h => h) (.inl ⟨by rfl, fun _ _ => rfl⟩) hH ?_
    simp only [List.getElem_toArray, List.getElem_cons_succ, List.getElem_cons_zero, Act.put, List.setIfInBounds_toArray, List.set_cons_zero, List.set_cons_succ]
    refine wpAnyH_take (i := 2) (v := undef) rfl (by kernel_rfl) (by kernel_rfl) (by kernel_rfl) (fun _ _ _ h => h) (.inr ⟨by rfl, rfl⟩) hH ?_
    simp only [List.getElem_toArray, List.getElem_cons_succ, List.getElem_cons_zero, Act.put, List.setIfInBounds_toArray, List.set_cons_zero, List.set_cons_succ]
    refine wpAnyH_take (i := 3) (v := undef) rfl (by kernel_rfl) (by kernel_rfl) (by kernel_rfl) (fun _ _ _ h => h) (.inr ⟨by rfl, rfl⟩) hH ?_
    simp only [List.getElem_toArray, List.getElem_cons_succ, List.getElem_cons_zero, Act.put, List.setIfInBounds_toArray, List.set_cons_zero, List.set_cons_succ]
    refine wpAnyH_take (i := 4) (v := undef) rfl (by kernel_rfl) (by kernel_rfl) (by kernel_rfl) (fun _ _ _ h => h) (.inr ⟨by rfl, rfl⟩) hH ?_
    simp only [List.getElem_toArray, List.getElem_cons_succ, List.getElem_cons_zero, Act.put, List.setIfInBounds_toArray, List.set_cons_zero, List.set_cons_succ]
    refine wpAnyH_take (i := 5) (v := undef) rfl (by kernel_rfl) (by kernel_rfl) (by kernel_rfl) (fun _ _ _ h => h) (.inr ⟨by rfl, rfl⟩) hH ?_
    simp only [List.getElem_toArray, List.getElem_cons_succ, List.getElem_cons_zero, Act.put, List.setIfInBounds_toArray, List.set_cons_zero, List.set_cons_succ]
    refine wpAnyH_take (i := 6) (v := undef) rfl (by kernel_rfl) (by kernel_rfl) (by kernel_rfl) (fun _ _ _ h => h) (.inr ⟨by rfl, rfl⟩) hH ?_
    simp only [List.getElem_toArray, List.getElem_cons_succ, List.getElem_cons_zero, Act.put, List.setIfInBounds_toArray, List.set_cons_zero, List.set_cons_succ]
    refine wpAnyH_take (i := 7) (v := .bool false) rfl (by kernel_rfl) (by kernel_rfl) (by kernel_rfl) (fun _ _ _ h => h) (.inl ⟨by rfl, fun _ _ => rfl⟩) hH ?_
    simp only [List.getElem_toArray, List.getElem_cons_succ, List.getElem_cons_zero, Act.put, List.setIfInBounds_toArray, List.set_cons_zero, List.set_cons_succ]
    refine wpAnyH_take (i := 8) (v := .bool false) rfl (by kernel_rfl) (by kernel_rfl) (by kernel_rfl) (fun _ _ _ h => h) (.inl ⟨by rfl, fun _ _ => rfl⟩) hH ?_
    simp only [List.getElem_toArray, List.getElem_cons_succ, List.getElem_cons_zero, Act.put, List.setIfInBounds_toArray, List.set_cons_zero, List.set_cons_succ]
    refine wpAnyH_done (by kernel_rfl) ?_ _
    go_wp2
    go_ret
    exact ⟨by rw [E.out]; rfl, c⟩
  · have hmm := hm hp
    clear hm
    go_upto_region 2 with (refine wpList_store_grp rfl _ _ rfl w1.heap.size (fun _ => false) g rfl rfl hG0 ?_; intro W HW; rw [HW] at hG b2; clear HW hG0 b0)
    replace hbx := hbx.below b2.out
    replace hv := hv.below b2.out
    replace c := below_then c b2.out
    clear b2
    have hG := hG.out
    obtain ⟨x0, x1, x2⟩ := id hbx
    have hpp : placesL n (setL g) = true := by
      obtain ⟨q1, q2⟩ := placesL_iff.1 hp
      exact placesL_iff.2 ⟨q1, fun p hq => q2 p ((hmm p).1 hq)⟩
    refine wp_region_held_drew (S := fun w' => GrpAt w' w1.heap.size g ∧ w'.cell? ⟨w.heap.size, 0, none⟩ = some (.int .i64 n.places) ∧ w'.cell? ⟨w.heap.size, 1, none⟩ = some tv) (by kernel_rfl) ?_ (fun hH => ?_)
    · exact ⟨hG.below (Below.refl _ _).drew, by simpa using x1, by simpa using x2⟩
    refine wpAnyH_take (i := 0) (v := .bool true) rfl (by kernel_rfl) (by kernel_rfl) (by kernel_rfl) (fun _ _ _ h => h) (.inl ⟨by rfl, fun _ _ => rfl⟩) hH ?_
    simp only [List.getElem_toArray, List.getElem_cons_succ, List.getElem_cons_zero, Act.put, List.setIfInBounds_toArray, List.set_cons_zero, List.set_cons_succ]
    refine wpAnyH_take (i := 1) (v := .bool true) rfl (by kernel_rfl) (by kernel_rfl) (by kernel_rfl) (fun _ _ _ h => h) (.inl ⟨by rfl, fun _ _ => rfl⟩) hH ?_
    simp only [List.getElem_toArray, List.getElem_cons_succ, List.getElem_cons_zero, Act.put, List.setIfInBounds_toArray, List.set_cons_zero, List.set_cons_succ]
    refine wpAnyH_take (i := 2) rfl (by kernel_rfl) (by kernel_rfl) (by kernel_rfl) (fun _ _ _ h => h) (yieldsIf_load_mid (by rfl) 24 _ rfl w.heap.size 0 rfl [.int .i64 n.places, tv] _ (fun w' h => range_two h.2.1 h.2.2) Try.underlying24 rfl (by kernel_rfl)) hH ?_
    simp only [List.getElem_toArray, List.getElem_cons_succ, List.getElem_cons_zero, Act.put, List.setIfInBounds_toArray, List.set_cons_zero, List.set_cons_succ]
    refine wpAnyH_take (i := 3) rfl (by kernel_rfl) (by kernel_rfl) (by kernel_rfl) (fun _ _ _ h => h) (yields_load_grp (by rfl) _ rfl w1.heap.size g rfl (fun w' h => h.1)) hH ?_
    simp only [List.getElem_toArray, List.getElem_cons_succ, List.getElem_cons_zero, Act.put, List.setIfInBounds_toArray, List.set_cons_zero, List.set_cons_succ]
    refine wpAnyH_take (i := 5) rfl (by kernel_rfl) (by kernel_rfl) (by kernel_rfl) (fun _ _ _ h => h) (yields_load_grp (by rfl) _ rfl w1.heap.size g rfl (fun w' h => h.1)) hH ?_
    simp only [List.getElem_toArray, List.getElem_cons_succ, List.getElem_cons_zero, Act.put, List.setIfInBounds_toArray, List.set_cons_zero, List.set_cons_succ]
    refine wpAnyH_ready (rs := [4]) (by kernel_rfl) (by simp) ?_
    refine AllReadyH.cons rfl (fun K hK => ?_) AllReadyH.nil
    simp only [List.getElem_toArray, List.getElem_cons_succ, List.getElem_cons_zero]
    rw [if_pos (by rfl)]
    go_wp2_with fail
    have hd : Below W.heap.size W W.drew := (Below.refl _ _).drew
    refine (largest_any _ n g W.drew (by exact hv.below hd) hpp).mono ?_
    rintro e w2 ⟨g2, rfl, ⟨hL, hS⟩, b⟩
    have b' : Below W.heap.size W w2 := below_then hd b
    have E : Hid (sameG g2 g = siphL n l) := left_siph hp hmm hL hS
    replace c := below_then c b'
    refine hK.out _ _ ?_ (fun hH => ?_)
    · exact ⟨hG.below b', (b'.cell (p := ⟨w.heap.size, 0, none⟩) x0).trans x1, (b'.cell (p := ⟨w.heap.size, 1, none⟩) x0).trans x2⟩
    refine wpAnyH_take (i := 6) rfl (by kernel_rfl) (by kernel_rfl) (by kernel_rfl) (fun _ _ _ h => h) (yields_eql_grp (by rfl) _ _ _ rfl g2 g rfl rfl) hH ?_
    simp only [List.getElem_toArray, List.getElem_cons_succ, List.getElem_cons_zero, Act.put, List.setIfInBounds_toArray, List.set_cons_zero, List.set_cons_succ]
    rw [E.out]
    refine wpAnyH_take (i := 7) (v := .bool (siphL n l)) rfl (by kernel_rfl) (by kernel_rfl) (by kernel_rfl) (fun _ _ _ h => h) (.inl ⟨by rfl, fun _ _ => rfl⟩) hH ?_
    simp only [List.getElem_toArray, List.getElem_cons_succ, List.getElem_cons_zero, Act.put, List.setIfInBounds_toArray, List.set_cons_zero, List.set_cons_succ]
    refine wpAnyH_take (i := 8) (v := .bool (siphL n l)) rfl (by kernel_rfl) (by kernel_rfl) (by kernel_rfl) (fun _ _ _ h => h) (.inl ⟨by rfl, fun _ _ => rfl⟩) hH ?_
    simp only [List.getElem_toArray, List.getElem_cons_succ, List.getElem_cons_zero, Act.put, List.setIfInBounds_toArray, List.set_cons_zero, List.set_cons_succ]
    refine wpAnyH_done (by kernel_rfl) ?_ _
    go_wp2
    go_ret
    exact ⟨rfl, c⟩

theorem siphon_trap (v u : Value) (n : NetL) (l : List Int) (w : World) (hv : Net w v n) (hu : Ints w u l) :
    Calls Try.prog 12 #[v, u] w fun e w' => e = .returned (.bool (trapL n l)) ∧ Below w.heap.size w w' := by
  obtain ⟨tv, rfl, hT⟩ := hv
  have c := below_new w (.cells #[.int .i64 n.places, tv] 24)
  have hv : Net _ (.agg #[.int .i64 n.places, tv]) n := ⟨_, rfl, hT.below c⟩
  replace hu := hu.below c
  clear hT
  have hbx := box2_new w (.int .i64 n.places) tv 24
  go_enter Try.func12, Try.ntmps12
  go_wp2_with fail
  refine (net_turned _ n _ (by exact hv)).mono ?_
  rintro e w1 ⟨r, rfl, hr, b⟩
  replace hu := hu.below b
  replace c := below_then c b
  clear b hv
  go_wp2_with fail
  refine (siphon_siphon r u (turnL n) l _ hr hu).mono ?_
  rintro e w2 ⟨rfl, b⟩
  go_wp2
  go_ret
  exact ⟨rfl, below_then c b⟩

end Go.Proofs.Ytnklepfommakpaa
