/- The law CasesSaid, walked: it answers true, and writes nothing that was there. (Made by tools/gen_casessaid.py.) -/
import Derived.Test.YtffaamljogbmlaaDoorGr19
import Derived.Test.YtffaamljogbmlaaDoorGr04
import Derived.Test.YtffaamljogbmlaaDoorGr32
import Derived.Test.YtffaamljogbmlaaDoorGr02
import Derived.Maps.AppendAt
namespace Go.Proofs.YtffaamljogbmlaaDoor
open Go.RowKit
set_option linter.unusedVariables false
set_option linter.unusedSimpArgs false
set_option maxRecDepth 4000

theorem own_low {w2 v v' : World} {r : Value} {zs : List Int} (h : Own v.heap.size v v' r zs) (hb : Below w2.heap.size w2 v) : Own w2.heap.size w2 v' r zs := by
  obtain ⟨h1, h2, h3⟩ := h
  refine ⟨⟨h1.1, ?_⟩, hb.trans (h2.mono hb.size), Nat.le_trans hb.size h3⟩
  rcases h1.2 with q | ⟨g, cap, cur, e, hg, q⟩
  · exact .inl q
  · exact .inr ⟨g, cap, cur, e, Nat.le_trans hb.size hg, q⟩
theorem wpr_append_one {o : Oper} {a : Act} {K : Act → World → Prop} {Q : Exit → Act → World → Prop} {Y : Nat → Option Bool} (hwt : Region.wanted o Y = true) (s x : Operand)
    (ho : o.op = .call { callee := .builtin .append, args := #[s, x], argTypes := #[27, 27] }) (B : Nat) (w wr : World) (v : Value) (zs : List Int) (z : Int) (b : Nat) (hG : Own B w wr v zs)
    (hs : a.eval s = v) (hx : a.eval x = .slice (some ⟨b, 0, none⟩) 1 1) (hc : wr.cell? ⟨b, 0, none⟩ = some (.int .i64 z)) (hl : zs.length + 1 ≤ 17592186044416)
    (h : ∀ v' w', Own B w w' v' (zs ++ [z]) → K (a.put o.dst v') w') : if Region.wanted o Y = true then Oper.wp Tryd.prog o a wr K Q else K (a.put o.dst undef) wr := by
  obtain ⟨i0, hi, hz0, hz1, hz2⟩ := info_parts info_int
  obtain ⟨hown, hb, hB⟩ := hG
  obtain ⟨v', w', hr, h2, h3, _, _⟩ := run_append_own_at (P := Tryd.prog) wr B 27 o.type 3 i0 _ 1 8 Tryd.underlying27 hi hz0 hz1 hz2 rfl (by decide) v zs.length _ hown ⟨b, 0, none⟩ 1 1 [.int .i64 z] rfl
    (fun j u hj => by
      match j, hj with
      | 0, hj => simp at hj; subst hj; simpa [Addr.add] using hc) (fun u hu => by simp at hu; subst hu; rfl) (by unfold maxLen; omega) (by omega) hB
  rw [if_pos hwt]
  unfold Oper.wp execOp
  simp only [ho, resolve, invoke, builtin, Sem.run_bind, Sem.run_pure, Result.andThen_ok, List.map_toArray, List.map_cons, List.map_nil, hs, hx, hr]
  exact h v' w' ⟨by simpa using h2, hb.grown h3 hB (fun k hk => (hown.lt k hk).1), Nat.le_trans hB h3.size⟩
theorem max_zero {Y : List Int} (h0 : ∀ j, 0 ≤ nth Y j) (h : ¬ 0 < maxL (Y ++ [0])) (t : Nat) : nth Y t = 0 := by
  by_cases ht : t < Y.length
  · have h1 := maxL_ge (xs := Y ++ [0]) (j := t) (by simp; omega)
    have e : nth (Y ++ [0]) t = nth Y t := by simp [nth, List.getD, List.getElem?_append_left ht]
    rw [e] at h1
    have := h0 t
    omega
  · exact nth_past _ _ (by omega)
theorem tongErr_whole {n : NetL} {i o : Int} (h : TongErr n i o 0) : ∃ s, Whole n (startL n.places i) s := by
  rcases h with ⟨h, _⟩ | ⟨_, h⟩
  · exact absurd rfl h
  · exact ⟨_, graphL_whole (s := (graphL n (startL n.places i) 300).1) (Prod.ext rfl h)⟩

set_option maxHeartbeats 8000000 in
theorem casesSaid_walk (v u : Value) (n : NetL) (i o : Int) (os : List (Int × Int)) (w : World) (hv : Net w v n) (hu : OpsV w u os) (hTab : Tab w) :
    Calls Tryd.prog 3 #[v, .int .i64 i, .int .i64 o, u] w fun e w' => e = .returned (.bool true) ∧ Below w.heap.size w w' := by
  obtain ⟨tv, rfl, hT⟩ := hv
  have c0 := below_new w (.cells #[.int .i64 n.places, tv] 24)
  have hbn := box2_new w (.int .i64 n.places) tv 24
  obtain ⟨w0, Hw0⟩ : ∃ w0, Hid (w.alloc (.cells #[.int .i64 n.places, tv] 24) = w0) := ⟨_, rfl⟩
  rw [Hw0.out] at c0 hbn
  replace hT := hT.below c0
  have hv : Net w0 (.agg #[.int .i64 n.places, tv]) n := ⟨_, rfl, hT⟩
  replace hu := hu.below c0
  obtain ⟨ta, tl, tc, rfl, htl, _⟩ := id hT
  have Htl : Hid (n.trans.length = tl) := htl
  clear htl
  obtain ⟨ua, uc, rfl, hum, hush⟩ := hu.slice
  obtain ⟨ul, Hul⟩ : ∃ k, Hid (os.length = k) := ⟨_, rfl⟩
  rw [Hul.out] at hu hum hush ⊢
  go_enter Tryd.func3, Tryd.ntmps3
  go_upto_region 1 with fail
  rw [Hw0.out]
  clear Hw0
  go_wp2_with fail
  refine (alive16_any w0).mono ?_
  rintro e w0' ⟨rfl, b⟩
  replace c0 := below_then c0 b
  replace hv := hv.below b
  replace hT := hT.below b
  replace hu := hu.below b
  replace hbn := hbn.below b
  clear b
  obtain ⟨x0, x1, x2⟩ := id hbn
  go_wp2_with fail
  refine (cases_play _ _ n i os w0' (by exact hv) (by exact hu)).mono ?_
  rintro e w1 ⟨r, l, rfl, hC, hL, b⟩
  obtain ⟨ra, rl, rc, ra2, rl2, rc2, rfl, hI, hI2⟩ := hC
  obtain ⟨la, ll, lc, rfl, hll, _⟩ := id hL
  have Hll : Hid _ := hll
  clear hll
  replace c0 := below_then c0 b
  replace hv := hv.below b
  replace hT := hT.below b
  replace hu := hu.below b
  replace hbn := hbn.below b
  clear b x0 x1 x2
  have bn := below_new w1 (.cells #[.slice ra rl rc, .slice ra2 rl2 rc2] 29)
  have hbx := box2_new w1 (.slice ra rl rc) (.slice ra2 rl2 rc2) 29
  obtain ⟨B1, HB1⟩ : ∃ B, Hid (w1.heap.size = B) := ⟨_, rfl⟩
  rw [HB1.out] at hbx
  obtain ⟨w2, Hw2⟩ : ∃ v, Hid (w1.alloc (.cells #[.slice ra rl rc, .slice ra2 rl2 rc2] 29) = v) := ⟨_, rfl⟩
  rw [Hw2.out] at bn hbx
  go_upto_region 4 with fail
  rw [Hw2.out, HB1.out]
  clear Hw2 HB1
  replace c0 := below_then c0 bn
  replace hv := hv.below bn
  replace hT := hT.below bn
  replace hu := hu.below bn
  replace hbn := hbn.below bn
  replace hI := hI.below bn
  replace hI2 := hI2.below bn
  replace hL := hL.below bn
  clear bn
  by_cases hE : (beginC n i).2 = 0
  · have eA : playAll n i os = ((playC n (beginC n i).1 os).1, (playC n (beginC n i).1 os).2, 0) := by unfold playAll; rw [if_pos hE]
    rw [eA] at hI hI2 hL Hll ⊢
    simp only at hI hI2 hL Hll ⊢
    have hlu : ll = ul := by rw [← Hll.out, play_length, Hul.out]
    subst hlu
    have Hr : Hid (rightC n (playC n (beginC n i).1 os).1 = true) := play_right os (begin_right hE).1
    obtain ⟨Y, HY⟩ : ∃ Y, Hid ((playC n (beginC n i).1 os).1.busy = Y) := ⟨_, rfl⟩
    obtain ⟨M, HM⟩ : ∃ Y, Hid ((playC n (beginC n i).1 os).1.mark = Y) := ⟨_, rfl⟩
    rw [HY.out] at hI2
    rw [HM.out] at hI
    have hYr := rightC_iff.1 Hr.out
    rw [HY.out] at hYr
    have hY24 : Y.length ≤ 24 := by
      have h1 := (fits_net hYr.1).1
      simp only [netOk, headOk, Bool.and_eq_true, decide_eq_true_eq] at h1
      rw [hYr.2.1]; omega
    have HY0 : Hid (∀ j, 0 ≤ nth Y j) := fun j => ((rightL_iff _).1 hYr.2.2 j).1
    clear hYr eA Hll Hr
    go_cut [53] (fun p wc => ∃ bb, p = .bool bb ∧ (bb = false → M = startL n.places o ∧ ∀ t, nth Y t = 0) ∧ Below w2.heap.size w2 wc)
    case first =>
     cases heq : (M == startL n.places o)
     · skip
       have HS0 : Hid (∀ w', Below w2.heap.size w2 w' → w'.cell? ⟨w.heap.size, 0, none⟩ = some (.int .i64 n.places) ∧ w'.cell? ⟨w.heap.size, 1, none⟩ = some (.slice ta tl tc) ∧ w'.cell? ⟨B1, 0, none⟩ = some (.slice ra rl rc) ∧ w'.cell? ⟨B1, 1, none⟩ = some (.slice ra2 rl2 rc2)) := fun w' hb => ⟨(hbn.below hb).2.1, (hbn.below hb).2.2, (hbx.below hb).2.1, (hbx.below hb).2.2⟩
       refine wp_region_held_drew (S := (fun w' => w'.cell? ⟨w.heap.size, 0, none⟩ = some (.int .i64 n.places) ∧ w'.cell? ⟨w.heap.size, 1, none⟩ = some (.slice ta tl tc) ∧ w'.cell? ⟨B1, 0, none⟩ = some (.slice ra rl rc) ∧ w'.cell? ⟨B1, 1, none⟩ = some (.slice ra2 rl2 rc2))) (by kernel_rfl) (HS0.out _ (Below.refl _ _).drew) (fun hH => ?_)
       have b : Below w2.heap.size w2 w2.drew := (Below.refl _ _).drew
       obtain ⟨v0, Hv0⟩ : ∃ v0, Hid (w2.drew = v0) := ⟨_, rfl⟩
       rw [Hv0.out] at hH b ⊢
       clear Hv0
       refine wpAnyH_take (i := 0) (v := .int .i64 0) rfl (by kernel_rfl) (by kernel_rfl) (by kernel_rfl) (fun _ _ _ h => h) (.inl ⟨by rfl, fun _ _ => rfl⟩) hH ?_
       simp only [List.getElem_toArray, List.getElem_cons_succ, List.getElem_cons_zero, Act.put, List.setIfInBounds_toArray, List.set_cons_zero, List.set_cons_succ]
       refine wpAnyH_take (i := 1) (v := .bool false) rfl (by kernel_rfl) (by kernel_rfl) (by kernel_rfl) (fun _ _ _ h => h) (.inl ⟨by rfl, fun w' hS' => by first | (go_simp; done) | (go_simp; rfl) | (go_simp; intro h; omega) | (go_simp; omega)⟩) hH ?_
       simp only [List.getElem_toArray, List.getElem_cons_succ, List.getElem_cons_zero, Act.put, List.setIfInBounds_toArray, List.set_cons_zero, List.set_cons_succ]
       refine wpAnyH_take (i := 2) (v := .bool false) rfl (by kernel_rfl) (by kernel_rfl) (by kernel_rfl) (fun _ _ _ h => h) (.inl ⟨by rfl, fun _ _ => rfl⟩) hH ?_
       simp only [List.getElem_toArray, List.getElem_cons_succ, List.getElem_cons_zero, Act.put, List.setIfInBounds_toArray, List.set_cons_zero, List.set_cons_succ]
       refine wpAnyH_take (i := 3) (v := .slice la ll lc) rfl (by kernel_rfl) (by kernel_rfl) (by kernel_rfl) (fun _ _ _ h => h) (.inl ⟨by rfl, fun _ _ => rfl⟩) hH ?_
       simp only [List.getElem_toArray, List.getElem_cons_succ, List.getElem_cons_zero, Act.put, List.setIfInBounds_toArray, List.set_cons_zero, List.set_cons_succ]
       refine wpAnyH_take (i := 4) (v := .int .i64 (ll : Int)) rfl (by kernel_rfl) (by kernel_rfl) (by kernel_rfl) (fun _ _ _ h => h) (.inl ⟨by rfl, fun w' hS' => by first | (go_simp; done) | (go_simp; rfl) | (go_simp; intro h; omega) | (go_simp; omega)⟩) hH ?_
       simp only [List.getElem_toArray, List.getElem_cons_succ, List.getElem_cons_zero, Act.put, List.setIfInBounds_toArray, List.set_cons_zero, List.set_cons_succ]
       refine wpAnyH_take (i := 5) (v := .slice ua ll uc) rfl (by kernel_rfl) (by kernel_rfl) (by kernel_rfl) (fun _ _ _ h => h) (.inl ⟨by rfl, fun _ _ => rfl⟩) hH ?_
       simp only [List.getElem_toArray, List.getElem_cons_succ, List.getElem_cons_zero, Act.put, List.setIfInBounds_toArray, List.set_cons_zero, List.set_cons_succ]
       refine wpAnyH_take (i := 6) (v := .int .i64 (ll : Int)) rfl (by kernel_rfl) (by kernel_rfl) (by kernel_rfl) (fun _ _ _ h => h) (.inl ⟨by rfl, fun w' hS' => by first | (go_simp; done) | (go_simp; rfl) | (go_simp; intro h; omega) | (go_simp; omega)⟩) hH ?_
       simp only [List.getElem_toArray, List.getElem_cons_succ, List.getElem_cons_zero, Act.put, List.setIfInBounds_toArray, List.set_cons_zero, List.set_cons_succ]
       refine wpAnyH_take (i := 7) (v := .bool false) rfl (by kernel_rfl) (by kernel_rfl) (by kernel_rfl) (fun _ _ _ h => h) (.inl ⟨by rfl, fun w' hS' => by first | (go_simp; done) | (go_simp; rfl) | (go_simp; intro h; omega) | (go_simp; omega)⟩) hH ?_
       simp only [List.getElem_toArray, List.getElem_cons_succ, List.getElem_cons_zero, Act.put, List.setIfInBounds_toArray, List.set_cons_zero, List.set_cons_succ]
       refine wpAnyH_take (i := 8) (v := .bool false) rfl (by kernel_rfl) (by kernel_rfl) (by kernel_rfl) (fun _ _ _ h => h) (.inl ⟨by rfl, fun _ _ => rfl⟩) hH ?_
       simp only [List.getElem_toArray, List.getElem_cons_succ, List.getElem_cons_zero, Act.put, List.setIfInBounds_toArray, List.set_cons_zero, List.set_cons_succ]
       refine wpAnyH_take (i := 9) (v := .bool false) rfl (by kernel_rfl) (by kernel_rfl) (by kernel_rfl) (fun _ _ _ h => h) (.inl ⟨by rfl, fun _ _ => rfl⟩) hH ?_
       simp only [List.getElem_toArray, List.getElem_cons_succ, List.getElem_cons_zero, Act.put, List.setIfInBounds_toArray, List.set_cons_zero, List.set_cons_succ]
       refine wpAnyH_take (i := 10) (v := .pointer (some ⟨B1, 0, none⟩)) rfl (by kernel_rfl) (by kernel_rfl) (by kernel_rfl) (fun _ _ _ h => h) (.inl ⟨by rfl, fun w' hS' => by first | (go_simp; done) | (go_simp; rfl) | (go_simp; intro h; omega) | (go_simp; omega)⟩) hH ?_
       simp only [List.getElem_toArray, List.getElem_cons_succ, List.getElem_cons_zero, Act.put, List.setIfInBounds_toArray, List.set_cons_zero, List.set_cons_succ]
       refine wpAnyH_take (i := 11) (v := .slice ra rl rc) rfl (by kernel_rfl) (by kernel_rfl) (by kernel_rfl) (fun _ _ _ h => h) (.inl ⟨by rfl, fun w' hS' => by obtain ⟨s0, s1, s2, s3⟩ := hS'; go_simp⟩) hH ?_
       simp only [List.getElem_toArray, List.getElem_cons_succ, List.getElem_cons_zero, Act.put, List.setIfInBounds_toArray, List.set_cons_zero, List.set_cons_succ]
       refine wpAnyH_take (i := 12) (v := .agg #[.int .i64 n.places, .slice ta tl tc]) rfl (by kernel_rfl) (by kernel_rfl) (by kernel_rfl) (fun _ _ _ h => h) (.inl ⟨by rfl, fun w' hS' => by obtain ⟨s0, s1, s2, s3⟩ := hS'; go_simp⟩) hH ?_
       simp only [List.getElem_toArray, List.getElem_cons_succ, List.getElem_cons_zero, Act.put, List.setIfInBounds_toArray, List.set_cons_zero, List.set_cons_succ]
       refine wpAnyH_take (i := 13) (v := .int .i64 o) rfl (by kernel_rfl) (by kernel_rfl) (by kernel_rfl) (fun _ _ _ h => h) (.inl ⟨by rfl, fun _ _ => rfl⟩) hH ?_
       simp only [List.getElem_toArray, List.getElem_cons_succ, List.getElem_cons_zero, Act.put, List.setIfInBounds_toArray, List.set_cons_zero, List.set_cons_succ]
       refine wpAnyH_ready (rs := [14]) (by kernel_rfl) (by simp) ?_
       refine AllReadyH.cons rfl (fun K hK => ?_) AllReadyH.nil
       simp only [List.getElem_toArray, List.getElem_cons_succ, List.getElem_cons_zero]
       rw [if_pos (by rfl)]
       go_wp2_with fail
       refine (shape_start _ n o v0 (by exact hv.below b)).mono ?_
       rintro e v1 ⟨r1, rfl, hI1, bs1⟩
       obtain ⟨sa, sl, sc, rfl, _⟩ := id hI1
       replace b := below_then b bs1
       refine hK.out _ _ (HS0.out _ b) (fun hH => ?_)
       clear hK
       refine wpAnyH_ready (rs := [15]) (by kernel_rfl) (by simp) ?_
       refine AllReadyH.cons rfl (fun K hK => ?_) AllReadyH.nil
       simp only [List.getElem_toArray, List.getElem_cons_succ, List.getElem_cons_zero]
       rw [if_pos (by rfl)]
       go_wp2_with fail
       refine (equal_any _ _ M (startL n.places o) v1 (by exact hI.below b) (by exact hI1)).mono ?_
       rintro e v2 ⟨rfl, bs2⟩
       replace bs2 := below_of_drewN bs2
       replace b := below_then b bs2
       rw [heq]
       refine hK.out _ _ (HS0.out _ b) (fun hH => ?_)
       clear hK
       refine wpAnyH_take (i := 16) (v := .bool true) rfl (by kernel_rfl) (by kernel_rfl) (by kernel_rfl) (fun _ _ _ h => h) (.inl ⟨by rfl, fun w' hS' => by first | (go_simp; done) | (go_simp; rfl) | (go_simp; intro h; omega) | (go_simp; omega)⟩) hH ?_
       simp only [List.getElem_toArray, List.getElem_cons_succ, List.getElem_cons_zero, Act.put, List.setIfInBounds_toArray, List.set_cons_zero, List.set_cons_succ]
       refine wpAnyH_take (i := 17) (v := .bool true) rfl (by kernel_rfl) (by kernel_rfl) (by kernel_rfl) (fun _ _ _ h => h) (.inl ⟨by rfl, fun _ _ => rfl⟩) hH ?_
       simp only [List.getElem_toArray, List.getElem_cons_succ, List.getElem_cons_zero, Act.put, List.setIfInBounds_toArray, List.set_cons_zero, List.set_cons_succ]
       refine wpAnyH_take (i := 18) (v := .bool true) rfl (by kernel_rfl) (by kernel_rfl) (by kernel_rfl) (fun _ _ _ h => h) (.inl ⟨by rfl, fun _ _ => rfl⟩) hH ?_
       simp only [List.getElem_toArray, List.getElem_cons_succ, List.getElem_cons_zero, Act.put, List.setIfInBounds_toArray, List.set_cons_zero, List.set_cons_succ]
       refine wpAnyH_take (i := 19) (v := undef) rfl (by kernel_rfl) (by kernel_rfl) (by kernel_rfl) (fun _ _ _ h => h) (.inr ⟨by rfl, rfl⟩) hH ?_
       simp only [List.getElem_toArray, List.getElem_cons_succ, List.getElem_cons_zero, Act.put, List.setIfInBounds_toArray, List.set_cons_zero, List.set_cons_succ]
       refine wpAnyH_take (i := 20) (v := undef) rfl (by kernel_rfl) (by kernel_rfl) (by kernel_rfl) (fun _ _ _ h => h) (.inr ⟨by rfl, rfl⟩) hH ?_
       simp only [List.getElem_toArray, List.getElem_cons_succ, List.getElem_cons_zero, Act.put, List.setIfInBounds_toArray, List.set_cons_zero, List.set_cons_succ]
       refine wpAnyH_take (i := 21) (v := undef) rfl (by kernel_rfl) (by kernel_rfl) (by kernel_rfl) (fun _ _ _ h => h) (.inr ⟨by rfl, rfl⟩) hH ?_
       simp only [List.getElem_toArray, List.getElem_cons_succ, List.getElem_cons_zero, Act.put, List.setIfInBounds_toArray, List.set_cons_zero, List.set_cons_succ]
       refine wpAnyH_take (i := 22) (v := undef) rfl (by kernel_rfl) (by kernel_rfl) (by kernel_rfl) (fun _ _ _ h => h) (.inr ⟨by rfl, rfl⟩) hH ?_
       simp only [List.getElem_toArray, List.getElem_cons_succ, List.getElem_cons_zero, Act.put, List.setIfInBounds_toArray, List.set_cons_zero, List.set_cons_succ]
       refine wpAnyH_take (i := 23) (v := undef) rfl (by kernel_rfl) (by kernel_rfl) (by kernel_rfl) (fun _ _ _ h => h) (.inr ⟨by rfl, rfl⟩) hH ?_
       simp only [List.getElem_toArray, List.getElem_cons_succ, List.getElem_cons_zero, Act.put, List.setIfInBounds_toArray, List.set_cons_zero, List.set_cons_succ]
       refine wpAnyH_take (i := 24) (v := undef) rfl (by kernel_rfl) (by kernel_rfl) (by kernel_rfl) (fun _ _ _ h => h) (.inr ⟨by rfl, rfl⟩) hH ?_
       simp only [List.getElem_toArray, List.getElem_cons_succ, List.getElem_cons_zero, Act.put, List.setIfInBounds_toArray, List.set_cons_zero, List.set_cons_succ]
       refine wpAnyH_take (i := 25) (v := undef) rfl (by kernel_rfl) (by kernel_rfl) (by kernel_rfl) (fun _ _ _ h => h) (.inr ⟨by rfl, rfl⟩) hH ?_
       simp only [List.getElem_toArray, List.getElem_cons_succ, List.getElem_cons_zero, Act.put, List.setIfInBounds_toArray, List.set_cons_zero, List.set_cons_succ]
       refine wpAnyH_take (i := 26) (v := .bool true) rfl (by kernel_rfl) (by kernel_rfl) (by kernel_rfl) (fun _ _ _ h => h) (.inl ⟨by rfl, fun _ _ => rfl⟩) hH ?_
       simp only [List.getElem_toArray, List.getElem_cons_succ, List.getElem_cons_zero, Act.put, List.setIfInBounds_toArray, List.set_cons_zero, List.set_cons_succ]
       refine wpAnyH_done (by kernel_rfl) ?_ _
       go_wp2_with fail
       go_meet
       exact ⟨true, rfl, fun h => (by cases h), b⟩
     · by_cases hmx : 0 < maxL (Y ++ [0])
       · skip
         have HS0 : Hid (∀ w', Below w2.heap.size w2 w' → w'.cell? ⟨w.heap.size, 0, none⟩ = some (.int .i64 n.places) ∧ w'.cell? ⟨w.heap.size, 1, none⟩ = some (.slice ta tl tc) ∧ w'.cell? ⟨B1, 0, none⟩ = some (.slice ra rl rc) ∧ w'.cell? ⟨B1, 1, none⟩ = some (.slice ra2 rl2 rc2)) := fun w' hb => ⟨(hbn.below hb).2.1, (hbn.below hb).2.2, (hbx.below hb).2.1, (hbx.below hb).2.2⟩
         refine wp_region_held_drew (S := (fun w' => w'.cell? ⟨w.heap.size, 0, none⟩ = some (.int .i64 n.places) ∧ w'.cell? ⟨w.heap.size, 1, none⟩ = some (.slice ta tl tc) ∧ w'.cell? ⟨B1, 0, none⟩ = some (.slice ra rl rc) ∧ w'.cell? ⟨B1, 1, none⟩ = some (.slice ra2 rl2 rc2))) (by kernel_rfl) (HS0.out _ (Below.refl _ _).drew) (fun hH => ?_)
         have b : Below w2.heap.size w2 w2.drew := (Below.refl _ _).drew
         obtain ⟨v0, Hv0⟩ : ∃ v0, Hid (w2.drew = v0) := ⟨_, rfl⟩
         rw [Hv0.out] at hH b ⊢
         clear Hv0
         refine wpAnyH_take (i := 0) (v := .int .i64 0) rfl (by kernel_rfl) (by kernel_rfl) (by kernel_rfl) (fun _ _ _ h => h) (.inl ⟨by rfl, fun _ _ => rfl⟩) hH ?_
         simp only [List.getElem_toArray, List.getElem_cons_succ, List.getElem_cons_zero, Act.put, List.setIfInBounds_toArray, List.set_cons_zero, List.set_cons_succ]
         refine wpAnyH_take (i := 1) (v := .bool false) rfl (by kernel_rfl) (by kernel_rfl) (by kernel_rfl) (fun _ _ _ h => h) (.inl ⟨by rfl, fun w' hS' => by first | (go_simp; done) | (go_simp; rfl) | (go_simp; intro h; omega) | (go_simp; omega)⟩) hH ?_
         simp only [List.getElem_toArray, List.getElem_cons_succ, List.getElem_cons_zero, Act.put, List.setIfInBounds_toArray, List.set_cons_zero, List.set_cons_succ]
         refine wpAnyH_take (i := 2) (v := .bool false) rfl (by kernel_rfl) (by kernel_rfl) (by kernel_rfl) (fun _ _ _ h => h) (.inl ⟨by rfl, fun _ _ => rfl⟩) hH ?_
         simp only [List.getElem_toArray, List.getElem_cons_succ, List.getElem_cons_zero, Act.put, List.setIfInBounds_toArray, List.set_cons_zero, List.set_cons_succ]
         refine wpAnyH_take (i := 3) (v := .slice la ll lc) rfl (by kernel_rfl) (by kernel_rfl) (by kernel_rfl) (fun _ _ _ h => h) (.inl ⟨by rfl, fun _ _ => rfl⟩) hH ?_
         simp only [List.getElem_toArray, List.getElem_cons_succ, List.getElem_cons_zero, Act.put, List.setIfInBounds_toArray, List.set_cons_zero, List.set_cons_succ]
         refine wpAnyH_take (i := 4) (v := .int .i64 (ll : Int)) rfl (by kernel_rfl) (by kernel_rfl) (by kernel_rfl) (fun _ _ _ h => h) (.inl ⟨by rfl, fun w' hS' => by first | (go_simp; done) | (go_simp; rfl) | (go_simp; intro h; omega) | (go_simp; omega)⟩) hH ?_
         simp only [List.getElem_toArray, List.getElem_cons_succ, List.getElem_cons_zero, Act.put, List.setIfInBounds_toArray, List.set_cons_zero, List.set_cons_succ]
         refine wpAnyH_take (i := 5) (v := .slice ua ll uc) rfl (by kernel_rfl) (by kernel_rfl) (by kernel_rfl) (fun _ _ _ h => h) (.inl ⟨by rfl, fun _ _ => rfl⟩) hH ?_
         simp only [List.getElem_toArray, List.getElem_cons_succ, List.getElem_cons_zero, Act.put, List.setIfInBounds_toArray, List.set_cons_zero, List.set_cons_succ]
         refine wpAnyH_take (i := 6) (v := .int .i64 (ll : Int)) rfl (by kernel_rfl) (by kernel_rfl) (by kernel_rfl) (fun _ _ _ h => h) (.inl ⟨by rfl, fun w' hS' => by first | (go_simp; done) | (go_simp; rfl) | (go_simp; intro h; omega) | (go_simp; omega)⟩) hH ?_
         simp only [List.getElem_toArray, List.getElem_cons_succ, List.getElem_cons_zero, Act.put, List.setIfInBounds_toArray, List.set_cons_zero, List.set_cons_succ]
         refine wpAnyH_take (i := 7) (v := .bool false) rfl (by kernel_rfl) (by kernel_rfl) (by kernel_rfl) (fun _ _ _ h => h) (.inl ⟨by rfl, fun w' hS' => by first | (go_simp; done) | (go_simp; rfl) | (go_simp; intro h; omega) | (go_simp; omega)⟩) hH ?_
         simp only [List.getElem_toArray, List.getElem_cons_succ, List.getElem_cons_zero, Act.put, List.setIfInBounds_toArray, List.set_cons_zero, List.set_cons_succ]
         refine wpAnyH_take (i := 8) (v := .bool false) rfl (by kernel_rfl) (by kernel_rfl) (by kernel_rfl) (fun _ _ _ h => h) (.inl ⟨by rfl, fun _ _ => rfl⟩) hH ?_
         simp only [List.getElem_toArray, List.getElem_cons_succ, List.getElem_cons_zero, Act.put, List.setIfInBounds_toArray, List.set_cons_zero, List.set_cons_succ]
         refine wpAnyH_take (i := 9) (v := .bool false) rfl (by kernel_rfl) (by kernel_rfl) (by kernel_rfl) (fun _ _ _ h => h) (.inl ⟨by rfl, fun _ _ => rfl⟩) hH ?_
         simp only [List.getElem_toArray, List.getElem_cons_succ, List.getElem_cons_zero, Act.put, List.setIfInBounds_toArray, List.set_cons_zero, List.set_cons_succ]
         refine wpAnyH_take (i := 10) (v := .pointer (some ⟨B1, 0, none⟩)) rfl (by kernel_rfl) (by kernel_rfl) (by kernel_rfl) (fun _ _ _ h => h) (.inl ⟨by rfl, fun w' hS' => by first | (go_simp; done) | (go_simp; rfl) | (go_simp; intro h; omega) | (go_simp; omega)⟩) hH ?_
         simp only [List.getElem_toArray, List.getElem_cons_succ, List.getElem_cons_zero, Act.put, List.setIfInBounds_toArray, List.set_cons_zero, List.set_cons_succ]
         refine wpAnyH_take (i := 11) (v := .slice ra rl rc) rfl (by kernel_rfl) (by kernel_rfl) (by kernel_rfl) (fun _ _ _ h => h) (.inl ⟨by rfl, fun w' hS' => by obtain ⟨s0, s1, s2, s3⟩ := hS'; go_simp⟩) hH ?_
         simp only [List.getElem_toArray, List.getElem_cons_succ, List.getElem_cons_zero, Act.put, List.setIfInBounds_toArray, List.set_cons_zero, List.set_cons_succ]
         refine wpAnyH_take (i := 12) (v := .agg #[.int .i64 n.places, .slice ta tl tc]) rfl (by kernel_rfl) (by kernel_rfl) (by kernel_rfl) (fun _ _ _ h => h) (.inl ⟨by rfl, fun w' hS' => by obtain ⟨s0, s1, s2, s3⟩ := hS'; go_simp⟩) hH ?_
         simp only [List.getElem_toArray, List.getElem_cons_succ, List.getElem_cons_zero, Act.put, List.setIfInBounds_toArray, List.set_cons_zero, List.set_cons_succ]
         refine wpAnyH_take (i := 13) (v := .int .i64 o) rfl (by kernel_rfl) (by kernel_rfl) (by kernel_rfl) (fun _ _ _ h => h) (.inl ⟨by rfl, fun _ _ => rfl⟩) hH ?_
         simp only [List.getElem_toArray, List.getElem_cons_succ, List.getElem_cons_zero, Act.put, List.setIfInBounds_toArray, List.set_cons_zero, List.set_cons_succ]
         refine wpAnyH_ready (rs := [14]) (by kernel_rfl) (by simp) ?_
         refine AllReadyH.cons rfl (fun K hK => ?_) AllReadyH.nil
         simp only [List.getElem_toArray, List.getElem_cons_succ, List.getElem_cons_zero]
         rw [if_pos (by rfl)]
         go_wp2_with fail
         refine (shape_start _ n o v0 (by exact hv.below b)).mono ?_
         rintro e v1 ⟨r1, rfl, hI1, bs1⟩
         obtain ⟨sa, sl, sc, rfl, _⟩ := id hI1
         replace b := below_then b bs1
         refine hK.out _ _ (HS0.out _ b) (fun hH => ?_)
         clear hK
         refine wpAnyH_ready (rs := [15]) (by kernel_rfl) (by simp) ?_
         refine AllReadyH.cons rfl (fun K hK => ?_) AllReadyH.nil
         simp only [List.getElem_toArray, List.getElem_cons_succ, List.getElem_cons_zero]
         rw [if_pos (by rfl)]
         go_wp2_with fail
         refine (equal_any _ _ M (startL n.places o) v1 (by exact hI.below b) (by exact hI1)).mono ?_
         rintro e v2 ⟨rfl, bs2⟩
         replace bs2 := below_of_drewN bs2
         replace b := below_then b bs2
         rw [heq]
         refine hK.out _ _ (HS0.out _ b) (fun hH => ?_)
         clear hK
         refine wpAnyH_take (i := 16) (v := .bool false) rfl (by kernel_rfl) (by kernel_rfl) (by kernel_rfl) (fun _ _ _ h => h) (.inl ⟨by rfl, fun w' hS' => by first | (go_simp; done) | (go_simp; rfl) | (go_simp; intro h; omega) | (go_simp; omega)⟩) hH ?_
         simp only [List.getElem_toArray, List.getElem_cons_succ, List.getElem_cons_zero, Act.put, List.setIfInBounds_toArray, List.set_cons_zero, List.set_cons_succ]
         refine wpAnyH_take (i := 17) (v := .bool false) rfl (by kernel_rfl) (by kernel_rfl) (by kernel_rfl) (fun _ _ _ h => h) (.inl ⟨by rfl, fun _ _ => rfl⟩) hH ?_
         simp only [List.getElem_toArray, List.getElem_cons_succ, List.getElem_cons_zero, Act.put, List.setIfInBounds_toArray, List.set_cons_zero, List.set_cons_succ]
         refine wpAnyH_take (i := 18) (v := .bool false) rfl (by kernel_rfl) (by kernel_rfl) (by kernel_rfl) (fun _ _ _ h => h) (.inl ⟨by rfl, fun _ _ => rfl⟩) hH ?_
         simp only [List.getElem_toArray, List.getElem_cons_succ, List.getElem_cons_zero, Act.put, List.setIfInBounds_toArray, List.set_cons_zero, List.set_cons_succ]
         refine wpAnyH_take (i := 19) (v := .pointer (some ⟨B1, 1, none⟩)) rfl (by kernel_rfl) (by kernel_rfl) (by kernel_rfl) (fun _ _ _ h => h) (.inl ⟨by rfl, fun w' hS' => by first | (go_simp; done) | (go_simp; rfl) | (go_simp; intro h; omega) | (go_simp; omega)⟩) hH ?_
         simp only [List.getElem_toArray, List.getElem_cons_succ, List.getElem_cons_zero, Act.put, List.setIfInBounds_toArray, List.set_cons_zero, List.set_cons_succ]
         refine wpAnyH_take (i := 20) (v := .slice ra2 rl2 rc2) rfl (by kernel_rfl) (by kernel_rfl) (by kernel_rfl) (fun _ _ _ h => h) (.inl ⟨by rfl, fun w' hS' => by obtain ⟨s0, s1, s2, s3⟩ := hS'; go_simp⟩) hH ?_
         simp only [List.getElem_toArray, List.getElem_cons_succ, List.getElem_cons_zero, Act.put, List.setIfInBounds_toArray, List.set_cons_zero, List.set_cons_succ]
         refine wpAnyH_ready (rs := [21, 22]) (by kernel_rfl) (by simp) ?_
         refine (AllReadyH.cons rfl (fun K hK => ?_) (AllReadyH.cons rfl (fun K hK => ?_) AllReadyH.nil))
         · simp only [List.getElem_toArray, List.getElem_cons_succ, List.getElem_cons_zero]
           rw [if_pos (by rfl)]
           go_wp2_with fail
           refine (clone_any _ Y v2 (by exact hI2.below b)).mono ?_
           rintro e v3 ⟨r3, rfl, hOw0⟩
           have bs3 := hOw0.2.1
           have hOw1 : Own w2.heap.size w2 v3 r3 Y := own_low hOw0 b
           obtain ⟨ca, cl, cc, rfl⟩ := hOw1.slice
           clear hOw0
           replace b := below_then b bs3
           refine hK.out _ _ (HS0.out _ b) (fun hH => ?_)
           clear hK
           have bl := below_new v3 (.cells #[.int .i64 0] 3)
           have hlit : (v3.alloc (.cells #[.int .i64 0] 3)).cell? ⟨v3.heap.size, 0, none⟩ = some (.int .i64 0) := (box1_new v3 (.int .i64 0) 3).2
           obtain ⟨v4, Hv4⟩ : ∃ v, Hid (v3.alloc (.cells #[.int .i64 0] 3) = v) := ⟨_, rfl⟩
           obtain ⟨Bl, HBl⟩ : ∃ v, Hid (v3.heap.size = v) := ⟨_, rfl⟩
           rw [Hv4.out] at bl hlit
           rw [HBl.out] at hlit
           refine wpAnyH_ready (rs := [22]) (by kernel_rfl) (by simp) ?_
           refine AllReadyH.cons rfl (fun K hK => ?_) AllReadyH.nil
           simp only [List.getElem_toArray, List.getElem_cons_succ, List.getElem_cons_zero]
           rw [if_pos (by rfl)]
           go_wp2_with fail
           rw [Hv4.out, HBl.out]
           replace b := below_then b bl
           have hOw := hOw1.trans bl
           refine hK.out _ _ (HS0.out _ b) (fun hH => ?_)
           clear hK
           refine wpAnyH_ready (rs := [23]) (by kernel_rfl) (by simp) ?_
           refine AllReadyH.cons rfl (fun K hK => ?_) AllReadyH.nil
           simp only [List.getElem_toArray, List.getElem_cons_succ, List.getElem_cons_zero]
           refine wpr_append_one (by rfl) _ _ rfl w2.heap.size w2 v4 _ Y 0 Bl hOw rfl rfl hlit (by omega) ?_
           intro nv v5 hO5
           have b5 := hO5.2.1
           obtain ⟨na, nl, nc, rfl⟩ := hO5.slice
           have hI5 := hO5.ints (by simp; omega)
           refine hK.out _ _ (HS0.out _ b5) (fun hH => ?_)
           clear hK
           refine wpAnyH_ready (rs := [24]) (by kernel_rfl) (by simp) ?_
           refine AllReadyH.cons rfl (fun K hK => ?_) AllReadyH.nil
           simp only [List.getElem_toArray, List.getElem_cons_succ, List.getElem_cons_zero]
           rw [if_pos (by rfl)]
           go_wp2_with fail
           refine (max_any _ (Y ++ [0]) v5 (by exact hI5) (by simp)).mono ?_
           rintro e v6 ⟨rfl, rfl⟩
           refine hK.out _ _ (HS0.out _ b5) (fun hH => ?_)
           clear hK
           refine wpAnyH_take (i := 25) (v := .bool true) rfl (by kernel_rfl) (by kernel_rfl) (by kernel_rfl) (fun _ _ _ h => h) (.inl ⟨by rfl, fun w' hS' => by first | (go_simp; done) | (go_simp; rfl) | (go_simp; intro h; omega) | (go_simp; omega)⟩) hH ?_
           simp only [List.getElem_toArray, List.getElem_cons_succ, List.getElem_cons_zero, Act.put, List.setIfInBounds_toArray, List.set_cons_zero, List.set_cons_succ]
           refine wpAnyH_take (i := 26) (v := .bool true) rfl (by kernel_rfl) (by kernel_rfl) (by kernel_rfl) (fun _ _ _ h => h) (.inl ⟨by rfl, fun _ _ => rfl⟩) hH ?_
           simp only [List.getElem_toArray, List.getElem_cons_succ, List.getElem_cons_zero, Act.put, List.setIfInBounds_toArray, List.set_cons_zero, List.set_cons_succ]
           refine wpAnyH_done (by kernel_rfl) ?_ _
           go_wp2_with fail
           go_meet
           exact ⟨true, rfl, fun h => (by cases h), b5⟩
         · simp only [List.getElem_toArray, List.getElem_cons_succ, List.getElem_cons_zero]
           rw [if_pos (by rfl)]
           have bl := below_new v2 (.cells #[.int .i64 0] 3)
           have hlit0 : (v2.alloc (.cells #[.int .i64 0] 3)).cell? ⟨v2.heap.size, 0, none⟩ = some (.int .i64 0) := (box1_new v2 (.int .i64 0) 3).2
           have hlt0 : v2.heap.size < (v2.alloc (.cells #[.int .i64 0] 3)).heap.size := by simp
           obtain ⟨v3, Hv3⟩ : ∃ v, Hid (v2.alloc (.cells #[.int .i64 0] 3) = v) := ⟨_, rfl⟩
           obtain ⟨Bl, HBl⟩ : ∃ v, Hid (v2.heap.size = v) := ⟨_, rfl⟩
           rw [Hv3.out] at bl hlit0 hlt0
           rw [HBl.out] at hlit0 hlt0
           go_wp2_with fail
           rw [Hv3.out, HBl.out]
           replace b := below_then b bl
           refine hK.out _ _ (HS0.out _ b) (fun hH => ?_)
           clear hK
           refine wpAnyH_ready (rs := [21]) (by kernel_rfl) (by simp) ?_
           refine AllReadyH.cons rfl (fun K hK => ?_) AllReadyH.nil
           simp only [List.getElem_toArray, List.getElem_cons_succ, List.getElem_cons_zero]
           rw [if_pos (by rfl)]
           go_wp2_with fail
           refine (clone_any _ Y v3 (by exact hI2.below b)).mono ?_
           rintro e v4 ⟨r3, rfl, hOw0⟩
           have bs3 := hOw0.2.1
           have hOw : Own w2.heap.size w2 v4 r3 Y := own_low hOw0 b
           obtain ⟨ca, cl, cc, rfl⟩ := hOw.slice
           clear hOw0
           replace b := below_then b bs3
           have hlit : v4.cell? ⟨Bl, 0, none⟩ = some (.int .i64 0) := (bs3.cell (p := ⟨Bl, 0, none⟩) hlt0).trans hlit0
           refine hK.out _ _ (HS0.out _ b) (fun hH => ?_)
           clear hK
           refine wpAnyH_ready (rs := [23]) (by kernel_rfl) (by simp) ?_
           refine AllReadyH.cons rfl (fun K hK => ?_) AllReadyH.nil
           simp only [List.getElem_toArray, List.getElem_cons_succ, List.getElem_cons_zero]
           refine wpr_append_one (by rfl) _ _ rfl w2.heap.size w2 v4 _ Y 0 Bl hOw rfl rfl hlit (by omega) ?_
           intro nv v5 hO5
           have b5 := hO5.2.1
           obtain ⟨na, nl, nc, rfl⟩ := hO5.slice
           have hI5 := hO5.ints (by simp; omega)
           refine hK.out _ _ (HS0.out _ b5) (fun hH => ?_)
           clear hK
           refine wpAnyH_ready (rs := [24]) (by kernel_rfl) (by simp) ?_
           refine AllReadyH.cons rfl (fun K hK => ?_) AllReadyH.nil
           simp only [List.getElem_toArray, List.getElem_cons_succ, List.getElem_cons_zero]
           rw [if_pos (by rfl)]
           go_wp2_with fail
           refine (max_any _ (Y ++ [0]) v5 (by exact hI5) (by simp)).mono ?_
           rintro e v6 ⟨rfl, rfl⟩
           refine hK.out _ _ (HS0.out _ b5) (fun hH => ?_)
           clear hK
           refine wpAnyH_take (i := 25) (v := .bool true) rfl (by kernel_rfl) (by kernel_rfl) (by kernel_rfl) (fun _ _ _ h => h) (.inl ⟨by rfl, fun w' hS' => by first | (go_simp; done) | (go_simp; rfl) | (go_simp; intro h; omega) | (go_simp; omega)⟩) hH ?_
           simp only [List.getElem_toArray, List.getElem_cons_succ, List.getElem_cons_zero, Act.put, List.setIfInBounds_toArray, List.set_cons_zero, List.set_cons_succ]
           refine wpAnyH_take (i := 26) (v := .bool true) rfl (by kernel_rfl) (by kernel_rfl) (by kernel_rfl) (fun _ _ _ h => h) (.inl ⟨by rfl, fun _ _ => rfl⟩) hH ?_
           simp only [List.getElem_toArray, List.getElem_cons_succ, List.getElem_cons_zero, Act.put, List.setIfInBounds_toArray, List.set_cons_zero, List.set_cons_succ]
           refine wpAnyH_done (by kernel_rfl) ?_ _
           go_wp2_with fail
           go_meet
           exact ⟨true, rfl, fun h => (by cases h), b5⟩
       · have HZ : Hid (∀ t, nth Y t = 0) := max_zero HY0.out hmx
         have HS0 : Hid (∀ w', Below w2.heap.size w2 w' → w'.cell? ⟨w.heap.size, 0, none⟩ = some (.int .i64 n.places) ∧ w'.cell? ⟨w.heap.size, 1, none⟩ = some (.slice ta tl tc) ∧ w'.cell? ⟨B1, 0, none⟩ = some (.slice ra rl rc) ∧ w'.cell? ⟨B1, 1, none⟩ = some (.slice ra2 rl2 rc2)) := fun w' hb => ⟨(hbn.below hb).2.1, (hbn.below hb).2.2, (hbx.below hb).2.1, (hbx.below hb).2.2⟩
         refine wp_region_held_drew (S := (fun w' => w'.cell? ⟨w.heap.size, 0, none⟩ = some (.int .i64 n.places) ∧ w'.cell? ⟨w.heap.size, 1, none⟩ = some (.slice ta tl tc) ∧ w'.cell? ⟨B1, 0, none⟩ = some (.slice ra rl rc) ∧ w'.cell? ⟨B1, 1, none⟩ = some (.slice ra2 rl2 rc2))) (by kernel_rfl) (HS0.out _ (Below.refl _ _).drew) (fun hH => ?_)
         have b : Below w2.heap.size w2 w2.drew := (Below.refl _ _).drew
         obtain ⟨v0, Hv0⟩ : ∃ v0, Hid (w2.drew = v0) := ⟨_, rfl⟩
         rw [Hv0.out] at hH b ⊢
         clear Hv0
         refine wpAnyH_take (i := 0) (v := .int .i64 0) rfl (by kernel_rfl) (by kernel_rfl) (by kernel_rfl) (fun _ _ _ h => h) (.inl ⟨by rfl, fun _ _ => rfl⟩) hH ?_
         simp only [List.getElem_toArray, List.getElem_cons_succ, List.getElem_cons_zero, Act.put, List.setIfInBounds_toArray, List.set_cons_zero, List.set_cons_succ]
         refine wpAnyH_take (i := 1) (v := .bool false) rfl (by kernel_rfl) (by kernel_rfl) (by kernel_rfl) (fun _ _ _ h => h) (.inl ⟨by rfl, fun w' hS' => by first | (go_simp; done) | (go_simp; rfl) | (go_simp; intro h; omega) | (go_simp; omega)⟩) hH ?_
         simp only [List.getElem_toArray, List.getElem_cons_succ, List.getElem_cons_zero, Act.put, List.setIfInBounds_toArray, List.set_cons_zero, List.set_cons_succ]
         refine wpAnyH_take (i := 2) (v := .bool false) rfl (by kernel_rfl) (by kernel_rfl) (by kernel_rfl) (fun _ _ _ h => h) (.inl ⟨by rfl, fun _ _ => rfl⟩) hH ?_
         simp only [List.getElem_toArray, List.getElem_cons_succ, List.getElem_cons_zero, Act.put, List.setIfInBounds_toArray, List.set_cons_zero, List.set_cons_succ]
         refine wpAnyH_take (i := 3) (v := .slice la ll lc) rfl (by kernel_rfl) (by kernel_rfl) (by kernel_rfl) (fun _ _ _ h => h) (.inl ⟨by rfl, fun _ _ => rfl⟩) hH ?_
         simp only [List.getElem_toArray, List.getElem_cons_succ, List.getElem_cons_zero, Act.put, List.setIfInBounds_toArray, List.set_cons_zero, List.set_cons_succ]
         refine wpAnyH_take (i := 4) (v := .int .i64 (ll : Int)) rfl (by kernel_rfl) (by kernel_rfl) (by kernel_rfl) (fun _ _ _ h => h) (.inl ⟨by rfl, fun w' hS' => by first | (go_simp; done) | (go_simp; rfl) | (go_simp; intro h; omega) | (go_simp; omega)⟩) hH ?_
         simp only [List.getElem_toArray, List.getElem_cons_succ, List.getElem_cons_zero, Act.put, List.setIfInBounds_toArray, List.set_cons_zero, List.set_cons_succ]
         refine wpAnyH_take (i := 5) (v := .slice ua ll uc) rfl (by kernel_rfl) (by kernel_rfl) (by kernel_rfl) (fun _ _ _ h => h) (.inl ⟨by rfl, fun _ _ => rfl⟩) hH ?_
         simp only [List.getElem_toArray, List.getElem_cons_succ, List.getElem_cons_zero, Act.put, List.setIfInBounds_toArray, List.set_cons_zero, List.set_cons_succ]
         refine wpAnyH_take (i := 6) (v := .int .i64 (ll : Int)) rfl (by kernel_rfl) (by kernel_rfl) (by kernel_rfl) (fun _ _ _ h => h) (.inl ⟨by rfl, fun w' hS' => by first | (go_simp; done) | (go_simp; rfl) | (go_simp; intro h; omega) | (go_simp; omega)⟩) hH ?_
         simp only [List.getElem_toArray, List.getElem_cons_succ, List.getElem_cons_zero, Act.put, List.setIfInBounds_toArray, List.set_cons_zero, List.set_cons_succ]
         refine wpAnyH_take (i := 7) (v := .bool false) rfl (by kernel_rfl) (by kernel_rfl) (by kernel_rfl) (fun _ _ _ h => h) (.inl ⟨by rfl, fun w' hS' => by first | (go_simp; done) | (go_simp; rfl) | (go_simp; intro h; omega) | (go_simp; omega)⟩) hH ?_
         simp only [List.getElem_toArray, List.getElem_cons_succ, List.getElem_cons_zero, Act.put, List.setIfInBounds_toArray, List.set_cons_zero, List.set_cons_succ]
         refine wpAnyH_take (i := 8) (v := .bool false) rfl (by kernel_rfl) (by kernel_rfl) (by kernel_rfl) (fun _ _ _ h => h) (.inl ⟨by rfl, fun _ _ => rfl⟩) hH ?_
         simp only [List.getElem_toArray, List.getElem_cons_succ, List.getElem_cons_zero, Act.put, List.setIfInBounds_toArray, List.set_cons_zero, List.set_cons_succ]
         refine wpAnyH_take (i := 9) (v := .bool false) rfl (by kernel_rfl) (by kernel_rfl) (by kernel_rfl) (fun _ _ _ h => h) (.inl ⟨by rfl, fun _ _ => rfl⟩) hH ?_
         simp only [List.getElem_toArray, List.getElem_cons_succ, List.getElem_cons_zero, Act.put, List.setIfInBounds_toArray, List.set_cons_zero, List.set_cons_succ]
         refine wpAnyH_take (i := 10) (v := .pointer (some ⟨B1, 0, none⟩)) rfl (by kernel_rfl) (by kernel_rfl) (by kernel_rfl) (fun _ _ _ h => h) (.inl ⟨by rfl, fun w' hS' => by first | (go_simp; done) | (go_simp; rfl) | (go_simp; intro h; omega) | (go_simp; omega)⟩) hH ?_
         simp only [List.getElem_toArray, List.getElem_cons_succ, List.getElem_cons_zero, Act.put, List.setIfInBounds_toArray, List.set_cons_zero, List.set_cons_succ]
         refine wpAnyH_take (i := 11) (v := .slice ra rl rc) rfl (by kernel_rfl) (by kernel_rfl) (by kernel_rfl) (fun _ _ _ h => h) (.inl ⟨by rfl, fun w' hS' => by obtain ⟨s0, s1, s2, s3⟩ := hS'; go_simp⟩) hH ?_
         simp only [List.getElem_toArray, List.getElem_cons_succ, List.getElem_cons_zero, Act.put, List.setIfInBounds_toArray, List.set_cons_zero, List.set_cons_succ]
         refine wpAnyH_take (i := 12) (v := .agg #[.int .i64 n.places, .slice ta tl tc]) rfl (by kernel_rfl) (by kernel_rfl) (by kernel_rfl) (fun _ _ _ h => h) (.inl ⟨by rfl, fun w' hS' => by obtain ⟨s0, s1, s2, s3⟩ := hS'; go_simp⟩) hH ?_
         simp only [List.getElem_toArray, List.getElem_cons_succ, List.getElem_cons_zero, Act.put, List.setIfInBounds_toArray, List.set_cons_zero, List.set_cons_succ]
         refine wpAnyH_take (i := 13) (v := .int .i64 o) rfl (by kernel_rfl) (by kernel_rfl) (by kernel_rfl) (fun _ _ _ h => h) (.inl ⟨by rfl, fun _ _ => rfl⟩) hH ?_
         simp only [List.getElem_toArray, List.getElem_cons_succ, List.getElem_cons_zero, Act.put, List.setIfInBounds_toArray, List.set_cons_zero, List.set_cons_succ]
         refine wpAnyH_ready (rs := [14]) (by kernel_rfl) (by simp) ?_
         refine AllReadyH.cons rfl (fun K hK => ?_) AllReadyH.nil
         simp only [List.getElem_toArray, List.getElem_cons_succ, List.getElem_cons_zero]
         rw [if_pos (by rfl)]
         go_wp2_with fail
         refine (shape_start _ n o v0 (by exact hv.below b)).mono ?_
         rintro e v1 ⟨r1, rfl, hI1, bs1⟩
         obtain ⟨sa, sl, sc, rfl, _⟩ := id hI1
         replace b := below_then b bs1
         refine hK.out _ _ (HS0.out _ b) (fun hH => ?_)
         clear hK
         refine wpAnyH_ready (rs := [15]) (by kernel_rfl) (by simp) ?_
         refine AllReadyH.cons rfl (fun K hK => ?_) AllReadyH.nil
         simp only [List.getElem_toArray, List.getElem_cons_succ, List.getElem_cons_zero]
         rw [if_pos (by rfl)]
         go_wp2_with fail
         refine (equal_any _ _ M (startL n.places o) v1 (by exact hI.below b) (by exact hI1)).mono ?_
         rintro e v2 ⟨rfl, bs2⟩
         replace bs2 := below_of_drewN bs2
         replace b := below_then b bs2
         rw [heq]
         refine hK.out _ _ (HS0.out _ b) (fun hH => ?_)
         clear hK
         refine wpAnyH_take (i := 16) (v := .bool false) rfl (by kernel_rfl) (by kernel_rfl) (by kernel_rfl) (fun _ _ _ h => h) (.inl ⟨by rfl, fun w' hS' => by first | (go_simp; done) | (go_simp; rfl) | (go_simp; intro h; omega) | (go_simp; omega)⟩) hH ?_
         simp only [List.getElem_toArray, List.getElem_cons_succ, List.getElem_cons_zero, Act.put, List.setIfInBounds_toArray, List.set_cons_zero, List.set_cons_succ]
         refine wpAnyH_take (i := 17) (v := .bool false) rfl (by kernel_rfl) (by kernel_rfl) (by kernel_rfl) (fun _ _ _ h => h) (.inl ⟨by rfl, fun _ _ => rfl⟩) hH ?_
         simp only [List.getElem_toArray, List.getElem_cons_succ, List.getElem_cons_zero, Act.put, List.setIfInBounds_toArray, List.set_cons_zero, List.set_cons_succ]
         refine wpAnyH_take (i := 18) (v := .bool false) rfl (by kernel_rfl) (by kernel_rfl) (by kernel_rfl) (fun _ _ _ h => h) (.inl ⟨by rfl, fun _ _ => rfl⟩) hH ?_
         simp only [List.getElem_toArray, List.getElem_cons_succ, List.getElem_cons_zero, Act.put, List.setIfInBounds_toArray, List.set_cons_zero, List.set_cons_succ]
         refine wpAnyH_take (i := 19) (v := .pointer (some ⟨B1, 1, none⟩)) rfl (by kernel_rfl) (by kernel_rfl) (by kernel_rfl) (fun _ _ _ h => h) (.inl ⟨by rfl, fun w' hS' => by first | (go_simp; done) | (go_simp; rfl) | (go_simp; intro h; omega) | (go_simp; omega)⟩) hH ?_
         simp only [List.getElem_toArray, List.getElem_cons_succ, List.getElem_cons_zero, Act.put, List.setIfInBounds_toArray, List.set_cons_zero, List.set_cons_succ]
         refine wpAnyH_take (i := 20) (v := .slice ra2 rl2 rc2) rfl (by kernel_rfl) (by kernel_rfl) (by kernel_rfl) (fun _ _ _ h => h) (.inl ⟨by rfl, fun w' hS' => by obtain ⟨s0, s1, s2, s3⟩ := hS'; go_simp⟩) hH ?_
         simp only [List.getElem_toArray, List.getElem_cons_succ, List.getElem_cons_zero, Act.put, List.setIfInBounds_toArray, List.set_cons_zero, List.set_cons_succ]
         refine wpAnyH_ready (rs := [21, 22]) (by kernel_rfl) (by simp) ?_
         refine (AllReadyH.cons rfl (fun K hK => ?_) (AllReadyH.cons rfl (fun K hK => ?_) AllReadyH.nil))
         · simp only [List.getElem_toArray, List.getElem_cons_succ, List.getElem_cons_zero]
           rw [if_pos (by rfl)]
           go_wp2_with fail
           refine (clone_any _ Y v2 (by exact hI2.below b)).mono ?_
           rintro e v3 ⟨r3, rfl, hOw0⟩
           have bs3 := hOw0.2.1
           have hOw1 : Own w2.heap.size w2 v3 r3 Y := own_low hOw0 b
           obtain ⟨ca, cl, cc, rfl⟩ := hOw1.slice
           clear hOw0
           replace b := below_then b bs3
           refine hK.out _ _ (HS0.out _ b) (fun hH => ?_)
           clear hK
           have bl := below_new v3 (.cells #[.int .i64 0] 3)
           have hlit : (v3.alloc (.cells #[.int .i64 0] 3)).cell? ⟨v3.heap.size, 0, none⟩ = some (.int .i64 0) := (box1_new v3 (.int .i64 0) 3).2
           obtain ⟨v4, Hv4⟩ : ∃ v, Hid (v3.alloc (.cells #[.int .i64 0] 3) = v) := ⟨_, rfl⟩
           obtain ⟨Bl, HBl⟩ : ∃ v, Hid (v3.heap.size = v) := ⟨_, rfl⟩
           rw [Hv4.out] at bl hlit
           rw [HBl.out] at hlit
           refine wpAnyH_ready (rs := [22]) (by kernel_rfl) (by simp) ?_
           refine AllReadyH.cons rfl (fun K hK => ?_) AllReadyH.nil
           simp only [List.getElem_toArray, List.getElem_cons_succ, List.getElem_cons_zero]
           rw [if_pos (by rfl)]
           go_wp2_with fail
           rw [Hv4.out, HBl.out]
           replace b := below_then b bl
           have hOw := hOw1.trans bl
           refine hK.out _ _ (HS0.out _ b) (fun hH => ?_)
           clear hK
           refine wpAnyH_ready (rs := [23]) (by kernel_rfl) (by simp) ?_
           refine AllReadyH.cons rfl (fun K hK => ?_) AllReadyH.nil
           simp only [List.getElem_toArray, List.getElem_cons_succ, List.getElem_cons_zero]
           refine wpr_append_one (by rfl) _ _ rfl w2.heap.size w2 v4 _ Y 0 Bl hOw rfl rfl hlit (by omega) ?_
           intro nv v5 hO5
           have b5 := hO5.2.1
           obtain ⟨na, nl, nc, rfl⟩ := hO5.slice
           have hI5 := hO5.ints (by simp; omega)
           refine hK.out _ _ (HS0.out _ b5) (fun hH => ?_)
           clear hK
           refine wpAnyH_ready (rs := [24]) (by kernel_rfl) (by simp) ?_
           refine AllReadyH.cons rfl (fun K hK => ?_) AllReadyH.nil
           simp only [List.getElem_toArray, List.getElem_cons_succ, List.getElem_cons_zero]
           rw [if_pos (by rfl)]
           go_wp2_with fail
           refine (max_any _ (Y ++ [0]) v5 (by exact hI5) (by simp)).mono ?_
           rintro e v6 ⟨rfl, rfl⟩
           refine hK.out _ _ (HS0.out _ b5) (fun hH => ?_)
           clear hK
           refine wpAnyH_take (i := 25) (v := .bool false) rfl (by kernel_rfl) (by kernel_rfl) (by kernel_rfl) (fun _ _ _ h => h) (.inl ⟨by rfl, fun w' hS' => by first | (go_simp; done) | (go_simp; rfl) | (go_simp; intro h; omega) | (go_simp; omega)⟩) hH ?_
           simp only [List.getElem_toArray, List.getElem_cons_succ, List.getElem_cons_zero, Act.put, List.setIfInBounds_toArray, List.set_cons_zero, List.set_cons_succ]
           refine wpAnyH_take (i := 26) (v := .bool false) rfl (by kernel_rfl) (by kernel_rfl) (by kernel_rfl) (fun _ _ _ h => h) (.inl ⟨by rfl, fun _ _ => rfl⟩) hH ?_
           simp only [List.getElem_toArray, List.getElem_cons_succ, List.getElem_cons_zero, Act.put, List.setIfInBounds_toArray, List.set_cons_zero, List.set_cons_succ]
           refine wpAnyH_done (by kernel_rfl) ?_ _
           go_wp2_with fail
           go_meet
           exact ⟨false, rfl, fun _ => ⟨by simpa using heq, HZ.out⟩, b5⟩
         · simp only [List.getElem_toArray, List.getElem_cons_succ, List.getElem_cons_zero]
           rw [if_pos (by rfl)]
           have bl := below_new v2 (.cells #[.int .i64 0] 3)
           have hlit0 : (v2.alloc (.cells #[.int .i64 0] 3)).cell? ⟨v2.heap.size, 0, none⟩ = some (.int .i64 0) := (box1_new v2 (.int .i64 0) 3).2
           have hlt0 : v2.heap.size < (v2.alloc (.cells #[.int .i64 0] 3)).heap.size := by simp
           obtain ⟨v3, Hv3⟩ : ∃ v, Hid (v2.alloc (.cells #[.int .i64 0] 3) = v) := ⟨_, rfl⟩
           obtain ⟨Bl, HBl⟩ : ∃ v, Hid (v2.heap.size = v) := ⟨_, rfl⟩
           rw [Hv3.out] at bl hlit0 hlt0
           rw [HBl.out] at hlit0 hlt0
           go_wp2_with fail
           rw [Hv3.out, HBl.out]
           replace b := below_then b bl
           refine hK.out _ _ (HS0.out _ b) (fun hH => ?_)
           clear hK
           refine wpAnyH_ready (rs := [21]) (by kernel_rfl) (by simp) ?_
           refine AllReadyH.cons rfl (fun K hK => ?_) AllReadyH.nil
           simp only [List.getElem_toArray, List.getElem_cons_succ, List.getElem_cons_zero]
           rw [if_pos (by rfl)]
           go_wp2_with fail
           refine (clone_any _ Y v3 (by exact hI2.below b)).mono ?_
           rintro e v4 ⟨r3, rfl, hOw0⟩
           have bs3 := hOw0.2.1
           have hOw : Own w2.heap.size w2 v4 r3 Y := own_low hOw0 b
           obtain ⟨ca, cl, cc, rfl⟩ := hOw.slice
           clear hOw0
           replace b := below_then b bs3
           have hlit : v4.cell? ⟨Bl, 0, none⟩ = some (.int .i64 0) := (bs3.cell (p := ⟨Bl, 0, none⟩) hlt0).trans hlit0
           refine hK.out _ _ (HS0.out _ b) (fun hH => ?_)
           clear hK
           refine wpAnyH_ready (rs := [23]) (by kernel_rfl) (by simp) ?_
           refine AllReadyH.cons rfl (fun K hK => ?_) AllReadyH.nil
           simp only [List.getElem_toArray, List.getElem_cons_succ, List.getElem_cons_zero]
           refine wpr_append_one (by rfl) _ _ rfl w2.heap.size w2 v4 _ Y 0 Bl hOw rfl rfl hlit (by omega) ?_
           intro nv v5 hO5
           have b5 := hO5.2.1
           obtain ⟨na, nl, nc, rfl⟩ := hO5.slice
           have hI5 := hO5.ints (by simp; omega)
           refine hK.out _ _ (HS0.out _ b5) (fun hH => ?_)
           clear hK
           refine wpAnyH_ready (rs := [24]) (by kernel_rfl) (by simp) ?_
           refine AllReadyH.cons rfl (fun K hK => ?_) AllReadyH.nil
           simp only [List.getElem_toArray, List.getElem_cons_succ, List.getElem_cons_zero]
           rw [if_pos (by rfl)]
           go_wp2_with fail
           refine (max_any _ (Y ++ [0]) v5 (by exact hI5) (by simp)).mono ?_
           rintro e v6 ⟨rfl, rfl⟩
           refine hK.out _ _ (HS0.out _ b5) (fun hH => ?_)
           clear hK
           refine wpAnyH_take (i := 25) (v := .bool false) rfl (by kernel_rfl) (by kernel_rfl) (by kernel_rfl) (fun _ _ _ h => h) (.inl ⟨by rfl, fun w' hS' => by first | (go_simp; done) | (go_simp; rfl) | (go_simp; intro h; omega) | (go_simp; omega)⟩) hH ?_
           simp only [List.getElem_toArray, List.getElem_cons_succ, List.getElem_cons_zero, Act.put, List.setIfInBounds_toArray, List.set_cons_zero, List.set_cons_succ]
           refine wpAnyH_take (i := 26) (v := .bool false) rfl (by kernel_rfl) (by kernel_rfl) (by kernel_rfl) (fun _ _ _ h => h) (.inl ⟨by rfl, fun _ _ => rfl⟩) hH ?_
           simp only [List.getElem_toArray, List.getElem_cons_succ, List.getElem_cons_zero, Act.put, List.setIfInBounds_toArray, List.set_cons_zero, List.set_cons_succ]
           refine wpAnyH_done (by kernel_rfl) ?_ _
           go_wp2_with fail
           go_meet
           exact ⟨false, rfl, fun _ => ⟨by simpa using heq, HZ.out⟩, b5⟩
    case rest =>
      obtain ⟨bb, rfl, hbb, bc⟩ := hcut
      obtain ⟨w3, rfl⟩ : ∃ w3, w3 = wc := ⟨_, rfl⟩
      replace c0 := below_then c0 bc
      cases bb
      · obtain ⟨hMo, hYz⟩ := hbb rfl
        have HMo : Hid (M = startL n.places o) := hMo
        have HYz : Hid _ := hYz
        clear hbb hMo hYz
        replace hv := hv.below bc
        replace hT := hT.below bc
        replace hu := hu.below bc
        replace hbn := hbn.below bc
        replace hL := hL.below bc
        clear bc hI hI2 hbx
        have Hdone : Hid (∀ k, k < os.length → nth (playC n (beginC n i).1 os).2 k = 0 → ∃ t : Nat, (opAt os k).2 = t ∧ t < n.trans.length) := fun k hk h0 => by obtain ⟨t, h1, h2, _⟩ := done_in hk h0; exact ⟨t, h1, h2⟩
        obtain ⟨E, HEs⟩ : ∃ E, Hid ((playC n (beginC n i).1 os).2 = E) := ⟨_, rfl⟩
        rw [HEs.out] at hL Hdone
        go_upto_region 8 with fail
        go_loopg [12, 56] ll (fun gk sq ix wr => ∃ k : Nat, k + gk = ll ∧ ix = .int .i64 k ∧ Own w3.heap.size w3 wr sq (wordTo n os E k))
        case atStart => exact ⟨0, by omega, rfl, Own.nil _⟩
        case round =>
          obtain ⟨k, hkg, rfl, hO⟩ := hrel
          have hb := hO.2.1
          have hwl := wordTo_le n os E k
          obtain ⟨qa, ql, qc, rfl⟩ := hO.slice
          have hbw := hbn.below hb
          obtain ⟨y0, y1, y2⟩ := id hbw
          by_cases hkn : k < ll
          · obtain ⟨ub, uo, rfl, hublt, o1, o2⟩ := (hu.below hb).at hkn
            obtain ⟨la', ll', lc', e, hle, _, _, hr⟩ := (hL.below hb)
            injection e with e1 e2 e3
            subst e1 e2 e3
            obtain ⟨lb, lo, rfl, _, hle1⟩ := hr k (by rw [hle]; exact hkn)
            clear hr hle
            have Hd := fun h0 => Hdone.out k (by rw [Hul.out]; exact hkn) h0
            have Hy := fun h h3 => wordTo_yes (n := n) (os := os) (es := E) (k := k) h h3
            have Hno := fun h => wordTo_no (n := n) (os := os) (es := E) (k := k) h
            obtain ⟨er, Her⟩ : ∃ er, Hid (nth E k = er) := ⟨_, rfl⟩
            obtain ⟨kd, Hkd⟩ : ∃ er, Hid ((opAt os k).1 = er) := ⟨_, rfl⟩
            obtain ⟨tt, Htt⟩ : ∃ er, Hid ((opAt os k).2 = er) := ⟨_, rfl⟩
            rw [Her.out] at hle1 Hd Hy Hno
            rw [Hkd.out] at o1 Hy Hno
            rw [Htt.out] at o2 Hd Hy
            clear Her Hkd Htt
            have bb := below_new wr (.cells #[.int .i64 kd, .int .i64 tt] 39)
            have hB2 := box2_new wr (.int .i64 kd) (.int .i64 tt) 39
            obtain ⟨wj, Hwj⟩ : ∃ v, Hid (wr.alloc (.cells #[.int .i64 kd, .int .i64 tt] 39) = v) := ⟨_, rfl⟩
            obtain ⟨Bj, HBj⟩ : ∃ B, Hid (wr.heap.size = B) := ⟨_, rfl⟩
            rw [Hwj.out] at bb hB2
            rw [HBj.out] at hB2
            replace hle1 := (bb.cell (p := ⟨lb, lo + k, none⟩) (cell_lt0 hle1)).trans hle1
            have hO2 := hO.trans bb
            have hbw2 := hbw.below bb
            go_upto_region 10 with fail
            rw [Hwj.out, HBj.out]
            clear Hwj HBj y0 y1 y2 o1 o2 hO bb
            obtain ⟨y0, y1, y2⟩ := id hbw2
            obtain ⟨z0, z1, z2⟩ := id hB2
            by_cases he0 : er = 0
            · by_cases hk3 : kd = 3
              · obtain ⟨t, rfl, htn⟩ := Hd he0
                have R := Hy he0 hk3
                rw [Int.toNat_natCast] at R
                have htl : t < tl := by rw [← Htl.out]; exact htn
                obtain ⟨tb, tf, k1, k2, rfl, hblt, t0, t1, t2, i1, i2⟩ := (hT.below hO2.2.1).at htl
                obtain ⟨lab, Hlab⟩ : ∃ z, Hid (labT n t = z) := ⟨_, rfl⟩
                have t0' : wj.cell? ⟨tb, tf + t * 3, none⟩ = some (.int .i64 lab) := by rw [← Hlab.out]; exact t0
                rw [Hlab.out] at R
                have HR : Hid _ := R
                subst he0 hk3
                have htl1 : ¬ ((tl : Int) ≤ (t : Int)) := by omega
                clear R Hd Hy Hno i1 i2 t0 t1 t2 hbw hbw2 hB2 Hlab htn
                go_wp2_with (at_builtin; refine wp_append_int rfl _ _ rfl w3.heap.size w3 _ _ _ lab hO2 rfl rfl (by omega) ?_; intro v' w5 hO5)
                go_roundg (gk - 1)
                case measure => omega
                case rel => exact ⟨k + 1, by omega, by go_num, by rw [HR.out]; exact hO5⟩
              · have R : Hid _ := Hno (fun q => hk3 q.2)
                have e3 : (kd == 3) = false := by rw [beq_eq_false_iff_ne]; exact hk3
                subst he0
                clear Hd Hy Hno hk3 hbw hbw2 hB2
                go_wp2
                go_roundg (gk - 1)
                case measure => omega
                case rel => exact ⟨k + 1, by omega, by go_num, by rw [R.out]; exact hO2⟩
            · have R : Hid _ := Hno (fun q => he0 q.1)
              have e0 : (er == 0) = false := by rw [beq_eq_false_iff_ne]; exact he0
              clear Hd Hy Hno he0 hbw hbw2 hB2
              go_wp2
              go_roundg (gk - 1)
              case measure => omega
              case rel => exact ⟨k + 1, by omega, by go_num, by rw [R.out]; exact hO2⟩
          · obtain rfl : k = ll := by omega
            have hI9 := hO.ints (by omega)
            have hv9 := hv.below hb
            have c9 := below_then c0 hb
            go_wp2_with fail
            refine (tongue_has _ _ n i o (wordTo n os E k) wr (by exact hv9) (by exact hI9) (hTab.below c9)).mono ?_
            rintro e w9 ⟨ok, f, rfl, hA, b9⟩
            have R := below_then c9 b9
            clear y0 y1 y2 hbw hv9 hI9 hO
            by_cases hf : f = 0
            · subst hf
              obtain ⟨s, hW⟩ := tongErr_whole hA.err
              have hok : ok = true := (hA.ok rfl).2 (by
                have := case_said (os := os) (o := o) hW hE (by rw [HM.out]; exact HMo.out) (by rw [HY.out]; exact HYz.out)
                rw [HEs.out, Hul.out] at this
                exact this)
              subst hok
              clear hA hW
              go_wp2
              go_ret
              exact ⟨rfl, R⟩
            · have hff : (f != 0) = true := by simpa using hf
              clear hA hf
              go_wp2
              go_ret
              exact ⟨rfl, R⟩
      · clear hbb bc hI hI2 hbx hL hu hT hv hbn
        go_wp2
        go_ret
        exact ⟨rfl, c0⟩
  · obtain ⟨E, HE⟩ : ∃ E, Hid ((playAll n i os).2.2 = E) := ⟨_, rfl⟩
    have hE0 : ¬ E = 0 := by rw [← HE.out]; unfold playAll; rw [if_neg hE]; exact hE
    rw [HE.out]
    have hE1 : (E != 0) = true := by simpa using hE0
    clear HE Hll hE
    go_cut [53] (fun p wc => ∃ bb, p = .bool bb ∧ (bb = false → False) ∧ Below w2.heap.size w2 wc)
    case first =>
      have HS0 : Hid (∀ w', Below w2.heap.size w2 w' → w'.cell? ⟨w.heap.size, 0, none⟩ = some (.int .i64 n.places) ∧ w'.cell? ⟨w.heap.size, 1, none⟩ = some (.slice ta tl tc) ∧ w'.cell? ⟨B1, 0, none⟩ = some (.slice ra rl rc) ∧ w'.cell? ⟨B1, 1, none⟩ = some (.slice ra2 rl2 rc2)) := fun w' hb => ⟨(hbn.below hb).2.1, (hbn.below hb).2.2, (hbx.below hb).2.1, (hbx.below hb).2.2⟩
      refine wp_region_held_drew (S := (fun w' => w'.cell? ⟨w.heap.size, 0, none⟩ = some (.int .i64 n.places) ∧ w'.cell? ⟨w.heap.size, 1, none⟩ = some (.slice ta tl tc) ∧ w'.cell? ⟨B1, 0, none⟩ = some (.slice ra rl rc) ∧ w'.cell? ⟨B1, 1, none⟩ = some (.slice ra2 rl2 rc2))) (by kernel_rfl) (HS0.out _ (Below.refl _ _).drew) (fun hH => ?_)
      have b : Below w2.heap.size w2 w2.drew := (Below.refl _ _).drew
      obtain ⟨v0, Hv0⟩ : ∃ v0, Hid (w2.drew = v0) := ⟨_, rfl⟩
      rw [Hv0.out] at hH b ⊢
      clear Hv0
      refine wpAnyH_take (i := 0) (v := .int .i64 E) rfl (by kernel_rfl) (by kernel_rfl) (by kernel_rfl) (fun _ _ _ h => h) (.inl ⟨by rfl, fun _ _ => rfl⟩) hH ?_
      simp only [List.getElem_toArray, List.getElem_cons_succ, List.getElem_cons_zero, Act.put, List.setIfInBounds_toArray, List.set_cons_zero, List.set_cons_succ]
      refine wpAnyH_take (i := 1) (v := .bool true) rfl (by kernel_rfl) (by kernel_rfl) (by kernel_rfl) (fun _ _ _ h => h) (.inl ⟨by rfl, fun w' hS' => by first | (go_simp; done) | (go_simp; rfl) | (go_simp; intro h; omega) | (go_simp; omega)⟩) hH ?_
      simp only [List.getElem_toArray, List.getElem_cons_succ, List.getElem_cons_zero, Act.put, List.setIfInBounds_toArray, List.set_cons_zero, List.set_cons_succ]
      refine wpAnyH_take (i := 2) (v := .bool true) rfl (by kernel_rfl) (by kernel_rfl) (by kernel_rfl) (fun _ _ _ h => h) (.inl ⟨by rfl, fun _ _ => rfl⟩) hH ?_
      simp only [List.getElem_toArray, List.getElem_cons_succ, List.getElem_cons_zero, Act.put, List.setIfInBounds_toArray, List.set_cons_zero, List.set_cons_succ]
      refine wpAnyH_take (i := 3) (v := undef) rfl (by kernel_rfl) (by kernel_rfl) (by kernel_rfl) (fun _ _ _ h => h) (.inr ⟨by rfl, rfl⟩) hH ?_
      simp only [List.getElem_toArray, List.getElem_cons_succ, List.getElem_cons_zero, Act.put, List.setIfInBounds_toArray, List.set_cons_zero, List.set_cons_succ]
      refine wpAnyH_take (i := 4) (v := undef) rfl (by kernel_rfl) (by kernel_rfl) (by kernel_rfl) (fun _ _ _ h => h) (.inr ⟨by rfl, rfl⟩) hH ?_
      simp only [List.getElem_toArray, List.getElem_cons_succ, List.getElem_cons_zero, Act.put, List.setIfInBounds_toArray, List.set_cons_zero, List.set_cons_succ]
      refine wpAnyH_take (i := 5) (v := undef) rfl (by kernel_rfl) (by kernel_rfl) (by kernel_rfl) (fun _ _ _ h => h) (.inr ⟨by rfl, rfl⟩) hH ?_
      simp only [List.getElem_toArray, List.getElem_cons_succ, List.getElem_cons_zero, Act.put, List.setIfInBounds_toArray, List.set_cons_zero, List.set_cons_succ]
      refine wpAnyH_take (i := 6) (v := undef) rfl (by kernel_rfl) (by kernel_rfl) (by kernel_rfl) (fun _ _ _ h => h) (.inr ⟨by rfl, rfl⟩) hH ?_
      simp only [List.getElem_toArray, List.getElem_cons_succ, List.getElem_cons_zero, Act.put, List.setIfInBounds_toArray, List.set_cons_zero, List.set_cons_succ]
      refine wpAnyH_take (i := 7) (v := undef) rfl (by kernel_rfl) (by kernel_rfl) (by kernel_rfl) (fun _ _ _ h => h) (.inr ⟨by rfl, rfl⟩) hH ?_
      simp only [List.getElem_toArray, List.getElem_cons_succ, List.getElem_cons_zero, Act.put, List.setIfInBounds_toArray, List.set_cons_zero, List.set_cons_succ]
      refine wpAnyH_take (i := 8) (v := .bool true) rfl (by kernel_rfl) (by kernel_rfl) (by kernel_rfl) (fun _ _ _ h => h) (.inl ⟨by rfl, fun _ _ => rfl⟩) hH ?_
      simp only [List.getElem_toArray, List.getElem_cons_succ, List.getElem_cons_zero, Act.put, List.setIfInBounds_toArray, List.set_cons_zero, List.set_cons_succ]
      refine wpAnyH_take (i := 9) (v := .bool true) rfl (by kernel_rfl) (by kernel_rfl) (by kernel_rfl) (fun _ _ _ h => h) (.inl ⟨by rfl, fun _ _ => rfl⟩) hH ?_
      simp only [List.getElem_toArray, List.getElem_cons_succ, List.getElem_cons_zero, Act.put, List.setIfInBounds_toArray, List.set_cons_zero, List.set_cons_succ]
      refine wpAnyH_take (i := 10) (v := undef) rfl (by kernel_rfl) (by kernel_rfl) (by kernel_rfl) (fun _ _ _ h => h) (.inr ⟨by rfl, rfl⟩) hH ?_
      simp only [List.getElem_toArray, List.getElem_cons_succ, List.getElem_cons_zero, Act.put, List.setIfInBounds_toArray, List.set_cons_zero, List.set_cons_succ]
      refine wpAnyH_take (i := 11) (v := undef) rfl (by kernel_rfl) (by kernel_rfl) (by kernel_rfl) (fun _ _ _ h => h) (.inr ⟨by rfl, rfl⟩) hH ?_
      simp only [List.getElem_toArray, List.getElem_cons_succ, List.getElem_cons_zero, Act.put, List.setIfInBounds_toArray, List.set_cons_zero, List.set_cons_succ]
      refine wpAnyH_take (i := 12) (v := undef) rfl (by kernel_rfl) (by kernel_rfl) (by kernel_rfl) (fun _ _ _ h => h) (.inr ⟨by rfl, rfl⟩) hH ?_
      simp only [List.getElem_toArray, List.getElem_cons_succ, List.getElem_cons_zero, Act.put, List.setIfInBounds_toArray, List.set_cons_zero, List.set_cons_succ]
      refine wpAnyH_take (i := 13) (v := undef) rfl (by kernel_rfl) (by kernel_rfl) (by kernel_rfl) (fun _ _ _ h => h) (.inr ⟨by rfl, rfl⟩) hH ?_
      simp only [List.getElem_toArray, List.getElem_cons_succ, List.getElem_cons_zero, Act.put, List.setIfInBounds_toArray, List.set_cons_zero, List.set_cons_succ]
      refine wpAnyH_take (i := 14) (v := undef) rfl (by kernel_rfl) (by kernel_rfl) (by kernel_rfl) (fun _ _ _ h => h) (.inr ⟨by rfl, rfl⟩) hH ?_
      simp only [List.getElem_toArray, List.getElem_cons_succ, List.getElem_cons_zero, Act.put, List.setIfInBounds_toArray, List.set_cons_zero, List.set_cons_succ]
      refine wpAnyH_take (i := 15) (v := undef) rfl (by kernel_rfl) (by kernel_rfl) (by kernel_rfl) (fun _ _ _ h => h) (.inr ⟨by rfl, rfl⟩) hH ?_
      simp only [List.getElem_toArray, List.getElem_cons_succ, List.getElem_cons_zero, Act.put, List.setIfInBounds_toArray, List.set_cons_zero, List.set_cons_succ]
      refine wpAnyH_take (i := 16) (v := undef) rfl (by kernel_rfl) (by kernel_rfl) (by kernel_rfl) (fun _ _ _ h => h) (.inr ⟨by rfl, rfl⟩) hH ?_
      simp only [List.getElem_toArray, List.getElem_cons_succ, List.getElem_cons_zero, Act.put, List.setIfInBounds_toArray, List.set_cons_zero, List.set_cons_succ]
      refine wpAnyH_take (i := 17) (v := .bool true) rfl (by kernel_rfl) (by kernel_rfl) (by kernel_rfl) (fun _ _ _ h => h) (.inl ⟨by rfl, fun _ _ => rfl⟩) hH ?_
      simp only [List.getElem_toArray, List.getElem_cons_succ, List.getElem_cons_zero, Act.put, List.setIfInBounds_toArray, List.set_cons_zero, List.set_cons_succ]
      refine wpAnyH_take (i := 18) (v := .bool true) rfl (by kernel_rfl) (by kernel_rfl) (by kernel_rfl) (fun _ _ _ h => h) (.inl ⟨by rfl, fun _ _ => rfl⟩) hH ?_
      simp only [List.getElem_toArray, List.getElem_cons_succ, List.getElem_cons_zero, Act.put, List.setIfInBounds_toArray, List.set_cons_zero, List.set_cons_succ]
      refine wpAnyH_take (i := 19) (v := undef) rfl (by kernel_rfl) (by kernel_rfl) (by kernel_rfl) (fun _ _ _ h => h) (.inr ⟨by rfl, rfl⟩) hH ?_
      simp only [List.getElem_toArray, List.getElem_cons_succ, List.getElem_cons_zero, Act.put, List.setIfInBounds_toArray, List.set_cons_zero, List.set_cons_succ]
      refine wpAnyH_take (i := 20) (v := undef) rfl (by kernel_rfl) (by kernel_rfl) (by kernel_rfl) (fun _ _ _ h => h) (.inr ⟨by rfl, rfl⟩) hH ?_
      simp only [List.getElem_toArray, List.getElem_cons_succ, List.getElem_cons_zero, Act.put, List.setIfInBounds_toArray, List.set_cons_zero, List.set_cons_succ]
      refine wpAnyH_take (i := 21) (v := undef) rfl (by kernel_rfl) (by kernel_rfl) (by kernel_rfl) (fun _ _ _ h => h) (.inr ⟨by rfl, rfl⟩) hH ?_
      simp only [List.getElem_toArray, List.getElem_cons_succ, List.getElem_cons_zero, Act.put, List.setIfInBounds_toArray, List.set_cons_zero, List.set_cons_succ]
      refine wpAnyH_take (i := 22) (v := undef) rfl (by kernel_rfl) (by kernel_rfl) (by kernel_rfl) (fun _ _ _ h => h) (.inr ⟨by rfl, rfl⟩) hH ?_
      simp only [List.getElem_toArray, List.getElem_cons_succ, List.getElem_cons_zero, Act.put, List.setIfInBounds_toArray, List.set_cons_zero, List.set_cons_succ]
      refine wpAnyH_take (i := 23) (v := undef) rfl (by kernel_rfl) (by kernel_rfl) (by kernel_rfl) (fun _ _ _ h => h) (.inr ⟨by rfl, rfl⟩) hH ?_
      simp only [List.getElem_toArray, List.getElem_cons_succ, List.getElem_cons_zero, Act.put, List.setIfInBounds_toArray, List.set_cons_zero, List.set_cons_succ]
      refine wpAnyH_take (i := 24) (v := undef) rfl (by kernel_rfl) (by kernel_rfl) (by kernel_rfl) (fun _ _ _ h => h) (.inr ⟨by rfl, rfl⟩) hH ?_
      simp only [List.getElem_toArray, List.getElem_cons_succ, List.getElem_cons_zero, Act.put, List.setIfInBounds_toArray, List.set_cons_zero, List.set_cons_succ]
      refine wpAnyH_take (i := 25) (v := undef) rfl (by kernel_rfl) (by kernel_rfl) (by kernel_rfl) (fun _ _ _ h => h) (.inr ⟨by rfl, rfl⟩) hH ?_
      simp only [List.getElem_toArray, List.getElem_cons_succ, List.getElem_cons_zero, Act.put, List.setIfInBounds_toArray, List.set_cons_zero, List.set_cons_succ]
      refine wpAnyH_take (i := 26) (v := .bool true) rfl (by kernel_rfl) (by kernel_rfl) (by kernel_rfl) (fun _ _ _ h => h) (.inl ⟨by rfl, fun _ _ => rfl⟩) hH ?_
      simp only [List.getElem_toArray, List.getElem_cons_succ, List.getElem_cons_zero, Act.put, List.setIfInBounds_toArray, List.set_cons_zero, List.set_cons_succ]
      refine wpAnyH_done (by kernel_rfl) ?_ _
      go_wp2_with fail
      go_meet
      exact ⟨true, rfl, fun h => (by cases h), b⟩
    case rest =>
      obtain ⟨bb, rfl, hbb, bc⟩ := hcut
      obtain ⟨w3, rfl⟩ : ∃ w3, w3 = wc := ⟨_, rfl⟩
      replace c0 := below_then c0 bc
      cases bb
      · exact absurd rfl (fun h => hbb h)
      · clear hbb bc hI hI2 hbx hL hu hT hv hbn
        go_wp2
        go_ret
        exact ⟨rfl, c0⟩

end Go.Proofs.YtffaamljogbmlaaDoor
