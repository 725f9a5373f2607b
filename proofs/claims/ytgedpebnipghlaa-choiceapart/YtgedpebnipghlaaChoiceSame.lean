/- The law ChoiceSame, walked. -/
import Derived.Test.YtgedpebnipghlaaAlive14
import Derived.Test.YtgedpebnipghlaaNets
import Derived.Test.YtgedpebnipghlaaTongInts
import Derived.Deep.RegionHeld3
namespace Go.Proofs.Ytgedpebnipghlaa
open Go.RowKit
set_option linter.unusedVariables false
set_option linter.unusedSimpArgs false
set_option maxRecDepth 4000

/-- Those of one part can all fire, or none can. -/
theorem part_same {n : NetL} {m : List Int} (hf : FreeN n) {ls : List (List Int)} (hp : PartsOk n ls) {l : List Int} (hl : l ∈ ls) {t u : Int} (ht : t ∈ l) (hu : u ∈ l) :
    hasL (canTo n m n.trans.length) t = hasL (canTo n m n.trans.length) u := by
  have key : ∀ {t u : Int}, t ∈ l → u ∈ l → hasL (canTo n m n.trans.length) t = true → hasL (canTo n m n.trans.length) u = true := by
    intro t u ht hu h
    obtain ⟨t0, t1, t2⟩ := hp.mem l hl t ht
    obtain ⟨u0, u1, _⟩ := hp.mem l hl u hu
    unfold hasL at h ⊢
    rw [List.contains_iff_mem, can_mem] at h ⊢
    obtain ⟨j, rfl, hj, hc⟩ := h
    have hl := (t2 u.toNat u1).1 (by rw [Int.toNat_of_nonneg u0]; exact hu)
    refine ⟨u.toNat, by omega, u1, ?_⟩
    rw [← led_pre hf hl]
    exact hc
  rw [Bool.eq_iff_iff]
  exact ⟨key ht hu, key hu ht⟩

theorem mem_getD {ls : List (List Int)} {k : Nat} (h : k < ls.length) : markAt ls k ∈ ls := by
  unfold markAt
  rw [List.getD_eq_getElem?_getD, List.getElem?_eq_getElem h]; exact List.getElem_mem _
theorem nth_in {l : List Int} {k : Nat} (h : k < l.length) : nth l k ∈ l := by
  unfold nth; rw [List.getD_eq_getElem?_getD, List.getElem?_eq_getElem h]; exact List.getElem_mem _

set_option maxHeartbeats 2000000 in
theorem choiceSame_walk (v u : Value) (n : NetL) (m : List Int) (w : World) (hv : Net w v n) (hu : Ints w u m) :
    Calls Try.prog 4 #[v, u] w fun e w' => e = .returned (.bool true) ∧ Below w.heap.size w w' := by
  obtain ⟨tv, rfl, hT⟩ := hv
  have c := below_new w (.cells #[.int .i64 n.places, tv] 24)
  have hbx := box2_new w (.int .i64 n.places) tv 24
  have hv : Net _ (.agg #[.int .i64 n.places, tv]) n := ⟨_, rfl, hT.below c⟩
  replace hu := hu.below c
  clear hT
  obtain ⟨w0, Hw0⟩ : ∃ w0, Hid (w.alloc (.cells #[.int .i64 n.places, tv] 24) = w0) := ⟨_, rfl⟩
  rw [Hw0.out] at c hbx hv hu
  go_enter Try.func4, Try.ntmps4
  go_upto_region 1 with fail
  rw [Hw0.out]
  clear Hw0
  go_wp2_with fail
  refine (alive14_any w0).mono ?_
  rintro e w1 ⟨rfl, b1⟩
  replace c := below_then c b1
  replace hv := hv.below b1
  replace hu := hu.below b1
  replace hbx := hbx.below b1
  clear b1
  obtain ⟨x0, x1, x2⟩ := id hbx
  go_wp2_with fail
  refine (net_enabled _ _ n m w1 (by exact hv) (by exact hu)).mono ?_
  rintro e w2 ⟨r, rfl, hr, b1⟩
  replace c := below_then c b1
  replace hv := hv.below b1
  replace hbx := hbx.below b1
  clear b1 x0 x1 x2 hu
  obtain ⟨x0, x1, x2⟩ := id hbx
  cases hf : fitsL n m
  · rw [canL_no hf] at hr ⊢
    clear hf hr
    go_wp2
    go_ret
    exact ⟨rfl, c⟩
  · rw [canL_yes hf] at hr ⊢
    clear hf
    go_wp2_with fail
    refine (choice_free _ n w2 (by exact hv)).mono ?_
    rintro e w3 ⟨b, rfl, hb, b1⟩
    replace c := below_then c b1
    replace hv := hv.below b1
    replace hbx := hbx.below b1
    replace hr := hr.below b1
    clear b1 x0 x1 x2
    obtain ⟨x0, x1, x2⟩ := id hbx
    cases b
    · clear hb hr
      go_wp2
      go_ret
      exact ⟨rfl, c⟩
    · have HF : Hid (FreeN n) := hb.1 rfl
      clear hb
      go_wp2_with fail
      refine (choice_clusters _ n w3 (by exact hv)).mono ?_
      rintro e w4 ⟨q, ls, rfl, hp, hL, b1⟩
      replace c := below_then c b1
      replace hr := hr.below b1
      have HS : Hid (∀ k j, k < ls.length → j < (markAt ls k).length → hasL (canTo n m n.trans.length) (nth (markAt ls k) j) = hasL (canTo n m n.trans.length) (nth (markAt ls k) 0)) := fun k j hk hj =>
        part_same HF.out hp (mem_getD hk) (nth_in hj) (nth_in (by omega))
      clear b1 x0 x1 x2 hp hbx hv HF
      obtain ⟨N, HN⟩ : ∃ N, Hid (canTo n m n.trans.length = N) := ⟨_, rfl⟩
      rw [HN.out] at hr HS
      clear HN
      obtain ⟨a, cap, rfl, hll, hsh⟩ := hL.slice
      obtain ⟨len, hlen⟩ : ∃ len, len = ls.length := ⟨_, rfl⟩
      rw [← hlen] at hL hll hsh HS ⊢
      clear hlen
      go_wp2_with fail
      go_loopg [29] len (fun gk i' wr => ∃ i : Nat, i + gk = len ∧ i' = .int .i64 (i : Int) ∧ Below w4.heap.size w4 wr)
      case atStart => exact ⟨0, by omega, rfl, Below.refl _ _⟩
      case round =>
        obtain ⟨i, hig, rfl, hb⟩ := hrel
        obtain ⟨g1, rfl⟩ : ∃ g1, g1 = gk := ⟨_, rfl⟩
        by_cases hin : i < len
        · obtain ⟨bt, ot, lv, rfl, hlt, cc, iL⟩ := (hL.below hb).at hin
          obtain ⟨la, ll, lc, rfl, hll2, _⟩ := id iL
          have HSi : Hid _ := fun j => HS.out i j hin
          rw [hll2] at HSi
          have Hll : Hid (_ = ll) := hll2
          obtain ⟨W0, HW0⟩ : ∃ W0, Hid (wr = W0) := ⟨_, rfl⟩
          rw [HW0.out] at hb iL cc
          rw [HW0.out]
          clear HW0 hll2
          generalize markAt ls i = L at *
          go_wp2_with fail
          clear cc
          go_loopg [35] ll (fun gk j' wr => ∃ j : Nat, j + gk = ll ∧ j' = .int .i64 (j : Int) ∧ Below W0.heap.size W0 wr)
          case atStart => exact ⟨0, by omega, rfl, Below.refl _ _⟩
          case round =>
            obtain ⟨j, hjg, rfl, hb2⟩ := hrel
            by_cases hjn : j < ll
            · obtain ⟨bl, ol, rfl, hltl, cj⟩ := ints_atL (iL.below hb2) hjn
              obtain ⟨bl', ol', e, _, c0⟩ := ints_atL (iL.below hb2) (k := 0) (by omega)
              injection e with e
              injection e with e1 e2
              subst e1 e2
              have hr2 := hr.below (below_then hb hb2)
              have E : Hid _ := HSi.out j hjn
              obtain ⟨y, Hy⟩ : ∃ y, Hid (nth L j = y) := ⟨_, rfl⟩
              obtain ⟨z, Hz⟩ : ∃ z, Hid (nth L 0 = z) := ⟨_, rfl⟩
              rw [Hy.out] at cj E
              rw [Hz.out] at c0 E
              rw [Nat.add_zero] at c0
              clear Hy Hz
              go_upto_region 12 with fail
              have hd : Below wr.heap.size wr wr.drew := (Below.refl _ _).drew
              refine wp_region_held_drew (S := (fun w' => w'.cell? ⟨bl, ol, none⟩ = some (.int .i64 z))) (by kernel_rfl) ((hd.cell (p := ⟨bl, ol, none⟩) hltl).trans c0) (fun hH => ?_)
              refine wpAnyH_take (i := 0) (v := r) rfl (by kernel_rfl) (by kernel_rfl) (by kernel_rfl) (fun _ _ _ h => h) (.inl ⟨by rfl, fun _ _ => rfl⟩) hH ?_
              simp only [List.getElem_toArray, List.getElem_cons_succ, List.getElem_cons_zero, Act.put, List.setIfInBounds_toArray, List.set_cons_zero, List.set_cons_succ]
              refine wpAnyH_take (i := 1) (v := .int .i64 y) rfl (by kernel_rfl) (by kernel_rfl) (by kernel_rfl) (fun _ _ _ h => h) (.inl ⟨by rfl, fun _ _ => rfl⟩) hH ?_
              simp only [List.getElem_toArray, List.getElem_cons_succ, List.getElem_cons_zero, Act.put, List.setIfInBounds_toArray, List.set_cons_zero, List.set_cons_succ]
              refine wpAnyH_take (i := 3) (v := r) rfl (by kernel_rfl) (by kernel_rfl) (by kernel_rfl) (fun _ _ _ h => h) (.inl ⟨by rfl, fun _ _ => rfl⟩) hH ?_
              simp only [List.getElem_toArray, List.getElem_cons_succ, List.getElem_cons_zero, Act.put, List.setIfInBounds_toArray, List.set_cons_zero, List.set_cons_succ]
              refine wpAnyH_take (i := 4) (v := .slice (some ⟨bl, ol, none⟩) ll lc) rfl (by kernel_rfl) (by kernel_rfl) (by kernel_rfl) (fun _ _ _ h => h) (.inl ⟨by rfl, fun _ _ => rfl⟩) hH ?_
              simp only [List.getElem_toArray, List.getElem_cons_succ, List.getElem_cons_zero, Act.put, List.setIfInBounds_toArray, List.set_cons_zero, List.set_cons_succ]
              refine wpAnyH_take (i := 5) (v := .pointer (some ⟨bl, ol, none⟩)) rfl (by kernel_rfl) (by kernel_rfl) (by kernel_rfl) (fun _ _ _ h => h) (.inl ⟨by rfl, fun w' hS' => by first | (go_simp; done) | (go_simp; rfl) | (go_simp; intro h; omega) | (go_simp; omega)⟩) hH ?_
              simp only [List.getElem_toArray, List.getElem_cons_succ, List.getElem_cons_zero, Act.put, List.setIfInBounds_toArray, List.set_cons_zero, List.set_cons_succ]
              refine wpAnyH_take (i := 6) (v := .int .i64 z) rfl (by kernel_rfl) (by kernel_rfl) (by kernel_rfl) (fun _ _ _ h => h) (.inl ⟨by rfl, fun w' hS' => by obtain s1 := hS'; go_simp⟩) hH ?_
              simp only [List.getElem_toArray, List.getElem_cons_succ, List.getElem_cons_zero, Act.put, List.setIfInBounds_toArray, List.set_cons_zero, List.set_cons_succ]
              refine wpAnyH_ready (rs := [2]) (by kernel_rfl) (by simp) ?_
              refine AllReadyH.cons rfl (fun K hK => ?_) AllReadyH.nil
              simp only [List.getElem_toArray, List.getElem_cons_succ, List.getElem_cons_zero]
              rw [if_pos (by rfl)]
              go_wp2_with fail
              refine (contains_any _ N y wr.drew (by exact hr2.below hd)).mono ?_
              rintro e w7 ⟨rfl, rfl⟩
              refine hK.out _ _ ((hd.cell (p := ⟨bl, ol, none⟩) hltl).trans c0) (fun hH => ?_)
              refine wpAnyH_ready (rs := [7]) (by kernel_rfl) (by simp) ?_
              refine AllReadyH.cons rfl (fun K hK => ?_) AllReadyH.nil
              simp only [List.getElem_toArray, List.getElem_cons_succ, List.getElem_cons_zero]
              rw [if_pos (by rfl)]
              go_wp2_with fail
              refine (contains_any _ N z wr.drew (by exact hr2.below hd)).mono ?_
              rintro e w7 ⟨rfl, rfl⟩
              refine hK.out _ _ ((hd.cell (p := ⟨bl, ol, none⟩) hltl).trans c0) (fun hH => ?_)
              rw [E.out]
              refine wpAnyH_take (i := 8) (v := .bool false) rfl (by kernel_rfl) (by kernel_rfl) (by kernel_rfl) (fun _ _ _ h => h) (.inl ⟨by rfl, fun w' hS' => by cases hasL N z <;> rfl⟩) hH ?_
              simp only [List.getElem_toArray, List.getElem_cons_succ, List.getElem_cons_zero, Act.put, List.setIfInBounds_toArray, List.set_cons_zero, List.set_cons_succ]
              refine wpAnyH_done (by kernel_rfl) ?_ _
              have B := below_then hb2 hd
              clear E HSi hr2 cj c0 hH hK hd
              go_wp2
              go_roundg (gk - 1)
              case measure => omega
              case rel => exact ⟨j + 1, by omega, by go_num, B⟩
            · have B := below_then hb hb2
              go_wp2
              go_roundg (g1 - 1)
              case measure => omega
              case rel => exact ⟨i + 1, by omega, by go_num, B⟩
        · have B := below_then c hb
          go_wp2
          go_ret
          exact ⟨rfl, B⟩

end Go.Proofs.Ytgedpebnipghlaa
