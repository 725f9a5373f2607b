/- The law ChoiceApart, walked. -/
import Derived.Test.YtgedpebnipghlaaChoiceSame
namespace Go.Proofs.Ytgedpebnipghlaa
open Go.RowKit
set_option linter.unusedVariables false
set_option linter.unusedSimpArgs false
set_option maxRecDepth 4000

/-- Who is in another part keeps its turn. -/
theorem part_apart {n : NetL} {m x : List Int} {t : Int} (hfire : fireL n m t = (x, 0)) {ls : List (List Int)} (hp : PartsOk n ls) {l : List Int} (hl : l ∈ ls) {u : Int} (hu : u ∈ l)
    (ht : hasL l t = false) (h : hasL (canTo n m n.trans.length) u = true) : hasL (canTo n x n.trans.length) u = true := by
  obtain ⟨k, rfl, hk, hf, hc, hr, hx⟩ := fire_ok hfire
  obtain ⟨u0, u1, u2⟩ := hp.mem l hl u hu
  unfold hasL at h ht ⊢
  rw [List.contains_iff_mem, can_mem] at h ⊢
  obtain ⟨j, rfl, hj, hcj⟩ := h
  refine ⟨j, rfl, hj, ?_⟩
  have hns : ¬ Shares n j k := fun hs => by
    have hm : (k : Int) ∈ l := (u2 k hk).2 ((Led.here n _).step u1 hk (by simpa using hs))
    have : l.contains (k : Int) = true := List.contains_iff_mem.2 hm
    rw [ht] at this; cases this
  obtain ⟨hn, _, _⟩ := fits_net hf
  have wj := (rightL_iff _).1 (tran_right (net_tran hn hj)).1
  have wk := tran_right (net_tran hn hk)
  have wk1 := (rightL_iff _).1 wk.1
  have wk2 := (rightL_iff _).1 wk.2
  have wx := (rightL_iff _).1 hr
  rw [coversL_iff] at hcj ⊢
  intro p
  have h1 := hcj p
  have h2 := wx p
  have h3 := wk1 p
  have h4 := wk2 p
  have h5 := wj p
  have e : nth x p = nth m p - nth (tranAt n.trans k).pre p + nth (tranAt n.trans k).post p := by rw [hx, add_at, sub_at]
  by_cases hpj : 0 < nth (tranAt n.trans j).pre p
  · have : ¬ 0 < nth (tranAt n.trans k).pre p := fun q => hns ⟨p, hpj, q⟩
    omega
  · omega

set_option maxHeartbeats 4000000 in
theorem choiceApart_walk (v u : Value) (n : NetL) (m : List Int) (t : Int) (w : World) (hv : Net w v n) (hu : Ints w u m) :
    Calls Try.prog 5 #[v, u, .int .i64 t] w fun e w' => e = .returned (.bool true) ∧ Below w.heap.size w w' := by
  obtain ⟨tv, rfl, hT⟩ := hv
  have c := below_new w (.cells #[.int .i64 n.places, tv] 24)
  have hbx := box2_new w (.int .i64 n.places) tv 24
  have hv : Net _ (.agg #[.int .i64 n.places, tv]) n := ⟨_, rfl, hT.below c⟩
  replace hu := hu.below c
  clear hT
  obtain ⟨w0, Hw0⟩ : ∃ w0, Hid (w.alloc (.cells #[.int .i64 n.places, tv] 24) = w0) := ⟨_, rfl⟩
  rw [Hw0.out] at c hbx hv hu
  go_enter Try.func5, Try.ntmps5
  go_upto_region 1 with fail
  rw [Hw0.out]
  clear Hw0
  go_wp2_with fail
  refine (alive14_any w0).mono ?_
  rintro e w1 ⟨rfl, b1⟩
  replace c := below_then c b1
  replace hv := hv.below b1
  replace hu := hu.below b1
  replace hbx := hbx.below b1
  clear b1
  obtain ⟨x0, x1, x2⟩ := id hbx
  go_wp2_with fail
  refine (net_enabled _ _ n m w1 (by exact hv) (by exact hu)).mono ?_
  rintro e w2 ⟨r, rfl, hr, b1⟩
  replace c := below_then c b1
  replace hv := hv.below b1
  replace hbx := hbx.below b1
  replace hu := hu.below b1
  clear b1 x0 x1 x2
  obtain ⟨x0, x1, x2⟩ := id hbx
  go_wp2_with fail
  refine (net_fire _ _ n m t w2 (by exact hv) (by exact hu)).mono ?_
  rintro e w3 ⟨rx, rfl, hrx, b1⟩
  replace c := below_then c b1
  replace hv := hv.below b1
  replace hbx := hbx.below b1
  replace hr := hr.below b1
  clear b1 x0 x1 x2 hu
  obtain ⟨x0, x1, x2⟩ := id hbx
  cases hf : fitsL n m
  · rw [canL_no hf] at hr ⊢
    clear hf hr hrx
    obtain ⟨F, HF⟩ : ∃ F, Hid ((fireL n m t).2 = F) := ⟨_, rfl⟩
    rw [HF.out]
    go_wp2
    go_ret
    exact ⟨rfl, c⟩
  · rw [canL_yes hf] at hr ⊢
    clear hf
    obtain ⟨F, HF⟩ : ∃ F, Hid ((fireL n m t).2 = F) := ⟨_, rfl⟩
    obtain ⟨X, HX⟩ : ∃ X, Hid ((fireL n m t).1 = X) := ⟨_, rfl⟩
    rw [HX.out] at hrx
    rw [HF.out]
    by_cases hF0 : F = 0
    · subst hF0
      have HFi : Hid (fireL n m t = (X, 0)) := Prod.ext HX.out HF.out
      have hfx : fitsL n X = true := fire_fits HFi.out
      go_wp2_with fail
      refine (net_enabled _ _ n X w3 (by exact hv) (by exact hrx)).mono ?_
      rintro e w4 ⟨r2, rfl, hr2, b1⟩
      rw [canL_yes hfx] at hr2 ⊢
      replace c := below_then c b1
      replace hv := hv.below b1
      replace hbx := hbx.below b1
      replace hr := hr.below b1
      clear b1 x0 x1 x2 hrx hfx HF HX
      obtain ⟨x0, x1, x2⟩ := id hbx
      go_wp2_with fail
      refine (choice_clusters _ n w4 (by exact hv)).mono ?_
      rintro e w5 ⟨q, ls, rfl, hp, hL, b1⟩
      replace c := below_then c b1
      replace hr := hr.below b1
      replace hr2 := hr2.below b1
      have HS : Hid (∀ k j, k < ls.length → j < (markAt ls k).length → hasL (markAt ls k) t = false → hasL (canTo n m n.trans.length) (nth (markAt ls k) j) = true → hasL (canTo n X n.trans.length) (nth (markAt ls k) j) = true) := fun k j hk hj h1 h2 =>
        part_apart HFi.out hp (mem_getD hk) (nth_in hj) h1 h2
      clear b1 x0 x1 x2 hp hbx hv HFi
      obtain ⟨N, HN⟩ : ∃ N, Hid (canTo n m n.trans.length = N) := ⟨_, rfl⟩
      obtain ⟨M, HM⟩ : ∃ M, Hid (canTo n X n.trans.length = M) := ⟨_, rfl⟩
      rw [HN.out] at hr HS
      rw [HM.out] at hr2 HS
      clear HN HM
      obtain ⟨a, cap, rfl, hll, hsh⟩ := hL.slice
      obtain ⟨len, hlen⟩ : ∃ len, len = ls.length := ⟨_, rfl⟩
      rw [← hlen] at hL hll hsh HS ⊢
      clear hlen
      go_wp2_with fail
      go_loopg [47] len (fun gk i' wr => ∃ i : Nat, i + gk = len ∧ i' = .int .i64 (i : Int) ∧ Below w5.heap.size w5 wr)
      case atStart => exact ⟨0, by omega, rfl, Below.refl _ _⟩
      case round =>
        obtain ⟨i, hig, rfl, hb⟩ := hrel
        obtain ⟨g1, rfl⟩ : ∃ g1, g1 = gk := ⟨_, rfl⟩
        by_cases hin : i < len
        · obtain ⟨bt, ot, lv, rfl, hlt, cc, iL⟩ := (hL.below hb).at hin
          obtain ⟨la, ll, lc, rfl, hll2, _⟩ := id iL
          have HSi : Hid _ := fun j => HS.out i j hin
          rw [hll2] at HSi
          obtain ⟨W0, HW0⟩ : ∃ W0, Hid (wr = W0) := ⟨_, rfl⟩
          rw [HW0.out] at hb iL cc
          rw [HW0.out]
          clear HW0 hll2
          generalize markAt ls i = L at *
          go_wp2_with fail
          clear cc
          go_loopg [53] ll (fun gk j' wr => ∃ j : Nat, j + gk = ll ∧ j' = .int .i64 (j : Int) ∧ Below W0.heap.size W0 wr)
          case atStart => exact ⟨0, by omega, rfl, Below.refl _ _⟩
          case round =>
            obtain ⟨j, hjg, rfl, hb2⟩ := hrel
            by_cases hjn : j < ll
            · have iL2 := iL.below hb2
              obtain ⟨bl, ol, rfl, hltl, cj⟩ := ints_atL iL2 hjn
              have hra := hr.below (below_then hb hb2)
              have hrb := hr2.below (below_then hb hb2)
              have E : Hid _ := HSi.out j hjn
              obtain ⟨y, Hy⟩ : ∃ y, Hid (nth L j = y) := ⟨_, rfl⟩
              rw [Hy.out] at cj E
              clear Hy
              go_wp2_with fail
              refine (contains_any _ L t wr (by exact iL2)).mono ?_
              rintro e w7 ⟨rfl, rfl⟩
              cases h1 : hasL L t
              · go_wp2_with fail
                refine (contains_any _ N y w7 (by exact hra)).mono ?_
                rintro e w8 ⟨rfl, rfl⟩
                cases h2 : hasL N y
                · clear E HSi hra hrb cj iL2 h1 h2
                  go_wp2
                  go_roundg (gk - 1)
                  case measure => omega
                  case rel => exact ⟨j + 1, by omega, by go_num, hb2⟩
                · go_wp2_with fail
                  refine (contains_any _ M y w8 (by exact hrb)).mono ?_
                  rintro e w9 ⟨rfl, rfl⟩
                  rw [E.out h1 h2]
                  clear E HSi hra hrb cj iL2 h1 h2
                  go_wp2
                  go_roundg (gk - 1)
                  case measure => omega
                  case rel => exact ⟨j + 1, by omega, by go_num, hb2⟩
              · clear E HSi hra hrb cj iL2 h1
                go_wp2
                go_roundg (gk - 1)
                case measure => omega
                case rel => exact ⟨j + 1, by omega, by go_num, hb2⟩
            · have B := below_then hb hb2
              go_wp2
              go_roundg (g1 - 1)
              case measure => omega
              case rel => exact ⟨i + 1, by omega, by go_num, B⟩
        · have B := below_then c hb
          go_wp2
          go_ret
          exact ⟨rfl, B⟩
    · have hF' : (F != 0) = true := by simpa using hF0
      clear hr hrx
      go_wp2
      go_ret
      exact ⟨rfl, c⟩

end Go.Proofs.Ytgedpebnipghlaa
