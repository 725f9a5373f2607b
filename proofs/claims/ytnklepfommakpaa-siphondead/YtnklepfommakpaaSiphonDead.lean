/- The law SiphonDead, walked: it answers true, and writes nothing that was there. -/
import Derived.Test.YtnklepfommakpaaAlive6
import Derived.Test.YtnklepfommakpaaSiph1
namespace Go.Proofs.Ytnklepfommakpaa
open Go.RowKit
set_option linter.unusedVariables false

/-- The places without tokens among the first k. -/
def zerosTo (m : List Int) (k : Nat) : List Int := ((List.range k).filter fun p => nth m p == 0).map fun p : Nat => (p : Int)
theorem noneZ_yes {m : List Int} {k : Nat} (h : nth m k = 0) : zerosTo m (k + 1) = zerosTo m k ++ [(k : Int)] := by
  simp [zerosTo, List.range_succ, List.filter_append, h]
theorem noneZ_no {m : List Int} {k : Nat} (h : nth m k ≠ 0) : zerosTo m (k + 1) = zerosTo m k := by
  simp [zerosTo, List.range_succ, List.filter_append, h]
theorem noneZ_le (m : List Int) (k : Nat) : (zerosTo m k).length ≤ k := by
  simp only [zerosTo, List.length_map]
  exact Nat.le_trans (List.length_filter_le _ _) (by simp)

theorem net_small {n : NetL} (h : netOk n = true) : ∀ k, k < n.trans.length → (tranAt n.trans k).pre.length + (tranAt n.trans k).post.length + 1 ≤ 17592186044416 := by
  intro k hk
  obtain ⟨h1, h2⟩ := tran_length h hk
  have h3 : n.places ≤ 16 := by
    simp only [netOk, headOk, Bool.and_eq_true, decide_eq_true_eq] at h
    exact h.1.1.2
  omega

set_option maxHeartbeats 2000000 in
theorem siphonDead_walk (v u : Value) (n : NetL) (m : List Int) (w : World) (hv : Net w v n) (hu : Ints w u m) :
    Calls Try.prog 7 #[v, u] w fun e w' => e = .returned (.bool true) ∧ Below w.heap.size w w' := by
  obtain ⟨tv, rfl, hT⟩ := hv
  have c := below_new w (.cells #[.int .i64 n.places, tv] 24)
  have hbx := box2_new w (.int .i64 n.places) tv 24
  have hv : Net _ (.agg #[.int .i64 n.places, tv]) n := ⟨_, rfl, hT.below c⟩
  replace hu := hu.below c
  clear hT
  go_enter Try.func7, Try.ntmps7
  go_wp2_with fail
  refine (alive6_any _).mono ?_
  rintro e w1 ⟨rfl, b⟩
  replace hv := hv.below b
  replace hu := hu.below b
  replace hbx := hbx.below b
  replace c := below_then c b
  clear b
  obtain ⟨x0, x1, x2⟩ := id hbx
  go_wp2_with fail
  refine (net_enabled _ _ n m _ (by exact hv) (by exact hu)).mono ?_
  rintro e w2 ⟨r2, rfl, hr2, b⟩
  replace hv := hv.below b
  replace hu := hu.below b
  replace hbx := hbx.below b
  replace c := below_then c b
  clear b x0 x1 x2
  cases hf : fitsL n m
  · rw [canL_no hf] at hr2
    simp only [canL_no hf]
    clear hf
    go_wp2
    go_ret
    exact ⟨rfl, c⟩
  rw [canL_yes hf] at hr2
  simp only [canL_yes hf]
  have HF : Hid _ := hf
  obtain ⟨ar, lr, cr, rfl, hlr, _, _, _⟩ := id hr2
  obtain ⟨am, lm, cm, rfl, hlm, hmm, hsm, hrm⟩ := id hu
  clear hf
  by_cases hl0 : 0 < lr
  · go_wp2
    go_ret
    exact ⟨rfl, c⟩
  have hlz : lr = 0 := by omega
  subst hlz
  have HC : Hid (canTo n m n.trans.length = []) := List.length_eq_zero_iff.1 hlr
  obtain ⟨x0, x1, x2⟩ := id hbx
  clear hr2 hl0 hlr
  go_wp2_with fail
  refine (ordinary_any _ n _ (by exact hv) (net_small (fits_net HF.out).1)).mono ?_
  rintro e w3 ⟨o, rfl, ho, b⟩
  replace hv := hv.below b
  replace hu := hu.below b
  replace hrm := hrm.below b
  replace hbx := hbx.below b
  replace c := below_then c b
  clear b x0 x1 x2
  cases o
  · go_wp2
    go_ret
    exact ⟨rfl, c⟩
  have HD : Hid _ := dead_siph HF.out (ho rfl) HC.out
  clear ho HC
  go_wp2_with fail
  go_loopg [7, 32] lm (fun g o i wr => ∃ k : Nat, k + g = lm ∧ i = .int .i64 k ∧ Own w3.heap.size w3 wr o (zerosTo m k))
  case atStart => exact ⟨0, by omega, rfl, Own.nil _⟩
  case round =>
    obtain ⟨k, hkg, rfl, hO⟩ := hrel
    by_cases hkn : k < lm
    · obtain ⟨bb, off, rfl, hbb, hc⟩ := (hrm.below hO.2.1) k (by omega)
      have hle := noneZ_le m k
      have Hy : Hid _ := @noneZ_yes m k
      have Hn : Hid _ := @noneZ_no m k
      generalize nth m k = z at *
      by_cases hz : z = 0
      · subst hz
        have R0 : Hid _ := Hy.out rfl
        clear Hy Hn
        go_wp2_with (at_builtin; refine wp_append_int rfl _ _ rfl w3.heap.size w3 _ _ _ (k : Int) hO rfl rfl (by omega) ?_; intro v' w5 hO5)
        have R : Own w3.heap.size w3 w5 v' (zerosTo m (k + 1)) := by rw [R0.out]; exact hO5
        clear hO hO5 R0
        go_wp2
        go_roundg (gk - 1)
        case measure => omega
        case rel => exact ⟨k + 1, by omega, by go_num, R⟩
      · have hne : (z == 0) = false := by simpa using hz
        have R := hO
        rw [← Hn.out hz] at R
        clear hO Hy Hn
        go_wp2
        go_roundg (gk - 1)
        case measure => omega
        case rel => exact ⟨k + 1, by omega, by go_num, R⟩
    · have ek : k = m.length := by omega
      have hle := noneZ_le m k
      have hI := hO.ints (by omega)
      have e1 : zerosTo m k = noneL m := by rw [ek]; rfl
      rw [e1] at hI hle
      have hb := hO.2.1
      replace c := below_then c hb
      obtain ⟨x0, x1, x2⟩ := hbx.below hb
      have hvb := hv.below hb
      have HS := HD.out.2
      have hpos : 0 < (noneL m).length := List.length_pos_iff.2 HD.out.1
      obtain ⟨a5, l5, c5, rfl, hl5, _, _, _⟩ := id hI
      have hl5' : 0 < l5 := by omega
      clear hO e1 ek
      go_wp2_with fail
      refine (siphon_siphon _ _ n (noneL m) _ (by exact hvb) (by exact hI)).mono ?_
      rintro e w5 ⟨rfl, b⟩
      rw [HS]
      replace c := below_then c b
      go_wp2
      go_ret
      exact ⟨rfl, c⟩

end Go.Proofs.Ytnklepfommakpaa
