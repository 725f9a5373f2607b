/- The law CoverLimit, walked: it answers true, and writes nothing that was there. -/
import Derived.Test.YtbpkebkblkjdhaaAlive5b
namespace Go.Proofs.Ytbpkebkblkjdhaa
open Go.RowKit
set_option linter.unusedVariables false

set_option maxHeartbeats 2000000 in
theorem coverLimit_walk (v u s : Value) (n : NetL) (m : List Int) (p most : Int) (seq : List Int) (w : World) (hv : Net w v n) (hu : Ints w u m) (hs : Ints w s seq) :
    Calls Try.prog 7 #[v, u, .int .i64 p, .int .i64 most, s] w fun e w' => e = .returned (.bool true) ∧ Below w.heap.size w w' := by
  obtain ⟨tv, rfl, hT⟩ := hv
  have c := below_new w (.cells #[.int .i64 n.places, tv] 24)
  have hbx := box2_new w (.int .i64 n.places) tv 24
  have hv : Net _ (.agg #[.int .i64 n.places, tv]) n := ⟨_, rfl, hT.below c⟩
  replace hu := hu.below c
  replace hs := hs.below c
  clear hT
  go_enter Try.func7, Try.ntmps7
  go_wp2_with fail
  refine (alive5_any _).mono ?_
  rintro e w1 ⟨rfl, b⟩
  replace hv := hv.below b
  replace hu := hu.below b
  replace hs := hs.below b
  replace hbx := hbx.below b
  replace c := below_then c b
  clear b
  obtain ⟨x0, x1, x2⟩ := id hbx
  go_wp2_with fail
  refine (cover_limit _ _ n m p most _ (by exact hv) (by exact hu)).mono ?_
  rintro e w2 ⟨rfl, b⟩
  replace hv := hv.below b
  replace hu := hu.below b
  replace hs := hs.below b
  replace hbx := hbx.below b
  replace c := below_then c b
  clear b x0 x1 x2
  obtain ⟨x0, x1, x2⟩ := id hbx
  go_wp2_with fail
  refine (net_run n seq _ _ _ m _ (by exact hv) (by exact hu) (by exact hs)).mono ?_
  rintro e w3 ⟨r, rfl, hr, b⟩
  replace c := below_then c b
  clear b x0 x1 x2 hbx hv hu hs
  have HE : Hid _ := @limit_err n m p most
  have HR : Hid (∀ k x, limitL n m p most = (k, 0) → runL n m seq = (x, 0) → k = -1 ∨ (0 ≤ p ∧ p < x.length ∧ nth x p.toNat ≤ k)) := fun k x h1 h2 => limit_run h1 h2
  generalize limitL n m p most = q1 at *
  generalize runL n m seq = q2 at *
  obtain ⟨k, cd⟩ := q1
  obtain ⟨x, ce⟩ := q2
  simp only at hr HE ⊢
  by_cases h0 : cd = 0
  case neg =>
    have n0 : (cd != 0) = true := by simpa using h0
    have hk : k = 0 := HE.out h0
    subst hk
    clear HE HR
    go_wp2
    go_ret
    exact ⟨rfl, c⟩
  subst h0
  by_cases h1 : ce = 0
  case neg =>
    have n1 : (ce != 0) = true := by simpa using h1
    clear HE HR
    go_wp2
    go_ret
    exact ⟨rfl, c⟩
  subst h1
  have hR := HR.out k x rfl rfl
  clear HE HR
  obtain ⟨a, len, cap, rfl, hlen, hmx, hsh, hrow⟩ := hr
  by_cases hk : k = -1
  · subst hk
    go_wp2
    go_ret
    exact ⟨rfl, c⟩
  · have n2 : (k == -1) = false := by simpa using hk
    rcases hR with q | ⟨q1, q2, q3⟩
    · exact absurd q hk
    · obtain ⟨P, rfl⟩ := Int.eq_ofNat_of_zero_le q1
      rw [Int.toNat_natCast] at q3
      have hPl : P < len := by omega
      obtain ⟨b1, o1, rfl, hb1, hc1⟩ := hrow P (by omega)
      clear hrow hk q1 q2
      go_wp2
      go_ret
      exact ⟨by simp, c⟩

end Go.Proofs.Ytbpkebkblkjdhaa
