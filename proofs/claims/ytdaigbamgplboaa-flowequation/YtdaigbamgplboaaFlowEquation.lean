/- The law FlowEquation, walked: it answers true, and writes nothing that was there. -/
import Derived.Test.YtdaigbamgplboaaAlive3
import Derived.Test.YtdaigbamgplboaaFlows
namespace Go.Proofs.Ytdaigbamgplboaa
open Go.RowKit
set_option linter.unusedVariables false

theorem below_drew1 (w : World) : Below w.heap.size w w.drew := below_drewN (Below.refl _ _) 1

set_option maxHeartbeats 2000000 in
theorem flowEquation_walk (v u s : Value) (n : NetL) (m seq : List Int) (w : World) (hv : Net w v n) (hu : Ints w u m) (hs : Ints w s seq) :
    Calls Try.prog 4 #[v, u, s] w fun e w' => e = .returned (.bool true) ∧ Below w.heap.size w w' := by
  obtain ⟨tv, rfl, hT⟩ := hv
  have c := below_new w (.cells #[.int .i64 n.places, tv] 24)
  have hbx := box2_new w (.int .i64 n.places) tv 24
  have hv : Net _ (.agg #[.int .i64 n.places, tv]) n := ⟨_, rfl, hT.below c⟩
  replace hu := hu.below c
  replace hs := hs.below c
  clear hT
  go_enter Try.func4, Try.ntmps4
  go_wp2_with fail
  refine (alive3_any _).mono ?_
  rintro e w1 ⟨rfl, b⟩
  replace hv := hv.below b
  replace hu := hu.below b
  replace hs := hs.below b
  replace hbx := hbx.below b
  replace c := below_then c b
  clear b
  obtain ⟨x0, x1, x2⟩ := id hbx
  go_wp2_with fail
  refine (net_run n seq _ _ _ m _ (by exact hv) (by exact hu) (by exact hs)).mono ?_
  rintro e w2 ⟨r, rfl, hr, b⟩
  replace hv := hv.below b
  replace hu := hu.below b
  replace hs := hs.below b
  replace hbx := hbx.below b
  replace c := below_then c b
  clear b x0 x1 x2
  have Heq : Hid _ := @run_equation n m
  obtain ⟨a3, l3, p3, rfl, hl3, hm3, hs3, _⟩ := id hs
  have Hq : Hid (∀ x, runL n m seq = (x, 0) → seq.length ≤ 100000 → _) := fun x h1 h2 => run_equation h1 h2
  clear Heq
  generalize runL n m seq = q at *
  obtain ⟨x, cd⟩ := q
  simp only at hr ⊢
  by_cases h0 : cd = 0
  case neg =>
    have n1 : (cd != 0) = true := by simpa using h0
    clear Hq
    go_wp2
    go_ret
    exact ⟨rfl, c⟩
  subst h0
  by_cases hq : l3 ≤ 100000
  case neg =>
    clear Hq
    go_wp2
    go_ret
    exact ⟨rfl, c⟩
  obtain ⟨d, e1, e2, e3, e4, e5⟩ := Hq.out x rfl (by omega)
  have E1 : Hid _ := e1
  have E4 : Hid _ := e4
  have E5 : Hid _ := e5
  clear Hq e1 e4 e5
  obtain ⟨x0, x1, x2⟩ := id hbx
  go_wp2_with fail
  go_region_held3 (fun w' => w'.cell? ⟨w.heap.size, 0, none⟩ = some (.int .i64 n.places) ∧ w'.cell? ⟨w.heap.size, 1, none⟩ = some tv)
    (go_keep)
    (first
      | (go_at_call 12; refine (flow_count _ _ n seq _ ?_ ?_).mono ?_; exact hv.below (below_drew1 _); exact hs.below (below_drew1 _); rintro e w3 ⟨r3, rfl, hr3, q3⟩; have q3 := below_then (below_drew1 _) q3; have y31 := (q3.cell (p := ⟨w.heap.size, 0, none⟩) x0).trans x1; have y32 := (q3.cell (p := ⟨w.heap.size, 1, none⟩) x0).trans x2)
      | (go_at_call 9; refine (flow_effect _ _ n (countL n seq) _ ?_ ?_).mono ?_; exact hv.below q3; exact hr3; rintro e w4 ⟨r4, rfl, hr4, q4⟩; have q4 := below_then q3 q4; have y41 := (q4.cell (p := ⟨w.heap.size, 0, none⟩) x0).trans x1; have y42 := (q4.cell (p := ⟨w.heap.size, 1, none⟩) x0).trans x2))
  rw [E1.out] at hr4
  simp only at hr4
  simp only [E1.out]
  replace hu := hu.below q4
  replace hr := hr.below q4
  replace c := below_then c q4
  clear E1 x0 x1 x2 y31 y32 y41 y42 q3 q4 hr3
  obtain ⟨a1, l1, p1, rfl, hl1, _, _, hrow1⟩ := hu
  obtain ⟨a2, l2, p2, rfl, hl2, _, _, hrow2⟩ := hr
  obtain ⟨a4, l4, p4, rfl, hl4, _, _, hrow4⟩ := hr4
  obtain rfl : l4 = l2 := by omega
  obtain rfl : l1 = l4 := by omega
  have nn : (((l1 : Nat) : Int) != (l1 : Int)) = false := by simp
  go_wp2_with fail
  go_loopw [47] (fun i wr => ∃ k : Nat, k ≤ l1 ∧ i = .int .i64 k ∧ ∃ j, wr = w4.drewN j) (fun i _ => l1 - (intOf i).toNat)
  case atStart => exact ⟨0, Nat.zero_le _, rfl, 0, rfl⟩
  case round =>
    obtain ⟨k, hk, rfl, j, hwm⟩ := hrel
    have Hw : Hid (wr = w4.drewN j) := hwm
    have g1 : Row wr a1 m := by rw [hwm]; exact hrow1.drewN j
    have g2 : Row wr a2 x := by rw [hwm]; exact hrow2.drewN j
    have g4 : Row wr a4 d := by rw [hwm]; exact hrow4.drewN j
    clear hwm hrow1 hrow2 hrow4
    by_cases hkn : k < l1
    · obtain ⟨b1, o1, rfl, _, c1⟩ := g1 k (by omega)
      obtain ⟨b2, o2, rfl, _, c2⟩ := g2 k (by omega)
      obtain ⟨b4, o4, rfl, _, c4⟩ := g4 k (by omega)
      have ek := E4.out k (by omega)
      obtain ⟨ea, eb⟩ := E5.out k
      rw [ek] at c2 ea eb
      have nk : ((nth m k + nth d k) != (nth m k + nth d k)) = false := by simp
      clear g1 g2 g4 E4 E5 ek
      go_wp2
      go_quiet (fail)
      go_wp2
      go_roundw
      case rel => exact ⟨k + 1, by omega, by go_num, j + nq, by rw [Hw.out, World.drewN_drewN]⟩
      case measure => simp [intOf]; omega
    · have R : Below w4.heap.size w4 wr := by rw [Hw.out]; exact below_drewN (Below.refl _ _) j
      clear g1 g2 g4 E4 E5
      go_wp2
      go_ret
      exact ⟨rfl, below_then c R⟩

end Go.Proofs.Ytdaigbamgplboaa
