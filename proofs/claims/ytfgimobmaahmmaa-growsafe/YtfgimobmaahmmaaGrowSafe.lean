/- The law GrowSafe, walked. -/
import Derived.Test.YtfgimobmaahmmaaGr29
import Derived.Test.YtfgimobmaahmmaaShapeDev
import Derived.Test.YtfgimobmaahmmaaGr10
namespace Go.Proofs.Ytfgimobmaahmmaa
open Go.RowKit
set_option linter.unusedVariables false
set_option linter.unusedSimpArgs false
set_option maxRecDepth 4000

theorem growL_cases (b : BlockL) : ((growL b).2 ≠ 0 ∧ (growL b).1 = ⟨0, []⟩ ∧ ((growL b).2 = wrongB b ∨ (growL b).2 = 4)) ∨ (growL b = (netG (grownB b), 0) ∧ wrongB b = 0 ∧ FitG (grownB b)) := by
  unfold growL
  by_cases h : wrongB b ≠ 0
  · rw [if_pos h]; exact .inl ⟨h, rfl, .inl rfl⟩
  · rw [if_neg h]
    by_cases hf : FitG (grownB b)
    · rw [if_pos (show _ ∧ _ from hf)]; exact .inr ⟨rfl, Classical.not_not.1 h, hf⟩
    · rw [if_neg (show ¬ (_ ∧ _) from hf)]; exact .inl ⟨by decide, rfl, .inr rfl⟩

/-- What is grown is safe, in whatever run. -/
theorem grown_safe {b : BlockL} (h : (growL b).2 = 0) {seq x : List Int} (hr : runL (growL b).1 (startL (growL b).1.places 0) seq = (x, 0)) : anyL x (fun k => decide (1 < k)) = false := by
  rcases growL_cases b with ⟨h1, _⟩ | ⟨e, hw, hf⟩
  · exact absurd h h1
  · obtain ⟨St, hO⟩ := grown_one (wrong_zero.1 hw) hf
    rw [e] at hr
    have hs := hO.safe (run_reachZ seq hr)
    refine not_any fun j _ => decide_eq_false (by have := hs j; omega)

theorem over_one : Asks1 17 (fun k => decide (1 < k)) := by
  intro x w
  go_enter Try.func17, Try.ntmps17
  go_wp2
  go_ret
  exact ⟨rfl, rfl⟩

set_option maxHeartbeats 1000000 in
theorem growSafe_walk (v0 v1 : Value) (b : BlockL) (seq : List Int) (w : World) (hv : BlockV w v0 b) (hs : Ints w v1 seq) :
    Calls Try.prog 5 #[v0, v1] w fun e w' => e = .returned (.bool true) ∧ Below w.heap.size w w' := by
  obtain ⟨a, len, cap, e0⟩ : ∃ a l c, v0 = .agg #[.int .i64 b.kind, .int .i64 b.label, .slice a l c] := by obtain ⟨kv, e, hK⟩ := blockV_iff.1 hv; obtain ⟨a, c, e2, _⟩ := hK.slice; exact ⟨a, _, c, by rw [e, e2]⟩
  subst e0
  have c := below_new w (.cells #[.int .i64 b.kind, .int .i64 b.label, .slice a len cap] 24)
  have hbx := box3_new w (.int .i64 b.kind) (.int .i64 b.label) (.slice a len cap) 24
  replace hv := hv.below c
  replace hs := hs.below c
  obtain ⟨w0, Hw0⟩ : ∃ w0, Hid (w.alloc (.cells #[.int .i64 b.kind, .int .i64 b.label, .slice a len cap] 24) = w0) := ⟨_, rfl⟩
  rw [Hw0.out] at c hbx hv hs
  go_enter Try.func5, Try.ntmps5
  go_upto_region 1 with fail
  rw [Hw0.out]
  clear Hw0
  go_wp2_with fail
  refine (alive11_any w0).mono ?_
  rintro e w1 ⟨rfl, b1⟩
  replace c := below_then c b1
  replace hv := hv.below b1
  replace hs := hs.below b1
  obtain ⟨x0, x1, x2, x3⟩ := hbx.below b1
  clear b1 hbx
  go_wp2_with fail
  refine (grow_grow _ b w1 (by exact hv)).mono ?_
  rintro e w2 ⟨r, rfl, hN, b2⟩
  replace c := below_then c b2
  replace hs := hs.below b2
  obtain ⟨tv, rfl, hT⟩ := hN
  obtain ⟨at_, lt_, ct_, rfl, _⟩ := id hT
  have HE : Hid _ := grown_safe (b := b)
  obtain ⟨n, Hn⟩ : ∃ n, Hid ((growL b).1 = n) := ⟨_, rfl⟩
  obtain ⟨E, HEE⟩ : ∃ E, Hid ((growL b).2 = E) := ⟨_, rfl⟩
  rw [Hn.out] at hT HE ⊢
  rw [HEE.out] at HE ⊢
  have bn := below_new w2 (.cells #[.int .i64 n.places, .slice at_ lt_ ct_] 27)
  have hx := box2_new w2 (.int .i64 n.places) (.slice at_ lt_ ct_) 27
  replace hT := hT.below bn
  replace hs := hs.below bn
  replace c := below_then c bn
  obtain ⟨w3, Hw3⟩ : ∃ w3, Hid (w2.alloc (.cells #[.int .i64 n.places, .slice at_ lt_ ct_] 27) = w3) := ⟨_, rfl⟩
  rw [Hw3.out] at hx hT hs c
  clear x0 x1 x2 x3 hv b2 bn
  go_upto_region 4 with fail
  rw [Hw3.out]
  clear Hw3
  obtain ⟨as_, ls_, cs_, rfl⟩ : ∃ a l c, v1 = .slice a l c := by obtain ⟨a, l, c, e, _⟩ := hs; exact ⟨a, l, c, e⟩
  obtain ⟨x0, x1, x2⟩ := id hx
  have bd := below_drewN (Below.refl w3.heap.size w3) 1
  go_region_held3 (fun w' => w'.cell? ⟨w2.heap.size, 0, none⟩ = some (.int .i64 n.places) ∧ w'.cell? ⟨w2.heap.size, 1, none⟩ = some (.slice at_ lt_ ct_))
    (go_keep)
    (first
      | (go_at_call 15; refine (shape_start _ n 0 _ ⟨_, rfl, hT.below bd⟩).mono ?_; rintro e w4 ⟨r4, rfl, hr4, b4⟩; replace b4 := below_then bd b4; obtain ⟨y0, y1, y2⟩ := hx.below b4)
      | (go_at_call 14; refine (net_run n seq _ _ _ _ _ ⟨_, rfl, hT.below b4⟩ hr4 (hs.below b4)).mono ?_; rintro e w5 ⟨r5, rfl, hr5, b5⟩; replace b5 := below_then b4 b5; obtain ⟨z0, z1, z2⟩ := hx.below b5))
  have R := below_then c b5
  clear x0 x1 x2 y0 y1 y2 z0 z1 z2 b4 b5 hr4 hT hs hx bd c
  obtain ⟨D, HD⟩ : ∃ D, Hid ((runL n (startL n.places 0) seq).2 = D) := ⟨_, rfl⟩
  obtain ⟨X, HX⟩ : ∃ X, Hid ((runL n (startL n.places 0) seq).1 = X) := ⟨_, rfl⟩
  rw [HX.out] at hr5
  rw [HD.out]
  obtain ⟨ar, lr, cr, rfl⟩ : ∃ a l c, r5 = .slice a l c := by obtain ⟨a, l, c, e, _⟩ := hr5; exact ⟨a, l, c, e⟩
  by_cases hE : E = 0
  · subst hE
    by_cases hD : D = 0
    · subst hD
      have F : Hid (anyL X (fun k => decide (1 < k)) = false) := HE.out rfl (seq := seq) (x := X) (Prod.ext HX.out HD.out)
      go_wp2_with fail
      refine (containsfunc_any _ _ over_one Try.call17 _ X _ hr5).mono ?_
      rintro e w6 ⟨rfl, rfl⟩
      rw [F.out]
      go_wp2
      go_ret
      exact ⟨rfl, R⟩
    · have hD' : (D != 0) = true := by simpa using hD
      clear hr5
      go_wp2
      go_ret
      exact ⟨rfl, R⟩
  · have hE' : (E != 0) = true := by simpa using hE
    clear hr5
    go_wp2
    go_ret
    exact ⟨rfl, R⟩

end Go.Proofs.Ytfgimobmaahmmaa
