/- The law GrowSound, walked. -/
import Derived.Test.YtfgimobmaahmmaaGrowSafe
import Derived.Test.YtfgimobmaahmmaaSoundDev
namespace Go.Proofs.Ytfgimobmaahmmaa
open Go.RowKit
set_option linter.unusedVariables false
set_option linter.unusedSimpArgs false
set_option maxRecDepth 4000

theorem graph_kinds {n : NetL} {m : List Int} {most : Int} (h : graphOk n m most = true) : (graphL n m most).2 = 0 ∨ (graphL n m most).2 = 4 := by
  unfold graphL
  rw [h]
  simp only [if_true]
  split
  · exact .inl rfl
  · exact .inr rfl

theorem grown_verd {b : BlockL} (h : (growL b).2 = 0) {x : VerdL} {f : Int} (hv : Verd (growL b).1 0 1 300 x f) : f = 4 ∨ (f = 0 ∧ x.kind = 1) := by
  rcases growL_cases b with ⟨h1, _⟩ | ⟨e, hw, hf⟩
  · exact absurd h h1
  · obtain ⟨St, hO⟩ := grown_one (wrong_zero.1 hw) hf
    rw [e] at hv
    have hS := hO.shape
    have hok : graphOk (netG (grownB b)) (startL (netG (grownB b)).places 0) 300 = true := by
      have := fits_mk hO.netOk (hO.start_len 0) (start_right _ _)
      simp [graphOk, this]
    rcases graph_kinds hok with q | q
    · obtain ⟨s, hs⟩ : ∃ s, graphL (netG (grownB b)) (startL (netG (grownB b)).places 0) 300 = (s, 0) := ⟨_, Prod.ext rfl q⟩
      obtain ⟨h1, h2⟩ := hv.right hS s hs
      have h3 := h2.unique (hO.sound hs)
      exact .inr ⟨h1, by rw [h3]⟩
    · have := (hv.full hS (by rw [q]; decide)).1
      exact .inl (by rw [this, q])
theorem grown_judged {b : BlockL} (h : (growL b).2 = 0) {d : Int} (hv : Judged (growL b).1 0 1 d) : d = 0 := by
  rcases growL_cases b with ⟨h1, _⟩ | ⟨e, hw, hf⟩
  · exact absurd h h1
  · obtain ⟨St, hO⟩ := grown_one (wrong_zero.1 hw) hf
    rw [e] at hv
    exact hv.right hO.shape

set_option maxHeartbeats 1000000 in
theorem growSound_walk (v0 : Value) (b : BlockL) (w : World) (hv : BlockV w v0 b) :
    Calls Try.prog 4 #[v0] w fun e w' => e = .returned (.bool true) ∧ Below w.heap.size w w' := by
  obtain ⟨a, len, cap, e0⟩ : ∃ a l c, v0 = .agg #[.int .i64 b.kind, .int .i64 b.label, .slice a l c] := by obtain ⟨kv, e, hK⟩ := blockV_iff.1 hv; obtain ⟨a, c, e2, _⟩ := hK.slice; exact ⟨a, _, c, by rw [e, e2]⟩
  subst e0
  have c := below_new w (.cells #[.int .i64 b.kind, .int .i64 b.label, .slice a len cap] 24)
  have hbx := box3_new w (.int .i64 b.kind) (.int .i64 b.label) (.slice a len cap) 24
  replace hv := hv.below c
  obtain ⟨w0, Hw0⟩ : ∃ w0, Hid (w.alloc (.cells #[.int .i64 b.kind, .int .i64 b.label, .slice a len cap] 24) = w0) := ⟨_, rfl⟩
  rw [Hw0.out] at c hbx hv
  go_enter Try.func4, Try.ntmps4
  go_upto_region 1 with fail
  rw [Hw0.out]
  clear Hw0
  go_wp2_with fail
  refine (alive11_any w0).mono ?_
  rintro e w1 ⟨rfl, b1⟩
  replace c := below_then c b1
  replace hv := hv.below b1
  replace hbx := hbx.below b1
  obtain ⟨x0, x1, x2, x3⟩ := id hbx
  clear b1
  go_wp2_with fail
  refine (grow_grow _ b w1 (by exact hv)).mono ?_
  rintro e w2 ⟨r, rfl, hN, b2⟩
  replace c := below_then c b2
  replace hv := hv.below b2
  replace hbx := hbx.below b2
  obtain ⟨tv, rfl, hT⟩ := hN
  obtain ⟨at_, lt_, ct_, rfl, _⟩ := id hT
  have HV : Hid (∀ x f, (growL b).2 = 0 → Verd (growL b).1 0 1 300 x f → f = 4 ∨ (f = 0 ∧ x.kind = 1)) := fun x f h h2 => grown_verd h h2
  have HJ : Hid (∀ d, (growL b).2 = 0 → Judged (growL b).1 0 1 d → d = 0) := fun d h h2 => grown_judged h h2
  have HC : Hid ((growL b).2 ≠ 0 → (growL b).2 = wrongB b ∨ (growL b).2 = 4) := fun h => by
    rcases growL_cases b with ⟨_, _, h3⟩ | ⟨e, _, _⟩
    · exact h3
    · exact absurd (by rw [e]) h
  obtain ⟨n, Hn⟩ : ∃ n, Hid ((growL b).1 = n) := ⟨_, rfl⟩
  obtain ⟨E, HEE⟩ : ∃ E, Hid ((growL b).2 = E) := ⟨_, rfl⟩
  rw [Hn.out] at hT HV HJ ⊢
  rw [HEE.out] at HV HJ HC ⊢
  have bn := below_new w2 (.cells #[.int .i64 n.places, .slice at_ lt_ ct_] 27)
  have hx := box2_new w2 (.int .i64 n.places) (.slice at_ lt_ ct_) 27
  replace hT := hT.below bn
  replace c := below_then c bn
  replace hv := hv.below bn
  replace hbx := hbx.below bn
  obtain ⟨w3, Hw3⟩ : ∃ w3, Hid (w2.alloc (.cells #[.int .i64 n.places, .slice at_ lt_ ct_] 27) = w3) := ⟨_, rfl⟩
  rw [Hw3.out] at hx hT c hv hbx
  clear x0 x1 x2 x3 b2 bn
  go_upto_region 4 with fail
  rw [Hw3.out]
  clear Hw3
  by_cases hE : E = 0
  · subst hE
    obtain ⟨x0, x1, x2⟩ := id hx
    have hN : Net w3 (.agg #[.int .i64 n.places, .slice at_ lt_ ct_]) n := ⟨_, rfl, hT⟩
    clear hv hbx HC
    go_wp2_with fail
    refine (sound_judge _ n 0 1 300 w3 hN).mono ?_
    rintro e w4 ⟨r4, x4, f, rfl, ⟨⟨av, rfl, hav⟩, hV⟩, b4⟩
    obtain ⟨aa, la, ca, rfl⟩ : ∃ a l c, av = .slice a l c := by obtain ⟨a, l, c, e, _⟩ := hav; exact ⟨a, l, c, e⟩
    have HF := HV.out _ _ (by trivial) hV
    replace hN := hN.below b4
    replace c := below_then c b4
    replace hx := hx.below b4
    have b5 := below_new w4 (.cells #[.int .i64 x4.kind, .slice aa la ca, .int .i64 x4.tran] 37)
    have hbv := box3_new w4 (.int .i64 x4.kind) (.slice aa la ca) (.int .i64 x4.tran) 37
    replace hN := hN.below b5
    replace c := below_then c b5
    replace hx := hx.below b5
    obtain ⟨w5, Hw5⟩ : ∃ w5, Hid (w4.alloc (.cells #[.int .i64 x4.kind, .slice aa la ca, .int .i64 x4.tran] 37) = w5) := ⟨_, rfl⟩
    rw [Hw5.out] at hN c hx hbv
    clear x0 x1 x2 hT b4 b5 hav hV
    go_upto_region 7 with fail
    rw [Hw5.out]
    clear Hw5
    obtain ⟨x0, x1, x2⟩ := id hx
    go_wp2_with fail
    refine (shape_wrong _ n 0 1 w5 hN).mono ?_
    rintro e w6 ⟨d, rfl, hJ, b6⟩
    have hd := HJ.out d (by trivial) hJ
    subst hd
    have R := below_then c b6
    obtain ⟨y0, y1, y2, y3⟩ := hbv.below b6
    clear x0 x1 x2 hN hx hJ b6 c hbv
    rcases HF with rfl | ⟨rfl, hk⟩
    · go_wp2
      go_ret
      exact ⟨rfl, R⟩
    · rw [hk] at y1
      go_wp2
      go_ret
      exact ⟨rfl, R⟩
  · have hE' : (E != 0) = true := by simpa using hE
    obtain ⟨x0, x1, x2, x3⟩ := id hbx
    have HC2 := HC.out hE
    clear hT hx HV HJ hE HC
    go_wp2_with fail
    refine (blocks_wrong _ b w3 (by exact hv)).mono ?_
    rintro e w4 ⟨rfl, b4⟩
    have R := below_then c b4
    clear x0 x1 x2 x3 hv hbx b4 c
    rcases HC2 with h | h
    · rw [← h]
      have q : (E == E) = true := by simp
      go_wp2
      go_ret
      exact ⟨rfl, R⟩
    · subst h
      obtain ⟨F, HF⟩ : ∃ F, Hid (wrongB b = F) := ⟨_, rfl⟩
      rw [HF.out]
      cases q : ((4 : Int) == F)
      · go_wp2
        go_ret
        exact ⟨rfl, R⟩
      · go_wp2
        go_ret
        exact ⟨rfl, R⟩

end Go.Proofs.Ytfgimobmaahmmaa
