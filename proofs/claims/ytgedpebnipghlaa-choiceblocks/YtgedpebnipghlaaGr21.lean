import Derived.Test.YtgedpebnipghlaaGr20
import Derived.Test.YtgedpebnipghlaaShapeDev
import Derived.Test.YtgedpebnipghlaaGr08
/- The law GrowSafe, walked. -/
namespace Go.Proofs.Ytgedpebnipghlaa
open Go.RowKit
set_option linter.unusedVariables false
set_option linter.unusedSimpArgs false
set_option maxRecDepth 4000

theorem growL_cases (b : BlockL) : ((growL b).2 ≠ 0 ∧ (growL b).1 = ⟨0, []⟩ ∧ ((growL b).2 = wrongB b ∨ (growL b).2 = 4)) ∨ (growL b = (netG (grownB b), 0) ∧ wrongB b = 0 ∧ FitG (grownB b)) := by
  unfold growL
  by_cases h : wrongB b ≠ 0
  · rw [if_pos h]; exact .inl ⟨h, rfl, .inl rfl⟩
  · rw [if_neg h]
    by_cases hf : FitG (grownB b)
    · rw [if_pos (show _ ∧ _ from hf)]; exact .inr ⟨rfl, Classical.not_not.1 h, hf⟩
    · rw [if_neg (show ¬ (_ ∧ _) from hf)]; exact .inl ⟨by decide, rfl, .inr rfl⟩

/-- What is grown is safe, in whatever run. -/
theorem grown_safe {b : BlockL} (h : (growL b).2 = 0) {seq x : List Int} (hr : runL (growL b).1 (startL (growL b).1.places 0) seq = (x, 0)) : anyL x (fun k => decide (1 < k)) = false := by
  rcases growL_cases b with ⟨h1, _⟩ | ⟨e, hw, hf⟩
  · exact absurd h h1
  · obtain ⟨St, hO⟩ := grown_one (wrong_zero.1 hw) hf
    rw [e] at hr
    have hs := hO.safe (run_reachZ seq hr)
    refine not_any fun j _ => decide_eq_false (by have := hs j; omega)

end Go.Proofs.Ytgedpebnipghlaa

/- The law GrowFree, walked. -/
namespace Go.Proofs.Ytgedpebnipghlaa
open Go.RowKit
set_option linter.unusedVariables false
set_option linter.unusedSimpArgs false
set_option maxRecDepth 4000

/-- Of what is grown: how many places, how long each list is, and that who shares a place shares all. -/
theorem grown_free {b : BlockL} (h : (growL b).2 = 0) : ∃ P : Nat, (growL b).1.places = (P : Int) ∧ P ≤ 16 ∧ (∀ k, k < (growL b).1.trans.length → (tranAt (growL b).1.trans k).pre.length = P) ∧
    ∀ i j p, i < (growL b).1.trans.length → j < (growL b).1.trans.length → 0 < nth (tranAt (growL b).1.trans i).pre p → 0 < nth (tranAt (growL b).1.trans j).pre p → (tranAt (growL b).1.trans i).pre = (tranAt (growL b).1.trans j).pre := by
  rcases growL_cases b with ⟨h1, _⟩ | ⟨e, hw, hf⟩
  · exact absurd h h1
  · obtain ⟨St, hO⟩ := grown_one (wrong_zero.1 hw) hf
    rw [e]
    refine ⟨(grownB b).places, rfl, hf.1, fun k hk => ?_, fun i j p hi hj h1 h2 => ?_⟩
    · rw [net_count] at hk; rw [net_tran_at hk]; exact weight_length _ _
    · rw [net_count] at hi hj; exact hO.free hi hj h1 h2

theorem ints_len {w : World} {a : Option Addr} {l c : Nat} {xs : List Int} (h : Ints w (.slice a l c) xs) : xs.length = l := by
  obtain ⟨a', l', c', e, h, _⟩ := h
  injection e with _ e2 _
  rw [h, e2]

end Go.Proofs.Ytgedpebnipghlaa

/- The law ChoiceBlocks, walked. -/
namespace Go.Proofs.Ytgedpebnipghlaa
open Go.RowKit
set_option linter.unusedVariables false
set_option linter.unusedSimpArgs false
set_option maxRecDepth 4000

theorem grown_freeN {b : BlockL} (h : (growL b).2 = 0) : FreeN (growL b).1 := by
  obtain ⟨P, _, _, _, hf⟩ := grown_free h
  rcases growL_cases b with ⟨h1, _⟩ | ⟨e, hw, hfit⟩
  · exact absurd h h1
  · obtain ⟨St, hO⟩ := grown_one (wrong_zero.1 hw) hfit
    exact ⟨by rw [e]; exact hO.netOk, fun i j hi hj ⟨p, h1, h2⟩ => hf i j p hi hj h1 h2⟩

set_option maxHeartbeats 2000000 in
theorem choiceBlocks_walk (v0 : Value) (b : BlockL) (w : World) (hv : BlockV w v0 b) :
    Calls Try.prog 7 #[v0] w fun e w' => e = .returned (.bool true) ∧ Below w.heap.size w w' := by
  obtain ⟨a, len0, cap, e0⟩ : ∃ a l c, v0 = .agg #[.int .i64 b.kind, .int .i64 b.label, .slice a l c] := by obtain ⟨kv, e, hK⟩ := blockV_iff.1 hv; obtain ⟨a, c, e2, _⟩ := hK.slice; exact ⟨a, _, c, by rw [e, e2]⟩
  subst e0
  have c := below_new w (.cells #[.int .i64 b.kind, .int .i64 b.label, .slice a len0 cap] 48)
  have hbx := box3_new w (.int .i64 b.kind) (.int .i64 b.label) (.slice a len0 cap) 48
  replace hv := hv.below c
  obtain ⟨w0, Hw0⟩ : ∃ w0, Hid (w.alloc (.cells #[.int .i64 b.kind, .int .i64 b.label, .slice a len0 cap] 48) = w0) := ⟨_, rfl⟩
  rw [Hw0.out] at c hbx hv
  go_enter Try.func7, Try.ntmps7
  go_upto_region 1 with fail
  rw [Hw0.out]
  clear Hw0
  go_wp2_with fail
  refine (alive14_any w0).mono ?_
  rintro e w1 ⟨rfl, b1⟩
  replace c := below_then c b1
  replace hv := hv.below b1
  obtain ⟨x0, x1, x2, x3⟩ := hbx.below b1
  clear b1 hbx
  go_wp2_with fail
  refine (grow_grow _ b w1 (by exact hv)).mono ?_
  rintro e w2 ⟨r, rfl, hN, b2⟩
  replace c := below_then c b2
  obtain ⟨tv, rfl, hT⟩ := hN
  obtain ⟨at_, len, ct_, rfl, hlen, hmx, hsh, _⟩ := id hT
  have HF : Hid _ := grown_freeN (b := b)
  obtain ⟨n, Hn⟩ : ∃ n, Hid ((growL b).1 = n) := ⟨_, rfl⟩
  obtain ⟨E, HEE⟩ : ∃ E, Hid ((growL b).2 = E) := ⟨_, rfl⟩
  rw [Hn.out] at hT HF hlen ⊢
  rw [HEE.out] at HF ⊢
  have bn := below_new w2 (.cells #[.int .i64 n.places, .slice at_ len ct_] 24)
  have hx := box2_new w2 (.int .i64 n.places) (.slice at_ len ct_) 24
  replace hT := hT.below bn
  replace c := below_then c bn
  obtain ⟨w3, Hw3⟩ : ∃ w3, Hid (w2.alloc (.cells #[.int .i64 n.places, .slice at_ len ct_] 24) = w3) := ⟨_, rfl⟩
  rw [Hw3.out] at hx hT c
  clear x0 x1 x2 x3 hv b2 bn hsh
  go_upto_region 4 with fail
  rw [Hw3.out]
  clear Hw3
  by_cases hE : E = 0
  · subst hE
    have hf := HF.out (by trivial)
    obtain ⟨x0, x1, x2⟩ := id hx
    go_wp2_with fail
    refine (choice_free _ n w3 (by exact ⟨_, rfl, hT⟩)).mono ?_
    rintro e w4 ⟨q, rfl, hq, b4⟩
    obtain rfl : q = true := hq.2 hf
    replace c := below_then c b4
    go_wp2
    go_ret
    exact ⟨rfl, c⟩
  · have hE' : (E != 0) = true := by simpa using hE
    clear hT hx HF
    go_wp2
    go_ret
    exact ⟨rfl, c⟩

end Go.Proofs.Ytgedpebnipghlaa
