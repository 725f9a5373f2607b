/- apart of package tokenhallkeep. -/
import Derived.Test.YtakgppoeikcepaaDoorGr00
import Derived.Lib.MinMax
import Derived.BigQuiet
import Derived.BigRegion
namespace Go.Proofs.YtakgppoeikcepaaDoor
open Go.RowKit
set_option linter.unusedVariables false
set_option linter.unusedSimpArgs false
set_option maxRecDepth 4000

theorem cons_slice {w : World} {v : Value} {x : Int} {a : List Int} (h : Ints w v (x :: a)) : ∃ b off cap, v = .slice (some ⟨b, off, none⟩) (a.length + 1) cap ∧ b < w.heap.size ∧ w.cell? ⟨b, off, none⟩ = some (.int .i64 x) ∧ a.length + 1 ≤ 17592186044416 ∧ a.length + 1 ≤ cap ∧ cap ≤ 9223372036854775807 ∧
    Ints w (.slice (if cap = 1 then some ⟨b, off, none⟩ else some ⟨b, off + 1, none⟩) a.length (cap - 1)) a := by
  obtain ⟨a', len, cap, rfl, hl, hm, hs, hr⟩ := h
  obtain ⟨b, off, rfl, hlt, hc⟩ := hr 0 (by simp)
  simp only [List.length_cons] at hl
  subst hl
  refine ⟨b, off, cap, rfl, hlt, by simpa [nth] using hc, hm, hs.1, hs.2.1, ?_⟩
  have := ints_tail hr rfl hm hs
  simpa using this

set_option maxHeartbeats 4000000 in
theorem apart_any : ∀ (N : Nat) (v u : Value) (a b : List Int) (w : World), a.length + b.length ≤ N → Ints w v a → Ints w u b →
    Calls Tryd.prog 9 #[v, u] w fun e w' => e = .returned (.int .i64 (apartL a b : Int)) ∧ Below w.heap.size w w' := by
  intro N
  induction N with
  | zero =>
    intro v u a b w hN hv hu
    cases a with
    | cons x a => simp only [List.length_cons] at hN; omega
    | nil =>
      cases b with
      | cons x a => simp only [List.length_cons] at hN; omega
      | nil =>
        obtain ⟨va, vc, rfl⟩ : ∃ a c, v = .slice a 0 c := by obtain ⟨a, l, c, e, hl, _⟩ := hv; exact ⟨a, c, by rw [e, ← hl]; rfl⟩
        obtain ⟨ua, uc, rfl⟩ : ∃ a c, u = .slice a 0 c := by obtain ⟨a, l, c, e, hl, _⟩ := hu; exact ⟨a, c, by rw [e, ← hl]; rfl⟩
        rw [apart_nil]
        go_enter Tryd.func9, Tryd.ntmps9
        go_wp2
        go_ret
        exact ⟨rfl, Below.refl _ _⟩
  | succ N ih =>
    intro v u a b w hN hv hu
    cases a with
    | nil =>
      obtain ⟨va, vc, rfl⟩ : ∃ a c, v = .slice a 0 c := by obtain ⟨a, l, c, e, hl, _⟩ := hv; exact ⟨a, c, by rw [e, ← hl]; rfl⟩
      obtain ⟨ua, uc, rfl⟩ : ∃ a c, u = .slice a b.length c := by obtain ⟨a, l, c, e, hl, _⟩ := hu; exact ⟨a, c, by rw [e, ← hl]⟩
      have hbl : b.length ≤ 17592186044416 := by obtain ⟨_, _, _, _, h1, h2, _⟩ := id hu; omega
      rw [apart_nil]
      generalize b.length = l at hbl
      clear hv hu hN ih
      go_enter Tryd.func9, Tryd.ntmps9
      go_wp2
      go_ret
      exact ⟨by go_num, Below.refl _ _⟩
    | cons x a =>
      obtain ⟨vb, vo, vc, rfl, hlt, hc, hm, hc1, hc2, hv1⟩ := cons_slice hv
      cases b with
      | nil =>
        obtain ⟨ua, uc, rfl⟩ : ∃ a c, u = .slice a 0 c := by obtain ⟨a, l, c, e, hl, _⟩ := hu; exact ⟨a, c, by rw [e, ← hl]; rfl⟩
        rw [apart_nil', List.length_cons]
        generalize a.length = l at hm hc1 hv1 hv
        clear hv hu hN ih hv1 hc
        go_enter Tryd.func9, Tryd.ntmps9
        go_wp2
        go_ret
        exact ⟨by go_num, Below.refl _ _⟩
      | cons y b =>
        obtain ⟨ub, uo, uc, rfl, klt, kc, km, kc1, kc2, hu1⟩ := cons_slice hu
        simp only [List.length_cons] at hN
        rw [apart_cons]
        have k2 := apart_le _ a (y :: b) (Nat.le_refl _)
        have k3 := apart_le _ (x :: a) b (Nat.le_refl _)
        simp only [List.length_cons] at k2 k3
        have H1 : Hid (∀ w', Below w.heap.size w w' → Calls Tryd.prog 9 #[.slice (if vc = 1 then some ⟨vb, vo, none⟩ else some ⟨vb, vo + 1, none⟩) a.length (vc - 1), .slice (if uc = 1 then some ⟨ub, uo, none⟩ else some ⟨ub, uo + 1, none⟩) b.length (uc - 1)] w' fun e w2 => e = .returned (.int .i64 (apartL a b : Int)) ∧ Below w'.heap.size w' w2) :=
          fun w' hb => ih _ _ a b w' (by omega) (hv1.below hb) (hu1.below hb)
        have H2 : Hid (∀ w', Below w.heap.size w w' → Calls Tryd.prog 9 #[.slice (if vc = 1 then some ⟨vb, vo, none⟩ else some ⟨vb, vo + 1, none⟩) a.length (vc - 1), .slice (some ⟨ub, uo, none⟩) (b.length + 1) uc] w' fun e w2 => e = .returned (.int .i64 (apartL a (y :: b) : Int)) ∧ Below w'.heap.size w' w2) :=
          fun w' hb => ih _ _ a (y :: b) w' (by simp only [List.length_cons]; omega) (hv1.below hb) (hu.below hb)
        have H3 : Hid (∀ w', Below w.heap.size w w' → Calls Tryd.prog 9 #[.slice (some ⟨vb, vo, none⟩) (a.length + 1) vc, .slice (if uc = 1 then some ⟨ub, uo, none⟩ else some ⟨ub, uo + 1, none⟩) b.length (uc - 1)] w' fun e w2 => e = .returned (.int .i64 (apartL (x :: a) b : Int)) ∧ Below w'.heap.size w' w2) :=
          fun w' hb => ih _ _ (x :: a) b w' (by simp only [List.length_cons]; omega) (hv.below hb) (hu1.below hb)
        generalize apartL a b = r1 at H1 ⊢
        generalize apartL a (y :: b) = r2 at H2 k2 ⊢
        generalize apartL (x :: a) b = r3 at H3 k3 ⊢
        have K2 : r2 ≤ 35184372088832 := by omega
        have K3 : r3 ≤ 35184372088832 := by omega
        clear hv hu hN ih hv1 hu1 k2 k3
        generalize a.length = la at *
        generalize b.length = lb at *
        obtain ⟨P1, HP1⟩ : ∃ P, (if vc = 1 then some (⟨vb, vo, none⟩ : Addr) else some ⟨vb, vo + 1, none⟩) = P := ⟨_, rfl⟩
        obtain ⟨P2, HP2⟩ : ∃ P, (if uc = 1 then some (⟨ub, uo, none⟩ : Addr) else some ⟨ub, uo + 1, none⟩) = P := ⟨_, rfl⟩
        rw [HP1, HP2] at H1
        rw [HP1] at H2
        rw [HP2] at H3
        have b1 : (1 : Int) ≤ (la : Int) + 1 := by omega
        have b2 : (1 : Int) ≤ (lb : Int) + 1 := by omega
        have n1 : ((la : Int) + 1 == 0) = false := by rw [beq_eq_false_iff_ne]; omega
        have n2 : ((lb : Int) + 1 == 0) = false := by rw [beq_eq_false_iff_ne]; omega
        by_cases hxy : x = y
        · subst hxy
          rw [if_pos rfl]
          clear H2 H3 K2 K3
          go_enter Tryd.func9, Tryd.ntmps9
          go_upto_region 3 with fail
          go_region
          go_upto_region 4 with fail
          have bd := (Below.refl w.heap.size w).drew.drew
          go_region_held3 (fun w' => w'.cell? ⟨vb, vo, none⟩ = some (.int .i64 x))
            (go_keep)
            ((go_at_call 9; (with_reducible refine (H1.out _ ?_).mono ?_); (exact bd); rintro e w5 ⟨rfl, b5⟩; have x5 := ((below_then bd b5).cell (p := ⟨vb, vo, none⟩) hlt).trans hc))
          go_wp2
          go_ret
          exact ⟨rfl, below_then bd b5⟩
        · rw [if_neg hxy]
          clear H1
          have hW : IntKind.i64.wrap (1 + min (r2 : Int) (r3 : Int)) = 1 + min (r2 : Int) (r3 : Int) := by
            obtain ⟨z, hz⟩ : ∃ z, (1 + min (r2 : Int) (r3 : Int)) = z := ⟨_, rfl⟩
            rw [hz]
            have : (0 : Int) ≤ z ∧ z ≤ 35184372088833 := by omega
            exact Go.IntWalk.i64_in _ ⟨by omega, by omega⟩
          have hb : (x == y) = false := by rw [beq_eq_false_iff_ne]; exact hxy
          go_enter Tryd.func9, Tryd.ntmps9
          go_upto_region 3 with fail
          go_region
          go_upto_region 5 with fail
          have bd := (Below.refl w.heap.size w).drew.drew
          go_region_held3 (fun w' => w'.cell? ⟨vb, vo, none⟩ = some (.int .i64 x))
            (go_keep)
            (first
              | (go_at_call 9; (with_reducible refine (H2.out _ ?_).mono ?_); (first | exact bd | exact b6'); rintro e w5 ⟨rfl, b5⟩; have b5' := (by first | exact below_then bd b5 | exact below_then b6' b5 : Below w.heap.size w w5); have x5 := (b5'.cell (p := ⟨vb, vo, none⟩) hlt).trans hc)
              | (go_at_call 9; (with_reducible refine (H3.out _ ?_).mono ?_); (first | exact bd | exact b5'); rintro e w6 ⟨rfl, b6⟩; have b6' := (by first | exact below_then bd b6 | exact below_then b5' b6 : Below w.heap.size w w6); have x6 := (b6'.cell (p := ⟨vb, vo, none⟩) hlt).trans hc))
          all_goals go_wp2
          all_goals go_ret
          all_goals refine ⟨?_, by first | exact b6' | exact b5'⟩
          all_goals rw [show ((1 + min r2 r3 : Nat) : Int) = 1 + min (r2 : Int) (r3 : Int) by omega]
          all_goals rfl

end Go.Proofs.YtakgppoeikcepaaDoor
