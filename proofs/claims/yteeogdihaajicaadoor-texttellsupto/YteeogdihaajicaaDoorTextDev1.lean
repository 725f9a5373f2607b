/- Package text: numbers and weights. -/
import Derived.Test.YteeogdihaajicaaDoorStrBase
namespace Go.Proofs.YteeogdihaajicaaDoor
open Go.RowKit
set_option linter.unusedVariables false
set_option linter.unusedSimpArgs false
set_option maxRecDepth 4000

def NumOut (d : Bytes) (least most : Int) (e : Ending) : Prop := ∃ x ok, e = .returned (.tuple #[.int .i64 x, .bool ok]) ∧ NumIs d least most x ok
theorem numOut_yes {d : Bytes} {least most x : Int} (h : NumIs d least most x true) : NumOut d least most (.returned (.tuple #[.int .i64 x, .bool true])) := ⟨x, true, rfl, h⟩
theorem numOut_no {d : Bytes} {least most : Int} (h : NumIs d least most 0 false) : NumOut d least most (.returned (.tuple #[.int .i64 0, .bool false])) := ⟨0, false, rfl, h⟩
set_option maxHeartbeats 2000000 in
theorem number_any (d : Bytes) (least most : Int) (w : World) (h0 : 0 ≤ least) (h1 : most < 100) (hl : least ≤ 100) (h2 : -1 ≤ most) :
    Calls Tryd.prog 43 #[.string (bs d), .int .i64 least, .int .i64 most] w fun e w' => NumOut d least most e ∧ w' = w := by
  go_enter Tryd.func43, Tryd.ntmps43
  go_wp2_with fail
  go_loopg [8] (200 - least).toNat (fun gk i' wr => ∃ x : Int, (gk : Int) = 200 - x ∧ least ≤ x ∧ x ≤ 101 ∧ i' = .int .i64 x ∧ wr = w ∧ ∀ y, least ≤ y → y < x → Lib.itoa y ≠ d)
  case atStart => exact ⟨least, by omega, by omega, by omega, rfl, rfl, fun y h3 h4 => by omega⟩
  case round =>
    obtain ⟨x, hg, hx, hx2, rfl, rfl, hno⟩ := hrel
    by_cases hm : x ≤ most
    · have n1 : decide (x ≤ most) = true := by rw [decide_eq_true_eq]; exact hm
      have hI := itoa_small x wr (by omega) (by omega)
      by_cases hd : Lib.itoa x = d
      · have n2 := bs_yes hd
        have R : Hid (NumIs d least most x true) := .inl ⟨rfl, hx, hm, hd⟩
        go_wp2_with (go_at_call 17; refine hI.mono ?_; rintro e w' ⟨rfl, rfl⟩)
        go_ret2
        exact ⟨numOut_yes R.out, rfl⟩
      · have n2 := bs_no hd
        have R : Hid (∀ y, least ≤ y → y < x + 1 → Lib.itoa y ≠ d) := fun y h3 h4 e => by
          by_cases q : y = x
          · subst q; exact hd e
          · exact hno y h3 (by omega) e
        go_wp2_with (go_at_call 17; refine hI.mono ?_; rintro e w' ⟨rfl, rfl⟩)
        go_roundg (gk - 1)
        case measure => omega
        case rel => exact ⟨x + 1, by omega, by omega, by omega, rfl, rfl, R.out⟩
    · have n1 : decide (x ≤ most) = false := by rw [decide_eq_false_iff_not]; exact hm
      have R : Hid (NumIs d least most 0 false) := .inr ⟨rfl, rfl, fun y h3 h4 => hno y h3 (by omega)⟩
      go_wp2
      go_ret2
      exact ⟨numOut_no R.out, rfl⟩

def WeightOut (s : Bytes) (least P : Nat) (e : Ending) : Prop := ∃ p w ok, e = .returned (.tuple #[.int .i64 p, .int .i64 w, .bool ok]) ∧ WeightIs s least P p w ok
set_option maxHeartbeats 2000000 in
theorem weight_any (s : Bytes) (least P : Nat) (w : World) (hv : VarM w) (hs : s.length < 4294967281) (hP : P ≤ 16) (hl : least ≤ P) :
    Calls Tryd.prog 54 #[.string (bs s), .int .i64 least, .int .i64 P] w fun e w' => WeightOut s least P e ∧ Below w.heap.size w w' := by
  go_enter Tryd.func54, Tryd.ntmps54
  have hC := cut_any s [42] ⟨#[42]⟩ w rfl hv hs
  have wP : IntKind.i64.wrap ((P : Int) - 1) = (P : Int) - 1 := Go.IntWalk.i64_in _ ⟨by omega, by omega⟩
  rcases cut_one s 42 with ⟨a, r, e1, h42, e2⟩ | ⟨h42, e2⟩
  · rw [e2] at hC
    simp only at hC
    have E1 : Hid (s = a ++ 42 :: r) := e1
    clear e1 e2 hv hs
    have hN := fun w => number_any a 2 9 w (by omega) (by omega) (by omega) (by omega)
    have hM := fun w => number_any r least ((P : Int) - 1) w (by omega) (by omega) (by omega) (by omega)
    go_upto_region 2 with (go_at_call 21; refine hC.mono ?_; rintro e w1 ⟨rfl, b1⟩)
    clear hC
    go_upto_region 6 with (go_at_call 43; refine (hN _).mono ?_; rintro e w2 ⟨⟨y, ok, rfl, hn⟩, rfl⟩)
    cases ok
    · have R : Hid (WeightIs s least P 0 0 false) := weight_bad E1.out h42 (by rcases hn with ⟨h, _⟩ | h; cases h; exact .inr h)
      clear hn
      go_wp2
      go_ret3
      exact ⟨⟨0, 0, false, rfl, R.out⟩, b1⟩
    · have hn' : Hid (NumIs a 2 9 y true) := hn
      clear hn
      go_wp2_with (go_at_call 43; refine (hM _).mono ?_; rintro e w3 ⟨⟨p, ok2, rfl, hn⟩, rfl⟩)
      go_ret3
      exact ⟨⟨p, y, ok2, rfl, weight_good E1.out h42 hn'.out hn⟩, b1⟩
  · rw [e2] at hC
    simp only at hC
    clear e2 hv hs
    have hN := fun w => number_any s least ((P : Int) - 1) w (by omega) (by omega) (by omega) (by omega)
    go_upto_region 2 with (go_at_call 21; refine hC.mono ?_; rintro e w1 ⟨rfl, b1⟩)
    clear hC
    go_wp2_with (go_at_call 43; refine (hN _).mono ?_; rintro e w2 ⟨⟨y, ok, rfl, hn⟩, rfl⟩)
    go_ret3
    exact ⟨⟨y, 1, ok, rfl, weight_plain h42 hn⟩, b1⟩

end Go.Proofs.YteeogdihaajicaaDoor
