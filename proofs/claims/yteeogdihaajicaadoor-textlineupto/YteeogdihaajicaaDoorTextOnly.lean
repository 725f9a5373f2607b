/- TextOnly: what is read is written as it was. -/
import Derived.Test.YteeogdihaajicaaDoorAlive15
import Derived.Test.YteeogdihaajicaaDoorStrLay3
namespace Go.Proofs.YteeogdihaajicaaDoor
open Go.RowKit
set_option linter.unusedVariables false
set_option linter.unusedSimpArgs false
set_option maxRecDepth 4000

theorem count_one (a : Bytes) (c : UInt8) (t : ByteArray) (w : World) (h : bs [c] = t) :
    Calls Tryd.prog 14 #[.string (bs a), .string t] w fun e w' => e = .returned (.int .i64 (a.count c : Nat)) ∧ w' = w := by
  subst h
  exact Any.strings_Count_one (ρ := lays138_ren) lays138 (bs a) c w
theorem lines_count : ∀ (ts : List TranL) (R : Bytes), ts.length ≤ (linesT ts ++ R).count 10
  | [], R => Nat.zero_le _
  | t :: ts, R => by
    have h := lines_count ts R
    rw [List.count_append] at h
    show _ ≤ (lineT t ++ 10 :: linesT ts ++ R).count 10
    rw [List.append_assoc, List.count_append, List.cons_append, List.count_cons_self]
    simp
    omega
theorem BadT.range {s : Bytes} {k : Int} (h : BadT s k) : 0 ≤ k ∧ k ≤ ((s.count 10 : Nat) : Int) := by
  rcases h with ⟨rfl, _⟩ | ⟨P, ts, R, h1, rfl, _, _⟩
  · omega
  · have e := h1.at_
    have := lines_count ts R
    rw [e, List.count_append, List.count_cons_self]
    omega

set_option maxHeartbeats 4000000 in
theorem textOnly_walk (x0 : Bytes) (W : World) (hs : x0.length ≤ 1048576) (hv : VarM W) :
    Calls Tryd.prog 5 #[.string (bs x0)] W fun e W' => e = .returned (.bool true) ∧ Below W.heap.size W W' := by
  go_enter Tryd.func5, Tryd.ntmps5
  go_upto_region 3 with (go_at_call 12; refine (alive15_any _ hv).mono ?_; rintro e w1 ⟨rfl, b1⟩)
  go_upto_region 4 with (go_at_call 9; refine (parse_any x0 _ (hv.below b1) (by omega)).mono ?_; rintro e w3 ⟨⟨u, m, k, f, rfl, hN, hQ⟩, b3⟩; obtain ⟨uv, rfl, hU⟩ := id hN; obtain ⟨ua, ul, uc, rfl, hul, _⟩ := id hU)
  have c3 := below_then b1 b3
  have bA := below_new w3 (.cells #[.int .i64 m.places, .slice ua ul uc] 24)
  have hby := box2_new w3 (.int .i64 m.places) (.slice ua ul uc) 24
  obtain ⟨w4, H4⟩ : ∃ u, Hid (w3.alloc (.cells #[.int .i64 m.places, .slice ua ul uc] 24) = u) := ⟨_, rfl⟩
  obtain ⟨Y, HY⟩ : ∃ z, Hid (w3.heap.size = z) := ⟨_, rfl⟩
  rw [H4.out, HY.out] at hby
  rw [H4.out] at bA
  rw [H4.out, HY.out]
  have c4 := below_then c3 bA
  have hN4 := hN.below bA
  have Hul : Hid (m.trans.length = ul) := hul
  clear hU hN bA H4 b3 hul
  obtain ⟨_, z0, z1⟩ := id hby
  rcases hQ with ⟨rfl, rfl, h1, h2⟩ | ⟨rfl, h2, h3⟩
  · have R : Hid (PrintIs m x0 0) := .inl ⟨h1, h2, rfl⟩
    clear h1 h2
    go_upto_region 7 with (go_at_call 7; refine (print_any _ m _ (by exact hN4)).mono ?_; rintro e w5 ⟨s, d, rfl, hI, b5⟩; obtain ⟨rfl, rfl⟩ := hI.one R.out)
    have c5 := below_then c4 b5
    have n1 := bs_yes (a := s) (b := s) rfl
    clear hI z0 z1 hby b5
    go_wp2
    go_ret
    exact ⟨rfl, c5⟩
  · obtain ⟨r1, r2⟩ := h3.range
    obtain ⟨C, HC⟩ : ∃ z, Hid (x0.count 10 = z) := ⟨_, rfl⟩
    rw [HC.out] at r2
    have hl0 : ul = 0 := by rw [← Hul.out, h2]; rfl
    subst hl0
    have hCn := fun w => count_one x0 10 ⟨#[10]⟩ w rfl
    rw [HC.out] at hCn
    have n1 : decide (k ≥ 0) = true := by rw [decide_eq_true_eq]; exact r1
    have n2 : decide (k ≤ (C : Int)) = true := by rw [decide_eq_true_eq]; exact r2
    clear h2 h3
    go_wp2_with (go_at_call 14; refine (hCn _).mono ?_; rintro e w5 ⟨rfl, rfl⟩)
    go_ret
    exact ⟨rfl, c4⟩

end Go.Proofs.YteeogdihaajicaaDoor
