/- Texts: that they are there at all. -/
import Derived.Test.YteeogdihaajicaaDoorTextDev4
import Derived.Test.YteeogdihaajicaaDoorTextDev5
namespace Go.Proofs.YteeogdihaajicaaDoor
open Go.RowKit
set_option linter.unusedVariables false
set_option linter.unusedSimpArgs false
set_option maxRecDepth 4000

theorem itoa_one {k : Nat} (h : k < 10) : Lib.itoa (k : Int) = [UInt8.ofNat (48 + k)] := by rw [itoa_nat, Lib.decDigits_one h]
theorem itoa_0 : Lib.itoa 0 = [48] := itoa_one (k := 0) (by omega)
theorem itoa_1 : Lib.itoa 1 = [49] := itoa_one (k := 1) (by omega)
theorem itoa_2 : Lib.itoa 2 = [50] := itoa_one (k := 2) (by omega)
theorem itoa_3 : Lib.itoa 3 = [51] := itoa_one (k := 3) (by omega)
def net15 : NetL := ⟨3, [⟨2, [1, 0, 2], [0, 1, 0]⟩, ⟨0, [0, 0, 0], [1, 0, 0]⟩]⟩
abbrev good15 : Bytes := [110, 101, 116, 32, 51, 10, 98, 32, 58, 32, 48, 32, 50, 42, 50, 32, 62, 32, 49, 10, 45, 32, 58, 32, 62, 32, 48, 10]
abbrev bad15 : Bytes := [110, 101, 116, 32, 51, 10, 98, 32, 58, 32, 48, 32, 50, 42, 50, 32, 62, 32, 51, 10]
abbrev badL15 : Bytes := [98, 32, 58, 32, 48, 32, 50, 42, 50, 32, 62, 32, 51]
theorem text_net15 : textT net15 = good15 := by
  simp [textT, firstT, linesT, lineT, sideT, oneT, tokT, letterT, net15, itoa_0, itoa_1, itoa_2, itoa_3]
theorem ok_net15 : netOk net15 = true := by decide
theorem parse_net15 : ParseIs good15 net15 0 0 := .inl ⟨rfl, rfl, ok_net15, text_net15.symm⟩
def tran15 : TranL := ⟨2, [1, 0, 2, 0], [0, 0, 0, 1]⟩
theorem text_tran15 : lineT tran15 = badL15 := by
  simp [lineT, sideT, oneT, tokT, letterT, tran15, itoa_0, itoa_2, itoa_3]
theorem ok_tran15 : TranOk 4 tran15 := (tranOk_iff 4 tran15).1 (by decide)
theorem SideOk.more {P : Nat} {l : List Int} (h : SideOk P l) : SideOk (P + 1) (l ++ [0]) := ⟨by simp [h.1], fun w hw => by
  rcases List.mem_append.1 hw with hw | hw
  · exact h.2 w hw
  · rw [List.mem_singleton.1 hw]; omega⟩
theorem side_more (l : List Int) : sideT 0 (l ++ [0]) = sideT 0 l := by
  rw [side_append, side_cons, oneT_zero]
  simp [sideT]
theorem bad_15 : BadT bad15 1 := by
  refine .inr ⟨3, [], badL15 ++ [10], ⟨by omega, (fun t ht => by cases ht), by simp, ?_⟩, rfl, by simp, .inr fun t r ht e => ?_⟩
  · simp [firstT, itoa_3, linesT]
  · obtain ⟨e1, _⟩ := part10 (by decide) (line_no10 ht) e
    have h4 : TranOk 4 ⟨t.label, t.pre ++ [0], t.post ++ [0]⟩ := ⟨ht.lab, ht.pre.more, ht.post.more⟩
    have h5 : lineT ⟨t.label, t.pre ++ [0], t.post ++ [0]⟩ = lineT tran15 := by
      rw [text_tran15, e1]
      unfold lineT
      simp only
      rw [side_more, side_more]
    have h6 := line_inj h4 ok_tran15 h5
    have h7 : t.post ++ [0] = [0, 0, 0, 1] := congrArg TranL.post h6
    have h8 := congrArg List.getLast? h7
    simp at h8
theorem parse_bad15 : ParseIs bad15 ⟨0, []⟩ 1 1 := .inr ⟨rfl, rfl, bad_15⟩

theorem parse_at (s : Bytes) (t : ByteArray) (w : World) (h : bs s = t) (hv : VarM w) (hs : s.length < 4294967281) :
    Calls Tryd.prog 9 #[.string t] w fun e w' => ParseOut s w' e ∧ Below w.heap.size w w' := by
  subst h; exact parse_any s w hv hs

set_option maxHeartbeats 4000000 in
theorem alive15_any (w : World) (hv : VarM w) :
    Calls Tryd.prog 12 #[] w fun e w' => e = .returned (.bool true) ∧ Below w.heap.size w w' := by
  have hP1 := parse_at good15 ⟨#[110, 101, 116, 32, 51, 10, 98, 32, 58, 32, 48, 32, 50, 42, 50, 32, 62, 32, 49, 10, 45, 32, 58, 32, 62, 32, 48, 10]⟩ w rfl hv (by decide)
  have hP2 := fun w' (hb : Below w.heap.size w w') => parse_at bad15 ⟨#[110, 101, 116, 32, 51, 10, 98, 32, 58, 32, 48, 32, 50, 42, 50, 32, 62, 32, 51, 10]⟩ w' rfl (hv.below hb) (by decide)
  go_enter Tryd.func12, Tryd.ntmps12
  go_upto_region 2 with (go_at_call 9; refine hP1.mono ?_; rintro e w1 ⟨⟨v, n, k, d, rfl, hN, hI⟩, b1⟩; obtain ⟨rfl, rfl, rfl⟩ := hI.one parse_net15; obtain ⟨tv, rfl, hT⟩ := id hN; obtain ⟨na, nl, nc, rfl, hnl, _⟩ := id hT)
  have hbx := box2_new w1 (.int .i64 net15.places) (.slice na nl nc) 24
  have bA := below_new w1 (.cells #[.int .i64 net15.places, .slice na nl nc] 24)
  obtain ⟨w2, H2⟩ : ∃ u, Hid (w1.alloc (.cells #[.int .i64 net15.places, .slice na nl nc] 24) = u) := ⟨_, rfl⟩
  obtain ⟨B, HB⟩ : ∃ z, Hid (w1.heap.size = z) := ⟨_, rfl⟩
  rw [H2.out, HB.out] at hbx
  rw [H2.out] at bA
  rw [H2.out, HB.out]
  replace hN := hN.below bA
  replace hT := hT.below bA
  have b2 := below_then b1 bA
  have HI1 : Hid True := trivial
  clear hP1 hI bA
  obtain ⟨_, x0, x1⟩ := id hbx
  go_upto_region 3 with (go_at_call 7; refine (print_any _ net15 _ (by exact hN)).mono ?_; rintro e w3 ⟨s, d, rfl, hI, b3⟩; obtain ⟨rfl, rfl⟩ := hI.one (.inl ⟨ok_net15, text_net15.symm, rfl⟩))
  have hbx3 := hbx.below b3
  have hT3 := hT.below b3
  have b4 := below_then b2 b3
  clear hI hbx hT hN x0 x1
  go_upto_region 4 with (go_at_call 9; refine (hP2 _ b4).mono ?_; rintro e w5 ⟨⟨v, m, k, d, rfl, hN, hI⟩, b5⟩; obtain ⟨rfl, rfl, rfl⟩ := hI.one parse_bad15; obtain ⟨tv, rfl, hTm⟩ := id hN; obtain ⟨ma, ml, mc, rfl, hml, _⟩ := id hTm)
  have bA := below_new w5 (.cells #[.int .i64 0, .slice ma ml mc] 24)
  obtain ⟨w6, H6⟩ : ∃ u, Hid (w5.alloc (.cells #[.int .i64 0, .slice ma ml mc] 24) = u) := ⟨_, rfl⟩
  rw [H6.out] at bA
  have b6 := below_then b5 bA
  have hbx6 := hbx3.below b6
  have hT6 := hT3.below b6
  have b7 := below_then b4 b6
  clear hP2 hI hN hTm hml b5 bA b6 hbx3 hT3 b4
  have hl2 : nl = 2 := hnl.symm
  subst hl2
  obtain ⟨tb, tf, c1, c2, rfl, hlt, l0, _⟩ := hT6.at (k := 0) (by omega)
  rw [show (tranAt net15.trans 0).label = 2 from rfl, Nat.zero_mul, Nat.add_zero] at l0
  obtain ⟨_, x0, x1⟩ := id hbx6
  have n1 := bs_yesL (a := good15) (b := [110, 101, 116, 32, 51, 10, 98, 32, 58, 32, 48, 32, 50, 42, 50, 32, 62, 32, 49, 10, 45, 32, 58, 32, 62, 32, 48, 10]) rfl
  clear hT6 hbx6 hnl
  rw [H6.out]
  go_wp2
  go_ret
  exact ⟨rfl, b7⟩

end Go.Proofs.YteeogdihaajicaaDoor
