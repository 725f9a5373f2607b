/- AlignBest: no word is nearer. -/
import Derived.Test.YtakgppoeikcepaaDoorGr31
import Derived.Test.YtakgppoeikcepaaDoorGr29
import Derived.Test.YtakgppoeikcepaaDoorApartAny
import Derived.Test.YtakgppoeikcepaaDoorGr32
namespace Go.Proofs.YtakgppoeikcepaaDoor
open Go.RowKit
set_option linter.unusedVariables false
set_option linter.unusedSimpArgs false
set_option maxRecDepth 4000

theorem best_plain {n : NetL} {i o : Int} {tr : List Int} {ms : List MoveL} {l : List (List Int)} {X : Nat} (h : AlignAns n i o tr ms (X : Int) 0) (k : WordsAns n i o 8 l 0) :
    (∀ w ∈ l, X ≤ apartL tr w) ∧ (tr.length + X ≤ 8 → ∃ w ∈ l, apartL tr w ≤ X) ∧ l.length ≤ 400 := by
  obtain ⟨h0, _, s, e, hs, hw, h1, h2, h3, h4, h5⟩ := h.zero
  obtain ⟨d0, k1, k2, k3⟩ := k.ex
  obtain rfl := k1.unique h0
  have hword := word_end hs hw h1 h2
  rcases (k3 rfl).2 ⟨by omega, by omega⟩ with ⟨_, _, q⟩ | ⟨q1, _, _, hmem⟩
  · omega
  · have hX : costM ms = X := by omega
    refine ⟨fun w hwl => ?_, fun hle => ?_, q1⟩
    · have hwi := ((hmem w).1 hwl).1
      obtain ⟨xs, x1, x2⟩ := (ed_of_apart _ tr w (Nat.le_refl _)).lay (tr := tr) (Nat.zero_le _) (by simp) ((hword w).1 hwi)
      have := h5.2 xs x1
      omega
    · obtain ⟨w, g1, g2⟩ := h3.ed rfl
      simp only [List.drop_zero] at g2
      have hl := g2.len
      refine ⟨w, (hmem w).2 ⟨(hword w).2 g1, by omega⟩, ?_⟩
      have := g2.least
      omega

/-- The least so far. -/
def BestTo (tr : List Int) (l : List (List Int)) (k : Nat) (b : Int) : Prop := (k = 0 ∧ b = -1) ∨ ∃ d : Nat, b = (d : Int) ∧ (∃ w ∈ l.take k, d = apartL tr w) ∧ ∀ w ∈ l.take k, d ≤ apartL tr w
theorem BestTo.next {tr : List Int} {l : List (List Int)} {k : Nat} {b : Int} (h : BestTo tr l k b) (hk : k < l.length) : BestTo tr l (k + 1) (if b < 0 ∨ (apartL tr (markAt l k) : Int) < b then (apartL tr (markAt l k) : Int) else b) := by
  have ht : l.take (k + 1) = l.take k ++ [markAt l k] := by
    rw [List.take_add_one, List.getElem?_eq_getElem hk]
    unfold markAt
    rw [List.getD_eq_getElem?_getD, List.getElem?_eq_getElem hk]
    rfl
  rcases h with ⟨rfl, rfl⟩ | ⟨d, rfl, ⟨w, hw, hd⟩, hall⟩
  · rw [if_pos (by omega)]
    refine .inr ⟨_, rfl, ⟨markAt l 0, by rw [ht]; simp, rfl⟩, fun w hw => ?_⟩
    rw [ht] at hw
    simp only [List.take_zero, List.nil_append, List.mem_singleton] at hw
    rw [hw]
    exact Nat.le_refl _
  · by_cases q : (apartL tr (markAt l k) : Int) < (d : Int)
    · rw [if_pos (.inr q)]
      refine .inr ⟨_, rfl, ⟨markAt l k, by rw [ht]; simp, rfl⟩, fun u hu => ?_⟩
      rw [ht] at hu
      rcases List.mem_append.1 hu with hu | hu
      · have := hall u hu; omega
      · simp only [List.mem_singleton] at hu; rw [hu]; exact Nat.le_refl _
    · rw [if_neg (by omega)]
      refine .inr ⟨d, rfl, ⟨w, by rw [ht]; exact List.mem_append_left _ hw, hd⟩, fun u hu => ?_⟩
      rw [ht] at hu
      rcases List.mem_append.1 hu with hu | hu
      · exact hall u hu
      · simp only [List.mem_singleton] at hu; rw [hu]; omega
/-- What it comes to. -/
theorem best_end {n : NetL} {i o : Int} {tr : List Int} {ms : List MoveL} {l : List (List Int)} {X : Nat} {b : Int} (h : AlignAns n i o tr ms (X : Int) 0) (k : WordsAns n i o 8 l 0) (hb : BestTo tr l l.length b) :
    b = -1 ∨ ∃ d : Nat, b = (d : Int) ∧ X ≤ d ∧ (X = d ∨ 8 < tr.length + X) := by
  obtain ⟨h1, h2, _⟩ := best_plain h k
  rcases hb with ⟨_, rfl⟩ | ⟨d, rfl, ⟨w, hw, hd⟩, hall⟩
  · exact .inl rfl
  · rw [List.take_of_length_le (Nat.le_refl _)] at hw hall
    refine .inr ⟨d, rfl, ?_, ?_⟩
    · rw [hd]; exact h1 w hw
    · by_cases q : tr.length + X ≤ 8
      · obtain ⟨u, hu, hle⟩ := h2 q
        have := hall u hu
        have := h1 w hw
        exact .inl (by omega)
      · exact .inr (by omega)

set_option maxHeartbeats 4000000 in
theorem alignBest_walk (v0 v3 : Value) (x0 : NetL) (x1 x2 : Int) (x3 : List Int) (W : World) (i0 : Net W v0 x0) (i3 : Ints W v3 x3) (hTab : Tab W) :
    Calls Tryd.prog 4 #[v0, .int .i64 x1, .int .i64 x2, v3] W fun e W' => e = .returned (.bool true) ∧ Below W.heap.size W W' := by
  obtain ⟨tv, rfl, hT⟩ := id i0
  obtain ⟨na, nl, nc, rfl, _⟩ := id hT
  obtain ⟨ta, tl, tc, rfl, htl, htm, _⟩ := id i3
  have Htl : Hid (x3.length = tl) := htl
  clear htl hT
  have hbx := box2_new W (.int .i64 x0.places) (.slice na nl nc) 24
  have c := below_new W (.cells #[.int .i64 x0.places, .slice na nl nc] 24)
  obtain ⟨w0, H0⟩ : ∃ u, Hid (W.alloc (.cells #[.int .i64 x0.places, .slice na nl nc] 24) = u) := ⟨_, rfl⟩
  rw [H0.out] at hbx c
  obtain ⟨NB, HNB⟩ : ∃ z, Hid (W.heap.size = z) := ⟨_, rfl⟩
  have Hc : Hid (Below W.heap.size W w0) := c
  rw [HNB.out] at hbx
  clear c
  go_enter Tryd.func4, Tryd.ntmps4
  go_upto_region 1 with fail
  rw [H0.out, HNB.out]
  go_upto_region 3 with (go_at_call 5; refine (alive21_any _).mono ?_; rintro e w1 ⟨rfl, b⟩)
  have c1 := below_then Hc.out b
  have hbx1 := hbx.below b
  obtain ⟨_, y0, y1⟩ := id hbx1
  have hC := align_any (i := x1) (o := x2) (i0.below c1) (i3.below c1)
  unfold alignGoes at hC
  clear b hbx
  go_upto_region 4 with (go_at_call 6; refine hC.mono ?_; rintro e w2 ⟨r1, ms, ca, ea, rfl, hA, hM, b⟩; obtain ⟨ra, rc, rfl⟩ := hM.slice)
  have c2 := below_then c1 b
  have hbx2 := hbx1.below b
  clear hC b hbx1 c1 y0 y1 hM
  obtain ⟨_, y0, y1⟩ := id hbx2
  by_cases he : ea = 0
  · subst he
    obtain ⟨X, rfl, _⟩ := hA.small
    by_cases h6 : 6 < tl
    · have n1 : decide ((tl : Int) > 6) = true := by rw [decide_eq_true_eq]; omega
      clear hA
      go_wp2
      go_ret
      exact ⟨rfl, c2⟩
    · have n1 : decide ((tl : Int) > 6) = false := by rw [decide_eq_false_iff_not]; omega
      have hC := tongue_words _ x0 x1 x2 8 w2 (i0.below c2) (hTab.below c2)
      go_upto_region 7 with (go_at_call 8; refine hC.mono ?_; rintro e w3 ⟨r, l, fa, rfl, ⟨hl, hWd⟩, b⟩)
      have c3 := below_then c2 b
      clear hC b hbx2 c2 y0 y1
      by_cases hf : fa = 0
      · subst hf
        obtain ⟨la, lc, rfl, _, _⟩ := hl.slice
        have HA : Hid (∀ b, BestTo x3 l l.length b → b = -1 ∨ ∃ d : Nat, b = (d : Int) ∧ X ≤ d ∧ (X = d ∨ 8 < x3.length + X)) := fun b hb => best_end hA hWd hb
        obtain ⟨N, HN⟩ : ∃ N, Hid (l.length = N) := ⟨_, rfl⟩
        have hNm : N ≤ 17592186044416 := by have := HN.out; omega
        rw [HN.out] at hl HA ⊢
        have B0 : Hid (BestTo x3 l 0 (-1)) := .inl ⟨rfl, rfl⟩
        clear hA hWd
        go_wp2_with fail
        go_loopg [14, 47] N (fun gk b' i' wr => ∃ (k : Nat) (b : Int), k + gk = N ∧ i' = .int .i64 (k : Int) ∧ b' = .int .i64 b ∧ Hid (BestTo x3 l k b) ∧ Below w3.heap.size w3 wr)
        case atStart => exact ⟨0, -1, by omega, rfl, rfl, B0, Below.refl _ _⟩
        case round =>
          obtain ⟨k, bs, hkg, rfl, rfl, HB, cr⟩ := hrel
          obtain ⟨W0, rfl⟩ : ∃ z, z = wr := ⟨_, rfl⟩
          by_cases hk : k < N
          · have hlk := hl.below cr
            obtain ⟨b2, o2, uv, rfl, hlt2, c2w, iu⟩ := hlk.at hk
            have Hnx : Hid (BestTo x3 l (k + 1) (if bs < 0 ∨ (apartL x3 (markAt l k) : Int) < bs then (apartL x3 (markAt l k) : Int) else bs)) := HB.out.next (by rw [HN.out]; exact hk)
            obtain ⟨t, HT⟩ : ∃ t, Hid (markAt l k = t) := ⟨_, rfl⟩
            rw [HT.out] at iu Hnx
            obtain ⟨ua, ul, uc, rfl, _, _, _⟩ := id iu
            have hcall := apart_any _ _ _ x3 t W0 (Nat.le_refl _) ((i3.below c3).below cr) iu
            obtain ⟨d, Hd⟩ : ∃ d, Hid (apartL x3 t = d) := ⟨_, rfl⟩
            rw [Hd.out] at hcall Hnx
            clear hlk hlt2 iu
            go_upto_region 14 with (go_at_call 9; refine hcall.mono ?_; rintro e w5 ⟨rfl, b5⟩)
            have cr5 := below_then cr b5
            clear hcall b5 c2w HB
            by_cases t1 : bs < 0
            · have R : Hid (BestTo x3 l (k + 1) (d : Int)) := by have := Hnx.out; rw [if_pos (.inl t1)] at this; exact this
              have n3 : decide (bs < 0) = true := by rw [decide_eq_true_eq]; exact t1
              clear Hnx cr
              go_wp2
              go_roundg (gk - 1)
              case measure => omega
              case rel => exact ⟨k + 1, _, by omega, by go_num, rfl, R, cr5⟩
            · have n3 : decide (bs < 0) = false := by rw [decide_eq_false_iff_not]; exact t1
              by_cases t2 : (d : Int) < bs
              · have R : Hid (BestTo x3 l (k + 1) (d : Int)) := by have := Hnx.out; rw [if_pos (.inr t2)] at this; exact this
                have n4 : decide ((d : Int) < bs) = true := by rw [decide_eq_true_eq]; exact t2
                clear Hnx cr
                go_wp2
                go_roundg (gk - 1)
                case measure => omega
                case rel => exact ⟨k + 1, _, by omega, by go_num, rfl, R, cr5⟩
              · have R : Hid (BestTo x3 l (k + 1) bs) := by
                  have := Hnx.out
                  rw [if_neg (by rintro (q | q); exact t1 q; exact t2 q)] at this
                  exact this
                have n4 : decide ((d : Int) < bs) = false := by rw [decide_eq_false_iff_not]; exact t2
                clear Hnx cr
                go_wp2
                go_roundg (gk - 1)
                case measure => omega
                case rel => exact ⟨k + 1, _, by omega, by go_num, rfl, R, cr5⟩
          · obtain rfl : k = N := by omega
            have c9 := below_then c3 cr
            have HE := HA.out bs HB.out
            clear HB HA cr
            rcases HE with rfl | ⟨d, rfl, q1, q2⟩
            · go_wp2
              go_ret
              exact ⟨rfl, c9⟩
            · have n3 : decide ((d : Int) < 0) = false := by rw [decide_eq_false_iff_not]; omega
              have n5 : min (d : Int) (X : Int) = (X : Int) := by omega
              have wT : IntKind.i64.wrap (8 - (tl : Int)) = 8 - (tl : Int) := Go.IntWalk.i64_in _ ⟨by omega, by omega⟩
              by_cases q3 : X = d
              · subst q3
                go_wp2
                go_ret
                exact ⟨rfl, c9⟩
              · have n6 : ((X : Int) == (d : Int)) = false := by rw [beq_eq_false_iff_ne]; omega
                have n7 : decide ((X : Int) > 8 - (tl : Int)) = true := by rw [decide_eq_true_eq]; have := Htl.out; omega
                clear q2
                go_wp2
                go_ret
                exact ⟨rfl, c9⟩
      · have n2 : (fa == 0) = false := by rw [beq_eq_false_iff_ne]; exact hf
        clear hA hWd
        go_wp2
        go_ret
        exact ⟨rfl, c3⟩
  · have n1 : (ea == 0) = false := by rw [beq_eq_false_iff_ne]; exact he
    clear hA
    go_wp2
    go_ret
    exact ⟨rfl, c2⟩

end Go.Proofs.YtakgppoeikcepaaDoor
