/- The document's own answers for choices: whether they are free. (Made by tools/gen_nfree.py.) -/
import Derived.Test.YtgedpebnipghlaaChoiceRef1
import Derived.Deep.RegionHeld3
namespace Go.Proofs.Ytgedpebnipghlaa
open Go.RowKit
set_option linter.unusedVariables false
set_option linter.unusedSimpArgs false
set_option maxRecDepth 4000

/-- Of the first so many, and of one more with so many, all who share a place share all. -/
def FreeTo (n : NetL) (i j : Nat) : Prop := ∀ a b, (a < i ∧ b < n.trans.length) ∨ (a = i ∧ b < j) → Shares n a b → (tranAt n.trans a).pre = (tranAt n.trans b).pre
theorem freeTo_step {n : NetL} {i j : Nat} (h : FreeTo n i j) (hn : Shares n i j → (tranAt n.trans i).pre = (tranAt n.trans j).pre) : FreeTo n i (j + 1) := by
  rintro a b (⟨h1, h2⟩ | ⟨rfl, h2⟩) hs
  · exact h a b (.inl ⟨h1, h2⟩) hs
  · rcases Nat.lt_or_ge b j with h3 | h3
    · exact h a b (.inr ⟨rfl, h3⟩) hs
    · obtain rfl : b = j := by omega
      exact hn hs
theorem freeTo_row {n : NetL} {i : Nat} (h : FreeTo n i n.trans.length) : FreeTo n (i + 1) 0 := by
  rintro a b (⟨h1, h2⟩ | ⟨_, h2⟩) hs
  · rcases Nat.lt_or_ge a i with h3 | h3
    · exact h a b (.inl ⟨h3, h2⟩) hs
    · obtain rfl : a = i := by omega
      exact h a b (.inr ⟨rfl, h2⟩) hs
  · omega

set_option maxHeartbeats 4000000 in
theorem nfree_any (v : Value) (n : NetL) (w : World) (hv : Net w v n) (hsm : SmallNet n) :
    Calls Try.prog 9 #[v] w fun e w' => ∃ b, e = .returned (.bool b) ∧ (b = true ↔ FreeN n) ∧ Below w.heap.size w w' := by
  obtain ⟨tv, rfl, hT⟩ := hv
  have c := below_new w (.cells #[.int .i64 n.places, tv] 24)
  have hbx := box2_new w (.int .i64 n.places) tv 24
  have hv : Net _ (.agg #[.int .i64 n.places, tv]) n := ⟨_, rfl, hT.below c⟩
  clear hT
  go_enter Try.func9, Try.ntmps9
  go_wp2_with fail
  refine (bwrong_any _ n _ (by exact hv) hsm).mono ?_
  rintro e w1 ⟨rfl, b1⟩
  replace c := below_then c b1
  replace hbx := hbx.below b1
  replace hv := hv.below b1
  clear b1
  cases hn : netOk n
  · rw [wrongL_not hn]
    have R : Hid (¬ FreeN n) := fun h => by rw [h.1] at hn; cases hn
    clear hn
    go_wp2
    go_ret
    exact ⟨false, rfl, ⟨fun h => (by cases h), fun h => absurd h R.out⟩, c⟩
  · rw [wrongL_ok hn]
    have Hn : Hid (netOk n = true) := hn
    obtain ⟨tv', e, hT⟩ := id hv
    obtain rfl : tv = tv' := by injection e with e; simp at e; exact e
    clear e hn
    obtain ⟨a, len, cap, rfl, hlen, hmx, hsh, _⟩ := id hT
    have hcap : len ≤ cap := hsh.1
    have hcap2 : cap ≤ 9223372036854775807 := hsh.2.1
    have Hlen : Hid (n.trans.length = len) := hlen
    have HD : Hid (FreeTo n len 0 → FreeN n) := fun h => ⟨Hn.out, fun i j hi hj hs => h i j (.inl ⟨by rw [← Hlen.out]; exact hi, hj⟩) hs⟩
    clear hsh hlen
    obtain ⟨B, HB⟩ : ∃ B, Hid (w.heap.size = B) := ⟨_, rfl⟩
    rw [HB.out] at hbx
    rw [HB.out]
    obtain ⟨x0, x1, x2⟩ := id hbx
    go_wp2_with fail
    clear x0 x1 x2
    go_loopg [11] len (fun gk i' wr => ∃ i : Nat, i + gk = len ∧ i' = .int .i64 (i : Int) ∧ Hid (FreeTo n i 0) ∧ Below w1.heap.size w1 wr)
    case atStart => exact ⟨0, by omega, rfl, fun a b h => (by omega), Below.refl _ _⟩
    case round =>
      obtain ⟨i, hig, rfl, HF, hb0⟩ := hrel
      obtain ⟨g1, rfl⟩ : ∃ g1, g1 = gk := ⟨_, rfl⟩
      by_cases hin : i < len
      · obtain ⟨x0, x1, x2⟩ := hbx.below hb0
        go_wp2_with fail
        clear x0 x1 x2
        obtain ⟨W0, HW0⟩ : ∃ W0, Hid (wr = W0) := ⟨_, rfl⟩
        rw [HW0.out] at hb0
        rw [HW0.out]
        clear HW0
        go_loopg [17] len (fun gk j' wr => ∃ j : Nat, j + gk = len ∧ j' = .int .i64 (j : Int) ∧ Hid (FreeTo n i j) ∧ Below w1.heap.size w1 wr)
        case atStart => exact ⟨0, by omega, rfl, HF, hb0⟩
        case round =>
          clear HF hb0
          obtain ⟨j, hjg, rfl, HF, hb⟩ := hrel
          by_cases hjn : j < len
          · obtain ⟨bt, ot, p1, q1, rfl, hlt, h0, h1, h2, iX, _⟩ := (hT.below hb).at hin
            obtain ⟨bt', ot', p2, q2, e, _, g0, g1', g2, iY, _⟩ := (hT.below hb).at hjn
            injection e with e
            injection e with e1 e2
            subst e1 e2
            obtain ⟨aX, lX, cX, rfl⟩ : ∃ a l c, p1 = .slice a l c := by obtain ⟨a, l, c, e, _⟩ := iX; exact ⟨a, l, c, e⟩
            obtain ⟨aY, lY, cY, rfl⟩ : ∃ a l c, p2 = .slice a l c := by obtain ⟨a, l, c, e, _⟩ := iY; exact ⟨a, l, c, e⟩
            have hi : i < n.trans.length := by rw [Hlen.out]; exact hin
            have hj : j < n.trans.length := by rw [Hlen.out]; exact hjn
            have HSk : Hid ((Shares n i j → (tranAt n.trans i).pre = (tranAt n.trans j).pre) → FreeTo n i (j + 1)) := freeTo_step HF.out
            have HY : Hid (Shares n i j → ¬ (tranAt n.trans i).pre = (tranAt n.trans j).pre → ¬ FreeN n) := fun h1 h2 h3 => h2 (h3.2 i j hi hj h1)
            have hbw := hbx.below hb
            have HSall : Hid (∀ w', Below wr.heap.size wr w' → w'.cell? ⟨B, 0, none⟩ = some (.int .i64 n.places) ∧ w'.cell? ⟨B, 1, none⟩ = some (.slice (some ⟨bt, ot, none⟩) len cap) ∧ w'.cell? ⟨bt, ot + i * 3 + 1, none⟩ = some (.slice aX lX cX) ∧ w'.cell? ⟨bt, ot + j * 3 + 1, none⟩ = some (.slice aY lY cY)) := fun w' h => by
              obtain ⟨y0, y1, y2⟩ := hbw.below h
              exact ⟨y1, y2, (h.cell (p := ⟨bt, _, none⟩) hlt).trans h1, (h.cell (p := ⟨bt, _, none⟩) hlt).trans g1'⟩
            clear HF h0 h1 h2 g0 g1' g2 hbw
            go_upto_region 9 with fail
            refine wp_region_held_drew (S := (fun w' => w'.cell? ⟨B, 0, none⟩ = some (.int .i64 n.places) ∧ w'.cell? ⟨B, 1, none⟩ = some (.slice (some ⟨bt, ot, none⟩) len cap) ∧ w'.cell? ⟨bt, ot + i * 3 + 1, none⟩ = some (.slice aX lX cX) ∧ w'.cell? ⟨bt, ot + j * 3 + 1, none⟩ = some (.slice aY lY cY))) (by kernel_rfl) (HSall.out _ (Below.refl _ _).drew) (fun hH => ?_)
            refine wpAnyH_take (i := 0) (v := .agg #[.int .i64 n.places, .slice (some ⟨bt, ot, none⟩) len cap]) rfl (by kernel_rfl) (by kernel_rfl) (by kernel_rfl) (fun _ _ _ h => h) (.inl ⟨by rfl, fun w' hS' => by obtain ⟨s1, s2, s3, s4⟩ := hS'; go_simp⟩) hH ?_
            simp only [List.getElem_toArray, List.getElem_cons_succ, List.getElem_cons_zero, Act.put, List.setIfInBounds_toArray, List.set_cons_zero, List.set_cons_succ]
            refine wpAnyH_take (i := 1) (v := .int .i64 (i : Int)) rfl (by kernel_rfl) (by kernel_rfl) (by kernel_rfl) (fun _ _ _ h => h) (.inl ⟨by rfl, fun _ _ => rfl⟩) hH ?_
            simp only [List.getElem_toArray, List.getElem_cons_succ, List.getElem_cons_zero, Act.put, List.setIfInBounds_toArray, List.set_cons_zero, List.set_cons_succ]
            refine wpAnyH_take (i := 2) (v := .int .i64 (j : Int)) rfl (by kernel_rfl) (by kernel_rfl) (by kernel_rfl) (fun _ _ _ h => h) (.inl ⟨by rfl, fun _ _ => rfl⟩) hH ?_
            simp only [List.getElem_toArray, List.getElem_cons_succ, List.getElem_cons_zero, Act.put, List.setIfInBounds_toArray, List.set_cons_zero, List.set_cons_succ]
            refine wpAnyH_ready (rs := [3]) (by kernel_rfl) (by simp) ?_
            refine AllReadyH.cons rfl (fun K hK => ?_) AllReadyH.nil
            simp only [List.getElem_toArray, List.getElem_cons_succ, List.getElem_cons_zero]
            rw [if_pos (by rfl)]
            go_wp2_with fail
            have hd : Below wr.heap.size wr wr.drew := (Below.refl _ _).drew
            refine (nshare_any _ n i j wr.drew (by exact hv.below (below_then hb hd)) Hn.out hi hj).mono ?_
            rintro e w2 ⟨b, rfl, hbs, b2⟩
            replace b2 := below_then hd b2
            refine hK.out _ _ (HSall.out _ b2) (fun hH => ?_)
            cases b
            · refine wpAnyH_take (i := 4) (v := .bool false) rfl (by kernel_rfl) (by kernel_rfl) (by kernel_rfl) (fun _ _ _ h => h) (.inl ⟨by rfl, fun _ _ => rfl⟩) hH ?_
              simp only [List.getElem_toArray, List.getElem_cons_succ, List.getElem_cons_zero, Act.put, List.setIfInBounds_toArray, List.set_cons_zero, List.set_cons_succ]
              refine wpAnyH_take (i := 5) (v := undef) rfl (by kernel_rfl) (by kernel_rfl) (by kernel_rfl) (fun _ _ _ h => h) (.inr ⟨by rfl, rfl⟩) hH ?_
              simp only [List.getElem_toArray, List.getElem_cons_succ, List.getElem_cons_zero, Act.put, List.setIfInBounds_toArray, List.set_cons_zero, List.set_cons_succ]
              refine wpAnyH_take (i := 6) (v := undef) rfl (by kernel_rfl) (by kernel_rfl) (by kernel_rfl) (fun _ _ _ h => h) (.inr ⟨by rfl, rfl⟩) hH ?_
              simp only [List.getElem_toArray, List.getElem_cons_succ, List.getElem_cons_zero, Act.put, List.setIfInBounds_toArray, List.set_cons_zero, List.set_cons_succ]
              refine wpAnyH_take (i := 7) (v := undef) rfl (by kernel_rfl) (by kernel_rfl) (by kernel_rfl) (fun _ _ _ h => h) (.inr ⟨by rfl, rfl⟩) hH ?_
              simp only [List.getElem_toArray, List.getElem_cons_succ, List.getElem_cons_zero, Act.put, List.setIfInBounds_toArray, List.set_cons_zero, List.set_cons_succ]
              refine wpAnyH_take (i := 8) (v := undef) rfl (by kernel_rfl) (by kernel_rfl) (by kernel_rfl) (fun _ _ _ h => h) (.inr ⟨by rfl, rfl⟩) hH ?_
              simp only [List.getElem_toArray, List.getElem_cons_succ, List.getElem_cons_zero, Act.put, List.setIfInBounds_toArray, List.set_cons_zero, List.set_cons_succ]
              refine wpAnyH_take (i := 9) (v := undef) rfl (by kernel_rfl) (by kernel_rfl) (by kernel_rfl) (fun _ _ _ h => h) (.inr ⟨by rfl, rfl⟩) hH ?_
              simp only [List.getElem_toArray, List.getElem_cons_succ, List.getElem_cons_zero, Act.put, List.setIfInBounds_toArray, List.set_cons_zero, List.set_cons_succ]
              refine wpAnyH_take (i := 10) (v := undef) rfl (by kernel_rfl) (by kernel_rfl) (by kernel_rfl) (fun _ _ _ h => h) (.inr ⟨by rfl, rfl⟩) hH ?_
              simp only [List.getElem_toArray, List.getElem_cons_succ, List.getElem_cons_zero, Act.put, List.setIfInBounds_toArray, List.set_cons_zero, List.set_cons_succ]
              refine wpAnyH_take (i := 11) (v := undef) rfl (by kernel_rfl) (by kernel_rfl) (by kernel_rfl) (fun _ _ _ h => h) (.inr ⟨by rfl, rfl⟩) hH ?_
              simp only [List.getElem_toArray, List.getElem_cons_succ, List.getElem_cons_zero, Act.put, List.setIfInBounds_toArray, List.set_cons_zero, List.set_cons_succ]
              refine wpAnyH_take (i := 12) (v := undef) rfl (by kernel_rfl) (by kernel_rfl) (by kernel_rfl) (fun _ _ _ h => h) (.inr ⟨by rfl, rfl⟩) hH ?_
              simp only [List.getElem_toArray, List.getElem_cons_succ, List.getElem_cons_zero, Act.put, List.setIfInBounds_toArray, List.set_cons_zero, List.set_cons_succ]
              refine wpAnyH_take (i := 13) (v := undef) rfl (by kernel_rfl) (by kernel_rfl) (by kernel_rfl) (fun _ _ _ h => h) (.inr ⟨by rfl, rfl⟩) hH ?_
              simp only [List.getElem_toArray, List.getElem_cons_succ, List.getElem_cons_zero, Act.put, List.setIfInBounds_toArray, List.set_cons_zero, List.set_cons_succ]
              refine wpAnyH_take (i := 14) (v := undef) rfl (by kernel_rfl) (by kernel_rfl) (by kernel_rfl) (fun _ _ _ h => h) (.inr ⟨by rfl, rfl⟩) hH ?_
              simp only [List.getElem_toArray, List.getElem_cons_succ, List.getElem_cons_zero, Act.put, List.setIfInBounds_toArray, List.set_cons_zero, List.set_cons_succ]
              refine wpAnyH_take (i := 15) (v := undef) rfl (by kernel_rfl) (by kernel_rfl) (by kernel_rfl) (fun _ _ _ h => h) (.inr ⟨by rfl, rfl⟩) hH ?_
              simp only [List.getElem_toArray, List.getElem_cons_succ, List.getElem_cons_zero, Act.put, List.setIfInBounds_toArray, List.set_cons_zero, List.set_cons_succ]
              refine wpAnyH_take (i := 16) (v := undef) rfl (by kernel_rfl) (by kernel_rfl) (by kernel_rfl) (fun _ _ _ h => h) (.inr ⟨by rfl, rfl⟩) hH ?_
              simp only [List.getElem_toArray, List.getElem_cons_succ, List.getElem_cons_zero, Act.put, List.setIfInBounds_toArray, List.set_cons_zero, List.set_cons_succ]
              refine wpAnyH_take (i := 17) (v := undef) rfl (by kernel_rfl) (by kernel_rfl) (by kernel_rfl) (fun _ _ _ h => h) (.inr ⟨by rfl, rfl⟩) hH ?_
              simp only [List.getElem_toArray, List.getElem_cons_succ, List.getElem_cons_zero, Act.put, List.setIfInBounds_toArray, List.set_cons_zero, List.set_cons_succ]
              refine wpAnyH_take (i := 18) (v := undef) rfl (by kernel_rfl) (by kernel_rfl) (by kernel_rfl) (fun _ _ _ h => h) (.inr ⟨by rfl, rfl⟩) hH ?_
              simp only [List.getElem_toArray, List.getElem_cons_succ, List.getElem_cons_zero, Act.put, List.setIfInBounds_toArray, List.set_cons_zero, List.set_cons_succ]
              refine wpAnyH_take (i := 19) (v := .bool false) rfl (by kernel_rfl) (by kernel_rfl) (by kernel_rfl) (fun _ _ _ h => h) (.inl ⟨by rfl, fun _ _ => rfl⟩) hH ?_
              simp only [List.getElem_toArray, List.getElem_cons_succ, List.getElem_cons_zero, Act.put, List.setIfInBounds_toArray, List.set_cons_zero, List.set_cons_succ]
              refine wpAnyH_done (by kernel_rfl) ?_ _
              have R : Hid _ := HSk.out (fun h => by have := hbs.2 h; cases this)
              have B2 := below_then hb b2
              clear hH hK hd b2 hb hbs HSk HY HSall
              go_wp2
              go_roundg (gk - 1)
              case measure => omega
              case rel => exact ⟨j + 1, by omega, by go_num, R, B2⟩
            · refine wpAnyH_take (i := 4) (v := .bool true) rfl (by kernel_rfl) (by kernel_rfl) (by kernel_rfl) (fun _ _ _ h => h) (.inl ⟨by rfl, fun _ _ => rfl⟩) hH ?_
              simp only [List.getElem_toArray, List.getElem_cons_succ, List.getElem_cons_zero, Act.put, List.setIfInBounds_toArray, List.set_cons_zero, List.set_cons_succ]
              refine wpAnyH_take (i := 5) (v := .pointer (some ⟨B, 1, none⟩)) rfl (by kernel_rfl) (by kernel_rfl) (by kernel_rfl) (fun _ _ _ h => h) (.inl ⟨by rfl, fun w' hS' => by first | (go_simp; done) | (go_simp; rfl) | (go_simp; intro h; omega) | (go_simp; omega)⟩) hH ?_
              simp only [List.getElem_toArray, List.getElem_cons_succ, List.getElem_cons_zero, Act.put, List.setIfInBounds_toArray, List.set_cons_zero, List.set_cons_succ]
              refine wpAnyH_take (i := 6) (v := .slice (some ⟨bt, ot, none⟩) len cap) rfl (by kernel_rfl) (by kernel_rfl) (by kernel_rfl) (fun _ _ _ h => h) (.inl ⟨by rfl, fun w' hS' => by obtain ⟨s1, s2, s3, s4⟩ := hS'; go_simp⟩) hH ?_
              simp only [List.getElem_toArray, List.getElem_cons_succ, List.getElem_cons_zero, Act.put, List.setIfInBounds_toArray, List.set_cons_zero, List.set_cons_succ]
              refine wpAnyH_take (i := 7) (v := .int .i64 (i : Int)) rfl (by kernel_rfl) (by kernel_rfl) (by kernel_rfl) (fun _ _ _ h => h) (.inl ⟨by rfl, fun _ _ => rfl⟩) hH ?_
              simp only [List.getElem_toArray, List.getElem_cons_succ, List.getElem_cons_zero, Act.put, List.setIfInBounds_toArray, List.set_cons_zero, List.set_cons_succ]
              refine wpAnyH_take (i := 8) (v := .pointer (some ⟨bt, ot + i * 3, none⟩)) rfl (by kernel_rfl) (by kernel_rfl) (by kernel_rfl) (fun _ _ _ h => h) (.inl ⟨by rfl, fun w' hS' => by first | (go_simp; done) | (go_simp; rfl) | (go_simp; intro h; omega) | (go_simp; omega)⟩) hH ?_
              simp only [List.getElem_toArray, List.getElem_cons_succ, List.getElem_cons_zero, Act.put, List.setIfInBounds_toArray, List.set_cons_zero, List.set_cons_succ]
              refine wpAnyH_take (i := 9) (v := .pointer (some ⟨bt, ot + i * 3 + 1, none⟩)) rfl (by kernel_rfl) (by kernel_rfl) (by kernel_rfl) (fun _ _ _ h => h) (.inl ⟨by rfl, fun w' hS' => by first | (go_simp; done) | (go_simp; rfl) | (go_simp; intro h; omega) | (go_simp; omega)⟩) hH ?_
              simp only [List.getElem_toArray, List.getElem_cons_succ, List.getElem_cons_zero, Act.put, List.setIfInBounds_toArray, List.set_cons_zero, List.set_cons_succ]
              refine wpAnyH_take (i := 10) (v := .slice aX lX cX) rfl (by kernel_rfl) (by kernel_rfl) (by kernel_rfl) (fun _ _ _ h => h) (.inl ⟨by rfl, fun w' hS' => by obtain ⟨s1, s2, s3, s4⟩ := hS'; go_simp⟩) hH ?_
              simp only [List.getElem_toArray, List.getElem_cons_succ, List.getElem_cons_zero, Act.put, List.setIfInBounds_toArray, List.set_cons_zero, List.set_cons_succ]
              refine wpAnyH_take (i := 11) (v := .pointer (some ⟨B, 1, none⟩)) rfl (by kernel_rfl) (by kernel_rfl) (by kernel_rfl) (fun _ _ _ h => h) (.inl ⟨by rfl, fun w' hS' => by first | (go_simp; done) | (go_simp; rfl) | (go_simp; intro h; omega) | (go_simp; omega)⟩) hH ?_
              simp only [List.getElem_toArray, List.getElem_cons_succ, List.getElem_cons_zero, Act.put, List.setIfInBounds_toArray, List.set_cons_zero, List.set_cons_succ]
              refine wpAnyH_take (i := 12) (v := .slice (some ⟨bt, ot, none⟩) len cap) rfl (by kernel_rfl) (by kernel_rfl) (by kernel_rfl) (fun _ _ _ h => h) (.inl ⟨by rfl, fun w' hS' => by obtain ⟨s1, s2, s3, s4⟩ := hS'; go_simp⟩) hH ?_
              simp only [List.getElem_toArray, List.getElem_cons_succ, List.getElem_cons_zero, Act.put, List.setIfInBounds_toArray, List.set_cons_zero, List.set_cons_succ]
              refine wpAnyH_take (i := 13) (v := .int .i64 (j : Int)) rfl (by kernel_rfl) (by kernel_rfl) (by kernel_rfl) (fun _ _ _ h => h) (.inl ⟨by rfl, fun _ _ => rfl⟩) hH ?_
              simp only [List.getElem_toArray, List.getElem_cons_succ, List.getElem_cons_zero, Act.put, List.setIfInBounds_toArray, List.set_cons_zero, List.set_cons_succ]
              refine wpAnyH_take (i := 14) (v := .pointer (some ⟨bt, ot + j * 3, none⟩)) rfl (by kernel_rfl) (by kernel_rfl) (by kernel_rfl) (fun _ _ _ h => h) (.inl ⟨by rfl, fun w' hS' => by first | (go_simp; done) | (go_simp; rfl) | (go_simp; intro h; omega) | (go_simp; omega)⟩) hH ?_
              simp only [List.getElem_toArray, List.getElem_cons_succ, List.getElem_cons_zero, Act.put, List.setIfInBounds_toArray, List.set_cons_zero, List.set_cons_succ]
              refine wpAnyH_take (i := 15) (v := .pointer (some ⟨bt, ot + j * 3 + 1, none⟩)) rfl (by kernel_rfl) (by kernel_rfl) (by kernel_rfl) (fun _ _ _ h => h) (.inl ⟨by rfl, fun w' hS' => by first | (go_simp; done) | (go_simp; rfl) | (go_simp; intro h; omega) | (go_simp; omega)⟩) hH ?_
              simp only [List.getElem_toArray, List.getElem_cons_succ, List.getElem_cons_zero, Act.put, List.setIfInBounds_toArray, List.set_cons_zero, List.set_cons_succ]
              refine wpAnyH_take (i := 16) (v := .slice aY lY cY) rfl (by kernel_rfl) (by kernel_rfl) (by kernel_rfl) (fun _ _ _ h => h) (.inl ⟨by rfl, fun w' hS' => by obtain ⟨s1, s2, s3, s4⟩ := hS'; go_simp⟩) hH ?_
              simp only [List.getElem_toArray, List.getElem_cons_succ, List.getElem_cons_zero, Act.put, List.setIfInBounds_toArray, List.set_cons_zero, List.set_cons_succ]
              refine wpAnyH_ready (rs := [17]) (by kernel_rfl) (by simp) ?_
              refine AllReadyH.cons rfl (fun K hK => ?_) AllReadyH.nil
              simp only [List.getElem_toArray, List.getElem_cons_succ, List.getElem_cons_zero]
              rw [if_pos (by rfl)]
              go_wp2_with fail
              refine (equal_b _ _ _ _ w2 (iX.below b2) (iY.below b2)).mono ?_
              rintro e w3 ⟨rfl, b3⟩
              replace b3 := below_then b2 b3
              have hsh : Shares n i j := hbs.1 (by first | rfl | trivial)
              refine hK.out _ _ (HSall.out _ b3) (fun hH => ?_)
              cases he : ((tranAt n.trans i).pre == (tranAt n.trans j).pre)
              · refine wpAnyH_take (i := 18) (v := .bool true) rfl (by kernel_rfl) (by kernel_rfl) (by kernel_rfl) (fun _ _ _ h => h) (.inl ⟨by rfl, fun _ _ => rfl⟩) hH ?_
                simp only [List.getElem_toArray, List.getElem_cons_succ, List.getElem_cons_zero, Act.put, List.setIfInBounds_toArray, List.set_cons_zero, List.set_cons_succ]
                refine wpAnyH_take (i := 19) (v := .bool true) rfl (by kernel_rfl) (by kernel_rfl) (by kernel_rfl) (fun _ _ _ h => h) (.inl ⟨by rfl, fun _ _ => rfl⟩) hH ?_
                simp only [List.getElem_toArray, List.getElem_cons_succ, List.getElem_cons_zero, Act.put, List.setIfInBounds_toArray, List.set_cons_zero, List.set_cons_succ]
                refine wpAnyH_done (by kernel_rfl) ?_ _
                have R : Hid (¬ FreeN n) := HY.out hsh (by simpa using he)
                have B2 := below_then c (below_then hb b3)
                clear hH hK hd b2 b3 hb hbs HSk HY HSall he
                go_wp2
                go_ret
                exact ⟨false, rfl, ⟨fun h => (by cases h), fun h => absurd h R.out⟩, B2⟩
              · refine wpAnyH_take (i := 18) (v := .bool false) rfl (by kernel_rfl) (by kernel_rfl) (by kernel_rfl) (fun _ _ _ h => h) (.inl ⟨by rfl, fun _ _ => rfl⟩) hH ?_
                simp only [List.getElem_toArray, List.getElem_cons_succ, List.getElem_cons_zero, Act.put, List.setIfInBounds_toArray, List.set_cons_zero, List.set_cons_succ]
                refine wpAnyH_take (i := 19) (v := .bool false) rfl (by kernel_rfl) (by kernel_rfl) (by kernel_rfl) (fun _ _ _ h => h) (.inl ⟨by rfl, fun _ _ => rfl⟩) hH ?_
                simp only [List.getElem_toArray, List.getElem_cons_succ, List.getElem_cons_zero, Act.put, List.setIfInBounds_toArray, List.set_cons_zero, List.set_cons_succ]
                refine wpAnyH_done (by kernel_rfl) ?_ _
                have R : Hid _ := HSk.out (fun _ => by simpa using he)
                have B2 := below_then hb b3
                clear hH hK hd b2 b3 hb hbs HSk HY HSall he
                go_wp2
                go_roundg (gk - 1)
                case measure => omega
                case rel => exact ⟨j + 1, by omega, by go_num, R, B2⟩
          · obtain rfl : j = len := by omega
            have R : Hid (FreeTo n (i + 1) 0) := freeTo_row (by rw [Hlen.out]; exact HF.out)
            clear HF
            go_wp2
            go_roundg (g1 - 1)
            case measure => omega
            case rel => exact ⟨i + 1, by omega, by go_num, R, hb⟩
      · obtain rfl : i = len := by omega
        have R : Hid (FreeN n) := HD.out HF.out
        have B2 := below_then c hb0
        clear HF HD hb0
        go_wp2
        go_ret
        exact ⟨true, rfl, ⟨fun _ => R.out, fun _ => rfl⟩, B2⟩

end Go.Proofs.Ytgedpebnipghlaa
