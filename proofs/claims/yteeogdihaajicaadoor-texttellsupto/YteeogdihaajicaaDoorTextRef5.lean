/- The document's own texts: a side. (Made by tools/gen_textref5.py.) -/
import Derived.Test.YteeogdihaajicaaDoorTextRef4
namespace Go.Proofs.YteeogdihaajicaaDoor
open Go.RowKit
set_option linter.unusedVariables false
set_option linter.unusedSimpArgs false
set_option maxRecDepth 4000

theorem skip_yes {w' : World} {B k : Nat} {s c : Bytes} {e : Ending} (h : SkipOut w' B s k c e) (hp : ∃ r, s.drop k = c ++ r) : e = .returned (.bool true) ∧ Rd w' B s (k + c.length) := by
  rcases h with ⟨h1, _, h3⟩ | ⟨_, h2, _⟩
  · exact ⟨h1, h3⟩
  · exact absurd hp h2
theorem skip_no {w' : World} {B k : Nat} {s c : Bytes} {e : Ending} (h : SkipOut w' B s k c e) (hp : ¬ ∃ r, s.drop k = c ++ r) : e = .returned (.bool false) ∧ Rd w' B s k := by
  rcases h with ⟨_, h2, _⟩ | ⟨h1, _, h3⟩
  · exact absurd h2 hp
  · exact ⟨h1, h3⟩

def SideOutR (w w' : World) (B : Nat) (s : Bytes) (k P : Nat) (e : Ending) : Prop :=
  (∃ a m c l j, e = .returned (.tuple #[.slice a m c, .bool true]) ∧ SideOk P l ∧ s.drop k = sideT 0 l ++ s.drop j ∧ (∀ l' R', SideOk P l' → StopT R' → s.drop k = sideT 0 l' ++ R' → l' = l ∧ R' = s.drop j) ∧ Rd w' B s j ∧ On (fun q => w.heap.size ≤ q) w' (fun w2 => Ints w2 (.slice a m c) l)) ∨
    (e = .returned (.tuple #[.slice none 0 0, .bool false]) ∧ (∀ l R', SideOk P l → StopT R' → s.drop k ≠ sideT 0 l ++ R') ∧ ∃ j, Rd w' B s j)
theorem side_good {w w' : World} {B Br k P j least : Nat} {s : Bytes} {out : List Int} (hS : Side P (s.drop k) out least (s.drop j)) (hR : ¬ HeadIs (· = 32) (s.drop j) ∨ ∃ r, s.drop j = 32 :: 62 :: r) (hRd : Rd w' B s j) (hZ : RowZ Br w' P (nth out)) (hP : P ≤ 16) (hB : w.heap.size ≤ Br) :
    SideOutR w w' B s k P (.returned (.tuple #[.slice (some ⟨Br, 0, none⟩) P P, .bool true])) :=
  .inl ⟨_, _, _, out, j, rfl, hS.ok, hS.at_, hS.done hR, hRd, hZ.on hS.ok.1 hP hB⟩
theorem side_bad {w w' : World} {B k P j : Nat} {s : Bytes} (h : ∀ l R', SideOk P l → StopT R' → s.drop k ≠ sideT 0 l ++ R') (hRd : Rd w' B s j) : SideOutR w w' B s k P (.returned (.tuple #[.slice none 0 0, .bool false])) := .inr ⟨rfl, h, j, hRd⟩

set_option maxHeartbeats 16000000 in
theorem oside_any {w : World} {B B0 : Nat} {s : Bytes} {k : Nat} (P : Nat) (h : Rd w B s k) (hT : Tabs15 B0 w) (hB0 : B0 ≤ B) (hs : s.length ≤ 1048576) (hP : P ≤ 16) :
    Calls Tryd.prog 46 #[.pointer (some ⟨B, 0, none⟩), .int .i64 (P : Int)] w fun e w' => SideOutR w w' B s k P e ∧ OnlyB B w w' := by
  obtain ⟨w1, hmk, hRow⟩ := make_intsZ w P (P : Int) rfl (by omega)
  have hZ0 : RowZ w.heap.size w1 P (nth (List.replicate P 0)) := (hRow.same fun j hj => by simp [nth, List.getD_eq_getElem?_getD, List.getElem?_replicate, hj]).z
  have b1 := hRow.below
  have hBw : B < w.heap.size := h.box.1
  obtain ⟨Br, HBr⟩ : ∃ z, Hid (w.heap.size = z) := ⟨_, rfl⟩
  have hBB : Hid (B < Br) := by show B < Br; rw [← HBr.out]; exact hBw
  have hne : Hid (Br ≠ B) := by have := hBB.out; show Br ≠ B; omega
  rw [HBr.out] at hmk hZ0
  have hR1 := h.below b1
  have hO1 := OnlyB.of_below hBw b1
  obtain ⟨n, Hn⟩ : ∃ z, Hid (s.length = z) := ⟨_, rfl⟩
  have z1 : (bs s).size = n := (bs_size s).trans Hn.out
  have hle := h.le
  rw [Hn.out] at hle
  have hsn : n ≤ 1048576 := by rw [← Hn.out]; exact hs
  clear hRow b1 h hBw
  go_enter Tryd.func46, Tryd.ntmps46
  go_upto_region 2 with fail
  clear hmk
  go_loopg [7] (n - k) (fun gk r7 wr => ∃ (j least : Nat) (out : List Int), r7 = .int .i64 ((least : Int) - 1) ∧ j + gk = n ∧ Rd wr B s j ∧ OnlyB B w wr ∧ RowZ Br wr P (nth out) ∧ Side P (s.drop k) out least (s.drop j))
  case atStart => exact ⟨k, 0, _, rfl, by omega, hR1, hO1, hZ0, Side.start P _⟩
  case round =>
    clear hR1 hO1 hZ0
    obtain ⟨j, least, out, rfl, hg, hRd, hO, hZ, hSd⟩ := hrel
    have HSd : Hid (Side P (s.drop k) out least (s.drop j)) := hSd
    clear hSd
    have hleast := HSd.out.le
    have hSk := skip_any hRd [32] ⟨#[32]⟩ rfl (by decide) hs
    by_cases hp : ∃ r, s.drop j = [32] ++ r
    · obtain ⟨S, hS⟩ := id hp
      have HS : Hid (s.drop j = 32 :: S) := hS
      have HS1 : Hid (s.drop (j + 1) = S) := by show _ = _; rw [← List.drop_drop, HS.out]; rfl
      clear hS
      have hja : j + 1 ≤ n := by have hl := congrArg List.length HS.out; rw [List.length_drop, Hn.out, List.length_cons] at hl; omega
      go_upto_region 3 with (go_at_call 24; refine hSk.mono ?_; rintro e w2 ⟨hSk2, hO2⟩; obtain ⟨rfl, hR2⟩ := skip_yes hSk2 hp)
      clear hSk hp hSk2
      have hR2 : Rd w2 B s (j + 1) := hR2
      have HR2 : Hid (Rd w2 B s (j + 1)) := hR2
      have HO2 : Hid (OnlyB B w w2) := hO.trans hO2
      have HZ2 : Hid (RowZ Br w2 P (nth out)) := hZ.only hO2 hne.out
      obtain ⟨_, y0, y1⟩ := id hR2.box
      rw [show (((j + 1 : Nat)) : Int) = (j : Int) + 1 by omega] at y1
      clear hR2 hO2 hZ hO hRd
      by_cases hjn : j + 1 < n
      · obtain ⟨x, hx⟩ : ∃ x, s[j + 1]? = some x := ⟨_, List.getElem?_eq_getElem (by rw [Hn.out]; exact hjn)⟩
        have Hx : Hid (S[0]? = some x) := by show _ = _; rw [← HS1.out, List.getElem?_drop]; exact hx
        have hIx := fun w => str_at hx w
        rw [show (((j + 1 : Nat)) : Int) = (j : Int) + 1 by omega] at hIx
        clear hx
        obtain ⟨c, Hc⟩ : ∃ z, Hid (x.toNat = z) := ⟨_, rfl⟩
        rw [Hc.out] at hIx
        by_cases hc : c = 62
        · have H62 : Hid (∃ r, s.drop j = 32 :: 62 :: r) := by
            rcases hSs : S with _ | ⟨b, r⟩
            · have := Hx.out; rw [hSs] at this; cases this
            · have hb := Hx.out
              rw [hSs] at hb
              have hb : b = x := by simpa using hb
              have : x = 62 := UInt8.toNat_inj.1 (by rw [Hc.out, hc]; rfl)
              exact ⟨r, by rw [HS.out, hSs, hb, this]⟩
          have n1 : decide ((j : Int) + 1 < (n : Int)) = true := by rw [decide_eq_true_eq]; omega
          have n2 : ((c : Int) == 62) = true := by rw [beq_iff_eq]; omega
          refine wp_region_held_drew (S := (fun w' => w'.cell? ⟨B, 0, none⟩ = some (.string (bs s)) ∧ w'.cell? ⟨B, 1, none⟩ = some (.int .i64 ((j : Int) + 1)))) (by kernel_rfl) ⟨y0, y1⟩ (fun hH => ?_)
          refine wpAnyH_take (i := 0) (v := .pointer (some ⟨B, 0, none⟩)) rfl (by kernel_rfl) (by kernel_rfl) (by kernel_rfl) (fun _ _ _ h => h) (.inl ⟨by rfl, fun _ _ => rfl⟩) hH ?_
          simp only [List.getElem_toArray, List.getElem_cons_succ, List.getElem_cons_zero, Act.put, List.setIfInBounds_toArray, List.set_cons_zero, List.set_cons_succ]
          refine wpAnyH_take (i := 1) (v := .pointer (some ⟨B, 0, none⟩)) rfl (by kernel_rfl) (by kernel_rfl) (by kernel_rfl) (fun _ _ _ h => h) (.inl ⟨by rfl, fun w' hS' => by first | (go_simp; done) | (go_simp; rfl) | (go_simp; intro h; omega) | (go_simp; omega)⟩) hH ?_
          simp only [List.getElem_toArray, List.getElem_cons_succ, List.getElem_cons_zero, Act.put, List.setIfInBounds_toArray, List.set_cons_zero, List.set_cons_succ]
          refine wpAnyH_take (i := 2) (v := .pointer (some ⟨B, 1, none⟩)) rfl (by kernel_rfl) (by kernel_rfl) (by kernel_rfl) (fun _ _ _ h => h) (.inl ⟨by rfl, fun w' hS' => by first | (go_simp; done) | (go_simp; rfl) | (go_simp; intro h; omega) | (go_simp; omega)⟩) hH ?_
          simp only [List.getElem_toArray, List.getElem_cons_succ, List.getElem_cons_zero, Act.put, List.setIfInBounds_toArray, List.set_cons_zero, List.set_cons_succ]
          refine wpAnyH_take (i := 3) (v := .int .i64 ((j : Int) + 1)) rfl (by kernel_rfl) (by kernel_rfl) (by kernel_rfl) (fun _ _ _ h => h) (.inl ⟨by rfl, fun w' hS' => by obtain ⟨s0, s1⟩ := hS'; go_simp⟩) hH ?_
          simp only [List.getElem_toArray, List.getElem_cons_succ, List.getElem_cons_zero, Act.put, List.setIfInBounds_toArray, List.set_cons_zero, List.set_cons_succ]
          refine wpAnyH_take (i := 4) (v := .pointer (some ⟨B, 0, none⟩)) rfl (by kernel_rfl) (by kernel_rfl) (by kernel_rfl) (fun _ _ _ h => h) (.inl ⟨by rfl, fun _ _ => rfl⟩) hH ?_
          simp only [List.getElem_toArray, List.getElem_cons_succ, List.getElem_cons_zero, Act.put, List.setIfInBounds_toArray, List.set_cons_zero, List.set_cons_succ]
          refine wpAnyH_take (i := 5) (v := .pointer (some ⟨B, 0, none⟩)) rfl (by kernel_rfl) (by kernel_rfl) (by kernel_rfl) (fun _ _ _ h => h) (.inl ⟨by rfl, fun w' hS' => by first | (go_simp; done) | (go_simp; rfl) | (go_simp; intro h; omega) | (go_simp; omega)⟩) hH ?_
          simp only [List.getElem_toArray, List.getElem_cons_succ, List.getElem_cons_zero, Act.put, List.setIfInBounds_toArray, List.set_cons_zero, List.set_cons_succ]
          refine wpAnyH_take (i := 6) (v := .pointer (some ⟨B, 0, none⟩)) rfl (by kernel_rfl) (by kernel_rfl) (by kernel_rfl) (fun _ _ _ h => h) (.inl ⟨by rfl, fun w' hS' => by first | (go_simp; done) | (go_simp; rfl) | (go_simp; intro h; omega) | (go_simp; omega)⟩) hH ?_
          simp only [List.getElem_toArray, List.getElem_cons_succ, List.getElem_cons_zero, Act.put, List.setIfInBounds_toArray, List.set_cons_zero, List.set_cons_succ]
          refine wpAnyH_take (i := 7) (v := .string (bs s)) rfl (by kernel_rfl) (by kernel_rfl) (by kernel_rfl) (fun _ _ _ h => h) (.inl ⟨by rfl, fun w' hS' => by obtain ⟨s0, s1⟩ := hS'; go_simp⟩) hH ?_
          simp only [List.getElem_toArray, List.getElem_cons_succ, List.getElem_cons_zero, Act.put, List.setIfInBounds_toArray, List.set_cons_zero, List.set_cons_succ]
          refine wpAnyH_take (i := 8) (v := .int .i64 (n : Int)) rfl (by kernel_rfl) (by kernel_rfl) (by kernel_rfl) (fun _ _ _ h => h) (.inl ⟨by rfl, fun w' hS' => by first | (go_simp; done) | (go_simp; rfl) | (go_simp; intro h; omega) | (go_simp; omega)⟩) hH ?_
          simp only [List.getElem_toArray, List.getElem_cons_succ, List.getElem_cons_zero, Act.put, List.setIfInBounds_toArray, List.set_cons_zero, List.set_cons_succ]
          refine wpAnyH_take (i := 9) (v := .bool true) rfl (by kernel_rfl) (by kernel_rfl) (by kernel_rfl) (fun _ _ _ h => h) (.inl ⟨by rfl, fun w' hS' => by first | (go_simp; done) | (go_simp; rfl) | (go_simp; intro h; omega) | (go_simp; omega)⟩) hH ?_
          simp only [List.getElem_toArray, List.getElem_cons_succ, List.getElem_cons_zero, Act.put, List.setIfInBounds_toArray, List.set_cons_zero, List.set_cons_succ]
          refine wpAnyH_take (i := 10) (v := .bool true) rfl (by kernel_rfl) (by kernel_rfl) (by kernel_rfl) (fun _ _ _ h => h) (.inl ⟨by rfl, fun _ _ => rfl⟩) hH ?_
          simp only [List.getElem_toArray, List.getElem_cons_succ, List.getElem_cons_zero, Act.put, List.setIfInBounds_toArray, List.set_cons_zero, List.set_cons_succ]
          refine wpAnyH_take (i := 11) (v := .pointer (some ⟨B, 0, none⟩)) rfl (by kernel_rfl) (by kernel_rfl) (by kernel_rfl) (fun _ _ _ h => h) (.inl ⟨by rfl, fun _ _ => rfl⟩) hH ?_
          simp only [List.getElem_toArray, List.getElem_cons_succ, List.getElem_cons_zero, Act.put, List.setIfInBounds_toArray, List.set_cons_zero, List.set_cons_succ]
          refine wpAnyH_take (i := 12) (v := .pointer (some ⟨B, 0, none⟩)) rfl (by kernel_rfl) (by kernel_rfl) (by kernel_rfl) (fun _ _ _ h => h) (.inl ⟨by rfl, fun w' hS' => by first | (go_simp; done) | (go_simp; rfl) | (go_simp; intro h; omega) | (go_simp; omega)⟩) hH ?_
          simp only [List.getElem_toArray, List.getElem_cons_succ, List.getElem_cons_zero, Act.put, List.setIfInBounds_toArray, List.set_cons_zero, List.set_cons_succ]
          refine wpAnyH_take (i := 13) (v := .pointer (some ⟨B, 0, none⟩)) rfl (by kernel_rfl) (by kernel_rfl) (by kernel_rfl) (fun _ _ _ h => h) (.inl ⟨by rfl, fun w' hS' => by first | (go_simp; done) | (go_simp; rfl) | (go_simp; intro h; omega) | (go_simp; omega)⟩) hH ?_
          simp only [List.getElem_toArray, List.getElem_cons_succ, List.getElem_cons_zero, Act.put, List.setIfInBounds_toArray, List.set_cons_zero, List.set_cons_succ]
          refine wpAnyH_take (i := 14) (v := .string (bs s)) rfl (by kernel_rfl) (by kernel_rfl) (by kernel_rfl) (fun _ _ _ h => h) (.inl ⟨by rfl, fun w' hS' => by obtain ⟨s0, s1⟩ := hS'; go_simp⟩) hH ?_
          simp only [List.getElem_toArray, List.getElem_cons_succ, List.getElem_cons_zero, Act.put, List.setIfInBounds_toArray, List.set_cons_zero, List.set_cons_succ]
          refine wpAnyH_take (i := 15) (v := .pointer (some ⟨B, 0, none⟩)) rfl (by kernel_rfl) (by kernel_rfl) (by kernel_rfl) (fun _ _ _ h => h) (.inl ⟨by rfl, fun _ _ => rfl⟩) hH ?_
          simp only [List.getElem_toArray, List.getElem_cons_succ, List.getElem_cons_zero, Act.put, List.setIfInBounds_toArray, List.set_cons_zero, List.set_cons_succ]
          refine wpAnyH_take (i := 16) (v := .pointer (some ⟨B, 0, none⟩)) rfl (by kernel_rfl) (by kernel_rfl) (by kernel_rfl) (fun _ _ _ h => h) (.inl ⟨by rfl, fun w' hS' => by first | (go_simp; done) | (go_simp; rfl) | (go_simp; intro h; omega) | (go_simp; omega)⟩) hH ?_
          simp only [List.getElem_toArray, List.getElem_cons_succ, List.getElem_cons_zero, Act.put, List.setIfInBounds_toArray, List.set_cons_zero, List.set_cons_succ]
          refine wpAnyH_take (i := 17) (v := .pointer (some ⟨B, 1, none⟩)) rfl (by kernel_rfl) (by kernel_rfl) (by kernel_rfl) (fun _ _ _ h => h) (.inl ⟨by rfl, fun w' hS' => by first | (go_simp; done) | (go_simp; rfl) | (go_simp; intro h; omega) | (go_simp; omega)⟩) hH ?_
          simp only [List.getElem_toArray, List.getElem_cons_succ, List.getElem_cons_zero, Act.put, List.setIfInBounds_toArray, List.set_cons_zero, List.set_cons_succ]
          refine wpAnyH_take (i := 18) (v := .int .i64 ((j : Int) + 1)) rfl (by kernel_rfl) (by kernel_rfl) (by kernel_rfl) (fun _ _ _ h => h) (.inl ⟨by rfl, fun w' hS' => by obtain ⟨s0, s1⟩ := hS'; go_simp⟩) hH ?_
          simp only [List.getElem_toArray, List.getElem_cons_succ, List.getElem_cons_zero, Act.put, List.setIfInBounds_toArray, List.set_cons_zero, List.set_cons_succ]
          refine wpAnyH_take (i := 19) (v := .int .u8 (c : Int)) rfl (by kernel_rfl) (by kernel_rfl) (by kernel_rfl) (fun _ _ _ h => h) (.inl ⟨by rfl, fun w' hS' => by first | (go_simp; done) | (go_simp; rfl) | (go_simp; intro h; omega) | (go_simp; omega)⟩) hH ?_
          simp only [List.getElem_toArray, List.getElem_cons_succ, List.getElem_cons_zero, Act.put, List.setIfInBounds_toArray, List.set_cons_zero, List.set_cons_succ]
          refine wpAnyH_take (i := 20) (v := .bool true) rfl (by kernel_rfl) (by kernel_rfl) (by kernel_rfl) (fun _ _ _ h => h) (.inl ⟨by rfl, fun w' hS' => by first | (go_simp; done) | (go_simp; rfl) | (go_simp; intro h; omega) | (go_simp; omega)⟩) hH ?_
          simp only [List.getElem_toArray, List.getElem_cons_succ, List.getElem_cons_zero, Act.put, List.setIfInBounds_toArray, List.set_cons_zero, List.set_cons_succ]
          refine wpAnyH_take (i := 21) (v := .bool true) rfl (by kernel_rfl) (by kernel_rfl) (by kernel_rfl) (fun _ _ _ h => h) (.inl ⟨by rfl, fun _ _ => rfl⟩) hH ?_
          simp only [List.getElem_toArray, List.getElem_cons_succ, List.getElem_cons_zero, Act.put, List.setIfInBounds_toArray, List.set_cons_zero, List.set_cons_succ]
          refine wpAnyH_done (by kernel_rfl) ?_ _
          rw [show w2.drew = w2.drewN 1 from rfl]
          clear hH n1 n2
          have hR3 := HR2.out.below (below_drewN (Below.refl w2.heap.size w2) 1)
          have hO3 := OnlyB.drewN B w2 1
          have hZ3 := HZ2.out.only hO3 hne.out
          have hO4 := (HO2.out.trans hO3).trans (OnlyB.set B 1 _ (.int .i64 (j : Int)))
          have hR4 := hR3.set (j := j) (by rw [Hn.out]; omega)
          have hZ4 := hZ3.only (OnlyB.set B 1 _ (.int .i64 (j : Int))) hne.out
          have R := side_good (w := w) HSd.out (.inr H62.out) hR4 hZ4 hP (Nat.le_of_eq HBr.out)
          obtain ⟨w5, H5⟩ : ∃ u, Hid (w2.drewN 1 = u) := ⟨_, rfl⟩
          rw [H5.out] at hR3 hO4 R
          rw [H5.out]
          obtain ⟨_, q0, q1⟩ := id hR3.box
          rw [show (((j + 1 : Nat)) : Int) = (j : Int) + 1 by omega] at q1
          have g8 := hR3.fz
          have HR : Hid (SideOutR w (w5.setCell ⟨B, 1, none⟩ (.int .i64 (j : Int))) B s k P (.returned (.tuple #[.slice (some ⟨Br, 0, none⟩) P P, .bool true]))) := R
          have wj : IntKind.i64.wrap (j : Int) = (j : Int) := Go.IntWalk.i64_in _ ⟨by omega, by omega⟩
          have wj2 : wrap64 (j : Int) = (j : Int) := by unfold wrap64; omega
          clear y0 y1 hR3 hO3 hZ3 hR4 hZ4 R hIx hc
          go_wp2
          go_ret2
          exact ⟨HR.out, hO4⟩
        · have H62 : Hid (¬ ∃ r, S = 62 :: r) := by
            rintro ⟨r, e⟩
            have hb := Hx.out
            rw [e] at hb
            have hb : (62 : UInt8) = x := by simpa using hb
            exact hc (by rw [← Hc.out, ← hb]; rfl)
          have n1 : decide ((j : Int) + 1 < (n : Int)) = true := by rw [decide_eq_true_eq]; omega
          have n2 : ((c : Int) == 62) = false := by rw [beq_eq_false_iff_ne]; omega
          refine wp_region_held_drew (S := (fun w' => w'.cell? ⟨B, 0, none⟩ = some (.string (bs s)) ∧ w'.cell? ⟨B, 1, none⟩ = some (.int .i64 ((j : Int) + 1)))) (by kernel_rfl) ⟨y0, y1⟩ (fun hH => ?_)
          refine wpAnyH_take (i := 0) (v := .pointer (some ⟨B, 0, none⟩)) rfl (by kernel_rfl) (by kernel_rfl) (by kernel_rfl) (fun _ _ _ h => h) (.inl ⟨by rfl, fun _ _ => rfl⟩) hH ?_
          simp only [List.getElem_toArray, List.getElem_cons_succ, List.getElem_cons_zero, Act.put, List.setIfInBounds_toArray, List.set_cons_zero, List.set_cons_succ]
          refine wpAnyH_take (i := 1) (v := .pointer (some ⟨B, 0, none⟩)) rfl (by kernel_rfl) (by kernel_rfl) (by kernel_rfl) (fun _ _ _ h => h) (.inl ⟨by rfl, fun w' hS' => by first | (go_simp; done) | (go_simp; rfl) | (go_simp; intro h; omega) | (go_simp; omega)⟩) hH ?_
          simp only [List.getElem_toArray, List.getElem_cons_succ, List.getElem_cons_zero, Act.put, List.setIfInBounds_toArray, List.set_cons_zero, List.set_cons_succ]
          refine wpAnyH_take (i := 2) (v := .pointer (some ⟨B, 1, none⟩)) rfl (by kernel_rfl) (by kernel_rfl) (by kernel_rfl) (fun _ _ _ h => h) (.inl ⟨by rfl, fun w' hS' => by first | (go_simp; done) | (go_simp; rfl) | (go_simp; intro h; omega) | (go_simp; omega)⟩) hH ?_
          simp only [List.getElem_toArray, List.getElem_cons_succ, List.getElem_cons_zero, Act.put, List.setIfInBounds_toArray, List.set_cons_zero, List.set_cons_succ]
          refine wpAnyH_take (i := 3) (v := .int .i64 ((j : Int) + 1)) rfl (by kernel_rfl) (by kernel_rfl) (by kernel_rfl) (fun _ _ _ h => h) (.inl ⟨by rfl, fun w' hS' => by obtain ⟨s0, s1⟩ := hS'; go_simp⟩) hH ?_
          simp only [List.getElem_toArray, List.getElem_cons_succ, List.getElem_cons_zero, Act.put, List.setIfInBounds_toArray, List.set_cons_zero, List.set_cons_succ]
          refine wpAnyH_take (i := 4) (v := .pointer (some ⟨B, 0, none⟩)) rfl (by kernel_rfl) (by kernel_rfl) (by kernel_rfl) (fun _ _ _ h => h) (.inl ⟨by rfl, fun _ _ => rfl⟩) hH ?_
          simp only [List.getElem_toArray, List.getElem_cons_succ, List.getElem_cons_zero, Act.put, List.setIfInBounds_toArray, List.set_cons_zero, List.set_cons_succ]
          refine wpAnyH_take (i := 5) (v := .pointer (some ⟨B, 0, none⟩)) rfl (by kernel_rfl) (by kernel_rfl) (by kernel_rfl) (fun _ _ _ h => h) (.inl ⟨by rfl, fun w' hS' => by first | (go_simp; done) | (go_simp; rfl) | (go_simp; intro h; omega) | (go_simp; omega)⟩) hH ?_
          simp only [List.getElem_toArray, List.getElem_cons_succ, List.getElem_cons_zero, Act.put, List.setIfInBounds_toArray, List.set_cons_zero, List.set_cons_succ]
          refine wpAnyH_take (i := 6) (v := .pointer (some ⟨B, 0, none⟩)) rfl (by kernel_rfl) (by kernel_rfl) (by kernel_rfl) (fun _ _ _ h => h) (.inl ⟨by rfl, fun w' hS' => by first | (go_simp; done) | (go_simp; rfl) | (go_simp; intro h; omega) | (go_simp; omega)⟩) hH ?_
          simp only [List.getElem_toArray, List.getElem_cons_succ, List.getElem_cons_zero, Act.put, List.setIfInBounds_toArray, List.set_cons_zero, List.set_cons_succ]
          refine wpAnyH_take (i := 7) (v := .string (bs s)) rfl (by kernel_rfl) (by kernel_rfl) (by kernel_rfl) (fun _ _ _ h => h) (.inl ⟨by rfl, fun w' hS' => by obtain ⟨s0, s1⟩ := hS'; go_simp⟩) hH ?_
          simp only [List.getElem_toArray, List.getElem_cons_succ, List.getElem_cons_zero, Act.put, List.setIfInBounds_toArray, List.set_cons_zero, List.set_cons_succ]
          refine wpAnyH_take (i := 8) (v := .int .i64 (n : Int)) rfl (by kernel_rfl) (by kernel_rfl) (by kernel_rfl) (fun _ _ _ h => h) (.inl ⟨by rfl, fun w' hS' => by first | (go_simp; done) | (go_simp; rfl) | (go_simp; intro h; omega) | (go_simp; omega)⟩) hH ?_
          simp only [List.getElem_toArray, List.getElem_cons_succ, List.getElem_cons_zero, Act.put, List.setIfInBounds_toArray, List.set_cons_zero, List.set_cons_succ]
          refine wpAnyH_take (i := 9) (v := .bool true) rfl (by kernel_rfl) (by kernel_rfl) (by kernel_rfl) (fun _ _ _ h => h) (.inl ⟨by rfl, fun w' hS' => by first | (go_simp; done) | (go_simp; rfl) | (go_simp; intro h; omega) | (go_simp; omega)⟩) hH ?_
          simp only [List.getElem_toArray, List.getElem_cons_succ, List.getElem_cons_zero, Act.put, List.setIfInBounds_toArray, List.set_cons_zero, List.set_cons_succ]
          refine wpAnyH_take (i := 10) (v := .bool true) rfl (by kernel_rfl) (by kernel_rfl) (by kernel_rfl) (fun _ _ _ h => h) (.inl ⟨by rfl, fun _ _ => rfl⟩) hH ?_
          simp only [List.getElem_toArray, List.getElem_cons_succ, List.getElem_cons_zero, Act.put, List.setIfInBounds_toArray, List.set_cons_zero, List.set_cons_succ]
          refine wpAnyH_take (i := 11) (v := .pointer (some ⟨B, 0, none⟩)) rfl (by kernel_rfl) (by kernel_rfl) (by kernel_rfl) (fun _ _ _ h => h) (.inl ⟨by rfl, fun _ _ => rfl⟩) hH ?_
          simp only [List.getElem_toArray, List.getElem_cons_succ, List.getElem_cons_zero, Act.put, List.setIfInBounds_toArray, List.set_cons_zero, List.set_cons_succ]
          refine wpAnyH_take (i := 12) (v := .pointer (some ⟨B, 0, none⟩)) rfl (by kernel_rfl) (by kernel_rfl) (by kernel_rfl) (fun _ _ _ h => h) (.inl ⟨by rfl, fun w' hS' => by first | (go_simp; done) | (go_simp; rfl) | (go_simp; intro h; omega) | (go_simp; omega)⟩) hH ?_
          simp only [List.getElem_toArray, List.getElem_cons_succ, List.getElem_cons_zero, Act.put, List.setIfInBounds_toArray, List.set_cons_zero, List.set_cons_succ]
          refine wpAnyH_take (i := 13) (v := .pointer (some ⟨B, 0, none⟩)) rfl (by kernel_rfl) (by kernel_rfl) (by kernel_rfl) (fun _ _ _ h => h) (.inl ⟨by rfl, fun w' hS' => by first | (go_simp; done) | (go_simp; rfl) | (go_simp; intro h; omega) | (go_simp; omega)⟩) hH ?_
          simp only [List.getElem_toArray, List.getElem_cons_succ, List.getElem_cons_zero, Act.put, List.setIfInBounds_toArray, List.set_cons_zero, List.set_cons_succ]
          refine wpAnyH_take (i := 14) (v := .string (bs s)) rfl (by kernel_rfl) (by kernel_rfl) (by kernel_rfl) (fun _ _ _ h => h) (.inl ⟨by rfl, fun w' hS' => by obtain ⟨s0, s1⟩ := hS'; go_simp⟩) hH ?_
          simp only [List.getElem_toArray, List.getElem_cons_succ, List.getElem_cons_zero, Act.put, List.setIfInBounds_toArray, List.set_cons_zero, List.set_cons_succ]
          refine wpAnyH_take (i := 15) (v := .pointer (some ⟨B, 0, none⟩)) rfl (by kernel_rfl) (by kernel_rfl) (by kernel_rfl) (fun _ _ _ h => h) (.inl ⟨by rfl, fun _ _ => rfl⟩) hH ?_
          simp only [List.getElem_toArray, List.getElem_cons_succ, List.getElem_cons_zero, Act.put, List.setIfInBounds_toArray, List.set_cons_zero, List.set_cons_succ]
          refine wpAnyH_take (i := 16) (v := .pointer (some ⟨B, 0, none⟩)) rfl (by kernel_rfl) (by kernel_rfl) (by kernel_rfl) (fun _ _ _ h => h) (.inl ⟨by rfl, fun w' hS' => by first | (go_simp; done) | (go_simp; rfl) | (go_simp; intro h; omega) | (go_simp; omega)⟩) hH ?_
          simp only [List.getElem_toArray, List.getElem_cons_succ, List.getElem_cons_zero, Act.put, List.setIfInBounds_toArray, List.set_cons_zero, List.set_cons_succ]
          refine wpAnyH_take (i := 17) (v := .pointer (some ⟨B, 1, none⟩)) rfl (by kernel_rfl) (by kernel_rfl) (by kernel_rfl) (fun _ _ _ h => h) (.inl ⟨by rfl, fun w' hS' => by first | (go_simp; done) | (go_simp; rfl) | (go_simp; intro h; omega) | (go_simp; omega)⟩) hH ?_
          simp only [List.getElem_toArray, List.getElem_cons_succ, List.getElem_cons_zero, Act.put, List.setIfInBounds_toArray, List.set_cons_zero, List.set_cons_succ]
          refine wpAnyH_take (i := 18) (v := .int .i64 ((j : Int) + 1)) rfl (by kernel_rfl) (by kernel_rfl) (by kernel_rfl) (fun _ _ _ h => h) (.inl ⟨by rfl, fun w' hS' => by obtain ⟨s0, s1⟩ := hS'; go_simp⟩) hH ?_
          simp only [List.getElem_toArray, List.getElem_cons_succ, List.getElem_cons_zero, Act.put, List.setIfInBounds_toArray, List.set_cons_zero, List.set_cons_succ]
          refine wpAnyH_take (i := 19) (v := .int .u8 (c : Int)) rfl (by kernel_rfl) (by kernel_rfl) (by kernel_rfl) (fun _ _ _ h => h) (.inl ⟨by rfl, fun w' hS' => by first | (go_simp; done) | (go_simp; rfl) | (go_simp; intro h; omega) | (go_simp; omega)⟩) hH ?_
          simp only [List.getElem_toArray, List.getElem_cons_succ, List.getElem_cons_zero, Act.put, List.setIfInBounds_toArray, List.set_cons_zero, List.set_cons_succ]
          refine wpAnyH_take (i := 20) (v := .bool false) rfl (by kernel_rfl) (by kernel_rfl) (by kernel_rfl) (fun _ _ _ h => h) (.inl ⟨by rfl, fun w' hS' => by first | (go_simp; done) | (go_simp; rfl) | (go_simp; intro h; omega) | (go_simp; omega)⟩) hH ?_
          simp only [List.getElem_toArray, List.getElem_cons_succ, List.getElem_cons_zero, Act.put, List.setIfInBounds_toArray, List.set_cons_zero, List.set_cons_succ]
          refine wpAnyH_take (i := 21) (v := .bool false) rfl (by kernel_rfl) (by kernel_rfl) (by kernel_rfl) (fun _ _ _ h => h) (.inl ⟨by rfl, fun _ _ => rfl⟩) hH ?_
          simp only [List.getElem_toArray, List.getElem_cons_succ, List.getElem_cons_zero, Act.put, List.setIfInBounds_toArray, List.set_cons_zero, List.set_cons_succ]
          refine wpAnyH_done (by kernel_rfl) ?_ _
          rw [show w2.drew = w2.drewN 1 from rfl]
          clear hH n1 n2
          have hR3 := HR2.out.below (below_drewN (Below.refl w2.heap.size w2) 1)
          have hO3 := HO2.out.trans (OnlyB.drewN B w2 1)
          have hZ3 := HZ2.out.only (OnlyB.drewN B w2 1) hne.out
          obtain ⟨w3, H3⟩ : ∃ u, Hid (w2.drewN 1 = u) := ⟨_, rfl⟩
          rw [H3.out] at hR3 hO3 hZ3
          rw [H3.out]
          have hNm := num_any hR3 (hT.on (hO3.below.mono hB0)) hB0 hs
          clear y0 y1
          go_upto_region 7 with (go_at_call 25; refine hNm.mono ?_; rintro e w4 ⟨⟨nn, ok, d, r1, rfl, hdr, hdd, hr1, hnd, hR4⟩, hO4⟩)
          clear hNm
          have HD : Hid (S = d ++ r1) := by show _ = _; rw [← HS1.out]; exact hdr
          have Hdd : Hid (∀ b ∈ d, isDig b) := hdd
          have Hr1 : Hid (¬ HeadIs isDig r1) := hr1
          have Hnd : Hid (NumD d nn ok) := hnd
          have HSd2 : Hid (Side P (s.drop k) out least (32 :: (d ++ r1))) := by have := HSd.out; rw [HS.out, HD.out] at this; exact this
          have H622 : Hid (¬ ∃ r, d ++ r1 = 62 :: r) := by have := H62.out; rw [HD.out] at this; exact this
          have HDr : Hid (s.drop (j + 1 + d.length) = r1) := by show _ = _; rw [← List.drop_drop, hdr, List.drop_left]
          obtain ⟨m, Hm⟩ : ∃ z, Hid (j + 1 + d.length = z) := ⟨_, rfl⟩
          rw [Hm.out] at hR4 HDr
          have hjm : j + 1 ≤ m := by have := Hm.out; omega
          have hmn : m ≤ n := by have := hR4.le; rw [Hn.out] at this; exact this
          have hO5 := hO3.trans hO4
          have hZ5 := hZ3.only hO4 hne.out
          clear hdr hdd hr1 hnd hR3 hO3 hZ3 hO4
          have hSk := skip_any hR4 [42] ⟨#[42]⟩ rfl (by decide) hs
          by_cases hst : ∃ r, s.drop m = [42] ++ r
          · obtain ⟨r2, hr2⟩ := id hst
            have Hr2 : Hid (r1 = 42 :: r2) := by show _ = _; rw [← HDr.out]; exact hr2
            have HDr2 : Hid (s.drop (m + 1) = r2) := by show _ = _; rw [← List.drop_drop, hr2]; rfl
            clear hr2
            have HSd3 : Hid (Side P (s.drop k) out least (32 :: (d ++ 42 :: r2))) := by have := HSd2.out; rw [Hr2.out] at this; exact this
            have H623 : Hid (¬ ∃ r, d ++ 42 :: r2 = 62 :: r) := by have := H622.out; rw [Hr2.out] at this; exact this
            go_upto_region 9 with (go_at_call 24; refine hSk.mono ?_; rintro e w6 ⟨hSk2, hO6⟩; obtain ⟨rfl, hR6⟩ := skip_yes hSk2 hst)
            have hR6 : Rd w6 B s (m + 1) := hR6
            have hO7 := hO5.trans hO6
            have hZ7 := hZ5.only hO6 hne.out
            clear hSk hSk2 hst hR4 hO5 hO6 hZ5
            by_cases hbad : nn < 2 ∨ 9 < nn
            · have R : Hid (SideOutR w w6 B s k P (.returned (.tuple #[.slice none 0 0, .bool false]))) := side_bad (HSd3.out.star_small hP H623.out Hdd.out Hnd.out hbad) hR6
              by_cases h2 : nn < 2
              · have n1 : decide (nn < 2) = true := by rw [decide_eq_true_eq]; exact h2
                clear hbad
                go_wp2
                go_ret2
                exact ⟨R.out, hO7⟩
              · have n1 : decide (nn < 2) = false := by rw [decide_eq_false_iff_not]; exact h2
                have n2 : decide (nn > 9) = true := by rw [decide_eq_true_eq]; omega
                clear hbad
                go_wp2
                go_ret2
                exact ⟨R.out, hO7⟩
            · have n1 : decide (nn < 2) = false := by rw [decide_eq_false_iff_not]; omega
              have n2 : decide (nn > 9) = false := by rw [decide_eq_false_iff_not]; omega
              have hn2 : 2 ≤ nn := by omega
              have hn9 : nn ≤ 9 := by omega
              have hNm := num_any hR6 (hT.on (hO7.below.mono hB0)) hB0 hs
              clear hbad
              go_upto_region 13 with (go_at_call 25; refine hNm.mono ?_; rintro e w8 ⟨⟨pp, two, d2, r3, rfl, hdr, hdd, hr3, hnd, hR8⟩, hO8⟩)
              clear hNm n1 n2
              have HD2 : Hid (r2 = d2 ++ r3) := by show _ = _; rw [← HDr2.out]; exact hdr
              have HSd4 : Hid (Side P (s.drop k) out least (32 :: (d ++ 42 :: (d2 ++ r3)))) := by have := HSd3.out; rw [HD2.out] at this; exact this
              have H624 : Hid (¬ ∃ r, d ++ 42 :: (d2 ++ r3) = 62 :: r) := by have := H623.out; rw [HD2.out] at this; exact this
              have HDr3 : Hid (s.drop (m + 1 + d2.length) = r3) := by show _ = _; rw [← List.drop_drop, hdr, List.drop_left]
              have Hdd2 : Hid (∀ b ∈ d2, isDig b) := hdd
              have Hr3 : Hid (¬ HeadIs isDig r3) := hr3
              have Hnd2 : Hid (NumD d2 pp two) := hnd
              obtain ⟨m2, Hm2⟩ : ∃ z, Hid (m + 1 + d2.length = z) := ⟨_, rfl⟩
              rw [Hm2.out] at hR8 HDr3
              have hm2 : m < m2 := by have := Hm2.out; omega
              have hm2n : m2 ≤ n := by have := hR8.le; rw [Hn.out] at this; exact this
              have hO9 := hO7.trans hO8
              have hZ9 := hZ7.only hO8 hne.out
              clear hdr hdd hr3 hnd hR6 hO7 hZ7 hO8
              by_cases hgood : ok = true ∧ two = true ∧ (least : Int) ≤ pp ∧ pp < (P : Int)
              · obtain ⟨rfl, rfl, hp1, hp2⟩ := hgood
                obtain ⟨q, rfl⟩ : ∃ q : Nat, pp = (q : Int) := ⟨pp.toNat, by omega⟩
                have hq1 : least ≤ q := by omega
                have hq2 : q < P := by omega
                have HSn : Hid (Side P (s.drop k) (out.set q nn) (q + 1) (s.drop m2)) := by
                  show Side _ _ _ _ _
                  rw [HDr3.out]
                  refine HSd4.out.star_next Hr3.out ?_ hn2 hn9 ?_ hq1 hq2
                  · rcases Hnd.out with ⟨_, _, e⟩ | ⟨e, _⟩
                    · exact e
                    · cases e
                  · rcases Hnd2.out with ⟨_, _, e⟩ | ⟨e, _⟩
                    · exact e
                    · cases e
                have hlo := HSn.out.ok.1
                have hlo2 : out.length = P := by rw [List.length_set] at hlo; exact hlo
                have c0 := hZ9.cells q hq2
                have c1 := hZ9.frozen q hq2
                have hZn := hZ9.put (g := nth (out.set q nn)) hq2 (x := nn) (by simp [nth, List.getD_eq_getElem?_getD, List.getElem?_set_self, hlo2, hq2]) (fun i _ hi => by simp [nth, List.getD_eq_getElem?_getD, List.getElem?_set_ne (Ne.symm hi)])
                have hRn := hR8.other hne.out q (.int .i64 nn)
                have hOn := hO9.put (Br := Br) (off := q) (Nat.le_of_lt hBB.out) (Nat.le_of_eq HBr.out) (.int .i64 nn)
                have n3 : decide ((q : Int) ≤ (least : Int) - 1) = false := by rw [decide_eq_false_iff_not]; omega
                have n4 : decide ((q : Int) ≥ (P : Int)) = false := by rw [decide_eq_false_iff_not]; omega
                have hqP : (q : Int) < (P : Int) := by omega
                clear hR8 hO9 hZ9 hlo hlo2 hp1 hp2
                go_wp2
                go_roundg (n - m2)
                case measure => omega
                case rel => exact ⟨m2, q + 1, _, by go_num, by omega, hRn, hOn, hZn, HSn.out⟩
              · have R : Hid (SideOutR w w8 B s k P (.returned (.tuple #[.slice none 0 0, .bool false]))) := side_bad (HSd4.out.star_fail hP H624.out Hdd.out Hdd2.out Hr3.out Hnd.out Hnd2.out (by
                  cases ok
                  · exact .inl rfl
                  · cases two
                    · exact .inr (.inl rfl)
                    · by_cases q1 : pp < least
                      · exact .inr (.inr (.inl q1))
                      · exact .inr (.inr (.inr (by
                          apply Classical.byContradiction
                          intro q2
                          exact hgood ⟨rfl, rfl, by omega, by omega⟩))))) hR8
                cases ok
                · clear hgood
                  go_wp2
                  go_ret2
                  exact ⟨R.out, hO9⟩
                · cases two
                  · clear hgood
                    go_wp2
                    go_ret2
                    exact ⟨R.out, hO9⟩
                  · have wl : True := trivial
                    by_cases q1 : pp ≤ (least : Int) - 1
                    · have n3 : decide (pp ≤ (least : Int) - 1) = true := by rw [decide_eq_true_eq]; exact q1
                      clear hgood
                      go_wp2
                      go_ret2
                      exact ⟨R.out, hO9⟩
                    · have n3 : decide (pp ≤ (least : Int) - 1) = false := by rw [decide_eq_false_iff_not]; exact q1
                      have n4 : decide (pp ≥ (P : Int)) = true := by
                        rw [decide_eq_true_eq]
                        apply Classical.byContradiction
                        intro q2
                        exact hgood (by simp only [true_and]; omega)
                      clear hgood
                      go_wp2
                      go_ret2
                      exact ⟨R.out, hO9⟩
          · have hR5 := hR4
            have H42 : Hid (¬ HeadIs (· = 42) r1) := by
              rintro ⟨b, r, e, hb⟩
              exact hst ⟨r, by rw [HDr.out, e, hb]; rfl⟩
            go_upto_region 15 with (go_at_call 24; refine hSk.mono ?_; rintro e w6 ⟨hSk2, hO6⟩; obtain ⟨rfl, hR6⟩ := skip_no hSk2 hst)
            have hO9 := hO5.trans hO6
            have hZ9 := hZ5.only hO6 hne.out
            clear hSk hSk2 hst hR4 hR5 hO5 hO6 hZ5
            by_cases hgood : ok = true ∧ (least : Int) ≤ nn ∧ nn < (P : Int)
            · obtain ⟨rfl, hp1, hp2⟩ := hgood
              obtain ⟨q, rfl⟩ : ∃ q : Nat, nn = (q : Int) := ⟨nn.toNat, by omega⟩
              have hq1 : least ≤ q := by omega
              have hq2 : q < P := by omega
              have HSn : Hid (Side P (s.drop k) (out.set q 1) (q + 1) (s.drop m)) := by
                show Side _ _ _ _ _
                rw [HDr.out]
                refine HSd2.out.plain_next Hdd.out Hr1.out H42.out ?_ hq1 hq2
                rcases Hnd.out with ⟨_, _, e⟩ | ⟨e, _⟩
                · exact e
                · cases e
              have hlo := HSn.out.ok.1
              have hlo2 : out.length = P := by rw [List.length_set] at hlo; exact hlo
              have c0 := hZ9.cells q hq2
              have c1 := hZ9.frozen q hq2
              have hZn := hZ9.put (g := nth (out.set q 1)) hq2 (x := 1) (by simp [nth, List.getD_eq_getElem?_getD, List.getElem?_set_self, hlo2, hq2]) (fun i _ hi => by simp [nth, List.getD_eq_getElem?_getD, List.getElem?_set_ne (Ne.symm hi)])
              have hRn := hR6.other hne.out q (.int .i64 1)
              have hOn := hO9.put (Br := Br) (off := q) (Nat.le_of_lt hBB.out) (Nat.le_of_eq HBr.out) (.int .i64 1)
              have n3 : decide ((q : Int) ≤ (least : Int) - 1) = false := by rw [decide_eq_false_iff_not]; omega
              have n4 : decide ((q : Int) ≥ (P : Int)) = false := by rw [decide_eq_false_iff_not]; omega
              have hqP : (q : Int) < (P : Int) := by omega
              clear hR6 hO9 hZ9 hlo hlo2 hp1 hp2
              go_wp2
              go_roundg (n - m)
              case measure => omega
              case rel => exact ⟨m, q + 1, _, by go_num, by omega, hRn, hOn, hZn, HSn.out⟩
            · have R : Hid (SideOutR w w6 B s k P (.returned (.tuple #[.slice none 0 0, .bool false]))) := side_bad (HSd2.out.plain_fail hP H622.out Hdd.out Hr1.out H42.out Hnd.out (by
                cases ok
                · exact .inl rfl
                · by_cases q1 : nn < least
                  · exact .inr (.inl q1)
                  · exact .inr (.inr (by
                      apply Classical.byContradiction
                      intro q2
                      exact hgood ⟨rfl, by omega, by omega⟩)))) hR6
              cases ok
              · clear hgood
                go_wp2
                go_ret2
                exact ⟨R.out, hO9⟩
              · have wl : True := trivial
                by_cases q1 : nn ≤ (least : Int) - 1
                · have n3 : decide (nn ≤ (least : Int) - 1) = true := by rw [decide_eq_true_eq]; exact q1
                  clear hgood
                  go_wp2
                  go_ret2
                  exact ⟨R.out, hO9⟩
                · have n3 : decide (nn ≤ (least : Int) - 1) = false := by rw [decide_eq_false_iff_not]; exact q1
                  have n4 : decide (nn ≥ (P : Int)) = true := by
                    rw [decide_eq_true_eq]
                    apply Classical.byContradiction
                    intro q2
                    exact hgood (by simp only [true_and]; omega)
                  clear hgood
                  go_wp2
                  go_ret2
                  exact ⟨R.out, hO9⟩
      · have H62 : Hid (¬ ∃ r, S = 62 :: r) := by
          rintro ⟨r, e⟩
          have hl := congrArg List.length HS1.out
          rw [e, List.length_drop, Hn.out, List.length_cons] at hl
          omega
        have n1 : decide ((j : Int) + 1 < (n : Int)) = false := by rw [decide_eq_false_iff_not]; omega
        refine wp_region_held_drew (S := (fun w' => w'.cell? ⟨B, 0, none⟩ = some (.string (bs s)) ∧ w'.cell? ⟨B, 1, none⟩ = some (.int .i64 ((j : Int) + 1)))) (by kernel_rfl) ⟨y0, y1⟩ (fun hH => ?_)
        refine wpAnyH_take (i := 0) (v := .pointer (some ⟨B, 0, none⟩)) rfl (by kernel_rfl) (by kernel_rfl) (by kernel_rfl) (fun _ _ _ h => h) (.inl ⟨by rfl, fun _ _ => rfl⟩) hH ?_
        simp only [List.getElem_toArray, List.getElem_cons_succ, List.getElem_cons_zero, Act.put, List.setIfInBounds_toArray, List.set_cons_zero, List.set_cons_succ]
        refine wpAnyH_take (i := 1) (v := .pointer (some ⟨B, 0, none⟩)) rfl (by kernel_rfl) (by kernel_rfl) (by kernel_rfl) (fun _ _ _ h => h) (.inl ⟨by rfl, fun w' hS' => by first | (go_simp; done) | (go_simp; rfl) | (go_simp; intro h; omega) | (go_simp; omega)⟩) hH ?_
        simp only [List.getElem_toArray, List.getElem_cons_succ, List.getElem_cons_zero, Act.put, List.setIfInBounds_toArray, List.set_cons_zero, List.set_cons_succ]
        refine wpAnyH_take (i := 2) (v := .pointer (some ⟨B, 1, none⟩)) rfl (by kernel_rfl) (by kernel_rfl) (by kernel_rfl) (fun _ _ _ h => h) (.inl ⟨by rfl, fun w' hS' => by first | (go_simp; done) | (go_simp; rfl) | (go_simp; intro h; omega) | (go_simp; omega)⟩) hH ?_
        simp only [List.getElem_toArray, List.getElem_cons_succ, List.getElem_cons_zero, Act.put, List.setIfInBounds_toArray, List.set_cons_zero, List.set_cons_succ]
        refine wpAnyH_take (i := 3) (v := .int .i64 ((j : Int) + 1)) rfl (by kernel_rfl) (by kernel_rfl) (by kernel_rfl) (fun _ _ _ h => h) (.inl ⟨by rfl, fun w' hS' => by obtain ⟨s0, s1⟩ := hS'; go_simp⟩) hH ?_
        simp only [List.getElem_toArray, List.getElem_cons_succ, List.getElem_cons_zero, Act.put, List.setIfInBounds_toArray, List.set_cons_zero, List.set_cons_succ]
        refine wpAnyH_take (i := 4) (v := .pointer (some ⟨B, 0, none⟩)) rfl (by kernel_rfl) (by kernel_rfl) (by kernel_rfl) (fun _ _ _ h => h) (.inl ⟨by rfl, fun _ _ => rfl⟩) hH ?_
        simp only [List.getElem_toArray, List.getElem_cons_succ, List.getElem_cons_zero, Act.put, List.setIfInBounds_toArray, List.set_cons_zero, List.set_cons_succ]
        refine wpAnyH_take (i := 5) (v := .pointer (some ⟨B, 0, none⟩)) rfl (by kernel_rfl) (by kernel_rfl) (by kernel_rfl) (fun _ _ _ h => h) (.inl ⟨by rfl, fun w' hS' => by first | (go_simp; done) | (go_simp; rfl) | (go_simp; intro h; omega) | (go_simp; omega)⟩) hH ?_
        simp only [List.getElem_toArray, List.getElem_cons_succ, List.getElem_cons_zero, Act.put, List.setIfInBounds_toArray, List.set_cons_zero, List.set_cons_succ]
        refine wpAnyH_take (i := 6) (v := .pointer (some ⟨B, 0, none⟩)) rfl (by kernel_rfl) (by kernel_rfl) (by kernel_rfl) (fun _ _ _ h => h) (.inl ⟨by rfl, fun w' hS' => by first | (go_simp; done) | (go_simp; rfl) | (go_simp; intro h; omega) | (go_simp; omega)⟩) hH ?_
        simp only [List.getElem_toArray, List.getElem_cons_succ, List.getElem_cons_zero, Act.put, List.setIfInBounds_toArray, List.set_cons_zero, List.set_cons_succ]
        refine wpAnyH_take (i := 7) (v := .string (bs s)) rfl (by kernel_rfl) (by kernel_rfl) (by kernel_rfl) (fun _ _ _ h => h) (.inl ⟨by rfl, fun w' hS' => by obtain ⟨s0, s1⟩ := hS'; go_simp⟩) hH ?_
        simp only [List.getElem_toArray, List.getElem_cons_succ, List.getElem_cons_zero, Act.put, List.setIfInBounds_toArray, List.set_cons_zero, List.set_cons_succ]
        refine wpAnyH_take (i := 8) (v := .int .i64 (n : Int)) rfl (by kernel_rfl) (by kernel_rfl) (by kernel_rfl) (fun _ _ _ h => h) (.inl ⟨by rfl, fun w' hS' => by first | (go_simp; done) | (go_simp; rfl) | (go_simp; intro h; omega) | (go_simp; omega)⟩) hH ?_
        simp only [List.getElem_toArray, List.getElem_cons_succ, List.getElem_cons_zero, Act.put, List.setIfInBounds_toArray, List.set_cons_zero, List.set_cons_succ]
        refine wpAnyH_take (i := 9) (v := .bool false) rfl (by kernel_rfl) (by kernel_rfl) (by kernel_rfl) (fun _ _ _ h => h) (.inl ⟨by rfl, fun w' hS' => by first | (go_simp; done) | (go_simp; rfl) | (go_simp; intro h; omega) | (go_simp; omega)⟩) hH ?_
        simp only [List.getElem_toArray, List.getElem_cons_succ, List.getElem_cons_zero, Act.put, List.setIfInBounds_toArray, List.set_cons_zero, List.set_cons_succ]
        refine wpAnyH_take (i := 10) (v := .bool false) rfl (by kernel_rfl) (by kernel_rfl) (by kernel_rfl) (fun _ _ _ h => h) (.inl ⟨by rfl, fun _ _ => rfl⟩) hH ?_
        simp only [List.getElem_toArray, List.getElem_cons_succ, List.getElem_cons_zero, Act.put, List.setIfInBounds_toArray, List.set_cons_zero, List.set_cons_succ]
        refine wpAnyH_take (i := 11) (v := undef) rfl (by kernel_rfl) (by kernel_rfl) (by kernel_rfl) (fun _ _ _ h => h) (.inr ⟨by rfl, rfl⟩) hH ?_
        simp only [List.getElem_toArray, List.getElem_cons_succ, List.getElem_cons_zero, Act.put, List.setIfInBounds_toArray, List.set_cons_zero, List.set_cons_succ]
        refine wpAnyH_take (i := 12) (v := undef) rfl (by kernel_rfl) (by kernel_rfl) (by kernel_rfl) (fun _ _ _ h => h) (.inr ⟨by rfl, rfl⟩) hH ?_
        simp only [List.getElem_toArray, List.getElem_cons_succ, List.getElem_cons_zero, Act.put, List.setIfInBounds_toArray, List.set_cons_zero, List.set_cons_succ]
        refine wpAnyH_take (i := 13) (v := undef) rfl (by kernel_rfl) (by kernel_rfl) (by kernel_rfl) (fun _ _ _ h => h) (.inr ⟨by rfl, rfl⟩) hH ?_
        simp only [List.getElem_toArray, List.getElem_cons_succ, List.getElem_cons_zero, Act.put, List.setIfInBounds_toArray, List.set_cons_zero, List.set_cons_succ]
        refine wpAnyH_take (i := 14) (v := undef) rfl (by kernel_rfl) (by kernel_rfl) (by kernel_rfl) (fun _ _ _ h => h) (.inr ⟨by rfl, rfl⟩) hH ?_
        simp only [List.getElem_toArray, List.getElem_cons_succ, List.getElem_cons_zero, Act.put, List.setIfInBounds_toArray, List.set_cons_zero, List.set_cons_succ]
        refine wpAnyH_take (i := 15) (v := undef) rfl (by kernel_rfl) (by kernel_rfl) (by kernel_rfl) (fun _ _ _ h => h) (.inr ⟨by rfl, rfl⟩) hH ?_
        simp only [List.getElem_toArray, List.getElem_cons_succ, List.getElem_cons_zero, Act.put, List.setIfInBounds_toArray, List.set_cons_zero, List.set_cons_succ]
        refine wpAnyH_take (i := 16) (v := undef) rfl (by kernel_rfl) (by kernel_rfl) (by kernel_rfl) (fun _ _ _ h => h) (.inr ⟨by rfl, rfl⟩) hH ?_
        simp only [List.getElem_toArray, List.getElem_cons_succ, List.getElem_cons_zero, Act.put, List.setIfInBounds_toArray, List.set_cons_zero, List.set_cons_succ]
        refine wpAnyH_take (i := 17) (v := undef) rfl (by kernel_rfl) (by kernel_rfl) (by kernel_rfl) (fun _ _ _ h => h) (.inr ⟨by rfl, rfl⟩) hH ?_
        simp only [List.getElem_toArray, List.getElem_cons_succ, List.getElem_cons_zero, Act.put, List.setIfInBounds_toArray, List.set_cons_zero, List.set_cons_succ]
        refine wpAnyH_take (i := 18) (v := undef) rfl (by kernel_rfl) (by kernel_rfl) (by kernel_rfl) (fun _ _ _ h => h) (.inr ⟨by rfl, rfl⟩) hH ?_
        simp only [List.getElem_toArray, List.getElem_cons_succ, List.getElem_cons_zero, Act.put, List.setIfInBounds_toArray, List.set_cons_zero, List.set_cons_succ]
        refine wpAnyH_take (i := 19) (v := undef) rfl (by kernel_rfl) (by kernel_rfl) (by kernel_rfl) (fun _ _ _ h => h) (.inr ⟨by rfl, rfl⟩) hH ?_
        simp only [List.getElem_toArray, List.getElem_cons_succ, List.getElem_cons_zero, Act.put, List.setIfInBounds_toArray, List.set_cons_zero, List.set_cons_succ]
        refine wpAnyH_take (i := 20) (v := undef) rfl (by kernel_rfl) (by kernel_rfl) (by kernel_rfl) (fun _ _ _ h => h) (.inr ⟨by rfl, rfl⟩) hH ?_
        simp only [List.getElem_toArray, List.getElem_cons_succ, List.getElem_cons_zero, Act.put, List.setIfInBounds_toArray, List.set_cons_zero, List.set_cons_succ]
        refine wpAnyH_take (i := 21) (v := .bool false) rfl (by kernel_rfl) (by kernel_rfl) (by kernel_rfl) (fun _ _ _ h => h) (.inl ⟨by rfl, fun _ _ => rfl⟩) hH ?_
        simp only [List.getElem_toArray, List.getElem_cons_succ, List.getElem_cons_zero, Act.put, List.setIfInBounds_toArray, List.set_cons_zero, List.set_cons_succ]
        refine wpAnyH_done (by kernel_rfl) ?_ _
        rw [show w2.drew = w2.drewN 1 from rfl]
        clear hH n1
        have hR3 := HR2.out.below (below_drewN (Below.refl w2.heap.size w2) 1)
        have hO3 := HO2.out.trans (OnlyB.drewN B w2 1)
        have hZ3 := HZ2.out.only (OnlyB.drewN B w2 1) hne.out
        obtain ⟨w3, H3⟩ : ∃ u, Hid (w2.drewN 1 = u) := ⟨_, rfl⟩
        rw [H3.out] at hR3 hO3 hZ3
        rw [H3.out]
        have hNm := num_any hR3 (hT.on (hO3.below.mono hB0)) hB0 hs
        clear y0 y1
        go_upto_region 7 with (go_at_call 25; refine hNm.mono ?_; rintro e w4 ⟨⟨nn, ok, d, r1, rfl, hdr, hdd, hr1, hnd, hR4⟩, hO4⟩)
        clear hNm
        have HD : Hid (S = d ++ r1) := by show _ = _; rw [← HS1.out]; exact hdr
        have Hdd : Hid (∀ b ∈ d, isDig b) := hdd
        have Hr1 : Hid (¬ HeadIs isDig r1) := hr1
        have Hnd : Hid (NumD d nn ok) := hnd
        have HSd2 : Hid (Side P (s.drop k) out least (32 :: (d ++ r1))) := by have := HSd.out; rw [HS.out, HD.out] at this; exact this
        have H622 : Hid (¬ ∃ r, d ++ r1 = 62 :: r) := by have := H62.out; rw [HD.out] at this; exact this
        have HDr : Hid (s.drop (j + 1 + d.length) = r1) := by show _ = _; rw [← List.drop_drop, hdr, List.drop_left]
        obtain ⟨m, Hm⟩ : ∃ z, Hid (j + 1 + d.length = z) := ⟨_, rfl⟩
        rw [Hm.out] at hR4 HDr
        have hjm : j + 1 ≤ m := by have := Hm.out; omega
        have hmn : m ≤ n := by have := hR4.le; rw [Hn.out] at this; exact this
        have hO5 := hO3.trans hO4
        have hZ5 := hZ3.only hO4 hne.out
        clear hdr hdd hr1 hnd hR3 hO3 hZ3 hO4
        have hSk := skip_any hR4 [42] ⟨#[42]⟩ rfl (by decide) hs
        by_cases hst : ∃ r, s.drop m = [42] ++ r
        · obtain ⟨r2, hr2⟩ := id hst
          have Hr2 : Hid (r1 = 42 :: r2) := by show _ = _; rw [← HDr.out]; exact hr2
          have HDr2 : Hid (s.drop (m + 1) = r2) := by show _ = _; rw [← List.drop_drop, hr2]; rfl
          clear hr2
          have HSd3 : Hid (Side P (s.drop k) out least (32 :: (d ++ 42 :: r2))) := by have := HSd2.out; rw [Hr2.out] at this; exact this
          have H623 : Hid (¬ ∃ r, d ++ 42 :: r2 = 62 :: r) := by have := H622.out; rw [Hr2.out] at this; exact this
          go_upto_region 9 with (go_at_call 24; refine hSk.mono ?_; rintro e w6 ⟨hSk2, hO6⟩; obtain ⟨rfl, hR6⟩ := skip_yes hSk2 hst)
          have hR6 : Rd w6 B s (m + 1) := hR6
          have hO7 := hO5.trans hO6
          have hZ7 := hZ5.only hO6 hne.out
          clear hSk hSk2 hst hR4 hO5 hO6 hZ5
          by_cases hbad : nn < 2 ∨ 9 < nn
          · have R : Hid (SideOutR w w6 B s k P (.returned (.tuple #[.slice none 0 0, .bool false]))) := side_bad (HSd3.out.star_small hP H623.out Hdd.out Hnd.out hbad) hR6
            by_cases h2 : nn < 2
            · have n1 : decide (nn < 2) = true := by rw [decide_eq_true_eq]; exact h2
              clear hbad
              go_wp2
              go_ret2
              exact ⟨R.out, hO7⟩
            · have n1 : decide (nn < 2) = false := by rw [decide_eq_false_iff_not]; exact h2
              have n2 : decide (nn > 9) = true := by rw [decide_eq_true_eq]; omega
              clear hbad
              go_wp2
              go_ret2
              exact ⟨R.out, hO7⟩
          · have n1 : decide (nn < 2) = false := by rw [decide_eq_false_iff_not]; omega
            have n2 : decide (nn > 9) = false := by rw [decide_eq_false_iff_not]; omega
            have hn2 : 2 ≤ nn := by omega
            have hn9 : nn ≤ 9 := by omega
            have hNm := num_any hR6 (hT.on (hO7.below.mono hB0)) hB0 hs
            clear hbad
            go_upto_region 13 with (go_at_call 25; refine hNm.mono ?_; rintro e w8 ⟨⟨pp, two, d2, r3, rfl, hdr, hdd, hr3, hnd, hR8⟩, hO8⟩)
            clear hNm n1 n2
            have HD2 : Hid (r2 = d2 ++ r3) := by show _ = _; rw [← HDr2.out]; exact hdr
            have HSd4 : Hid (Side P (s.drop k) out least (32 :: (d ++ 42 :: (d2 ++ r3)))) := by have := HSd3.out; rw [HD2.out] at this; exact this
            have H624 : Hid (¬ ∃ r, d ++ 42 :: (d2 ++ r3) = 62 :: r) := by have := H623.out; rw [HD2.out] at this; exact this
            have HDr3 : Hid (s.drop (m + 1 + d2.length) = r3) := by show _ = _; rw [← List.drop_drop, hdr, List.drop_left]
            have Hdd2 : Hid (∀ b ∈ d2, isDig b) := hdd
            have Hr3 : Hid (¬ HeadIs isDig r3) := hr3
            have Hnd2 : Hid (NumD d2 pp two) := hnd
            obtain ⟨m2, Hm2⟩ : ∃ z, Hid (m + 1 + d2.length = z) := ⟨_, rfl⟩
            rw [Hm2.out] at hR8 HDr3
            have hm2 : m < m2 := by have := Hm2.out; omega
            have hm2n : m2 ≤ n := by have := hR8.le; rw [Hn.out] at this; exact this
            have hO9 := hO7.trans hO8
            have hZ9 := hZ7.only hO8 hne.out
            clear hdr hdd hr3 hnd hR6 hO7 hZ7 hO8
            by_cases hgood : ok = true ∧ two = true ∧ (least : Int) ≤ pp ∧ pp < (P : Int)
            · obtain ⟨rfl, rfl, hp1, hp2⟩ := hgood
              obtain ⟨q, rfl⟩ : ∃ q : Nat, pp = (q : Int) := ⟨pp.toNat, by omega⟩
              have hq1 : least ≤ q := by omega
              have hq2 : q < P := by omega
              have HSn : Hid (Side P (s.drop k) (out.set q nn) (q + 1) (s.drop m2)) := by
                show Side _ _ _ _ _
                rw [HDr3.out]
                refine HSd4.out.star_next Hr3.out ?_ hn2 hn9 ?_ hq1 hq2
                · rcases Hnd.out with ⟨_, _, e⟩ | ⟨e, _⟩
                  · exact e
                  · cases e
                · rcases Hnd2.out with ⟨_, _, e⟩ | ⟨e, _⟩
                  · exact e
                  · cases e
              exfalso
              omega
            · have R : Hid (SideOutR w w8 B s k P (.returned (.tuple #[.slice none 0 0, .bool false]))) := side_bad (HSd4.out.star_fail hP H624.out Hdd.out Hdd2.out Hr3.out Hnd.out Hnd2.out (by
                cases ok
                · exact .inl rfl
                · cases two
                  · exact .inr (.inl rfl)
                  · by_cases q1 : pp < least
                    · exact .inr (.inr (.inl q1))
                    · exact .inr (.inr (.inr (by
                        apply Classical.byContradiction
                        intro q2
                        exact hgood ⟨rfl, rfl, by omega, by omega⟩))))) hR8
              cases ok
              · clear hgood
                go_wp2
                go_ret2
                exact ⟨R.out, hO9⟩
              · cases two
                · clear hgood
                  go_wp2
                  go_ret2
                  exact ⟨R.out, hO9⟩
                · have wl : True := trivial
                  by_cases q1 : pp ≤ (least : Int) - 1
                  · have n3 : decide (pp ≤ (least : Int) - 1) = true := by rw [decide_eq_true_eq]; exact q1
                    clear hgood
                    go_wp2
                    go_ret2
                    exact ⟨R.out, hO9⟩
                  · have n3 : decide (pp ≤ (least : Int) - 1) = false := by rw [decide_eq_false_iff_not]; exact q1
                    have n4 : decide (pp ≥ (P : Int)) = true := by
                      rw [decide_eq_true_eq]
                      apply Classical.byContradiction
                      intro q2
                      exact hgood (by simp only [true_and]; omega)
                    clear hgood
                    go_wp2
                    go_ret2
                    exact ⟨R.out, hO9⟩
        · have hR5 := hR4
          have H42 : Hid (¬ HeadIs (· = 42) r1) := by
            rintro ⟨b, r, e, hb⟩
            exact hst ⟨r, by rw [HDr.out, e, hb]; rfl⟩
          go_upto_region 15 with (go_at_call 24; refine hSk.mono ?_; rintro e w6 ⟨hSk2, hO6⟩; obtain ⟨rfl, hR6⟩ := skip_no hSk2 hst)
          have hO9 := hO5.trans hO6
          have hZ9 := hZ5.only hO6 hne.out
          clear hSk hSk2 hst hR4 hR5 hO5 hO6 hZ5
          by_cases hgood : ok = true ∧ (least : Int) ≤ nn ∧ nn < (P : Int)
          · obtain ⟨rfl, hp1, hp2⟩ := hgood
            obtain ⟨q, rfl⟩ : ∃ q : Nat, nn = (q : Int) := ⟨nn.toNat, by omega⟩
            have hq1 : least ≤ q := by omega
            have hq2 : q < P := by omega
            have HSn : Hid (Side P (s.drop k) (out.set q 1) (q + 1) (s.drop m)) := by
              show Side _ _ _ _ _
              rw [HDr.out]
              refine HSd2.out.plain_next Hdd.out Hr1.out H42.out ?_ hq1 hq2
              rcases Hnd.out with ⟨_, _, e⟩ | ⟨e, _⟩
              · exact e
              · cases e
            have hlo := HSn.out.ok.1
            have hlo2 : out.length = P := by rw [List.length_set] at hlo; exact hlo
            have c0 := hZ9.cells q hq2
            have c1 := hZ9.frozen q hq2
            have hZn := hZ9.put (g := nth (out.set q 1)) hq2 (x := 1) (by simp [nth, List.getD_eq_getElem?_getD, List.getElem?_set_self, hlo2, hq2]) (fun i _ hi => by simp [nth, List.getD_eq_getElem?_getD, List.getElem?_set_ne (Ne.symm hi)])
            have hRn := hR6.other hne.out q (.int .i64 1)
            have hOn := hO9.put (Br := Br) (off := q) (Nat.le_of_lt hBB.out) (Nat.le_of_eq HBr.out) (.int .i64 1)
            have n3 : decide ((q : Int) ≤ (least : Int) - 1) = false := by rw [decide_eq_false_iff_not]; omega
            have n4 : decide ((q : Int) ≥ (P : Int)) = false := by rw [decide_eq_false_iff_not]; omega
            have hqP : (q : Int) < (P : Int) := by omega
            clear hR6 hO9 hZ9 hlo hlo2 hp1 hp2
            go_wp2
            go_roundg (n - m)
            case measure => omega
            case rel => exact ⟨m, q + 1, _, by go_num, by omega, hRn, hOn, hZn, HSn.out⟩
          · have R : Hid (SideOutR w w6 B s k P (.returned (.tuple #[.slice none 0 0, .bool false]))) := side_bad (HSd2.out.plain_fail hP H622.out Hdd.out Hr1.out H42.out Hnd.out (by
              cases ok
              · exact .inl rfl
              · by_cases q1 : nn < least
                · exact .inr (.inl q1)
                · exact .inr (.inr (by
                    apply Classical.byContradiction
                    intro q2
                    exact hgood ⟨rfl, by omega, by omega⟩)))) hR6
            cases ok
            · clear hgood
              go_wp2
              go_ret2
              exact ⟨R.out, hO9⟩
            · have wl : True := trivial
              by_cases q1 : nn ≤ (least : Int) - 1
              · have n3 : decide (nn ≤ (least : Int) - 1) = true := by rw [decide_eq_true_eq]; exact q1
                clear hgood
                go_wp2
                go_ret2
                exact ⟨R.out, hO9⟩
              · have n3 : decide (nn ≤ (least : Int) - 1) = false := by rw [decide_eq_false_iff_not]; exact q1
                have n4 : decide (nn ≥ (P : Int)) = true := by
                  rw [decide_eq_true_eq]
                  apply Classical.byContradiction
                  intro q2
                  exact hgood (by simp only [true_and]; omega)
                clear hgood
                go_wp2
                go_ret2
                exact ⟨R.out, hO9⟩
    · have R := fun w' (hR : Rd w' B s j) (hZ' : RowZ Br w' P (nth out)) => side_good (w := w) HSd.out (.inl (by
        rintro ⟨b, r, e, hb⟩
        exact hp ⟨r, by rw [e, hb]; rfl⟩)) hR hZ' hP (Nat.le_of_eq HBr.out)
      go_wp2_with (go_at_call 24; refine hSk.mono ?_; rintro e w2 ⟨hSk2, hO2⟩; obtain ⟨rfl, hR2⟩ := skip_no hSk2 hp)
      go_ret2
      exact ⟨R _ hR2 (hZ.only hO2 hne.out), hO.trans hO2⟩

end Go.Proofs.YteeogdihaajicaaDoor
