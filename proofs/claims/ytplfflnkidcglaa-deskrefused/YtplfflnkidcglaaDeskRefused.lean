/- The law DeskRefused, walked. (Made by tools/gen_deskrefused.py.) -/
import Derived.Test.YtplfflnkidcglaaGr18
import Derived.Test.YtplfflnkidcglaaSlices2
import Derived.Test.YtplfflnkidcglaaGr00
import Derived.Test.YtplfflnkidcglaaGr01
import Derived.Test.YtplfflnkidcglaaGr04
import Derived.Deep.RegionHeld3
namespace Go.Proofs.Ytplfflnkidcglaa
open Go.RowKit
set_option linter.unusedVariables false
set_option linter.unusedSimpArgs false
set_option maxRecDepth 4000

set_option maxHeartbeats 8000000 in
theorem deskRefused_walk (v r u : Value) (n : NetL) (i : Int) (roles : List (List Int)) (os : List DOp) (w : World) (hv : Net w v n) (hr : Lists w r roles) (hu : DOpsV w u os) :
    Calls Try.prog 7 #[v, .int .i64 i, r, u] w fun e w' => e = .returned (.bool true) ∧ Below w.heap.size w w' := by
  obtain ⟨tv, rfl, hT⟩ := hv
  have c := below_new w (.cells #[.int .i64 n.places, tv] 24)
  have hbx := box2_new w (.int .i64 n.places) tv 24
  have hv : Net _ (.agg #[.int .i64 n.places, tv]) n := ⟨_, rfl, hT.below c⟩
  replace hT := hT.below c
  replace hr := hr.below c
  replace hu := hu.below c
  obtain ⟨w0, Hw0⟩ : ∃ w0, Hid (w.alloc (.cells #[.int .i64 n.places, tv] 24) = w0) := ⟨_, rfl⟩
  rw [Hw0.out] at c hbx hv hT hr hu
  go_enter Try.func7, Try.ntmps7
  go_upto_region 1 with fail
  rw [Hw0.out]
  clear Hw0
  go_wp2_with fail
  refine (alive17_any w0).mono ?_
  rintro e w1 ⟨rfl, b⟩
  replace c := below_then c b
  replace hv := hv.below b
  replace hT := hT.below b
  replace hr := hr.below b
  replace hu := hu.below b
  replace hbx := hbx.below b
  clear b
  obtain ⟨x0, x1, x2⟩ := id hbx
  go_wp2_with fail
  refine (desk_play _ _ _ n i roles os w1 (by exact hv) (by exact hr) (by exact hu)).mono ?_
  rintro e w2 ⟨rv, la, lc, rfl, hD, hA, b⟩
  replace c := below_then c b
  replace hv := hv.below b
  replace hT := hT.below b
  replace hr := hr.below b
  replace hu := hu.below b
  replace hbx := hbx.below b
  clear b x0 x1 x2
  have HDE : Hid (((deskAll n i roles os).2.2 ≠ 0 ∧ deskAll n i roles os = (noDesk, [], (deskAll n i roles os).2.2)) ∨ (deskAll n i roles os = ((deskPlay n roles (deskBegin n i) os).1, (deskPlay n roles (deskBegin n i) os).2, 0) ∧ (beginC n i).2 = 0)) := by
    by_cases h : (beginC n i).2 = 0
    · exact .inr ⟨by unfold deskAll; rw [if_pos h], h⟩
    · refine .inl ⟨?_, ?_⟩
      · unfold deskAll; rw [if_neg h]; exact h
      · unfold deskAll; rw [if_neg h]
  obtain ⟨D, HD⟩ : ∃ D, Hid (deskAll n i roles os = D) := ⟨_, rfl⟩
  rw [HD.out] at hD hA HDE ⊢
  obtain ⟨dk, ans, E⟩ := D
  simp only at hD hA HDE
  simp only
  obtain ⟨d1, l1, p1, d2, l2, p2, ia, ic, rfl, h1, h2, h3⟩ := hD
  obtain ⟨il, Hil⟩ : ∃ il, Hid (dk.items.length = il) := ⟨_, rfl⟩
  rw [Hil.out] at h3 ⊢
  have bn := below_new w2 (.cells #[.slice d1 l1 p1, .slice d2 l2 p2, .slice ia il ic] 32)
  have hb3 := box3_new w2 (.slice d1 l1 p1) (.slice d2 l2 p2) (.slice ia il ic) 32
  obtain ⟨B3, HB3⟩ : ∃ B, Hid (w2.heap.size = B) := ⟨_, rfl⟩
  rw [HB3.out] at hb3
  obtain ⟨w3, H3⟩ : ∃ w3, Hid (w2.alloc (.cells #[.slice d1 l1 p1, .slice d2 l2 p2, .slice ia il ic] 32) = w3) := ⟨_, rfl⟩
  rw [H3.out] at bn hb3
  replace c := below_then c bn
  replace hv := hv.below bn
  replace hT := hT.below bn
  replace hr := hr.below bn
  replace hu := hu.below bn
  replace hbx := hbx.below bn
  replace hA := hA.below bn
  replace h1 := h1.below bn
  replace h2 := h2.below bn
  replace h3 := h3.below bn
  clear bn
  go_upto_region 4 with fail
  rw [H3.out, HB3.out]
  clear H3
  obtain ⟨z0, z1, z2, z3⟩ := id hb3
  rcases HDE.out with ⟨hE, hnd⟩ | ⟨hok, hbeg⟩
  · have hE' : (E != 0) = true := by simpa using hE
    have e0 : dk = noDesk := by injection hnd
    obtain rfl : il = 0 := by rw [← Hil.out, e0]; rfl
    clear HDE hnd hE hA h1 h2 h3 hT hr hu hv e0
    go_wp2
    go_ret
    exact ⟨rfl, c⟩
  · have e0 : dk = (deskPlay n roles (deskBegin n i) os).1 := by injection hok
    have e1 : ans = (deskPlay n roles (deskBegin n i) os).2 := by injection hok with _ h; injection h
    have e2 : E = 0 := by injection hok with _ h; injection h
    subst e2
    have HInv : Hid (DeskInv n roles dk) := by show DeskInv n roles dk; rw [e0]; exact (desk_begin roles hbeg).play os
    obtain ⟨ta, len, tc, rfl, hlen, hmx, hsh, _⟩ := id hT
    have Hlen : Hid (n.trans.length = len) := hlen
    have hcap : len ≤ tc := hsh.1
    have hcap2 : tc ≤ 9223372036854775807 := hsh.2.1
    clear hlen hsh HDE
    have HG : Hid _ := good_same n roles (deskBegin n i) os os.length (Nat.le_refl _)
    have HA1 : Hid (∀ k, k < os.length → dansAt ans k = (deskDo n roles (deskAt n roles (deskBegin n i) os k) (dopAt os k)).2) := fun k hk => by rw [e1]; exact ans_at n roles (deskBegin n i) hk
    rw [deskAt_all n roles _ (Nat.le_refl _), ← e0] at HG
    have HLa : Hid (ans.length = os.length) := by show _ = _; rw [e1, desk_length]
    obtain ⟨ua, uc, rfl, hul, hus⟩ := hu.slice
    obtain ⟨len2, Hlen2⟩ : ∃ l, Hid (os.length = l) := ⟨_, rfl⟩
    rw [HLa.out, Hlen2.out] at hA
    rw [Hlen2.out] at hu hul hus HG HA1
    rw [HLa.out, Hlen2.out]
    have HAll : Hid (∀ gs, deskAll n i roles gs = ((deskPlay n roles (deskBegin n i) gs).1, (deskPlay n roles (deskBegin n i) gs).2, 0)) := fun gs => by unfold deskAll; rw [if_pos hbeg]
    have huc1 : len2 ≤ uc := hus.1
    have huc2 : uc ≤ 9223372036854775807 := hus.2.1
    clear hok e0 e1 HInv hbeg HD
    obtain ⟨gd, Hgd⟩ : ∃ gd : Nat → List DOp × List DAns, Hid (gd = goodTo n roles (deskBegin n i) os) := ⟨_, rfl⟩
    have Hg0 : Hid (gd 0 = ([], [])) := by show _ = _; rw [Hgd.out]; rfl
    have HY0 : Hid (∀ k, k < len2 → (dansAt ans k).err = 0 → gd (k + 1) = ((gd k).1 ++ [dopAt os k], (gd k).2 ++ [dansAt ans k])) := fun k hk h => by
      rw [Hgd.out]
      rw [HA1.out k hk] at h ⊢
      show (if _ then _ else _) = _
      rw [if_pos h]
    have HN0 : Hid (∀ k, k < len2 → (dansAt ans k).err ≠ 0 → gd (k + 1) = gd k) := fun k hk h => by
      rw [Hgd.out]
      rw [HA1.out k hk] at h
      show (if _ then _ else _) = _
      rw [if_neg h]
    have HLe : Hid (∀ k, (gd k).1.length ≤ k ∧ (gd k).2.length ≤ k) := fun k => by rw [Hgd.out]; exact goodTo_le n roles (deskBegin n i) os k
    rw [← Hgd.out] at HG
    clear HA1 Hgd
    go_wp2_with fail
    go_loopg [12, 13, 43] len2 (fun gk gv wv k' wr => ∃ k : Nat, k + gk = len2 ∧ k' = .int .i64 (k : Int) ∧ TwoG w3.heap.size w3 wr 51 5 gv (gd k).1.length (dopCells (gd k).1) 40 2 wv (ansL (gd k).2).length (ansC (ansL (gd k).2)))
    case atStart => exact ⟨0, by omega, rfl, by rw [Hg0.out]; exact TwoG.start w3 _ _ _ _⟩
    case round =>
      obtain ⟨k, hkg, rfl, hTw⟩ := hrel
      by_cases hkn : k < len2
      · obtain ⟨bo, oo, rfl, hlto, o0, o1, o2, o3, o4⟩ := (hu.below hTw.below).at hkn
        obtain ⟨bA, oA, rfl, hltA, a0, a1⟩ := (hA.below hTw.below).at hkn
        rw [ansL_at] at a0 a1
        simp only at a0 a1
        have HY : Hid _ := HY0.out k hkn
        have HN : Hid _ := HN0.out k hkn
        have hle := HLe.out k
        rw [← ansL_length (gd k).2] at hle
        obtain ⟨O, HO⟩ : ∃ O, Hid (dopAt os k = O) := ⟨_, rfl⟩
        obtain ⟨Ak, HAk⟩ : ∃ A, Hid (dansAt ans k = A) := ⟨_, rfl⟩
        rw [HO.out] at o0 o1 o2 o3 o4 HY
        rw [HAk.out] at a0 a1 HY HN
        obtain ⟨kd, us, tr, im, hn⟩ := O
        obtain ⟨ex, ix⟩ := Ak
        simp only at o0 o1 o2 o3 o4 a0 a1 HY HN
        have hltA3 : bA < w3.heap.size := by obtain ⟨_, _, e, h, _⟩ := hA.at hkn; injection e with e; injection e with e1 e2; rw [e1]; exact h
        clear HO HAk
        have bn := below_new wr (.cells #[.int .i64 kd, .int .i64 us, .int .i64 tr, .int .i64 im, .int .i64 hn] 51)
        have hblk : (wr.alloc (.cells #[.int .i64 kd, .int .i64 us, .int .i64 tr, .int .i64 im, .int .i64 hn] 51)).heap[wr.heap.size]? = some (.cells #[.int .i64 kd, .int .i64 us, .int .i64 tr, .int .i64 im, .int .i64 hn] 51 (0, 0)) := by
          show (wr.heap.push _)[wr.heap.size]? = _
          simp
        obtain ⟨Bt, HBt⟩ : ∃ B, Hid (wr.heap.size = B) := ⟨_, rfl⟩
        have hBs : w3.heap.size ≤ Bt := by rw [← HBt.out]; exact hTw.size
        have Hl1 : Hid (∀ q, u12.ownBlock = some q → q < Bt) := fun q hq => by rw [← HBt.out]; exact (ownsRow_lt hTw.own1 hq).2
        have Hl2 : Hid (∀ q, u13.ownBlock = some q → q < Bt) := fun q hq => by rw [← HBt.out]; exact (ownsRow_lt hTw.own2 hq).2
        have Hm1 : Hid (∀ q, u12.ownBlock = some q → w3.heap.size ≤ q) := fun q hq => (ownsRow_lt hTw.own1 hq).1
        have Hm2 : Hid (∀ q, u13.ownBlock = some q → w3.heap.size ≤ q) := fun q hq => (ownsRow_lt hTw.own2 hq).1
        obtain ⟨w5, H5⟩ : ∃ w5, Hid (wr.alloc (.cells #[.int .i64 kd, .int .i64 us, .int .i64 tr, .int .i64 im, .int .i64 hn] 51) = w5) := ⟨_, rfl⟩
        rw [H5.out] at bn hblk
        rw [HBt.out] at hblk
        replace hTw := hTw.to bn
        replace a0 := (bn.cell (p := ⟨bA, oA + k * 2, none⟩) hltA).trans a0
        replace a1 := (bn.cell (p := ⟨bA, oA + k * 2 + 1, none⟩) hltA).trans a1
        have hltA5 := Nat.lt_of_lt_of_le hltA bn.size
        have y0 : Bt < w5.heap.size := (Array.getElem?_eq_some_iff.1 hblk).1
        go_upto_region 11 with fail
        rw [H5.out, HBt.out]
        clear H5 o0 o1 o2 o3 o4 bn
        by_cases hex : ex = 0
        · subst hex
          have HSk : Hid (∀ w' w'' : World, (w'.cell? ⟨Bt, 0, none⟩ = some (.int .i64 kd) ∧ w'.cell? ⟨Bt, 1, none⟩ = some (.int .i64 us) ∧ w'.cell? ⟨Bt, 2, none⟩ = some (.int .i64 tr) ∧ w'.cell? ⟨Bt, 3, none⟩ = some (.int .i64 im) ∧ w'.cell? ⟨Bt, 4, none⟩ = some (.int .i64 hn) ∧ w'.cell? ⟨bA, oA + k * 2, none⟩ = some (.int .i64 0) ∧ w'.cell? ⟨bA, oA + k * 2 + 1, none⟩ = some (.int .i64 ix)) → w''.heap[Bt]? = w'.heap[Bt]? → w''.heap[bA]? = w'.heap[bA]? → w''.cell? ⟨Bt, 0, none⟩ = some (.int .i64 kd) ∧ w''.cell? ⟨Bt, 1, none⟩ = some (.int .i64 us) ∧ w''.cell? ⟨Bt, 2, none⟩ = some (.int .i64 tr) ∧ w''.cell? ⟨Bt, 3, none⟩ = some (.int .i64 im) ∧ w''.cell? ⟨Bt, 4, none⟩ = some (.int .i64 hn) ∧ w''.cell? ⟨bA, oA + k * 2, none⟩ = some (.int .i64 0) ∧ w''.cell? ⟨bA, oA + k * 2 + 1, none⟩ = some (.int .i64 ix)) := fun w' w'' ⟨q1, q2, q3, q4, q5, q6, q7⟩ e1 e2 =>
            ⟨(cell_kept (p := ⟨Bt, 0, none⟩) e1).trans q1, (cell_kept (p := ⟨Bt, 1, none⟩) e1).trans q2, (cell_kept (p := ⟨Bt, 2, none⟩) e1).trans q3, (cell_kept (p := ⟨Bt, 3, none⟩) e1).trans q4, (cell_kept (p := ⟨Bt, 4, none⟩) e1).trans q5, (cell_kept (p := ⟨bA, oA + k * 2, none⟩) e2).trans q6, (cell_kept (p := ⟨bA, oA + k * 2 + 1, none⟩) e2).trans q7⟩
          have hS5 : w5.cell? ⟨Bt, 0, none⟩ = some (.int .i64 kd) ∧ w5.cell? ⟨Bt, 1, none⟩ = some (.int .i64 us) ∧ w5.cell? ⟨Bt, 2, none⟩ = some (.int .i64 tr) ∧ w5.cell? ⟨Bt, 3, none⟩ = some (.int .i64 im) ∧ w5.cell? ⟨Bt, 4, none⟩ = some (.int .i64 hn) ∧ w5.cell? ⟨bA, oA + k * 2, none⟩ = some (.int .i64 0) ∧ w5.cell? ⟨bA, oA + k * 2 + 1, none⟩ = some (.int .i64 ix) := ⟨by simp [World.cell?, hblk], by simp [World.cell?, hblk], by simp [World.cell?, hblk], by simp [World.cell?, hblk], by simp [World.cell?, hblk], a0, a1⟩
          have bd : Below w5.heap.size w5 w5.drew := (Below.refl _ _).drew
          obtain ⟨wd, Hwd⟩ : ∃ wd, Hid (w5.drew = wd) := ⟨_, rfl⟩
          rw [Hwd.out] at bd
          have hS0 := HSk.out _ _ hS5 (bd.block _ y0) (bd.block _ hltA5)
          replace hTw := hTw.to bd
          have hlB : Bt < wd.heap.size ∧ bA < wd.heap.size := ⟨Nat.lt_of_lt_of_le y0 bd.size, Nat.lt_of_lt_of_le hltA5 bd.size⟩
          have hS := hS0
          have dop_row : dopCells [⟨kd, us, tr, im, hn⟩] = [.int .i64 kd, .int .i64 us, .int .i64 tr, .int .i64 im, .int .i64 hn] := rfl
          have ans_row : ansC (ansL [⟨0, ix⟩]) = [.int .i64 0, .int .i64 ix] := rfl
          clear hS5 bd hblk
          go_upto_region 12 with fail
          clear a0 a1
          refine wp_region_held_drew (S := (fun w' => w'.cell? ⟨Bt, 0, none⟩ = some (.int .i64 kd) ∧ w'.cell? ⟨Bt, 1, none⟩ = some (.int .i64 us) ∧ w'.cell? ⟨Bt, 2, none⟩ = some (.int .i64 tr) ∧ w'.cell? ⟨Bt, 3, none⟩ = some (.int .i64 im) ∧ w'.cell? ⟨Bt, 4, none⟩ = some (.int .i64 hn) ∧ w'.cell? ⟨bA, oA + k * 2, none⟩ = some (.int .i64 0) ∧ w'.cell? ⟨bA, oA + k * 2 + 1, none⟩ = some (.int .i64 ix))) (by kernel_rfl) (by rw [Hwd.out]; exact hS0) (fun hH => ?_)
          rw [Hwd.out]
          clear hH
          have hH := hS0
          refine wpAnyH_take (i := 0) (v := u12) rfl (by kernel_rfl) (by kernel_rfl) (by kernel_rfl) (fun _ _ _ h => h) (.inl ⟨by rfl, fun _ _ => rfl⟩) hH ?_
          simp only [List.getElem_toArray, List.getElem_cons_succ, List.getElem_cons_zero, Act.put, List.setIfInBounds_toArray, List.set_cons_zero, List.set_cons_succ]
          refine wpAnyH_take (i := 1) (v := .agg #[.int .i64 kd, .int .i64 us, .int .i64 tr, .int .i64 im, .int .i64 hn]) rfl (by kernel_rfl) (by kernel_rfl) (by kernel_rfl) (fun _ _ _ h => h) (.inl ⟨by rfl, fun w' hS' => by obtain ⟨s1, s2, s3, s4, s5, s6, s7⟩ := hS'; go_simp⟩) hH ?_
          simp only [List.getElem_toArray, List.getElem_cons_succ, List.getElem_cons_zero, Act.put, List.setIfInBounds_toArray, List.set_cons_zero, List.set_cons_succ]
          refine wpAnyH_take (i := 4) (v := u13) rfl (by kernel_rfl) (by kernel_rfl) (by kernel_rfl) (fun _ _ _ h => h) (.inl ⟨by rfl, fun _ _ => rfl⟩) hH ?_
          simp only [List.getElem_toArray, List.getElem_cons_succ, List.getElem_cons_zero, Act.put, List.setIfInBounds_toArray, List.set_cons_zero, List.set_cons_succ]
          refine wpAnyH_take (i := 5) (v := .slice (some ⟨bA, oA, none⟩) len2 lc) rfl (by kernel_rfl) (by kernel_rfl) (by kernel_rfl) (fun _ _ _ h => h) (.inl ⟨by rfl, fun _ _ => rfl⟩) hH ?_
          simp only [List.getElem_toArray, List.getElem_cons_succ, List.getElem_cons_zero, Act.put, List.setIfInBounds_toArray, List.set_cons_zero, List.set_cons_succ]
          refine wpAnyH_take (i := 6) (v := .int .i64 (k : Int)) rfl (by kernel_rfl) (by kernel_rfl) (by kernel_rfl) (fun _ _ _ h => h) (.inl ⟨by rfl, fun _ _ => rfl⟩) hH ?_
          simp only [List.getElem_toArray, List.getElem_cons_succ, List.getElem_cons_zero, Act.put, List.setIfInBounds_toArray, List.set_cons_zero, List.set_cons_succ]
          refine wpAnyH_take (i := 7) (v := .pointer (some ⟨bA, oA + k * 2, none⟩)) rfl (by kernel_rfl) (by kernel_rfl) (by kernel_rfl) (fun _ _ _ h => h) (.inl ⟨by rfl, fun w' hS' => by first | (go_simp; done) | (go_simp; rfl) | (go_simp; intro h; omega) | (go_simp; omega)⟩) hH ?_
          simp only [List.getElem_toArray, List.getElem_cons_succ, List.getElem_cons_zero, Act.put, List.setIfInBounds_toArray, List.set_cons_zero, List.set_cons_succ]
          refine wpAnyH_take (i := 8) (v := .agg #[.int .i64 0, .int .i64 ix]) rfl (by kernel_rfl) (by kernel_rfl) (by kernel_rfl) (fun _ _ _ h => h) (.inl ⟨by rfl, fun w' hS' => by obtain ⟨s1, s2, s3, s4, s5, s6, s7⟩ := hS'; go_simp⟩) hH ?_
          simp only [List.getElem_toArray, List.getElem_cons_succ, List.getElem_cons_zero, Act.put, List.setIfInBounds_toArray, List.set_cons_zero, List.set_cons_succ]
          refine wpAnyH_ready (rs := [2, 9]) (by kernel_rfl) (by simp) ?_
          refine (AllReadyH.cons rfl (fun K hK => ?_) (AllReadyH.cons rfl (fun K hK => ?_) AllReadyH.nil))
          · simp only [List.getElem_toArray, List.getElem_cons_succ, List.getElem_cons_zero]
            rw [if_pos (by rfl)]
            have bn := below_new wd (.cells #[.int .i64 kd, .int .i64 us, .int .i64 tr, .int .i64 im, .int .i64 hn] 51)
            have N2 : (wd.alloc (.cells #[.int .i64 kd, .int .i64 us, .int .i64 tr, .int .i64 im, .int .i64 hn] 51)).heap[wd.heap.size]? = some (.cells #[.int .i64 kd, .int .i64 us, .int .i64 tr, .int .i64 im, .int .i64 hn] 51 (0, 0)) := by
              show (wd.heap.push _)[wd.heap.size]? = _
              simp
            obtain ⟨B2, HB2⟩ : ∃ B, Hid (wd.heap.size = B) := ⟨_, rfl⟩
            have hB2 : Bt < B2 := by rw [← HB2.out]; exact hlB.1
            obtain ⟨wa, Hwa⟩ : ∃ w', Hid (wd.alloc (.cells #[.int .i64 kd, .int .i64 us, .int .i64 tr, .int .i64 im, .int .i64 hn] 51) = w') := ⟨_, rfl⟩
            rw [Hwa.out] at bn N2
            rw [HB2.out] at N2
            go_wp2_with fail
            rw [Hwa.out, HB2.out]
            replace hTw := hTw.to bn
            replace hS := HSk.out _ _ hS (bn.block _ hlB.1) (bn.block _ hlB.2)
            replace hlB := And.intro (Nat.lt_of_lt_of_le hlB.1 bn.size) (Nat.lt_of_lt_of_le hlB.2 bn.size)
            refine hK.out _ _ hS (fun hH => ?_)
            clear bn hK Hwa
            refine wpAnyH_ready (rs := [3, 9]) (by kernel_rfl) (by simp) ?_
            refine (AllReadyH.cons rfl (fun K hK => ?_) (AllReadyH.cons rfl (fun K hK => ?_) AllReadyH.nil))
            · simp only [List.getElem_toArray, List.getElem_cons_succ, List.getElem_cons_zero]
              obtain ⟨i0, hi, hz0, hz1, hz2⟩ := info_parts info_dop
              refine wpr_append_twoG (by rfl) _ _ 26 rfl w3.heap.size w3 wa 51 _ 5 _ _ _ 40 u12 _ _ _ i0 _ Try.underlying26 hi hz0 hz1 hz2 rfl (by decide) hTw B2 [.int .i64 kd, .int .i64 us, .int .i64 tr, .int .i64 im, .int .i64 hn] rfl rfl rfl (fun j c hj => by simp [World.cell?, N2]; simpa using hj) (fun c hc => by simp at hc; rcases hc with rfl | rfl | rfl | rfl | rfl <;> rfl) (by unfold maxLen; omega) (by omega) ?_
              intro v1 wb hTw' hkp
              have hne : ∀ q, Bt ≤ q → u12.ownBlock ≠ some q := fun q hq e => by have := Hl1.out q e; omega
              have hneA : u12.ownBlock ≠ some bA := fun e => by have := Hm1.out bA e; omega
              replace hS := HSk.out _ _ hS (hkp.2 _ hlB.1 (hne _ (Nat.le_refl _))) (hkp.2 _ hlB.2 hneA)
              replace hlB := And.intro (Nat.lt_of_lt_of_le hlB.1 hkp.1) (Nat.lt_of_lt_of_le hlB.2 hkp.1)
              have hl2 : B2 < wa.heap.size := (Array.getElem?_eq_some_iff.1 N2).1
              replace N2 := (hkp.2 _ hl2 (hne _ (Nat.le_of_lt hB2))).trans N2
              clear hl2
              clear hTw
              have hTw := hTw'
              clear hTw' hkp hne hneA i0 hi hz0 hz1 hz2
              refine hK.out _ _ hS (fun hH => ?_)
              clear hK
              refine wpAnyH_ready (rs := [9]) (by kernel_rfl) (by simp) ?_
              refine AllReadyH.cons rfl (fun K hK => ?_) AllReadyH.nil
              simp only [List.getElem_toArray, List.getElem_cons_succ, List.getElem_cons_zero]
              rw [if_pos (by rfl)]
              have bn := below_new wb (.cells #[.int .i64 0, .int .i64 ix] 40)
              have N9 : (wb.alloc (.cells #[.int .i64 0, .int .i64 ix] 40)).heap[wb.heap.size]? = some (.cells #[.int .i64 0, .int .i64 ix] 40 (0, 0)) := by
                show (wb.heap.push _)[wb.heap.size]? = _
                simp
              obtain ⟨B9, HB9⟩ : ∃ B, Hid (wb.heap.size = B) := ⟨_, rfl⟩
              have hB9 : Bt < B9 := by rw [← HB9.out]; exact hlB.1
              obtain ⟨wc, Hwc⟩ : ∃ w', Hid (wb.alloc (.cells #[.int .i64 0, .int .i64 ix] 40) = w') := ⟨_, rfl⟩
              rw [Hwc.out] at bn N9
              rw [HB9.out] at N9
              go_wp2_with fail
              rw [Hwc.out, HB9.out]
              replace hTw := hTw.to bn
              replace hS := HSk.out _ _ hS (bn.block _ hlB.1) (bn.block _ hlB.2)
              replace hlB := And.intro (Nat.lt_of_lt_of_le hlB.1 bn.size) (Nat.lt_of_lt_of_le hlB.2 bn.size)
              have hl2 : B2 < wb.heap.size := (Array.getElem?_eq_some_iff.1 N2).1
              replace N2 := (bn.block _ hl2).trans N2
              clear hl2
              refine hK.out _ _ hS (fun hH => ?_)
              clear bn hK Hwc
              refine wpAnyH_ready (rs := [10]) (by kernel_rfl) (by simp) ?_
              refine AllReadyH.cons rfl (fun K hK => ?_) AllReadyH.nil
              simp only [List.getElem_toArray, List.getElem_cons_succ, List.getElem_cons_zero]
              obtain ⟨i0, hi, hz0, hz1, hz2⟩ := info_parts info_dans
              refine wpr_append_twoG (by rfl) _ _ 33 rfl w3.heap.size w3 wc 40 _ 2 _ _ _ 16 u13 _ _ _ i0 _ Try.underlying33 hi hz0 hz1 hz2 rfl (by decide) hTw.swap B9 [.int .i64 0, .int .i64 ix] rfl rfl rfl (fun j c hj => by simp [World.cell?, N9]; simpa using hj) (fun c hc => by simp at hc; rcases hc with rfl | rfl <;> rfl) (by unfold maxLen; omega) (by omega) ?_
              intro v2 we hTw' hkp
              have hne : ∀ q, Bt ≤ q → u13.ownBlock ≠ some q := fun q hq e => by have := Hl2.out q e; omega
              have hneA : u13.ownBlock ≠ some bA := fun e => by have := Hm2.out bA e; omega
              replace hS := HSk.out _ _ hS (hkp.2 _ hlB.1 (hne _ (Nat.le_refl _))) (hkp.2 _ hlB.2 hneA)
              replace hlB := And.intro (Nat.lt_of_lt_of_le hlB.1 hkp.1) (Nat.lt_of_lt_of_le hlB.2 hkp.1)
              have hl2 : B2 < wc.heap.size := (Array.getElem?_eq_some_iff.1 N2).1
              replace N2 := (hkp.2 _ hl2 (hne _ (Nat.le_of_lt hB2))).trans N2
              clear hl2
              have hl9 : B9 < wc.heap.size := (Array.getElem?_eq_some_iff.1 N9).1
              replace N9 := (hkp.2 _ hl9 (hne _ (Nat.le_of_lt hB9))).trans N9
              clear hl9
              clear hTw
              have hTw := hTw'.swap
              clear hTw' hkp hne hneA i0 hi hz0 hz1 hz2
              refine hK.out _ _ hS (fun hH => ?_)
              clear hK
              refine wpAnyH_take (i := 11) (v := v1) rfl (by kernel_rfl) (by kernel_rfl) (by kernel_rfl) (fun _ _ _ h => h) (.inl ⟨by rfl, fun _ _ => rfl⟩) hH ?_
              simp only [List.getElem_toArray, List.getElem_cons_succ, List.getElem_cons_zero, Act.put, List.setIfInBounds_toArray, List.set_cons_zero, List.set_cons_succ]
              refine wpAnyH_take (i := 12) (v := v2) rfl (by kernel_rfl) (by kernel_rfl) (by kernel_rfl) (fun _ _ _ h => h) (.inl ⟨by rfl, fun _ _ => rfl⟩) hH ?_
              simp only [List.getElem_toArray, List.getElem_cons_succ, List.getElem_cons_zero, Act.put, List.setIfInBounds_toArray, List.set_cons_zero, List.set_cons_succ]
              refine wpAnyH_done (by kernel_rfl) ?_ _
              have R1 : Hid _ := HY.out (by first | rfl | trivial)
              rw [← dop_row, ← ans_row] at hTw
              clear hH hS hlB HSk HY HN y0
              go_wp2
              go_roundg (gk - 1)
              case measure => omega
              case rel => exact ⟨k + 1, by omega, by go_num, by rw [R1.out]; simp only [dopCells_append, ansC_append, ansL_append, List.length_append]; exact hTw⟩
            · simp only [List.getElem_toArray, List.getElem_cons_succ, List.getElem_cons_zero]
              rw [if_pos (by rfl)]
              have bn := below_new wa (.cells #[.int .i64 0, .int .i64 ix] 40)
              have N9 : (wa.alloc (.cells #[.int .i64 0, .int .i64 ix] 40)).heap[wa.heap.size]? = some (.cells #[.int .i64 0, .int .i64 ix] 40 (0, 0)) := by
                show (wa.heap.push _)[wa.heap.size]? = _
                simp
              obtain ⟨B9, HB9⟩ : ∃ B, Hid (wa.heap.size = B) := ⟨_, rfl⟩
              have hB9 : Bt < B9 := by rw [← HB9.out]; exact hlB.1
              obtain ⟨wb, Hwb⟩ : ∃ w', Hid (wa.alloc (.cells #[.int .i64 0, .int .i64 ix] 40) = w') := ⟨_, rfl⟩
              rw [Hwb.out] at bn N9
              rw [HB9.out] at N9
              go_wp2_with fail
              rw [Hwb.out, HB9.out]
              replace hTw := hTw.to bn
              replace hS := HSk.out _ _ hS (bn.block _ hlB.1) (bn.block _ hlB.2)
              replace hlB := And.intro (Nat.lt_of_lt_of_le hlB.1 bn.size) (Nat.lt_of_lt_of_le hlB.2 bn.size)
              have hl2 : B2 < wa.heap.size := (Array.getElem?_eq_some_iff.1 N2).1
              replace N2 := (bn.block _ hl2).trans N2
              clear hl2
              refine hK.out _ _ hS (fun hH => ?_)
              clear bn hK Hwb
              refine wpAnyH_ready (rs := [3]) (by kernel_rfl) (by simp) ?_
              refine AllReadyH.cons rfl (fun K hK => ?_) AllReadyH.nil
              simp only [List.getElem_toArray, List.getElem_cons_succ, List.getElem_cons_zero]
              obtain ⟨i0, hi, hz0, hz1, hz2⟩ := info_parts info_dop
              refine wpr_append_twoG (by rfl) _ _ 26 rfl w3.heap.size w3 wb 51 _ 5 _ _ _ 40 u12 _ _ _ i0 _ Try.underlying26 hi hz0 hz1 hz2 rfl (by decide) hTw B2 [.int .i64 kd, .int .i64 us, .int .i64 tr, .int .i64 im, .int .i64 hn] rfl rfl rfl (fun j c hj => by simp [World.cell?, N2]; simpa using hj) (fun c hc => by simp at hc; rcases hc with rfl | rfl | rfl | rfl | rfl <;> rfl) (by unfold maxLen; omega) (by omega) ?_
              intro v1 wc hTw' hkp
              have hne : ∀ q, Bt ≤ q → u12.ownBlock ≠ some q := fun q hq e => by have := Hl1.out q e; omega
              have hneA : u12.ownBlock ≠ some bA := fun e => by have := Hm1.out bA e; omega
              replace hS := HSk.out _ _ hS (hkp.2 _ hlB.1 (hne _ (Nat.le_refl _))) (hkp.2 _ hlB.2 hneA)
              replace hlB := And.intro (Nat.lt_of_lt_of_le hlB.1 hkp.1) (Nat.lt_of_lt_of_le hlB.2 hkp.1)
              have hl2 : B2 < wb.heap.size := (Array.getElem?_eq_some_iff.1 N2).1
              replace N2 := (hkp.2 _ hl2 (hne _ (Nat.le_of_lt hB2))).trans N2
              clear hl2
              have hl9 : B9 < wb.heap.size := (Array.getElem?_eq_some_iff.1 N9).1
              replace N9 := (hkp.2 _ hl9 (hne _ (Nat.le_of_lt hB9))).trans N9
              clear hl9
              clear hTw
              have hTw := hTw'
              clear hTw' hkp hne hneA i0 hi hz0 hz1 hz2
              refine hK.out _ _ hS (fun hH => ?_)
              clear hK
              refine wpAnyH_ready (rs := [10]) (by kernel_rfl) (by simp) ?_
              refine AllReadyH.cons rfl (fun K hK => ?_) AllReadyH.nil
              simp only [List.getElem_toArray, List.getElem_cons_succ, List.getElem_cons_zero]
              obtain ⟨i0, hi, hz0, hz1, hz2⟩ := info_parts info_dans
              refine wpr_append_twoG (by rfl) _ _ 33 rfl w3.heap.size w3 wc 40 _ 2 _ _ _ 16 u13 _ _ _ i0 _ Try.underlying33 hi hz0 hz1 hz2 rfl (by decide) hTw.swap B9 [.int .i64 0, .int .i64 ix] rfl rfl rfl (fun j c hj => by simp [World.cell?, N9]; simpa using hj) (fun c hc => by simp at hc; rcases hc with rfl | rfl <;> rfl) (by unfold maxLen; omega) (by omega) ?_
              intro v2 we hTw' hkp
              have hne : ∀ q, Bt ≤ q → u13.ownBlock ≠ some q := fun q hq e => by have := Hl2.out q e; omega
              have hneA : u13.ownBlock ≠ some bA := fun e => by have := Hm2.out bA e; omega
              replace hS := HSk.out _ _ hS (hkp.2 _ hlB.1 (hne _ (Nat.le_refl _))) (hkp.2 _ hlB.2 hneA)
              replace hlB := And.intro (Nat.lt_of_lt_of_le hlB.1 hkp.1) (Nat.lt_of_lt_of_le hlB.2 hkp.1)
              have hl2 : B2 < wc.heap.size := (Array.getElem?_eq_some_iff.1 N2).1
              replace N2 := (hkp.2 _ hl2 (hne _ (Nat.le_of_lt hB2))).trans N2
              clear hl2
              have hl9 : B9 < wc.heap.size := (Array.getElem?_eq_some_iff.1 N9).1
              replace N9 := (hkp.2 _ hl9 (hne _ (Nat.le_of_lt hB9))).trans N9
              clear hl9
              clear hTw
              have hTw := hTw'.swap
              clear hTw' hkp hne hneA i0 hi hz0 hz1 hz2
              refine hK.out _ _ hS (fun hH => ?_)
              clear hK
              refine wpAnyH_take (i := 11) (v := v1) rfl (by kernel_rfl) (by kernel_rfl) (by kernel_rfl) (fun _ _ _ h => h) (.inl ⟨by rfl, fun _ _ => rfl⟩) hH ?_
              simp only [List.getElem_toArray, List.getElem_cons_succ, List.getElem_cons_zero, Act.put, List.setIfInBounds_toArray, List.set_cons_zero, List.set_cons_succ]
              refine wpAnyH_take (i := 12) (v := v2) rfl (by kernel_rfl) (by kernel_rfl) (by kernel_rfl) (fun _ _ _ h => h) (.inl ⟨by rfl, fun _ _ => rfl⟩) hH ?_
              simp only [List.getElem_toArray, List.getElem_cons_succ, List.getElem_cons_zero, Act.put, List.setIfInBounds_toArray, List.set_cons_zero, List.set_cons_succ]
              refine wpAnyH_done (by kernel_rfl) ?_ _
              have R1 : Hid _ := HY.out (by first | rfl | trivial)
              rw [← dop_row, ← ans_row] at hTw
              clear hH hS hlB HSk HY HN y0
              go_wp2
              go_roundg (gk - 1)
              case measure => omega
              case rel => exact ⟨k + 1, by omega, by go_num, by rw [R1.out]; simp only [dopCells_append, ansC_append, ansL_append, List.length_append]; exact hTw⟩
          · simp only [List.getElem_toArray, List.getElem_cons_succ, List.getElem_cons_zero]
            rw [if_pos (by rfl)]
            have bn := below_new wd (.cells #[.int .i64 0, .int .i64 ix] 40)
            have N9 : (wd.alloc (.cells #[.int .i64 0, .int .i64 ix] 40)).heap[wd.heap.size]? = some (.cells #[.int .i64 0, .int .i64 ix] 40 (0, 0)) := by
              show (wd.heap.push _)[wd.heap.size]? = _
              simp
            obtain ⟨B9, HB9⟩ : ∃ B, Hid (wd.heap.size = B) := ⟨_, rfl⟩
            have hB9 : Bt < B9 := by rw [← HB9.out]; exact hlB.1
            obtain ⟨wa, Hwa⟩ : ∃ w', Hid (wd.alloc (.cells #[.int .i64 0, .int .i64 ix] 40) = w') := ⟨_, rfl⟩
            rw [Hwa.out] at bn N9
            rw [HB9.out] at N9
            go_wp2_with fail
            rw [Hwa.out, HB9.out]
            replace hTw := hTw.to bn
            replace hS := HSk.out _ _ hS (bn.block _ hlB.1) (bn.block _ hlB.2)
            replace hlB := And.intro (Nat.lt_of_lt_of_le hlB.1 bn.size) (Nat.lt_of_lt_of_le hlB.2 bn.size)
            refine hK.out _ _ hS (fun hH => ?_)
            clear bn hK Hwa
            refine wpAnyH_ready (rs := [2]) (by kernel_rfl) (by simp) ?_
            refine AllReadyH.cons rfl (fun K hK => ?_) AllReadyH.nil
            simp only [List.getElem_toArray, List.getElem_cons_succ, List.getElem_cons_zero]
            rw [if_pos (by rfl)]
            have bn := below_new wa (.cells #[.int .i64 kd, .int .i64 us, .int .i64 tr, .int .i64 im, .int .i64 hn] 51)
            have N2 : (wa.alloc (.cells #[.int .i64 kd, .int .i64 us, .int .i64 tr, .int .i64 im, .int .i64 hn] 51)).heap[wa.heap.size]? = some (.cells #[.int .i64 kd, .int .i64 us, .int .i64 tr, .int .i64 im, .int .i64 hn] 51 (0, 0)) := by
              show (wa.heap.push _)[wa.heap.size]? = _
              simp
            obtain ⟨B2, HB2⟩ : ∃ B, Hid (wa.heap.size = B) := ⟨_, rfl⟩
            have hB2 : Bt < B2 := by rw [← HB2.out]; exact hlB.1
            obtain ⟨wb, Hwb⟩ : ∃ w', Hid (wa.alloc (.cells #[.int .i64 kd, .int .i64 us, .int .i64 tr, .int .i64 im, .int .i64 hn] 51) = w') := ⟨_, rfl⟩
            rw [Hwb.out] at bn N2
            rw [HB2.out] at N2
            go_wp2_with fail
            rw [Hwb.out, HB2.out]
            replace hTw := hTw.to bn
            replace hS := HSk.out _ _ hS (bn.block _ hlB.1) (bn.block _ hlB.2)
            replace hlB := And.intro (Nat.lt_of_lt_of_le hlB.1 bn.size) (Nat.lt_of_lt_of_le hlB.2 bn.size)
            have hl9 : B9 < wa.heap.size := (Array.getElem?_eq_some_iff.1 N9).1
            replace N9 := (bn.block _ hl9).trans N9
            clear hl9
            refine hK.out _ _ hS (fun hH => ?_)
            clear bn hK Hwb
            refine wpAnyH_ready (rs := [3]) (by kernel_rfl) (by simp) ?_
            refine AllReadyH.cons rfl (fun K hK => ?_) AllReadyH.nil
            simp only [List.getElem_toArray, List.getElem_cons_succ, List.getElem_cons_zero]
            obtain ⟨i0, hi, hz0, hz1, hz2⟩ := info_parts info_dop
            refine wpr_append_twoG (by rfl) _ _ 26 rfl w3.heap.size w3 wb 51 _ 5 _ _ _ 40 u12 _ _ _ i0 _ Try.underlying26 hi hz0 hz1 hz2 rfl (by decide) hTw B2 [.int .i64 kd, .int .i64 us, .int .i64 tr, .int .i64 im, .int .i64 hn] rfl rfl rfl (fun j c hj => by simp [World.cell?, N2]; simpa using hj) (fun c hc => by simp at hc; rcases hc with rfl | rfl | rfl | rfl | rfl <;> rfl) (by unfold maxLen; omega) (by omega) ?_
            intro v1 wc hTw' hkp
            have hne : ∀ q, Bt ≤ q → u12.ownBlock ≠ some q := fun q hq e => by have := Hl1.out q e; omega
            have hneA : u12.ownBlock ≠ some bA := fun e => by have := Hm1.out bA e; omega
            replace hS := HSk.out _ _ hS (hkp.2 _ hlB.1 (hne _ (Nat.le_refl _))) (hkp.2 _ hlB.2 hneA)
            replace hlB := And.intro (Nat.lt_of_lt_of_le hlB.1 hkp.1) (Nat.lt_of_lt_of_le hlB.2 hkp.1)
            have hl9 : B9 < wb.heap.size := (Array.getElem?_eq_some_iff.1 N9).1
            replace N9 := (hkp.2 _ hl9 (hne _ (Nat.le_of_lt hB9))).trans N9
            clear hl9
            have hl2 : B2 < wb.heap.size := (Array.getElem?_eq_some_iff.1 N2).1
            replace N2 := (hkp.2 _ hl2 (hne _ (Nat.le_of_lt hB2))).trans N2
            clear hl2
            clear hTw
            have hTw := hTw'
            clear hTw' hkp hne hneA i0 hi hz0 hz1 hz2
            refine hK.out _ _ hS (fun hH => ?_)
            clear hK
            refine wpAnyH_ready (rs := [10]) (by kernel_rfl) (by simp) ?_
            refine AllReadyH.cons rfl (fun K hK => ?_) AllReadyH.nil
            simp only [List.getElem_toArray, List.getElem_cons_succ, List.getElem_cons_zero]
            obtain ⟨i0, hi, hz0, hz1, hz2⟩ := info_parts info_dans
            refine wpr_append_twoG (by rfl) _ _ 33 rfl w3.heap.size w3 wc 40 _ 2 _ _ _ 16 u13 _ _ _ i0 _ Try.underlying33 hi hz0 hz1 hz2 rfl (by decide) hTw.swap B9 [.int .i64 0, .int .i64 ix] rfl rfl rfl (fun j c hj => by simp [World.cell?, N9]; simpa using hj) (fun c hc => by simp at hc; rcases hc with rfl | rfl <;> rfl) (by unfold maxLen; omega) (by omega) ?_
            intro v2 we hTw' hkp
            have hne : ∀ q, Bt ≤ q → u13.ownBlock ≠ some q := fun q hq e => by have := Hl2.out q e; omega
            have hneA : u13.ownBlock ≠ some bA := fun e => by have := Hm2.out bA e; omega
            replace hS := HSk.out _ _ hS (hkp.2 _ hlB.1 (hne _ (Nat.le_refl _))) (hkp.2 _ hlB.2 hneA)
            replace hlB := And.intro (Nat.lt_of_lt_of_le hlB.1 hkp.1) (Nat.lt_of_lt_of_le hlB.2 hkp.1)
            have hl9 : B9 < wc.heap.size := (Array.getElem?_eq_some_iff.1 N9).1
            replace N9 := (hkp.2 _ hl9 (hne _ (Nat.le_of_lt hB9))).trans N9
            clear hl9
            have hl2 : B2 < wc.heap.size := (Array.getElem?_eq_some_iff.1 N2).1
            replace N2 := (hkp.2 _ hl2 (hne _ (Nat.le_of_lt hB2))).trans N2
            clear hl2
            clear hTw
            have hTw := hTw'.swap
            clear hTw' hkp hne hneA i0 hi hz0 hz1 hz2
            refine hK.out _ _ hS (fun hH => ?_)
            clear hK
            refine wpAnyH_take (i := 11) (v := v1) rfl (by kernel_rfl) (by kernel_rfl) (by kernel_rfl) (fun _ _ _ h => h) (.inl ⟨by rfl, fun _ _ => rfl⟩) hH ?_
            simp only [List.getElem_toArray, List.getElem_cons_succ, List.getElem_cons_zero, Act.put, List.setIfInBounds_toArray, List.set_cons_zero, List.set_cons_succ]
            refine wpAnyH_take (i := 12) (v := v2) rfl (by kernel_rfl) (by kernel_rfl) (by kernel_rfl) (fun _ _ _ h => h) (.inl ⟨by rfl, fun _ _ => rfl⟩) hH ?_
            simp only [List.getElem_toArray, List.getElem_cons_succ, List.getElem_cons_zero, Act.put, List.setIfInBounds_toArray, List.set_cons_zero, List.set_cons_succ]
            refine wpAnyH_done (by kernel_rfl) ?_ _
            have R1 : Hid _ := HY.out (by first | rfl | trivial)
            rw [← dop_row, ← ans_row] at hTw
            clear hH hS hlB HSk HY HN y0
            go_wp2
            go_roundg (gk - 1)
            case measure => omega
            case rel => exact ⟨k + 1, by omega, by go_num, by rw [R1.out]; simp only [dopCells_append, ansC_append, ansL_append, List.length_append]; exact hTw⟩
        · have hex' : (ex == 0) = false := by simpa using hex
          have R : Hid _ := HN.out hex
          clear HY HN hex hblk
          go_wp2
          go_roundg (gk - 1)
          case measure => omega
          case rel => exact ⟨k + 1, by omega, by go_num, by rw [R.out]; exact hTw⟩
      · obtain rfl : k = len2 := by omega
        have hle := HLe.out k
        have hgo : DOpsV wr u12 (gd k).1 := dops_of hTw.own1 (by omega)
        have hwa : OpsV wr u13 (ansL (gd k).2) := answers_of hTw.own2 (by rw [ansL_length]; omega)
        have b := hTw.below
        replace c := below_then c b
        replace hv := hv.below b
        replace hr := hr.below b
        replace hbx := hbx.below b
        replace hb3 := hb3.below b
        have hDk : DeskV wr (.agg #[.slice d1 l1 p1, .slice d2 l2 p2, .slice ia il ic]) dk := by
          refine ⟨d1, l1, p1, d2, l2, p2, ia, ic, by rw [Hil.out], h1.below b, h2.below b, ?_⟩
          rw [Hil.out]; exact h3.below b
        have hAll := HAll.out (gd k).1
        rw [HG.out] at hAll
        clear hTw b h1 h2 h3 hT hu hA HY0 HN0 HLe HG HAll z0 z1 z2 z3
        obtain ⟨x0, x1, x2⟩ := id hbx
        go_wp2_with fail
        refine (desk_play _ _ _ n i roles (gd k).1 wr (by exact hv) (by exact hr) (by exact hgo)).mono ?_
        rintro e w6 ⟨rv, la2, lc2, rfl, hD, hA, b⟩
        rw [hAll] at hD hA ⊢
        replace c := below_then c b
        replace hb3 := hb3.below b
        replace hDk := hDk.below b
        replace hwa := hwa.below b
        clear b x0 x1 x2 hAll hgo hv hr hbx
        have hD' := hD
        obtain ⟨e1, m1, q1, e2, m2, q2, ja, jc, rfl, _, _, _⟩ := hD
        simp only at hA hD' ⊢
        obtain ⟨jl, Hjl⟩ : ∃ jl, Hid (dk.items.length = jl) := ⟨_, rfl⟩
        rw [Hjl.out] at hD' ⊢
        have bn := below_new w6 (.cells #[.slice e1 m1 q1, .slice e2 m2 q2, .slice ja jl jc] 32)
        have hb4 := box3_new w6 (.slice e1 m1 q1) (.slice e2 m2 q2) (.slice ja jl jc) 32
        obtain ⟨B4, HB4⟩ : ∃ B, Hid (w6.heap.size = B) := ⟨_, rfl⟩
        rw [HB4.out] at hb4
        obtain ⟨w7, H7⟩ : ∃ w7, Hid (w6.alloc (.cells #[.slice e1 m1 q1, .slice e2 m2 q2, .slice ja jl jc] 32) = w7) := ⟨_, rfl⟩
        rw [H7.out] at bn hb4
        replace c := below_then c bn
        replace hb3 := hb3.below bn
        replace hDk := hDk.below bn
        replace hwa := hwa.below bn
        replace hA := hA.below bn
        replace hD' := hD'.below bn
        clear bn
        obtain ⟨al, Hal⟩ : ∃ al, Hid ((gd k).2.length = al) := ⟨_, rfl⟩
        rw [Hal.out] at hA ⊢
        go_upto_region 15 with fail
        rw [H7.out, HB4.out]
        clear H7
        obtain ⟨z0, z1, z2, z3⟩ := id hb3
        obtain ⟨y0, y1, y2, y3⟩ := id hb4
        go_wp2_with fail
        refine (samedesk_same _ _ dk w7 (by exact hDk) (by exact hD')).mono ?_
        rintro e w8 ⟨rfl, b⟩
        replace c := below_then c b
        replace hwa := hwa.below b
        replace hA := hA.below b
        clear b z0 z1 z2 z3 y0 y1 y2 y3
        go_wp2_with fail
        refine (eqans_same _ _ (ansL (gd k).2) w8 (by exact hA) (by exact hwa)).mono ?_
        rintro e w9 ⟨rfl, b⟩
        replace c := below_then c b
        go_wp2
        go_ret
        exact ⟨rfl, c⟩

end Go.Proofs.Ytplfflnkidcglaa
