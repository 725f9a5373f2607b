/- Package live as it landed: where one can always come back to. -/
import Derived.Test.YtlejaeecfeiajaaLiveDev4
import Derived.Deep.RegionHeld3
namespace Go.Proofs.Ytlejaeecfeiajaa
open Go.RowKit
set_option linter.unusedVariables false
set_option maxRecDepth 4000

theorem Spread.of_none {nx : List (List Int)} {n m : Nat} {g : Nat → Bool} (h : Spread nx n (fun _ => false) m g) {j : Nat} (hj : j < n) : g j = true ↔ Goes nx m j := by rw [h.mem j hj]; simp

set_option maxHeartbeats 2000000 in
theorem live_home (v : Value) (s : SpaceZ) (w : World) (hv : SpaceV w v s) :
    Calls Try.prog 16 #[v] w fun e w' => ∃ r xs, e = .returned r ∧ Ints w' r xs ∧ IsHome s xs ∧ Below w.heap.size w w' := by
  have hv0 := hv
  obtain ⟨hN, mv, av, rfl, hM, hA⟩ := hv
  obtain ⟨am, cm, rfl, hlm, _⟩ := hM.slice
  obtain ⟨aa, ca, rfl, hla⟩ := hA.slice
  obtain ⟨lm, Hlm⟩ : ∃ lm, Hid (s.marks.length = lm) := ⟨_, rfl⟩
  obtain ⟨la, Hla⟩ : ∃ la, Hid (s.arcs.length = la) := ⟨_, rfl⟩
  rw [Hlm.out] at hlm hN hv0 ⊢
  rw [Hla.out] at hla hv0 ⊢
  clear hM hA
  have c := below_new w (.cells #[.slice am lm cm, .slice aa la ca] 25)
  have hbx := box2_new w (.slice am lm cm) (.slice aa la ca) 25
  replace hv0 := hv0.below c
  have hwW : w.heap.size < (w.alloc (.cells #[.slice am lm cm, .slice aa la ca] 25)).heap.size := by simp
  obtain ⟨W0, HW0⟩ : ∃ W0, Hid (w.alloc (.cells #[.slice am lm cm, .slice aa la ca] 25) = W0) := ⟨_, rfl⟩
  rw [HW0.out] at c hbx hv0 hwW
  go_enter Try.func16, Try.ntmps16
  go_upto_region 1 with fail
  rw [HW0.out]
  clear HW0
  obtain ⟨x0, x1, x2⟩ := id hbx
  go_wp2_with fail
  refine (live_right _ s _ (by exact hv0)).mono ?_
  rintro e w2 ⟨rfl, b2⟩
  have R := below_then c b2
  cases hr : rightS s
  · have E : Hid (IsHome s []) := home_wrong hr
    clear b2 hbx hv0 x0 x1 x2 hr
    go_wp2
    go_ret
    exact ⟨_, _, rfl, Ints.nil _, E.out, R⟩
  · have Hr : Hid _ := hr
    have hw2 : w.heap.size < w2.heap.size := Nat.lt_of_lt_of_le hwW b2.size
    replace hbx := hbx.below b2
    replace hv0 := hv0.below b2
    clear x0 x1 x2 hr b2 hwW c
    obtain ⟨x0, x1, x2⟩ := id hbx
    by_cases h0 : lm = 0
    · subst h0
      have E : Hid (IsHome s []) := home_empty Hlm.out
      clear hv0
      go_wp2
      go_ret
      exact ⟨_, _, rfl, Ints.nil _, E.out, R⟩
    · have h0' : ((lm : Int) == 0) = false := by have : ¬ (lm : Int) = 0 := by omega
                                                 simpa using this
      have hpos : 0 < lm := by omega
      clear h0
      go_wp2_with fail
      refine (back_any _ s _ (by exact hv0) Hr.out).mono ?_
      rintro e w3 ⟨nv, nx, rfl, hL, hx, b3⟩
      have Hx : Hid _ := hx
      have HI : Hid (Inside nx lm) := by have := hx.inside fun a ha => (by have := rightS_iff.1 Hr.out a ha; omega); rw [Hlm.out] at this; exact this
      have HL : Hid (nx.length = lm) := by show _ = _; rw [hx.len, Hlm.out]
      have hNx : NextAt w3 (fun _ => True) nv nx := hL.weak fun _ _ _ => trivial
      clear hL hx
      replace R := below_then R b3
      replace hbx := hbx.below b3
      replace hv0 := hv0.below b3
      replace hw2 : w.heap.size < w3.heap.size := Nat.lt_of_lt_of_le hw2 b3.size
      clear x0 x1 x2 b3
      go_wp2_with fail
      refine (last_any _ _ nx lm (by exact hNx) HL.out HI.out hN hpos).mono ?_
      rintro e w4 ⟨l, rfl, hl, hlast, b4⟩
      have Hlast : Hid _ := hlast
      replace R := below_then R b4
      replace hbx := hbx.below b4
      replace hv0 := hv0.below b4
      replace hNx := hNx.below b4
      replace hw2 : w.heap.size < w4.heap.size := Nat.lt_of_lt_of_le hw2 b4.size
      clear b4 hlast
      obtain ⟨x0, x1, x2⟩ := id hbx
      obtain ⟨w5, hmk, hb5, hs5, hR5⟩ := make_flags w4 lm hN
      go_upto_region 6 with fail
      have b6 := below_new w5 (.cells #[.slice (some ⟨w4.heap.size, 0, none⟩) lm lm] 56)
      have hbc := boxC_new w5 (.slice (some ⟨w4.heap.size, 0, none⟩) lm lm) 56
      rw [hs5] at hbc
      replace hR5 := hR5.below b6
      have hb6 := below_then hb5 b6
      obtain ⟨w6, Hw6⟩ : ∃ w6, Hid (w5.alloc (.cells #[.slice (some ⟨w4.heap.size, 0, none⟩) lm lm] 56) = w6) := ⟨_, rfl⟩
      rw [Hw6.out] at hbc hR5 hb6 ⊢
      clear Hw6 hmk hb5 b6 x0 x1 x2 hs5
      have hNx6 := hNx.older hb6 (Nat.le_refl _)
      obtain ⟨y0, y1⟩ := hbc.box
      go_wp2_with fail
      refine (spread_any _ _ nx lm w4.heap.size l (fun _ => false) (by exact hNx6) HL.out HI.out hN hR5 (shut_none _ _) hl).mono ?_
      rintro e w7 ⟨rfl, g, hG, hsp, hO⟩
      have Hg : Hid (∀ j, j < lm → (g j = true ↔ Goes nx l j)) := fun j hj => hsp.of_none hj
      have hb7 : Below w4.heap.size w4 w7 := hb6.trans hO.below
      replace hbc := hbc.only hO (by omega)
      clear hsp hO hNx6 hR5 hb6 y0 y1 hNx
      obtain ⟨y0, y1⟩ := hbc.box
      go_wp2_with fail
      refine (containsb_any _ _ g _ hG hN).mono ?_
      rintro e w7' ⟨rfl, rfl⟩
      obtain ⟨w7, rfl⟩ : ∃ w0, w0 = w7' := ⟨_, rfl⟩
      cases ha : allT g lm
      · have E : Hid (IsHome s []) := by
          obtain ⟨j, hj, hgj⟩ := not_all ha
          refine home_not (l := l) Hr.out Hx.out (by rw [Hlm.out]; exact hl) (by rw [Hlm.out]; exact Hlast.out) (z := j) (by rw [Hlm.out]; exact hj) fun q => ?_
          have := (Hg.out j hj).2 q
          rw [hgj] at this; cases this
        have R2 := below_then R hb7
        clear hG hbc hbx hv0 hb7 R
        go_wp2
        go_ret
        exact ⟨_, _, rfl, Ints.nil _, E.out, R2⟩
      · have Hg2 : Hid (∀ z, z < lm → Goes nx l z) := fun z hz => (Hg.out z hz).1 (allT_iff.1 ha z hz)
        clear ha hG Hg
        obtain ⟨w8, hmk, hb8, hs8, hR8⟩ := make_flags w7 lm hN
        obtain ⟨x3, x4, x5⟩ := hbx.below hb7
        replace hb7 := below_then hb7 hb8
        have hlt8 : w4.heap.size + 1 < w7.heap.size := hbc.lt
        replace hbc := hbc.below hb8
        obtain ⟨x0, x1, x2⟩ := (hbx.below (hb7))
        obtain ⟨z0, z1⟩ := hbc.box
        have zf := hbc.free
        go_upto_region 10 with fail
        have hbc9 := hbc.set (.slice (some ⟨w7.heap.size, 0, none⟩) lm lm)
        have hR9 : BoolRow (w8.setCell ⟨w4.heap.size + 1, 0, none⟩ (.slice (some ⟨w7.heap.size, 0, none⟩) lm lm)) w7.heap.size lm (fun _ => false) := hR8.other (by omega) _
        have hb9 : Below w4.heap.size w4 (w8.setCell ⟨w4.heap.size + 1, 0, none⟩ (.slice (some ⟨w7.heap.size, 0, none⟩) lm lm)) := hb7.setCell (p := ⟨w4.heap.size + 1, 0, none⟩) (Nat.le_succ _) _
        obtain ⟨w9, Hw9⟩ : ∃ w9, Hid (w8.setCell ⟨w4.heap.size + 1, 0, none⟩ (.slice (some ⟨w7.heap.size, 0, none⟩) lm lm) = w9) := ⟨_, rfl⟩
        have hs9 : w7.heap.size < w9.heap.size := by rw [← Hw9.out]; simp [World.setCell, hs8]
        rw [Hw9.out] at hbc9 hR9 hb9 ⊢
        replace hbx := hbx.below hb9
        replace hv0 := hv0.below hb9
        replace R := below_then R hb9
        clear Hw9 hb7 hb8 hmk hs8 hR8 hbc x0 x1 x2 x3 x4 x5 y0 y1 z0 z1 zf hb9
        obtain ⟨x0, x1, x2⟩ := id hbx
        obtain ⟨y0, y1⟩ := hbc9.box
        have hlt9 : w4.heap.size + 1 < w7.heap.size := hlt8
        clear hlt8
        go_region_held3 (fun w' => w'.cell? ⟨w.heap.size, 0, none⟩ = some (.slice am lm cm) ∧ w'.cell? ⟨w.heap.size, 1, none⟩ = some (.slice aa la ca) ∧ w'.cell? ⟨w4.heap.size + 1, 0, none⟩ = some (.slice (some ⟨w7.heap.size, 0, none⟩) lm lm))
          (go_keep)
          (first
            | (go_at_call 39; refine (forw_any _ s _ ?_ Hr.out).mono ?_; exact hv0.below (below_drewN (Below.refl w9.heap.size w9) 1); rintro e w10 ⟨nv2, ny, rfl, hL2, hy, q10⟩; have b10 := below_then (below_drewN (Below.refl w9.heap.size w9) 1) q10; have hbc10 := hbc9.below b10; have hR10 := hR9.below b10; obtain ⟨t0, t1, t2⟩ := hbx.below b10; obtain ⟨t3, t4⟩ := hbc10.box)
            | (go_at_call 34; refine (spread_any _ _ ny lm w7.heap.size l (fun _ => false) (hL2.weak fun k _ hk => ?_) ?_ ?_ hN hR10 (shut_none _ _) hl).mono ?_; exact (by have : w9.heap.size ≤ k := hk; omega : k ≠ w7.heap.size); rw [hy.len, Hlm.out]; have := hy.inside fun a ha => (by have := rightS_iff.1 Hr.out a ha; omega); rw [Hlm.out] at this; exact this; rintro e w11 ⟨rfl, g2, hG2, hsp2, hO2⟩; have hbc11 := hbc10.only hO2 (by omega); obtain ⟨t5, t6⟩ := hbc11.box; have t7 := hO2.cell (b := w.heap.size) (by omega) t1; have t8 := hO2.cell (b := w.heap.size) (by omega) t2))
        all_goals
          have HS2 : Hid _ := hsp2
          have Hy : Hid _ := hy
          have R11 : Below w.heap.size w w11 := (below_then R b10).trans (hO2.below.mono (by omega))
          have E : Hid (IsHome s (pickTo (fun k => g2 k.toNat) lm)) := by
            have := home_some (l := l) Hr.out Hx.out Hy.out (by rw [Hlm.out]; exact hl) (by rw [Hlm.out]; exact Hg2.out) (p := fun k => g2 k.toNat) (fun j hj => by rw [Hlm.out] at hj; exact HS2.out.of_none hj)
            rw [Hlm.out] at this; exact this
          have key := those_any w11 40 #[.pointer (some ⟨w4.heap.size + 1, 0, none⟩)] lm (fun k => g2 k.toNat) (by
            intro k w' hk hb'
            refine (home1_any _ w7.heap.size lm g2 k hk w' (hbc11.box.below hb') (hG2.below hb')).mono ?_
            rintro e w'' ⟨rfl, rfl⟩
            exact ⟨rfl, Below.refl _ _⟩) Try.call40 lm (by omega) hN w11 (Below.refl _ _)
          clear hsp2 hy hG2 hO2 hL2 hbc10 hR10 q10 b10 hbx hv0 hbc9 hR9 R t0 t1 t2 t3 t4 t7 t8 x0 x1 x2 y0 y1
          go_wp2_with fail
          refine key.mono ?_
          rintro e w12 ⟨r, rfl, h12, b12⟩
          have R12 := below_then R11 b12
          clear b12
          go_wp2
          go_ret
          exact ⟨_, _, rfl, h12, E.out, R12⟩

end Go.Proofs.Ytlejaeecfeiajaa
