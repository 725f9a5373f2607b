/- Package siphon as it landed: largest. -/
import Derived.ScopeJumps
import Derived.WalkMore
import Derived.Test.YtnklepfommakpaaSiphDev3
import Derived.Test.YtnklepfommakpaaNet6
namespace Go.Proofs.Ytnklepfommakpaa
open Go.RowKit
set_option linter.unusedVariables false

theorem scope_jumps {P : Program} {a : Act} {w : World} {Q : Exit → Act → World → Prop} {c rest : Code} (l : Nat) (J : Act → World → Prop) (μ : Act → World → Nat) (hf : findLabel c l = some (Code.skip.seq rest))
    (pass : ∀ a w, J a w → rest.wp P (Exit.jump l (fun a' w' => J a' w' ∧ μ a' w' < μ a w) Q) a w)
    (first : (∀ a w, J a w → rest.wp P (Exit.jump l J Q) a w) → c.wp P (Exit.jump l J Q) a w) : (Code.scope c).wp P Q a w := by
  refine wp_scope_jumps l J μ hf (first fun a1 w1 h => ?_) fun a1 w1 h => wp_seq (wp_skip (pass a1 w1 h))
  refine Code.wp_mono ?_ (pass a1 w1 h)
  intro e a2 w2 h2
  cases e with
  | goto l' => exact ⟨h2.1, h2.2.1⟩
  | _ => exact h2

def isIn (w : World) (b j : Nat) : Bool := match w.cell? ⟨b, j, none⟩ with
  | some (.bool true) => true
  | _ => false
/-- How many are in a group in memory. -/
def cntG (w : World) (b : Nat) : Nat := ((List.range 16).filter (isIn w b)).length

theorem cntG_eq {w : World} {b : Nat} {g : Nat → Bool} (h : GrpAt w b g) : cntG w b = (setL g).length := by
  unfold cntG setL rangeL
  rw [List.filter_map, List.length_map]
  congr 1
  refine List.filter_congr fun j hj => ?_
  rw [List.mem_range] at hj
  unfold isIn
  rw [h.cell hj]
  cases hg : g j <;> simp [hg]

theorem largest_boxes (w : World) (x y : Value) (g f : Nat → Bool) : ∃ w1, Hid (((w.alloc (.cells #[x, y] 24)).alloc (.cells (grpC g) 47)).alloc (.cells (grpC f) 47) = w1) ∧ Box2 w1 w.heap.size x y ∧ GrpAt w1 (w.heap.size + 1) g ∧ GrpAt w1 (w.heap.size + 2) f ∧ Below w.heap.size w w1 := by
  obtain ⟨w1, H1, h1, h2, h3⟩ := grp_two (w.alloc (.cells #[x, y] 24)) g f
  refine ⟨w1, H1, (box2_new w x y 24).below h3, ?_, ?_, below_then (below_new _ _) h3⟩
  · simpa using h1
  · simpa using h2

theorem box2_storeG {w : World} {b c : Nat} {x y : Value} (h : Box2 w c x y) (hne : b ≠ c) (g : Nat → Bool) : Box2 (storeG w b g) c x y :=
  box2_keep (box2_keep (box2_keep (box2_keep (box2_keep (box2_keep (box2_keep (box2_keep (box2_keep (box2_keep (box2_keep (box2_keep (box2_keep (box2_keep (box2_keep (box2_keep h hne) hne) hne) hne) hne) hne) hne) hne) hne) hne) hne) hne) hne) hne) hne) hne

/-- What stands whenever the search begins anew. -/
structure AtNew (n : NetL) (g0 : Nat → Bool) (w : World) (tv : Value) (w' : World) (g : Nat → Bool) : Prop where
  left : Left n g0 g
  grp : GrpAt w' (w.heap.size + 1) g
  out : GrpAt w' (w.heap.size + 2) (fun _ => false)
  box : Box2 w' w.heap.size (.int .i64 n.places) tv
  below : Below w.heap.size w w'

set_option maxRecDepth 4000 in
set_option maxHeartbeats 4000000 in
theorem largest_any (v : Value) (n : NetL) (g0 : Nat → Bool) (w : World) (hv : Net w v n) (hp : placesL n (setL g0) = true) :
    Calls Try.prog 29 #[v, grpV g0] w fun e w' => ∃ g, e = .returned (grpV g) ∧ (Left n g0 g ∧ siphL n (setL g) = true) ∧ Below w.heap.size w w' := by
  obtain ⟨tv, rfl, hT⟩ := hv
  obtain ⟨w1, Hw1, hbx, hG, hR, hB⟩ := largest_boxes w (.int .i64 n.places) tv g0 (fun _ => false)
  have A0 : AtNew n g0 w tv w1 g0 := ⟨Left.refl n g0, hG, hR, hbx, hB⟩
  clear hG hR hbx hB
  obtain ⟨a, len, cap, rfl, hlen, hmx, hsh, _⟩ := id hT
  go_enter Try.func29, Try.ntmps29
  go_wp2
  refine scope_jumps 0 (fun a' w' => ∃ (u5 u6 u7 u8 u9 u10 u11 u12 u13 u14 u15 u16 u17 u18 u19 u20 u21 u22 u23 u24 u25 u26 u27 u28 u29 u30 : Value) (g : Nat → Bool), a' = { tmps := #[.agg #[.int .i64 n.places, .slice a len cap], grpV g0, .pointer (some ⟨w.heap.size, 0, none⟩), .pointer (some ⟨w.heap.size + 1, 0, none⟩), .pointer (some ⟨w.heap.size + 2, 0, none⟩), u5, u6, u7, u8, u9, u10, u11, u12, u13, u14, u15, u16, u17, u18, u19, u20, u21, u22, u23, u24, u25, u26, u27, u28, u29, u30], defers := [] } ∧ AtNew n g0 w (.slice a len cap) w' g) (fun _ w' => cntG w' (w.heap.size + 1)) rfl ?_ ?_
  · rintro a1 w2 ⟨u5, u6, u7, u8, u9, u10, u11, u12, u13, u14, u15, u16, u17, u18, u19, u20, u21, u22, u23, u24, u25, u26, u27, u28, u29, u30, g, rfl, hA⟩
    clear A0 Hw1
    obtain ⟨hL, hG, hR, hbx, hB⟩ := hA
    have hT2 := hT.below hB
    obtain ⟨x0, x1, x2⟩ := id hbx
    have HL1 : Hid (∀ k, k < len → (tranAt n.trans k).pre.length ≤ 16 ∧ (tranAt n.trans k).post.length ≤ 16) := fun k hk => by
      obtain ⟨q1, q2⟩ := placesL_iff.1 hp
      have q3 := ok_places q1
      have q4 := tran_length q1 (k := k) (by omega)
      omega
    have HK : Hid (∀ k, k < len → ∀ g, Left n g0 g → anyAt (tranAt n.trans k).post (setL g) = true → anyAt (tranAt n.trans k).pre (setL g) = false → Left n g0 (outG g (tranAt n.trans k).post (tranAt n.trans k).post.length) ∧ (setL (outG g (tranAt n.trans k).post (tranAt n.trans k).post.length)).length < (setL g).length) := fun k hk g h q1 q2 => h.step (tran_mem (by omega)) q1 q2
    have HE : Hid (keepTo n g len → siphL n (setL g) = true) := fun h => keep_siph (hL.places hp) (by rw [hlen]; exact h)
    go_wp2_with fail
    clear x0 x1 x2
    go_loopg [10] len (fun gg i wr => ∃ k : Nat, k + gg = len ∧ i = .int .i64 k ∧ Hid (keepTo n g k) ∧ Below w2.heap.size w2 wr)
    case atStart => exact ⟨0, by omega, rfl, fun j hj => absurd hj (Nat.not_lt_zero _), Below.refl _ _⟩
    case round =>
      obtain ⟨k, hkg, rfl, hKp, hb⟩ := hrel
      obtain ⟨G, hGk⟩ : ∃ G, G = gk := ⟨_, rfl⟩
      obtain ⟨W, hW⟩ : ∃ W, W = wr := ⟨_, rfl⟩
      subst hGk hW
      by_cases hkn : k < len
      · obtain ⟨b, off, c1, c2, rfl, hblt, h0, h1, h2, i1, i2⟩ := (hT2.below hb).at hkn
        obtain ⟨a1, l1, p1, rfl, _⟩ := id i1
        obtain ⟨a2, l2, p2, rfl, _⟩ := id i2
        obtain ⟨L1, L2⟩ := HL1.out k hkn
        have HK2 : Hid _ := HK.out k hkn g hL
        have HS : Hid _ := keepTo_succ (n := n) (g := g) (k := k) hKp.out
        clear HL1 HK HE hKp
        generalize tranAt n.trans k = t at *
        obtain ⟨wt, Hwt⟩ : ∃ wt, Hid (W.alloc (.cells #[.int .i64 t.label, .slice a1 l1 p1, .slice a2 l2 p2] 45) = wt) := ⟨_, rfl⟩
        have hbn := below_new W (.cells #[.int .i64 t.label, .slice a1 l1 p1, .slice a2 l2 p2] 45)
        have hbx3 := box3_new W (.int .i64 t.label) (.slice a1 l1 p1) (.slice a2 l2 p2) 45
        rw [Hwt.out] at hbn hbx3
        have hGt := (hG.below hb).below hbn
        go_upto_region 4 with fail
        rw [Hwt.out]
        clear Hwt h0 h1 h2
        obtain ⟨y0, y1, y2, y3⟩ := id hbx3
        go_wp2_with (refine wpList_load_grp rfl _ rfl (w.heap.size + 1) g rfl hGt ?_)
        clear y0 y1 y2 y3
        refine (meets_any g (.slice a2 l2 p2) t.post wt (i2.below hbn) L2).mono ?_
        rintro e w3 ⟨rfl, b3⟩
        have hb3 : Below w2.heap.size w2 w3 := below_then (below_then hb hbn) b3
        cases hm : anyAt t.post (setL g)
        · have R : Hid _ := HS.out (by rw [hm]; intro q; cases q)
          clear HS HK2 hm
          go_wp2_with fail
          go_roundg (G - 1)
          case measure => omega
          case rel => exact ⟨k + 1, by omega, by go_num, R, hb3⟩
        · have hGt3 := hGt.below b3
          replace hbx3 := hbx3.below b3
          obtain ⟨y0, y1, y2, y3⟩ := id hbx3
          go_wp2_with (refine wpList_load_grp_g (by rfl) _ rfl (w.heap.size + 1) g rfl hGt3 ?_)
          clear y0 y1 y2 y3
          refine (meets_any g (.slice a1 l1 p1) t.pre w3 ((i1.below hbn).below b3) L1).mono ?_
          rintro e w4 ⟨rfl, b4⟩
          have hb4 : Below w2.heap.size w2 w4 := below_then hb3 b4
          cases hm2 : anyAt t.pre (setL g)
          · obtain ⟨hL', hlt⟩ := HK2.out hm hm2
            have hL' : Hid _ := hL'
            clear HK2 HS hm hm2
            have hG4 := hGt3.below b4
            replace hbx3 := hbx3.below b4
            obtain ⟨y0, y1, y2, y3⟩ := id hbx3
            go_wp2_with (refine wpList_load_grp rfl _ rfl (w.heap.size + 1) g rfl hG4 ?_)
            clear y0 y1 y2 y3 hbx3 hG4 hGt3 hGt
            refine (without_any g (.slice a2 l2 p2) t.post w4 (((i2.below hbn).below b3).below b4) L2).mono ?_
            rintro e w5 ⟨rfl, b5⟩
            have hb5 : Below w2.heap.size w2 w5 := below_then hb4 b5
            obtain ⟨f, Hf⟩ : ∃ f, Hid (outG g t.post t.post.length = f) := ⟨_, rfl⟩
            rw [Hf.out] at hL' hlt ⊢
            have hG5 := hG.below hb5
            have A : Hid (AtNew n g0 w (.slice (some ⟨b, off, none⟩) len cap) (storeG w5 (w.heap.size + 1) f) f) := ⟨hL'.out, hG5.store f, (hR.below hb5).other (by omega) f, box2_storeG (hbx.below hb5) (by omega) f, below_storeG (below_then hB hb5) (by omega) f⟩
            have M : Hid (cntG (storeG w5 (w.heap.size + 1) f) (w.heap.size + 1) < cntG w2 (w.heap.size + 1)) := by show _ < _; rw [cntG_eq (hG5.store f), cntG_eq hG]; exact hlt
            clear hG hR hbx hB hL hL' hlt Hf hb5 b5
            go_wp2_with (refine wpList_store_grp rfl _ _ rfl (w.heap.size + 1) g f rfl rfl hG5 ?_; intro W6 HW; rw [HW] at A M; clear HW hG5)
            go_step3
            refine And.intro rfl (And.intro ?_ M.out)
            exact ⟨_, _, _, _, _, _, _, _, _, _, _, _, _, _, _, _, _, _, _, _, _, _, _, _, _, _, f, rfl, A.out⟩
          · have R : Hid _ := HS.out (fun _ => hm2)
            clear HS HK2 hm hm2
            go_wp2_with fail
            go_roundg (G - 1)
            case measure => omega
            case rel => exact ⟨k + 1, by omega, by go_num, R, hb4⟩
      · obtain rfl : k = len := by omega
        have HS : Hid _ := HE.out hKp.out
        have hGe := hG.below hb
        have hRe := hR.below hb
        have hBe := below_then hB hb
        have R : Hid (GrpAt (storeG W (w.heap.size + 2) g) (w.heap.size + 2) g) := hRe.store g
        have B2 : Hid (Below w.heap.size w (storeG W (w.heap.size + 2) g)) := below_storeG hBe (by omega) g
        clear hBe hG hR hB hbx HE hKp HL1 HK
        go_wp2_with (first | (refine wpList_load_grp rfl _ rfl (w.heap.size + 1) g rfl hGe ?_) | (refine wpList_store_grp rfl _ _ rfl (w.heap.size + 2) (fun _ => false) g rfl rfl hRe ?_; intro W6 HW; rw [HW] at R B2; clear HW hGe hRe))
        simp only [Exit.jump]
        exact bodyPost_ret (v := grpV g) (results_grp rfl rfl R.out) rfl ⟨g, rfl, ⟨hL, HS.out⟩, B2.out⟩
  · intro pass
    go_wp2
    rw [Hw1.out]
    go_step3
    rename_i hK
    refine hK _ _ ?_
    exact pass _ _ ⟨_, _, _, _, _, _, _, _, _, _, _, _, _, _, _, _, _, _, _, _, _, _, _, _, _, _, g0, rfl, A0⟩

end Go.Proofs.Ytnklepfommakpaa
