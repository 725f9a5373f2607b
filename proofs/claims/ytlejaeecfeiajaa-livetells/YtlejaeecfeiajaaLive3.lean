/- The answers of the document itself for live: what is live, and home. -/
import Derived.Test.YtlejaeecfeiajaaLive2
namespace Go.Proofs.Ytlejaeecfeiajaa
open Go.RowKit
set_option linter.unusedVariables false

def allN (f : Nat → Bool) : Nat → Bool
  | 0 => true
  | n + 1 => allN f n && f n
theorem allN_iff {f : Nat → Bool} : ∀ {n : Nat}, allN f n = true ↔ ∀ i, i < n → f i = true
  | 0 => by simp [allN]
  | n + 1 => by
    simp only [allN, Bool.and_eq_true]
    rw [allN_iff]
    constructor
    · rintro ⟨h1, h2⟩ i hi
      by_cases e : i = n
      · subst e; exact h2
      · exact h1 i (by omega)
    · intro h
      exact ⟨fun i hi => h i (by omega), h n (by omega)⟩
theorem mem_pick {p : Int → Bool} {k : Nat} {t : Int} : t ∈ pickTo p k ↔ (0 ≤ t ∧ t < k) ∧ p t = true := by
  unfold pickTo; rw [List.mem_filter, mem_range]
theorem pick_up (p : Int → Bool) (k : Nat) : (pickTo p k).Pairwise (· < ·) := (range_sorted k).sublist List.filter_sublist

def homeP (M : Nat → Nat → Bool) (n : Nat) (k : Int) : Bool := allN (fun i => M i k.toNat) n
theorem home_is {s : SpaceZ} {M : Nat → Nat → Bool} (hr : rightS s = true) (h : IsReach s M) : IsHome s (pickTo (homeP M s.marks.length) s.marks.length) := by
  refine ⟨pick_up _ _, fun k => ?_⟩
  rw [mem_pick]
  unfold homeP
  rw [allN_iff]
  constructor
  · rintro ⟨⟨h1, h2⟩, h3⟩
    obtain ⟨g, rfl⟩ := Int.eq_ofNat_of_zero_le h1
    refine ⟨hr, h1, h2, fun i i1 i2 => ?_⟩
    obtain ⟨j, rfl⟩ := Int.eq_ofNat_of_zero_le i1
    exact (h j g (by omega) (by omega)).1 (h3 j (by omega))
  · rintro ⟨_, h1, h2, h3⟩
    obtain ⟨g, rfl⟩ := Int.eq_ofNat_of_zero_le h1
    exact ⟨⟨h1, h2⟩, fun i hi => (h i g hi (by omega)).2 (h3 i (by omega) (by omega))⟩
theorem home_none {s : SpaceZ} (hr : rightS s = false) : IsHome s [] := ⟨List.Pairwise.nil, fun k => by simp [hr]⟩
theorem live_none {s : SpaceZ} {T : Int} (hr : rightS s = false) : IsLive s T [] := ⟨List.Pairwise.nil, fun k => by simp [hr]⟩

def someA (p : Int × Int × Int → Bool) (l : List (Int × Int × Int)) (k : Nat) : Bool := (l.take k).any p
theorem someA_succ (p : Int × Int × Int → Bool) {l : List (Int × Int × Int)} {k : Nat} (hk : k < l.length) : someA p l (k + 1) = (someA p l k || p l[k]) := by
  unfold someA; rw [List.take_succ_eq_append_getElem hk, List.any_append]; simp
theorem someA_all (p : Int × Int × Int → Bool) (l : List (Int × Int × Int)) {k : Nat} (hk : k = l.length) : someA p l k = l.any p := by
  unfold someA; rw [List.take_of_length_le (by omega)]

def byA (M : Nat → Nat → Bool) (t : Int) (k : Nat) (a : Int × Int × Int) : Bool := a.2.1 == t && M k a.1.toNat
def liveP (s : SpaceZ) (M : Nat → Nat → Bool) (t : Int) : Bool := allN (fun k => s.arcs.any (byA M t k)) s.marks.length
theorem live_is {s : SpaceZ} {T : Int} {M : Nat → Nat → Bool} (hr : rightS s = true) (h : IsReach s M) : IsLive s T (pickTo (liveP s M) (min T 24).toNat) := by
  refine ⟨pick_up _ _, fun t => ?_⟩
  rw [mem_pick]
  unfold liveP
  rw [allN_iff]
  constructor
  · rintro ⟨⟨h1, h2⟩, h3⟩
    refine ⟨hr, h1, by omega, fun k k1 k2 => ?_⟩
    obtain ⟨j, rfl⟩ := Int.eq_ofNat_of_zero_le k1
    obtain ⟨a, ha, hb⟩ := List.any_eq_true.1 (h3 j (by omega))
    simp only [byA, Bool.and_eq_true, beq_iff_eq] at hb
    obtain ⟨r1, r2, _⟩ := rightS_iff.1 hr a ha
    obtain ⟨g, hg⟩ := Int.eq_ofNat_of_zero_le r1
    refine ⟨a, ha, hb.1, ?_⟩
    rw [hg] at hb ⊢
    exact (h j g (by omega) (by omega)).1 hb.2
  · rintro ⟨_, h1, h2, h3⟩
    refine ⟨⟨h1, by omega⟩, fun k hk => ?_⟩
    obtain ⟨a, ha, e, hc⟩ := h3 k (by omega) (by omega)
    refine List.any_eq_true.2 ⟨a, ha, ?_⟩
    obtain ⟨r1, r2, _⟩ := rightS_iff.1 hr a ha
    obtain ⟨g, hg⟩ := Int.eq_ofNat_of_zero_le r1
    simp only [byA, Bool.and_eq_true, beq_iff_eq]
    refine ⟨e, ?_⟩
    rw [hg] at hc ⊢
    exact (h k g hk (by omega)).2 hc

set_option maxHeartbeats 2000000 in
theorem ghome_any (v : Value) (s : SpaceZ) (w : World) (hv : SpaceV w v s) :
    Calls Try.prog 17 #[v] w fun e w' => ∃ r xs, e = .returned r ∧ Ints w' r xs ∧ IsHome s xs ∧ Below w.heap.size w w' := by
  obtain ⟨mv, av, hve⟩ : ∃ mv av, v = .agg #[mv, av] := by obtain ⟨_, mv, av, e, _⟩ := hv; exact ⟨mv, av, e⟩
  subst hve
  obtain ⟨am, cm, hme, hN⟩ : ∃ am cm, mv = .slice am s.marks.length cm ∧ s.marks.length ≤ 5864062014805 := by
    obtain ⟨hN, mv', av', e, hM, _⟩ := hv
    obtain ⟨am, cm, rfl, _⟩ := hM.slice
    injection e with e; simp at e
    exact ⟨am, cm, e.1, hN⟩
  subst hme
  have c := below_new w (.cells #[.slice am s.marks.length cm, av] 25)
  have hbx := box2_new w (.slice am s.marks.length cm) av 25
  replace hv := hv.below c
  obtain ⟨n, Hn⟩ : ∃ n, Hid (s.marks.length = n) := ⟨_, rfl⟩
  rw [Hn.out] at c hbx hv hN ⊢
  obtain ⟨W0, HW0⟩ : ∃ W0, Hid (w.alloc (.cells #[.slice am n cm, av] 25) = W0) := ⟨_, rfl⟩
  rw [HW0.out] at c hbx hv
  go_enter Try.func17, Try.ntmps17
  go_upto_region 1 with fail
  rw [HW0.out]
  clear HW0
  obtain ⟨x0, x1, x2⟩ := id hbx
  go_wp2_with fail
  refine (gright_any _ s _ (by exact hv)).mono ?_
  rintro e w1 ⟨rfl, b⟩
  replace hv := hv.below b
  replace hbx := hbx.below b
  replace c := below_then c b
  clear b x0 x1 x2
  cases hr : rightS s
  · have R : Hid (IsHome s []) := home_none hr
    clear hr
    go_wp2
    go_ret
    exact ⟨_, [], rfl, Ints.nil _, R, c⟩
  obtain ⟨x0, x1, x2⟩ := id hbx
  go_wp2_with fail
  refine (greach_any _ s _ (by exact hv) hr).mono ?_
  rintro e w2 ⟨br, rb, M, rfl, hR, hIs, b⟩
  rw [Hn.out] at hR ⊢
  replace hbx := hbx.below b
  replace c := below_then c b
  have HI : Hid (IsHome s (pickTo (homeP M n) n)) := by have := home_is hr hIs; rw [Hn.out] at this; exact this
  clear b x0 x1 x2 hr hIs
  obtain ⟨x0, x1, x2⟩ := id hbx
  go_wp2_with fail
  clear x0 x1 x2
  go_loopg [4, 16] n (fun g o i wr => ∃ k : Nat, k + g = n ∧ i = .int .i64 k ∧ Own w2.heap.size w2 wr o (pickTo (homeP M n) k))
  case atStart => exact ⟨0, by omega, rfl, Own.nil _⟩
  case round =>
    obtain ⟨k, hkg, rfl, hO⟩ := hrel
    obtain ⟨G, hGk⟩ : ∃ G, G = gk := ⟨_, rfl⟩
    obtain ⟨W, hW⟩ : ∃ W, W = wr := ⟨_, rfl⟩
    subst hGk hW
    have hle := pickTo_le (homeP M n) k
    by_cases hkn : k < n
    · have hR2 := hR.below hO.2.1
      have Hy : Hid _ := pickTo_yes (homeP M n) k
      have Hno : Hid _ := pickTo_no (homeP M n) k
      go_wp2_with fail
      go_loopg [6, 21] n (fun g o i wr => ∃ j : Nat, j + g = n ∧ i = .int .i64 j ∧ o = .bool (allN (fun i => M i k) j) ∧ wr = W)
      case atStart => exact ⟨0, by omega, rfl, rfl, rfl⟩
      case round =>
        obtain ⟨j, hjg, rfl, rfl, rfl⟩ := hrel
        by_cases hjn : j < n
        · have e1 := hR2.rows j hjn
          have e2 := hR2.cells j k hjn hkn
          have Hs : Hid (allN (fun i => M i k) (j + 1) = (allN (fun i => M i k) j && M j k)) := rfl
          cases hp : allN (fun i => M i k) j
          · rw [hp] at Hs
            clear hp
            go_wp2
            go_roundg (gk - 1)
            case measure => omega
            case rel => exact ⟨j + 1, by omega, by go_num, by rw [Hs.out]; rfl, rfl⟩
          · rw [hp] at Hs
            clear hp
            go_wp2
            go_roundg (gk - 1)
            case measure => omega
            case rel => exact ⟨j + 1, by omega, by go_num, by rw [Hs.out]; rfl, rfl⟩
        · obtain rfl : n = j := by omega
          have F : Hid (allN (fun i => M i k) n = homeP M n k) := by show _ = _; unfold homeP; rw [Int.toNat_natCast]
          rw [F.out]
          clear F
          cases hp : homeP M n k
          · have R := hO
            rw [← Hno.out hp] at R
            clear hO hp
            go_wp2
            go_roundg (G - 1)
            case measure => omega
            case rel => exact ⟨k + 1, by omega, by go_num, R⟩
          · go_wp2_with (at_builtin; refine wp_append_int rfl _ _ rfl w2.heap.size w2 _ _ _ (k : Int) hO rfl rfl (by omega) ?_; intro v' w3 hO3)
            have R : Own w2.heap.size w2 w3 v' (pickTo (homeP M n) (k + 1)) := by rw [Hy.out hp]; exact hO3
            clear hO hO3 hp
            go_wp2
            go_roundg (G - 1)
            case measure => omega
            case rel => exact ⟨k + 1, by omega, by go_num, R⟩
    · obtain rfl : n = k := by omega
      have R := hO.ints (by omega)
      have R2 := below_then c hO.2.1
      clear hO
      go_wp2
      go_ret
      exact ⟨_, _, rfl, R, HI.out, R2⟩

set_option maxHeartbeats 4000000 in
theorem glive_any (v : Value) (s : SpaceZ) (T : Int) (w : World) (hv : SpaceV w v s) :
    Calls Try.prog 13 #[v, .int .i64 T] w fun e w' => ∃ r xs, e = .returned r ∧ Ints w' r xs ∧ IsLive s T xs ∧ Below w.heap.size w w' := by
  obtain ⟨mv, av, hve⟩ : ∃ mv av, v = .agg #[mv, av] := by obtain ⟨_, mv, av, e, _⟩ := hv; exact ⟨mv, av, e⟩
  subst hve
  obtain ⟨aa, ca, hae, hla, hN, hA⟩ : ∃ aa ca, av = .slice aa s.arcs.length ca ∧ s.arcs.length ≤ 5864062014805 ∧ s.marks.length ≤ 5864062014805 ∧ Arcs w av s.arcs := by
    obtain ⟨hN, mv', av', e, hM, hA⟩ := hv
    injection e with e; simp at e
    obtain ⟨rfl, rfl⟩ := e
    have hA2 := hA
    obtain ⟨aa, ca, rfl, h⟩ := hA.slice
    exact ⟨aa, ca, rfl, h, hN, hA2⟩
  subst hae
  have c := below_new w (.cells #[mv, .slice aa s.arcs.length ca] 25)
  have hbx := box2_new w mv (.slice aa s.arcs.length ca) 25
  replace hv := hv.below c
  replace hA := hA.below c
  obtain ⟨n, Hn⟩ : ∃ n, Hid (s.marks.length = n) := ⟨_, rfl⟩
  rw [Hn.out] at hN
  obtain ⟨la, Hla⟩ : ∃ la, Hid (s.arcs.length = la) := ⟨_, rfl⟩
  rw [Hla.out] at c hbx hv hla hA ⊢
  obtain ⟨W0, HW0⟩ : ∃ W0, Hid (w.alloc (.cells #[mv, .slice aa la ca] 25) = W0) := ⟨_, rfl⟩
  rw [HW0.out] at c hbx hv hA
  obtain ⟨Mn, HM⟩ : ∃ Mn, Hid (min T 24 = Mn) := ⟨_, rfl⟩
  have hM24 : Mn ≤ 24 := by have := HM.out; omega
  obtain ⟨tm, Htm⟩ : ∃ tm, Hid (Mn.toNat = tm) := ⟨_, rfl⟩
  have htm24 : tm ≤ 24 := by have := Htm.out; omega
  go_enter Try.func13, Try.ntmps13
  go_upto_region 1 with fail
  rw [HW0.out]
  clear HW0
  obtain ⟨x0, x1, x2⟩ := id hbx
  go_wp2_with fail
  refine (gright_any _ s _ (by exact hv)).mono ?_
  rintro e w1 ⟨rfl, b⟩
  replace hv := hv.below b
  replace hA := hA.below b
  replace hbx := hbx.below b
  replace c := below_then c b
  clear b x0 x1 x2
  cases hr : rightS s
  · have R : Hid (IsLive s T []) := live_none hr
    clear hr
    go_wp2
    go_ret
    exact ⟨_, [], rfl, Ints.nil _, R, c⟩
  have HRt : Hid (rightS s = true) := hr
  obtain ⟨x0, x1, x2⟩ := id hbx
  go_wp2_with fail
  refine (greach_any _ s _ (by exact hv) hr).mono ?_
  rintro e w2 ⟨br, rb, M, rfl, hR, hIs, b⟩
  rw [Hn.out] at hR ⊢
  replace hA := hA.below b
  replace hbx := hbx.below b
  replace c := below_then c b
  have HI : Hid (IsLive s T (pickTo (liveP s M) tm)) := by have := live_is (T := T) hr hIs; rw [HM.out, Htm.out] at this; exact this
  clear b x0 x1 x2 hr hIs hv
  go_upto_region 5 with fail
  go_cut [19, 20] (fun q i wc => q = .int .i64 Mn ∧ i = .int .i64 0 ∧ wc = w2)
  case first =>
    have h1 := HM.out
    go_wp2_with fail
    all_goals go_meet
    all_goals refine ⟨?_, rfl, rfl⟩
    all_goals (congr 1; omega)
  obtain ⟨rfl, rfl, rfl⟩ := hcut
  obtain ⟨W0, rfl⟩ : ∃ w0, w0 = wc := ⟨_, rfl⟩
  go_wp2_with fail
  go_loopg [6, 20] tm (fun g o i wr => ∃ k : Nat, k + g = tm ∧ i = .int .i64 k ∧ Own W0.heap.size W0 wr o (pickTo (liveP s M) k))
  case atStart => exact ⟨0, by omega, rfl, Own.nil _⟩
  case round =>
    obtain ⟨t, htg, rfl, hO⟩ := hrel
    obtain ⟨G, hGk⟩ : ∃ G, G = gk := ⟨_, rfl⟩
    obtain ⟨W, hW⟩ : ∃ W, W = wr := ⟨_, rfl⟩
    subst hGk hW
    have htM := Htm.out
    have hle := pickTo_le (liveP s M) t
    by_cases htn : t < tm
    · have htM2 : (t : Int) < Mn := by omega
      have hR2 := hR.below hO.2.1
      have hA2 := hA.below hO.2.1
      have hbx2 := hbx.below hO.2.1
      have Hy : Hid _ := pickTo_yes (liveP s M) t
      have Hno : Hid _ := pickTo_no (liveP s M) t
      go_wp2_with fail
      go_loopg [8, 25] n (fun g o i wr => ∃ k : Nat, k + g = n ∧ i = .int .i64 k ∧ o = .bool (allN (fun k => s.arcs.any (byA M t k)) k) ∧ Below W.heap.size W wr)
      case atStart => exact ⟨0, by omega, rfl, rfl, Below.refl _ _⟩
      case round =>
        obtain ⟨k, hkg, rfl, rfl, hb⟩ := hrel
        obtain ⟨G1, hGk⟩ : ∃ G1, G1 = gk := ⟨_, rfl⟩
        obtain ⟨W1, hW1⟩ : ∃ W1, W1 = wr := ⟨_, rfl⟩
        subst hGk hW1
        by_cases hkn : k < n
        · have hR3 := hR2.below hb
          have hA3 := hA2.below hb
          obtain ⟨x0, x1, x2⟩ := hbx2.below hb
          have Hal : Hid (allN (fun k => s.arcs.any (byA M t k)) (k + 1) = (allN (fun k => s.arcs.any (byA M t k)) k && s.arcs.any (byA M t k))) := rfl
          generalize allN (fun k => s.arcs.any (byA M t k)) k = al at *
          go_wp2_with fail
          clear x0 x1 x2
          go_loopg [10, 31] la (fun g o i wr => ∃ j : Nat, j + g = la ∧ i = .int .i64 j ∧ o = .bool (someA (byA M t k) s.arcs j) ∧ Below W1.heap.size W1 wr)
          case atStart => exact ⟨0, by omega, rfl, rfl, Below.refl _ _⟩
          case round =>
            obtain ⟨j, hjg, rfl, rfl, hb2⟩ := hrel
            by_cases hjn : j < la
            · have Hjl : Hid (j < s.arcs.length) := by have := Hla.out; show j < s.arcs.length; omega
              obtain ⟨b1, o1, rfl, _, c0, c1, c2⟩ := (hA3.below hb2).at Hjl.out
              have Hs : Hid _ := someA_succ (byA M t k) Hjl.out
              have Hrt := rightS_iff.1 HRt.out _ (List.getElem_mem Hjl.out)
              obtain ⟨A, HA⟩ : ∃ A, Hid (s.arcs[j]'Hjl.out = A) := ⟨_, rfl⟩
              obtain ⟨x, y, z⟩ := A
              rw [HA.out] at c0 c1 c2 Hs Hrt
              simp only at c0 c1 c2 Hrt
              obtain ⟨r1, r2, _, _⟩ := Hrt
              rw [Hn.out] at r2
              obtain ⟨f, rfl⟩ := Int.eq_ofNat_of_zero_le r1
              have hfn : f < n := by omega
              clear r1 r2
              replace Hs : Hid (someA (byA M t k) s.arcs (j + 1) = (someA (byA M t k) s.arcs j || (y == (t : Int) && M k f))) := by have := Hs.out; simp only [byA, Int.toNat_natCast] at this ⊢; exact this
              generalize someA (byA M t k) s.arcs j = sm at *
              have bn := below_new wr (.cells #[.int .i64 f, .int .i64 y, .int .i64 z] 44)
              have hb3 := box3_new wr (.int .i64 f) (.int .i64 y) (.int .i64 z) 44
              obtain ⟨wt, Hwt⟩ : ∃ wt, Hid (wr.alloc (.cells #[.int .i64 f, .int .i64 y, .int .i64 z] 44) = wt) := ⟨_, rfl⟩
              rw [Hwt.out] at bn hb3
              have hR4 := (hR3.below hb2).below bn
              have e1 := hR4.rows k hkn
              have e2 := hR4.cells k f hkn hfn
              replace hb2 := below_then hb2 bn
              go_upto_region 16 with fail
              rw [Hwt.out]
              clear Hwt c0 c1 c2 bn hR4
              obtain ⟨z0, z1, z2, z3⟩ := hb3
              cases sm
              · cases hy : y == (t : Int)
                · have HsV : Hid (someA (byA M t k) s.arcs (j + 1) = false) := by have := Hs.out; rw [hy] at this; exact this
                  go_wp2_with fail
                  go_quiet (fail)
                  have R := below_then hb2 (below_drewN (Below.refl wt.heap.size wt) nq)
                  clear hb2 e1 e2 z0 z1 z2 z3
                  go_wp2
                  go_roundg (gk - 1)
                  case measure => omega
                  case rel => exact ⟨j + 1, by omega, by go_num, by rw [HsV.out], R⟩
                · have HsV : Hid (someA (byA M t k) s.arcs (j + 1) = M k f) := by have := Hs.out; rw [hy] at this; exact this
                  go_wp2_with fail
                  go_quiet (fail)
                  have R := below_then hb2 (below_drewN (Below.refl wt.heap.size wt) nq)
                  clear hb2 e1 e2 z0 z1 z2 z3
                  go_wp2
                  go_roundg (gk - 1)
                  case measure => omega
                  case rel => exact ⟨j + 1, by omega, by go_num, by rw [HsV.out], R⟩
              · have HsV : Hid (someA (byA M t k) s.arcs (j + 1) = true) := Hs.out
                go_wp2_with fail
                go_quiet (fail)
                have R := below_then hb2 (below_drewN (Below.refl wt.heap.size wt) nq)
                clear hb2 e1 e2 z0 z1 z2 z3
                go_wp2
                go_roundg (gk - 1)
                case measure => omega
                case rel => exact ⟨j + 1, by omega, by go_num, by rw [HsV.out], R⟩
            · have F : Hid (someA (byA M t k) s.arcs j = s.arcs.any (byA M t k)) := someA_all _ _ (by have := Hla.out; omega)
              rw [F.out]
              have R := below_then hb hb2
              clear F hb hb2
              generalize s.arcs.any (byA M t k) = an at *
              cases al
              · go_wp2
                go_roundg (G1 - 1)
                case measure => omega
                case rel => exact ⟨k + 1, by omega, by go_num, by rw [Hal.out]; rfl, R⟩
              · go_wp2
                go_roundg (G1 - 1)
                case measure => omega
                case rel => exact ⟨k + 1, by omega, by go_num, by rw [Hal.out]; rfl, R⟩
        · obtain rfl : n = k := by omega
          have F : Hid (allN (fun k => s.arcs.any (byA M t k)) n = liveP s M t) := by show _ = _; unfold liveP; rw [Hn.out]
          have hO2 := hO.trans hb
          rw [F.out]
          clear F hO hb
          cases hp : liveP s M t
          · have R := hO2
            rw [← Hno.out hp] at R
            clear hO2 hp
            go_wp2
            go_roundg (G - 1)
            case measure => omega
            case rel => exact ⟨t + 1, by omega, by go_num, R⟩
          · go_wp2_with (at_builtin; refine wp_append_int rfl _ _ rfl W0.heap.size W0 _ _ _ (t : Int) hO2 rfl rfl (by omega) ?_; intro v' w3 hO3)
            have R : Own W0.heap.size W0 w3 v' (pickTo (liveP s M) (t + 1)) := by rw [Hy.out hp]; exact hO3
            clear hO2 hO3 hp
            go_wp2
            go_roundg (G - 1)
            case measure => omega
            case rel => exact ⟨t + 1, by omega, by go_num, R⟩
    · have htM2 : ¬ (t : Int) < Mn := by omega
      obtain rfl : tm = t := by omega
      have R := hO.ints (by omega)
      have R2 := below_then c hO.2.1
      clear hO
      go_wp2
      go_ret
      exact ⟨_, rfl, _, R, HI.out, R2⟩

end Go.Proofs.Ytlejaeecfeiajaa
