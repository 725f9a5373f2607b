/- Package live as it landed: what can always be done again; who began last. -/
import Derived.Test.YtkdbkoogcndlgaaGr09
import Derived.Test.YtkdbkoogcndlgaaGr08
import Derived.BigRegion
namespace Go.Proofs.Ytkdbkoogcndlgaa
open Go.RowKit
set_option linter.unusedVariables false
set_option maxRecDepth 4000

/-! ### Live -/
/-- From where one of the first k arcs of t is reached. -/
def LiveTo (nx : List (List Int)) (n : Nat) (l : List (Int × Int × Int)) (t : Int) (k : Nat) (f : Nat → Bool) : Prop :=
  Shut nx n f ∧ ∀ j, j < n → (f j = true ↔ ∃ a ∈ l.take k, a.2.1 = t ∧ Goes nx a.1.toNat j)
theorem LiveTo.zero (nx : List (List Int)) (n : Nat) (l : List (Int × Int × Int)) (t : Int) : LiveTo nx n l t 0 (fun _ => false) :=
  ⟨fun a b _ h => by simp at h, fun j _ => by simp⟩
theorem LiveTo.skip {nx : List (List Int)} {n : Nat} {l : List (Int × Int × Int)} {t : Int} {k : Nat} {f : Nat → Bool} (h : LiveTo nx n l t k f) (hk : k < l.length) (ht : l[k].2.1 ≠ t) : LiveTo nx n l t (k + 1) f := by
  refine ⟨h.1, fun j hj => ?_⟩
  rw [h.2 j hj, List.take_succ_eq_append_getElem hk]
  constructor
  · rintro ⟨a, ha, q⟩; exact ⟨a, List.mem_append_left _ ha, q⟩
  · rintro ⟨a, ha, q⟩
    rcases List.mem_append.1 ha with r | r
    · exact ⟨a, r, q⟩
    · rw [List.mem_singleton.1 r] at q; exact absurd q.1 ht
theorem LiveTo.take {nx : List (List Int)} {n m : Nat} {l : List (Int × Int × Int)} {t : Int} {k : Nat} {f g : Nat → Bool} (h : LiveTo nx n l t k f) (hk : k < l.length) (ht : l[k].2.1 = t) (hm : l[k].1 = (m : Int)) (hs : Spread nx n f m g) : LiveTo nx n l t (k + 1) g := by
  refine ⟨hs.shut, fun j hj => ?_⟩
  rw [hs.mem j hj, h.2 j hj, List.take_succ_eq_append_getElem hk]
  constructor
  · rintro (⟨a, ha, q⟩ | q)
    · exact ⟨a, List.mem_append_left _ ha, q⟩
    · exact ⟨_, List.mem_append_right _ (List.mem_singleton.2 rfl), ht, by rw [hm]; exact q⟩
  · rintro ⟨a, ha, q⟩
    rcases List.mem_append.1 ha with r | r
    · exact .inl ⟨a, r, q⟩
    · rw [List.mem_singleton.1 r, hm] at q; exact .inr q.2

/-- What the function that is asked knows. -/
structure LiveKnows (w : World) (bs bk : Nat) (am : Option Addr) (lm cm : Nat) (av nv : Value) (s : SpaceZ) (nx : List (List Int)) : Prop where
  box : Box2 w bs (.slice am lm cm) av
  arcs : Arcs w av s.arcs
  back : Box1 w bk nv
  lists : NextAt w (fun _ => True) nv nx
theorem LiveKnows.below {w w' : World} {bs bk : Nat} {am : Option Addr} {lm cm : Nat} {av nv : Value} {s : SpaceZ} {nx : List (List Int)} (h : LiveKnows w bs bk am lm cm av nv s nx) (hb : Below w.heap.size w w') : LiveKnows w' bs bk am lm cm av nv s nx :=
  ⟨h.box.below hb, h.arcs.below hb, h.back.below hb, h.lists.below hb⟩

set_option maxHeartbeats 2000000 in
theorem live1_any (w : World) (bs bk : Nat) (am : Option Addr) (lm cm : Nat) (av nv : Value) (s : SpaceZ) (nx : List (List Int)) (hK : LiveKnows w bs bk am lm cm av nv s nx) (hl : s.marks.length = lm) (hn : lm ≤ 5864062014805) (hr : rightS s = true) (hx : IsSteps s (fun a => a.2.2) (fun a => a.1) nx) (t : Int) :
    Calls Try.prog 41 #[.int .i64 t, .pointer (some ⟨bs, 0, none⟩), .pointer (some ⟨bk, 0, none⟩)] w fun e w' => ∃ f, e = .returned (.bool (allT f lm)) ∧ LiveTo nx lm s.arcs t s.arcs.length f ∧ Below w.heap.size w w' := by
  obtain ⟨aa, ca, rfl, hla⟩ := hK.arcs.slice
  have HI : Hid (Inside nx lm) := by have := hx.inside fun a ha => (by have := rightS_iff.1 hr a ha; omega); rw [hl] at this; exact this
  have HR : Hid (∀ a ∈ s.arcs, 0 ≤ a.1 ∧ a.1 < (lm : Int)) := fun a ha => by have := rightS_iff.1 hr a ha; omega
  have HL : Hid (nx.length = lm) := by show _ = _; rw [hx.len, hl]
  clear hx hr hl
  obtain ⟨la, Hla⟩ : ∃ la, Hid (s.arcs.length = la) := ⟨_, rfl⟩
  rw [Hla.out] at hK hla ⊢
  obtain ⟨x0, x1, x2⟩ := hK.box
  obtain ⟨w1, hmk, hb1, hs1, hR1⟩ := make_flags w lm hn
  go_enter Try.func41, Try.ntmps41
  go_upto_region 2 with fail
  clear hmk x0 x1 x2
  obtain ⟨x0, x1, x2⟩ := (hK.below hb1).box
  go_wp2_with fail
  clear x0 x1 x2
  go_loopg [15] la (fun g i wr => ∃ (k : Nat) (f : Nat → Bool), k + g = la ∧ i = .int .i64 k ∧ BoolRow wr w.heap.size lm f ∧ Hid (LiveTo nx lm s.arcs t k f) ∧ Below w.heap.size w wr)
  case atStart => exact ⟨0, _, by omega, rfl, hR1, LiveTo.zero _ _ _ _, hb1⟩
  case round =>
    clear hR1 hb1 hs1
    obtain ⟨k, f, hkg, rfl, hF, Hf, hb⟩ := hrel
    by_cases hkn : k < la
    · have Hkl : Hid (k < s.arcs.length) := by have := Hla.out; show k < s.arcs.length; omega
      obtain ⟨b1, o1, rfl, _, c0, c1, c2⟩ := (hK.below hb).arcs.at Hkl.out
      have Hm := HR.out _ (List.getElem_mem Hkl.out)
      obtain ⟨A, HA⟩ : ∃ A, Hid (s.arcs[k]'Hkl.out = A) := ⟨_, rfl⟩
      rw [HA.out] at c0 c1 c2 Hm
      obtain ⟨x, y, z⟩ := A
      simp only at c0 c1 c2 Hm
      have b3 := below_new wr (.cells #[.int .i64 x, .int .i64 y, .int .i64 z] 79)
      have hbn := below_then hb b3
      have hb3 := box3_new wr (.int .i64 x) (.int .i64 y) (.int .i64 z) 79
      replace hF := hF.below b3
      obtain ⟨W1, HW1⟩ : ∃ W1, Hid (wr.alloc (.cells #[.int .i64 x, .int .i64 y, .int .i64 z] 79) = W1) := ⟨_, rfl⟩
      rw [HW1.out] at hb3 hbn hF
      go_upto_region 5 with fail
      rw [HW1.out]
      clear HW1 c0 c1 c2 b3
      obtain ⟨z0, z1, z2, z3⟩ := id hb3
      obtain ⟨y0, y1⟩ := (hK.below hbn).back
      by_cases ht : y = t
      · subst ht
        obtain ⟨m, hm⟩ := Int.eq_ofNat_of_zero_le Hm.1
        subst hm
        have hmn : m < lm := by omega
        obtain ⟨an, cn, hnv, _⟩ := hK.lists
        have hNx := hK.lists.older hbn (Nat.le_refl _)
        subst hnv
        go_wp2_with fail
        refine (spread_any _ _ nx lm w.heap.size m f (by exact hNx) HL.out HI.out hn hF Hf.out.1 hmn).mono ?_
        rintro e w2 ⟨rfl, g, hG, hsp, hO⟩
        have R : Hid (LiveTo nx lm s.arcs y (k + 1) g) := Hf.out.take Hkl.out (by rw [HA.out]) (by rw [HA.out]) hsp
        have R2 : Below w.heap.size w w2 := hbn.trans hO.below
        clear hF Hf hb hbn hb3 hsp hO z0 z1 z2 z3 y0 y1
        go_wp2
        go_roundg (gk - 1)
        case measure => omega
        case rel => exact ⟨k + 1, g, by omega, by go_num, hG, R, R2⟩
      · have ht' : (y == t) = false := by simpa using ht
        have R : Hid (LiveTo nx lm s.arcs t (k + 1) f) := Hf.out.skip Hkl.out (by rw [HA.out]; exact ht)
        clear Hf hb hb3 ht
        go_wp2
        go_roundg (gk - 1)
        case measure => omega
        case rel => exact ⟨k + 1, f, by omega, by go_num, hF, R, hbn⟩
    · obtain rfl : k = la := by omega
      go_wp2_with fail
      refine (containsb_any _ _ f _ hF hn).mono ?_
      rintro e w2 ⟨rfl, rfl⟩
      clear hF
      go_wp2
      go_ret
      exact ⟨f, rfl, Hf.out, hb⟩

theorem mem_pickTo {p : Int → Bool} {n : Nat} {t : Int} : t ∈ pickTo p n ↔ (0 ≤ t ∧ t < n) ∧ p t = true := by unfold pickTo; rw [List.mem_filter, mem_range]
theorem pickTo_up (p : Int → Bool) (n : Nat) : (pickTo p n).Pairwise (· < ·) := (range_sorted _).sublist List.filter_sublist
theorem live_pick {s : SpaceZ} {nx : List (List Int)} (hr : rightS s = true) (hx : IsSteps s (fun a => a.2.2) (fun a => a.1) nx) {p : Int → Bool} (hp : ∀ t, p t = true ↔ ∀ k, k < s.marks.length → ∃ a ∈ s.arcs, a.2.1 = t ∧ Goes nx a.1.toNat k) (T : Int) : IsLive s T (pickTo p (min T 24).toNat) := by
  refine ⟨pickTo_up _ _, fun t => ?_⟩
  rw [mem_pickTo, hp]
  constructor
  · rintro ⟨⟨h1, h2⟩, h3⟩
    refine ⟨hr, h1, by omega, fun k hk0 hk => ?_⟩
    obtain ⟨k', rfl⟩ := Int.eq_ofNat_of_zero_le hk0
    obtain ⟨a, ha, e, hg⟩ := h3 k' (by omega)
    have hin := rightS_iff.1 hr a ha
    have := (back_goes hr hx (by omega) (by omega)).1 hg
    rw [show ((a.1.toNat : Nat) : Int) = a.1 by omega] at this
    exact ⟨a, ha, e, this⟩
  · rintro ⟨_, h1, h2, h3⟩
    refine ⟨⟨h1, by omega⟩, fun k hk => ?_⟩
    obtain ⟨a, ha, e, hc⟩ := h3 k (by omega) (by omega)
    have hin := rightS_iff.1 hr a ha
    refine ⟨a, ha, e, (back_goes hr hx (by omega) hk).2 ?_⟩
    rw [show ((a.1.toNat : Nat) : Int) = a.1 by omega]
    exact hc
theorem LiveTo.all {nx : List (List Int)} {n : Nat} {l : List (Int × Int × Int)} {t : Int} {f : Nat → Bool} (h : LiveTo nx n l t l.length f) : allT f n = true ↔ ∀ k, k < n → ∃ a ∈ l, a.2.1 = t ∧ Goes nx a.1.toNat k := by
  rw [allT_iff]
  have e : l.take l.length = l := List.take_of_length_le (Nat.le_refl _)
  constructor
  · intro q k hk
    have := (h.2 k hk).1 (q k hk)
    rw [e] at this; exact this
  · intro q k hk
    exact (h.2 k hk).2 (by rw [e]; exact q k hk)

set_option maxHeartbeats 2000000 in
theorem live_live (v : Value) (s : SpaceZ) (T : Int) (w : World) (hv : SpaceV w v s) :
    Calls Try.prog 20 #[v, .int .i64 T] w fun e w' => ∃ r xs, e = .returned r ∧ Ints w' r xs ∧ IsLive s T xs ∧ Below w.heap.size w w' := by
  have hv0 := hv
  obtain ⟨hN, mv, av, rfl, hM, hA⟩ := hv
  obtain ⟨am, cm, rfl, hlm, _⟩ := hM.slice
  obtain ⟨aa, ca, rfl, hla⟩ := hA.slice
  obtain ⟨lm, Hlm⟩ : ∃ lm, Hid (s.marks.length = lm) := ⟨_, rfl⟩
  obtain ⟨la, Hla⟩ : ∃ la, Hid (s.arcs.length = la) := ⟨_, rfl⟩
  rw [Hlm.out] at hlm hN hv0 ⊢
  rw [Hla.out] at hA hla hv0 ⊢
  clear hM
  have c := below_new w (.cells #[.slice am lm cm, .slice aa la ca] 46)
  have hbx := box2_new w (.slice am lm cm) (.slice aa la ca) 46
  replace hA := hA.below c
  replace hv0 := hv0.below c
  obtain ⟨W0, HW0⟩ : ∃ W0, Hid (w.alloc (.cells #[.slice am lm cm, .slice aa la ca] 46) = W0) := ⟨_, rfl⟩
  rw [HW0.out] at c hbx hA hv0
  go_enter Try.func20, Try.ntmps20
  go_upto_region 1 with fail
  rw [HW0.out]
  clear HW0
  obtain ⟨x0, x1, x2⟩ := id hbx
  go_wp2_with fail
  refine (live_right _ s _ (by exact hv0)).mono ?_
  rintro e w2 ⟨rfl, b2⟩
  cases hr : rightS s
  · have R : Hid (IsLive s T []) := ⟨List.Pairwise.nil, fun t => by simp [hr]⟩
    have R2 := below_then c b2
    clear b2 hbx hA hv0 x0 x1 x2 hr
    go_wp2
    go_ret
    exact ⟨_, _, rfl, Ints.nil _, R.out, R2⟩
  · have Hr : Hid _ := hr
    replace hbx := hbx.below b2
    replace hA := hA.below b2
    replace hv0 := hv0.below b2
    clear x0 x1 x2
    obtain ⟨x0, x1, x2⟩ := id hbx
    go_wp2_with fail
    refine (back_any _ s _ (by exact hv0) Hr.out).mono ?_
    rintro e w3 ⟨nv, nx, rfl, hL, hx, b3⟩
    have Hx : Hid _ := hx
    have R := below_then (below_then c b2) b3
    have hb1 := box1_new w3 nv 75
    have b4 := below_new w3 (.cells #[nv] 75)
    have hK : LiveKnows (w3.alloc (.cells #[nv] 75)) w.heap.size w3.heap.size am lm cm (.slice aa la ca) nv s nx := ⟨(hbx.below b3).below b4, (hA.below b3).below b4, hb1, (hL.weak fun _ _ _ => trivial).below b4⟩
    replace R := below_then R b4
    obtain ⟨an, cn, hnv, _⟩ := hL
    obtain ⟨ln, Hln⟩ : ∃ ln, Hid (nx.length = ln) := ⟨_, rfl⟩
    rw [Hln.out] at hnv
    subst hnv
    obtain ⟨W3, HW3⟩ : ∃ W3, Hid (w3.alloc (.cells #[.slice an ln cn] 75) = W3) := ⟨_, rfl⟩
    rw [HW3.out] at hK R
    clear b2 b3 b4 hbx hA hv0 x0 x1 x2 hr hb1 hx
    obtain ⟨M, HM⟩ : ∃ M, Hid (min T 24 = M) := ⟨_, rfl⟩
    obtain ⟨tm, Htm⟩ : ∃ tm, Hid (M.toNat = tm) := ⟨_, rfl⟩
    have htm24 : tm ≤ 5864062014805 := by have := Htm.out; have := HM.out; omega
    obtain ⟨p, Hp⟩ : ∃ p : Int → Bool, Hid (∀ t, p t = true ↔ ∀ k, k < s.marks.length → ∃ a ∈ s.arcs, a.2.1 = t ∧ Goes nx a.1.toNat k) := ⟨fun t => @decide _ (Classical.propDecidable (∀ k, k < s.marks.length → ∃ a ∈ s.arcs, a.2.1 = t ∧ Goes nx a.1.toNat k)), fun t => by simp⟩
    have E : Hid (IsLive s T (pickTo p tm)) := by have := live_pick Hr.out Hx.out Hp.out T; rw [HM.out, Htm.out] at this; exact this
    have key := those_any W3 41 #[.pointer (some ⟨w.heap.size, 0, none⟩), .pointer (some ⟨w3.heap.size, 0, none⟩)] tm p (by
      intro k w' hk hb'
      refine (live1_any w' _ _ am lm cm _ _ s nx (hK.below hb') Hlm.out hN Hr.out Hx.out k).mono ?_
      rintro e w'' ⟨f, rfl, hf, hb''⟩
      refine ⟨?_, hb''⟩
      have : allT f lm = p k := by rw [Bool.eq_iff_iff, Hp.out, hf.all, Hlm.out]
      rw [this]) Try.call41 M Htm.out htm24 W3 (Below.refl _ _)
    clear hK
    go_upto_region 4 with fail
    rw [HW3.out]
    clear HW3
    rcases Int.lt_trichotomy T 24 with hT | hT | hT
    · have e : M = T := by have := HM.out; omega
      subst e
      go_wp2_with fail
      refine key.mono ?_
      rintro e w5 ⟨r, rfl, h5, b5⟩
      have R2 := below_then R b5
      clear b5
      go_wp2
      go_ret
      exact ⟨_, _, rfl, h5, E.out, R2⟩
    · have e : M = 24 := by have := HM.out; omega
      subst e hT
      go_wp2_with fail
      refine key.mono ?_
      rintro e w5 ⟨r, rfl, h5, b5⟩
      have R2 := below_then R b5
      clear b5
      go_wp2
      go_ret
      exact ⟨_, _, rfl, h5, E.out, R2⟩
    · have e : M = 24 := by have := HM.out; omega
      subst e
      go_wp2_with fail
      refine key.mono ?_
      rintro e w5 ⟨r, rfl, h5, b5⟩
      have R2 := below_then R b5
      clear b5
      go_wp2
      go_ret
      exact ⟨_, _, rfl, h5, E.out, R2⟩

/-! ### Home -/
/-- What is noted once the first k marks have had their turn, and who began last. -/
structure Begun (nx : List (List Int)) (n : Nat) (k last : Nat) (f : Nat → Bool) : Prop where
  shut : Shut nx n f
  lt : last < n
  seen : ∀ j, j < k → f j = true
  last : ∀ y, y < n → f y = true → Goes nx last y ∨ ∃ z, z < n ∧ ¬ Goes nx y z
theorem Begun.start (nx : List (List Int)) {n : Nat} (hn : 0 < n) : Begun nx n 0 0 (fun _ => false) :=
  ⟨fun a b _ h => by simp at h, hn, fun j hj => absurd hj (Nat.not_lt_zero _), fun y _ h => by simp at h⟩
theorem Begun.skip {nx : List (List Int)} {n k last : Nat} {f : Nat → Bool} (h : Begun nx n k last f) (hf : f k = true) : Begun nx n (k + 1) last f :=
  ⟨h.shut, h.lt, fun j hj => by
    by_cases e : j = k
    · rw [e]; exact hf
    · exact h.seen j (by omega), h.last⟩
theorem Begun.next {nx : List (List Int)} {n k last : Nat} {f g : Nat → Bool} (h : Begun nx n k last f) (hi : Inside nx n) (hk : k < n) (hf : f k = false) (hs : Spread nx n f k g) : Begun nx n (k + 1) k g := by
  refine ⟨hs.shut, hk, fun j hj => ?_, fun y hy hg => ?_⟩
  · by_cases e : j = k
    · subst e; exact (hs.mem j hk).2 (.inr (Goes.here j))
    · exact (hs.mem j (by omega)).2 (.inl (h.seen j (by omega)))
  · rcases (hs.mem y hy).1 hg with q | q
    · refine .inr ⟨k, hk, fun r => ?_⟩
      have := h.shut.goes hi hy q r
      rw [hf] at this; cases this
    · exact .inl q
theorem Begun.all {nx : List (List Int)} {n last : Nat} {f : Nat → Bool} (h : Begun nx n n last f) {u : Nat} (hu : u < n) (ha : ∀ z, z < n → Goes nx u z) : ∀ z, z < n → Goes nx last z := by
  intro z hz
  rcases h.last u hu (h.seen u hu) with q | ⟨y, hy, q⟩
  · exact q.trans (ha z hz)
  · exact absurd (ha y hy) q

theorem home_not {s : SpaceZ} {nx : List (List Int)} {l : Nat} (hr : rightS s = true) (hx : IsSteps s (fun a => a.2.2) (fun a => a.1) nx) (hl : l < s.marks.length) (hlast : ∀ u, u < s.marks.length → (∀ z, z < s.marks.length → Goes nx u z) → ∀ z, z < s.marks.length → Goes nx l z) {z : Nat} (hz : z < s.marks.length) (hg : ¬ Goes nx l z) : IsHome s [] := by
  refine ⟨List.Pairwise.nil, fun k => ⟨fun h => (by cases h), fun ⟨_, h1, h2, h3⟩ => ?_⟩⟩
  obtain ⟨u, rfl⟩ := Int.eq_ofNat_of_zero_le h1
  exfalso
  refine hg (hlast u (by omega) (fun y hy => (back_goes hr hx (by omega) hy).2 (h3 y (by omega) (by omega))) z hz)
theorem home_some {s : SpaceZ} {nx ny : List (List Int)} {l : Nat} (hr : rightS s = true) (hx : IsSteps s (fun a => a.2.2) (fun a => a.1) nx) (hy : IsSteps s (fun a => a.1) (fun a => a.2.2) ny) (hl : l < s.marks.length) (hg : ∀ z, z < s.marks.length → Goes nx l z) {p : Int → Bool} (hp : ∀ j : Nat, j < s.marks.length → (p j = true ↔ Goes ny l j)) : IsHome s (pickTo p s.marks.length) := by
  refine ⟨pickTo_up _ _, fun k => ?_⟩
  rw [mem_pickTo]
  constructor
  · rintro ⟨⟨h1, h2⟩, h3⟩
    obtain ⟨u, rfl⟩ := Int.eq_ofNat_of_zero_le h1
    refine ⟨hr, h1, h2, fun i hi0 hi => ?_⟩
    obtain ⟨j, rfl⟩ := Int.eq_ofNat_of_zero_le hi0
    exact ((back_goes hr hx hl (by omega)).1 (hg j (by omega))).trans ((forw_goes hr hy hl (by omega)).1 ((hp u (by omega)).1 h3))
  · rintro ⟨_, h1, h2, h3⟩
    obtain ⟨u, rfl⟩ := Int.eq_ofNat_of_zero_le h1
    exact ⟨⟨h1, h2⟩, (hp u (by omega)).2 ((forw_goes hr hy hl (by omega)).2 (h3 l (by omega) (by omega)))⟩
theorem home_empty {s : SpaceZ} (h : s.marks.length = 0) : IsHome s [] := ⟨List.Pairwise.nil, fun k => ⟨fun h => (by cases h), fun ⟨_, h1, h2, _⟩ => by omega⟩⟩
theorem home_wrong {s : SpaceZ} (h : rightS s = false) : IsHome s [] := ⟨List.Pairwise.nil, fun k => ⟨fun h => (by cases h), fun ⟨h1, _⟩ => by rw [h] at h1; cases h1⟩⟩
theorem shut_none (nx : List (List Int)) (n : Nat) : Shut nx n (fun _ => false) := fun a b _ h => by simp at h
theorem not_all {f : Nat → Bool} {n : Nat} (h : allT f n = false) : ∃ j, j < n ∧ f j = false := by
  obtain ⟨j, h1, h2⟩ := List.all_eq_false.1 h
  exact ⟨j, List.mem_range.1 h1, by simpa using h2⟩

end Go.Proofs.Ytkdbkoogcndlgaa
