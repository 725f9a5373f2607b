/- Package sound as it landed: what is told of the marks that were found. -/
import Derived.Test.YtfgimobmaahmmaaGr27
import Derived.Test.YtfgimobmaahmmaaGr07
import Derived.Test.YtfgimobmaahmmaaGr06
import Derived.Test.YtfgimobmaahmmaaGr11
import Derived.Test.YtfgimobmaahmmaaGr12
import Derived.Laws.EntriesVeiled
namespace Go.Proofs.Ytfgimobmaahmmaa
open Go.RowKit
set_option linter.unusedVariables false
set_option maxRecDepth 4000

def FirstB (f : Nat → Bool) (n : Nat) (i : Int) : Prop := (i = -1 ∧ ∀ j, j < n → f j = true) ∨ ∃ k : Nat, i = k ∧ k < n ∧ f k = false ∧ ∀ j, j < k → f j = true

set_option maxHeartbeats 400000 in
theorem indexb_first (B n : Nat) (f : Nat → Bool) (w : World) (h : BoolRow w B n f) (hn : n ≤ 5864062014805) :
    Calls Try.prog 51 #[.slice (some ⟨B, 0, none⟩) n n, .bool false] w fun e w' => ∃ i : Int, e = .returned (.int .i64 i) ∧ w' = w ∧ FirstB f n i := by
  go_enter Try.func51, Try.ntmps51
  go_wp2
  go_loop [8] (fun i => ∃ k : Nat, k ≤ n ∧ i = .int .i64 k ∧ Hid (∀ j, j < k → f j = true)) (fun i => n - (intOf i).toNat)
  case atStart => exact ⟨0, Nat.zero_le _, rfl, fun j hj => absurd hj (Nat.not_lt_zero _)⟩
  case round =>
    obtain ⟨k, hk, rfl, hidx⟩ := hrel
    by_cases hkn : k < n
    · have hc := h.cells k hkn
      cases hf : f k
      · rw [hf] at hc
        have F : Hid (FirstB f n k) := .inr ⟨k, rfl, hkn, hf, hidx.out⟩
        clear h
        go_wp2
        go_ret
        exact ⟨_, rfl, rfl, F.out⟩
      · rw [hf] at hc
        have F : Hid (∀ j, j < k + 1 → f j = true) := fun j hj => by
          by_cases e : j = k
          · subst e; exact hf
          · exact hidx.out j (by omega)
        clear h
        go_wp2
        go_round
        case rel => exact ⟨k + 1, by omega, by go_num, F⟩
        case measure => simp [intOf]; omega
    · have F : Hid (FirstB f n (-1)) := .inl ⟨rfl, fun j hj => hidx.out j (by omega)⟩
      go_wp2
      go_ret
      exact ⟨_, rfl, rfl, F.out⟩

/-- A function that is asked of a mark. -/
def AsksL (w0 : World) (g : Nat) (q : Value) (p : List Int → Bool) : Prop :=
  ∀ (v : Value) (x : List Int) w, Below w0.heap.size w0 w → Ints w v x → Calls Try.prog g #[v, q] w fun e w' => e = .returned (.bool (p x)) ∧ Below w.heap.size w w'
def FirstL (ls : List (List Int)) (p : List Int → Bool) (i : Int) : Prop := (i = -1 ∧ ∀ j, j < ls.length → p (markAt ls j) = false) ∨ ∃ k : Nat, i = k ∧ k < ls.length ∧ p (markAt ls k) = true ∧ ∀ j, j < k → p (markAt ls j) = false

set_option maxHeartbeats 1000000 in
theorem indexlists_any (w0 : World) (g : Nat) (q : Value) (p : List Int → Bool) (hg : AsksL w0 g q p) (eg : ∀ args w, (callFunc g args).run Try.prog w = .ok (.enter g args) w) (v : Value) (ls : List (List Int)) (w : World) (hw : Below w0.heap.size w0 w) (hv : Lists w v ls) :
    Calls Try.prog 50 #[v, .func (.func g) #[] #[q]] w fun e w' => ∃ i : Int, e = .returned (.int .i64 i) ∧ FirstL ls p i ∧ Below w.heap.size w w' := by
  obtain ⟨a, cap, rfl, hmx, _⟩ := hv.slice
  obtain ⟨len, Hlen⟩ : ∃ len, Hid (ls.length = len) := ⟨_, rfl⟩
  rw [Hlen.out] at hv hmx ⊢
  have Hg : Hid _ := hg
  clear hg
  go_enter Try.func50, Try.ntmps50
  go_wp2_with fail
  go_loopg [8] len (fun g i wr => ∃ k : Nat, k + g = len ∧ i = .int .i64 k ∧ Below w.heap.size w wr ∧ Hid (∀ j, j < k → p (markAt ls j) = false))
  case atStart => exact ⟨0, by omega, rfl, Below.refl _ _, fun j hj => absurd hj (Nat.not_lt_zero _)⟩
  case round =>
    obtain ⟨k, hkg, rfl, hb, Hn⟩ := hrel
    by_cases hkn : k < len
    · obtain ⟨b1, o1, u1, rfl, _, c0, i1⟩ := (hv.below hb).at hkn
      have hw2 := below_then hw hb
      obtain ⟨z, Hz⟩ : ∃ z, Hid (markAt ls k = z) := ⟨_, rfl⟩
      rw [Hz.out] at i1
      obtain ⟨au, lu, cu, rfl, _⟩ := id i1
      go_wp2_with fail
      refine (Hg.out _ z _ (by exact hw2) (by exact i1)).mono ?_
      rintro e w2 ⟨rfl, b'⟩
      have R := below_then hb b'
      cases hp : p z
      · have Hn2 : Hid (∀ j, j < k + 1 → p (markAt ls j) = false) := fun j hj => by
          by_cases e : j = k
          · subst e; rw [Hz.out]; exact hp
          · exact Hn.out j (by omega)
        clear b' hb c0 hp hw2 i1
        go_wp2
        go_roundg (gk - 1)
        case measure => omega
        case rel => exact ⟨k + 1, by omega, by go_num, R, Hn2⟩
      · have F : Hid (FirstL ls p k) := .inr ⟨k, rfl, by rw [Hlen.out]; exact hkn, by rw [Hz.out]; exact hp, Hn.out⟩
        clear b' hb c0 hp hw2 i1
        go_wp2
        go_ret
        exact ⟨_, rfl, F.out, R⟩
    · have F : Hid (FirstL ls p (-1)) := .inl ⟨rfl, fun j hj => Hn.out j (by rw [Hlen.out] at hj; omega)⟩
      go_wp2
      go_ret
      exact ⟨_, rfl, F.out, hb⟩

def extraB (E x : List Int) : Bool := coversL x E && !(coversL x E && coversL E x)
theorem extra_asks (w0 : World) (b : Nat) (u : Value) (E : List Int) (hb : Box1 w0 b u) (hu : Ints w0 u E) : AsksL w0 47 (.pointer (some ⟨b, 0, none⟩)) (extraB E) := by
  intro v x w hw hv
  replace hu := hu.below hw
  obtain ⟨y0, y1⟩ := hb.below hw
  obtain ⟨a1, l1, c1, rfl, _⟩ := id hv
  obtain ⟨a2, l2, c2, rfl, _⟩ := id hu
  have e : extraB E x = (coversL x E && !(coversL x E && coversL E x)) := rfl
  rw [e]
  go_enter Try.func47, Try.ntmps47
  go_wp2_with fail
  refine (covers_any _ _ x E _ (by exact hv) (by exact hu)).mono ?_
  rintro e w1 ⟨rfl, rfl⟩
  cases hc : coversL x E
  · have R : Hid (false = (coversL x E && !(coversL x E && coversL E x))) := by show _ = _; rw [hc]; rfl
    clear hc
    go_wp2
    go_ret
    exact ⟨ret_bool R.out, Below.refl _ _⟩
  · go_wp2_with fail
    refine (same_any _ _ x E _ (by exact hv) (by exact hu)).mono ?_
    rintro e w1 ⟨rfl, rfl⟩
    rw [hc]
    cases hd : coversL E x
    · have R : Hid (true = (coversL x E && !(coversL x E && coversL E x))) := by show _ = _; rw [hc, hd]; rfl
      clear hc hd
      go_wp2
      go_ret
      exact ⟨ret_bool R.out, Below.refl _ _⟩
    · have R : Hid (false = (coversL x E && !(coversL x E && coversL E x))) := by show _ = _; rw [hc, hd]; rfl
      clear hc hd
      go_wp2
      go_ret
      exact ⟨ret_bool R.out, Below.refl _ _⟩

/-- Of marks of one length: the same is the same. -/
theorem sameM_iff {x E : List Int} (hl : x.length = E.length) : sameM x E = true ↔ x = E := by
  unfold sameM
  rw [sameL_iff]
  exact ⟨fun h => eq_of_at hl h, fun h j => by rw [h]⟩
theorem extraB_iff {x E : List Int} (hl : x.length = E.length) : extraB E x = true ↔ ExtraM E x := by
  have h := sameM_iff hl
  unfold sameM at h
  unfold extraB ExtraM
  cases hc : coversL x E
  · simp
  · rw [hc] at h
    cases hd : coversL E x
    · rw [hd] at h; simp at h ⊢; exact h
    · rw [hd] at h; simp at h ⊢; exact h

theorem results_verd1 {fn : Func} {p : Tmp} {tmps : Array Value} {w : World} {b : Nat} {x y z : Value} (h : fn.results = #[.cell p 37]) (hp : tmps.getD p undef = .pointer (some ⟨b, 0, none⟩)) (h1 : w.cell? ⟨b, 0, none⟩ = some x) (h2 : w.cell? ⟨b, 1, none⟩ = some y) (h3 : w.cell? ⟨b, 2, none⟩ = some z) :
    (results fn tmps).run Try.prog w = .ok (.agg #[x, y, z]) w := by
  have e : (results fn tmps).run Try.prog w = ((asAddr (tmps.getD p undef)).run Try.prog w).andThen fun a w₁ => (loadVar 37 a).run Try.prog w₁ := by
    simp only [results, h]
    simp [Sem.run_bind, Result.andThen]
  rw [e, hp]
  simp [asAddr, go_sem, h1, h2, h3]

theorem says_at {n : NetL} {E : List Int} {s : SpaceL} {x : VerdL} (h : SaysV n E s x) (h2 : ∀ j, j < s.marks.length → 2 ≤ (markAt s.marks j).length) : 2 ≤ x.at_.length ∨ x.at_ = [] := by
  rcases h.cases with ⟨j, a1, _, _, e⟩ | ⟨_, j, a1, _, _, e⟩ | ⟨_, _, t, ts, _, e⟩ | ⟨_, _, _, e⟩
  · rw [e]; exact .inl (h2 j a1)
  · rw [e]; exact .inl (h2 j a1)
  · rw [e]; exact .inr rfl
  · rw [e]; exact .inr rfl

set_option maxHeartbeats 4000000 in
theorem judged_any (v u : Value) (n : NetL) (m E : List Int) (s : SpaceL) (w : World) (hv : Space w v s) (hu : Ints w u E) (hW : Whole n m s) (hE : (E.length : Int) = n.places) (hsm : s.marks.length ≤ 300) :
    Calls Try.prog 31 #[v, u, .int .i64 (n.trans.length : Int)] w fun e w' => ∃ r x, e = .returned r ∧ VerdV w' r x ∧ SaysV n E s x ∧ Below w.heap.size w w' := by
  have hsv : SpaceV w v (toZ s) := hv.toV hsm
  have HW : Hid (Whole n m s) := hW
  have Hlen : Hid (∀ j, j < s.marks.length → (markAt s.marks j).length = E.length) := fun j hj => by have := (fits_net (hW.fits hj)).2.1; omega
  obtain ⟨mv, av, rfl, hM, hA⟩ := id hv
  obtain ⟨am, cm, rfl, _, _⟩ := hM.slice
  obtain ⟨aa, ca, rfl, _⟩ := hA.slice
  obtain ⟨ae, le, ce, rfl, _⟩ := id hu
  obtain ⟨lm, Hlm⟩ : ∃ lm, Hid (s.marks.length = lm) := ⟨_, rfl⟩
  obtain ⟨la, Hla⟩ : ∃ la, Hid ((s.arcs.map arcZ).length = la) := ⟨_, rfl⟩
  have Hsm : Hid _ := hsm
  rw [Hlm.out, Hla.out] at hsv ⊢
  rw [Hlm.out] at hM hsm
  clear hv hA hW
  have b1 := below_new w (.cells #[.slice am lm cm, .slice aa la ca] 71)
  have x1 := box2_new w (.slice am lm cm) (.slice aa la ca) 71
  have b2 := below_new (w.alloc (.cells #[.slice am lm cm, .slice aa la ca] 71)) (.cells #[.slice ae le ce] 35)
  have x2 := box1_new (w.alloc (.cells #[.slice am lm cm, .slice aa la ca] 71)) (.slice ae le ce) 35
  have e1 : (w.alloc (.cells #[.slice am lm cm, .slice aa la ca] 71)).heap.size = w.heap.size + 1 := by simp
  replace x1 := x1.below b2
  have c := below_then b1 b2
  obtain ⟨w2, Hw2⟩ : ∃ w2, Hid ((w.alloc (.cells #[.slice am lm cm, .slice aa la ca] 71)).alloc (.cells #[.slice ae le ce] 35) = w2) := ⟨_, rfl⟩
  have e2 : w2.heap.size = w.heap.size + 1 + 1 := by rw [← Hw2.out]; simp
  rw [e1] at x2
  rw [Hw2.out] at x1 x2 c
  have b3 := below_new w2 (.cells #[.int .i64 0, .slice none 0 0, .int .i64 0] 37)
  have hva : VerdAt (w2.alloc (.cells #[.int .i64 0, .slice none 0 0, .int .i64 0] 37)) w2.heap.size (.int .i64 0) (.slice none 0 0) (.int .i64 0) := heap_alloc_at _ _
  replace x1 := x1.below b3
  replace x2 := x2.below b3
  replace c := below_then c b3
  rw [e2] at hva
  obtain ⟨w3, Hw3⟩ : ∃ w3, Hid (w2.alloc (.cells #[.int .i64 0, .slice none 0 0, .int .i64 0] 37) = w3) := ⟨_, rfl⟩
  rw [Hw3.out] at x1 x2 c hva
  have HF : Hid (AsksL w3 47 (.pointer (some ⟨w.heap.size + 1, 0, none⟩)) (extraB E)) := extra_asks w3 _ _ E x2 (hu.below c)
  go_enter Try.func31, Try.ntmps31
  go_upto_region 1 with fail
  rw [Hw2.out, Hw3.out]
  clear Hw2 Hw3 b1 b2 b3 e1 e2
  obtain ⟨y0, y1, y2⟩ := id x1
  obtain ⟨z0, z1⟩ := id x2
  go_wp2_with fail
  refine (indexlists_any w3 47 _ (extraB E) HF.out Try.call47 _ s.marks w3 (Below.refl _ _) (by exact hM.below c)).mono ?_
  rintro e w4 ⟨i, rfl, hF, b4⟩
  replace x1 := x1.below b4
  replace x2 := x2.below b4
  replace hva := hva.below b4
  replace c := below_then c b4
  clear y0 y1 y2 z0 z1 b4 HF
  obtain ⟨y0, y1, y2⟩ := id x1
  rcases hF with ⟨rfl, hF⟩ | ⟨k, rfl, hk, hp, hF⟩
  · have Hnx : Hid (∀ j, j < s.marks.length → ¬ ExtraM E (markAt s.marks j)) := fun j hj q => by have := (extraB_iff (Hlen.out j hj)).2 q; rw [hF j hj] at this; cases this
    clear hF
    obtain ⟨z0, z1⟩ := id x2
    go_wp2_with fail
    refine (comesTo_any _ _ (toZ s) E _ (by exact hsv.below c) HW.out.right (by exact hu.below c)).mono ?_
    rintro e w5 ⟨B, f, rfl, hR, hf, b5⟩
    replace x1 := x1.below b5
    replace x2 := x2.below b5
    replace hva := hva.below b5
    replace c := below_then c b5
    have Hz : Hid ((toZ s).marks.length = lm) := Hlm.out
    rw [Hz.out] at hR hf ⊢
    clear y0 y1 y2 z0 z1 b5
    have Hf : Hid (∀ j, j < s.marks.length → (f j = true ↔ ReachZ n (markAt s.marks j) E)) := fun j hj => by
      rw [hf j (by rw [← Hlm.out]; exact hj)]
      constructor
      · rintro ⟨t, ht, h1, h2⟩
        rw [← Hlm.out] at ht
        obtain ⟨g, e1, e2, e3⟩ := HW.out.comes_reach hj h2
        obtain rfl : t = g := by omega
        rw [show markAt (toZ s).marks t = markAt s.marks t from rfl, sameM_iff (Hlen.out t ht)] at h1
        rw [← h1]; exact e3
      · intro q
        obtain ⟨g, h1, h2, h3⟩ := HW.out.reach_comes hj q
        refine ⟨g, by rw [← Hlm.out]; exact h1, ?_, h3⟩
        rw [show markAt (toZ s).marks g = markAt s.marks g from rfl, sameM_iff (Hlen.out g h1)]
        exact h2
    clear hf
    obtain ⟨y0, y1, y2⟩ := id x1
    go_wp2_with fail
    refine (indexb_first B lm f _ hR (by omega)).mono ?_
    rintro e w6 ⟨i, rfl, rfl, hF⟩
    rcases hF with ⟨rfl, hF⟩ | ⟨k, rfl, hk, hp, hF⟩
    · have Hall : Hid (∀ j, j < s.marks.length → ReachZ n (markAt s.marks j) E) := fun j hj => (Hf.out j hj).1 (hF j (by rw [← Hlm.out]; exact hj))
      clear hF hR
      go_wp2_with fail
      refine (live_dead _ (toZ s) n.trans.length _ (by exact hsv.below c)).mono ?_
      rintro e w7 ⟨dv, rfl, hD, b7⟩
      replace hva := hva.below b7
      replace c := below_then c b7
      clear y0 y1 y2 b7 x1 x2
      obtain ⟨q1, q2, q3, qf⟩ := hva.cells
      have qf0 := qf 0
      have qf1 := qf 1
      have qf2 := qf 2
      cases hdl : deadL (toZ s) n.trans.length with
      | nil =>
        rw [hdl] at hD
        obtain ⟨da, dl, dc, rfl, hdl0, _⟩ := hD
        obtain rfl : dl = 0 := by rw [← hdl0]; rfl
        have R : Hid (SaysV n E s ⟨1, [], 0⟩) := says_sound Hnx.out Hall.out hdl
        obtain ⟨W, HWw, z1, z2, z3, bz⟩ := hva.put (.int .i64 1) (.slice none 0 0) (.int .i64 0)
        have R2 : Below w.heap.size w W := c.trans (bz.mono (by omega))
        clear hva c bz qf hdl hdl0
        go_wp2_with fail
        rw [HWw.out]
        exact bodyPost_ret (v := .agg #[.int .i64 1, .slice none 0 0, .int .i64 0]) (results_verd1 rfl rfl z1 z2 z3) rfl ⟨_, _, rfl, ⟨_, rfl, Ints.nil _⟩, R.out, R2⟩
      | cons t ts =>
        rw [hdl] at hD
        obtain ⟨da, dl, dc, rfl, hdl0, hdm, _, hdr⟩ := hD
        obtain ⟨db, doff, rfl, _, hdc⟩ := hdr 0 (by simp)
        have hdl1 : 0 < dl := by rw [← hdl0]; simp
        have hdc' : w7.cell? ⟨db, doff, none⟩ = some (.int .i64 t) := hdc
        have R : Hid (SaysV n E s ⟨4, [], t⟩) := says_dead Hnx.out Hall.out hdl
        obtain ⟨W, HWw, z1, z2, z3, bz⟩ := hva.put (.int .i64 4) (.slice none 0 0) (.int .i64 t)
        have R2 : Below w.heap.size w W := c.trans (bz.mono (by omega))
        clear hva c bz qf hdl hdl0 hdc hdr
        go_wp2_with fail
        rw [HWw.out]
        exact bodyPost_ret (v := .agg #[.int .i64 4, .slice none 0 0, .int .i64 t]) (results_verd1 rfl rfl z1 z2 z3) rfl ⟨_, _, rfl, ⟨_, rfl, Ints.nil _⟩, R.out, R2⟩
    · have Hks : Hid (k < s.marks.length) := by show k < s.marks.length; rw [Hlm.out]; exact hk
      have R : Hid (SaysV n E s ⟨3, markAt s.marks k, 0⟩) := says_stuck Hnx.out Hks.out (fun q => by have := (Hf.out k Hks.out).2 q; rw [hp] at this; cases this) (fun j hj => (Hf.out j (Nat.lt_trans hj Hks.out)).1 (hF j hj))
      obtain ⟨b1, o1, u1, rfl, _, c1, i1⟩ := (hM.below c).at hk
      obtain ⟨X, HX⟩ : ∃ X, Hid (markAt s.marks k = X) := ⟨_, rfl⟩
      rw [HX.out] at i1 R
      obtain ⟨au, lu, cu, rfl, _⟩ := id i1
      have HI0 : Ints w (.slice au lu cu) X := by
        obtain ⟨b1', o1', u1', e', hlt', c1', i1'⟩ := hM.at hk
        injection e' with e'
        injection e' with e1 e2
        subst e1 e2
        have := (c.cell (p := ⟨b1, o1 + k, none⟩) hlt').trans c1'
        rw [c1] at this
        injection this with this
        rw [this, ← HX.out]; exact i1'
      obtain ⟨q1, q2, q3, qf⟩ := hva.cells
      have qf0 := qf 0
      have qf1 := qf 1
      have qf2 := qf 2
      obtain ⟨W, HWw, z1, z2, z3, bz⟩ := hva.put (.int .i64 3) (.slice au lu cu) (.int .i64 0)
      have R2 : Below w.heap.size w W := c.trans (bz.mono (by omega))
      have HI : Hid (Ints W (.slice au lu cu) X) := HI0.below R2
      clear hva c bz qf hR hF hp hM i1 HI0 x1 x2 hsv hu
      go_wp2_with fail
      rw [HWw.out]
      exact bodyPost_ret (v := .agg #[.int .i64 3, .slice au lu cu, .int .i64 0]) (results_verd1 rfl rfl z1 z2 z3) rfl ⟨_, _, rfl, ⟨_, rfl, HI.out⟩, R.out, R2⟩
  · have R : Hid (SaysV n E s ⟨2, markAt s.marks k, 0⟩) := says_extra hk ((extraB_iff (Hlen.out k hk)).1 hp) (fun j hj q => by have := (extraB_iff (Hlen.out j (Nat.lt_trans hj hk))).2 q; rw [hF j hj] at this; cases this)
    have Hks : Hid (k < s.marks.length) := hk
    rw [Hlm.out] at hk
    obtain ⟨b1, o1, u1, rfl, _, c1, i1⟩ := (hM.below c).at hk
    obtain ⟨X, HX⟩ : ∃ X, Hid (markAt s.marks k = X) := ⟨_, rfl⟩
    rw [HX.out] at i1 R
    obtain ⟨au, lu, cu, rfl, _⟩ := id i1
    have HI0 : Ints w (.slice au lu cu) X := by
      obtain ⟨b1', o1', u1', e', hlt', c1', i1'⟩ := hM.at hk
      injection e' with e'
      injection e' with e1 e2
      subst e1 e2
      have := (c.cell (p := ⟨b1, o1 + k, none⟩) hlt').trans c1'
      rw [c1] at this
      injection this with this
      rw [this, ← HX.out]; exact i1'
    obtain ⟨q1, q2, q3, qf⟩ := hva.cells
    have qf0 := qf 0
    have qf1 := qf 1
    have qf2 := qf 2
    obtain ⟨W, HWw, z1, z2, z3, bz⟩ := hva.put (.int .i64 2) (.slice au lu cu) (.int .i64 0)
    have R2 : Below w.heap.size w W := c.trans (bz.mono (by omega))
    have HI : Hid (Ints W (.slice au lu cu) X) := HI0.below R2
    clear hva c bz qf hF hp hM i1 HI0 x1 x2 hsv hu
    go_wp2_with fail
    rw [HWw.out]
    exact bodyPost_ret (v := .agg #[.int .i64 2, .slice au lu cu, .int .i64 0]) (results_verd1 rfl rfl z1 z2 z3) rfl ⟨_, _, rfl, ⟨_, rfl, HI.out⟩, R.out, R2⟩

end Go.Proofs.Ytfgimobmaahmmaa
