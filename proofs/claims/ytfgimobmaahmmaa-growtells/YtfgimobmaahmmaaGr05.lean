import Derived.Test.YtfgimobmaahmmaaGr04
import Derived.Test.YtfgimobmaahmmaaGr02
import Derived.Test.YtfgimobmaahmmaaGr00
/- Package net, as it landed: what is wrong, and which marks fit. -/
namespace Go.Proofs.Ytfgimobmaahmmaa
open Go.RowKit
set_option linter.unusedVariables false
set_option maxRecDepth 4000

set_option maxHeartbeats 400000 in
theorem upTo_any (x y : Int) (w : World) :
    Calls Try.prog 54 #[.int .i64 x, .int .i64 y] w fun e w' => e = .returned (.bool (decide (0 ≤ x) && decide (x ≤ y))) ∧ w' = w := by
  by_cases h1 : 0 ≤ x <;> by_cases h2 : x ≤ y <;>
  · go_enter Try.func54, Try.ntmps54
    go_wp2
    go_ret
    exact ⟨by simp [h1, h2], rfl⟩

/-- What a transition may take or put. -/
def weighs (n : NetL) (xs : List Int) : Bool := ((xs.length : Int) == n.places) && xs.all weightOk

set_option maxHeartbeats 400000 in
theorem weights_any (v u : Value) (n : NetL) (xs : List Int) (w : World) (hv : Net w v n) (hu : Ints w u xs) :
    Calls Try.prog 55 #[v, u] w fun e w' => e = .returned (.bool (weighs n xs)) ∧ Below w.heap.size w w' := by
  obtain ⟨tv, rfl, hT⟩ := hv
  have b1 := below_new w (.cells #[.int .i64 n.places, tv] 27)
  have hu1 := hu.below b1
  have hbx := box2_new w (.int .i64 n.places) tv 27
  clear hT hu
  obtain ⟨a, len, cap, rfl, hlen, hmx, hsh, hr⟩ := hu1
  obtain ⟨x0, x1, x2⟩ := hbx
  cases hl : ((len : Int) == n.places)
  · have hl' : ((len : Int) != n.places) = true := by simpa using hl
    have F : Hid (weighs n xs = false) := by show _ = _; unfold weighs; rw [hlen, hl]; rfl
    clear hl
    go_enter Try.func55, Try.ntmps55
    go_wp2
    go_ret
    exact ⟨ret_bool F.out.symm, b1⟩
  · have hl' : ((len : Int) != n.places) = false := by simpa using hl
    have F : Hid (weighs n xs = xs.all weightOk) := by show _ = _; unfold weighs; rw [hlen, hl]; rfl
    clear hl
    go_enter Try.func55, Try.ntmps55
    go_wp2_with fail
    clear x0 x1 x2
    go_loop [14] (fun i => ∃ j : Nat, j ≤ len ∧ i = .int .i64 j ∧ Hid (weighTo xs j = true)) (fun i => len - (intOf i).toNat)
    case atStart => exact ⟨0, Nat.zero_le _, rfl, rfl⟩
    case round =>
      obtain ⟨j, hj, rfl, hw⟩ := hrel
      by_cases hjn : j < len
      · obtain ⟨b, off, rfl, hb, hc⟩ := hr j (by omega)
        have Hst : Hid _ := weighTo_succ xs j (by omega)
        have Hno : Hid (weightOk (nth xs j) = false → weighs n xs = false) := by
          intro h
          rw [F.out, List.all_eq_false]
          refine ⟨xs[j]'(by omega), List.getElem_mem _, ?_⟩
          have e : nth xs j = xs[j]'(by omega) := by simp [nth, List.getD, List.getElem?_eq_getElem (show j < xs.length by omega)]
          rw [← e, h]; simp
        clear hr
        go_wp2_with fail
        refine (upTo_any _ _ _).mono ?_
        rintro e w2 ⟨rfl, rfl⟩
        have Hwo : Hid ((decide (0 ≤ nth xs j) && decide (nth xs j ≤ 9)) = weightOk (nth xs j)) := rfl
        rw [Hwo.out]
        cases hk : weightOk (nth xs j)
        · have F2 : Hid _ := Hno.out hk
          clear Hno hk Hst
          go_wp2
          go_ret
          exact ⟨ret_bool F2.out.symm, b1⟩
        · have F2 : Hid (weighTo xs (j + 1) = true) := by show _ = _; rw [Hst.out, hw.out, hk]; rfl
          clear Hno hk Hst
          go_wp2
          go_round
          case rel => exact ⟨j + 1, by omega, by go_num, F2⟩
          case measure => simp [intOf]; omega
      · have F2 : Hid (weighs n xs = true) := by show _ = _; rw [F.out, ← weighTo_all xs j (by omega)]; exact hw.out
        go_wp2
        go_ret
        exact ⟨ret_bool F2.out.symm, b1⟩

theorem tranOk_weighs (n : NetL) (t : TranL) : tranOk n.places t = ((decide (0 ≤ t.label) && decide (t.label ≤ 26)) && weighs n t.pre && weighs n t.post) := by
  unfold tranOk tranHead weighs
  rw [List.all_append]
  cases decide (0 ≤ t.label) <;> cases decide (t.label ≤ 26) <;> cases ((t.pre.length : Int) == n.places) <;> cases ((t.post.length : Int) == n.places) <;> cases t.pre.all weightOk <;> cases t.post.all weightOk <;> rfl

theorem netOk_false_at {n : NetL} {k : Nat} (hk : k < n.trans.length) (h : tranOk n.places (tranAt n.trans k) = false) : netOk n = false := by
  unfold netOk
  rw [Bool.and_eq_false_iff]
  right
  rw [List.all_eq_false]
  refine ⟨n.trans[k], List.getElem_mem _, ?_⟩
  have e : tranAt n.trans k = n.trans[k] := by simp [tranAt, List.getD, List.getElem?_eq_getElem hk]
  rw [← e, h]; simp

set_option maxHeartbeats 1000000 in
theorem wrong_any (v : Value) (n : NetL) (w : World) (hv : Net w v n) :
    Calls Try.prog 32 #[v] w fun e w' => e = .returned (.int .i64 (wrongL n)) ∧ Below w.heap.size w w' := by
  obtain ⟨tv, rfl, hT⟩ := hv
  have b1 := below_new w (.cells #[.int .i64 n.places, tv] 27)
  have hbx := box2_new w (.int .i64 n.places) tv 27
  replace hT := hT.below b1
  obtain ⟨w0, Hw0⟩ : ∃ w0, Hid (w.alloc (.cells #[.int .i64 n.places, tv] 27) = w0) := ⟨_, rfl⟩
  rw [Hw0.out] at b1 hbx hT
  obtain ⟨a, len, cap, rfl, hlen, hmx, hsh, hr⟩ := id hT
  clear hr
  obtain ⟨x0, x1, x2⟩ := id hbx
  go_enter Try.func32, Try.ntmps32
  go_upto_region 1 with fail
  rw [Hw0.out]
  clear Hw0
  go_wp2_with fail
  refine (upTo_any _ _ _).mono ?_
  rintro e w2 ⟨rfl, rfl⟩
  cases hA : (decide (0 ≤ n.places) && decide (n.places ≤ 16))
  · have F : Hid (wrongL n = 2) := by show _ = _; simp only [wrongL, netOk, headOk, hA]; rfl
    clear hA
    go_wp2
    go_ret
    exact ⟨ret_int F.out.symm, b1⟩
  by_cases hB : len ≤ 24
  case neg =>
    have F : Hid (wrongL n = 2) := by show _ = _; simp only [wrongL, netOk, headOk, hA, hlen, decide_eq_false hB]; rfl
    clear hA
    go_wp2
    go_ret
    exact ⟨ret_int F.out.symm, b1⟩
  have F0 : Hid (okTo n 0 = true) := by show _ = _; simp only [okTo, headOk, hA, hlen, decide_eq_true hB]; rfl
  clear hA
  go_wp2_with fail
  go_loopg [18] len (fun g i wr => ∃ k : Nat, k + g = len ∧ i = .int .i64 k ∧ Hid (okTo n k = true) ∧ Below w2.heap.size w2 wr)
  case atStart => exact ⟨0, by omega, rfl, F0, Below.refl _ _⟩
  case round =>
    clear x0 x1 x2 F0
    obtain ⟨k, hkg, rfl, hok, hb⟩ := hrel
    have c := below_then b1 hb
    by_cases hkn : k < len
    · obtain ⟨b, off, c1, c2, rfl, hblt, h0, h1, h2, i1, i2⟩ := (hT.below hb).at hkn
      obtain ⟨x0, x1, x2⟩ := hbx.below hb
      have hv2 : Net wr (.agg #[.int .i64 n.places, .slice (some ⟨b, off, none⟩) len cap]) n := ⟨_, rfl, hT.below hb⟩
      obtain ⟨a1, l1, p1, rfl, _, _, _, _⟩ := id i1
      obtain ⟨a2, l2, p2, rfl, _, _, _, _⟩ := id i2
      have Hok : Hid _ := okTo_succ n k (by omega)
      have Hno : Hid (tranOk n.places (tranAt n.trans k) = false → wrongL n = 2) := fun h => wrongL_not (netOk_false_at (by omega) h)
      have Hto : Hid _ := tranOk_weighs n (tranAt n.trans k)
      have b2 := below_new wr (.cells #[.int .i64 (tranAt n.trans k).label, .slice a1 l1 p1, .slice a2 l2 p2] 48)
      generalize tranAt n.trans k = t at *
      replace hv2 := hv2.below b2
      replace i1 := i1.below b2
      replace i2 := i2.below b2
      go_wp2_with fail
      refine (upTo_any _ _ _).mono ?_
      rintro e w3 ⟨rfl, rfl⟩
      cases hA : (decide (0 ≤ t.label) && decide (t.label ≤ 26))
      · have F : Hid (wrongL n = 2) := Hno.out (by rw [Hto.out, hA]; rfl)
        clear Hno Hto Hok hA
        go_wp2
        go_ret
        exact ⟨ret_int F.out.symm, below_then c b2⟩
      go_wp2_with fail
      refine (weights_any _ _ n t.pre _ (by exact hv2) (by exact i1)).mono ?_
      rintro e w3 ⟨rfl, b3⟩
      cases hB : weighs n t.pre
      · have F : Hid (wrongL n = 2) := Hno.out (by rw [Hto.out, hA, hB]; rfl)
        clear Hno Hto Hok hA
        go_wp2
        go_ret
        exact ⟨ret_int F.out.symm, below_then c (below_then b2 b3)⟩
      have y0 : wr.heap.size < (wr.alloc (.cells #[.int .i64 t.label, .slice a1 l1 p1, .slice a2 l2 p2] 48)).heap.size := by simp
      have y2 : w3.cell? ⟨wr.heap.size, 2, none⟩ = some (.slice a2 l2 p2) := by rw [b3.cell (p := ⟨wr.heap.size, 2, none⟩) y0, World.cell?_alloc_at _ _ _ _ rfl]; rfl
      obtain ⟨z0, z1, z2⟩ := (hbx.below hb).below (below_then b2 b3)
      replace hv2 := hv2.below b3
      replace i2 := i2.below b3
      have b4 := below_then b2 b3
      clear b2 b3 x0 x1 x2 h0 h1 h2 i1 y0
      go_wp2_with fail
      refine (weights_any _ _ n t.post _ (by exact hv2) (by exact i2)).mono ?_
      rintro e w4 ⟨rfl, b3⟩
      replace b4 := below_then b4 b3
      clear y2 z0 z1 z2 hv2 i2 b3
      cases hC : weighs n t.post
      · have F : Hid (wrongL n = 2) := Hno.out (by rw [Hto.out, hA, hB, hC]; rfl)
        clear Hno Hto Hok hA
        go_wp2
        go_ret
        exact ⟨ret_int F.out.symm, below_then c b4⟩
      · have F : Hid (okTo n (k + 1) = true) := by show _ = _; rw [Hok.out, Hto.out, hok.out, hA, hB, hC]; rfl
        have R := below_then hb b4
        clear Hno Hto Hok hA b4
        go_wp2
        go_roundg (gk - 1)
        case measure => omega
        case rel => exact ⟨k + 1, by omega, by go_num, F, R⟩
    · have F : Hid (wrongL n = 0) := by show _ = _; rw [okTo_all n k (by omega)] at hok; exact wrongL_ok hok.out
      go_wp2
      go_ret
      exact ⟨ret_int F.out.symm, c⟩

set_option maxHeartbeats 400000 in
theorem marks_any (v u : Value) (n : NetL) (m : List Int) (w : World) (hv : Net w v n) (hu : Ints w u m) :
    Calls Try.prog 35 #[v, u] w fun e w' => e = .returned (.bool (fitsL n m)) ∧ Below w.heap.size w w' := by
  obtain ⟨tv, rfl, hT⟩ := hv
  have b1 := below_new w (.cells #[.int .i64 n.places, tv] 27)
  have hbx := box2_new w (.int .i64 n.places) tv 27
  have hu1 := hu.below b1
  have hv1 : Net _ _ n := ⟨tv, rfl, hT.below b1⟩
  go_enter Try.func35, Try.ntmps35
  go_wp2_with fail
  refine (wrong_any _ n _ (by exact hv1)).mono ?_
  rintro e w1 ⟨rfl, b2⟩
  have b3 := below_then b1 b2
  have hu2 := hu1.below b2
  obtain ⟨hx0, hx1, hx2⟩ := hbx.below b2
  clear b1 b2 hbx hu1 hv1
  have hu3 := hu2
  obtain ⟨a, len, cap, rfl, hlen, hmx, hsh, hr⟩ := hu2
  clear hr
  cases h1 : netOk n
  · rw [wrongL_not h1]
    have F : Hid (fitsL n m = false) := by show _ = _; simp [fitsL, h1]
    clear h1
    go_wp2
    go_ret
    exact ⟨ret_bool F.out.symm, b3⟩
  · rw [wrongL_ok h1]
    cases h2 : ((len : Int) == n.places)
    · have F : Hid (fitsL n m = false) := by show _ = _; unfold fitsL; rw [hlen, h2]; simp
      clear h1
      go_wp2
      go_ret
      exact ⟨ret_bool F.out.symm, b3⟩
    · have F : Hid (fitsL n m = rightL m) := by show _ = _; unfold fitsL; rw [h1, hlen, h2]; simp
      clear h1
      go_wp2_with fail
      refine (right_any _ m _ hu3).mono ?_
      rintro e w' ⟨rfl, rfl⟩
      go_wp2
      go_ret
      exact ⟨ret_bool F.out.symm, b3⟩

end Go.Proofs.Ytfgimobmaahmmaa

/- Plain words for nets with a beginning and an end. -/
namespace Go.Proofs.Ytfgimobmaahmmaa
set_option linter.unusedVariables false
set_option maxRecDepth 4000

/-- One token, at one place. -/
def startL (P i : Int) : List Int := mapTo (min P 16).toNat fun p => if (p : Int) = i then 1 else 0

theorem start_length (P i : Int) : (startL P i).length = (min P 16).toNat := mapTo_length _ _

theorem start_at (P i : Int) (p : Nat) (hp : p < (min P 16).toNat) : nth (startL P i) p = if (p : Int) = i then 1 else 0 := mapTo_nth _ _ _ hp

theorem start_bounds (P i : Int) (p : Nat) : 0 ≤ nth (startL P i) p ∧ nth (startL P i) p ≤ 1 := by
  by_cases hp : p < (min P 16).toNat
  · rw [start_at P i p hp]
    split <;> omega
  · rw [nth_past _ _ (by rw [start_length]; omega)]; omega

theorem start_right (P i : Int) : rightL (startL P i) = true := (rightL_iff _).2 fun j => by have := start_bounds P i j; omega

/-- Which places are behind a place. -/
def WayP (n : NetL) (f p : Nat) : Prop := ∀ Q : Nat → Prop, Q f → (∀ k a b, k < n.trans.length → Q a → nth (tranAt n.trans k).pre a ≠ 0 → nth (tranAt n.trans k).post b ≠ 0 → Q b) → Q p
/-- Which transitions are. -/
def WayT (n : NetL) (f k : Nat) : Prop := ∃ p, WayP n f p ∧ nth (tranAt n.trans k).pre p ≠ 0

theorem WayP.here (n : NetL) (f : Nat) : WayP n f f := fun Q h _ => h
theorem WayP.step {n : NetL} {f k a b : Nat} (h : WayP n f a) (hk : k < n.trans.length) (h1 : nth (tranAt n.trans k).pre a ≠ 0) (h2 : nth (tranAt n.trans k).post b ≠ 0) : WayP n f b :=
  fun Q q1 q2 => q2 k a b hk (h Q q1 q2) h1 h2

structure ShapeOk (n : NetL) (i o : Int) : Prop where
  ok : netOk n = true
  ne : i ≠ o
  i0 : 0 ≤ i
  i1 : i < n.places
  o0 : 0 ≤ o
  o1 : o < n.places
  p1 : ∀ p : Nat, (p : Int) < n.places → WayP n i.toNat p
  p2 : ∀ p : Nat, (p : Int) < n.places → WayP (turnL n) o.toNat p
  t1 : ∀ k, k < n.trans.length → WayT n i.toNat k
  t2 : ∀ k, k < n.trans.length → WayT (turnL n) o.toNat k
  put : ∀ k, k < n.trans.length → nth (tranAt n.trans k).post i.toNat = 0
  take : ∀ k, k < n.trans.length → nth (tranAt n.trans k).pre o.toNat = 0

/-- What is wrong. -/
structure Judged (n : NetL) (i o e : Int) : Prop where
  bad : netOk n = false → e = 2
  form : netOk n = true → ¬ ShapeOk n i o → e = 1
  right : ShapeOk n i o → e = 0

theorem Judged.unique {n : NetL} {i o e f : Int} (h : Judged n i o e) (k : Judged n i o f) : e = f := by
  cases hn : netOk n with
  | false => rw [h.bad hn, k.bad hn]
  | true =>
    by_cases hs : ShapeOk n i o
    · rw [h.right hs, k.right hs]
    · rw [h.form hn hs, k.form hn hs]

theorem Judged.of_bad {n : NetL} {i o : Int} (h : netOk n = false) : Judged n i o 2 := ⟨fun _ => rfl, fun q => (by rw [h] at q; cases q), fun q => (by have := q.ok; rw [h] at this; cases this)⟩
theorem Judged.of_form {n : NetL} {i o : Int} (h : netOk n = true) (hs : ¬ ShapeOk n i o) : Judged n i o 1 := ⟨fun q => (by rw [h] at q; cases q), fun _ _ => rfl, fun q => absurd q hs⟩
theorem Judged.of_right {n : NetL} {i o : Int} (hs : ShapeOk n i o) : Judged n i o 0 := ⟨fun q => (by have := hs.ok; rw [q] at this; cases this), fun _ q => absurd hs q, fun _ => rfl⟩
theorem Judged.zero {n : NetL} {i o : Int} (h : Judged n i o 0) : ShapeOk n i o := by
  cases hn : netOk n with
  | false => have := h.bad hn; omega
  | true =>
    by_cases hs : ShapeOk n i o
    · exact hs
    · have := h.form hn hs; omega
theorem Judged.not_zero {n : NetL} {i o e : Int} (h : Judged n i o e) (he : e ≠ 0) : ¬ ShapeOk n i o := fun hs => he (h.right hs)

theorem turn_back (n : NetL) : turnL (turnL n) = n := by
  unfold turnL
  simp only [List.map_map]
  cases n with
  | mk P ts =>
    congr 1
    have : (turnT ∘ turnT) = id := by funext t; exact turn_turn t
    rw [this, List.map_id]

theorem turn_ok_iff (n : NetL) : netOk (turnL n) = netOk n := by
  cases h : netOk n with
  | true => exact turn_ok n h
  | false =>
    cases h2 : netOk (turnL n) with
    | false => rfl
    | true =>
      have h3 := turn_ok _ h2
      rw [turn_back, h] at h3
      cases h3

theorem turn_count (n : NetL) : (turnL n).trans.length = n.trans.length := by simp [turnL]

theorem turn_tran (n : NetL) {k : Nat} (hk : k < n.trans.length) : tranAt (turnL n).trans k = turnT (tranAt n.trans k) := turn_at _ _ hk

/-- The other way round it has one, too. -/
theorem ShapeOk.turned {n : NetL} {i o : Int} (h : ShapeOk n i o) : ShapeOk (turnL n) o i where
  ok := by rw [turn_ok_iff]; exact h.ok
  ne := fun e => h.ne e.symm
  i0 := h.o0
  i1 := h.o1
  o0 := h.i0
  o1 := h.i1
  p1 := h.p2
  p2 := by rw [turn_back]; exact h.p1
  t1 := by rw [turn_count]; exact h.t2
  t2 := by rw [turn_back, turn_count]; exact h.t1
  put := by
    rw [turn_count]
    intro k hk
    rw [turn_tran n hk]
    exact h.take k hk
  take := by
    rw [turn_count]
    intro k hk
    rw [turn_tran n hk]
    exact h.put k hk

theorem Judged.turned {n : NetL} {i o e : Int} (h : Judged n i o e) : Judged (turnL n) o i e where
  bad := by rw [turn_ok_iff]; exact h.bad
  form := by
    rw [turn_ok_iff]
    exact fun q hs => h.form q fun k => hs k.turned
  right := fun hs => h.right (by have := hs.turned; rwa [turn_back] at this)

/-- With one more transition, from the end to the beginning. -/
def closeL (n : NetL) (i o : Int) : NetL := ⟨n.places, n.trans ++ [⟨0, startL n.places o, startL n.places i⟩]⟩

/-- What Close answers. -/
structure Closed (n : NetL) (i o : Int) (c : NetL) (e : Int) : Prop where
  right : ShapeOk n i o → n.trans.length < 24 → e = 0 ∧ c = closeL n i o
  full : ShapeOk n i o → ¬ n.trans.length < 24 → e = 4 ∧ c = ⟨0, []⟩
  bad : ¬ ShapeOk n i o → Judged n i o e ∧ c = ⟨0, []⟩

theorem Closed.unique {n c d : NetL} {i o e f : Int} (h : Closed n i o c e) (k : Closed n i o d f) : c = d ∧ e = f := by
  by_cases hs : ShapeOk n i o
  · by_cases hl : n.trans.length < 24
    · obtain ⟨h1, h2⟩ := h.right hs hl
      obtain ⟨k1, k2⟩ := k.right hs hl
      exact ⟨by rw [h2, k2], by rw [h1, k1]⟩
    · obtain ⟨h1, h2⟩ := h.full hs hl
      obtain ⟨k1, k2⟩ := k.full hs hl
      exact ⟨by rw [h2, k2], by rw [h1, k1]⟩
  · obtain ⟨h1, h2⟩ := h.bad hs
    obtain ⟨k1, k2⟩ := k.bad hs
    exact ⟨by rw [h2, k2], h1.unique k1⟩

theorem Closed.zero {n c : NetL} {i o : Int} (h : Closed n i o c 0) : ShapeOk n i o ∧ n.trans.length < 24 ∧ c = closeL n i o := by
  by_cases hs : ShapeOk n i o
  · by_cases hl : n.trans.length < 24
    · exact ⟨hs, hl, (h.right hs hl).2⟩
    · have := (h.full hs hl).1; omega
  · obtain ⟨h1, h2⟩ := h.bad hs
    exact absurd h1.zero hs

theorem Closed.none {n c : NetL} {i o e : Int} (h : Closed n i o c e) (he : e ≠ 0) : c = ⟨0, []⟩ := by
  by_cases hs : ShapeOk n i o
  · by_cases hl : n.trans.length < 24
    · exact absurd (h.right hs hl).1 he
    · exact (h.full hs hl).2
  · exact (h.bad hs).2

theorem head_of {n : NetL} (h : netOk n = true) : 0 ≤ n.places ∧ n.places ≤ 16 ∧ n.trans.length ≤ 24 := by
  simp only [netOk, headOk, Bool.and_eq_true, decide_eq_true_eq] at h
  exact ⟨h.1.1.1, h.1.1.2, h.1.2⟩

theorem start_len {n : NetL} (h : netOk n = true) (i : Int) : ((startL n.places i).length : Int) = n.places := by
  obtain ⟨h0, h1, _⟩ := head_of h
  rw [start_length]; omega

theorem start_fits {n : NetL} (h : netOk n = true) (i : Int) : fitsL n (startL n.places i) = true := fits_mk h (start_len h i) (start_right _ _)

theorem mem_nth {xs : List Int} {x : Int} (h : x ∈ xs) : ∃ j, j < xs.length ∧ nth xs j = x := by
  obtain ⟨j, hj, e⟩ := List.getElem_of_mem h
  exact ⟨j, hj, by simp [nth, List.getD, List.getElem?_eq_getElem hj, e]⟩

theorem start_tran {n : NetL} (h : netOk n = true) (i o : Int) : tranOk n.places ⟨0, startL n.places o, startL n.places i⟩ = true := by
  have l1 := start_len h o
  have l2 := start_len h i
  simp only [tranOk, tranHead, Bool.and_eq_true, beq_iff_eq, decide_eq_true_eq, List.all_eq_true, List.mem_append]
  refine ⟨⟨⟨⟨by omega, by omega⟩, l1⟩, l2⟩, ?_⟩
  rintro x (hx | hx)
  all_goals
    obtain ⟨j, _, rfl⟩ := mem_nth hx
    simp only [weightOk, Bool.and_eq_true, decide_eq_true_eq]
  · have := start_bounds n.places o j; omega
  · have := start_bounds n.places i j; omega

theorem close_ok {n : NetL} (h : netOk n = true) (hl : n.trans.length < 24) (i o : Int) : netOk (closeL n i o) = true := by
  obtain ⟨h0, h1, _⟩ := head_of h
  have hs := start_tran h i o
  simp only [netOk, Bool.and_eq_true] at h
  simp only [netOk, headOk, closeL, Bool.and_eq_true, List.length_append, List.length_cons, List.length_nil, List.all_append, List.all_cons, List.all_nil]
  exact ⟨⟨⟨decide_eq_true h0, decide_eq_true h1⟩, decide_eq_true (by omega)⟩, h.2, hs, trivial⟩

theorem close_count (n : NetL) (i o : Int) : (closeL n i o).trans.length = n.trans.length + 1 := by simp [closeL]

theorem close_at (n : NetL) (i o : Int) {k : Nat} (hk : k < n.trans.length) : tranAt (closeL n i o).trans k = tranAt n.trans k := by
  unfold closeL tranAt List.getD
  simp [List.getElem?_append, hk]

theorem close_last (n : NetL) (i o : Int) : tranAt (closeL n i o).trans n.trans.length = ⟨0, startL n.places o, startL n.places i⟩ := by
  unfold closeL tranAt List.getD
  simp

theorem close_fits {n : NetL} (h : netOk n = true) (hl : n.trans.length < 24) (i o : Int) (m : List Int) : fitsL (closeL n i o) m = fitsL n m := by
  unfold fitsL
  rw [close_ok h hl, h]
  rfl

theorem close_fire {n : NetL} (h : netOk n = true) (hl : n.trans.length < 24) (i o : Int) (m : List Int) {t : Int} (ht : t ≠ n.trans.length) : fireL (closeL n i o) m t = fireL n m t := by
  unfold fireL
  rw [close_fits h hl, close_count]
  have e : decide (t < ((n.trans.length + 1 : Nat) : Int)) = decide (t < (n.trans.length : Int)) := by rw [decide_eq_decide]; omega
  rw [e]
  by_cases q : 0 ≤ t ∧ t < n.trans.length
  · rw [close_at n i o (show t.toNat < n.trans.length by omega)]
  · have f : (decide (0 ≤ t) && decide (t < (n.trans.length : Int))) = false := by
      rw [Bool.and_eq_false_iff, decide_eq_false_iff_not, decide_eq_false_iff_not]
      omega
    rw [f]
    simp

theorem close_run {n : NetL} (h : netOk n = true) (hl : n.trans.length < 24) (i o : Int) (seq : List Int) : ∀ (m : List Int), (n.trans.length : Int) ∉ seq → runL (closeL n i o) m seq = runL n m seq := by
  induction seq with
  | nil => intro m _; unfold runL; rw [close_fits h hl]
  | cons t ts ih =>
    intro m hm
    simp only [List.mem_cons, not_or] at hm
    rw [runL_cons, runL_cons, close_fits h hl, close_fire h hl i o m (fun e => hm.1 e.symm), ih _ hm.2]

/-- From the end the beginning is come to by one firing. -/
theorem close_round {n : NetL} (h : netOk n = true) (hl : n.trans.length < 24) (i o : Int) : fireL (closeL n i o) (startL n.places o) (n.trans.length : Nat) = (startL n.places i, 0) := by
  have hk : n.trans.length < (closeL n i o).trans.length := by rw [close_count]; omega
  have e : addL (subL (startL n.places o) (startL n.places o)) (startL n.places i) = startL n.places i := by
    refine eq_of_at ?_ fun j => ?_
    · rw [add_length, sub_length]
      simp only [start_length]
      omega
    · rw [add_at, sub_at]; omega
  have hf : fitsL (closeL n i o) (startL n.places o) = true := by rw [close_fits h hl]; exact start_fits h o
  have := fire_mk hk hf (by rw [close_last]; exact covers_self _) (by rw [close_last]; simp only; rw [e]; exact start_right _ _)
  rw [this, close_last]
  simp only
  rw [e]

/-- What was closed has no beginning. -/
theorem close_form {n : NetL} {i o : Int} (hs : ShapeOk n i o) (hl : n.trans.length < 24) : ¬ ShapeOk (closeL n i o) i o := by
  intro q
  have h1 := q.put n.trans.length (by rw [close_count]; omega)
  rw [close_last] at h1
  simp only at h1
  obtain ⟨h0, h16, _⟩ := head_of hs.ok
  have := hs.i0
  have := hs.i1
  rw [start_at n.places i i.toNat (by omega), if_pos (by omega)] at h1
  omega

theorem close_same (n : NetL) (i o : Int) : (closeL n i o).trans.take n.trans.length = n.trans := by simp [closeL]

/-! ### at the end nothing goes on -/
theorem end_none {n : NetL} {i o : Int} (hs : ShapeOk n i o) : canTo n (startL n.places o) n.trans.length = [] := by
  rw [List.eq_nil_iff_forall_not_mem]
  intro t ht
  obtain ⟨k, rfl, hk, hc⟩ := (can_mem n _ _ _).1 ht
  obtain ⟨p, _, hp⟩ := hs.t1 k hk
  have hcp := (coversL_iff _ _).1 hc p
  have hpo : (p : Int) ≠ o := fun e => hp (by have := hs.take k hk; rw [← e, Int.toNat_natCast] at this; exact this)
  have hb := (okTok_nth (tran_right (net_tran hs.ok hk)).1 p).1
  have : nth (startL n.places o) p = 0 := by
    by_cases q : p < (min n.places 16).toNat
    · rw [start_at _ _ _ q, if_neg hpo]
    · exact nth_past _ _ (by rw [start_length]; omega)
  omega

/-- Nothing comes to the beginning again. -/
theorem run_low {n : NetL} {i o : Int} (hs : ShapeOk n i o) (seq : List Int) : ∀ {m x : List Int}, runL n m seq = (x, 0) → nth m i.toNat = 0 → nth x i.toNat = 0 := by
  induction seq with
  | nil => intro m x h h0; obtain ⟨_, rfl⟩ := run_nil.1 h; exact h0
  | cons t ts ih =>
    intro m x h h0
    obtain ⟨y, h1, h2⟩ := run_cons.1 h
    refine ih h2 ?_
    obtain ⟨k, rfl, hk, hf, hc, hr, rfl⟩ := fire_ok h1
    have h3 := (coversL_iff _ _).1 hc i.toNat
    have h4 := (okTok_nth (tran_right (net_tran hs.ok hk)).1 i.toNat).1
    rw [add_at, sub_at, hs.put k hk]
    omega

theorem run_gone {n : NetL} {i o : Int} (hs : ShapeOk n i o) {seq x : List Int} (h : runL n (startL n.places i) seq = (x, 0)) (h0 : seq ≠ []) : nth x i.toNat = 0 := by
  cases seq with
  | nil => exact absurd rfl h0
  | cons t ts =>
    obtain ⟨y, h1, h2⟩ := run_cons.1 h
    refine run_low hs ts h2 ?_
    obtain ⟨k, rfl, hk, hf, hc, hr, rfl⟩ := fire_ok h1
    obtain ⟨p, _, hp⟩ := hs.t1 k hk
    have hcp := (coversL_iff _ _).1 hc p
    have hb := (okTok_nth (tran_right (net_tran hs.ok hk)).1 p).1
    have hsb := start_bounds n.places i p
    have hpi : (p : Int) = i := by
      by_cases q : p < (min n.places 16).toNat
      · rw [start_at _ _ _ q] at hcp
        by_cases e : (p : Int) = i
        · exact e
        · rw [if_neg e] at hcp; omega
      · rw [nth_past (startL n.places i) p (by rw [start_length]; omega)] at hcp; omega
    have : i.toNat = p := by omega
    rw [add_at, sub_at, hs.put k hk, this]
    omega

end Go.Proofs.Ytfgimobmaahmmaa

/- Plain words for what can always be done again. -/
namespace Go.Proofs.Ytfgimobmaahmmaa
set_option linter.unusedVariables false
set_option maxRecDepth 4000

/-- Marks, and arcs between whatever numbers. -/
structure SpaceZ where
  marks : List (List Int)
  arcs : List (Int × Int × Int)

def rightS (s : SpaceZ) : Bool := s.arcs.all fun a => decide (0 ≤ a.1) && decide (a.1 < s.marks.length) && decide (0 ≤ a.2.2) && decide (a.2.2 < s.marks.length)
def Comes (s : SpaceZ) (k j : Int) : Prop := ∀ P : Int → Prop, P k → (∀ a : Int × Int × Int, P a.1 → a ∈ s.arcs → P a.2.2) → P j
theorem Comes.here {s : SpaceZ} (k : Int) : Comes s k k := fun _ h _ => h
theorem Comes.go {s : SpaceZ} {k : Int} {a : Int × Int × Int} (h : Comes s k a.1) (ha : a ∈ s.arcs) : Comes s k a.2.2 := fun P h0 h1 => h1 a (h P h0 h1) ha
theorem Comes.ind {s : SpaceZ} {k : Int} {motive : (j : Int) → Comes s k j → Prop} (here : motive k (Comes.here k)) (go : ∀ {a : Int × Int × Int} (h : Comes s k a.1) (ha : a ∈ s.arcs), motive a.1 h → motive a.2.2 (Comes.go h ha)) {j : Int} (h : Comes s k j) : motive j h := by
  obtain ⟨h', q⟩ := h (fun j => ∃ h : Comes s k j, motive j h) ⟨Comes.here k, here⟩ (fun a ⟨hx, qx⟩ ha => ⟨Comes.go hx ha, go hx ha qx⟩)
  exact q
def deadL (s : SpaceZ) (T : Int) : List Int := (rangeL (min T 24).toNat).filter fun t => s.arcs.all fun a => a.2.1 != t
def stuckL (s : SpaceZ) : List Int := (rangeL s.marks.length).filter fun k => s.arcs.all fun a => a.1 != k
def boundM (n : Int) (m : List Int) : Int := if rightL m then m.foldl max n else n
def boundL (s : SpaceZ) : Int := s.marks.foldl boundM 0
structure IsLive (s : SpaceZ) (T : Int) (xs : List Int) : Prop where
  up : xs.Pairwise (· < ·)
  mem : ∀ t, t ∈ xs ↔ rightS s = true ∧ 0 ≤ t ∧ t < min T 24 ∧ ∀ k : Int, 0 ≤ k → k < s.marks.length → ∃ a ∈ s.arcs, a.2.1 = t ∧ Comes s k a.1
structure IsHome (s : SpaceZ) (xs : List Int) : Prop where
  up : xs.Pairwise (· < ·)
  mem : ∀ k, k ∈ xs ↔ rightS s = true ∧ 0 ≤ k ∧ k < s.marks.length ∧ ∀ i : Int, 0 ≤ i → i < s.marks.length → Comes s i k

theorem rightS_iff {s : SpaceZ} : rightS s = true ↔ ∀ a ∈ s.arcs, 0 ≤ a.1 ∧ a.1 < s.marks.length ∧ 0 ≤ a.2.2 ∧ a.2.2 < s.marks.length := by
  unfold rightS
  simp only [List.all_eq_true, Bool.and_eq_true, decide_eq_true_eq, and_assoc]
theorem mem_dead {s : SpaceZ} {T t : Int} : t ∈ deadL s T ↔ 0 ≤ t ∧ t < min T 24 ∧ ∀ a ∈ s.arcs, a.2.1 ≠ t := by
  unfold deadL
  rw [List.mem_filter, mem_range]
  simp only [List.all_eq_true, bne_iff_ne]
  constructor
  · rintro ⟨h1, h2⟩; exact ⟨by omega, by omega, h2⟩
  · rintro ⟨h1, h2, h3⟩; exact ⟨by omega, h3⟩
theorem mem_stuck {s : SpaceZ} {k : Int} : k ∈ stuckL s ↔ 0 ≤ k ∧ k < s.marks.length ∧ ∀ a ∈ s.arcs, a.1 ≠ k := by
  unfold stuckL
  rw [List.mem_filter, mem_range]
  simp only [List.all_eq_true, bne_iff_ne, and_assoc]
theorem dead_up (s : SpaceZ) (T : Int) : (deadL s T).Pairwise (· < ·) := (range_sorted _).sublist List.filter_sublist
theorem stuck_up (s : SpaceZ) : (stuckL s).Pairwise (· < ·) := (range_sorted _).sublist List.filter_sublist

/-- Who is stuck goes nowhere. -/
theorem stuck_only {s : SpaceZ} {k j : Int} (h : k ∈ stuckL s) (hc : Comes s k j) : j = k := by
  induction hc using Comes.ind with
  | here => rfl
  | go h1 h2 ih => exact absurd ih ((mem_stuck.1 h).2.2 _ h2)

theorem up_one {xs : List Int} {k : Int} (hx : xs.Pairwise (· < ·)) (h : ∀ t, t ∈ xs ↔ t = k) : xs = [k] :=
  up_unique hx (List.pairwise_singleton _ _) fun t => by rw [h]; simp
theorem up_none {xs : List Int} (h : ∀ t, ¬ t ∈ xs) : xs = [] := List.eq_nil_iff_forall_not_mem.2 h

theorem stuck_live {s : SpaceZ} {T k : Int} {xs : List Int} (hk : k ∈ stuckL s) (h : IsLive s T xs) : xs = [] := by
  refine up_none fun t ht => ?_
  obtain ⟨_, _, _, hall⟩ := (h.mem t).1 ht
  obtain ⟨h1, h2, h3⟩ := mem_stuck.1 hk
  obtain ⟨a, ha, _, hc⟩ := hall k h1 h2
  exact h3 a ha (stuck_only hk hc)
theorem stuck_home {s : SpaceZ} {k : Int} {hs : List Int} (hk : k ∈ stuckL s) (h : IsHome s hs) (hh : k ∈ hs) : hs = [k] ∧ stuckL s = [k] := by
  obtain ⟨_, k1, k2, hall⟩ := (h.mem k).1 hh
  constructor
  · refine up_one h.up fun t => ⟨fun ht => ?_, fun e => by rw [e]; exact hh⟩
    obtain ⟨_, _, _, ht4⟩ := (h.mem t).1 ht
    exact stuck_only hk (ht4 k k1 k2)
  · refine up_one (stuck_up s) fun t => ⟨fun ht => ?_, fun e => by rw [e]; exact hk⟩
    obtain ⟨t1, t2, _⟩ := mem_stuck.1 ht
    exact (stuck_only ht (hall t t1 t2)).symm
theorem wrong_live {s : SpaceZ} {T : Int} {xs : List Int} (hr : rightS s = false) (h : IsLive s T xs) : xs = [] :=
  up_none fun t ht => by have := ((h.mem t).1 ht).1; rw [hr] at this; cases this
theorem wrong_home {s : SpaceZ} {xs : List Int} (hr : rightS s = false) (h : IsHome s xs) : xs = [] :=
  up_none fun t ht => by have := ((h.mem t).1 ht).1; rw [hr] at this; cases this

/-! ### spaces that are found -/
def toZ (s : SpaceL) : SpaceZ := ⟨s.marks, s.arcs.map arcZ⟩

theorem mem_arcZ {s : SpaceL} {a : Int × Int × Int} : a ∈ (toZ s).arcs ↔ ∃ b ∈ s.arcs, a = arcZ b := by
  unfold toZ
  simp only [List.mem_map]
  constructor
  · rintro ⟨b, h1, h2⟩; exact ⟨b, h1, h2.symm⟩
  · rintro ⟨b, h1, h2⟩; exact ⟨b, h1, h2.symm⟩

theorem Whole.sound {n : NetL} {m : List Int} {s : SpaceL} (h : Whole n m s) : ∀ a ∈ s.arcs, a.frm < s.marks.length ∧ a.dst < s.marks.length ∧ a.tran < n.trans.length ∧ fireL n (markAt s.marks a.frm) a.tran = (markAt s.marks a.dst, 0) := by
  obtain ⟨most, k, hF, hk⟩ := h
  intro a ha
  obtain ⟨h1, h2, h3, _, h5⟩ := hF.sound a ha
  exact ⟨h1, h2, h3, h5⟩
theorem Whole.right {n : NetL} {m : List Int} {s : SpaceL} (h : Whole n m s) : rightS (toZ s) = true := by
  refine rightS_iff.2 fun a ha => ?_
  obtain ⟨b, hb, rfl⟩ := mem_arcZ.1 ha
  obtain ⟨h1, h2, _⟩ := h.sound b hb
  simp only [arcZ, toZ]
  omega

/-- One comes by arcs just where a run leads. -/
theorem Whole.comes_run {n : NetL} {m : List Int} {s : SpaceL} (h : Whole n m s) {i : Nat} (hi : i < s.marks.length) {y : Int} (hc : Comes (toZ s) i y) :
    ∃ j : Nat, y = j ∧ j < s.marks.length ∧ ∃ seq, runL n (markAt s.marks i) seq = (markAt s.marks j, 0) := by
  have hfit : ∀ g, g < s.marks.length → fitsL n (markAt s.marks g) = true := by obtain ⟨most, k, hF, hk⟩ := h; exact fun g hg => hF.fits _ (markAt_mem hg)
  have key : ∀ {x y : Int}, Comes (toZ s) x y → x = (i : Int) → ∃ j : Nat, y = j ∧ j < s.marks.length ∧ ∃ seq, runL n (markAt s.marks i) seq = (markAt s.marks j, 0) := by
    intro x y hc
    induction hc using Comes.ind with
    | here => intro e; subst e; exact ⟨i, rfl, hi, [], run_nil.2 ⟨hfit i hi, rfl⟩⟩
    | go h1 h2 ih =>
      intro e
      obtain ⟨j, ej, hj, seq, hs⟩ := ih e
      obtain ⟨b, hb, rfl⟩ := mem_arcZ.1 h2
      obtain ⟨b1, b2, b3, b4⟩ := h.sound b hb
      simp only [arcZ] at ej ⊢
      obtain rfl : b.frm = j := by omega
      refine ⟨b.dst, rfl, b2, seq ++ [(b.tran : Int)], ?_⟩
      rw [run_append, hs]
      simp only [BEq.rfl, if_true]
      exact run_cons.2 ⟨_, b4, run_nil.2 ⟨hfit _ b2, rfl⟩⟩
  exact key hc rfl
theorem Whole.run_comes {n : NetL} {m : List Int} {s : SpaceL} (h : Whole n m s) (seq : List Int) : ∀ {i k : Nat} {z : List Int}, i < s.marks.length → Comes (toZ s) k i → runL n (markAt s.marks i) seq = (z, 0) →
    (∃ j : Nat, j < s.marks.length ∧ z = markAt s.marks j ∧ Comes (toZ s) k j) ∧ ∀ t ∈ seq, ∃ a ∈ s.arcs, (a.tran : Int) = t ∧ Comes (toZ s) k a.frm := by
  induction seq with
  | nil =>
    intro i k z hi hc hr
    obtain ⟨_, rfl⟩ := run_nil.1 hr
    exact ⟨⟨i, hi, rfl, hc⟩, by simp⟩
  | cons t ts ih =>
    intro i k z hi hc hr
    obtain ⟨y, h1, h2⟩ := run_cons.1 hr
    rcases h.fire hi t with h3 | ⟨j, g, rfl, hg, hgl, e⟩
    · rw [h1] at h3; simp at h3
    · rw [e] at h1
      injection h1 with h1 _
      subst h1
      have hc2 : Comes (toZ s) k g := Comes.go (a := arcZ ⟨i, j, g⟩) hc (mem_arcZ.2 ⟨_, hg, rfl⟩)
      obtain ⟨q1, q2⟩ := ih hgl hc2 h2
      refine ⟨q1, fun t' ht' => ?_⟩
      rcases List.mem_cons.1 ht' with q | q
      · exact ⟨_, hg, q.symm, hc⟩
      · exact q2 t' q

/-- From each of the marks all marks are found again, where there is room. -/
theorem Whole.again {n : NetL} {m : List Int} {s : SpaceL} (h : Whole n m s) (hl : s.marks.length < 300) {f : Nat} (hf : f < s.marks.length) : ∃ u, graphL n (markAt s.marks f) 300 = (u, 0) := by
  have hfit : fitsL n (markAt s.marks f) = true := by obtain ⟨most, k, hF, hk⟩ := h; exact hF.fits _ (markAt_mem hf)
  have hok := graphOk_300 hfit
  cases hg : graphTo n (markAt s.marks f) 300 300 with
  | some u => exact ⟨u, by rw [graphL, hok]; simp only [if_true, show (300 : Int).toNat = 300 from rfl]; rw [hg]⟩
  | none =>
    exfalso
    obtain ⟨f', j, s', hj, hF, hf', hn⟩ := graph_broke (by omega) hfit _ hg
    have hin : ∀ g, g < s'.marks.length → ∃ g2, g2 < s.marks.length ∧ markAt s'.marks g = markAt s.marks g2 := by
      intro g
      induction g using Nat.strongRecOn with
      | ind g ih =>
        intro hgl
        by_cases e : g = 0
        · subst e; exact ⟨f, hf, hF.first⟩
        · obtain ⟨a, ha, hlt⟩ := hF.par g (by omega) hgl
          obtain ⟨h1, h2⟩ := firstTo_mem ha
          obtain ⟨q1, q2, q3, q4, q5⟩ := hF.sound a h1
          obtain ⟨g2, hg2, e2⟩ := ih a.frm hlt q1
          rw [e2, h2] at q5
          rcases h.fire hg2 a.tran with r | ⟨_, g3, _, _, hg3, e3⟩
          · rw [q5] at r; simp at r
          · rw [q5] at e3; injection e3 with e3 _; exact ⟨g3, hg3, e3⟩
    have hlen : s'.marks.length ≤ s.marks.length := nodup_sub hF.nodup fun x hx => by
      obtain ⟨g, hgl, rfl⟩ := List.getElem_of_mem hx
      obtain ⟨g2, hg2, e2⟩ := hin g hgl
      have e3 : s'.marks[g] = markAt s'.marks g := by simp [markAt, List.getD_eq_getElem?_getD, List.getElem?_eq_getElem hgl]
      rw [e3, e2]
      exact markAt_mem hg2
    obtain ⟨g2, hg2, e2⟩ := hin f' hf'
    rcases h.fire hg2 j with r | ⟨_, g3, _, _, hg3, e3⟩
    · unfold tryT at hn
      rw [e2, r] at hn
      simp at hn
    · unfold tryT at hn
      rw [e2, e3] at hn
      simp only [show ((0 : Int) == 3) = false from rfl, Bool.false_eq_true, if_false, BEq.rfl, if_true] at hn
      split at hn
      · cases hn
      · rw [if_neg (by omega)] at hn
        cases hn

end Go.Proofs.Ytfgimobmaahmmaa

/- Plain words for nets that always come to their end; van der Aalst. -/
namespace Go.Proofs.Ytfgimobmaahmmaa
set_option linter.unusedVariables false
set_option maxRecDepth 4000

structure VerdL where
  kind : Int
  at_ : List Int
  tran : Int

/-- It has the end, and something beside. -/
def ExtraM (E x : List Int) : Prop := coversL x E = true ∧ x ≠ E

/-- What is told of the marks that are found. -/
structure SaysV (n : NetL) (E : List Int) (s : SpaceL) (v : VerdL) : Prop where
  extra : ∀ k, k < s.marks.length → ExtraM E (markAt s.marks k) → (∀ j, j < k → ¬ ExtraM E (markAt s.marks j)) → v = ⟨2, markAt s.marks k, 0⟩
  stuck : (∀ j, j < s.marks.length → ¬ ExtraM E (markAt s.marks j)) → ∀ k, k < s.marks.length → ¬ ReachZ n (markAt s.marks k) E → (∀ j, j < k → ReachZ n (markAt s.marks j) E) → v = ⟨3, markAt s.marks k, 0⟩
  dead : (∀ j, j < s.marks.length → ¬ ExtraM E (markAt s.marks j)) → (∀ j, j < s.marks.length → ReachZ n (markAt s.marks j) E) → ∀ t ts, deadL (toZ s) n.trans.length = t :: ts → v = ⟨4, [], t⟩
  sound : (∀ j, j < s.marks.length → ¬ ExtraM E (markAt s.marks j)) → (∀ j, j < s.marks.length → ReachZ n (markAt s.marks j) E) → deadL (toZ s) n.trans.length = [] → v = ⟨1, [], 0⟩

structure Verd (n : NetL) (i o most : Int) (v : VerdL) (e : Int) : Prop where
  wrong : ¬ ShapeOk n i o → Judged n i o e ∧ v = ⟨0, [], 0⟩
  full : ShapeOk n i o → (graphL n (startL n.places i) most).2 ≠ 0 → e = (graphL n (startL n.places i) most).2 ∧ v = ⟨0, [], 0⟩
  right : ShapeOk n i o → ∀ s, graphL n (startL n.places i) most = (s, 0) → e = 0 ∧ SaysV n (startL n.places o) s v

theorem least_no {Q : Nat → Prop} {N : Nat} (h : ¬ ∀ j, j < N → Q j) : ∃ j, j < N ∧ ¬ Q j ∧ ∀ i, i < j → Q i := by
  induction N with
  | zero => exact absurd (fun j hj => absurd hj (Nat.not_lt_zero _)) h
  | succ N ih =>
    by_cases q : ∀ j, j < N → Q j
    · refine ⟨N, by omega, fun hN => h fun j hj => ?_, q⟩
      by_cases e : j = N
      · subst e; exact hN
      · exact q j (by omega)
    · obtain ⟨j, h1, h2, h3⟩ := ih q
      exact ⟨j, by omega, h2, h3⟩

/-- One of the four is so. -/
theorem SaysV.cases {n : NetL} {E : List Int} {s : SpaceL} {v : VerdL} (h : SaysV n E s v) :
    (∃ k, k < s.marks.length ∧ ExtraM E (markAt s.marks k) ∧ (∀ j, j < k → ¬ ExtraM E (markAt s.marks j)) ∧ v = ⟨2, markAt s.marks k, 0⟩) ∨
    ((∀ j, j < s.marks.length → ¬ ExtraM E (markAt s.marks j)) ∧ ∃ k, k < s.marks.length ∧ ¬ ReachZ n (markAt s.marks k) E ∧ (∀ j, j < k → ReachZ n (markAt s.marks j) E) ∧ v = ⟨3, markAt s.marks k, 0⟩) ∨
    ((∀ j, j < s.marks.length → ¬ ExtraM E (markAt s.marks j)) ∧ (∀ j, j < s.marks.length → ReachZ n (markAt s.marks j) E) ∧ ∃ t ts, deadL (toZ s) n.trans.length = t :: ts ∧ v = ⟨4, [], t⟩) ∨
    ((∀ j, j < s.marks.length → ¬ ExtraM E (markAt s.marks j)) ∧ (∀ j, j < s.marks.length → ReachZ n (markAt s.marks j) E) ∧ deadL (toZ s) n.trans.length = [] ∧ v = ⟨1, [], 0⟩) := by
  by_cases h1 : ∀ j, j < s.marks.length → ¬ ExtraM E (markAt s.marks j)
  · right
    by_cases h2 : ∀ j, j < s.marks.length → ReachZ n (markAt s.marks j) E
    · right
      cases hd : deadL (toZ s) n.trans.length with
      | nil => exact .inr ⟨h1, h2, rfl, h.sound h1 h2 hd⟩
      | cons t ts => exact .inl ⟨h1, h2, t, ts, rfl, h.dead h1 h2 t ts hd⟩
    · obtain ⟨k, q1, q2, q3⟩ := least_no h2
      exact .inl ⟨h1, k, q1, q2, q3, h.stuck h1 k q1 q2 q3⟩
  · left
    obtain ⟨k, q1, q2, q3⟩ := least_no h1
    have q2 := Classical.not_not.1 q2
    exact ⟨k, q1, q2, q3, h.extra k q1 q2 q3⟩

theorem SaysV.unique {n : NetL} {E : List Int} {s : SpaceL} {v u : VerdL} (h : SaysV n E s v) (k : SaysV n E s u) : v = u := by
  rcases h.cases with ⟨j, a1, a2, a3, e⟩ | ⟨a1, j, a2, a3, a4, e⟩ | ⟨a1, a2, t, ts, a3, e⟩ | ⟨a1, a2, a3, e⟩
  · rw [e, k.extra j a1 a2 a3]
  · rw [e, k.stuck a1 j a2 a3 a4]
  · rw [e, k.dead a1 a2 t ts a3]
  · rw [e, k.sound a1 a2 a3]

theorem Verd.unique {n : NetL} {i o most e f : Int} {v u : VerdL} (h : Verd n i o most v e) (k : Verd n i o most u f) : v = u ∧ e = f := by
  by_cases hs : ShapeOk n i o
  · cases hg : graphL n (startL n.places i) most with
    | mk s d =>
      by_cases hd : d = 0
      · subst hd
        obtain ⟨h1, h2⟩ := h.right hs s hg
        obtain ⟨k1, k2⟩ := k.right hs s hg
        exact ⟨h2.unique k2, by rw [h1, k1]⟩
      · obtain ⟨h1, h2⟩ := h.full hs (by rw [hg]; exact hd)
        obtain ⟨k1, k2⟩ := k.full hs (by rw [hg]; exact hd)
        exact ⟨by rw [h2, k2], by rw [h1, k1]⟩
  · obtain ⟨h1, h2⟩ := h.wrong hs
    obtain ⟨k1, k2⟩ := k.wrong hs
    exact ⟨by rw [h2, k2], h1.unique k1⟩

theorem Verd.zero {n : NetL} {i o most : Int} {v : VerdL} (h : Verd n i o most v 0) : ShapeOk n i o ∧ ∃ s, graphL n (startL n.places i) most = (s, 0) ∧ SaysV n (startL n.places o) s v := by
  by_cases hs : ShapeOk n i o
  · cases hg : graphL n (startL n.places i) most with
    | mk s d =>
      by_cases hd : d = 0
      · subst hd; exact ⟨hs, s, rfl, (h.right hs s hg).2⟩
      · have := (h.full hs (by rw [hg]; exact hd)).1
        rw [hg] at this
        exact absurd this.symm hd
  · exact absurd (h.wrong hs).1.zero hs
theorem Verd.none {n : NetL} {i o most e : Int} {v : VerdL} (h : Verd n i o most v e) (he : e ≠ 0) : v = ⟨0, [], 0⟩ := by
  by_cases hs : ShapeOk n i o
  · cases hg : graphL n (startL n.places i) most with
    | mk s d =>
      by_cases hd : d = 0
      · subst hd; exact absurd (h.right hs s hg).1 he
      · exact (h.full hs (by rw [hg]; exact hd)).2
  · exact (h.wrong hs).2

/-- What is sound. -/
theorem SaysV.kind {n : NetL} {E : List Int} {s : SpaceL} {v : VerdL} (h : SaysV n E s v) : v.kind = 1 ↔ (∀ j, j < s.marks.length → ¬ ExtraM E (markAt s.marks j)) ∧ (∀ j, j < s.marks.length → ReachZ n (markAt s.marks j) E) ∧ deadL (toZ s) n.trans.length = [] := by
  constructor
  · intro hk
    rcases h.cases with ⟨j, a1, a2, a3, e⟩ | ⟨a1, j, a2, a3, a4, e⟩ | ⟨a1, a2, t, ts, a3, e⟩ | ⟨a1, a2, a3, e⟩
    · rw [e] at hk; simp at hk
    · rw [e] at hk; simp at hk
    · rw [e] at hk; simp at hk
    · exact ⟨a1, a2, a3⟩
  · rintro ⟨a1, a2, a3⟩
    rw [h.sound a1 a2 a3]

/-! ### what is within some marks is told -/
theorem graph_within {n : NetL} {m : List Int} {most : Nat} {L : List (List Int)} (hm : 1 ≤ most) (hmx : most ≤ 300) (hf : fitsL n m = true) (hL : L.length ≤ most) (hin : ∀ x, ReachZ n m x → x ∈ L) (hr : ∀ x, ReachZ n m x → rightL x = true) : ∃ u, graphL n m most = (u, 0) := by
  have hok : graphOk n m most = true := by simp [graphOk, hf]; omega
  cases hg : graphTo n m most most with
  | some u => exact ⟨u, by rw [graphL, hok]; simp only [if_true, Int.toNat_natCast]; rw [hg]⟩
  | none =>
    exfalso
    obtain ⟨f, j, sp, hj, hF, hff, ht⟩ := graph_broke hm hf _ hg
    have hfit := hF.fits _ (markAt_mem hff)
    have hz := hF.reachZ f hff
    unfold tryT at ht
    split at ht
    · cases ht
    · rename_i h3
      have hcv : coversL (markAt sp.marks f) (tranAt n.trans j).pre = true := by
        cases hc : coversL (markAt sp.marks f) (tranAt n.trans j).pre
        · refine absurd ?_ h3
          unfold fireL
          rw [hfit, Int.toNat_natCast, hc]; simp
        · rfl
      have hst : StepZ n (markAt sp.marks f) j (addL (subL (markAt sp.marks f) (tranAt n.trans j).pre) (tranAt n.trans j).post) := ⟨hj, (coversL_iff _ _).1 hcv, rfl⟩
      have e1 := fire_mk hj hfit hcv (hr _ (hz.step hst))
      rw [e1] at ht
      simp only [BEq.rfl, if_true] at ht
      split at ht
      · cases ht
      · rename_i hfn
        split at ht
        · rename_i hlen
          have hx := findM_none hfn
          have hnd : (sp.marks ++ [addL (subL (markAt sp.marks f) (tranAt n.trans j).pre) (tranAt n.trans j).post]).Nodup := by
            rw [List.nodup_append]
            exact ⟨hF.nodup, by simp, fun a ha b hb e => by rw [List.mem_singleton] at hb; subst hb; subst e; exact hx ha⟩
          have := nodup_sub (l2 := L) hnd (fun x hx => hin x (by
            rcases List.mem_append.1 hx with q | q
            · obtain ⟨i, hi, rfl⟩ := List.getElem_of_mem q
              have := hF.reachZ i hi
              rw [markAt, List.getD_eq_getElem?_getD, List.getElem?_eq_getElem hi] at this
              exact this
            · rw [List.mem_singleton] at q; subst q; exact hz.step hst))
          simp at this
          omega
        · cases ht

/-- What was found is come to, and all that. -/
theorem Whole.iff {n : NetL} {m x : List Int} {s : SpaceL} (h : Whole n m s) : ReachZ n m x ↔ ∃ g, g < s.marks.length ∧ markAt s.marks g = x := by
  refine ⟨h.has, ?_⟩
  rintro ⟨g, hg, rfl⟩
  obtain ⟨_, _, hF, _⟩ := h
  exact hF.reachZ g hg
theorem Whole.right_of {n : NetL} {m x : List Int} {s : SpaceL} (h : Whole n m s) (hr : ReachZ n m x) : fitsL n x = true := by
  obtain ⟨g, hg, rfl⟩ := h.has hr
  exact h.fits hg

/-- Where more comes of less there is no end. -/
theorem no_pump {n : NetL} {m d : List Int} {s : SpaceL} (h : Whole n m s) (hd : (d.length : Int) = n.places) (h0 : ∀ p, 0 ≤ nth d p) (hp : ∃ p, nth d p ≠ 0) (hr : ReachZ n m (addL m d)) : False := by
  have hfm := h.right_of (ReachZ.here (n := n) (a := m))
  obtain ⟨hn, hl, hrm⟩ := fits_net hfm
  have rep : ∀ k : Nat, ∃ x, ReachZ n m x ∧ (x.length : Int) = n.places ∧ ∀ p, nth x p = nth m p + k * nth d p := by
    intro k
    induction k with
    | zero => exact ⟨m, ReachZ.here, hl, fun p => by simp⟩
    | succ k ih =>
      obtain ⟨x, hx, hxl, hxp⟩ := ih
      -- k times d beside
      let kd : List Int := subL x m
      have hkl : (kd.length : Int) = n.places := by show ((subL x m).length : Int) = _; rw [sub_length]; omega
      have hk0 : ∀ p, 0 ≤ nth kd p := fun p => by
        show 0 ≤ nth (subL x m) p
        rw [sub_at, hxp p]
        have := h0 p
        have : 0 ≤ (k : Int) * nth d p := Int.mul_nonneg (by omega) this
        omega
      have q := ReachZ.more hn hr hl hkl hk0
      have e : addL m kd = x := by
        refine eq_of_at (by show (addL m (subL x m)).length = _; rw [add_length, sub_length]; omega) fun p => ?_
        show nth (addL m (subL x m)) p = _
        rw [add_at, sub_at]; omega
      rw [e] at q
      refine ⟨addL (addL m d) kd, hx.trans q, by rw [add_length, add_length]; omega, fun p => ?_⟩
      show nth (addL (addL m d) (subL x m)) p = _
      rw [add_at, add_at, sub_at, hxp p]
      have : ((k + 1 : Nat) : Int) * nth d p = (k : Int) * nth d p + nth d p := by rw [Int.natCast_add, Int.add_mul]; simp
      omega
  obtain ⟨p, hp⟩ := hp
  obtain ⟨x, hx, _, hxp⟩ := rep 1000001
  have h1 := (okTok_nth (fits_net (h.right_of hx)).2.2 p).2
  have h2 := (okTok_nth hrm p).1
  have h3 := h0 p
  have := hxp p
  omega

end Go.Proofs.Ytfgimobmaahmmaa

/- Van der Aalst: a net is sound just if, closed, it has a bound and all its transitions are live. -/
namespace Go.Proofs.Ytfgimobmaahmmaa
set_option linter.unusedVariables false
set_option maxRecDepth 4000

theorem stepC {n : NetL} {i o : Int} {x y : List Int} {t : Nat} (h : StepZ (closeL n i o) x t y) : StepZ n x t y ∨ (t = n.trans.length ∧ (∀ p, nth (startL n.places o) p ≤ nth x p) ∧ y = addL (subL x (startL n.places o)) (startL n.places i)) := by
  obtain ⟨ht, hc, e⟩ := h
  rw [close_count] at ht
  by_cases q : t < n.trans.length
  · rw [close_at n i o q] at hc e
    exact .inl ⟨q, hc, e⟩
  · have : t = n.trans.length := by omega
    subst this
    rw [close_last] at hc e
    exact .inr ⟨rfl, hc, e⟩
theorem stepC_of {n : NetL} {i o : Int} {x y : List Int} {t : Nat} (h : StepZ n x t y) : StepZ (closeL n i o) x t y := by
  obtain ⟨ht, hc, e⟩ := h
  exact ⟨by rw [close_count]; omega, by rw [close_at n i o ht]; exact hc, by rw [close_at n i o ht]; exact e⟩
theorem stepC_last {n : NetL} {i o : Int} {x : List Int} (h : ∀ p, nth (startL n.places o) p ≤ nth x p) : StepZ (closeL n i o) x n.trans.length (addL (subL x (startL n.places o)) (startL n.places i)) :=
  ⟨by rw [close_count]; omega, by rw [close_last]; exact h, by rw [close_last]⟩
theorem round_same2 (P i o : Int) : addL (subL (startL P o) (startL P o)) (startL P i) = startL P i := by
  refine eq_of_at ?_ fun j => ?_
  · rw [add_length, sub_length]
    simp only [start_length]
    omega
  · rw [add_at, sub_at]; omega
theorem stepC_end (n : NetL) (i o : Int) : StepZ (closeL n i o) (startL n.places o) n.trans.length (startL n.places i) := by
  have h := stepC_last (n := n) (i := i) (o := o) (x := startL n.places o) fun _ => Int.le_refl _
  rwa [round_same2] at h
theorem reachC {n : NetL} {i o : Int} {a b : List Int} (h : ReachZ n a b) : ReachZ (closeL n i o) a b := by
  induction h using ReachZ.ind with
  | here => exact .here
  | step _ hs ih => exact ih.step (stepC_of hs)

/-- Where nothing has anything beside the end, what covers it is it. -/
theorem only_end {E x : List Int} (h : ¬ ExtraM E x) (hc : ∀ p, nth E p ≤ nth x p) : x = E := by
  by_cases e : x = E
  · exact e
  · exact absurd ⟨(coversL_iff _ _).2 hc, e⟩ h
theorem reachC_in {n : NetL} {i o : Int} {x : List Int} (hx : ∀ x, ReachZ n (startL n.places i) x → ¬ ExtraM (startL n.places o) x) (h : ReachZ (closeL n i o) (startL n.places i) x) : ReachZ n (startL n.places i) x := by
  induction h using ReachZ.ind with
  | here => exact .here
  | step _ hs ih =>
    rcases stepC hs with q | ⟨_, hc, rfl⟩
    · exact ih.step q
    · rw [only_end (hx _ ih) hc, round_same2]
      exact .here
theorem reachC_end {n : NetL} {i o : Int} {x y : List Int} (hx : ∀ x, ReachZ n (startL n.places i) x → ¬ ExtraM (startL n.places o) x) (h0 : ReachZ n (startL n.places i) x) (h : ReachZ (closeL n i o) x y) : ReachZ n x y ∨ ReachZ n x (startL n.places o) := by
  induction h using ReachZ.ind with
  | here => exact .inl .here
  | step _ hs ih =>
    rcases ih with ih | ih
    · rcases stepC hs with q | ⟨_, hc, rfl⟩
      · exact .inl (ih.step q)
      · right
        rw [← only_end (hx _ (h0.trans ih)) hc]
        exact ih
    · exact .inr ih

theorem Whole.reach_comes {n : NetL} {m y : List Int} {s : SpaceL} (h : Whole n m s) {f : Nat} (hf : f < s.marks.length) (hr : ReachZ n (markAt s.marks f) y) : ∃ g : Nat, g < s.marks.length ∧ markAt s.marks g = y ∧ Comes (toZ s) f g := by
  induction hr using ReachZ.ind with
  | here => exact ⟨f, hf, rfl, Comes.here _⟩
  | @step x y t _ hs ih =>
    obtain ⟨g, hg, rfl, hc⟩ := ih
    obtain ⟨ht, hcv, rfl⟩ := hs
    rcases h.fire hg t with q | ⟨j, g2, e, ha, hg2, e2⟩
    · exact absurd q (fire_code (h.fits hg) ht hcv)
    · obtain ⟨j', e3, _, _, _, _, e4⟩ := fire_ok e2
      have : j' = t := by omega
      subst this
      have hz : ((g : Int), (j : Int), (g2 : Int)) ∈ (toZ s).arcs := mem_arcZ.2 ⟨_, ha, rfl⟩
      exact ⟨g2, hg2, e4, Comes.go (a := ((g : Int), (j : Int), (g2 : Int))) hc hz⟩
theorem Whole.comes_reach {n : NetL} {m : List Int} {s : SpaceL} (h : Whole n m s) {f : Nat} (hf : f < s.marks.length) {y : Int} (hc : Comes (toZ s) f y) : ∃ g : Nat, y = g ∧ g < s.marks.length ∧ ReachZ n (markAt s.marks f) (markAt s.marks g) := by
  obtain ⟨j, e, hj, seq, hs⟩ := h.comes_run hf hc
  exact ⟨j, e, hj, run_reachZ seq hs⟩
/-- Who can fire has an arc. -/
theorem Whole.has_arc {n : NetL} {m : List Int} {s : SpaceL} (h : Whole n m s) {f t : Nat} (hf : f < s.marks.length) (ht : t < n.trans.length) (hc : ∀ p, nth (tranAt n.trans t).pre p ≤ nth (markAt s.marks f) p) : ∃ a ∈ (toZ s).arcs, a.2.1 = t ∧ a.1 = f := by
  rcases h.fire hf t with q | ⟨j, g2, e, ha, hg2, e2⟩
  · exact absurd q (fire_code (h.fits hf) ht hc)
  · exact ⟨((f : Int), (j : Int), (g2 : Int)), mem_arcZ.2 ⟨_, ha, rfl⟩, e.symm, rfl⟩
theorem Whole.arc_can {n : NetL} {m : List Int} {s : SpaceL} (h : Whole n m s) {a : Int × Int × Int} (ha : a ∈ (toZ s).arcs) : ∃ f t : Nat, a.1 = f ∧ a.2.1 = t ∧ f < s.marks.length ∧ t < n.trans.length ∧ ∀ p, nth (tranAt n.trans t).pre p ≤ nth (markAt s.marks f) p := by
  obtain ⟨b, hb, rfl⟩ := mem_arcZ.1 ha
  obtain ⟨h1, h2, h3, h4⟩ := h.sound b hb
  obtain ⟨k, e, _, _, hc, _⟩ := fire_ok h4
  have : k = b.tran := by omega
  subst this
  exact ⟨b.frm, b.tran, rfl, rfl, h1, h3, (coversL_iff _ _).1 hc⟩

theorem range_all {N : Nat} {xs : List Int} (hu : xs.Pairwise (· < ·)) (hin : ∀ t ∈ xs, 0 ≤ t ∧ t < N) : xs.length = N ↔ ∀ t : Nat, t < N → (t : Int) ∈ xs := by
  have e : xs = (rangeL N).filter fun t => xs.contains t := by
    refine up_unique hu ((range_sorted N).sublist List.filter_sublist) fun t => ?_
    rw [List.mem_filter, mem_range, List.contains_iff_mem]
    exact ⟨fun h => ⟨hin t h, h⟩, fun h => h.2⟩
  have hl : (rangeL N).length = N := by simp [rangeL]
  constructor
  · intro h t ht
    have : (rangeL N).filter (fun t => xs.contains t) = rangeL N := List.filter_sublist.eq_of_length (by rw [← e, hl]; exact h)
    have hm : (t : Int) ∈ rangeL N := mem_range.2 (by omega)
    rw [← this, List.mem_filter, List.contains_iff_mem] at hm
    exact hm.2
  · intro h
    have : (rangeL N).filter (fun t => xs.contains t) = rangeL N := by
      rw [List.filter_eq_self]
      intro t ht
      rw [List.contains_iff_mem]
      obtain ⟨h1, h2⟩ := mem_range.1 ht
      obtain ⟨k, rfl⟩ := Int.eq_ofNat_of_zero_le h1
      exact h k (by omega)
    rw [e, this, hl]

section
variable {n : NetL} {i o most : Int} {s : SpaceL} {v : VerdL}

theorem mark_len (h : Whole n (startL n.places i) s) {j : Nat} (hj : j < s.marks.length) : ((markAt s.marks j).length : Int) = n.places := (fits_net (h.fits hj)).2.1

/-- What is sound has, closed, as many marks. -/
theorem close_graph (hS : ShapeOk n i o) (hl : n.trans.length < 24) (hg : graphL n (startL n.places i) most = (s, 0)) (hv : SaysV n (startL n.places o) s v) (hk : v.kind = 1) : ∃ u, graphL (closeL n i o) (startL n.places i) 300 = (u, 0) := by
  obtain ⟨h1, h2, h3⟩ := hv.kind.1 hk
  have hW := graphL_whole hg
  obtain ⟨m1, m2, _, _, hF⟩ := graphL_ok hg
  have hx : ∀ x, ReachZ n (startL n.places i) x → ¬ ExtraM (startL n.places o) x := fun x hr => by
    obtain ⟨g, hgl, rfl⟩ := hW.has hr
    exact h1 g hgl
  have hfit : fitsL (closeL n i o) (startL n.places i) = true := by rw [close_fits hS.ok hl]; exact start_fits hS.ok i
  have := graph_within (n := closeL n i o) (m := startL n.places i) (most := 300) (L := s.marks) (by omega) (by omega) hfit (by have := hF.most_le; omega) (fun x hr => by
    obtain ⟨g, hgl, rfl⟩ := hW.has (reachC_in hx hr)
    exact markAt_mem hgl) (fun x hr => (fits_net (hW.right_of (reachC_in hx hr))).2.2)
  exact this

/-- Van der Aalst. -/
theorem close_live {u : SpaceL} {xs : List Int} (hS : ShapeOk n i o) (hl : n.trans.length < 24) (hg : graphL n (startL n.places i) most = (s, 0)) (hv : SaysV n (startL n.places o) s v) (hu : graphL (closeL n i o) (startL n.places i) 300 = (u, 0))
    (hL : IsLive (toZ u) ((n.trans.length + 1 : Nat) : Int) xs) : v.kind = 1 ↔ xs.length = n.trans.length + 1 := by
  have hW := graphL_whole hg
  have hC := graphL_whole hu
  have hok := close_ok hS.ok hl i o
  have hin : ∀ t ∈ xs, 0 ≤ t ∧ t < ((n.trans.length + 1 : Nat) : Int) := fun t ht => by
    obtain ⟨_, q1, q2, _⟩ := (hL.mem t).1 ht
    omega
  rw [range_all hL.up hin, hv.kind]
  constructor
  · rintro ⟨h1, h2, h3⟩ t ht
    have hx : ∀ x, ReachZ n (startL n.places i) x → ¬ ExtraM (startL n.places o) x := fun x hr => by
      obtain ⟨g, hgl, rfl⟩ := hW.has hr
      exact h1 g hgl
    refine (hL.mem t).2 ⟨hC.right, by omega, by omega, fun k hk0 hk => ?_⟩
    obtain ⟨k, rfl⟩ := Int.eq_ofNat_of_zero_le hk0
    have hk : k < u.marks.length := by
      have : (k : Int) < (u.marks.length : Int) := hk
      omega
    have r0 : ReachZ n (startL n.places i) (markAt u.marks k) := reachC_in hx (hC.iff.2 ⟨k, hk, rfl⟩)
    obtain ⟨g, hgl, eg⟩ := hW.has r0
    have r1 : ReachZ (closeL n i o) (markAt u.marks k) (startL n.places o) := by
      have := h2 g hgl
      rw [eg] at this
      exact reachC this
    by_cases hT : t = n.trans.length
    · obtain ⟨e, he, ee, hc⟩ := hC.reach_comes hk r1
      obtain ⟨a, ha, a1, a2⟩ := hC.has_arc (t := n.trans.length) he (by rw [close_count]; omega) (fun p => by rw [close_last, ee]; exact Int.le_refl _)
      exact ⟨a, ha, by rw [a1, hT], by rw [a2]; exact hc⟩
    · have hnd : ¬ (t : Int) ∈ deadL (toZ s) n.trans.length := by rw [h3]; simp
      have : ∃ a ∈ (toZ s).arcs, a.2.1 = (t : Int) := by
        refine Classical.byContradiction fun q => hnd (mem_dead.2 ⟨by omega, by omega, fun a ha e => q ⟨a, ha, e⟩⟩)
      obtain ⟨a, ha, ea⟩ := this
      obtain ⟨f, t', e1, e2, hf, ht', hcv⟩ := hW.arc_can ha
      have : t' = t := by omega
      subst this
      have r2 : ReachZ (closeL n i o) (markAt u.marks k) (markAt s.marks f) := (r1.step (stepC_end n i o)).trans (reachC (hW.iff.2 ⟨f, hf, rfl⟩))
      obtain ⟨e, he, ee, hc⟩ := hC.reach_comes hk r2
      obtain ⟨b, hb, b1, b2⟩ := hC.has_arc (t := t') he (by rw [close_count]; omega) (fun p => by rw [close_at n i o ht', ee]; exact hcv p)
      exact ⟨b, hb, b1, by rw [b2]; exact hc⟩
  · intro hall
    have live : ∀ t : Nat, t < n.trans.length + 1 → ∀ k : Nat, k < u.marks.length → ∃ (f : Nat), f < u.marks.length ∧ ReachZ (closeL n i o) (markAt u.marks k) (markAt u.marks f) ∧ ∀ p, nth (tranAt (closeL n i o).trans t).pre p ≤ nth (markAt u.marks f) p := by
      intro t ht k hk
      obtain ⟨_, _, _, q⟩ := (hL.mem t).1 (hall t ht)
      obtain ⟨a, ha, e1, hc⟩ := q k (by omega) (by show (k : Int) < (u.marks.length : Int); omega)
      obtain ⟨f, t', e2, e3, hf, ht', hcv⟩ := hC.arc_can ha
      have : t' = t := by omega
      subst this
      obtain ⟨g, eg, hgl, hr⟩ := hC.comes_reach hk hc
      have : g = f := by omega
      subst this
      exact ⟨g, hgl, hr, hcv⟩
    have h1 : ∀ x, ReachZ n (startL n.places i) x → ¬ ExtraM (startL n.places o) x := by
      intro x hr hx
      obtain ⟨hcv, hne⟩ := hx
      have hcv := (coversL_iff _ _).1 hcv
      have hxl : (x.length : Int) = n.places := hr.length hS.ok (start_len hS.ok i)
      have hel := start_len hS.ok o
      have hsl := start_len hS.ok i
      have r : ReachZ (closeL n i o) (startL n.places i) (addL (startL n.places i) (subL x (startL n.places o))) := by
        have := (reachC (i := i) (o := o) hr).step (stepC_last hcv)
        have e : addL (subL x (startL n.places o)) (startL n.places i) = addL (startL n.places i) (subL x (startL n.places o)) := by
          refine eq_of_at (by rw [add_length, add_length]; omega) fun p => ?_
          rw [add_at, add_at]; omega
        rwa [e] at this
      refine no_pump hC (by show ((subL x (startL n.places o)).length : Int) = n.places; rw [sub_length]; omega) (fun p => by rw [sub_at]; have := hcv p; omega) ?_ r
      refine Classical.byContradiction fun q => hne (eq_of_at (by omega) fun p => ?_)
      have : nth (subL x (startL n.places o)) p = 0 := Classical.byContradiction fun z => q ⟨p, z⟩
      rw [sub_at] at this
      omega
    have inN : ∀ f, f < u.marks.length → ReachZ n (startL n.places i) (markAt u.marks f) := fun f hf => reachC_in h1 (hC.iff.2 ⟨f, hf, rfl⟩)
    refine ⟨fun j hj => h1 _ (hW.iff.2 ⟨j, hj, rfl⟩), fun j hj => ?_, ?_⟩
    · have r0 : ReachZ n (startL n.places i) (markAt s.marks j) := hW.iff.2 ⟨j, hj, rfl⟩
      obtain ⟨k, hk, ek⟩ := hC.has (reachC r0)
      obtain ⟨f, hf, hr, hcv⟩ := live n.trans.length (by omega) k hk
      rw [close_last] at hcv
      have e := only_end (h1 _ (inN f hf)) hcv
      rw [ek, e] at hr
      rcases reachC_end h1 r0 hr with q | q
      · exact q
      · exact q
    · rw [List.eq_nil_iff_forall_not_mem]
      intro t ht
      obtain ⟨q1, q2, q3⟩ := mem_dead.1 ht
      obtain ⟨t, rfl⟩ := Int.eq_ofNat_of_zero_le q1
      have htT : t < n.trans.length := by omega
      obtain ⟨f, hf, hr, hcv⟩ := live t (by omega) 0 hC.here.1
      rw [close_at n i o htT] at hcv
      obtain ⟨g, hgl, eg⟩ := hW.has (inN f hf)
      rw [← eg] at hcv
      obtain ⟨a, ha, a1, _⟩ := hW.has_arc hgl htT hcv
      exact q3 a ha a1

end

end Go.Proofs.Ytfgimobmaahmmaa

/- Which verdict it is, plainly. -/
namespace Go.Proofs.Ytfgimobmaahmmaa
set_option linter.unusedVariables false
set_option maxRecDepth 4000

theorem shape_two {n : NetL} {i o : Int} (h : ShapeOk n i o) : 2 ≤ n.places := by
  have h1 := h.i0
  have h2 := h.o0
  have h3 := h.i1
  have h4 := h.o1
  have h5 := h.ne
  omega
theorem says_extra {n : NetL} {E : List Int} {s : SpaceL} {k : Nat} (hk : k < s.marks.length) (h : ExtraM E (markAt s.marks k)) (h0 : ∀ j, j < k → ¬ ExtraM E (markAt s.marks j)) : SaysV n E s ⟨2, markAt s.marks k, 0⟩ := by
  refine ⟨fun j hj hx hj0 => ?_, fun q => absurd h (q k hk), fun q => absurd h (q k hk), fun q => absurd h (q k hk)⟩
  rcases Nat.lt_trichotomy j k with e | e | e
  · exact absurd hx (h0 j e)
  · rw [e]
  · exact absurd h (hj0 k e)
theorem says_stuck {n : NetL} {E : List Int} {s : SpaceL} {k : Nat} (hx : ∀ j, j < s.marks.length → ¬ ExtraM E (markAt s.marks j)) (hk : k < s.marks.length) (h : ¬ ReachZ n (markAt s.marks k) E) (h0 : ∀ j, j < k → ReachZ n (markAt s.marks j) E) : SaysV n E s ⟨3, markAt s.marks k, 0⟩ := by
  refine ⟨fun j hj q _ => absurd q (hx j hj), fun _ j hj hr hj0 => ?_, fun _ q => absurd (q k hk) h, fun _ q => absurd (q k hk) h⟩
  rcases Nat.lt_trichotomy j k with e | e | e
  · exact absurd (h0 j e) hr
  · rw [e]
  · exact absurd (hj0 k e) h
theorem says_dead {n : NetL} {E : List Int} {s : SpaceL} {t : Int} {ts : List Int} (hx : ∀ j, j < s.marks.length → ¬ ExtraM E (markAt s.marks j)) (hr : ∀ j, j < s.marks.length → ReachZ n (markAt s.marks j) E) (hd : deadL (toZ s) n.trans.length = t :: ts) : SaysV n E s ⟨4, [], t⟩ := by
  refine ⟨fun j hj q _ => absurd q (hx j hj), fun _ j hj q _ => absurd (hr j hj) q, fun _ _ t' ts' e => ?_, fun _ _ e => ?_⟩
  · rw [hd] at e; injection e with e1 _; rw [e1]
  · rw [hd] at e; cases e
theorem says_sound {n : NetL} {E : List Int} {s : SpaceL} (hx : ∀ j, j < s.marks.length → ¬ ExtraM E (markAt s.marks j)) (hr : ∀ j, j < s.marks.length → ReachZ n (markAt s.marks j) E) (hd : deadL (toZ s) n.trans.length = []) : SaysV n E s ⟨1, [], 0⟩ := by
  refine ⟨fun j hj q _ => absurd q (hx j hj), fun _ j hj q _ => absurd (hr j hj) q, fun _ _ t' ts' e => ?_, fun _ _ _ => rfl⟩
  rw [hd] at e; cases e
theorem verd_right {n : NetL} {i o most : Int} {s : SpaceL} {x : VerdL} (hS : ShapeOk n i o) (hg : graphL n (startL n.places i) most = (s, 0)) (h : SaysV n (startL n.places o) s x) : Verd n i o most x 0 := by
  refine ⟨fun q => absurd hS q, fun _ q => ?_, fun _ u hu => ?_⟩
  · rw [hg] at q; exact absurd rfl q
  · rw [hg] at hu; injection hu with e _; subst e; exact ⟨rfl, h⟩
theorem verd_full {n : NetL} {i o most : Int} (hS : ShapeOk n i o) (hg : (graphL n (startL n.places i) most).2 ≠ 0) : Verd n i o most ⟨0, [], 0⟩ (graphL n (startL n.places i) most).2 := by
  refine ⟨fun q => absurd hS q, fun _ _ => ⟨rfl, rfl⟩, fun _ u hu => ?_⟩
  rw [hu] at hg; exact absurd rfl hg

end Go.Proofs.Ytfgimobmaahmmaa

/- What is sound comes to its end; what is not is shown so; more room changes nothing. -/
namespace Go.Proofs.Ytfgimobmaahmmaa
set_option linter.unusedVariables false
set_option maxRecDepth 4000

section
variable {n : NetL} {i o most : Int} {s : SpaceL} {v : VerdL}

/-- From whatever mark there is room enough. -/
theorem again_most {m : List Int} (hg : graphL n m most = (s, 0)) {x : List Int} (hr : ReachZ n m x) : ∃ u, graphL n x most = (u, 0) := by
  have hW := graphL_whole hg
  obtain ⟨m1, m2, _, _, hF⟩ := graphL_ok hg
  obtain ⟨k, rfl⟩ := Int.eq_ofNat_of_zero_le (show 0 ≤ most by omega)
  exact graph_within (L := s.marks) (by omega) (by omega) (hW.right_of hr) (by have := hF.most_le; rwa [Int.toNat_natCast] at this) (fun y hy => by
    obtain ⟨g, hgl, rfl⟩ := hW.has (hr.trans hy)
    exact markAt_mem hgl) (fun y hy => (fits_net (hW.right_of (hr.trans hy))).2.2)

theorem path_to {m x : List Int} (hg : graphL n m most = (s, 0)) (hr : ReachZ n m x) : ∃ p, reachL n m x most = (p, 0) ∧ runL n m p = (x, 0) := by
  obtain ⟨g, hgl, rfl⟩ := (graphL_whole hg).has hr
  obtain ⟨p, h1, h2, _⟩ := reach_true hg hgl
  exact ⟨p, h1, h2⟩
theorem path_none {m x : List Int} (hg : graphL n m most = (s, 0)) (hr : ¬ ReachZ n m x) : (reachL n m x most).2 = 3 := by
  have hW := graphL_whole hg
  unfold reachL
  rw [hg]
  simp only [BEq.rfl, if_true]
  cases hf : findM s.marks x with
  | none => rfl
  | some g =>
    obtain ⟨h1, h2⟩ := findM_some hf
    exact absurd (hW.iff.2 ⟨g, h1, h2⟩) hr

/-- What is sound always comes to its end. -/
theorem sound_means (hg : graphL n (startL n.places i) most = (s, 0)) (hv : SaysV n (startL n.places o) s v) (hk : v.kind = 1) (seq : List Int) :
    (runL n (startL n.places i) seq).2 = 3 ∨ ∃ x, runL n (startL n.places i) seq = (x, 0) ∧ (∃ p, reachL n x (startL n.places o) most = (p, 0) ∧ runL n x p = (startL n.places o, 0)) ∧ (coversL x (startL n.places o) = true → x = startL n.places o) := by
  obtain ⟨h1, h2, h3⟩ := hv.kind.1 hk
  have hW := graphL_whole hg
  have he := hW.here
  rcases hW.run seq (f := 0) he.1 with q | ⟨g, hgl, e⟩
  · rw [he.2] at q; exact .inl q
  · rw [he.2] at e
    refine .inr ⟨_, e, ?_, fun hc => ?_⟩
    · obtain ⟨u, hu⟩ := again_most hg (hW.iff.2 ⟨g, hgl, rfl⟩)
      exact path_to hu (h2 g hgl)
    · refine Classical.byContradiction fun q => h1 g hgl ⟨hc, q⟩

/-- What is not is shown so. -/
theorem sound_witness (hS : ShapeOk n i o) (hg : graphL n (startL n.places i) most = (s, 0)) (hv : SaysV n (startL n.places o) s v) :
    v.kind = 1 ∨ (v.kind = 2 ∧ (reachL n (startL n.places i) v.at_ most).2 = 0 ∧ coversL v.at_ (startL n.places o) = true ∧ v.at_ ≠ startL n.places o) ∨
    (v.kind = 3 ∧ (reachL n (startL n.places i) v.at_ most).2 = 0 ∧ (reachL n v.at_ (startL n.places o) most).2 = 3) ∨
    (v.kind = 4 ∧ 0 ≤ v.tran ∧ v.tran < n.trans.length ∧ ∀ seq, (runL n (startL n.places i) seq).2 = 0 → v.tran ∉ seq) := by
  have hW := graphL_whole hg
  rcases hv.cases with ⟨k, a1, a2, a3, rfl⟩ | ⟨a1, k, a2, a3, a4, rfl⟩ | ⟨a1, a2, t, ts, a3, rfl⟩ | ⟨a1, a2, a3, rfl⟩
  · obtain ⟨p, h1, _⟩ := path_to hg (hW.iff.2 ⟨k, a1, rfl⟩)
    exact .inr (.inl ⟨rfl, by rw [h1], a2.1, a2.2⟩)
  · obtain ⟨p, h1, _⟩ := path_to hg (hW.iff.2 ⟨k, a2, rfl⟩)
    obtain ⟨u, hu⟩ := again_most hg (hW.iff.2 ⟨k, a2, rfl⟩)
    exact .inr (.inr (.inl ⟨rfl, by rw [h1], path_none hu a3⟩))
  · have ht : t ∈ deadL (toZ s) n.trans.length := by rw [a3]; simp
    obtain ⟨q1, q2, q3⟩ := mem_dead.1 ht
    refine .inr (.inr (.inr ⟨rfl, q1, by show t < _; omega, fun seq hs hin => ?_⟩))
    have he := hW.here
    cases hr : runL n (startL n.places i) seq with
    | mk x cd =>
      rw [hr] at hs
      simp only at hs
      subst hs
      obtain ⟨_, h2⟩ := hW.run_comes seq (i := 0) (k := 0) (z := x) he.1 (Comes.here _) (by rw [he.2]; exact hr)
      obtain ⟨a, ha, e, _⟩ := h2 t hin
      exact q3 (arcZ a) (mem_arcZ.2 ⟨a, ha, rfl⟩) e
  · exact .inl rfl

/-- More room changes no verdict. -/
theorem sound_room {more f : Int} {u : VerdL} (h : Verd n i o most v 0) (k : Verd n i o more u f) (h1 : most ≤ more) (h2 : more ≤ 300) : f = 0 ∧ u = v := by
  obtain ⟨hS, s, hg, hs⟩ := h.zero
  obtain ⟨m1, _, _, _, hF⟩ := graphL_ok hg
  have hr := graph_room hg (more := more) (by omega) h2
  have hml := hF.most_le
  have : graphL n (startL n.places i) more = (s, 0) := by
    rw [hr, if_pos (by omega)]
  obtain ⟨k1, k2⟩ := k.right hS s this
  exact ⟨k1, k2.unique hs⟩

end

end Go.Proofs.Ytfgimobmaahmmaa

/- What grows of blocks is a net that always comes to its end, safe, and of free choice. -/
namespace Go.Proofs.Ytfgimobmaahmmaa
set_option linter.unusedVariables false
set_option maxRecDepth 4000

def weightG (n : Nat) (l : List Nat) : List Int := mapTo n fun p => tok l p
def tranG (n : Nat) (l : LinkL) : TranL := ⟨l.label, weightG n l.src, weightG n l.dst⟩
def netG (g : GrowL) : NetL := ⟨g.places, g.links.map (tranG g.places)⟩

theorem weight_length (n : Nat) (l : List Nat) : (weightG n l).length = n := mapTo_length _ _
theorem weight_at {n : Nat} {l : List Nat} (h : ∀ r ∈ l, r < n) (r : Nat) : nth (weightG n l) r = tok l r := by
  by_cases hr : r < n
  · exact mapTo_nth _ _ _ hr
  · rw [nth_past _ _ (by rw [weight_length]; omega), tok_not fun q => hr (h r q)]

/-- All places of all links are there. -/
def InG (g : GrowL) : Prop := ∀ l ∈ g.links, (∀ r ∈ l.src, r < g.places) ∧ ∀ r ∈ l.dst, r < g.places
/-- A net that is one piece. -/
structure OneG (g : GrowL) (St : MarkF → Prop) : Prop where
  piece : ∃ I, Piece g.links I [0] [1] St ∧ (∀ r, r < g.places ↔ I r ∨ r = 0 ∨ r = 1) ∧ ¬ I 0
  fit : FitG g

section
variable {g : GrowL} {St : MarkF → Prop}

theorem OneG.ins (h : OneG g St) : InG g := by
  obtain ⟨I, P, hI, h00⟩ := h.piece
  intro l hl
  constructor
  · intro r hr
    rcases P.in1' l r hl hr with a | a
    · exact (hI r).2 (.inl a)
    · simp at a; exact (hI r).2 (.inr (.inl a))
  · intro r hr
    rcases P.in2' l r hl hr with a | a
    · exact (hI r).2 (.inl a)
    · simp at a; exact (hI r).2 (.inr (.inr a))

theorem net_tran_at {k : Nat} (hk : k < g.links.length) : tranAt (netG g).trans k = tranG g.places g.links[k] := by
  simp [netG, tranAt, List.getD, List.getElem?_map, List.getElem?_eq_getElem hk]
theorem net_count : (netG g).trans.length = g.links.length := by simp [netG]

theorem pre_at (h : InG g) {k : Nat} (hk : k < g.links.length) (r : Nat) : nth (tranAt (netG g).trans k).pre r = tok g.links[k].src r := by
  rw [net_tran_at hk]; exact weight_at (h _ (List.getElem_mem hk)).1 r
theorem post_at (h : InG g) {k : Nat} (hk : k < g.links.length) (r : Nat) : nth (tranAt (netG g).trans k).post r = tok g.links[k].dst r := by
  rw [net_tran_at hk]; exact weight_at (h _ (List.getElem_mem hk)).2 r

theorem OneG.netOk (h : OneG g St) : netOk (netG g) = true := by
  obtain ⟨I, P, hI, h00⟩ := h.piece
  have hw : ∀ l : List Nat, (weightG g.places l).all weightOk = true := by
    intro l
    rw [List.all_eq_true]
    intro z hz
    obtain ⟨j, hj, rfl⟩ := List.getElem_of_mem hz
    have e : nth (weightG g.places l) j = tok l j := mapTo_nth _ _ _ (by rw [weight_length] at hj; exact hj)
    have e2 : nth (weightG g.places l) j = (weightG g.places l)[j] := by simp [nth, List.getD, List.getElem?_eq_getElem hj]
    rw [← e2, e]
    have := tok_low l j
    simp only [weightOk, Bool.and_eq_true, decide_eq_true_eq]
    omega
  have h1 := h.fit.1
  have h2 := h.fit.2
  simp only [Proofs.Ytfgimobmaahmmaa.netOk, headOk, Bool.and_eq_true, decide_eq_true_eq, List.all_eq_true]
  refine ⟨⟨⟨by simp [netG], by simp [netG]; omega⟩, by simp [netG]; omega⟩, ?_⟩
  intro t ht
  simp only [netG, List.mem_map] at ht
  obtain ⟨l, hl, rfl⟩ := ht
  have hn := P.named l hl
  have a1 := hw l.src
  have a2 := hw l.dst
  simp only [tranOk, tranHead, tranG, Bool.and_eq_true, beq_iff_eq, List.all_append, weight_length, netG]
  exact ⟨⟨⟨⟨decide_eq_true hn.1, decide_eq_true hn.2⟩, trivial⟩, trivial⟩, a1, a2⟩

theorem step_go (h : InG g) {x y : List Int} {t : Nat} (hs : StepZ (netG g) x t y) : ∃ ht : t < g.links.length, CanF g.links[t] (nth x) ∧ nth y = goF g.links[t] (nth x) := by
  obtain ⟨h1, h2, rfl⟩ := hs
  rw [net_count] at h1
  refine ⟨h1, fun r hr => ?_, ?_⟩
  · have := h2 r
    rw [pre_at h h1, tok_mem hr] at this
    exact this
  · funext r
    rw [add_at, sub_at, pre_at h h1, post_at h h1]; rfl

theorem go_step (h : InG g) {x : List Int} {t : Nat} (ht : t < g.links.length) (h0 : ∀ r, 0 ≤ nth x r) (hc : CanF g.links[t] (nth x)) : ∃ y, StepZ (netG g) x t y ∧ nth y = goF g.links[t] (nth x) := by
  refine ⟨_, ⟨by rw [net_count]; exact ht, fun p => ?_, rfl⟩, ?_⟩
  · rw [pre_at h ht]
    by_cases q : p ∈ g.links[t].src
    · rw [tok_mem q]; exact hc p q
    · rw [tok_not q]; exact h0 p
  · funext r
    rw [add_at, sub_at, pre_at h ht, post_at h ht]; rfl

theorem OneG.start_is (h : OneG g St) {i : Nat} (hi : i < g.places) : nth (startL (netG g).places i) = tok [i] := by
  have h1 := h.fit.1
  funext r
  have e : (min ((netG g).places) 16).toNat = g.places := by simp only [netG]; omega
  by_cases hr : r < g.places
  · rw [start_at _ _ _ (by rw [e]; exact hr), tok_one]
    by_cases q : r = i
    · rw [if_pos q, if_pos (by omega)]
    · rw [if_neg q, if_neg (by omega)]
  · rw [nth_past _ _ (by rw [start_length, e]; omega), tok_one, if_neg (by omega)]
theorem OneG.start_len (h : OneG g St) (i : Int) : ((startL (netG g).places i).length : Int) = (netG g).places := by
  have h1 := h.fit.1
  rw [start_length]; simp only [netG]; omega
theorem OneG.two (h : OneG g St) : 0 < g.places ∧ 1 < g.places := by
  obtain ⟨I, P, hI, h00⟩ := h.piece
  exact ⟨(hI 0).2 (.inr (.inl rfl)), (hI 1).2 (.inr (.inr rfl))⟩

/-- Whatever is come to is one of its marks. -/
theorem OneG.kept (h : OneG g St) {x y : List Int} (hx : St (nth x)) (hr : ReachZ (netG g) x y) : St (nth y) := by
  obtain ⟨I, P, hI, h00⟩ := h.piece
  refine hr (fun y => St (nth y)) hx fun a b t ha hs => ?_
  obtain ⟨ht, hc, e⟩ := step_go h.ins hs
  show St (nth b)
  rw [e]
  exact P.closed _ _ ha (List.getElem_mem ht) hc
theorem OneG.reach (h : OneG g St) {x : List Int} {f : MarkF} (hx : St (nth x)) (hr : ReachF g.links (nth x) f) : ∃ y, ReachZ (netG g) x y ∧ nth y = f := by
  obtain ⟨I, P, hI, h00⟩ := h.piece
  have := hr (fun f => St f ∧ ∃ y, ReachZ (netG g) x y ∧ nth y = f) ⟨hx, x, ReachZ.here, rfl⟩ ?_
  · exact this.2
  · rintro f l ⟨hf, y, h1, rfl⟩ hl hc
    obtain ⟨t, ht, rfl⟩ := List.getElem_of_mem hl
    obtain ⟨z, h2, h3⟩ := go_step h.ins ht (fun r => (P.low _ r hf).1) hc
    exact ⟨P.closed _ _ hf hl hc, z, h1.step h2, h3⟩
theorem OneG.begins (h : OneG g St) : St (nth (startL (netG g).places 0)) := by
  obtain ⟨I, P, hI, h00⟩ := h.piece
  have := h.start_is h.two.1
  rw [show ((0 : Nat) : Int) = 0 from rfl] at this
  rw [this]; exact P.start

/-- No place ever has more than one token. -/
theorem OneG.safe (h : OneG g St) {x : List Int} (hr : ReachZ (netG g) (startL (netG g).places 0) x) (p : Nat) : nth x p ≤ 1 := by
  obtain ⟨I, P, hI, h00⟩ := h.piece
  exact (P.low _ p (h.kept h.begins hr)).2

theorem OneG.mark_eq (h : OneG g St) {x y : List Int} (hx : (x.length : Int) = (netG g).places) (hy : (y.length : Int) = (netG g).places) (e : nth x = nth y) : x = y :=
  eq_of_at (by omega) fun p => congrFun e p

theorem OneG.ends (h : OneG g St) {x : List Int} (hr : ReachZ (netG g) (startL (netG g).places 0) x) :
    ReachZ (netG g) x (startL (netG g).places 1) ∧ ¬ ExtraM (startL (netG g).places 1) x := by
  obtain ⟨I, P, hI, h00⟩ := h.piece
  have hs := h.kept h.begins hr
  have hl := hr.length h.netOk (h.start_len 0)
  have e1 := h.start_is h.two.2
  rw [show ((1 : Nat) : Int) = 1 from rfl] at e1
  constructor
  · obtain ⟨y, h1, h2⟩ := h.reach hs (P.ends _ hs)
    have : y = startL (netG g).places 1 := h.mark_eq (h1.length h.netOk hl) (h.start_len 1) (by rw [h2, e1])
    rw [← this]; exact h1
  · rintro ⟨hc, hne⟩
    have h2 := (coversL_iff _ _).1 hc 1
    rw [e1, tok_one, if_pos rfl] at h2
    have h3 : nth x = tok [1] := P.toCore.single hs h2
    exact hne (h.mark_eq hl (h.start_len 1) (by rw [h3, e1]))

theorem OneG.can (h : OneG g St) {t : Nat} (ht : t < (netG g).trans.length) : ∃ x, ReachZ (netG g) (startL (netG g).places 0) x ∧ ∀ p, nth (tranAt (netG g).trans t).pre p ≤ nth x p := by
  obtain ⟨I, P, hI, h00⟩ := h.piece
  rw [net_count] at ht
  have e0 := h.start_is h.two.1
  rw [show ((0 : Nat) : Int) = 0 from rfl] at e0
  obtain ⟨m, h1, h2⟩ := P.alive _ (List.getElem_mem ht)
  obtain ⟨y, h3, h4⟩ := h.reach (x := startL (netG g).places 0) h.begins (by rw [e0]; exact h1)
  refine ⟨y, h3, fun p => ?_⟩
  rw [pre_at h.ins ht, h4]
  by_cases q : p ∈ g.links[t].src
  · rw [tok_mem q]; exact h2 p q
  · rw [tok_not q]
    have := (P.low _ p (h.kept h.begins h3)).1
    rw [h4] at this; exact this

theorem way_z (h : InG g) {a b : Nat} (hw : WayF g.links a b) : WayP (netG g) a b := by
  refine hw (fun x => WayP (netG g) a x) (WayP.here _ _) fun x y l hx hl h1 h2 => ?_
  obtain ⟨t, ht, rfl⟩ := List.getElem_of_mem hl
  exact hx.step (k := t) (by rw [net_count]; exact ht) (by rw [pre_at h ht, tok_mem h1]; decide) (by rw [post_at h ht, tok_mem h2]; decide)
theorem turned_at (h : InG g) {k : Nat} (hk : k < g.links.length) (r : Nat) : nth (tranAt (turnL (netG g)).trans k).pre r = tok g.links[k].dst r ∧ nth (tranAt (turnL (netG g)).trans k).post r = tok g.links[k].src r := by
  rw [turn_tran _ (by rw [net_count]; exact hk)]
  exact ⟨post_at h hk r, pre_at h hk r⟩
theorem way_back (h : InG g) {a b : Nat} (hw : WayF g.links a b) : WayP (turnL (netG g)) b a := by
  have key : ∀ z, WayP (turnL (netG g)) b z → WayF g.links a z → WayP (turnL (netG g)) b a := by
    intro z hz hw
    refine hw (fun x => WayP (turnL (netG g)) b x → WayP (turnL (netG g)) b a) (fun q => q) (fun x y l hx hl h1 h2 q => hx ?_) hz
    obtain ⟨t, ht, rfl⟩ := List.getElem_of_mem hl
    exact q.step (k := t) (by rw [turn_count, net_count]; exact ht) (by rw [(turned_at h ht _).1, tok_mem h2]; decide) (by rw [(turned_at h ht _).2, tok_mem h1]; decide)
  exact key b (WayP.here _ _) hw

/-- It has a beginning and an end. -/
theorem OneG.shape (h : OneG g St) : ShapeOk (netG g) 0 1 := by
  obtain ⟨I, P, hI, h00⟩ := h.piece
  have hp1 : ∀ p, p < g.places → WayF g.links 0 p := by
    intro p hp
    rcases (hI p).1 hp with a | a | a
    · obtain ⟨s, hs, hw⟩ := P.way1 p (.inl a); simp at hs; subst hs; exact hw
    · subst a; exact WayF.here _ _
    · obtain ⟨s, hs, hw⟩ := P.way1 p (.inr (by simp [a])); simp at hs; subst hs; exact hw
  have hp2 : ∀ p, p < g.places → WayF g.links p 1 := by
    intro p hp
    rcases (hI p).1 hp with a | a | a
    · obtain ⟨s, hs, hw⟩ := P.way2 p (.inl a); simp at hs; subst hs; exact hw
    · obtain ⟨s, hs, hw⟩ := P.way2 p (.inr (by simp [a])); simp at hs; subst hs; exact hw
    · subst a; exact WayF.here _ _
  have htwo := h.two
  refine ⟨h.netOk, by decide, by decide, by simp only [netG]; omega, by decide, by simp only [netG]; omega, ?_, ?_, ?_, ?_, ?_, ?_⟩
  · intro p hp
    simp only [netG] at hp
    exact way_z h.ins (hp1 p (by omega))
  · intro p hp
    simp only [netG] at hp
    exact way_back h.ins (hp2 p (by omega))
  · intro k hk
    rw [net_count] at hk
    obtain ⟨r, hr⟩ := mem_ne_nil (P.some1 _ (List.getElem_mem hk))
    exact ⟨r, way_z h.ins (hp1 r ((h.ins _ (List.getElem_mem hk)).1 r hr)), by rw [pre_at h.ins hk, tok_mem hr]; decide⟩
  · intro k hk
    rw [net_count] at hk
    obtain ⟨r, hr⟩ := mem_ne_nil (P.some2 _ (List.getElem_mem hk))
    exact ⟨r, way_back h.ins (hp2 r ((h.ins _ (List.getElem_mem hk)).2 r hr)), by rw [(turned_at h.ins hk _).1, tok_mem hr]; decide⟩
  · intro k hk
    rw [net_count] at hk
    show nth _ 0 = 0
    rw [post_at h.ins hk, tok_not]
    intro hr
    rcases P.in2' _ _ (List.getElem_mem hk) hr with a | a
    · exact h00 a
    · simp at a
  · intro k hk
    rw [net_count] at hk
    show nth _ 1 = 0
    rw [pre_at h.ins hk, tok_not]
    intro hr
    rcases P.in1' _ _ (List.getElem_mem hk) hr with a | a
    · exact (P.apart 1 (by simp)).1 a
    · simp at a

/-- It is sound. -/
theorem OneG.sound (h : OneG g St) {most : Int} {s : SpaceL} (hg : graphL (netG g) (startL (netG g).places 0) most = (s, 0)) : SaysV (netG g) (startL (netG g).places 1) s ⟨1, [], 0⟩ := by
  have W := graphL_whole hg
  have hr : ∀ j, j < s.marks.length → ReachZ (netG g) (startL (netG g).places 0) (markAt s.marks j) := by
    obtain ⟨_, _, _, _, F⟩ := graphL_ok hg
    exact F.reachZ
  refine says_sound (fun j hj => (h.ends (hr j hj)).2) (fun j hj => (h.ends (hr j hj)).1) (up_none fun t ht => ?_)
  obtain ⟨h0, h1, h2⟩ := mem_dead.1 ht
  obtain ⟨k, rfl⟩ := Int.eq_ofNat_of_zero_le h0
  have hk : k < (netG g).trans.length := by omega
  obtain ⟨x, h3, h4⟩ := h.can hk
  obtain ⟨f, hf, rfl⟩ := W.has h3
  obtain ⟨a, ha, e, _⟩ := W.has_arc hf hk h4
  exact h2 a ha e

theorem OneG.free (h : OneG g St) {i j : Nat} (hi : i < g.links.length) (hj : j < g.links.length) {p : Nat} (h1 : 0 < nth (tranAt (netG g).trans i).pre p) (h2 : 0 < nth (tranAt (netG g).trans j).pre p) : (tranAt (netG g).trans i).pre = (tranAt (netG g).trans j).pre := by
  obtain ⟨I, P, hI, h00⟩ := h.piece
  rw [pre_at h.ins hi] at h1
  rw [pre_at h.ins hj] at h2
  rw [net_tran_at hi, net_tran_at hj]
  simp only [tranG]
  rw [P.same _ _ p (List.getElem_mem hi) (List.getElem_mem hj) (tok_pos (by omega)) (tok_pos (by omega))]

end

theorem grown_one {b : BlockL} (h : RightB b) (hf : FitG (grownB b)) : ∃ St, OneG (grownB b) St := by
  obtain ⟨c, St, e, hn, P⟩ := grown_piece h
  refine ⟨St, ⟨_, P, fun r => ?_, ?_⟩, hf⟩
  · rw [e]; simp only [Span]; omega
  · simp only [Span]; omega

end Go.Proofs.Ytfgimobmaahmmaa
