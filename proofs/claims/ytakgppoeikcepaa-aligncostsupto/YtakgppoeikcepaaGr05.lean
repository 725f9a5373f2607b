import Derived.Test.YtakgppoeikcepaaGr04
import Derived.Test.YtakgppoeikcepaaGr02
import Derived.Test.YtakgppoeikcepaaGr00
/- Package net, as it landed: what is wrong, and which marks fit. -/
namespace Go.Proofs.Ytakgppoeikcepaa
open Go.RowKit
set_option linter.unusedVariables false
set_option maxRecDepth 4000

set_option maxHeartbeats 400000 in
theorem upTo_any (x y : Int) (w : World) :
    Calls Try.prog 42 #[.int .i64 x, .int .i64 y] w fun e w' => e = .returned (.bool (decide (0 ≤ x) && decide (x ≤ y))) ∧ w' = w := by
  by_cases h1 : 0 ≤ x <;> by_cases h2 : x ≤ y <;>
  · go_enter Try.func42, Try.ntmps42
    go_wp2
    go_ret
    exact ⟨by simp [h1, h2], rfl⟩

/-- What a transition may take or put. -/
def weighs (n : NetL) (xs : List Int) : Bool := ((xs.length : Int) == n.places) && xs.all weightOk

set_option maxHeartbeats 400000 in
theorem weights_any (v u : Value) (n : NetL) (xs : List Int) (w : World) (hv : Net w v n) (hu : Ints w u xs) :
    Calls Try.prog 43 #[v, u] w fun e w' => e = .returned (.bool (weighs n xs)) ∧ Below w.heap.size w w' := by
  obtain ⟨tv, rfl, hT⟩ := hv
  have b1 := below_new w (.cells #[.int .i64 n.places, tv] 24)
  have hu1 := hu.below b1
  have hbx := box2_new w (.int .i64 n.places) tv 24
  clear hT hu
  obtain ⟨a, len, cap, rfl, hlen, hmx, hsh, hr⟩ := hu1
  obtain ⟨x0, x1, x2⟩ := hbx
  cases hl : ((len : Int) == n.places)
  · have hl' : ((len : Int) != n.places) = true := by simpa using hl
    have F : Hid (weighs n xs = false) := by show _ = _; unfold weighs; rw [hlen, hl]; rfl
    clear hl
    go_enter Try.func43, Try.ntmps43
    go_wp2
    go_ret
    exact ⟨ret_bool F.out.symm, b1⟩
  · have hl' : ((len : Int) != n.places) = false := by simpa using hl
    have F : Hid (weighs n xs = xs.all weightOk) := by show _ = _; unfold weighs; rw [hlen, hl]; rfl
    clear hl
    go_enter Try.func43, Try.ntmps43
    go_wp2_with fail
    clear x0 x1 x2
    go_loop [14] (fun i => ∃ j : Nat, j ≤ len ∧ i = .int .i64 j ∧ Hid (weighTo xs j = true)) (fun i => len - (intOf i).toNat)
    case atStart => exact ⟨0, Nat.zero_le _, rfl, rfl⟩
    case round =>
      obtain ⟨j, hj, rfl, hw⟩ := hrel
      by_cases hjn : j < len
      · obtain ⟨b, off, rfl, hb, hc⟩ := hr j (by omega)
        have Hst : Hid _ := weighTo_succ xs j (by omega)
        have Hno : Hid (weightOk (nth xs j) = false → weighs n xs = false) := by
          intro h
          rw [F.out, List.all_eq_false]
          refine ⟨xs[j]'(by omega), List.getElem_mem _, ?_⟩
          have e : nth xs j = xs[j]'(by omega) := by simp [nth, List.getD, List.getElem?_eq_getElem (show j < xs.length by omega)]
          rw [← e, h]; simp
        clear hr
        go_wp2_with fail
        refine (upTo_any _ _ _).mono ?_
        rintro e w2 ⟨rfl, rfl⟩
        have Hwo : Hid ((decide (0 ≤ nth xs j) && decide (nth xs j ≤ 9)) = weightOk (nth xs j)) := rfl
        rw [Hwo.out]
        cases hk : weightOk (nth xs j)
        · have F2 : Hid _ := Hno.out hk
          clear Hno hk Hst
          go_wp2
          go_ret
          exact ⟨ret_bool F2.out.symm, b1⟩
        · have F2 : Hid (weighTo xs (j + 1) = true) := by show _ = _; rw [Hst.out, hw.out, hk]; rfl
          clear Hno hk Hst
          go_wp2
          go_round
          case rel => exact ⟨j + 1, by omega, by go_num, F2⟩
          case measure => simp [intOf]; omega
      · have F2 : Hid (weighs n xs = true) := by show _ = _; rw [F.out, ← weighTo_all xs j (by omega)]; exact hw.out
        go_wp2
        go_ret
        exact ⟨ret_bool F2.out.symm, b1⟩

theorem tranOk_weighs (n : NetL) (t : TranL) : tranOk n.places t = ((decide (0 ≤ t.label) && decide (t.label ≤ 26)) && weighs n t.pre && weighs n t.post) := by
  unfold tranOk tranHead weighs
  rw [List.all_append]
  cases decide (0 ≤ t.label) <;> cases decide (t.label ≤ 26) <;> cases ((t.pre.length : Int) == n.places) <;> cases ((t.post.length : Int) == n.places) <;> cases t.pre.all weightOk <;> cases t.post.all weightOk <;> rfl

theorem netOk_false_at {n : NetL} {k : Nat} (hk : k < n.trans.length) (h : tranOk n.places (tranAt n.trans k) = false) : netOk n = false := by
  unfold netOk
  rw [Bool.and_eq_false_iff]
  right
  rw [List.all_eq_false]
  refine ⟨n.trans[k], List.getElem_mem _, ?_⟩
  have e : tranAt n.trans k = n.trans[k] := by simp [tranAt, List.getD, List.getElem?_eq_getElem hk]
  rw [← e, h]; simp

set_option maxHeartbeats 1000000 in
theorem wrong_any (v : Value) (n : NetL) (w : World) (hv : Net w v n) :
    Calls Try.prog 26 #[v] w fun e w' => e = .returned (.int .i64 (wrongL n)) ∧ Below w.heap.size w w' := by
  obtain ⟨tv, rfl, hT⟩ := hv
  have b1 := below_new w (.cells #[.int .i64 n.places, tv] 24)
  have hbx := box2_new w (.int .i64 n.places) tv 24
  replace hT := hT.below b1
  obtain ⟨w0, Hw0⟩ : ∃ w0, Hid (w.alloc (.cells #[.int .i64 n.places, tv] 24) = w0) := ⟨_, rfl⟩
  rw [Hw0.out] at b1 hbx hT
  obtain ⟨a, len, cap, rfl, hlen, hmx, hsh, hr⟩ := id hT
  clear hr
  obtain ⟨x0, x1, x2⟩ := id hbx
  go_enter Try.func26, Try.ntmps26
  go_upto_region 1 with fail
  rw [Hw0.out]
  clear Hw0
  go_wp2_with fail
  refine (upTo_any _ _ _).mono ?_
  rintro e w2 ⟨rfl, rfl⟩
  cases hA : (decide (0 ≤ n.places) && decide (n.places ≤ 16))
  · have F : Hid (wrongL n = 2) := by show _ = _; simp only [wrongL, netOk, headOk, hA]; rfl
    clear hA
    go_wp2
    go_ret
    exact ⟨ret_int F.out.symm, b1⟩
  by_cases hB : len ≤ 24
  case neg =>
    have F : Hid (wrongL n = 2) := by show _ = _; simp only [wrongL, netOk, headOk, hA, hlen, decide_eq_false hB]; rfl
    clear hA
    go_wp2
    go_ret
    exact ⟨ret_int F.out.symm, b1⟩
  have F0 : Hid (okTo n 0 = true) := by show _ = _; simp only [okTo, headOk, hA, hlen, decide_eq_true hB]; rfl
  clear hA
  go_wp2_with fail
  go_loopg [18] len (fun g i wr => ∃ k : Nat, k + g = len ∧ i = .int .i64 k ∧ Hid (okTo n k = true) ∧ Below w2.heap.size w2 wr)
  case atStart => exact ⟨0, by omega, rfl, F0, Below.refl _ _⟩
  case round =>
    clear x0 x1 x2 F0
    obtain ⟨k, hkg, rfl, hok, hb⟩ := hrel
    have c := below_then b1 hb
    by_cases hkn : k < len
    · obtain ⟨b, off, c1, c2, rfl, hblt, h0, h1, h2, i1, i2⟩ := (hT.below hb).at hkn
      obtain ⟨x0, x1, x2⟩ := hbx.below hb
      have hv2 : Net wr (.agg #[.int .i64 n.places, .slice (some ⟨b, off, none⟩) len cap]) n := ⟨_, rfl, hT.below hb⟩
      obtain ⟨a1, l1, p1, rfl, _, _, _, _⟩ := id i1
      obtain ⟨a2, l2, p2, rfl, _, _, _, _⟩ := id i2
      have Hok : Hid _ := okTo_succ n k (by omega)
      have Hno : Hid (tranOk n.places (tranAt n.trans k) = false → wrongL n = 2) := fun h => wrongL_not (netOk_false_at (by omega) h)
      have Hto : Hid _ := tranOk_weighs n (tranAt n.trans k)
      have b2 := below_new wr (.cells #[.int .i64 (tranAt n.trans k).label, .slice a1 l1 p1, .slice a2 l2 p2] 37)
      generalize tranAt n.trans k = t at *
      replace hv2 := hv2.below b2
      replace i1 := i1.below b2
      replace i2 := i2.below b2
      go_wp2_with fail
      refine (upTo_any _ _ _).mono ?_
      rintro e w3 ⟨rfl, rfl⟩
      cases hA : (decide (0 ≤ t.label) && decide (t.label ≤ 26))
      · have F : Hid (wrongL n = 2) := Hno.out (by rw [Hto.out, hA]; rfl)
        clear Hno Hto Hok hA
        go_wp2
        go_ret
        exact ⟨ret_int F.out.symm, below_then c b2⟩
      go_wp2_with fail
      refine (weights_any _ _ n t.pre _ (by exact hv2) (by exact i1)).mono ?_
      rintro e w3 ⟨rfl, b3⟩
      cases hB : weighs n t.pre
      · have F : Hid (wrongL n = 2) := Hno.out (by rw [Hto.out, hA, hB]; rfl)
        clear Hno Hto Hok hA
        go_wp2
        go_ret
        exact ⟨ret_int F.out.symm, below_then c (below_then b2 b3)⟩
      have y0 : wr.heap.size < (wr.alloc (.cells #[.int .i64 t.label, .slice a1 l1 p1, .slice a2 l2 p2] 37)).heap.size := by simp
      have y2 : w3.cell? ⟨wr.heap.size, 2, none⟩ = some (.slice a2 l2 p2) := by rw [b3.cell (p := ⟨wr.heap.size, 2, none⟩) y0, World.cell?_alloc_at _ _ _ _ rfl]; rfl
      obtain ⟨z0, z1, z2⟩ := (hbx.below hb).below (below_then b2 b3)
      replace hv2 := hv2.below b3
      replace i2 := i2.below b3
      have b4 := below_then b2 b3
      clear b2 b3 x0 x1 x2 h0 h1 h2 i1 y0
      go_wp2_with fail
      refine (weights_any _ _ n t.post _ (by exact hv2) (by exact i2)).mono ?_
      rintro e w4 ⟨rfl, b3⟩
      replace b4 := below_then b4 b3
      clear y2 z0 z1 z2 hv2 i2 b3
      cases hC : weighs n t.post
      · have F : Hid (wrongL n = 2) := Hno.out (by rw [Hto.out, hA, hB, hC]; rfl)
        clear Hno Hto Hok hA
        go_wp2
        go_ret
        exact ⟨ret_int F.out.symm, below_then c b4⟩
      · have F : Hid (okTo n (k + 1) = true) := by show _ = _; rw [Hok.out, Hto.out, hok.out, hA, hB, hC]; rfl
        have R := below_then hb b4
        clear Hno Hto Hok hA b4
        go_wp2
        go_roundg (gk - 1)
        case measure => omega
        case rel => exact ⟨k + 1, by omega, by go_num, F, R⟩
    · have F : Hid (wrongL n = 0) := by show _ = _; rw [okTo_all n k (by omega)] at hok; exact wrongL_ok hok.out
      go_wp2
      go_ret
      exact ⟨ret_int F.out.symm, c⟩

set_option maxHeartbeats 400000 in
theorem marks_any (v u : Value) (n : NetL) (m : List Int) (w : World) (hv : Net w v n) (hu : Ints w u m) :
    Calls Try.prog 23 #[v, u] w fun e w' => e = .returned (.bool (fitsL n m)) ∧ Below w.heap.size w w' := by
  obtain ⟨tv, rfl, hT⟩ := hv
  have b1 := below_new w (.cells #[.int .i64 n.places, tv] 24)
  have hbx := box2_new w (.int .i64 n.places) tv 24
  have hu1 := hu.below b1
  have hv1 : Net _ _ n := ⟨tv, rfl, hT.below b1⟩
  go_enter Try.func23, Try.ntmps23
  go_wp2_with fail
  refine (wrong_any _ n _ (by exact hv1)).mono ?_
  rintro e w1 ⟨rfl, b2⟩
  have b3 := below_then b1 b2
  have hu2 := hu1.below b2
  obtain ⟨hx0, hx1, hx2⟩ := hbx.below b2
  clear b1 b2 hbx hu1 hv1
  have hu3 := hu2
  obtain ⟨a, len, cap, rfl, hlen, hmx, hsh, hr⟩ := hu2
  clear hr
  cases h1 : netOk n
  · rw [wrongL_not h1]
    have F : Hid (fitsL n m = false) := by show _ = _; simp [fitsL, h1]
    clear h1
    go_wp2
    go_ret
    exact ⟨ret_bool F.out.symm, b3⟩
  · rw [wrongL_ok h1]
    cases h2 : ((len : Int) == n.places)
    · have F : Hid (fitsL n m = false) := by show _ = _; unfold fitsL; rw [hlen, h2]; simp
      clear h1
      go_wp2
      go_ret
      exact ⟨ret_bool F.out.symm, b3⟩
    · have F : Hid (fitsL n m = rightL m) := by show _ = _; unfold fitsL; rw [h1, hlen, h2]; simp
      clear h1
      go_wp2_with fail
      refine (right_any _ m _ hu3).mono ?_
      rintro e w' ⟨rfl, rfl⟩
      go_wp2
      go_ret
      exact ⟨ret_bool F.out.symm, b3⟩

end Go.Proofs.Ytakgppoeikcepaa

/- Plain words for what all marks of a net stay below. -/
namespace Go.Proofs.Ytakgppoeikcepaa
set_option linter.unusedVariables false
set_option maxRecDepth 4000

/-- Has a more than b? -1 is Many. -/
def moreL (a b : Int) : Bool := (b != -1) && ((a == -1) || decide (b < a))
theorem moreL_no {a b : Int} : moreL a b = false ↔ b = -1 ∨ (a ≠ -1 ∧ a ≤ b) := by
  unfold moreL
  rw [Bool.and_eq_false_iff, Bool.or_eq_false_iff, bne_eq_false_iff_eq, decide_eq_false_iff_not, beq_eq_false_iff_ne]
  omega
theorem moreL_yes {a b : Int} : moreL a b = true ↔ b ≠ -1 ∧ (a = -1 ∨ b < a) := by
  unfold moreL
  rw [Bool.and_eq_true, Bool.or_eq_true, bne_iff_ne, decide_eq_true_eq, beq_iff_eq]

def belowTo (a b : List Int) (k : Nat) : Bool := (List.range k).all fun p => !moreL (nth a p) (nth b p)
/-- Nowhere more. -/
def belowL (a b : List Int) : Bool := belowTo a b b.length
theorem belowTo_succ (a b : List Int) (k : Nat) : belowTo a b (k + 1) = (belowTo a b k && !moreL (nth a k) (nth b k)) := by
  simp [belowTo, List.range_succ]
theorem belowTo_iff (a b : List Int) (k : Nat) : belowTo a b k = true ↔ ∀ p, p < k → moreL (nth a p) (nth b p) = false := by
  simp [belowTo, List.all_eq_true]
theorem belowL_iff (a b : List Int) : belowL a b = true ↔ ∀ p, p < b.length → moreL (nth a p) (nth b p) = false := belowTo_iff a b b.length
theorem belowTo_no {a b : List Int} {k : Nat} (hk : k < b.length) (h : moreL (nth a k) (nth b k) = true) : belowL a b = false := by
  cases e : belowL a b
  · rfl
  · rw [(belowL_iff a b).1 e k hk] at h; cases h

def mapTo (k : Nat) (f : Nat → Int) : List Int := (List.range k).map f
theorem mapTo_succ (k : Nat) (f : Nat → Int) : mapTo (k + 1) f = mapTo k f ++ [f k] := by simp [mapTo, List.range_succ]
theorem mapTo_length (k : Nat) (f : Nat → Int) : (mapTo k f).length = k := by simp [mapTo]
theorem mapTo_nth (k : Nat) (f : Nat → Int) (p : Nat) (h : p < k) : nth (mapTo k f) p = f p := by simp [mapTo, nth, List.getD, h]

/-- What firing comes to. -/
def omAt (t : TranL) (m : List Int) (p : Nat) : Int := if nth m p = -1 then -1 else nth m p - nth t.pre p + nth t.post p
def omFire (t : TranL) (m : List Int) : List Int := mapTo m.length (omAt t m)

/-- Those places where x has more than y have Many, if y is below x. -/
def raiseAt (y x : List Int) (p : Nat) : Int := if moreL (nth x p) (nth y p) then -1 else nth x p
def raise1 (y x : List Int) : List Int := if belowL y x then mapTo x.length (raiseAt y x) else x
def raiseAll (mine : List (List Int)) (x : List Int) : List Int := mine.foldl (fun x y => raise1 y x) x
def raiseN (mine : List (List Int)) (x : List Int) : Nat → List Int
  | 0 => x
  | r + 1 => raiseAll mine (raiseN mine x r)

/-- As it was, but where it has Many. -/
def Raised (x z : List Int) : Prop := z.length = x.length ∧ ∀ p, nth z p = -1 ∨ nth z p = nth x p
theorem Raised.refl (x : List Int) : Raised x x := ⟨rfl, fun _ => .inr rfl⟩
theorem Raised.trans {x y z : List Int} (h : Raised x y) (k : Raised y z) : Raised x z := by
  refine ⟨k.1.trans h.1, fun p => ?_⟩
  rcases k.2 p with e | e
  · exact .inl e
  · rw [e]; exact h.2 p
theorem raise1_raised (y x : List Int) : Raised x (raise1 y x) := by
  unfold raise1
  split
  · refine ⟨mapTo_length _ _, fun p => ?_⟩
    by_cases hp : p < x.length
    · rw [mapTo_nth _ _ _ hp, raiseAt]
      split
      · exact .inl rfl
      · exact .inr rfl
    · rw [nth_past _ p (by rw [mapTo_length]; omega), nth_past x p (by omega)]; exact .inr rfl
  · exact Raised.refl x
theorem raiseAll_raised (mine : List (List Int)) : ∀ x, Raised x (raiseAll mine x) := by
  induction mine with
  | nil => exact fun x => Raised.refl x
  | cons y r ih => exact fun x => (raise1_raised y x).trans (ih (raise1 y x))
theorem raiseN_raised (mine : List (List Int)) (x : List Int) : ∀ r, Raised x (raiseN mine x r)
  | 0 => Raised.refl x
  | r + 1 => (raiseN_raised mine x r).trans (raiseAll_raised mine _)
/-- Where nothing has Many, it is as it was. -/
theorem Raised.same {x z : List Int} (h : Raised x z) (hz : ∀ p, nth z p ≠ -1) : z = x := eq_of_at h.1 fun p => by
  rcases h.2 p with e | e
  · exact absurd e (hz p)
  · exact e

/-- Where nobody is below with less somewhere, nothing is changed. -/
theorem raise_still {mine : List (List Int)} {x : List Int} (h : ∀ y ∈ mine, belowL y x = true → ∀ p, p < x.length → moreL (nth x p) (nth y p) = false) (r : Nat) : raiseN mine x r = x := by
  have h1 : ∀ y ∈ mine, raise1 y x = x := by
    intro y hy
    unfold raise1
    split
    · rename_i hb
      refine eq_of_at (mapTo_length _ _) fun p => ?_
      by_cases hp : p < x.length
      · rw [mapTo_nth _ _ _ hp, raiseAt, h y hy hb p hp]; rfl
      · rw [nth_past _ p (by rw [mapTo_length]; omega), nth_past x p (by omega)]
    · rfl
  have h2 : raiseAll mine x = x := by
    clear h
    unfold raiseAll
    induction mine with
    | nil => rfl
    | cons y l ih => rw [List.foldl_cons, h1 y (by simp)]; exact ih fun z hz => h1 z (by simp [hz])
  induction r with
  | zero => rfl
  | succ r ih => rw [raiseN, ih, h2]

/-- A knot, with the marks that it comes of. -/
structure KnotX where
  up : Int
  tran : Int
  mark : List Int
  line : List (List Int)

/-- A knot as it is answered. -/
structure KnotL where
  up : Int
  tran : Int
  mark : List Int

def KnotX.knot (x : KnotX) : KnotL := ⟨x.up, x.tran, x.mark⟩
def KnotX.mine (x : KnotX) : List (List Int) := x.line ++ [x.mark]
def noKnot : KnotX := ⟨0, 0, [], []⟩
def knotAt (s : List KnotX) (k : Nat) : KnotX := s.getD k noKnot
theorem knotAt_append {s r : List KnotX} {k : Nat} (h : k < s.length) : knotAt (s ++ r) k = knotAt s k := by
  rw [knotAt, knotAt, List.getD_eq_getElem?_getD, List.getD_eq_getElem?_getD, List.getElem?_append_left h]
theorem knotAt_last (s : List KnotX) (x : KnotX) : knotAt (s ++ [x]) s.length = x := by
  rw [knotAt, List.getD_eq_getElem?_getD, List.getElem?_append_right (Nat.le_refl _)]; simp
theorem knotAt_get {s : List KnotX} {k : Nat} (h : k < s.length) : knotAt s k = s[k] := by
  rw [knotAt, List.getD_eq_getElem?_getD, List.getElem?_eq_getElem h]; rfl

/-- What comes of a knot by a transition. -/
def kid (n : NetL) (k t : Nat) (x : KnotX) : KnotX := ⟨k, t, raiseN x.mine (omFire (tranAt n.trans t) x.mark) (n.places.toNat + 1), x.mine⟩
def growT (n : NetL) (most k : Nat) (s : List KnotX) (t : Nat) : Option (List KnotX) :=
  if belowL (tranAt n.trans t).pre (knotAt s k).mark then (if most ≤ s.length then none else some (s ++ [kid n k t (knotAt s k)])) else some s
def growTo (n : NetL) (most k : Nat) (s : List KnotX) : Nat → Option (List KnotX)
  | 0 => some s
  | t + 1 => (growTo n most k s t).bind fun s' => growT n most k s' t
def seenK (x : KnotX) : Bool := x.line.contains x.mark
def rootK (m : List Int) : KnotX := ⟨-1, -1, m, []⟩
/-- The first k knots are done. -/
def treeTo (n : NetL) (m : List Int) (most : Nat) : Nat → Option (List KnotX)
  | 0 => some [rootK m]
  | k + 1 => (treeTo n m most k).bind fun s => if k < s.length then (if seenK (knotAt s k) then some s else growTo n most k s n.trans.length) else some s

def treeL (n : NetL) (m : List Int) (most : Int) : List KnotL × Int :=
  if graphOk n m most then
    match treeTo n m most.toNat most.toNat with
    | some s => (s.map KnotX.knot, 0)
    | none => ([], 4)
  else ([], 2)

/-- The most at a place. -/
def topL (p : Nat) (l : List KnotL) (x : Int) : Int := l.foldl (fun x k => if moreL (nth k.mark p) x then nth k.mark p else x) x
def limitL (n : NetL) (m : List Int) (p most : Int) : Int × Int :=
  if (treeL n m most).2 == 0 then (if decide (0 ≤ p) && decide (p < n.places) then (topL p.toNat (treeL n m most).1 0, 0) else (0, 3)) else (0, (treeL n m most).2)

/-- What holds while knots come: k knots are done, and t transitions of knot k. -/
structure Grown (n : NetL) (m : List Int) (most k t : Nat) (s : List KnotX) : Prop where
  most_le : s.length ≤ most
  pos : 0 < s.length
  first : knotAt s 0 = rootK m
  child : ∀ j, 0 < j → j < s.length → ∃ u t', u < j ∧ t' < n.trans.length ∧ belowL (tranAt n.trans t').pre (knotAt s u).mark = true ∧ knotAt s j = kid n u t' (knotAt s u)
  whole : ∀ f j, f < s.length → j < n.trans.length → (f < k ∨ f = k ∧ j < t) → seenK (knotAt s f) = true ∨ belowL (tranAt n.trans j).pre (knotAt s f).mark = false ∨ ∃ g, g < s.length ∧ knotAt s g = kid n f j (knotAt s f)

theorem Grown.start {n : NetL} {m : List Int} {most : Nat} (hm : 1 ≤ most) : Grown n m most 0 0 [rootK m] where
  most_le := hm
  pos := Nat.one_pos
  first := rfl
  child := by intro j h1 h2; simp at h2; omega
  whole := by intro f j h1 h2 h3; omega

theorem Grown.step {n : NetL} {m : List Int} {most k t : Nat} {s s' : List KnotX} (h : Grown n m most k t s) (hk : k < s.length) (ht : t < n.trans.length) (e : growT n most k s t = some s') :
    Grown n m most k (t + 1) s' ∧ s.length ≤ s'.length ∧ ∀ j, j < s.length → knotAt s' j = knotAt s j := by
  unfold growT at e
  split at e
  · rename_i hb
    split at e
    · cases e
    · rename_i hl
      injection e with e
      subst e
      have hlen : (s ++ [kid n k t (knotAt s k)]).length = s.length + 1 := by simp
      refine ⟨⟨by omega, by omega, by rw [knotAt_append h.pos]; exact h.first, ?_, ?_⟩, by omega, fun j hj => knotAt_append hj⟩
      · intro j h1 h2
        by_cases hj : j < s.length
        · obtain ⟨u, t', q1, q2, q3, q4⟩ := h.child j h1 hj
          exact ⟨u, t', q1, q2, by rw [knotAt_append (by omega)]; exact q3, by rw [knotAt_append hj, knotAt_append (by omega)]; exact q4⟩
        · have e : j = s.length := by omega
          subst e
          exact ⟨k, t, hk, ht, by rw [knotAt_append hk]; exact hb, by rw [knotAt_last, knotAt_append hk]⟩
      · intro f j h1 h2 h3
        have hf : f < s.length := by omega
        rw [knotAt_append hf]
        by_cases hn : f = k ∧ j = t
        · obtain ⟨rfl, rfl⟩ := hn
          exact .inr (.inr ⟨s.length, by omega, by rw [knotAt_last]⟩)
        · rcases h.whole f j hf h2 (by omega) with q | q | ⟨g, q1, q2⟩
          · exact .inl q
          · exact .inr (.inl q)
          · exact .inr (.inr ⟨g, by omega, by rw [knotAt_append q1]; exact q2⟩)
  · rename_i hb
    injection e with e
    subst e
    refine ⟨⟨h.most_le, h.pos, h.first, h.child, ?_⟩, Nat.le_refl _, fun j _ => rfl⟩
    intro f j h1 h2 h3
    by_cases hn : f = k ∧ j = t
    · obtain ⟨rfl, rfl⟩ := hn
      exact .inr (.inl (by simpa using hb))
    · exact h.whole f j h1 h2 (by omega)

theorem growTo_grown {n : NetL} {m : List Int} {most k : Nat} {s : List KnotX} (h : Grown n m most k 0 s) (hk : k < s.length) : ∀ (t : Nat) {s' : List KnotX}, t ≤ n.trans.length → growTo n most k s t = some s' →
    Grown n m most k t s' ∧ s.length ≤ s'.length ∧ ∀ j, j < s.length → knotAt s' j = knotAt s j
  | 0, s', _, e => by rw [growTo] at e; injection e with e; subst e; exact ⟨h, Nat.le_refl _, fun _ _ => rfl⟩
  | t + 1, s', ht, e => by
    rw [growTo] at e
    cases e1 : growTo n most k s t with
    | none => rw [e1] at e; cases e
    | some s1 =>
      rw [e1] at e
      obtain ⟨g1, l1, k1⟩ := growTo_grown h hk t (by omega) e1
      obtain ⟨g2, l2, k2⟩ := g1.step (Nat.lt_of_lt_of_le hk l1) (by omega) e
      exact ⟨g2, Nat.le_trans l1 l2, fun j hj => (k2 j (Nat.lt_of_lt_of_le hj l1)).trans (k1 j hj)⟩

theorem treeTo_grown {n : NetL} {m : List Int} {most : Nat} (hm : 1 ≤ most) : ∀ (k : Nat) {s : List KnotX}, treeTo n m most k = some s → Grown n m most k 0 s
  | 0, s, e => by rw [treeTo] at e; injection e with e; subst e; exact Grown.start hm
  | k + 1, s, e => by
    rw [treeTo] at e
    cases e1 : treeTo n m most k with
    | none => rw [e1] at e; cases e
    | some s1 =>
      have g1 := treeTo_grown hm k e1
      rw [e1] at e
      simp only [Option.bind_some] at e
      split at e
      · rename_i hk
        split at e
        · rename_i hs
          injection e with e
          subst e
          refine ⟨g1.most_le, g1.pos, g1.first, g1.child, ?_⟩
          intro f j h1 h2 h3
          by_cases hf : f = k
          · subst hf; exact .inl hs
          · exact g1.whole f j h1 h2 (by omega)
        · obtain ⟨g2, _, _⟩ := growTo_grown g1 hk _ (Nat.le_refl _) e
          exact ⟨g2.most_le, g2.pos, g2.first, g2.child, fun f j h1 h2 h3 => g2.whole f j h1 h2 (by omega)⟩
      · rename_i hk
        injection e with e
        subst e
        exact ⟨g1.most_le, g1.pos, g1.first, g1.child, fun f j h1 h2 h3 => g1.whole f j h1 h2 (by omega)⟩

/-- A tree that is whole. -/
structure TreeOk (n : NetL) (m : List Int) (s : List KnotX) : Prop where
  room : s.length ≤ 300
  fits : fitsL n m = true
  pos : 0 < s.length
  first : knotAt s 0 = rootK m
  child : ∀ j, 0 < j → j < s.length → ∃ u t', u < j ∧ t' < n.trans.length ∧ belowL (tranAt n.trans t').pre (knotAt s u).mark = true ∧ knotAt s j = kid n u t' (knotAt s u)
  whole : ∀ f j, f < s.length → j < n.trans.length → seenK (knotAt s f) = true ∨ belowL (tranAt n.trans j).pre (knotAt s f).mark = false ∨ ∃ g, g < s.length ∧ knotAt s g = kid n f j (knotAt s f)

theorem treeL_ok {n : NetL} {m : List Int} {most : Int} {l : List KnotL} (h : treeL n m most = (l, 0)) : ∃ s, l = s.map KnotX.knot ∧ TreeOk n m s := by
  unfold treeL at h
  split at h
  · rename_i hg
    simp only [graphOk, Bool.and_eq_true, decide_eq_true_eq] at hg
    split at h
    · rename_i s e
      simp only [Prod.mk.injEq, and_true] at h
      have g := treeTo_grown (by omega) _ e
      exact ⟨s, h.symm, by have := g.most_le; omega, hg.2, g.pos, g.first, g.child, fun f j h1 h2 => g.whole f j h1 h2 (.inl (by have := g.most_le; omega))⟩
    · simp at h
  · simp at h
theorem treeL_err {n : NetL} {m : List Int} {most : Int} (h : (treeL n m most).2 ≠ 0) : (treeL n m most).1 = [] := by
  unfold treeL at h ⊢
  split
  · rename_i hg
    rw [if_pos hg] at h
    split at h
    · simp at h
    · rfl
  · rfl
theorem treeL_code (n : NetL) (m : List Int) (most : Int) : (treeL n m most).2 = 0 ∨ (treeL n m most).2 = 2 ∨ (treeL n m most).2 = 4 := by
  unfold treeL
  split
  · split
    · exact .inl rfl
    · exact .inr (.inr rfl)
  · exact .inr (.inl rfl)

end Go.Proofs.Ytakgppoeikcepaa

/- Plain words for nets with a beginning and an end. -/
namespace Go.Proofs.Ytakgppoeikcepaa
set_option linter.unusedVariables false
set_option maxRecDepth 4000

/-- One token, at one place. -/
def startL (P i : Int) : List Int := mapTo (min P 16).toNat fun p => if (p : Int) = i then 1 else 0

theorem start_length (P i : Int) : (startL P i).length = (min P 16).toNat := mapTo_length _ _

theorem start_at (P i : Int) (p : Nat) (hp : p < (min P 16).toNat) : nth (startL P i) p = if (p : Int) = i then 1 else 0 := mapTo_nth _ _ _ hp

theorem start_bounds (P i : Int) (p : Nat) : 0 ≤ nth (startL P i) p ∧ nth (startL P i) p ≤ 1 := by
  by_cases hp : p < (min P 16).toNat
  · rw [start_at P i p hp]
    split <;> omega
  · rw [nth_past _ _ (by rw [start_length]; omega)]; omega

theorem start_right (P i : Int) : rightL (startL P i) = true := (rightL_iff _).2 fun j => by have := start_bounds P i j; omega

/-- Which places are behind a place. -/
def WayP (n : NetL) (f p : Nat) : Prop := ∀ Q : Nat → Prop, Q f → (∀ k a b, k < n.trans.length → Q a → nth (tranAt n.trans k).pre a ≠ 0 → nth (tranAt n.trans k).post b ≠ 0 → Q b) → Q p
/-- Which transitions are. -/
def WayT (n : NetL) (f k : Nat) : Prop := ∃ p, WayP n f p ∧ nth (tranAt n.trans k).pre p ≠ 0

theorem WayP.here (n : NetL) (f : Nat) : WayP n f f := fun Q h _ => h
theorem WayP.step {n : NetL} {f k a b : Nat} (h : WayP n f a) (hk : k < n.trans.length) (h1 : nth (tranAt n.trans k).pre a ≠ 0) (h2 : nth (tranAt n.trans k).post b ≠ 0) : WayP n f b :=
  fun Q q1 q2 => q2 k a b hk (h Q q1 q2) h1 h2

structure ShapeOk (n : NetL) (i o : Int) : Prop where
  ok : netOk n = true
  ne : i ≠ o
  i0 : 0 ≤ i
  i1 : i < n.places
  o0 : 0 ≤ o
  o1 : o < n.places
  p1 : ∀ p : Nat, (p : Int) < n.places → WayP n i.toNat p
  p2 : ∀ p : Nat, (p : Int) < n.places → WayP (turnL n) o.toNat p
  t1 : ∀ k, k < n.trans.length → WayT n i.toNat k
  t2 : ∀ k, k < n.trans.length → WayT (turnL n) o.toNat k
  put : ∀ k, k < n.trans.length → nth (tranAt n.trans k).post i.toNat = 0
  take : ∀ k, k < n.trans.length → nth (tranAt n.trans k).pre o.toNat = 0

/-- What is wrong. -/
structure Judged (n : NetL) (i o e : Int) : Prop where
  bad : netOk n = false → e = 2
  form : netOk n = true → ¬ ShapeOk n i o → e = 1
  right : ShapeOk n i o → e = 0

theorem Judged.unique {n : NetL} {i o e f : Int} (h : Judged n i o e) (k : Judged n i o f) : e = f := by
  cases hn : netOk n with
  | false => rw [h.bad hn, k.bad hn]
  | true =>
    by_cases hs : ShapeOk n i o
    · rw [h.right hs, k.right hs]
    · rw [h.form hn hs, k.form hn hs]

theorem Judged.of_bad {n : NetL} {i o : Int} (h : netOk n = false) : Judged n i o 2 := ⟨fun _ => rfl, fun q => (by rw [h] at q; cases q), fun q => (by have := q.ok; rw [h] at this; cases this)⟩
theorem Judged.of_form {n : NetL} {i o : Int} (h : netOk n = true) (hs : ¬ ShapeOk n i o) : Judged n i o 1 := ⟨fun q => (by rw [h] at q; cases q), fun _ _ => rfl, fun q => absurd q hs⟩
theorem Judged.of_right {n : NetL} {i o : Int} (hs : ShapeOk n i o) : Judged n i o 0 := ⟨fun q => (by have := hs.ok; rw [q] at this; cases this), fun _ q => absurd hs q, fun _ => rfl⟩
theorem Judged.zero {n : NetL} {i o : Int} (h : Judged n i o 0) : ShapeOk n i o := by
  cases hn : netOk n with
  | false => have := h.bad hn; omega
  | true =>
    by_cases hs : ShapeOk n i o
    · exact hs
    · have := h.form hn hs; omega
theorem Judged.not_zero {n : NetL} {i o e : Int} (h : Judged n i o e) (he : e ≠ 0) : ¬ ShapeOk n i o := fun hs => he (h.right hs)

theorem turn_back (n : NetL) : turnL (turnL n) = n := by
  unfold turnL
  simp only [List.map_map]
  cases n with
  | mk P ts =>
    congr 1
    have : (turnT ∘ turnT) = id := by funext t; exact turn_turn t
    rw [this, List.map_id]

theorem turn_ok_iff (n : NetL) : netOk (turnL n) = netOk n := by
  cases h : netOk n with
  | true => exact turn_ok n h
  | false =>
    cases h2 : netOk (turnL n) with
    | false => rfl
    | true =>
      have h3 := turn_ok _ h2
      rw [turn_back, h] at h3
      cases h3

theorem turn_count (n : NetL) : (turnL n).trans.length = n.trans.length := by simp [turnL]

theorem turn_tran (n : NetL) {k : Nat} (hk : k < n.trans.length) : tranAt (turnL n).trans k = turnT (tranAt n.trans k) := turn_at _ _ hk

/-- The other way round it has one, too. -/
theorem ShapeOk.turned {n : NetL} {i o : Int} (h : ShapeOk n i o) : ShapeOk (turnL n) o i where
  ok := by rw [turn_ok_iff]; exact h.ok
  ne := fun e => h.ne e.symm
  i0 := h.o0
  i1 := h.o1
  o0 := h.i0
  o1 := h.i1
  p1 := h.p2
  p2 := by rw [turn_back]; exact h.p1
  t1 := by rw [turn_count]; exact h.t2
  t2 := by rw [turn_back, turn_count]; exact h.t1
  put := by
    rw [turn_count]
    intro k hk
    rw [turn_tran n hk]
    exact h.take k hk
  take := by
    rw [turn_count]
    intro k hk
    rw [turn_tran n hk]
    exact h.put k hk

theorem Judged.turned {n : NetL} {i o e : Int} (h : Judged n i o e) : Judged (turnL n) o i e where
  bad := by rw [turn_ok_iff]; exact h.bad
  form := by
    rw [turn_ok_iff]
    exact fun q hs => h.form q fun k => hs k.turned
  right := fun hs => h.right (by have := hs.turned; rwa [turn_back] at this)

/-- With one more transition, from the end to the beginning. -/
def closeL (n : NetL) (i o : Int) : NetL := ⟨n.places, n.trans ++ [⟨0, startL n.places o, startL n.places i⟩]⟩

/-- What Close answers. -/
structure Closed (n : NetL) (i o : Int) (c : NetL) (e : Int) : Prop where
  right : ShapeOk n i o → n.trans.length < 24 → e = 0 ∧ c = closeL n i o
  full : ShapeOk n i o → ¬ n.trans.length < 24 → e = 4 ∧ c = ⟨0, []⟩
  bad : ¬ ShapeOk n i o → Judged n i o e ∧ c = ⟨0, []⟩

theorem Closed.unique {n c d : NetL} {i o e f : Int} (h : Closed n i o c e) (k : Closed n i o d f) : c = d ∧ e = f := by
  by_cases hs : ShapeOk n i o
  · by_cases hl : n.trans.length < 24
    · obtain ⟨h1, h2⟩ := h.right hs hl
      obtain ⟨k1, k2⟩ := k.right hs hl
      exact ⟨by rw [h2, k2], by rw [h1, k1]⟩
    · obtain ⟨h1, h2⟩ := h.full hs hl
      obtain ⟨k1, k2⟩ := k.full hs hl
      exact ⟨by rw [h2, k2], by rw [h1, k1]⟩
  · obtain ⟨h1, h2⟩ := h.bad hs
    obtain ⟨k1, k2⟩ := k.bad hs
    exact ⟨by rw [h2, k2], h1.unique k1⟩

theorem Closed.zero {n c : NetL} {i o : Int} (h : Closed n i o c 0) : ShapeOk n i o ∧ n.trans.length < 24 ∧ c = closeL n i o := by
  by_cases hs : ShapeOk n i o
  · by_cases hl : n.trans.length < 24
    · exact ⟨hs, hl, (h.right hs hl).2⟩
    · have := (h.full hs hl).1; omega
  · obtain ⟨h1, h2⟩ := h.bad hs
    exact absurd h1.zero hs

theorem Closed.none {n c : NetL} {i o e : Int} (h : Closed n i o c e) (he : e ≠ 0) : c = ⟨0, []⟩ := by
  by_cases hs : ShapeOk n i o
  · by_cases hl : n.trans.length < 24
    · exact absurd (h.right hs hl).1 he
    · exact (h.full hs hl).2
  · exact (h.bad hs).2

theorem head_of {n : NetL} (h : netOk n = true) : 0 ≤ n.places ∧ n.places ≤ 16 ∧ n.trans.length ≤ 24 := by
  simp only [netOk, headOk, Bool.and_eq_true, decide_eq_true_eq] at h
  exact ⟨h.1.1.1, h.1.1.2, h.1.2⟩

theorem start_len {n : NetL} (h : netOk n = true) (i : Int) : ((startL n.places i).length : Int) = n.places := by
  obtain ⟨h0, h1, _⟩ := head_of h
  rw [start_length]; omega

theorem start_fits {n : NetL} (h : netOk n = true) (i : Int) : fitsL n (startL n.places i) = true := fits_mk h (start_len h i) (start_right _ _)

theorem mem_nth {xs : List Int} {x : Int} (h : x ∈ xs) : ∃ j, j < xs.length ∧ nth xs j = x := by
  obtain ⟨j, hj, e⟩ := List.getElem_of_mem h
  exact ⟨j, hj, by simp [nth, List.getD, List.getElem?_eq_getElem hj, e]⟩

theorem start_tran {n : NetL} (h : netOk n = true) (i o : Int) : tranOk n.places ⟨0, startL n.places o, startL n.places i⟩ = true := by
  have l1 := start_len h o
  have l2 := start_len h i
  simp only [tranOk, tranHead, Bool.and_eq_true, beq_iff_eq, decide_eq_true_eq, List.all_eq_true, List.mem_append]
  refine ⟨⟨⟨⟨by omega, by omega⟩, l1⟩, l2⟩, ?_⟩
  rintro x (hx | hx)
  all_goals
    obtain ⟨j, _, rfl⟩ := mem_nth hx
    simp only [weightOk, Bool.and_eq_true, decide_eq_true_eq]
  · have := start_bounds n.places o j; omega
  · have := start_bounds n.places i j; omega

theorem close_ok {n : NetL} (h : netOk n = true) (hl : n.trans.length < 24) (i o : Int) : netOk (closeL n i o) = true := by
  obtain ⟨h0, h1, _⟩ := head_of h
  have hs := start_tran h i o
  simp only [netOk, Bool.and_eq_true] at h
  simp only [netOk, headOk, closeL, Bool.and_eq_true, List.length_append, List.length_cons, List.length_nil, List.all_append, List.all_cons, List.all_nil]
  exact ⟨⟨⟨decide_eq_true h0, decide_eq_true h1⟩, decide_eq_true (by omega)⟩, h.2, hs, trivial⟩

theorem close_count (n : NetL) (i o : Int) : (closeL n i o).trans.length = n.trans.length + 1 := by simp [closeL]

theorem close_at (n : NetL) (i o : Int) {k : Nat} (hk : k < n.trans.length) : tranAt (closeL n i o).trans k = tranAt n.trans k := by
  unfold closeL tranAt List.getD
  simp [List.getElem?_append, hk]

theorem close_last (n : NetL) (i o : Int) : tranAt (closeL n i o).trans n.trans.length = ⟨0, startL n.places o, startL n.places i⟩ := by
  unfold closeL tranAt List.getD
  simp

theorem close_fits {n : NetL} (h : netOk n = true) (hl : n.trans.length < 24) (i o : Int) (m : List Int) : fitsL (closeL n i o) m = fitsL n m := by
  unfold fitsL
  rw [close_ok h hl, h]
  rfl

theorem close_fire {n : NetL} (h : netOk n = true) (hl : n.trans.length < 24) (i o : Int) (m : List Int) {t : Int} (ht : t ≠ n.trans.length) : fireL (closeL n i o) m t = fireL n m t := by
  unfold fireL
  rw [close_fits h hl, close_count]
  have e : decide (t < ((n.trans.length + 1 : Nat) : Int)) = decide (t < (n.trans.length : Int)) := by rw [decide_eq_decide]; omega
  rw [e]
  by_cases q : 0 ≤ t ∧ t < n.trans.length
  · rw [close_at n i o (show t.toNat < n.trans.length by omega)]
  · have f : (decide (0 ≤ t) && decide (t < (n.trans.length : Int))) = false := by
      rw [Bool.and_eq_false_iff, decide_eq_false_iff_not, decide_eq_false_iff_not]
      omega
    rw [f]
    simp

theorem close_run {n : NetL} (h : netOk n = true) (hl : n.trans.length < 24) (i o : Int) (seq : List Int) : ∀ (m : List Int), (n.trans.length : Int) ∉ seq → runL (closeL n i o) m seq = runL n m seq := by
  induction seq with
  | nil => intro m _; unfold runL; rw [close_fits h hl]
  | cons t ts ih =>
    intro m hm
    simp only [List.mem_cons, not_or] at hm
    rw [runL_cons, runL_cons, close_fits h hl, close_fire h hl i o m (fun e => hm.1 e.symm), ih _ hm.2]

/-- From the end the beginning is come to by one firing. -/
theorem close_round {n : NetL} (h : netOk n = true) (hl : n.trans.length < 24) (i o : Int) : fireL (closeL n i o) (startL n.places o) (n.trans.length : Nat) = (startL n.places i, 0) := by
  have hk : n.trans.length < (closeL n i o).trans.length := by rw [close_count]; omega
  have e : addL (subL (startL n.places o) (startL n.places o)) (startL n.places i) = startL n.places i := by
    refine eq_of_at ?_ fun j => ?_
    · rw [add_length, sub_length]
      simp only [start_length]
      omega
    · rw [add_at, sub_at]; omega
  have hf : fitsL (closeL n i o) (startL n.places o) = true := by rw [close_fits h hl]; exact start_fits h o
  have := fire_mk hk hf (by rw [close_last]; exact covers_self _) (by rw [close_last]; simp only; rw [e]; exact start_right _ _)
  rw [this, close_last]
  simp only
  rw [e]

/-- What was closed has no beginning. -/
theorem close_form {n : NetL} {i o : Int} (hs : ShapeOk n i o) (hl : n.trans.length < 24) : ¬ ShapeOk (closeL n i o) i o := by
  intro q
  have h1 := q.put n.trans.length (by rw [close_count]; omega)
  rw [close_last] at h1
  simp only at h1
  obtain ⟨h0, h16, _⟩ := head_of hs.ok
  have := hs.i0
  have := hs.i1
  rw [start_at n.places i i.toNat (by omega), if_pos (by omega)] at h1
  omega

theorem close_same (n : NetL) (i o : Int) : (closeL n i o).trans.take n.trans.length = n.trans := by simp [closeL]

/-! ### at the end nothing goes on -/
theorem end_none {n : NetL} {i o : Int} (hs : ShapeOk n i o) : canTo n (startL n.places o) n.trans.length = [] := by
  rw [List.eq_nil_iff_forall_not_mem]
  intro t ht
  obtain ⟨k, rfl, hk, hc⟩ := (can_mem n _ _ _).1 ht
  obtain ⟨p, _, hp⟩ := hs.t1 k hk
  have hcp := (coversL_iff _ _).1 hc p
  have hpo : (p : Int) ≠ o := fun e => hp (by have := hs.take k hk; rw [← e, Int.toNat_natCast] at this; exact this)
  have hb := (okTok_nth (tran_right (net_tran hs.ok hk)).1 p).1
  have : nth (startL n.places o) p = 0 := by
    by_cases q : p < (min n.places 16).toNat
    · rw [start_at _ _ _ q, if_neg hpo]
    · exact nth_past _ _ (by rw [start_length]; omega)
  omega

/-- Nothing comes to the beginning again. -/
theorem run_low {n : NetL} {i o : Int} (hs : ShapeOk n i o) (seq : List Int) : ∀ {m x : List Int}, runL n m seq = (x, 0) → nth m i.toNat = 0 → nth x i.toNat = 0 := by
  induction seq with
  | nil => intro m x h h0; obtain ⟨_, rfl⟩ := run_nil.1 h; exact h0
  | cons t ts ih =>
    intro m x h h0
    obtain ⟨y, h1, h2⟩ := run_cons.1 h
    refine ih h2 ?_
    obtain ⟨k, rfl, hk, hf, hc, hr, rfl⟩ := fire_ok h1
    have h3 := (coversL_iff _ _).1 hc i.toNat
    have h4 := (okTok_nth (tran_right (net_tran hs.ok hk)).1 i.toNat).1
    rw [add_at, sub_at, hs.put k hk]
    omega

theorem run_gone {n : NetL} {i o : Int} (hs : ShapeOk n i o) {seq x : List Int} (h : runL n (startL n.places i) seq = (x, 0)) (h0 : seq ≠ []) : nth x i.toNat = 0 := by
  cases seq with
  | nil => exact absurd rfl h0
  | cons t ts =>
    obtain ⟨y, h1, h2⟩ := run_cons.1 h
    refine run_low hs ts h2 ?_
    obtain ⟨k, rfl, hk, hf, hc, hr, rfl⟩ := fire_ok h1
    obtain ⟨p, _, hp⟩ := hs.t1 k hk
    have hcp := (coversL_iff _ _).1 hc p
    have hb := (okTok_nth (tran_right (net_tran hs.ok hk)).1 p).1
    have hsb := start_bounds n.places i p
    have hpi : (p : Int) = i := by
      by_cases q : p < (min n.places 16).toNat
      · rw [start_at _ _ _ q] at hcp
        by_cases e : (p : Int) = i
        · exact e
        · rw [if_neg e] at hcp; omega
      · rw [nth_past (startL n.places i) p (by rw [start_length]; omega)] at hcp; omega
    have : i.toNat = p := by omega
    rw [add_at, sub_at, hs.put k hk, this]
    omega

end Go.Proofs.Ytakgppoeikcepaa

/- A box for a space that is made ahead of the space. -/
namespace Go.Proofs.Ytakgppoeikcepaa
open Go.RowKit
set_option linter.unusedVariables false
set_option maxRecDepth 4000

/-- A cell that holds an empty slice is none that a list of marks, each with something, is read from. -/
theorem ints_putNil {w : World} {v : Value} {xs : List Int} {p : Addr} (h : Ints w v xs) (hp : w.cell? p = some (.slice none 0 0)) (u : Value) : Ints (w.setCell p u) v xs := by
  obtain ⟨a, len, cap, e, hl, hm, hs, hr⟩ := h
  refine ⟨a, len, cap, e, hl, hm, hs, fun j hj => ?_⟩
  obtain ⟨b, off, ha, hb, hc⟩ := hr j hj
  refine ⟨b, off, ha, by simpa [World.setCell] using hb, ?_⟩
  rw [World.cell?_setCell_other _ _ _ _ (by intro e; rw [← e, hp] at hc; cases hc)]
  exact hc
theorem lists_putNil {w : World} {v : Value} {ls : List (List Int)} {p : Addr} (h : Lists w v ls) (hne : ∀ j, j < ls.length → markAt ls j ≠ []) (hp : w.cell? p = some (.slice none 0 0)) (u : Value) : Lists (w.setCell p u) v ls := by
  obtain ⟨a, len, cap, e, hl, hm, hs, hr⟩ := h
  refine ⟨a, len, cap, e, hl, hm, hs, fun j hj => ?_⟩
  obtain ⟨b, off, x, ha, hb, hc, hi⟩ := hr j hj
  refine ⟨b, off, x, ha, by simpa [World.setCell] using hb, ?_, ints_putNil hi hp u⟩
  rw [World.cell?_setCell_other _ _ _ _ ?_]
  · exact hc
  · intro e
    rw [← e, hp] at hc
    injection hc with hc
    subst hc
    obtain ⟨a', len', cap', e', hl', _⟩ := hi
    injection e' with _ e'
    exact hne j hj (List.length_eq_zero_iff.1 (by have : (ls.getD j []).length = len' := hl'; rw [← e'] at this; exact this))
theorem arcs_putNil {w : World} {v : Value} {l : List (Int × Int × Int)} {p : Addr} (h : Arcs w v l) (hp : w.cell? p = some (.slice none 0 0)) (u : Value) : Arcs (w.setCell p u) v l := by
  obtain ⟨a, len, cap, e, hl, hm, hs, hr⟩ := h
  refine ⟨a, len, cap, e, hl, hm, hs, fun j hj => ?_⟩
  obtain ⟨b, off, ha, hb, c0, c1, c2⟩ := hr j hj
  refine ⟨b, off, ha, by simpa [World.setCell] using hb, ?_, ?_, ?_⟩
  · rw [World.cell?_setCell_other _ _ _ _ (by intro e; rw [← e, hp] at c0; cases c0)]; exact c0
  · rw [World.cell?_setCell_other _ _ _ _ (by intro e; rw [← e, hp] at c1; cases c1)]; exact c1
  · rw [World.cell?_setCell_other _ _ _ _ (by intro e; rw [← e, hp] at c2; cases c2)]; exact c2
theorem space_putNil {w : World} {v : Value} {s : SpaceL} {p : Addr} (h : Space w v s) (hne : ∀ j, j < s.marks.length → markAt s.marks j ≠ []) (hp : w.cell? p = some (.slice none 0 0)) (u : Value) : Space (w.setCell p u) v s := by
  obtain ⟨mv, av, e, h1, h2⟩ := h
  exact ⟨mv, av, e, lists_putNil h1 hne hp u, arcs_putNil h2 hp u⟩

/-- A box for a space, made and still empty. -/
def NilBox (w : World) (b : Nat) : Prop := w.heap[b]? = some (.cells #[.slice none 0 0, .slice none 0 0] 49 (0, 0))
theorem NilBox.below {w w' : World} {b : Nat} (h : NilBox w b) (hb : Below w.heap.size w w') : NilBox w' b := by unfold NilBox at *; rw [hb.block b (Array.getElem?_eq_some_iff.1 h).1]; exact h
theorem nilBox_new (w : World) : NilBox (w.alloc (.cells #[.slice none 0 0, .slice none 0 0] 49)) w.heap.size := by
  show (w.heap.push _)[w.heap.size]? = _
  exact Array.getElem?_push_size
theorem NilBox.at {w : World} {b : Nat} (h : NilBox w b) : b < w.heap.size ∧ w.cell? ⟨b, 0, none⟩ = some (.slice none 0 0) ∧ w.cell? ⟨b, 1, none⟩ = some (.slice none 0 0) ∧ w.frozen? ⟨b, 0, none⟩ = false ∧ w.frozen? ⟨b, 1, none⟩ = false := by
  have h' := h
  unfold NilBox at h
  exact ⟨(Array.getElem?_eq_some_iff.1 h).1, by simp [World.cell?, h], by simp [World.cell?, h], by simp [World.frozen?, h], by simp [World.frozen?, h]⟩
theorem NilBox.fill {w : World} {b : Nat} {mv av : Value} {s : SpaceL} (h : NilBox w b) (hs : Space w (.agg #[mv, av]) s) (hne : ∀ j, j < s.marks.length → markAt s.marks j ≠ []) :
    Space ((w.setCell ⟨b, 0, none⟩ mv).setCell ⟨b, 1, none⟩ av) (.agg #[mv, av]) s ∧ Box2 ((w.setCell ⟨b, 0, none⟩ mv).setCell ⟨b, 1, none⟩ av) b mv av ∧ Below b w ((w.setCell ⟨b, 0, none⟩ mv).setCell ⟨b, 1, none⟩ av) := by
  obtain ⟨h0, h1, h2, _, _⟩ := h.at
  have e1 : (w.setCell ⟨b, 0, none⟩ mv).cell? ⟨b, 1, none⟩ = some (.slice none 0 0) := by rw [World.cell?_setCell_other _ _ _ _ (by simp)]; exact h2
  refine ⟨space_putNil (space_putNil hs hne h1 mv) hne e1 av, ⟨by simpa [World.setCell] using h0, ?_, World.cell?_setCell_same _ _ _ e1⟩, ((Below.refl _ _).setCell (p := ⟨b, 0, none⟩) (Nat.le_refl _) _).setCell (p := ⟨b, 1, none⟩) (Nat.le_refl _) _⟩
  rw [World.cell?_setCell_other _ _ _ _ (by simp)]
  exact World.cell?_setCell_same _ _ _ h1

theorem graph_full {n : NetL} {m : List Int} {most : Int} (hm : m ≠ []) : ∀ j, j < (graphL n m most).1.marks.length → markAt (graphL n m most).1.marks j ≠ [] := by
  intro j hj e
  by_cases h : (graphL n m most).2 = 0
  · obtain ⟨_, _, hf, _, hF⟩ := graphL_ok (s := (graphL n m most).1) (by rw [← h])
    have h1 := hF.fits _ (markAt_mem hj)
    have h2 := (fits_net h1).2.1
    have h3 := (fits_net hf).2.1
    rw [e] at h2
    have : (m.length : Int) = 0 := by rw [h3, ← h2]; rfl
    exact hm (List.length_eq_zero_iff.1 (by omega))
  · rw [graphL_err h] at hj
    simp at hj

end Go.Proofs.Ytakgppoeikcepaa

/- Stops of ways, plainly: where a way goes on, and what is met on ways from a stop. -/
namespace Go.Proofs.Ytakgppoeikcepaa
set_option linter.unusedVariables false
set_option maxRecDepth 4000

/-- A transition (true), or a place. -/
abbrev Stop := Bool × Nat

/-- A stop of a net. -/
def FitS (n : NetL) (s : Stop) : Prop := if s.1 then s.2 < n.trans.length else (s.2 : Int) < n.places

/-- Those below k that q tells of. -/
def somes (b : Bool) (q : Nat → Bool) (k : Nat) : List Stop := ((List.range k).filter q).map fun j => (b, j)
theorem somes_yes (b : Bool) (q : Nat → Bool) (k : Nat) (h : q k = true) : somes b q (k + 1) = somes b q k ++ [(b, k)] := by
  simp [somes, List.range_succ, List.filter_append, h]
theorem somes_no (b : Bool) (q : Nat → Bool) (k : Nat) (h : q k = false) : somes b q (k + 1) = somes b q k := by
  simp [somes, List.range_succ, List.filter_append, h]
theorem somes_le (b : Bool) (q : Nat → Bool) (k : Nat) : (somes b q k).length ≤ k := by
  simp only [somes, List.length_map]
  exact Nat.le_trans (List.length_filter_le _ _) (by simp)
theorem mem_somes {b : Bool} {q : Nat → Bool} {k : Nat} {s : Stop} : s ∈ somes b q k ↔ s.1 = b ∧ s.2 < k ∧ q s.2 = true := by
  obtain ⟨c, j⟩ := s
  simp only [somes, List.mem_map, List.mem_filter, List.mem_range, Prod.mk.injEq]
  constructor
  · rintro ⟨x, ⟨h1, h2⟩, h3, h4⟩
    subst h4
    exact ⟨h3.symm, h1, h2⟩
  · rintro ⟨h1, h2, h3⟩
    exact ⟨j, ⟨h2, h3⟩, h1.symm, rfl⟩

def putsAt (n : NetL) (k p : Nat) : Bool := decide (0 < nth (tranAt n.trans k).post p)
def takesAt (n : NetL) (p k : Nat) : Bool := decide (0 < nth (tranAt n.trans k).pre p)

/-- Where a way can go on from a stop. -/
def behindL (n : NetL) (s : Stop) : List Stop :=
  if s.1 then somes false (putsAt n s.2) (tranAt n.trans s.2).post.length else somes true (takesAt n s.2) n.trans.length

theorem behind_fits {n : NetL} (hn : netOk n = true) {s t : Stop} (hs : FitS n s) (h : t ∈ behindL n s) : FitS n t := by
  obtain ⟨b, k⟩ := s
  cases b with
  | true =>
    have hk : k < n.trans.length := hs
    have h := mem_somes.1 (show t ∈ somes false _ _ from h)
    obtain ⟨c, j⟩ := t
    obtain ⟨rfl, h2, _⟩ := h
    have hl := (tran_length hn hk).2
    show (j : Int) < n.places
    have h2 : j < (tranAt n.trans k).post.length := h2
    omega
  | false =>
    have h := mem_somes.1 (show t ∈ somes true _ _ from h)
    obtain ⟨c, j⟩ := t
    obtain ⟨rfl, h2, _⟩ := h
    exact h2

theorem behind_le {n : NetL} (hn : netOk n = true) {s : Stop} (hs : FitS n s) : (behindL n s).length ≤ 24 := by
  obtain ⟨b, k⟩ := s
  obtain ⟨h0, h1, h2⟩ := head_of hn
  cases b with
  | true =>
    have hk : k < n.trans.length := hs
    have hl := (tran_length hn hk).2
    have := somes_le false (putsAt n k) (tranAt n.trans k).post.length
    show (somes false (putsAt n k) (tranAt n.trans k).post.length).length ≤ 24
    omega
  | false =>
    have := somes_le true (takesAt n k) n.trans.length
    show (somes true (takesAt n k) n.trans.length).length ≤ 24
    omega

/-- What is on ways from a stop. -/
def OnWay (n : NetL) (s t : Stop) : Prop := ∀ Q : Stop → Prop, Q s → (∀ a b, Q a → b ∈ behindL n a → Q b) → Q t
theorem OnWay.here (n : NetL) (s : Stop) : OnWay n s s := fun Q h _ => h
theorem OnWay.step {n : NetL} {s a b : Stop} (h : OnWay n s a) (hb : b ∈ behindL n a) : OnWay n s b := fun Q q1 q2 => q2 a b (h Q q1 q2) hb
theorem OnWay.first {n : NetL} {s a b : Stop} (hb : a ∈ behindL n s) (h : OnWay n a b) : OnWay n s b := h (fun x => OnWay n s x) ((OnWay.here n s).step hb) fun _ _ q e => q.step e
theorem OnWay.fits {n : NetL} (hn : netOk n = true) {s t : Stop} (hs : FitS n s) (h : OnWay n s t) : FitS n t := h (FitS n) hs fun _ _ q e => behind_fits hn q e

/-- What has been met has become more: what is new is on ways from stops of S, and all behind it has been met. -/
structure Went (n : NetL) (S : Stop → Prop) (vs vs' : List Stop) : Prop where
  sub : ∀ x ∈ vs, x ∈ vs'
  new : ∀ x ∈ vs', x ∈ vs ∨ S x
  shut : ∀ x ∈ vs', x ∉ vs → ∀ y ∈ behindL n x, y ∈ vs'

theorem Went.refl (n : NetL) (S : Stop → Prop) (vs : List Stop) : Went n S vs vs := ⟨fun _ h => h, fun _ h => .inl h, fun x h k => absurd h k⟩

theorem Went.trans {n : NetL} {S T : Stop → Prop} {vs us ws : List Stop} (h : Went n S vs us) (g : Went n T us ws) (hT : ∀ x, T x → S x) : Went n S vs ws where
  sub := fun x hx => g.sub x (h.sub x hx)
  new := fun x hx => by
    rcases g.new x hx with k | k
    · exact h.new x k
    · exact .inr (hT x k)
  shut := fun x hx hn y hy => by
    by_cases k : x ∈ us
    · exact g.sub y (h.shut x k hn y hy)
    · exact g.shut x hx k y hy

/-- One stop, and what is behind it. -/
theorem Went.stop {n : NetL} {s : Stop} {vs us : List Stop} (h : Went n (OnWay n s) (vs ++ [s]) us) (hall : ∀ y ∈ behindL n s, y ∈ us) : Went n (OnWay n s) vs us where
  sub := fun x hx => h.sub x (by simp [hx])
  new := fun x hx => by
    rcases h.new x hx with k | k
    · rcases List.mem_append.1 k with k | k
      · exact .inl k
      · have : x = s := by simpa using k
        subst this
        exact .inr (OnWay.here _ _)
    · exact .inr k
  shut := fun x hx hn y hy => by
    by_cases e : x = s
    · subst e; exact hall y hy
    · exact h.shut x hx (by simp [hn, e]) y hy

/-- From nothing: all that is on ways from a stop. -/
theorem Went.all {n : NetL} {s : Stop} {us : List Stop} (h : Went n (OnWay n s) [] us) (hs : s ∈ us) (x : Stop) : x ∈ us ↔ OnWay n s x := by
  constructor
  · intro hx
    rcases h.new x hx with k | k
    · cases k
    · exact k
  · exact fun hx => hx (fun y => y ∈ us) hs fun a b ha hb => h.shut a ha (by simp) b hb

/-- All stops of a net. -/
def allS (n : NetL) : List Stop := ((List.range n.places.toNat).map fun j => (false, j)) ++ (List.range n.trans.length).map fun j => (true, j)
theorem mem_allS {n : NetL} {s : Stop} : s ∈ allS n ↔ FitS n s := by
  obtain ⟨b, k⟩ := s
  cases b <;> simp [allS, FitS]
theorem allS_length {n : NetL} (h : 0 ≤ n.places) : ((allS n).length : Int) = n.places + n.trans.length := by
  simp only [allS, List.length_append, List.length_map, List.length_range]
  omega

theorem nodup_le : ∀ {l1 l2 : List Stop}, l1.Nodup → (∀ x ∈ l1, x ∈ l2) → l1.length ≤ l2.length := by
  intro l1
  induction l1 with
  | nil => intro l2 _ _; simp
  | cons a r ih =>
    intro l2 hn hs
    obtain ⟨h1, h2⟩ := List.nodup_cons.1 hn
    have ha : a ∈ l2 := hs a (by simp)
    have := ih (l2 := l2.erase a) h2 fun x hx => by
      have hne : x ≠ a := fun e => h1 (e ▸ hx)
      exact (List.mem_erase_of_ne hne).2 (hs x (by simp [hx]))
    rw [List.length_erase_of_mem ha] at this
    have := List.length_pos_of_mem ha
    simp only [List.length_cons]
    omega

theorem nodup_full {l1 l2 : List Stop} (hn : l1.Nodup) (hs : ∀ x ∈ l1, x ∈ l2) (hl : l1.length = l2.length) : ∀ x ∈ l2, x ∈ l1 := by
  intro x hx
  apply Classical.byContradiction
  intro hno
  have := nodup_le (l1 := x :: l1) (l2 := l2) (List.nodup_cons.2 ⟨hno, hn⟩) fun y hy => by
    rcases List.mem_cons.1 hy with rfl | hy
    · exact hx
    · exact hs y hy
  simp only [List.length_cons] at this
  omega

theorem allS_nodup (n : NetL) : (allS n).Nodup := by
  unfold allS
  have inj : ∀ b : Bool, ∀ l : List Nat, l.Nodup → (l.map fun j => (b, j)).Nodup := by
    intro b l h
    rw [List.nodup_iff_pairwise_ne] at h
    simp only [List.nodup_iff_pairwise_ne, List.pairwise_map, ne_eq, Prod.mk.injEq, true_and]
    exact h
  rw [List.nodup_append]
  refine ⟨inj _ _ List.nodup_range, inj _ _ List.nodup_range, ?_⟩
  intro a ha b hb e
  subst e
  simp only [List.mem_map] at ha hb
  obtain ⟨_, _, rfl⟩ := ha
  obtain ⟨_, _, e⟩ := hb
  injection e with e _
  cases e

/-- As many were met as there are: all were. -/
theorem met_all {n : NetL} (hn : netOk n = true) {s : Stop} (hs : FitS n s) {us : List Stop} (hd : us.Nodup) (hm : ∀ x, x ∈ us ↔ OnWay n s x) :
    ((us.length : Int) = n.places + n.trans.length) ↔ ∀ x, FitS n x → OnWay n s x := by
  have hl := allS_length (head_of hn).1
  constructor
  · intro e x hx
    refine (hm x).1 (nodup_full hd (fun y hy => mem_allS.2 ((hm y).1 hy |>.fits hn hs)) (by omega) x (mem_allS.2 hx))
  · intro h
    have h1 := nodup_le hd fun y hy => mem_allS.2 (((hm y).1 hy).fits hn hs)
    have h2 := nodup_le (allS_nodup n) fun y hy => (hm y).2 (h y (mem_allS.1 hy))
    omega

theorem nth_in {xs : List Int} {p : Nat} (h : nth xs p ≠ 0) : p < xs.length := by
  rcases Nat.lt_or_ge p xs.length with h1 | h1
  · exact h1
  · exact absurd (nth_past _ _ h1) h

/-- Ways by stops are ways by places. -/
theorem onWay_place {n : NetL} (hn : netOk n = true) {f p : Nat} : OnWay n (false, f) (false, p) ↔ WayP n f p := by
  constructor
  · intro h
    have := h (fun s => if s.1 then WayT n f s.2 ∧ s.2 < n.trans.length else WayP n f s.2) (WayP.here n f) fun a b ha hb => by
      obtain ⟨ba, ka⟩ := a
      obtain ⟨bb, kb⟩ := b
      cases ba with
      | true =>
        obtain ⟨e, h2, h3⟩ := mem_somes.1 (show (bb, kb) ∈ somes false _ _ from hb)
        simp only at e
        subst e
        obtain ⟨⟨q, hq, hq2⟩, hk⟩ := ha
        have h3 : 0 < nth (tranAt n.trans ka).post kb := of_decide_eq_true h3
        exact hq.step hk hq2 (Int.ne_of_gt h3)
      | false =>
        obtain ⟨e, h2, h3⟩ := mem_somes.1 (show (bb, kb) ∈ somes true _ _ from hb)
        simp only at e
        subst e
        have h3 : 0 < nth (tranAt n.trans kb).pre ka := of_decide_eq_true h3
        exact ⟨⟨ka, ha, Int.ne_of_gt h3⟩, h2⟩
    exact this
  · intro h
    refine h (fun p => OnWay n (false, f) (false, p)) (OnWay.here _ _) fun k a b hk ha h1 h2 => ?_
    have r := tran_right (net_tran hn hk)
    have p1 := (okTok_nth r.1 a).1
    have p2 := (okTok_nth r.2 b).1
    have e1 : 0 < nth (tranAt n.trans k).pre a := by omega
    have e2 : 0 < nth (tranAt n.trans k).post b := by omega
    exact (ha.step (b := (true, k)) (mem_somes.2 ⟨rfl, hk, decide_eq_true e1⟩)).step (mem_somes.2 ⟨rfl, nth_in h2, decide_eq_true e2⟩)

theorem onWay_tran {n : NetL} (hn : netOk n = true) {f k : Nat} (hk : k < n.trans.length) : OnWay n (false, f) (true, k) ↔ WayT n f k := by
  constructor
  · intro h
    have := h (fun s => if s.1 then WayT n f s.2 ∧ s.2 < n.trans.length else OnWay n (false, f) (false, s.2)) (OnWay.here _ _) fun a b ha hb => by
      obtain ⟨ba, ka⟩ := a
      obtain ⟨bb, kb⟩ := b
      cases ba with
      | true =>
        obtain ⟨e, h2, h3⟩ := mem_somes.1 (show (bb, kb) ∈ somes false _ _ from hb)
        simp only at e
        subst e
        obtain ⟨⟨q, hq, hq2⟩, hk2⟩ := ha
        have h3 : 0 < nth (tranAt n.trans ka).post kb := of_decide_eq_true h3
        exact (onWay_place hn).2 (hq.step hk2 hq2 (Int.ne_of_gt h3))
      | false =>
        obtain ⟨e, h2, h3⟩ := mem_somes.1 (show (bb, kb) ∈ somes true _ _ from hb)
        simp only at e
        subst e
        have h3 : 0 < nth (tranAt n.trans kb).pre ka := of_decide_eq_true h3
        exact ⟨⟨ka, (onWay_place hn).1 ha, Int.ne_of_gt h3⟩, h2⟩
    exact this.1
  · rintro ⟨p, hp, h1⟩
    have r := tran_right (net_tran hn hk)
    have p1 := (okTok_nth r.1 p).1
    have e1 : 0 < nth (tranAt n.trans k).pre p := by omega
    exact ((onWay_place hn).2 hp).step (mem_somes.2 ⟨rfl, hk, decide_eq_true e1⟩)

theorem onWay_all {n : NetL} (hn : netOk n = true) {f : Nat} : (∀ x, FitS n x → OnWay n (false, f) x) ↔ (∀ p : Nat, (p : Int) < n.places → WayP n f p) ∧ ∀ k, k < n.trans.length → WayT n f k := by
  constructor
  · intro h
    exact ⟨fun p hp => (onWay_place hn).1 (h (false, p) hp), fun k hk => (onWay_tran hn hk).1 (h (true, k) hk)⟩
  · rintro ⟨h1, h2⟩ ⟨b, k⟩ hx
    cases b with
    | true => exact (onWay_tran hn hx).2 (h2 k hx)
    | false => exact (onWay_place hn).2 (h1 k hx)

end Go.Proofs.Ytakgppoeikcepaa

/- The answers of the document itself for shape: the mark at the beginning. -/
namespace Go.Proofs.Ytakgppoeikcepaa
open Go.RowKit
set_option linter.unusedVariables false
set_option maxRecDepth 4000

theorem start_succ (i : Int) (k : Nat) : mapTo (k + 1) (fun p => if (p : Int) = i then 1 else 0) = mapTo k (fun p => if (p : Int) = i then 1 else 0) ++ [if (k : Int) = i then 1 else 0] := mapTo_succ k _

set_option maxHeartbeats 1000000 in
theorem hstart_own (v : Value) (n : NetL) (i : Int) (w : World) (hv : Net w v n) :
    Calls Try.prog 34 #[v, .int .i64 i] w fun e w' => ∃ r, e = .returned r ∧ Own w.heap.size w w' r (startL n.places i) := by
  obtain ⟨tv, rfl, hT⟩ := hv
  obtain ⟨w0, Hw0⟩ : ∃ w0, Hid (w.alloc (.cells #[.int .i64 n.places, tv] 24) = w0) := ⟨_, rfl⟩
  have c : Below w.heap.size w w0 := by rw [← Hw0.out]; exact below_new _ _
  have hbx : Box2 w0 w.heap.size (.int .i64 n.places) tv := by rw [← Hw0.out]; exact box2_new w _ tv 24
  obtain ⟨P, HP⟩ : ∃ P, Hid (n.places = P) := ⟨_, rfl⟩
  rw [HP.out] at hbx Hw0 ⊢
  obtain ⟨N, HN⟩ : ∃ N : Nat, Hid ((min P 16).toNat = N) := ⟨_, rfl⟩
  have HS : Hid _ := start_succ i
  have HL : Hid (∀ k, (mapTo k (fun p => if (p : Int) = i then 1 else 0)).length = k) := fun k => mapTo_length _ _
  have HE : Hid (mapTo N (fun p => if (p : Int) = i then 1 else 0) = startL P i) := by show _ = _; rw [← HN.out]; rfl
  obtain ⟨x0, x1, x2⟩ := id hbx
  have O0 : Own w.heap.size w w0 (.slice none 0 0) (mapTo 0 (fun p => if (p : Int) = i then 1 else 0)) := Own.nil_of c c.size
  rw [← HE.out]
  have hN16 : N ≤ 16 := by rw [← HN.out]; omega
  obtain ⟨K, HK, hK⟩ : ∃ K : Int, Hid (min P 16 = K) ∧ (∀ k : Nat, (k : Int) < K ↔ k < N) := ⟨_, rfl, fun k => by rw [← HN.out]; omega⟩
  have hmin : (P < 16 ∧ K = P) ∨ (P = 16 ∧ K = 16) ∨ (16 < P ∧ K = 16) := by have := HK.out; omega
  clear HN HP HE
  go_enter Try.func34, Try.ntmps34
  go_upto_region 2 with fail
  rw [Hw0.out]
  clear Hw0 HK
  rcases hmin with ⟨h1, rfl⟩ | ⟨rfl, rfl⟩ | ⟨h1, rfl⟩
  all_goals
    go_wp2_with fail
    clear x0 x1 x2 hbx
    go_loopw [5, 10] (fun v a wr => ∃ k : Nat, k ≤ N ∧ a = .int .i64 k ∧ Own w.heap.size w wr v (mapTo k (fun p => if (p : Int) = i then 1 else 0))) (fun _ a _ => N - (intOf a).toNat)
    case atStart => exact ⟨0, Nat.zero_le _, rfl, O0⟩
    case round =>
      clear O0
      obtain ⟨k, hk, rfl, hO⟩ := hrel
      by_cases hkn : k < N
      · have hkK := (hK k).2 hkn
        have Hs : Hid _ := HS.out k
        have Hl : Hid _ := HL.out k
        clear HS HL hK
        by_cases e : (k : Int) = i
        · have R : Hid (mapTo (k + 1) (fun p => if (p : Int) = i then 1 else 0) = mapTo k (fun p => if (p : Int) = i then 1 else 0) ++ [1]) := by show _ = _; rw [Hs.out, if_pos e]
          clear Hs
          go_wp2_with (at_builtin; refine wp_append_int rfl _ _ rfl w.heap.size w _ _ _ 1 hO rfl rfl (by have := Hl.out; omega) ?_; intro v' w3 hO3)
          go_roundw
          case rel => exact ⟨k + 1, by omega, by go_num, by rw [R.out]; exact hO3⟩
          case measure => simp [intOf]; omega
        · have R : Hid (mapTo (k + 1) (fun p => if (p : Int) = i then 1 else 0) = mapTo k (fun p => if (p : Int) = i then 1 else 0) ++ [0]) := by show _ = _; rw [Hs.out, if_neg e]
          clear Hs
          go_wp2_with (at_builtin; refine wp_append_int rfl _ _ rfl w.heap.size w _ _ _ 0 hO rfl rfl (by have := Hl.out; omega) ?_; intro v' w3 hO3)
          go_roundw
          case rel => exact ⟨k + 1, by omega, by go_num, by rw [R.out]; exact hO3⟩
          case measure => simp [intOf]; omega
      · obtain rfl : k = N := by omega
        have hkK := mt (hK k).1 (Nat.lt_irrefl k)
        go_wp2
        go_ret
        exact ⟨_, rfl, hO⟩

end Go.Proofs.Ytakgppoeikcepaa

/- Which places and transitions are behind a place, reckoned round by round. -/
namespace Go.Proofs.Ytakgppoeikcepaa
set_option linter.unusedVariables false
set_option maxRecDepth 4000

/-- What is known so far: of places, of transitions. -/
structure WayS where
  ps : Nat → Bool
  ts : Nat → Bool

/-- Does one of the first j places lead to a transition? -/
def leadTo (ps : Nat → Bool) (w : List Int) (b : Bool) : Nat → Bool
  | 0 => b
  | j + 1 => leadTo ps w b j || (ps j && decide (0 < nth w j))
/-- The first j places that a transition leads to. -/
def feedTo (ps : Nat → Bool) (w : List Int) (b : Bool) (j : Nat) : Nat → Bool := fun q => ps q || (decide (q < j) && (b && decide (0 < nth w q)))
def setAt (ts : Nat → Bool) (k : Nat) (b : Bool) : Nat → Bool := fun j => if j = k then b else ts j

def tranWay (n : NetL) (s : WayS) (k : Nat) : WayS :=
  ⟨feedTo s.ps (tranAt n.trans k).post (leadTo s.ps (tranAt n.trans k).pre (s.ts k) n.places.toNat) n.places.toNat, setAt s.ts k (leadTo s.ps (tranAt n.trans k).pre (s.ts k) n.places.toNat)⟩
def roundWay (n : NetL) (s : WayS) : Nat → WayS
  | 0 => s
  | k + 1 => tranWay n (roundWay n s k) k
def startWay (f : Nat) : WayS := ⟨fun q => decide (q = f), fun _ => false⟩
def waysTo (n : NetL) (f : Nat) : Nat → WayS
  | 0 => startWay f
  | r + 1 => roundWay n (waysTo n f r) n.trans.length
def waysL (n : NetL) (f : Nat) : WayS := waysTo n f (n.places.toNat + n.trans.length)

theorem lead_mono {ps : Nat → Bool} {w : List Int} {b : Bool} (h : b = true) (j : Nat) : leadTo ps w b j = true := by
  induction j with
  | zero => exact h
  | succ j ih => unfold leadTo; rw [ih]; rfl
theorem lead_iff {ps : Nat → Bool} {w : List Int} {b : Bool} (j : Nat) : leadTo ps w b j = true ↔ b = true ∨ ∃ q, q < j ∧ ps q = true ∧ 0 < nth w q := by
  induction j with
  | zero => simp [leadTo]
  | succ j ih =>
    unfold leadTo
    rw [Bool.or_eq_true, ih, Bool.and_eq_true, decide_eq_true_eq]
    constructor
    · rintro ((h | ⟨q, h1, h2⟩) | ⟨h1, h2⟩)
      · exact .inl h
      · exact .inr ⟨q, by omega, h2⟩
      · exact .inr ⟨j, by omega, h1, h2⟩
    · rintro (h | ⟨q, h1, h2⟩)
      · exact .inl (.inl h)
      · by_cases e : q = j
        · subst e; exact .inr h2
        · exact .inl (.inr ⟨q, by omega, h2⟩)
theorem feed_iff {ps : Nat → Bool} {w : List Int} {b : Bool} {j q : Nat} : feedTo ps w b j q = true ↔ ps q = true ∨ (q < j ∧ b = true ∧ 0 < nth w q) := by
  unfold feedTo
  rw [Bool.or_eq_true, Bool.and_eq_true, Bool.and_eq_true, decide_eq_true_eq, decide_eq_true_eq]

/-- Nothing that was known is lost. -/
structure WayLe (s u : WayS) : Prop where
  ps : ∀ q, s.ps q = true → u.ps q = true
  ts : ∀ k, s.ts k = true → u.ts k = true
theorem WayLe.refl (s : WayS) : WayLe s s := ⟨fun _ h => h, fun _ h => h⟩
theorem WayLe.trans {s u v : WayS} (h : WayLe s u) (k : WayLe u v) : WayLe s v := ⟨fun q h1 => k.ps q (h.ps q h1), fun q h1 => k.ts q (h.ts q h1)⟩
theorem WayLe.eq {s u : WayS} (h : WayLe s u) (k : WayLe u s) : s = u := by
  cases s with
  | mk p t =>
    cases u with
    | mk p2 t2 =>
      have e1 : p = p2 := by funext q; rw [Bool.eq_iff_iff]; exact ⟨h.ps q, k.ps q⟩
      have e2 : t = t2 := by funext q; rw [Bool.eq_iff_iff]; exact ⟨h.ts q, k.ts q⟩
      rw [e1, e2]
theorem tran_le (n : NetL) (s : WayS) (k : Nat) : WayLe s (tranWay n s k) := by
  refine ⟨fun q h => feed_iff.2 (.inl h), fun j h => ?_⟩
  show setAt s.ts k _ j = true
  unfold setAt
  split
  · rename_i e; subst e; exact lead_mono h _
  · exact h
theorem round_le (n : NetL) (s : WayS) : ∀ k, WayLe s (roundWay n s k)
  | 0 => WayLe.refl s
  | k + 1 => (round_le n s k).trans (tran_le n _ k)

/-- What is known is so. -/
structure WaySound (n : NetL) (f : Nat) (s : WayS) : Prop where
  ps : ∀ q, s.ps q = true → WayP n f q
  ts : ∀ k, k < n.trans.length → s.ts k = true → WayT n f k
theorem sound_start (n : NetL) (f : Nat) : WaySound n f (startWay f) := by
  refine ⟨fun q h => ?_, fun k _ h => by cases h⟩
  have : q = f := of_decide_eq_true h
  subst this; exact WayP.here n q
theorem sound_tran {n : NetL} {f : Nat} {s : WayS} (h : WaySound n f s) {k : Nat} (hk : k < n.trans.length) : WaySound n f (tranWay n s k) := by
  have hb : leadTo s.ps (tranAt n.trans k).pre (s.ts k) n.places.toNat = true → WayT n f k := fun q => by
    rcases (lead_iff _).1 q with q | ⟨a, h1, h2, h3⟩
    · exact h.ts k hk q
    · exact ⟨a, h.ps a h2, by omega⟩
  refine ⟨fun q hq => ?_, fun j hj hq => ?_⟩
  · rcases feed_iff.1 hq with q1 | ⟨h1, h2, h3⟩
    · exact h.ps q q1
    · obtain ⟨a, h4, h5⟩ := hb h2
      exact h4.step hk h5 (by omega)
  · have hq : setAt s.ts k _ j = true := hq
    unfold setAt at hq
    split at hq
    · rename_i e; subst e; exact hb hq
    · exact h.ts j hj hq
theorem sound_round {n : NetL} {f : Nat} {s : WayS} (h : WaySound n f s) : ∀ k, k ≤ n.trans.length → WaySound n f (roundWay n s k)
  | 0, _ => h
  | k + 1, hk => sound_tran (sound_round h k (by omega)) (by omega)
theorem sound_ways (n : NetL) (f : Nat) : ∀ r, WaySound n f (waysTo n f r)
  | 0 => sound_start n f
  | r + 1 => sound_round (sound_ways n f r) _ (Nat.le_refl _)

/-- How much is not known yet. -/
def gapOf (g : Nat → Bool) (k : Nat) : Nat := ((List.range k).filter fun j => !g j).length
theorem gap_zero (g : Nat → Bool) : gapOf g 0 = 0 := rfl
theorem gap_succ (g : Nat → Bool) (k : Nat) : gapOf g (k + 1) = gapOf g k + (if g k = true then 0 else 1) := by
  unfold gapOf
  rw [List.range_succ, List.filter_append, List.length_append]
  congr 1
  cases h : g k <;> simp [h]
theorem gap_le (g : Nat → Bool) (k : Nat) : gapOf g k ≤ k := by
  induction k with
  | zero => exact Nat.le_refl _
  | succ k ih => rw [gap_succ]; split <;> omega
theorem gap_some {g : Nat → Bool} {k j : Nat} (hj : j < k) (h : g j = true) : gapOf g k + 1 ≤ k := by
  induction k with
  | zero => omega
  | succ k ih =>
    rw [gap_succ]
    by_cases e : j = k
    · subst e; rw [if_pos h]; have := gap_le g j; omega
    · have := ih (by omega)
      split <;> omega
theorem gap_mono {g h : Nat → Bool} (hm : ∀ j, g j = true → h j = true) (k : Nat) : gapOf h k ≤ gapOf g k := by
  induction k with
  | zero => exact Nat.le_refl _
  | succ k ih =>
    rw [gap_succ, gap_succ]
    have := hm k
    by_cases e : g k = true
    · rw [if_pos e, if_pos (this e)]; exact ih
    · rw [if_neg e]; split <;> omega
theorem gap_same {g h : Nat → Bool} (hm : ∀ j, g j = true → h j = true) (k : Nat) (he : gapOf g k ≤ gapOf h k) : ∀ j, j < k → h j = true → g j = true := by
  induction k with
  | zero => intro j hj; omega
  | succ k ih =>
    rw [gap_succ, gap_succ] at he
    have hk := gap_mono hm k
    intro j hj hh
    by_cases e : j = k
    · subst e
      by_cases q : g j = true
      · exact q
      · rw [if_neg q, if_pos hh] at he; omega
    · refine ih ?_ j (by omega) hh
      by_cases q : g k = true
      · rw [if_pos q, if_pos (hm k q)] at he; omega
      · rw [if_neg q] at he; split at he <;> omega

theorem tran_out (n : NetL) (s : WayS) (k : Nat) : (∀ q, n.places.toNat ≤ q → (tranWay n s k).ps q = s.ps q) ∧ (∀ j, j ≠ k → (tranWay n s k).ts j = s.ts j) := by
  refine ⟨fun q hq => ?_, fun j hj => ?_⟩
  · show feedTo _ _ _ _ q = _
    unfold feedTo
    rw [decide_eq_false (by omega)]
    simp
  · show setAt _ _ _ j = _
    unfold setAt
    rw [if_neg hj]
theorem round_out (n : NetL) (s : WayS) : ∀ k, (∀ q, n.places.toNat ≤ q → (roundWay n s k).ps q = s.ps q) ∧ (∀ j, k ≤ j → (roundWay n s k).ts j = s.ts j)
  | 0 => ⟨fun _ _ => rfl, fun _ _ => rfl⟩
  | k + 1 => by
    obtain ⟨h1, h2⟩ := round_out n s k
    obtain ⟨h3, h4⟩ := tran_out n (roundWay n s k) k
    exact ⟨fun q hq => (h3 q hq).trans (h1 q hq), fun j hj => (h4 j (by omega)).trans (h2 j (by omega))⟩

def gapW (n : NetL) (s : WayS) : Nat := gapOf s.ps n.places.toNat + gapOf s.ts n.trans.length
/-- A round that tells nothing new changes nothing. -/
theorem round_same {n : NetL} {s : WayS} (h : gapW n s ≤ gapW n (roundWay n s n.trans.length)) : roundWay n s n.trans.length = s := by
  have hle := round_le n s n.trans.length
  have m1 := gap_mono hle.ps n.places.toNat
  have m2 := gap_mono hle.ts n.trans.length
  unfold gapW at h
  obtain ⟨o1, o2⟩ := round_out n s n.trans.length
  refine (hle.eq ⟨fun q hq => ?_, fun k hk => ?_⟩).symm
  · by_cases e : q < n.places.toNat
    · exact gap_same hle.ps n.places.toNat (by omega) q e hq
    · rw [← o1 q (by omega)]; exact hq
  · by_cases e : k < n.trans.length
    · exact gap_same hle.ts n.trans.length (by omega) k e hk
    · rw [← o2 k (by omega)]; exact hk
theorem round_end (n : NetL) (f : Nat) (hf : f < n.places.toNat) : ∀ r, roundWay n (waysTo n f r) n.trans.length = waysTo n f r ∨ gapW n (waysTo n f r) + r + 1 ≤ n.places.toNat + n.trans.length
  | 0 => by
    right
    have h1 := gap_some (g := (startWay f).ps) (k := n.places.toNat) (j := f) hf (decide_eq_true rfl)
    have h2 := gap_le (startWay f).ts n.trans.length
    show gapOf _ _ + gapOf _ _ + 0 + 1 ≤ _
    show gapOf (startWay f).ps n.places.toNat + gapOf (startWay f).ts n.trans.length + 0 + 1 ≤ _
    omega
  | r + 1 => by
    rcases round_end n f hf r with h | h
    · left
      show roundWay n (roundWay n (waysTo n f r) n.trans.length) n.trans.length = roundWay n (waysTo n f r) n.trans.length
      rw [h, h]
    · by_cases e : gapW n (waysTo n f r) ≤ gapW n (roundWay n (waysTo n f r) n.trans.length)
      · left
        have h1 := round_same e
        show roundWay n (roundWay n (waysTo n f r) n.trans.length) n.trans.length = roundWay n (waysTo n f r) n.trans.length
        rw [h1, h1]
      · right
        show gapW n (roundWay n (waysTo n f r) n.trans.length) + (r + 1) + 1 ≤ _
        omega
theorem ways_stable (n : NetL) (f : Nat) (hf : f < n.places.toNat) : roundWay n (waysL n f) n.trans.length = waysL n f := by
  rcases round_end n f hf (n.places.toNat + n.trans.length) with h | h
  · exact h
  · omega
/-- Where a round changes nothing, no transition does. -/
theorem stable_tran {n : NetL} {s : WayS} (h : roundWay n s n.trans.length = s) {k : Nat} (hk : k < n.trans.length) : tranWay n s k = s := by
  have up : ∀ j d, WayLe (roundWay n s j) (roundWay n s (j + d)) := by
    intro j d
    induction d with
    | zero => exact WayLe.refl _
    | succ d ih => exact ih.trans (tran_le n _ _)
  have at_ : ∀ j, j ≤ n.trans.length → roundWay n s j = s := by
    intro j hj
    have h1 := up j (n.trans.length - j)
    rw [show j + (n.trans.length - j) = n.trans.length by omega, h] at h1
    exact (h1.eq (round_le n s j))
  have h1 := at_ (k + 1) (by omega)
  have h2 := at_ k (by omega)
  have h3 : roundWay n s (k + 1) = tranWay n (roundWay n s k) k := rfl
  rw [h2] at h3
  rw [← h3, h1]
theorem ways_le (n : NetL) (f : Nat) : ∀ r, WayLe (startWay f) (waysTo n f r)
  | 0 => WayLe.refl _
  | r + 1 => (ways_le n f r).trans (round_le n _ _)

/-- All that is behind a place is known in the end. -/
theorem ways_iff {n : NetL} (hn : netOk n = true) {f : Nat} (hf : (f : Int) < n.places) : (∀ q, (waysL n f).ps q = true ↔ WayP n f q) ∧ (∀ k, k < n.trans.length → ((waysL n f).ts k = true ↔ WayT n f k)) := by
  have hs := ways_stable n f (by omega)
  have hsd := sound_ways n f (n.places.toNat + n.trans.length)
  have lead : ∀ k a, k < n.trans.length → (waysL n f).ps a = true → nth (tranAt n.trans k).pre a ≠ 0 → (waysL n f).ts k = true := by
    intro k a hk ha h0
    have e := congrArg WayS.ts (stable_tran hs hk)
    have e2 := congrFun e k
    have e3 : (tranWay n (waysL n f) k).ts k = leadTo (waysL n f).ps (tranAt n.trans k).pre ((waysL n f).ts k) n.places.toNat := by
      show setAt _ _ _ k = _
      unfold setAt
      rw [if_pos rfl]
    rw [← e2, e3, lead_iff]
    have hl := (tran_length hn hk).1
    have hb := (okTok_nth (tran_right (net_tran hn hk)).1 a).1
    refine .inr ⟨a, ?_, ha, by omega⟩
    rcases Nat.lt_or_ge a (tranAt n.trans k).pre.length with q | q
    · omega
    · exact absurd (nth_past _ _ q) h0
  have feed : ∀ k b, k < n.trans.length → (waysL n f).ts k = true → nth (tranAt n.trans k).post b ≠ 0 → (waysL n f).ps b = true := by
    intro k b hk ht h0
    have e := congrArg WayS.ps (stable_tran hs hk)
    have e2 := congrFun e b
    rw [← e2]
    have hl := (tran_length hn hk).2
    have hb := (okTok_nth (tran_right (net_tran hn hk)).2 b).1
    refine feed_iff.2 (.inr ⟨?_, lead_mono ht _, by omega⟩)
    rcases Nat.lt_or_ge b (tranAt n.trans k).post.length with q | q
    · omega
    · exact absurd (nth_past _ _ q) h0
  have full : ∀ q, WayP n f q → (waysL n f).ps q = true := fun q hq =>
    hq (fun q => (waysL n f).ps q = true) ((ways_le n f _).ps f (decide_eq_true rfl)) fun k a b hk ha h1 h2 => feed k b hk (lead k a hk ha h1) h2
  refine ⟨fun q => ⟨hsd.ps q, full q⟩, fun k hk => ⟨hsd.ts k hk, ?_⟩⟩
  rintro ⟨a, h1, h2⟩
  exact lead k a hk (full a h1) h2

end Go.Proofs.Ytakgppoeikcepaa

/- Plain facts on trees that cover: nothing rises above them, what has nowhere Many is bounded, where there are Many there is no end. -/
namespace Go.Proofs.Ytakgppoeikcepaa
set_option linter.unusedVariables false
set_option maxRecDepth 4000

theorem tran_weights {n : NetL} (hn : netOk n = true) {k : Nat} (hk : k < n.trans.length) (j : Nat) :
    (0 ≤ nth (tranAt n.trans k).pre j ∧ nth (tranAt n.trans k).pre j ≤ 9) ∧ 0 ≤ nth (tranAt n.trans k).post j ∧ nth (tranAt n.trans k).post j ≤ 9 := by
  have h := net_tran hn hk
  simp only [tranOk, tranHead, Bool.and_eq_true, List.all_append] at h
  have go : ∀ {xs : List Int}, xs.all weightOk = true → ∀ j, 0 ≤ nth xs j ∧ nth xs j ≤ 9 := by
    intro xs h j
    by_cases hj : j < xs.length
    · have := List.all_eq_true.1 h _ (List.getElem_mem hj)
      simp only [weightOk, Bool.and_eq_true, decide_eq_true_eq] at this
      simpa only [nth, List.getD, List.getElem?_eq_getElem hj, Option.getD_some] using this
    · rw [nth_past xs j (by omega)]; omega
  exact ⟨go h.2.1 j, go h.2.2 j⟩

/-- The shape of a mark of knot j. -/
def MarkOk (n : NetL) (j : Nat) (x : List Int) : Prop := (x.length : Int) = n.places ∧ ∀ p, -1 ≤ nth x p ∧ nth x p ≤ 1000000 + 9 * (j : Int)

theorem omFire_at {n : NetL} (hn : netOk n = true) {t : Nat} (ht : t < n.trans.length) {x : List Int} (hb : belowL (tranAt n.trans t).pre x = true) {j : Nat} (hx : MarkOk n j x) (p : Nat) :
    -1 ≤ nth (omFire (tranAt n.trans t) x) p ∧ nth (omFire (tranAt n.trans t) x) p ≤ 1000000 + 9 * (j : Int) + 9 := by
  obtain ⟨w1, w2⟩ := tran_weights hn ht p
  obtain ⟨x1, x2⟩ := hx.2 p
  unfold omFire
  by_cases hp : p < x.length
  · rw [mapTo_nth _ _ _ hp, omAt]
    have := (belowL_iff _ _).1 hb p hp
    rw [moreL_no] at this
    split <;> omega
  · rw [nth_past _ p (by rw [mapTo_length]; omega)]; omega
theorem kid_ok {n : NetL} (hn : netOk n = true) {u t : Nat} (ht : t < n.trans.length) {x : KnotX} (hb : belowL (tranAt n.trans t).pre x.mark = true) {j : Nat} (hx : MarkOk n u x.mark) (hu : u < j) : MarkOk n j (kid n u t x).mark := by
  obtain ⟨r1, r2⟩ := raiseN_raised x.mine (omFire (tranAt n.trans t) x.mark) (n.places.toNat + 1)
  refine ⟨by show ((raiseN _ _ _).length : Int) = _; rw [r1, omFire, mapTo_length]; exact hx.1, fun p => ?_⟩
  have h := omFire_at hn ht hb hx p
  show -1 ≤ nth (raiseN _ _ _) p ∧ nth (raiseN _ _ _) p ≤ _
  rcases r2 p with e | e <;> rw [e] <;> omega

theorem marks_ok {n : NetL} {m : List Int} {s : List KnotX} (hf : fitsL n m = true) (h0 : knotAt s 0 = rootK m)
    (hc : ∀ j, 0 < j → j < s.length → ∃ u t', u < j ∧ t' < n.trans.length ∧ belowL (tranAt n.trans t').pre (knotAt s u).mark = true ∧ knotAt s j = kid n u t' (knotAt s u)) :
    ∀ j, j < s.length → MarkOk n j (knotAt s j).mark := by
  obtain ⟨hn, hl, hr⟩ := fits_net hf
  intro j
  induction j using Nat.strongRecOn with
  | ind j ih =>
    intro hj
    by_cases e : j = 0
    · subst e
      rw [h0]
      refine ⟨hl, fun p => ?_⟩
      have := (rightL_iff m).1 hr p
      show -1 ≤ nth m p ∧ nth m p ≤ _
      omega
    · obtain ⟨u, t, hu, ht, hb, e1⟩ := hc j (by omega) hj
      rw [e1]
      exact kid_ok hn ht hb (ih u hu (by omega)) hu
theorem TreeOk.marks {n : NetL} {m : List Int} {s : List KnotX} (h : TreeOk n m s) {j : Nat} (hj : j < s.length) : MarkOk n j (knotAt s j).mark := marks_ok h.fits h.first h.child j hj
theorem Grown.marks {n : NetL} {m : List Int} {most k t : Nat} {s : List KnotX} (h : Grown n m most k t s) (hf : fitsL n m = true) {j : Nat} (hj : j < s.length) : MarkOk n j (knotAt s j).mark := marks_ok hf h.first h.child j hj

/-- What a knot comes of are marks of knots ahead of it. -/
theorem line_mem {n : NetL} {m : List Int} {s : List KnotX} (h0 : knotAt s 0 = rootK m)
    (hc : ∀ j, 0 < j → j < s.length → ∃ u t', u < j ∧ t' < n.trans.length ∧ belowL (tranAt n.trans t').pre (knotAt s u).mark = true ∧ knotAt s j = kid n u t' (knotAt s u)) :
    ∀ j, j < s.length → ∀ y ∈ (knotAt s j).line, ∃ i, i < j ∧ (knotAt s i).mark = y := by
  intro j
  induction j using Nat.strongRecOn with
  | ind j ih =>
    intro hj y hy
    by_cases e : j = 0
    · subst e; rw [h0] at hy; simp [rootK] at hy
    · obtain ⟨u, t, hu, ht, hb, e1⟩ := hc j (by omega) hj
      rw [e1] at hy
      rcases List.mem_append.1 (show y ∈ (knotAt s u).line ++ [(knotAt s u).mark] from hy) with q | q
      · obtain ⟨i, h1, h2⟩ := ih u hu (by omega) y q
        exact ⟨i, by omega, h2⟩
      · exact ⟨u, hu, (List.mem_singleton.1 q).symm⟩

theorem line_len {n : NetL} {m : List Int} {s : List KnotX} (h0 : knotAt s 0 = rootK m)
    (hc : ∀ j, 0 < j → j < s.length → ∃ u t', u < j ∧ t' < n.trans.length ∧ belowL (tranAt n.trans t').pre (knotAt s u).mark = true ∧ knotAt s j = kid n u t' (knotAt s u)) :
    ∀ j, j < s.length → (knotAt s j).line.length ≤ j := by
  intro j
  induction j using Nat.strongRecOn with
  | ind j ih =>
    intro hj
    by_cases e : j = 0
    · subst e; rw [h0]; simp [rootK]
    · obtain ⟨u, t, hu, ht, hb, e1⟩ := hc j (by omega) hj
      have := ih u hu (by omega)
      rw [e1]
      show ((knotAt s u).line ++ [(knotAt s u).mark]).length ≤ j
      simp; omega
theorem Grown.line {n : NetL} {m : List Int} {most k t : Nat} {s : List KnotX} (h : Grown n m most k t s) {j : Nat} (hj : j < s.length) : (knotAt s j).line.length ≤ j := line_len h.first h.child j hj

theorem Grown.mineLen {n : NetL} {m : List Int} {most k t : Nat} {s : List KnotX} (h : Grown n m most k t s) (hf : fitsL n m = true) {i : Nat} (hi : i < s.length) {j : Nat} (hj : j < (knotAt s i).mine.length) : ((markAt (knotAt s i).mine j).length : Int) = n.places := by
  rcases List.mem_append.1 (show markAt (knotAt s i).mine j ∈ (knotAt s i).line ++ [(knotAt s i).mark] from markAt_mem hj) with q | q
  · obtain ⟨u, h1, h2⟩ := line_mem h.first h.child i hi _ q
    rw [← h2]; exact (h.marks hf (by omega)).1
  · rw [List.mem_singleton] at q; rw [q]; exact (h.marks hf hi).1

/-- Each mark is one of a knot that nothing ahead is the same as. -/
theorem TreeOk.unseen {n : NetL} {m : List Int} {s : List KnotX} (h : TreeOk n m s) : ∀ j, j < s.length → ∃ i, i < s.length ∧ (knotAt s i).mark = (knotAt s j).mark ∧ seenK (knotAt s i) = false := by
  intro j
  induction j using Nat.strongRecOn with
  | ind j ih =>
    intro hj
    cases hs : seenK (knotAt s j)
    · exact ⟨j, hj, rfl, hs⟩
    · obtain ⟨i, h1, h2⟩ := line_mem h.first h.child j hj _ (List.contains_iff_mem.1 hs)
      obtain ⟨i', q1, q2, q3⟩ := ih i h1 (by omega)
      exact ⟨i', q1, q2.trans h2, q3⟩

/-- At each place as many, or Many. -/
def CovM (u x : List Int) : Prop := u.length = x.length ∧ ∀ p, p < x.length → nth u p = -1 ∨ nth x p ≤ nth u p

theorem TreeOk.cov_step {n : NetL} {m x y : List Int} {s : List KnotX} {t : Int} (h : TreeOk n m s) (hx : ∃ k, k < s.length ∧ CovM (knotAt s k).mark x) (hf : fireL n x t = (y, 0)) : ∃ k, k < s.length ∧ CovM (knotAt s k).mark y := by
  obtain ⟨k0, hk0, hc0⟩ := hx
  obtain ⟨k, hk, e, hu⟩ := h.unseen k0 hk0
  have hc : CovM (knotAt s k).mark x := by rw [e]; exact hc0
  obtain ⟨j, rfl, hj, hfx, hcv, _, rfl⟩ := fire_ok hf
  rw [coversL_iff] at hcv
  obtain ⟨hn, hl, hr⟩ := fits_net hfx
  obtain ⟨l1, l2⟩ := tran_length hn hj
  have hb : belowL (tranAt n.trans j).pre (knotAt s k).mark = true := by
    rw [belowL_iff]
    intro p hp
    rw [moreL_no]
    have := hcv p
    obtain ⟨⟨w1, _⟩, _⟩ := tran_weights hn hj p
    rcases hc.2 p (by rw [← hc.1]; exact hp) with q | q
    · exact .inl q
    · exact .inr (by omega)
  rcases h.whole k j hk hj with q | q | ⟨g, hg, e2⟩
  · rw [q] at hu; cases hu
  · rw [q] at hb; cases hb
  · refine ⟨g, hg, ?_⟩
    rw [e2]
    obtain ⟨r1, r2⟩ := raiseN_raised (knotAt s k).mine (omFire (tranAt n.trans j) (knotAt s k).mark) (n.places.toNat + 1)
    have hlen : (addL (subL x (tranAt n.trans j).pre) (tranAt n.trans j).post).length = x.length := by rw [add_length, sub_length]; omega
    refine ⟨by rw [hlen, ← hc.1]; exact r1.trans (mapTo_length _ _), fun p hp => ?_⟩
    rw [hlen] at hp
    show nth (raiseN _ _ _) p = -1 ∨ _ ≤ nth (raiseN _ _ _) p
    rcases r2 p with q | q
    · exact .inl q
    · rw [q, omFire, mapTo_nth _ _ _ (by rw [hc.1]; exact hp), omAt, add_at, sub_at]
      split
      · exact .inl rfl
      · rename_i hne
        rcases hc.2 p hp with q2 | q2
        · exact absurd q2 hne
        · exact .inr (by omega)

theorem TreeOk.cov_run {n : NetL} {m : List Int} {s : List KnotX} (h : TreeOk n m s) (seq : List Int) : ∀ {a x : List Int}, (∃ k, k < s.length ∧ CovM (knotAt s k).mark a) → runL n a seq = (x, 0) → ∃ k, k < s.length ∧ CovM (knotAt s k).mark x := by
  induction seq with
  | nil => intro a x ha e; obtain ⟨_, rfl⟩ := run_nil.1 e; exact ha
  | cons t ts ih => intro a x ha e; obtain ⟨z, h1, h2⟩ := run_cons.1 e; exact ih (h.cov_step ha h1) h2
/-- Nothing rises above it. -/
theorem TreeOk.covers {n : NetL} {m x : List Int} {s : List KnotX} (h : TreeOk n m s) {seq : List Int} (e : runL n m seq = (x, 0)) : ∃ k, k < s.length ∧ CovM (knotAt s k).mark x :=
  h.cov_run seq ⟨0, h.pos, by rw [h.first]; exact ⟨rfl, fun p _ => .inr (Int.le_refl _)⟩⟩ e

/-- A firing, however many tokens there are. -/
def StepZ (n : NetL) (x : List Int) (t : Nat) (y : List Int) : Prop := t < n.trans.length ∧ (∀ p, nth (tranAt n.trans t).pre p ≤ nth x p) ∧ y = addL (subL x (tranAt n.trans t).pre) (tranAt n.trans t).post
/-- What is come to by firings. -/
def ReachZ (n : NetL) (a b : List Int) : Prop := ∀ P : List Int → Prop, P a → (∀ (x y : List Int) (t : Nat), P x → StepZ n x t y → P y) → P b
theorem ReachZ.here {n : NetL} {a : List Int} : ReachZ n a a := fun _ h _ => h
theorem ReachZ.step {n : NetL} {a x y : List Int} {t : Nat} (h : ReachZ n a x) (hs : StepZ n x t y) : ReachZ n a y := fun P h0 h1 => h1 x y t (h P h0 h1) hs
theorem ReachZ.ind {n : NetL} {a : List Int} {motive : (b : List Int) → ReachZ n a b → Prop} (here : motive a ReachZ.here) (step : ∀ {x y : List Int} {t : Nat} (h : ReachZ n a x) (hs : StepZ n x t y), motive x h → motive y (h.step hs)) {b : List Int} (h : ReachZ n a b) : motive b h := by
  obtain ⟨h', q⟩ := h (fun b => ∃ h : ReachZ n a b, motive b h) ⟨ReachZ.here, here⟩ (fun x y t ⟨hx, qx⟩ hs => ⟨hx.step hs, step hx hs qx⟩)
  exact q
theorem ReachZ.trans {n : NetL} {a b c : List Int} (h : ReachZ n a b) (k : ReachZ n b c) : ReachZ n a c := by
  induction k using ReachZ.ind with
  | here => exact h
  | step _ hs ih => exact ih.step hs
theorem ReachZ.length {n : NetL} (hn : netOk n = true) {a b : List Int} (h : ReachZ n a b) (ha : (a.length : Int) = n.places) : (b.length : Int) = n.places := by
  induction h using ReachZ.ind with
  | here => exact ha
  | step _ hs ih =>
    obtain ⟨ht, _, rfl⟩ := hs
    obtain ⟨l1, l2⟩ := tran_length hn ht
    rw [add_length, sub_length]; omega
theorem StepZ.nonneg {n : NetL} (hn : netOk n = true) {x y : List Int} {t : Nat} (h : StepZ n x t y) (p : Nat) : 0 ≤ nth y p := by
  obtain ⟨ht, hc, rfl⟩ := h
  have := hc p
  have := (tran_weights hn ht p).2
  rw [add_at, sub_at]; omega
/-- With so much more it can be done as well. -/
theorem ReachZ.more {n : NetL} (hn : netOk n = true) {a b d : List Int} (h : ReachZ n a b) (ha : (a.length : Int) = n.places) (hd : (d.length : Int) = n.places) (h0 : ∀ p, 0 ≤ nth d p) : ReachZ n (addL a d) (addL b d) := by
  induction h using ReachZ.ind with
  | here => exact .here
  | @step x y t hr hs ih =>
    refine ih.step (t := t) ?_
    have hx := hr.length hn ha
    obtain ⟨ht, hc, rfl⟩ := hs
    obtain ⟨l1, l2⟩ := tran_length hn ht
    refine ⟨ht, fun p => by rw [add_at]; have := hc p; have := h0 p; omega, eq_of_at (by simp only [add_length, sub_length]; omega) fun p => by simp only [add_at, sub_at]; omega⟩

theorem omFire_plain {n : NetL} (hn : netOk n = true) {t : Nat} (ht : t < n.trans.length) {x : List Int} (hl : (x.length : Int) = n.places) (h : ∀ p, nth x p ≠ -1) : omFire (tranAt n.trans t) x = addL (subL x (tranAt n.trans t).pre) (tranAt n.trans t).post := by
  obtain ⟨l1, l2⟩ := tran_length hn ht
  refine eq_of_at (by rw [omFire, mapTo_length, add_length, sub_length]; omega) fun p => ?_
  rw [add_at, sub_at]
  by_cases hp : p < x.length
  · rw [omFire, mapTo_nth _ _ _ hp, omAt, if_neg (h p)]
  · rw [omFire, nth_past _ p (by rw [mapTo_length]; omega), nth_past x p (by omega), nth_past (tranAt n.trans t).pre p (by omega), nth_past (tranAt n.trans t).post p (by omega)]; rfl
theorem below_plain {n : NetL} (hn : netOk n = true) {t : Nat} (ht : t < n.trans.length) {x : List Int} (hl : (x.length : Int) = n.places) (h : ∀ p, nth x p ≠ -1) : belowL (tranAt n.trans t).pre x = true ↔ ∀ p, nth (tranAt n.trans t).pre p ≤ nth x p := by
  obtain ⟨l1, l2⟩ := tran_length hn ht
  rw [belowL_iff]
  constructor
  · intro q p
    by_cases hp : p < x.length
    · have := q p hp; rw [moreL_no] at this; have := h p; omega
    · rw [nth_past _ p (by omega), nth_past x p (by omega)]; omega
  · intro q p hp
    rw [moreL_no]
    have := q p
    have := (tran_weights hn ht p).1
    omega

/-- Where the first J knots have nowhere Many, they are come to; and what they come of leads to them. -/
theorem TreeOk.exact {n : NetL} {m : List Int} {s : List KnotX} (h : TreeOk n m s) {J : Nat} (hJ : J ≤ s.length) (hm : ∀ i, i < J → ∀ p, nth (knotAt s i).mark p ≠ -1) : ∀ i, i < J →
    ReachZ n m (knotAt s i).mark ∧ ∀ y ∈ (knotAt s i).line, ReachZ n m y ∧ ReachZ n y (knotAt s i).mark := by
  obtain ⟨hn, hl, hr⟩ := fits_net h.fits
  intro i
  induction i using Nat.strongRecOn with
  | ind i ih =>
    intro hi
    by_cases e : i = 0
    · subst e
      rw [h.first]
      exact ⟨.here, fun y hy => by simp [rootK] at hy⟩
    · obtain ⟨u, t, hu, ht, hb, e1⟩ := h.child i (by omega) (by omega)
      obtain ⟨q1, q2⟩ := ih u hu (by omega)
      have hmu := hm u (by omega)
      have hlu := (h.marks (j := u) (by omega)).1
      have hz : (knotAt s i).mark = addL (subL (knotAt s u).mark (tranAt n.trans t).pre) (tranAt n.trans t).post := by
        have r := raiseN_raised (knotAt s u).mine (omFire (tranAt n.trans t) (knotAt s u).mark) (n.places.toNat + 1)
        have := r.same (fun p => by have := hm i hi p; rw [e1] at this; exact this)
        rw [e1]
        exact this.trans (omFire_plain hn ht hlu hmu)
      have hst : StepZ n (knotAt s u).mark t (knotAt s i).mark := ⟨ht, (below_plain hn ht hlu hmu).1 hb, hz⟩
      refine ⟨q1.step hst, fun y hy => ?_⟩
      rw [e1] at hy
      rcases List.mem_append.1 (show y ∈ (knotAt s u).line ++ [(knotAt s u).mark] from hy) with q | q
      · exact ⟨(q2 y q).1, (q2 y q).2.step hst⟩
      · rw [List.mem_singleton] at q; subst q; exact ⟨q1, ReachZ.here.step hst⟩

/-- Where nothing has Many, all that is come to is there. -/
theorem TreeOk.all {n : NetL} {m x : List Int} {s : List KnotX} (h : TreeOk n m s) (hm : ∀ i, i < s.length → ∀ p, nth (knotAt s i).mark p ≠ -1) (hr : ReachZ n m x) : ∃ k, k < s.length ∧ (knotAt s k).mark = x := by
  obtain ⟨hn, hl, _⟩ := fits_net h.fits
  induction hr using ReachZ.ind with
  | here => exact ⟨0, h.pos, by rw [h.first]; rfl⟩
  | @step x y t _ hs ih =>
    obtain ⟨k0, hk0, e0⟩ := ih
    obtain ⟨k, hk, e, hu⟩ := h.unseen k0 hk0
    rw [e0] at e
    obtain ⟨ht, hc, rfl⟩ := hs
    have hlk := (h.marks hk).1
    have hb := (below_plain hn ht hlk (hm k hk)).2 (by rw [e]; exact hc)
    rcases h.whole k t hk ht with q | q | ⟨g, hg, e2⟩
    · rw [q] at hu; cases hu
    · rw [q] at hb; cases hb
    · refine ⟨g, hg, ?_⟩
      have r := raiseN_raised (knotAt s k).mine (omFire (tranAt n.trans t) (knotAt s k).mark) (n.places.toNat + 1)
      have := r.same (fun p => by have := hm g hg p; rw [e2] at this; exact this)
      rw [e2, ← e]
      exact this.trans (omFire_plain hn ht hlk (hm k hk))

theorem run_reachZ {n : NetL} (seq : List Int) : ∀ {a x : List Int}, runL n a seq = (x, 0) → ReachZ n a x := by
  induction seq with
  | nil => intro a x e; obtain ⟨_, rfl⟩ := run_nil.1 e; exact .here
  | cons t ts ih =>
    intro a x e
    obtain ⟨z, h1, h2⟩ := run_cons.1 e
    obtain ⟨j, rfl, hj, _, hc, _, rfl⟩ := fire_ok h1
    exact (ReachZ.here.step ⟨hj, (coversL_iff _ _).1 hc, rfl⟩).trans (ih h2)

theorem fire_code {n : NetL} {x : List Int} (hf : fitsL n x = true) {t : Nat} (ht : t < n.trans.length) (hc : ∀ p, nth (tranAt n.trans t).pre p ≤ nth x p) : (fireL n x t).2 ≠ 3 := by
  unfold fireL
  rw [hf, decide_eq_true (show (0 : Int) ≤ t by omega), decide_eq_true (show (t : Int) < n.trans.length by omega), Int.toNat_natCast, (coversL_iff _ _).2 hc]
  simp only [Bool.and_true, if_true]
  split <;> simp

/-- What is come to is among all marks. -/
theorem Whole.has {n : NetL} {m x : List Int} {s : SpaceL} (h : Whole n m s) (hr : ReachZ n m x) : ∃ g, g < s.marks.length ∧ markAt s.marks g = x := by
  induction hr using ReachZ.ind with
  | here => exact ⟨0, h.here⟩
  | @step x y t _ hs ih =>
    obtain ⟨f, hf, rfl⟩ := ih
    obtain ⟨ht, hc, rfl⟩ := hs
    have hfit : fitsL n (markAt s.marks f) = true := by obtain ⟨_, _, hF, _⟩ := h; exact hF.fits _ (markAt_mem hf)
    rcases h.fire hf t with q | ⟨j, g, e, _, hg, e2⟩
    · exact absurd q (fire_code hfit ht hc)
    · obtain ⟨j', e3, _, _, _, _, e4⟩ := fire_ok e2
      have : j' = t := by omega
      subst this
      exact ⟨g, hg, e4⟩
theorem Whole.fits {n : NetL} {m : List Int} {s : SpaceL} (h : Whole n m s) {g : Nat} (hg : g < s.marks.length) : fitsL n (markAt s.marks g) = true := by
  obtain ⟨_, _, hF, _⟩ := h; exact hF.fits _ (markAt_mem hg)

/-- What was found is come to. -/
theorem Found.reachZ {n : NetL} {m : List Int} {most k t : Nat} {s : SpaceL} (h : Found n m most k t s) : ∀ g, g < s.marks.length → ReachZ n m (markAt s.marks g) := by
  intro g
  induction g using Nat.strongRecOn with
  | ind g ih =>
    intro hg
    by_cases e : g = 0
    · subst e; rw [h.first]; exact .here
    · obtain ⟨a, ha, hlt⟩ := h.par g (by omega) hg
      obtain ⟨h1, h2⟩ := firstTo_mem ha
      obtain ⟨q1, q2, q3, q4, q5⟩ := h.sound a h1
      obtain ⟨j, e3, hj, _, hc, _, e4⟩ := fire_ok q5
      rw [h2] at e4
      exact (ih a.frm hlt q1).step ⟨hj, (coversL_iff _ _).1 hc, e4⟩

/-- What has nowhere Many is bounded: or there are more tokens than marks may have. -/
theorem TreeOk.full {n : NetL} {m : List Int} {s : List KnotX} (h : TreeOk n m s) (hm : ∀ i, i < s.length → ∀ p, nth (knotAt s i).mark p ≠ -1) (hg : (graphL n m 300).2 ≠ 0) : ∃ k p, k < s.length ∧ 1000000 < nth (knotAt s k).mark p := by
  obtain ⟨hn, hl, _⟩ := fits_net h.fits
  have hno : graphTo n m 300 300 = none := by
    unfold graphL at hg
    rw [graphOk_300 h.fits] at hg
    simp only [if_true] at hg
    cases e : graphTo n m 300 300 with
    | none => rfl
    | some sp => exact absurd (show _ from hg) (by rw [show (300 : Int).toNat = 300 from rfl, e]; simp)
  obtain ⟨f, j, sp, hj, hF, hf, ht⟩ := graph_broke (by omega) h.fits 300 hno
  have hfit := hF.fits _ (markAt_mem hf)
  have hz := hF.reachZ f hf
  unfold tryT at ht
  split at ht
  · cases ht
  · rename_i h3
    have hcv : coversL (markAt sp.marks f) (tranAt n.trans j).pre = true := by
      cases hc : coversL (markAt sp.marks f) (tranAt n.trans j).pre
      · refine absurd ?_ h3
        unfold fireL
        rw [hfit, Int.toNat_natCast, hc]; simp
      · rfl
    have hst : StepZ n (markAt sp.marks f) j (addL (subL (markAt sp.marks f) (tranAt n.trans j).pre) (tranAt n.trans j).post) := ⟨hj, (coversL_iff _ _).1 hcv, rfl⟩
    cases hr : rightL (addL (subL (markAt sp.marks f) (tranAt n.trans j).pre) (tranAt n.trans j).post)
    · obtain ⟨k, hk, e⟩ := h.all hm (hz.step hst)
      have hnr : ¬ ∀ p, 0 ≤ nth (knotAt s k).mark p ∧ nth (knotAt s k).mark p ≤ 1000000 := by rw [← rightL_iff, e, hr]; simp
      rw [Classical.not_forall] at hnr
      obtain ⟨p, hp⟩ := hnr
      have := hst.nonneg hn p
      rw [← e] at this
      exact ⟨k, p, hk, by omega⟩
    · have e1 := fire_mk hj hfit hcv hr
      rw [e1] at ht
      simp only [BEq.rfl, if_true] at ht
      split at ht
      · cases ht
      · rename_i hfn
        split at ht
        · rename_i hlen
          exfalso
          have hx := findM_none hfn
          have hnd : (sp.marks ++ [addL (subL (markAt sp.marks f) (tranAt n.trans j).pre) (tranAt n.trans j).post]).Nodup := by
            rw [List.nodup_append]
            exact ⟨hF.nodup, by simp, fun a ha b hb e => by rw [List.mem_singleton] at hb; subst hb; subst e; exact hx ha⟩
          have := nodup_sub (l2 := s.map KnotX.mark) hnd (fun x hx => by
            have hxz : ReachZ n m x := by
              rcases List.mem_append.1 hx with q | q
              · obtain ⟨i, hi, rfl⟩ := List.getElem_of_mem q
                have := hF.reachZ i hi
                rw [markAt, List.getD_eq_getElem?_getD, List.getElem?_eq_getElem hi] at this
                exact this
              · rw [List.mem_singleton] at q; subst q; exact hz.step hst
            obtain ⟨k, hk, e⟩ := h.all hm hxz
            rw [← e, knotAt_get hk]
            exact List.mem_map.2 ⟨s[k], List.getElem_mem hk, rfl⟩)
          simp at this
          have := h.room
          omega
        · cases ht

theorem TreeOk.same {n : NetL} {m : List Int} {s : List KnotX} {sp : SpaceL} (h : TreeOk n m s) (hm : ∀ i, i < s.length → ∀ p, nth (knotAt s i).mark p ≠ -1) (hg : graphL n m 300 = (sp, 0)) :
    (∀ g, g < sp.marks.length → ∃ k, k < s.length ∧ (knotAt s k).mark = markAt sp.marks g) ∧ ∀ k, k < s.length → ∃ g, g < sp.marks.length ∧ markAt sp.marks g = (knotAt s k).mark := by
  have hw := graphL_whole hg
  refine ⟨fun g hlt => ?_, fun k hk => hw.has (h.exact (Nat.le_refl _) hm k hk).1⟩
  obtain ⟨_, _, hF, _⟩ := hw
  exact h.all hm (hF.reachZ g hlt)

/-- Where there are Many there is no end. -/
theorem TreeOk.many {n : NetL} {m : List Int} {s : List KnotX} (h : TreeOk n m s) (hm : ∃ i p, i < s.length ∧ nth (knotAt s i).mark p = -1) : (graphL n m 300).2 = 4 := by
  obtain ⟨hn, hl, hr⟩ := fits_net h.fits
  have main : ∀ sp, graphL n m 300 ≠ (sp, 0) := by
    intro sp hg
    have hw := graphL_whole hg
    -- the first knot that has Many
    have hex : ∃ i, i < s.length ∧ (∃ p, nth (knotAt s i).mark p = -1) ∧ ∀ i', i' < i → ∀ p, nth (knotAt s i').mark p ≠ -1 := by
      obtain ⟨i, p, hi, hp⟩ := hm
      clear hg hw
      induction i using Nat.strongRecOn generalizing p with
      | ind i ih =>
        by_cases hall : ∀ i', i' < i → ∀ p, nth (knotAt s i').mark p ≠ -1
        · exact ⟨i, hi, ⟨p, hp⟩, hall⟩
        · rw [Classical.not_forall] at hall
          obtain ⟨i', hall⟩ := hall
          rw [Classical.not_imp] at hall
          obtain ⟨hi', hall⟩ := hall
          rw [Classical.not_forall] at hall
          obtain ⟨p', hp'⟩ := hall
          exact ih i' hi' p' (by omega) (Classical.not_not.1 hp')
    obtain ⟨i, hi, ⟨p0, hp0⟩, hfirst⟩ := hex
    have hi0 : 0 < i := by
      rcases Nat.eq_zero_or_pos i with e | e
      · subst e
        rw [h.first] at hp0
        have := (rightL_iff m).1 hr p0
        have hp0 : nth m p0 = -1 := hp0
        omega
      · exact e
    obtain ⟨u, t, hu, ht, hb, e1⟩ := h.child i hi0 hi
    have hmu := hfirst u hu
    have hlu := (h.marks (j := u) (by omega)).1
    have hx := omFire_plain hn ht hlu hmu
    have hst : StepZ n (knotAt s u).mark t (omFire (tranAt n.trans t) (knotAt s u).mark) := ⟨ht, (below_plain hn ht hlu hmu).1 hb, hx⟩
    obtain ⟨z1, z2⟩ := h.exact (Nat.le_of_lt hi) hfirst u hu
    -- somebody below it, with less somewhere
    have hy : ∃ y ∈ (knotAt s u).mine, belowL y (omFire (tranAt n.trans t) (knotAt s u).mark) = true ∧ ∃ p, p < (omFire (tranAt n.trans t) (knotAt s u).mark).length ∧ moreL (nth (omFire (tranAt n.trans t) (knotAt s u).mark) p) (nth y p) = true := by
      refine Classical.byContradiction fun hno => ?_
      have := raise_still (mine := (knotAt s u).mine) (x := omFire (tranAt n.trans t) (knotAt s u).mark) (fun y hy hyb p hp => by
        cases hmo : moreL (nth (omFire (tranAt n.trans t) (knotAt s u).mark) p) (nth y p)
        · rfl
        · exact absurd ⟨y, hy, hyb, p, hp, hmo⟩ hno) (n.places.toNat + 1)
      rw [e1] at hp0
      have hp0 : nth (raiseN (knotAt s u).mine (omFire (tranAt n.trans t) (knotAt s u).mark) (n.places.toNat + 1)) p0 = -1 := hp0
      rw [this] at hp0
      have := hst.nonneg hn p0
      omega
    generalize omFire (tranAt n.trans t) (knotAt s u).mark = x at *
    obtain ⟨y, hym, hyb, p, hp, hmore⟩ := hy
    have hyz : ReachZ n m y ∧ ReachZ n y x := by
      rcases List.mem_append.1 (show y ∈ (knotAt s u).line ++ [(knotAt s u).mark] from hym) with q | q
      · exact ⟨(z2 y q).1, (z2 y q).2.step hst⟩
      · rw [List.mem_singleton] at q; subst q; exact ⟨z1, ReachZ.here.step hst⟩
    have hyl := hyz.1.length hn hl
    have hxl := hyz.2.length hn hyl
    have hx0 := fun q => hst.nonneg hn q
    have hle : ∀ q, nth y q ≤ nth x q := by
      intro q
      by_cases hq : q < x.length
      · have := (belowL_iff _ _).1 hyb q hq
        rw [moreL_no] at this
        have := hx0 q
        omega
      · rw [nth_past y q (by omega), nth_past x q (by omega)]; omega
    have hlt : nth y p < nth x p := by rw [moreL_yes] at hmore; have := hx0 p; omega
    -- again and again
    have hrep : ∀ c : Nat, ∃ z, ReachZ n m z ∧ (z.length : Int) = n.places ∧ (∀ q, nth y q ≤ nth z q) ∧ nth y p + c ≤ nth z p := by
      intro c
      induction c with
      | zero => exact ⟨y, hyz.1, hyl, fun q => Int.le_refl _, by simp⟩
      | succ c ih =>
        obtain ⟨z, hz, hzl, hz1, hz2⟩ := ih
        have ed : addL y (subL z y) = z := eq_of_at (by rw [add_length, sub_length]; omega) fun q => by rw [add_at, sub_at]; omega
        have hm2 := hyz.2.more hn hyl (d := subL z y) (by rw [sub_length]; omega) (fun q => by rw [sub_at]; have := hz1 q; omega)
        rw [ed] at hm2
        refine ⟨_, hz.trans hm2, by rw [add_length, sub_length]; omega, fun q => ?_, ?_⟩
        · rw [add_at, sub_at]; have := hz1 q; have := hle q; omega
        · rw [add_at, sub_at]; push_cast; omega
    obtain ⟨z, hz, _, _, hz2⟩ := hrep 2000002
    obtain ⟨g, hg1, rfl⟩ := hw.has hz
    have := (fits_net (hw.fits hg1)).2.2
    have := (rightL_iff _).1 this p
    obtain ⟨g2, hg2, e2⟩ := hw.has hyz.1
    have hy2 := (fits_net (hw.fits hg2)).2.2
    rw [e2] at hy2
    have := (rightL_iff _).1 hy2 p
    omega
  have hco : graphOk n m 300 = true := graphOk_300 h.fits
  unfold graphL at main ⊢
  rw [hco] at main ⊢
  simp only [if_true] at main ⊢
  split at main
  · rename_i sp e; exact absurd rfl (main sp)
  · rfl

/-- What is no more than another one, which is no more than a third. -/
theorem moreL_trans {a b c : Int} (h1 : moreL a b = false) (h2 : moreL b c = false) : moreL a c = false := by
  rw [moreL_no] at *; omega
theorem topL_ge (p : Nat) (l : List KnotL) : ∀ x, moreL x (topL p l x) = false ∧ ∀ k ∈ l, moreL (nth k.mark p) (topL p l x) = false := by
  induction l with
  | nil => exact fun x => ⟨by rw [moreL_no]; show x = -1 ∨ x ≠ -1 ∧ x ≤ x; omega, fun k hk => by simp at hk⟩
  | cons k l ih =>
    intro x
    have e : topL p (k :: l) x = topL p l (if moreL (nth k.mark p) x then nth k.mark p else x) := rfl
    rw [e]
    obtain ⟨q1, q2⟩ := ih (if moreL (nth k.mark p) x then nth k.mark p else x)
    cases hk : moreL (nth k.mark p) x
    · rw [hk] at q1 q2
      simp only [Bool.false_eq_true, if_false] at q1 q2 ⊢
      exact ⟨q1, fun k' hk' => by
        rcases List.mem_cons.1 hk' with rfl | h'
        · exact moreL_trans hk q1
        · exact q2 k' h'⟩
    · rw [hk] at q1 q2
      simp only [if_true] at q1 q2 ⊢
      refine ⟨moreL_trans ?_ q1, fun k' hk' => ?_⟩
      · rw [moreL_yes] at hk; rw [moreL_no]; omega
      · rcases List.mem_cons.1 hk' with rfl | h'
        · exact q1
        · exact q2 k' h'

/-- A limit is one. -/
theorem limit_run {n : NetL} {m x : List Int} {p most k : Int} {seq : List Int} (h : limitL n m p most = (k, 0)) (hr : runL n m seq = (x, 0)) : k = -1 ∨ (0 ≤ p ∧ p < x.length ∧ nth x p.toNat ≤ k) := by
  unfold limitL at h
  split at h
  · rename_i h0
    split at h
    · rename_i hp
      simp only [Bool.and_eq_true, decide_eq_true_eq] at hp
      simp only [Prod.mk.injEq, and_true] at h
      obtain ⟨s, el, hT⟩ := treeL_ok (n := n) (m := m) (most := most) (l := (treeL n m most).1) (Prod.ext rfl (by simpa using h0))
      obtain ⟨j, hj, hc⟩ := hT.covers hr
      have hl := (fits_net (run_fits seq hr).2).2.1
      have := (topL_ge p.toNat (treeL n m most).1 0).2 (knotAt s j).knot (by rw [el, knotAt_get hj]; exact List.mem_map.2 ⟨s[j], List.getElem_mem hj, rfl⟩)
      rw [h, moreL_no] at this
      rcases this with q | ⟨q1, q2⟩
      · exact .inl q
      · right
        refine ⟨hp.1, by omega, ?_⟩
        have q1 : nth (knotAt s j).mark p.toNat ≠ -1 := q1
        have q2 : nth (knotAt s j).mark p.toNat ≤ k := q2
        rcases hc.2 p.toNat (by omega) with q3 | q3
        · exact absurd q3 q1
        · omega
    · simp at h
  · rename_i h0
    simp only [Prod.mk.injEq] at h
    rw [h.2] at h0
    simp at h0
theorem limit_err {n : NetL} {m : List Int} {p most : Int} (h : (limitL n m p most).2 ≠ 0) : (limitL n m p most).1 = 0 := by
  unfold limitL at h ⊢
  split
  · rename_i h0
    split
    · rename_i hp; rw [if_pos h0, if_pos hp] at h; simp at h
    · rfl
  · rfl

end Go.Proofs.Ytakgppoeikcepaa

/- Plain words for nets that always come to their end; van der Aalst. -/
namespace Go.Proofs.Ytakgppoeikcepaa
set_option linter.unusedVariables false
set_option maxRecDepth 4000

structure VerdL where
  kind : Int
  at_ : List Int
  tran : Int

/-- It has the end, and something beside. -/
def ExtraM (E x : List Int) : Prop := coversL x E = true ∧ x ≠ E

/-- What is told of the marks that are found. -/
structure SaysV (n : NetL) (E : List Int) (s : SpaceL) (v : VerdL) : Prop where
  extra : ∀ k, k < s.marks.length → ExtraM E (markAt s.marks k) → (∀ j, j < k → ¬ ExtraM E (markAt s.marks j)) → v = ⟨2, markAt s.marks k, 0⟩
  stuck : (∀ j, j < s.marks.length → ¬ ExtraM E (markAt s.marks j)) → ∀ k, k < s.marks.length → ¬ ReachZ n (markAt s.marks k) E → (∀ j, j < k → ReachZ n (markAt s.marks j) E) → v = ⟨3, markAt s.marks k, 0⟩
  dead : (∀ j, j < s.marks.length → ¬ ExtraM E (markAt s.marks j)) → (∀ j, j < s.marks.length → ReachZ n (markAt s.marks j) E) → ∀ t ts, deadL (toZ s) n.trans.length = t :: ts → v = ⟨4, [], t⟩
  sound : (∀ j, j < s.marks.length → ¬ ExtraM E (markAt s.marks j)) → (∀ j, j < s.marks.length → ReachZ n (markAt s.marks j) E) → deadL (toZ s) n.trans.length = [] → v = ⟨1, [], 0⟩

structure Verd (n : NetL) (i o most : Int) (v : VerdL) (e : Int) : Prop where
  wrong : ¬ ShapeOk n i o → Judged n i o e ∧ v = ⟨0, [], 0⟩
  full : ShapeOk n i o → (graphL n (startL n.places i) most).2 ≠ 0 → e = (graphL n (startL n.places i) most).2 ∧ v = ⟨0, [], 0⟩
  right : ShapeOk n i o → ∀ s, graphL n (startL n.places i) most = (s, 0) → e = 0 ∧ SaysV n (startL n.places o) s v

theorem least_no {Q : Nat → Prop} {N : Nat} (h : ¬ ∀ j, j < N → Q j) : ∃ j, j < N ∧ ¬ Q j ∧ ∀ i, i < j → Q i := by
  induction N with
  | zero => exact absurd (fun j hj => absurd hj (Nat.not_lt_zero _)) h
  | succ N ih =>
    by_cases q : ∀ j, j < N → Q j
    · refine ⟨N, by omega, fun hN => h fun j hj => ?_, q⟩
      by_cases e : j = N
      · subst e; exact hN
      · exact q j (by omega)
    · obtain ⟨j, h1, h2, h3⟩ := ih q
      exact ⟨j, by omega, h2, h3⟩

/-- One of the four is so. -/
theorem SaysV.cases {n : NetL} {E : List Int} {s : SpaceL} {v : VerdL} (h : SaysV n E s v) :
    (∃ k, k < s.marks.length ∧ ExtraM E (markAt s.marks k) ∧ (∀ j, j < k → ¬ ExtraM E (markAt s.marks j)) ∧ v = ⟨2, markAt s.marks k, 0⟩) ∨
    ((∀ j, j < s.marks.length → ¬ ExtraM E (markAt s.marks j)) ∧ ∃ k, k < s.marks.length ∧ ¬ ReachZ n (markAt s.marks k) E ∧ (∀ j, j < k → ReachZ n (markAt s.marks j) E) ∧ v = ⟨3, markAt s.marks k, 0⟩) ∨
    ((∀ j, j < s.marks.length → ¬ ExtraM E (markAt s.marks j)) ∧ (∀ j, j < s.marks.length → ReachZ n (markAt s.marks j) E) ∧ ∃ t ts, deadL (toZ s) n.trans.length = t :: ts ∧ v = ⟨4, [], t⟩) ∨
    ((∀ j, j < s.marks.length → ¬ ExtraM E (markAt s.marks j)) ∧ (∀ j, j < s.marks.length → ReachZ n (markAt s.marks j) E) ∧ deadL (toZ s) n.trans.length = [] ∧ v = ⟨1, [], 0⟩) := by
  by_cases h1 : ∀ j, j < s.marks.length → ¬ ExtraM E (markAt s.marks j)
  · right
    by_cases h2 : ∀ j, j < s.marks.length → ReachZ n (markAt s.marks j) E
    · right
      cases hd : deadL (toZ s) n.trans.length with
      | nil => exact .inr ⟨h1, h2, rfl, h.sound h1 h2 hd⟩
      | cons t ts => exact .inl ⟨h1, h2, t, ts, rfl, h.dead h1 h2 t ts hd⟩
    · obtain ⟨k, q1, q2, q3⟩ := least_no h2
      exact .inl ⟨h1, k, q1, q2, q3, h.stuck h1 k q1 q2 q3⟩
  · left
    obtain ⟨k, q1, q2, q3⟩ := least_no h1
    have q2 := Classical.not_not.1 q2
    exact ⟨k, q1, q2, q3, h.extra k q1 q2 q3⟩

theorem SaysV.unique {n : NetL} {E : List Int} {s : SpaceL} {v u : VerdL} (h : SaysV n E s v) (k : SaysV n E s u) : v = u := by
  rcases h.cases with ⟨j, a1, a2, a3, e⟩ | ⟨a1, j, a2, a3, a4, e⟩ | ⟨a1, a2, t, ts, a3, e⟩ | ⟨a1, a2, a3, e⟩
  · rw [e, k.extra j a1 a2 a3]
  · rw [e, k.stuck a1 j a2 a3 a4]
  · rw [e, k.dead a1 a2 t ts a3]
  · rw [e, k.sound a1 a2 a3]

theorem Verd.unique {n : NetL} {i o most e f : Int} {v u : VerdL} (h : Verd n i o most v e) (k : Verd n i o most u f) : v = u ∧ e = f := by
  by_cases hs : ShapeOk n i o
  · cases hg : graphL n (startL n.places i) most with
    | mk s d =>
      by_cases hd : d = 0
      · subst hd
        obtain ⟨h1, h2⟩ := h.right hs s hg
        obtain ⟨k1, k2⟩ := k.right hs s hg
        exact ⟨h2.unique k2, by rw [h1, k1]⟩
      · obtain ⟨h1, h2⟩ := h.full hs (by rw [hg]; exact hd)
        obtain ⟨k1, k2⟩ := k.full hs (by rw [hg]; exact hd)
        exact ⟨by rw [h2, k2], by rw [h1, k1]⟩
  · obtain ⟨h1, h2⟩ := h.wrong hs
    obtain ⟨k1, k2⟩ := k.wrong hs
    exact ⟨by rw [h2, k2], h1.unique k1⟩

theorem Verd.zero {n : NetL} {i o most : Int} {v : VerdL} (h : Verd n i o most v 0) : ShapeOk n i o ∧ ∃ s, graphL n (startL n.places i) most = (s, 0) ∧ SaysV n (startL n.places o) s v := by
  by_cases hs : ShapeOk n i o
  · cases hg : graphL n (startL n.places i) most with
    | mk s d =>
      by_cases hd : d = 0
      · subst hd; exact ⟨hs, s, rfl, (h.right hs s hg).2⟩
      · have := (h.full hs (by rw [hg]; exact hd)).1
        rw [hg] at this
        exact absurd this.symm hd
  · exact absurd (h.wrong hs).1.zero hs
theorem Verd.none {n : NetL} {i o most e : Int} {v : VerdL} (h : Verd n i o most v e) (he : e ≠ 0) : v = ⟨0, [], 0⟩ := by
  by_cases hs : ShapeOk n i o
  · cases hg : graphL n (startL n.places i) most with
    | mk s d =>
      by_cases hd : d = 0
      · subst hd; exact absurd (h.right hs s hg).1 he
      · exact (h.full hs (by rw [hg]; exact hd)).2
  · exact (h.wrong hs).2

/-- What is sound. -/
theorem SaysV.kind {n : NetL} {E : List Int} {s : SpaceL} {v : VerdL} (h : SaysV n E s v) : v.kind = 1 ↔ (∀ j, j < s.marks.length → ¬ ExtraM E (markAt s.marks j)) ∧ (∀ j, j < s.marks.length → ReachZ n (markAt s.marks j) E) ∧ deadL (toZ s) n.trans.length = [] := by
  constructor
  · intro hk
    rcases h.cases with ⟨j, a1, a2, a3, e⟩ | ⟨a1, j, a2, a3, a4, e⟩ | ⟨a1, a2, t, ts, a3, e⟩ | ⟨a1, a2, a3, e⟩
    · rw [e] at hk; simp at hk
    · rw [e] at hk; simp at hk
    · rw [e] at hk; simp at hk
    · exact ⟨a1, a2, a3⟩
  · rintro ⟨a1, a2, a3⟩
    rw [h.sound a1 a2 a3]

/-! ### what is within some marks is told -/
theorem graph_within {n : NetL} {m : List Int} {most : Nat} {L : List (List Int)} (hm : 1 ≤ most) (hmx : most ≤ 300) (hf : fitsL n m = true) (hL : L.length ≤ most) (hin : ∀ x, ReachZ n m x → x ∈ L) (hr : ∀ x, ReachZ n m x → rightL x = true) : ∃ u, graphL n m most = (u, 0) := by
  have hok : graphOk n m most = true := by simp [graphOk, hf]; omega
  cases hg : graphTo n m most most with
  | some u => exact ⟨u, by rw [graphL, hok]; simp only [if_true, Int.toNat_natCast]; rw [hg]⟩
  | none =>
    exfalso
    obtain ⟨f, j, sp, hj, hF, hff, ht⟩ := graph_broke hm hf _ hg
    have hfit := hF.fits _ (markAt_mem hff)
    have hz := hF.reachZ f hff
    unfold tryT at ht
    split at ht
    · cases ht
    · rename_i h3
      have hcv : coversL (markAt sp.marks f) (tranAt n.trans j).pre = true := by
        cases hc : coversL (markAt sp.marks f) (tranAt n.trans j).pre
        · refine absurd ?_ h3
          unfold fireL
          rw [hfit, Int.toNat_natCast, hc]; simp
        · rfl
      have hst : StepZ n (markAt sp.marks f) j (addL (subL (markAt sp.marks f) (tranAt n.trans j).pre) (tranAt n.trans j).post) := ⟨hj, (coversL_iff _ _).1 hcv, rfl⟩
      have e1 := fire_mk hj hfit hcv (hr _ (hz.step hst))
      rw [e1] at ht
      simp only [BEq.rfl, if_true] at ht
      split at ht
      · cases ht
      · rename_i hfn
        split at ht
        · rename_i hlen
          have hx := findM_none hfn
          have hnd : (sp.marks ++ [addL (subL (markAt sp.marks f) (tranAt n.trans j).pre) (tranAt n.trans j).post]).Nodup := by
            rw [List.nodup_append]
            exact ⟨hF.nodup, by simp, fun a ha b hb e => by rw [List.mem_singleton] at hb; subst hb; subst e; exact hx ha⟩
          have := nodup_sub (l2 := L) hnd (fun x hx => hin x (by
            rcases List.mem_append.1 hx with q | q
            · obtain ⟨i, hi, rfl⟩ := List.getElem_of_mem q
              have := hF.reachZ i hi
              rw [markAt, List.getD_eq_getElem?_getD, List.getElem?_eq_getElem hi] at this
              exact this
            · rw [List.mem_singleton] at q; subst q; exact hz.step hst))
          simp at this
          omega
        · cases ht

/-- What was found is come to, and all that. -/
theorem Whole.iff {n : NetL} {m x : List Int} {s : SpaceL} (h : Whole n m s) : ReachZ n m x ↔ ∃ g, g < s.marks.length ∧ markAt s.marks g = x := by
  refine ⟨h.has, ?_⟩
  rintro ⟨g, hg, rfl⟩
  obtain ⟨_, _, hF, _⟩ := h
  exact hF.reachZ g hg
theorem Whole.right_of {n : NetL} {m x : List Int} {s : SpaceL} (h : Whole n m s) (hr : ReachZ n m x) : fitsL n x = true := by
  obtain ⟨g, hg, rfl⟩ := h.has hr
  exact h.fits hg

/-- Where more comes of less there is no end. -/
theorem no_pump {n : NetL} {m d : List Int} {s : SpaceL} (h : Whole n m s) (hd : (d.length : Int) = n.places) (h0 : ∀ p, 0 ≤ nth d p) (hp : ∃ p, nth d p ≠ 0) (hr : ReachZ n m (addL m d)) : False := by
  have hfm := h.right_of (ReachZ.here (n := n) (a := m))
  obtain ⟨hn, hl, hrm⟩ := fits_net hfm
  have rep : ∀ k : Nat, ∃ x, ReachZ n m x ∧ (x.length : Int) = n.places ∧ ∀ p, nth x p = nth m p + k * nth d p := by
    intro k
    induction k with
    | zero => exact ⟨m, ReachZ.here, hl, fun p => by simp⟩
    | succ k ih =>
      obtain ⟨x, hx, hxl, hxp⟩ := ih
      -- k times d beside
      let kd : List Int := subL x m
      have hkl : (kd.length : Int) = n.places := by show ((subL x m).length : Int) = _; rw [sub_length]; omega
      have hk0 : ∀ p, 0 ≤ nth kd p := fun p => by
        show 0 ≤ nth (subL x m) p
        rw [sub_at, hxp p]
        have := h0 p
        have : 0 ≤ (k : Int) * nth d p := Int.mul_nonneg (by omega) this
        omega
      have q := ReachZ.more hn hr hl hkl hk0
      have e : addL m kd = x := by
        refine eq_of_at (by show (addL m (subL x m)).length = _; rw [add_length, sub_length]; omega) fun p => ?_
        show nth (addL m (subL x m)) p = _
        rw [add_at, sub_at]; omega
      rw [e] at q
      refine ⟨addL (addL m d) kd, hx.trans q, by rw [add_length, add_length]; omega, fun p => ?_⟩
      show nth (addL (addL m d) (subL x m)) p = _
      rw [add_at, add_at, sub_at, hxp p]
      have : ((k + 1 : Nat) : Int) * nth d p = (k : Int) * nth d p + nth d p := by rw [Int.natCast_add, Int.add_mul]; simp
      omega
  obtain ⟨p, hp⟩ := hp
  obtain ⟨x, hx, _, hxp⟩ := rep 1000001
  have h1 := (okTok_nth (fits_net (h.right_of hx)).2.2 p).2
  have h2 := (okTok_nth hrm p).1
  have h3 := h0 p
  have := hxp p
  omega

end Go.Proofs.Ytakgppoeikcepaa

/- Van der Aalst: a net is sound just if, closed, it has a bound and all its transitions are live. -/
namespace Go.Proofs.Ytakgppoeikcepaa
set_option linter.unusedVariables false
set_option maxRecDepth 4000

theorem stepC {n : NetL} {i o : Int} {x y : List Int} {t : Nat} (h : StepZ (closeL n i o) x t y) : StepZ n x t y ∨ (t = n.trans.length ∧ (∀ p, nth (startL n.places o) p ≤ nth x p) ∧ y = addL (subL x (startL n.places o)) (startL n.places i)) := by
  obtain ⟨ht, hc, e⟩ := h
  rw [close_count] at ht
  by_cases q : t < n.trans.length
  · rw [close_at n i o q] at hc e
    exact .inl ⟨q, hc, e⟩
  · have : t = n.trans.length := by omega
    subst this
    rw [close_last] at hc e
    exact .inr ⟨rfl, hc, e⟩
theorem stepC_of {n : NetL} {i o : Int} {x y : List Int} {t : Nat} (h : StepZ n x t y) : StepZ (closeL n i o) x t y := by
  obtain ⟨ht, hc, e⟩ := h
  exact ⟨by rw [close_count]; omega, by rw [close_at n i o ht]; exact hc, by rw [close_at n i o ht]; exact e⟩
theorem stepC_last {n : NetL} {i o : Int} {x : List Int} (h : ∀ p, nth (startL n.places o) p ≤ nth x p) : StepZ (closeL n i o) x n.trans.length (addL (subL x (startL n.places o)) (startL n.places i)) :=
  ⟨by rw [close_count]; omega, by rw [close_last]; exact h, by rw [close_last]⟩
theorem round_same2 (P i o : Int) : addL (subL (startL P o) (startL P o)) (startL P i) = startL P i := by
  refine eq_of_at ?_ fun j => ?_
  · rw [add_length, sub_length]
    simp only [start_length]
    omega
  · rw [add_at, sub_at]; omega
theorem stepC_end (n : NetL) (i o : Int) : StepZ (closeL n i o) (startL n.places o) n.trans.length (startL n.places i) := by
  have h := stepC_last (n := n) (i := i) (o := o) (x := startL n.places o) fun _ => Int.le_refl _
  rwa [round_same2] at h
theorem reachC {n : NetL} {i o : Int} {a b : List Int} (h : ReachZ n a b) : ReachZ (closeL n i o) a b := by
  induction h using ReachZ.ind with
  | here => exact .here
  | step _ hs ih => exact ih.step (stepC_of hs)

/-- Where nothing has anything beside the end, what covers it is it. -/
theorem only_end {E x : List Int} (h : ¬ ExtraM E x) (hc : ∀ p, nth E p ≤ nth x p) : x = E := by
  by_cases e : x = E
  · exact e
  · exact absurd ⟨(coversL_iff _ _).2 hc, e⟩ h
theorem reachC_in {n : NetL} {i o : Int} {x : List Int} (hx : ∀ x, ReachZ n (startL n.places i) x → ¬ ExtraM (startL n.places o) x) (h : ReachZ (closeL n i o) (startL n.places i) x) : ReachZ n (startL n.places i) x := by
  induction h using ReachZ.ind with
  | here => exact .here
  | step _ hs ih =>
    rcases stepC hs with q | ⟨_, hc, rfl⟩
    · exact ih.step q
    · rw [only_end (hx _ ih) hc, round_same2]
      exact .here
theorem reachC_end {n : NetL} {i o : Int} {x y : List Int} (hx : ∀ x, ReachZ n (startL n.places i) x → ¬ ExtraM (startL n.places o) x) (h0 : ReachZ n (startL n.places i) x) (h : ReachZ (closeL n i o) x y) : ReachZ n x y ∨ ReachZ n x (startL n.places o) := by
  induction h using ReachZ.ind with
  | here => exact .inl .here
  | step _ hs ih =>
    rcases ih with ih | ih
    · rcases stepC hs with q | ⟨_, hc, rfl⟩
      · exact .inl (ih.step q)
      · right
        rw [← only_end (hx _ (h0.trans ih)) hc]
        exact ih
    · exact .inr ih

theorem Whole.reach_comes {n : NetL} {m y : List Int} {s : SpaceL} (h : Whole n m s) {f : Nat} (hf : f < s.marks.length) (hr : ReachZ n (markAt s.marks f) y) : ∃ g : Nat, g < s.marks.length ∧ markAt s.marks g = y ∧ Comes (toZ s) f g := by
  induction hr using ReachZ.ind with
  | here => exact ⟨f, hf, rfl, Comes.here _⟩
  | @step x y t _ hs ih =>
    obtain ⟨g, hg, rfl, hc⟩ := ih
    obtain ⟨ht, hcv, rfl⟩ := hs
    rcases h.fire hg t with q | ⟨j, g2, e, ha, hg2, e2⟩
    · exact absurd q (fire_code (h.fits hg) ht hcv)
    · obtain ⟨j', e3, _, _, _, _, e4⟩ := fire_ok e2
      have : j' = t := by omega
      subst this
      have hz : ((g : Int), (j : Int), (g2 : Int)) ∈ (toZ s).arcs := mem_arcZ.2 ⟨_, ha, rfl⟩
      exact ⟨g2, hg2, e4, Comes.go (a := ((g : Int), (j : Int), (g2 : Int))) hc hz⟩
theorem Whole.comes_reach {n : NetL} {m : List Int} {s : SpaceL} (h : Whole n m s) {f : Nat} (hf : f < s.marks.length) {y : Int} (hc : Comes (toZ s) f y) : ∃ g : Nat, y = g ∧ g < s.marks.length ∧ ReachZ n (markAt s.marks f) (markAt s.marks g) := by
  obtain ⟨j, e, hj, seq, hs⟩ := h.comes_run hf hc
  exact ⟨j, e, hj, run_reachZ seq hs⟩
/-- Who can fire has an arc. -/
theorem Whole.has_arc {n : NetL} {m : List Int} {s : SpaceL} (h : Whole n m s) {f t : Nat} (hf : f < s.marks.length) (ht : t < n.trans.length) (hc : ∀ p, nth (tranAt n.trans t).pre p ≤ nth (markAt s.marks f) p) : ∃ a ∈ (toZ s).arcs, a.2.1 = t ∧ a.1 = f := by
  rcases h.fire hf t with q | ⟨j, g2, e, ha, hg2, e2⟩
  · exact absurd q (fire_code (h.fits hf) ht hc)
  · exact ⟨((f : Int), (j : Int), (g2 : Int)), mem_arcZ.2 ⟨_, ha, rfl⟩, e.symm, rfl⟩
theorem Whole.arc_can {n : NetL} {m : List Int} {s : SpaceL} (h : Whole n m s) {a : Int × Int × Int} (ha : a ∈ (toZ s).arcs) : ∃ f t : Nat, a.1 = f ∧ a.2.1 = t ∧ f < s.marks.length ∧ t < n.trans.length ∧ ∀ p, nth (tranAt n.trans t).pre p ≤ nth (markAt s.marks f) p := by
  obtain ⟨b, hb, rfl⟩ := mem_arcZ.1 ha
  obtain ⟨h1, h2, h3, h4⟩ := h.sound b hb
  obtain ⟨k, e, _, _, hc, _⟩ := fire_ok h4
  have : k = b.tran := by omega
  subst this
  exact ⟨b.frm, b.tran, rfl, rfl, h1, h3, (coversL_iff _ _).1 hc⟩

theorem range_all {N : Nat} {xs : List Int} (hu : xs.Pairwise (· < ·)) (hin : ∀ t ∈ xs, 0 ≤ t ∧ t < N) : xs.length = N ↔ ∀ t : Nat, t < N → (t : Int) ∈ xs := by
  have e : xs = (rangeL N).filter fun t => xs.contains t := by
    refine up_unique hu ((range_sorted N).sublist List.filter_sublist) fun t => ?_
    rw [List.mem_filter, mem_range, List.contains_iff_mem]
    exact ⟨fun h => ⟨hin t h, h⟩, fun h => h.2⟩
  have hl : (rangeL N).length = N := by simp [rangeL]
  constructor
  · intro h t ht
    have : (rangeL N).filter (fun t => xs.contains t) = rangeL N := List.filter_sublist.eq_of_length (by rw [← e, hl]; exact h)
    have hm : (t : Int) ∈ rangeL N := mem_range.2 (by omega)
    rw [← this, List.mem_filter, List.contains_iff_mem] at hm
    exact hm.2
  · intro h
    have : (rangeL N).filter (fun t => xs.contains t) = rangeL N := by
      rw [List.filter_eq_self]
      intro t ht
      rw [List.contains_iff_mem]
      obtain ⟨h1, h2⟩ := mem_range.1 ht
      obtain ⟨k, rfl⟩ := Int.eq_ofNat_of_zero_le h1
      exact h k (by omega)
    rw [e, this, hl]

section
variable {n : NetL} {i o most : Int} {s : SpaceL} {v : VerdL}

theorem mark_len (h : Whole n (startL n.places i) s) {j : Nat} (hj : j < s.marks.length) : ((markAt s.marks j).length : Int) = n.places := (fits_net (h.fits hj)).2.1

/-- What is sound has, closed, as many marks. -/
theorem close_graph (hS : ShapeOk n i o) (hl : n.trans.length < 24) (hg : graphL n (startL n.places i) most = (s, 0)) (hv : SaysV n (startL n.places o) s v) (hk : v.kind = 1) : ∃ u, graphL (closeL n i o) (startL n.places i) 300 = (u, 0) := by
  obtain ⟨h1, h2, h3⟩ := hv.kind.1 hk
  have hW := graphL_whole hg
  obtain ⟨m1, m2, _, _, hF⟩ := graphL_ok hg
  have hx : ∀ x, ReachZ n (startL n.places i) x → ¬ ExtraM (startL n.places o) x := fun x hr => by
    obtain ⟨g, hgl, rfl⟩ := hW.has hr
    exact h1 g hgl
  have hfit : fitsL (closeL n i o) (startL n.places i) = true := by rw [close_fits hS.ok hl]; exact start_fits hS.ok i
  have := graph_within (n := closeL n i o) (m := startL n.places i) (most := 300) (L := s.marks) (by omega) (by omega) hfit (by have := hF.most_le; omega) (fun x hr => by
    obtain ⟨g, hgl, rfl⟩ := hW.has (reachC_in hx hr)
    exact markAt_mem hgl) (fun x hr => (fits_net (hW.right_of (reachC_in hx hr))).2.2)
  exact this

/-- Van der Aalst. -/
theorem close_live {u : SpaceL} {xs : List Int} (hS : ShapeOk n i o) (hl : n.trans.length < 24) (hg : graphL n (startL n.places i) most = (s, 0)) (hv : SaysV n (startL n.places o) s v) (hu : graphL (closeL n i o) (startL n.places i) 300 = (u, 0))
    (hL : IsLive (toZ u) ((n.trans.length + 1 : Nat) : Int) xs) : v.kind = 1 ↔ xs.length = n.trans.length + 1 := by
  have hW := graphL_whole hg
  have hC := graphL_whole hu
  have hok := close_ok hS.ok hl i o
  have hin : ∀ t ∈ xs, 0 ≤ t ∧ t < ((n.trans.length + 1 : Nat) : Int) := fun t ht => by
    obtain ⟨_, q1, q2, _⟩ := (hL.mem t).1 ht
    omega
  rw [range_all hL.up hin, hv.kind]
  constructor
  · rintro ⟨h1, h2, h3⟩ t ht
    have hx : ∀ x, ReachZ n (startL n.places i) x → ¬ ExtraM (startL n.places o) x := fun x hr => by
      obtain ⟨g, hgl, rfl⟩ := hW.has hr
      exact h1 g hgl
    refine (hL.mem t).2 ⟨hC.right, by omega, by omega, fun k hk0 hk => ?_⟩
    obtain ⟨k, rfl⟩ := Int.eq_ofNat_of_zero_le hk0
    have hk : k < u.marks.length := by
      have : (k : Int) < (u.marks.length : Int) := hk
      omega
    have r0 : ReachZ n (startL n.places i) (markAt u.marks k) := reachC_in hx (hC.iff.2 ⟨k, hk, rfl⟩)
    obtain ⟨g, hgl, eg⟩ := hW.has r0
    have r1 : ReachZ (closeL n i o) (markAt u.marks k) (startL n.places o) := by
      have := h2 g hgl
      rw [eg] at this
      exact reachC this
    by_cases hT : t = n.trans.length
    · obtain ⟨e, he, ee, hc⟩ := hC.reach_comes hk r1
      obtain ⟨a, ha, a1, a2⟩ := hC.has_arc (t := n.trans.length) he (by rw [close_count]; omega) (fun p => by rw [close_last, ee]; exact Int.le_refl _)
      exact ⟨a, ha, by rw [a1, hT], by rw [a2]; exact hc⟩
    · have hnd : ¬ (t : Int) ∈ deadL (toZ s) n.trans.length := by rw [h3]; simp
      have : ∃ a ∈ (toZ s).arcs, a.2.1 = (t : Int) := by
        refine Classical.byContradiction fun q => hnd (mem_dead.2 ⟨by omega, by omega, fun a ha e => q ⟨a, ha, e⟩⟩)
      obtain ⟨a, ha, ea⟩ := this
      obtain ⟨f, t', e1, e2, hf, ht', hcv⟩ := hW.arc_can ha
      have : t' = t := by omega
      subst this
      have r2 : ReachZ (closeL n i o) (markAt u.marks k) (markAt s.marks f) := (r1.step (stepC_end n i o)).trans (reachC (hW.iff.2 ⟨f, hf, rfl⟩))
      obtain ⟨e, he, ee, hc⟩ := hC.reach_comes hk r2
      obtain ⟨b, hb, b1, b2⟩ := hC.has_arc (t := t') he (by rw [close_count]; omega) (fun p => by rw [close_at n i o ht', ee]; exact hcv p)
      exact ⟨b, hb, b1, by rw [b2]; exact hc⟩
  · intro hall
    have live : ∀ t : Nat, t < n.trans.length + 1 → ∀ k : Nat, k < u.marks.length → ∃ (f : Nat), f < u.marks.length ∧ ReachZ (closeL n i o) (markAt u.marks k) (markAt u.marks f) ∧ ∀ p, nth (tranAt (closeL n i o).trans t).pre p ≤ nth (markAt u.marks f) p := by
      intro t ht k hk
      obtain ⟨_, _, _, q⟩ := (hL.mem t).1 (hall t ht)
      obtain ⟨a, ha, e1, hc⟩ := q k (by omega) (by show (k : Int) < (u.marks.length : Int); omega)
      obtain ⟨f, t', e2, e3, hf, ht', hcv⟩ := hC.arc_can ha
      have : t' = t := by omega
      subst this
      obtain ⟨g, eg, hgl, hr⟩ := hC.comes_reach hk hc
      have : g = f := by omega
      subst this
      exact ⟨g, hgl, hr, hcv⟩
    have h1 : ∀ x, ReachZ n (startL n.places i) x → ¬ ExtraM (startL n.places o) x := by
      intro x hr hx
      obtain ⟨hcv, hne⟩ := hx
      have hcv := (coversL_iff _ _).1 hcv
      have hxl : (x.length : Int) = n.places := hr.length hS.ok (start_len hS.ok i)
      have hel := start_len hS.ok o
      have hsl := start_len hS.ok i
      have r : ReachZ (closeL n i o) (startL n.places i) (addL (startL n.places i) (subL x (startL n.places o))) := by
        have := (reachC (i := i) (o := o) hr).step (stepC_last hcv)
        have e : addL (subL x (startL n.places o)) (startL n.places i) = addL (startL n.places i) (subL x (startL n.places o)) := by
          refine eq_of_at (by rw [add_length, add_length]; omega) fun p => ?_
          rw [add_at, add_at]; omega
        rwa [e] at this
      refine no_pump hC (by show ((subL x (startL n.places o)).length : Int) = n.places; rw [sub_length]; omega) (fun p => by rw [sub_at]; have := hcv p; omega) ?_ r
      refine Classical.byContradiction fun q => hne (eq_of_at (by omega) fun p => ?_)
      have : nth (subL x (startL n.places o)) p = 0 := Classical.byContradiction fun z => q ⟨p, z⟩
      rw [sub_at] at this
      omega
    have inN : ∀ f, f < u.marks.length → ReachZ n (startL n.places i) (markAt u.marks f) := fun f hf => reachC_in h1 (hC.iff.2 ⟨f, hf, rfl⟩)
    refine ⟨fun j hj => h1 _ (hW.iff.2 ⟨j, hj, rfl⟩), fun j hj => ?_, ?_⟩
    · have r0 : ReachZ n (startL n.places i) (markAt s.marks j) := hW.iff.2 ⟨j, hj, rfl⟩
      obtain ⟨k, hk, ek⟩ := hC.has (reachC r0)
      obtain ⟨f, hf, hr, hcv⟩ := live n.trans.length (by omega) k hk
      rw [close_last] at hcv
      have e := only_end (h1 _ (inN f hf)) hcv
      rw [ek, e] at hr
      rcases reachC_end h1 r0 hr with q | q
      · exact q
      · exact q
    · rw [List.eq_nil_iff_forall_not_mem]
      intro t ht
      obtain ⟨q1, q2, q3⟩ := mem_dead.1 ht
      obtain ⟨t, rfl⟩ := Int.eq_ofNat_of_zero_le q1
      have htT : t < n.trans.length := by omega
      obtain ⟨f, hf, hr, hcv⟩ := live t (by omega) 0 hC.here.1
      rw [close_at n i o htT] at hcv
      obtain ⟨g, hgl, eg⟩ := hW.has (inN f hf)
      rw [← eg] at hcv
      obtain ⟨a, ha, a1, _⟩ := hW.has_arc hgl htT hcv
      exact q3 a ha a1

end

end Go.Proofs.Ytakgppoeikcepaa

/- Which verdict it is, plainly. -/
namespace Go.Proofs.Ytakgppoeikcepaa
set_option linter.unusedVariables false
set_option maxRecDepth 4000

theorem shape_two {n : NetL} {i o : Int} (h : ShapeOk n i o) : 2 ≤ n.places := by
  have h1 := h.i0
  have h2 := h.o0
  have h3 := h.i1
  have h4 := h.o1
  have h5 := h.ne
  omega
theorem says_extra {n : NetL} {E : List Int} {s : SpaceL} {k : Nat} (hk : k < s.marks.length) (h : ExtraM E (markAt s.marks k)) (h0 : ∀ j, j < k → ¬ ExtraM E (markAt s.marks j)) : SaysV n E s ⟨2, markAt s.marks k, 0⟩ := by
  refine ⟨fun j hj hx hj0 => ?_, fun q => absurd h (q k hk), fun q => absurd h (q k hk), fun q => absurd h (q k hk)⟩
  rcases Nat.lt_trichotomy j k with e | e | e
  · exact absurd hx (h0 j e)
  · rw [e]
  · exact absurd h (hj0 k e)
theorem says_stuck {n : NetL} {E : List Int} {s : SpaceL} {k : Nat} (hx : ∀ j, j < s.marks.length → ¬ ExtraM E (markAt s.marks j)) (hk : k < s.marks.length) (h : ¬ ReachZ n (markAt s.marks k) E) (h0 : ∀ j, j < k → ReachZ n (markAt s.marks j) E) : SaysV n E s ⟨3, markAt s.marks k, 0⟩ := by
  refine ⟨fun j hj q _ => absurd q (hx j hj), fun _ j hj hr hj0 => ?_, fun _ q => absurd (q k hk) h, fun _ q => absurd (q k hk) h⟩
  rcases Nat.lt_trichotomy j k with e | e | e
  · exact absurd (h0 j e) hr
  · rw [e]
  · exact absurd (hj0 k e) h
theorem says_dead {n : NetL} {E : List Int} {s : SpaceL} {t : Int} {ts : List Int} (hx : ∀ j, j < s.marks.length → ¬ ExtraM E (markAt s.marks j)) (hr : ∀ j, j < s.marks.length → ReachZ n (markAt s.marks j) E) (hd : deadL (toZ s) n.trans.length = t :: ts) : SaysV n E s ⟨4, [], t⟩ := by
  refine ⟨fun j hj q _ => absurd q (hx j hj), fun _ j hj q _ => absurd (hr j hj) q, fun _ _ t' ts' e => ?_, fun _ _ e => ?_⟩
  · rw [hd] at e; injection e with e1 _; rw [e1]
  · rw [hd] at e; cases e
theorem says_sound {n : NetL} {E : List Int} {s : SpaceL} (hx : ∀ j, j < s.marks.length → ¬ ExtraM E (markAt s.marks j)) (hr : ∀ j, j < s.marks.length → ReachZ n (markAt s.marks j) E) (hd : deadL (toZ s) n.trans.length = []) : SaysV n E s ⟨1, [], 0⟩ := by
  refine ⟨fun j hj q _ => absurd q (hx j hj), fun _ j hj q _ => absurd (hr j hj) q, fun _ _ t' ts' e => ?_, fun _ _ _ => rfl⟩
  rw [hd] at e; cases e
theorem verd_right {n : NetL} {i o most : Int} {s : SpaceL} {x : VerdL} (hS : ShapeOk n i o) (hg : graphL n (startL n.places i) most = (s, 0)) (h : SaysV n (startL n.places o) s x) : Verd n i o most x 0 := by
  refine ⟨fun q => absurd hS q, fun _ q => ?_, fun _ u hu => ?_⟩
  · rw [hg] at q; exact absurd rfl q
  · rw [hg] at hu; injection hu with e _; subst e; exact ⟨rfl, h⟩
theorem verd_full {n : NetL} {i o most : Int} (hS : ShapeOk n i o) (hg : (graphL n (startL n.places i) most).2 ≠ 0) : Verd n i o most ⟨0, [], 0⟩ (graphL n (startL n.places i) most).2 := by
  refine ⟨fun q => absurd hS q, fun _ _ => ⟨rfl, rfl⟩, fun _ u hu => ?_⟩
  rw [hu] at hg; exact absurd rfl hg

end Go.Proofs.Ytakgppoeikcepaa
