import Derived.Test.YtakgppoeikcepaaGr05
import Derived.Test.YtakgppoeikcepaaGr03
import Derived.Test.YtakgppoeikcepaaGr06
import Derived.Test.YtakgppoeikcepaaGr00
/- Package net, as it landed: what is wrong, and which marks fit. -/
namespace Go.Proofs.Ytakgppoeikcepaa
open Go.RowKit
set_option linter.unusedVariables false
set_option maxRecDepth 4000

set_option maxHeartbeats 400000 in
theorem upTo_any (x y : Int) (w : World) :
    Calls Try.prog 42 #[.int .i64 x, .int .i64 y] w fun e w' => e = .returned (.bool (decide (0 ≤ x) && decide (x ≤ y))) ∧ w' = w := by
  by_cases h1 : 0 ≤ x <;> by_cases h2 : x ≤ y <;>
  · go_enter Try.func42, Try.ntmps42
    go_wp2
    go_ret
    exact ⟨by simp [h1, h2], rfl⟩

/-- What a transition may take or put. -/
def weighs (n : NetL) (xs : List Int) : Bool := ((xs.length : Int) == n.places) && xs.all weightOk

set_option maxHeartbeats 400000 in
theorem weights_any (v u : Value) (n : NetL) (xs : List Int) (w : World) (hv : Net w v n) (hu : Ints w u xs) :
    Calls Try.prog 43 #[v, u] w fun e w' => e = .returned (.bool (weighs n xs)) ∧ Below w.heap.size w w' := by
  obtain ⟨tv, rfl, hT⟩ := hv
  have b1 := below_new w (.cells #[.int .i64 n.places, tv] 24)
  have hu1 := hu.below b1
  have hbx := box2_new w (.int .i64 n.places) tv 24
  clear hT hu
  obtain ⟨a, len, cap, rfl, hlen, hmx, hsh, hr⟩ := hu1
  obtain ⟨x0, x1, x2⟩ := hbx
  cases hl : ((len : Int) == n.places)
  · have hl' : ((len : Int) != n.places) = true := by simpa using hl
    have F : Hid (weighs n xs = false) := by show _ = _; unfold weighs; rw [hlen, hl]; rfl
    clear hl
    go_enter Try.func43, Try.ntmps43
    go_wp2
    go_ret
    exact ⟨ret_bool F.out.symm, b1⟩
  · have hl' : ((len : Int) != n.places) = false := by simpa using hl
    have F : Hid (weighs n xs = xs.all weightOk) := by show _ = _; unfold weighs; rw [hlen, hl]; rfl
    clear hl
    go_enter Try.func43, Try.ntmps43
    go_wp2_with fail
    clear x0 x1 x2
    go_loop [14] (fun i => ∃ j : Nat, j ≤ len ∧ i = .int .i64 j ∧ Hid (weighTo xs j = true)) (fun i => len - (intOf i).toNat)
    case atStart => exact ⟨0, Nat.zero_le _, rfl, rfl⟩
    case round =>
      obtain ⟨j, hj, rfl, hw⟩ := hrel
      by_cases hjn : j < len
      · obtain ⟨b, off, rfl, hb, hc⟩ := hr j (by omega)
        have Hst : Hid _ := weighTo_succ xs j (by omega)
        have Hno : Hid (weightOk (nth xs j) = false → weighs n xs = false) := by
          intro h
          rw [F.out, List.all_eq_false]
          refine ⟨xs[j]'(by omega), List.getElem_mem _, ?_⟩
          have e : nth xs j = xs[j]'(by omega) := by simp [nth, List.getD, List.getElem?_eq_getElem (show j < xs.length by omega)]
          rw [← e, h]; simp
        clear hr
        go_wp2_with fail
        refine (upTo_any _ _ _).mono ?_
        rintro e w2 ⟨rfl, rfl⟩
        have Hwo : Hid ((decide (0 ≤ nth xs j) && decide (nth xs j ≤ 9)) = weightOk (nth xs j)) := rfl
        rw [Hwo.out]
        cases hk : weightOk (nth xs j)
        · have F2 : Hid _ := Hno.out hk
          clear Hno hk Hst
          go_wp2
          go_ret
          exact ⟨ret_bool F2.out.symm, b1⟩
        · have F2 : Hid (weighTo xs (j + 1) = true) := by show _ = _; rw [Hst.out, hw.out, hk]; rfl
          clear Hno hk Hst
          go_wp2
          go_round
          case rel => exact ⟨j + 1, by omega, by go_num, F2⟩
          case measure => simp [intOf]; omega
      · have F2 : Hid (weighs n xs = true) := by show _ = _; rw [F.out, ← weighTo_all xs j (by omega)]; exact hw.out
        go_wp2
        go_ret
        exact ⟨ret_bool F2.out.symm, b1⟩

theorem tranOk_weighs (n : NetL) (t : TranL) : tranOk n.places t = ((decide (0 ≤ t.label) && decide (t.label ≤ 26)) && weighs n t.pre && weighs n t.post) := by
  unfold tranOk tranHead weighs
  rw [List.all_append]
  cases decide (0 ≤ t.label) <;> cases decide (t.label ≤ 26) <;> cases ((t.pre.length : Int) == n.places) <;> cases ((t.post.length : Int) == n.places) <;> cases t.pre.all weightOk <;> cases t.post.all weightOk <;> rfl

theorem netOk_false_at {n : NetL} {k : Nat} (hk : k < n.trans.length) (h : tranOk n.places (tranAt n.trans k) = false) : netOk n = false := by
  unfold netOk
  rw [Bool.and_eq_false_iff]
  right
  rw [List.all_eq_false]
  refine ⟨n.trans[k], List.getElem_mem _, ?_⟩
  have e : tranAt n.trans k = n.trans[k] := by simp [tranAt, List.getD, List.getElem?_eq_getElem hk]
  rw [← e, h]; simp

set_option maxHeartbeats 1000000 in
theorem wrong_any (v : Value) (n : NetL) (w : World) (hv : Net w v n) :
    Calls Try.prog 26 #[v] w fun e w' => e = .returned (.int .i64 (wrongL n)) ∧ Below w.heap.size w w' := by
  obtain ⟨tv, rfl, hT⟩ := hv
  have b1 := below_new w (.cells #[.int .i64 n.places, tv] 24)
  have hbx := box2_new w (.int .i64 n.places) tv 24
  replace hT := hT.below b1
  obtain ⟨w0, Hw0⟩ : ∃ w0, Hid (w.alloc (.cells #[.int .i64 n.places, tv] 24) = w0) := ⟨_, rfl⟩
  rw [Hw0.out] at b1 hbx hT
  obtain ⟨a, len, cap, rfl, hlen, hmx, hsh, hr⟩ := id hT
  clear hr
  obtain ⟨x0, x1, x2⟩ := id hbx
  go_enter Try.func26, Try.ntmps26
  go_upto_region 1 with fail
  rw [Hw0.out]
  clear Hw0
  go_wp2_with fail
  refine (upTo_any _ _ _).mono ?_
  rintro e w2 ⟨rfl, rfl⟩
  cases hA : (decide (0 ≤ n.places) && decide (n.places ≤ 16))
  · have F : Hid (wrongL n = 2) := by show _ = _; simp only [wrongL, netOk, headOk, hA]; rfl
    clear hA
    go_wp2
    go_ret
    exact ⟨ret_int F.out.symm, b1⟩
  by_cases hB : len ≤ 24
  case neg =>
    have F : Hid (wrongL n = 2) := by show _ = _; simp only [wrongL, netOk, headOk, hA, hlen, decide_eq_false hB]; rfl
    clear hA
    go_wp2
    go_ret
    exact ⟨ret_int F.out.symm, b1⟩
  have F0 : Hid (okTo n 0 = true) := by show _ = _; simp only [okTo, headOk, hA, hlen, decide_eq_true hB]; rfl
  clear hA
  go_wp2_with fail
  go_loopg [18] len (fun g i wr => ∃ k : Nat, k + g = len ∧ i = .int .i64 k ∧ Hid (okTo n k = true) ∧ Below w2.heap.size w2 wr)
  case atStart => exact ⟨0, by omega, rfl, F0, Below.refl _ _⟩
  case round =>
    clear x0 x1 x2 F0
    obtain ⟨k, hkg, rfl, hok, hb⟩ := hrel
    have c := below_then b1 hb
    by_cases hkn : k < len
    · obtain ⟨b, off, c1, c2, rfl, hblt, h0, h1, h2, i1, i2⟩ := (hT.below hb).at hkn
      obtain ⟨x0, x1, x2⟩ := hbx.below hb
      have hv2 : Net wr (.agg #[.int .i64 n.places, .slice (some ⟨b, off, none⟩) len cap]) n := ⟨_, rfl, hT.below hb⟩
      obtain ⟨a1, l1, p1, rfl, _, _, _, _⟩ := id i1
      obtain ⟨a2, l2, p2, rfl, _, _, _, _⟩ := id i2
      have Hok : Hid _ := okTo_succ n k (by omega)
      have Hno : Hid (tranOk n.places (tranAt n.trans k) = false → wrongL n = 2) := fun h => wrongL_not (netOk_false_at (by omega) h)
      have Hto : Hid _ := tranOk_weighs n (tranAt n.trans k)
      have b2 := below_new wr (.cells #[.int .i64 (tranAt n.trans k).label, .slice a1 l1 p1, .slice a2 l2 p2] 37)
      generalize tranAt n.trans k = t at *
      replace hv2 := hv2.below b2
      replace i1 := i1.below b2
      replace i2 := i2.below b2
      go_wp2_with fail
      refine (upTo_any _ _ _).mono ?_
      rintro e w3 ⟨rfl, rfl⟩
      cases hA : (decide (0 ≤ t.label) && decide (t.label ≤ 26))
      · have F : Hid (wrongL n = 2) := Hno.out (by rw [Hto.out, hA]; rfl)
        clear Hno Hto Hok hA
        go_wp2
        go_ret
        exact ⟨ret_int F.out.symm, below_then c b2⟩
      go_wp2_with fail
      refine (weights_any _ _ n t.pre _ (by exact hv2) (by exact i1)).mono ?_
      rintro e w3 ⟨rfl, b3⟩
      cases hB : weighs n t.pre
      · have F : Hid (wrongL n = 2) := Hno.out (by rw [Hto.out, hA, hB]; rfl)
        clear Hno Hto Hok hA
        go_wp2
        go_ret
        exact ⟨ret_int F.out.symm, below_then c (below_then b2 b3)⟩
      have y0 : wr.heap.size < (wr.alloc (.cells #[.int .i64 t.label, .slice a1 l1 p1, .slice a2 l2 p2] 37)).heap.size := by simp
      have y2 : w3.cell? ⟨wr.heap.size, 2, none⟩ = some (.slice a2 l2 p2) := by rw [b3.cell (p := ⟨wr.heap.size, 2, none⟩) y0, World.cell?_alloc_at _ _ _ _ rfl]; rfl
      obtain ⟨z0, z1, z2⟩ := (hbx.below hb).below (below_then b2 b3)
      replace hv2 := hv2.below b3
      replace i2 := i2.below b3
      have b4 := below_then b2 b3
      clear b2 b3 x0 x1 x2 h0 h1 h2 i1 y0
      go_wp2_with fail
      refine (weights_any _ _ n t.post _ (by exact hv2) (by exact i2)).mono ?_
      rintro e w4 ⟨rfl, b3⟩
      replace b4 := below_then b4 b3
      clear y2 z0 z1 z2 hv2 i2 b3
      cases hC : weighs n t.post
      · have F : Hid (wrongL n = 2) := Hno.out (by rw [Hto.out, hA, hB, hC]; rfl)
        clear Hno Hto Hok hA
        go_wp2
        go_ret
        exact ⟨ret_int F.out.symm, below_then c b4⟩
      · have F : Hid (okTo n (k + 1) = true) := by show _ = _; rw [Hok.out, Hto.out, hok.out, hA, hB, hC]; rfl
        have R := below_then hb b4
        clear Hno Hto Hok hA b4
        go_wp2
        go_roundg (gk - 1)
        case measure => omega
        case rel => exact ⟨k + 1, by omega, by go_num, F, R⟩
    · have F : Hid (wrongL n = 0) := by show _ = _; rw [okTo_all n k (by omega)] at hok; exact wrongL_ok hok.out
      go_wp2
      go_ret
      exact ⟨ret_int F.out.symm, c⟩

set_option maxHeartbeats 400000 in
theorem marks_any (v u : Value) (n : NetL) (m : List Int) (w : World) (hv : Net w v n) (hu : Ints w u m) :
    Calls Try.prog 23 #[v, u] w fun e w' => e = .returned (.bool (fitsL n m)) ∧ Below w.heap.size w w' := by
  obtain ⟨tv, rfl, hT⟩ := hv
  have b1 := below_new w (.cells #[.int .i64 n.places, tv] 24)
  have hbx := box2_new w (.int .i64 n.places) tv 24
  have hu1 := hu.below b1
  have hv1 : Net _ _ n := ⟨tv, rfl, hT.below b1⟩
  go_enter Try.func23, Try.ntmps23
  go_wp2_with fail
  refine (wrong_any _ n _ (by exact hv1)).mono ?_
  rintro e w1 ⟨rfl, b2⟩
  have b3 := below_then b1 b2
  have hu2 := hu1.below b2
  obtain ⟨hx0, hx1, hx2⟩ := hbx.below b2
  clear b1 b2 hbx hu1 hv1
  have hu3 := hu2
  obtain ⟨a, len, cap, rfl, hlen, hmx, hsh, hr⟩ := hu2
  clear hr
  cases h1 : netOk n
  · rw [wrongL_not h1]
    have F : Hid (fitsL n m = false) := by show _ = _; simp [fitsL, h1]
    clear h1
    go_wp2
    go_ret
    exact ⟨ret_bool F.out.symm, b3⟩
  · rw [wrongL_ok h1]
    cases h2 : ((len : Int) == n.places)
    · have F : Hid (fitsL n m = false) := by show _ = _; unfold fitsL; rw [hlen, h2]; simp
      clear h1
      go_wp2
      go_ret
      exact ⟨ret_bool F.out.symm, b3⟩
    · have F : Hid (fitsL n m = rightL m) := by show _ = _; unfold fitsL; rw [h1, hlen, h2]; simp
      clear h1
      go_wp2_with fail
      refine (right_any _ m _ hu3).mono ?_
      rintro e w' ⟨rfl, rfl⟩
      go_wp2
      go_ret
      exact ⟨ret_bool F.out.symm, b3⟩

end Go.Proofs.Ytakgppoeikcepaa

/- The answers of the document itself for shape: the mark at the beginning. -/
namespace Go.Proofs.Ytakgppoeikcepaa
open Go.RowKit
set_option linter.unusedVariables false
set_option maxRecDepth 4000

theorem start_succ (i : Int) (k : Nat) : mapTo (k + 1) (fun p => if (p : Int) = i then 1 else 0) = mapTo k (fun p => if (p : Int) = i then 1 else 0) ++ [if (k : Int) = i then 1 else 0] := mapTo_succ k _

set_option maxHeartbeats 1000000 in
theorem hstart_own (v : Value) (n : NetL) (i : Int) (w : World) (hv : Net w v n) :
    Calls Try.prog 34 #[v, .int .i64 i] w fun e w' => ∃ r, e = .returned r ∧ Own w.heap.size w w' r (startL n.places i) := by
  obtain ⟨tv, rfl, hT⟩ := hv
  obtain ⟨w0, Hw0⟩ : ∃ w0, Hid (w.alloc (.cells #[.int .i64 n.places, tv] 24) = w0) := ⟨_, rfl⟩
  have c : Below w.heap.size w w0 := by rw [← Hw0.out]; exact below_new _ _
  have hbx : Box2 w0 w.heap.size (.int .i64 n.places) tv := by rw [← Hw0.out]; exact box2_new w _ tv 24
  obtain ⟨P, HP⟩ : ∃ P, Hid (n.places = P) := ⟨_, rfl⟩
  rw [HP.out] at hbx Hw0 ⊢
  obtain ⟨N, HN⟩ : ∃ N : Nat, Hid ((min P 16).toNat = N) := ⟨_, rfl⟩
  have HS : Hid _ := start_succ i
  have HL : Hid (∀ k, (mapTo k (fun p => if (p : Int) = i then 1 else 0)).length = k) := fun k => mapTo_length _ _
  have HE : Hid (mapTo N (fun p => if (p : Int) = i then 1 else 0) = startL P i) := by show _ = _; rw [← HN.out]; rfl
  obtain ⟨x0, x1, x2⟩ := id hbx
  have O0 : Own w.heap.size w w0 (.slice none 0 0) (mapTo 0 (fun p => if (p : Int) = i then 1 else 0)) := Own.nil_of c c.size
  rw [← HE.out]
  have hN16 : N ≤ 16 := by rw [← HN.out]; omega
  obtain ⟨K, HK, hK⟩ : ∃ K : Int, Hid (min P 16 = K) ∧ (∀ k : Nat, (k : Int) < K ↔ k < N) := ⟨_, rfl, fun k => by rw [← HN.out]; omega⟩
  have hmin : (P < 16 ∧ K = P) ∨ (P = 16 ∧ K = 16) ∨ (16 < P ∧ K = 16) := by have := HK.out; omega
  clear HN HP HE
  go_enter Try.func34, Try.ntmps34
  go_upto_region 2 with fail
  rw [Hw0.out]
  clear Hw0 HK
  rcases hmin with ⟨h1, rfl⟩ | ⟨rfl, rfl⟩ | ⟨h1, rfl⟩
  all_goals
    go_wp2_with fail
    clear x0 x1 x2 hbx
    go_loopw [5, 10] (fun v a wr => ∃ k : Nat, k ≤ N ∧ a = .int .i64 k ∧ Own w.heap.size w wr v (mapTo k (fun p => if (p : Int) = i then 1 else 0))) (fun _ a _ => N - (intOf a).toNat)
    case atStart => exact ⟨0, Nat.zero_le _, rfl, O0⟩
    case round =>
      clear O0
      obtain ⟨k, hk, rfl, hO⟩ := hrel
      by_cases hkn : k < N
      · have hkK := (hK k).2 hkn
        have Hs : Hid _ := HS.out k
        have Hl : Hid _ := HL.out k
        clear HS HL hK
        by_cases e : (k : Int) = i
        · have R : Hid (mapTo (k + 1) (fun p => if (p : Int) = i then 1 else 0) = mapTo k (fun p => if (p : Int) = i then 1 else 0) ++ [1]) := by show _ = _; rw [Hs.out, if_pos e]
          clear Hs
          go_wp2_with (at_builtin; refine wp_append_int rfl _ _ rfl w.heap.size w _ _ _ 1 hO rfl rfl (by have := Hl.out; omega) ?_; intro v' w3 hO3)
          go_roundw
          case rel => exact ⟨k + 1, by omega, by go_num, by rw [R.out]; exact hO3⟩
          case measure => simp [intOf]; omega
        · have R : Hid (mapTo (k + 1) (fun p => if (p : Int) = i then 1 else 0) = mapTo k (fun p => if (p : Int) = i then 1 else 0) ++ [0]) := by show _ = _; rw [Hs.out, if_neg e]
          clear Hs
          go_wp2_with (at_builtin; refine wp_append_int rfl _ _ rfl w.heap.size w _ _ _ 0 hO rfl rfl (by have := Hl.out; omega) ?_; intro v' w3 hO3)
          go_roundw
          case rel => exact ⟨k + 1, by omega, by go_num, by rw [R.out]; exact hO3⟩
          case measure => simp [intOf]; omega
      · obtain rfl : k = N := by omega
        have hkK := mt (hK k).1 (Nat.lt_irrefl k)
        go_wp2
        go_ret
        exact ⟨_, rfl, hO⟩

end Go.Proofs.Ytakgppoeikcepaa
