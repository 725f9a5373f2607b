/- Package net, as it landed: what is wrong, and which marks fit. -/
import Derived.Test.YteeogdihaajicaaDoorNet2
import Derived.Test.YteeogdihaajicaaDoorMark2
namespace Go.Proofs.YteeogdihaajicaaDoor
open Go.RowKit
set_option linter.unusedVariables false
set_option maxRecDepth 4000

set_option maxHeartbeats 400000 in
theorem upTo_any (x y : Int) (w : World) :
    Calls Tryd.prog 30 #[.int .i64 x, .int .i64 y] w fun e w' => e = .returned (.bool (decide (0 ≤ x) && decide (x ≤ y))) ∧ w' = w := by
  by_cases h1 : 0 ≤ x <;> by_cases h2 : x ≤ y <;>
  · go_enter Tryd.func30, Tryd.ntmps30
    go_wp2
    go_ret
    exact ⟨by simp [h1, h2], rfl⟩

/-- What a transition may take or put. -/
def weighs (n : NetL) (xs : List Int) : Bool := ((xs.length : Int) == n.places) && xs.all weightOk

set_option maxHeartbeats 400000 in
theorem weights_any (v u : Value) (n : NetL) (xs : List Int) (w : World) (hv : Net w v n) (hu : Ints w u xs) :
    Calls Tryd.prog 31 #[v, u] w fun e w' => e = .returned (.bool (weighs n xs)) ∧ Below w.heap.size w w' := by
  obtain ⟨tv, rfl, hT⟩ := hv
  have b1 := below_new w (.cells #[.int .i64 n.places, tv] 24)
  have hu1 := hu.below b1
  have hbx := box2_new w (.int .i64 n.places) tv 24
  clear hT hu
  obtain ⟨a, len, cap, rfl, hlen, hmx, hsh, hr⟩ := hu1
  obtain ⟨x0, x1, x2⟩ := hbx
  cases hl : ((len : Int) == n.places)
  · have hl' : ((len : Int) != n.places) = true := by simpa using hl
    have F : Hid (weighs n xs = false) := by show _ = _; unfold weighs; rw [hlen, hl]; rfl
    clear hl
    go_enter Tryd.func31, Tryd.ntmps31
    go_wp2
    go_ret
    exact ⟨ret_bool F.out.symm, b1⟩
  · have hl' : ((len : Int) != n.places) = false := by simpa using hl
    have F : Hid (weighs n xs = xs.all weightOk) := by show _ = _; unfold weighs; rw [hlen, hl]; rfl
    clear hl
    go_enter Tryd.func31, Tryd.ntmps31
    go_wp2_with fail
    clear x0 x1 x2
    go_loop [14] (fun i => ∃ j : Nat, j ≤ len ∧ i = .int .i64 j ∧ Hid (weighTo xs j = true)) (fun i => len - (intOf i).toNat)
    case atStart => exact ⟨0, Nat.zero_le _, rfl, rfl⟩
    case round =>
      obtain ⟨j, hj, rfl, hw⟩ := hrel
      by_cases hjn : j < len
      · obtain ⟨b, off, rfl, hb, hc⟩ := hr j (by omega)
        have Hst : Hid _ := weighTo_succ xs j (by omega)
        have Hno : Hid (weightOk (nth xs j) = false → weighs n xs = false) := by
          intro h
          rw [F.out, List.all_eq_false]
          refine ⟨xs[j]'(by omega), List.getElem_mem _, ?_⟩
          have e : nth xs j = xs[j]'(by omega) := by simp [nth, List.getD, List.getElem?_eq_getElem (show j < xs.length by omega)]
          rw [← e, h]; simp
        clear hr
        go_wp2_with fail
        refine (upTo_any _ _ _).mono ?_
        rintro e w2 ⟨rfl, rfl⟩
        have Hwo : Hid ((decide (0 ≤ nth xs j) && decide (nth xs j ≤ 9)) = weightOk (nth xs j)) := rfl
        rw [Hwo.out]
        cases hk : weightOk (nth xs j)
        · have F2 : Hid _ := Hno.out hk
          clear Hno hk Hst
          go_wp2
          go_ret
          exact ⟨ret_bool F2.out.symm, b1⟩
        · have F2 : Hid (weighTo xs (j + 1) = true) := by show _ = _; rw [Hst.out, hw.out, hk]; rfl
          clear Hno hk Hst
          go_wp2
          go_round
          case rel => exact ⟨j + 1, by omega, by go_num, F2⟩
          case measure => simp [intOf]; omega
      · have F2 : Hid (weighs n xs = true) := by show _ = _; rw [F.out, ← weighTo_all xs j (by omega)]; exact hw.out
        go_wp2
        go_ret
        exact ⟨ret_bool F2.out.symm, b1⟩

theorem tranOk_weighs (n : NetL) (t : TranL) : tranOk n.places t = ((decide (0 ≤ t.label) && decide (t.label ≤ 26)) && weighs n t.pre && weighs n t.post) := by
  unfold tranOk tranHead weighs
  rw [List.all_append]
  cases decide (0 ≤ t.label) <;> cases decide (t.label ≤ 26) <;> cases ((t.pre.length : Int) == n.places) <;> cases ((t.post.length : Int) == n.places) <;> cases t.pre.all weightOk <;> cases t.post.all weightOk <;> rfl

theorem netOk_false_at {n : NetL} {k : Nat} (hk : k < n.trans.length) (h : tranOk n.places (tranAt n.trans k) = false) : netOk n = false := by
  unfold netOk
  rw [Bool.and_eq_false_iff]
  right
  rw [List.all_eq_false]
  refine ⟨n.trans[k], List.getElem_mem _, ?_⟩
  have e : tranAt n.trans k = n.trans[k] := by simp [tranAt, List.getD, List.getElem?_eq_getElem hk]
  rw [← e, h]; simp

set_option maxHeartbeats 1000000 in
theorem wrong_any (v : Value) (n : NetL) (w : World) (hv : Net w v n) :
    Calls Tryd.prog 13 #[v] w fun e w' => e = .returned (.int .i64 (wrongL n)) ∧ Below w.heap.size w w' := by
  obtain ⟨tv, rfl, hT⟩ := hv
  have b1 := below_new w (.cells #[.int .i64 n.places, tv] 24)
  have hbx := box2_new w (.int .i64 n.places) tv 24
  replace hT := hT.below b1
  obtain ⟨w0, Hw0⟩ : ∃ w0, Hid (w.alloc (.cells #[.int .i64 n.places, tv] 24) = w0) := ⟨_, rfl⟩
  rw [Hw0.out] at b1 hbx hT
  obtain ⟨a, len, cap, rfl, hlen, hmx, hsh, hr⟩ := id hT
  clear hr
  obtain ⟨x0, x1, x2⟩ := id hbx
  go_enter Tryd.func13, Tryd.ntmps13
  go_upto_region 1 with fail
  rw [Hw0.out]
  clear Hw0
  go_wp2_with fail
  refine (upTo_any _ _ _).mono ?_
  rintro e w2 ⟨rfl, rfl⟩
  cases hA : (decide (0 ≤ n.places) && decide (n.places ≤ 16))
  · have F : Hid (wrongL n = 2) := by show _ = _; simp only [wrongL, netOk, headOk, hA]; rfl
    clear hA
    go_wp2
    go_ret
    exact ⟨ret_int F.out.symm, b1⟩
  by_cases hB : len ≤ 24
  case neg =>
    have F : Hid (wrongL n = 2) := by show _ = _; simp only [wrongL, netOk, headOk, hA, hlen, decide_eq_false hB]; rfl
    clear hA
    go_wp2
    go_ret
    exact ⟨ret_int F.out.symm, b1⟩
  have F0 : Hid (okTo n 0 = true) := by show _ = _; simp only [okTo, headOk, hA, hlen, decide_eq_true hB]; rfl
  clear hA
  go_wp2_with fail
  go_loopg [18] len (fun g i wr => ∃ k : Nat, k + g = len ∧ i = .int .i64 k ∧ Hid (okTo n k = true) ∧ Below w2.heap.size w2 wr)
  case atStart => exact ⟨0, by omega, rfl, F0, Below.refl _ _⟩
  case round =>
    clear x0 x1 x2 F0
    obtain ⟨k, hkg, rfl, hok, hb⟩ := hrel
    have c := below_then b1 hb
    by_cases hkn : k < len
    · obtain ⟨b, off, c1, c2, rfl, hblt, h0, h1, h2, i1, i2⟩ := (hT.below hb).at hkn
      obtain ⟨x0, x1, x2⟩ := hbx.below hb
      have hv2 : Net wr (.agg #[.int .i64 n.places, .slice (some ⟨b, off, none⟩) len cap]) n := ⟨_, rfl, hT.below hb⟩
      obtain ⟨a1, l1, p1, rfl, _, _, _, _⟩ := id i1
      obtain ⟨a2, l2, p2, rfl, _, _, _, _⟩ := id i2
      have Hok : Hid _ := okTo_succ n k (by omega)
      have Hno : Hid (tranOk n.places (tranAt n.trans k) = false → wrongL n = 2) := fun h => wrongL_not (netOk_false_at (by omega) h)
      have Hto : Hid _ := tranOk_weighs n (tranAt n.trans k)
      have b2 := below_new wr (.cells #[.int .i64 (tranAt n.trans k).label, .slice a1 l1 p1, .slice a2 l2 p2] 43)
      generalize tranAt n.trans k = t at *
      replace hv2 := hv2.below b2
      replace i1 := i1.below b2
      replace i2 := i2.below b2
      go_wp2_with fail
      refine (upTo_any _ _ _).mono ?_
      rintro e w3 ⟨rfl, rfl⟩
      cases hA : (decide (0 ≤ t.label) && decide (t.label ≤ 26))
      · have F : Hid (wrongL n = 2) := Hno.out (by rw [Hto.out, hA]; rfl)
        clear Hno Hto Hok hA
        go_wp2
        go_ret
        exact ⟨ret_int F.out.symm, below_then c b2⟩
      go_wp2_with fail
      refine (weights_any _ _ n t.pre _ (by exact hv2) (by exact i1)).mono ?_
      rintro e w3 ⟨rfl, b3⟩
      cases hB : weighs n t.pre
      · have F : Hid (wrongL n = 2) := Hno.out (by rw [Hto.out, hA, hB]; rfl)
        clear Hno Hto Hok hA
        go_wp2
        go_ret
        exact ⟨ret_int F.out.symm, below_then c (below_then b2 b3)⟩
      have y0 : wr.heap.size < (wr.alloc (.cells #[.int .i64 t.label, .slice a1 l1 p1, .slice a2 l2 p2] 43)).heap.size := by simp
      have y2 : w3.cell? ⟨wr.heap.size, 2, none⟩ = some (.slice a2 l2 p2) := by rw [b3.cell (p := ⟨wr.heap.size, 2, none⟩) y0, World.cell?_alloc_at _ _ _ _ rfl]; rfl
      obtain ⟨z0, z1, z2⟩ := (hbx.below hb).below (below_then b2 b3)
      replace hv2 := hv2.below b3
      replace i2 := i2.below b3
      have b4 := below_then b2 b3
      clear b2 b3 x0 x1 x2 h0 h1 h2 i1 y0
      go_wp2_with fail
      refine (weights_any _ _ n t.post _ (by exact hv2) (by exact i2)).mono ?_
      rintro e w4 ⟨rfl, b3⟩
      replace b4 := below_then b4 b3
      clear y2 z0 z1 z2 hv2 i2 b3
      cases hC : weighs n t.post
      · have F : Hid (wrongL n = 2) := Hno.out (by rw [Hto.out, hA, hB, hC]; rfl)
        clear Hno Hto Hok hA
        go_wp2
        go_ret
        exact ⟨ret_int F.out.symm, below_then c b4⟩
      · have F : Hid (okTo n (k + 1) = true) := by show _ = _; rw [Hok.out, Hto.out, hok.out, hA, hB, hC]; rfl
        have R := below_then hb b4
        clear Hno Hto Hok hA b4
        go_wp2
        go_roundg (gk - 1)
        case measure => omega
        case rel => exact ⟨k + 1, by omega, by go_num, F, R⟩
    · have F : Hid (wrongL n = 0) := by show _ = _; rw [okTo_all n k (by omega)] at hok; exact wrongL_ok hok.out
      go_wp2
      go_ret
      exact ⟨ret_int F.out.symm, c⟩

end Go.Proofs.YteeogdihaajicaaDoor
