import Derived.Test.YtbpkebkblkjdhaaTreeAll
import Derived.Test.YtbpkebkblkjdhaaSlices1
/- The small trial of package cover that the laws make first: it answers true; and which mark covers another one. -/
namespace Go.Proofs.Ytbpkebkblkjdhaa
open Go.RowKit
set_option linter.unusedVariables false

def net5 : NetL := ⟨2, [⟨0, [1, 0], [1, 1]⟩]⟩
def tree5 : List KnotL := [⟨-1, -1, [1, 0]⟩, ⟨0, 0, [1, -1]⟩, ⟨1, 0, [1, -1]⟩]
theorem net5_tree : treeL net5 [1, 0] 9 = (tree5, 0) := by rfl
theorem net5_limit1 : limitL net5 [1, 0] 1 9 = (-1, 0) := by rfl
theorem net5_limit0 : limitL net5 [1, 0] 0 9 = (1, 0) := by rfl

/-- At each place as many, or Many. -/
def covTo (u x : List Int) (k : Nat) : Bool := (x.length == u.length) && (List.range k).all fun p => (nth u p == -1) || !decide (nth u p < nth x p)
def covL (u x : List Int) : Bool := covTo u x x.length
theorem covTo_succ (u x : List Int) (k : Nat) : covTo u x (k + 1) = (covTo u x k && ((nth u k == -1) || !decide (nth u k < nth x k))) := by
  simp [covTo, List.range_succ, Bool.and_assoc]
theorem covL_iff (u x : List Int) : covL u x = true ↔ CovM u x := by
  unfold covL covTo CovM
  rw [Bool.and_eq_true, List.all_eq_true, beq_iff_eq]
  constructor
  · rintro ⟨h1, h2⟩
    refine ⟨h1.symm, fun p hp => ?_⟩
    have := h2 p (by simpa using hp)
    simp only [Bool.or_eq_true, beq_iff_eq, Bool.not_eq_true', decide_eq_false_iff_not] at this
    rcases this with q | q
    · exact .inl q
    · exact .inr (by omega)
  · rintro ⟨h1, h2⟩
    refine ⟨h1.symm, fun p hp => ?_⟩
    rw [Bool.or_eq_true, beq_iff_eq, Bool.not_eq_true', decide_eq_false_iff_not]
    rcases h2 p (by simpa using hp) with q | q
    · exact .inl q
    · exact .inr (by omega)
theorem covL_no {u x : List Int} {p : Nat} (hp : p < x.length) (h1 : nth u p ≠ -1) (h2 : nth u p < nth x p) : covL u x = false := by
  cases e : covL u x
  · rfl
  · rw [covL_iff] at e
    rcases e.2 p hp with q | q <;> omega

set_option maxHeartbeats 1000000 in
theorem covers_law (v u : Value) (xs ys : List Int) (w : World) (hv : Ints w v xs) (hu : Ints w u ys) :
    Calls Try.prog 17 #[v, u] w fun e w' => e = .returned (.bool (covL xs ys)) ∧ ∃ m, w' = w.drewN m := by
  obtain ⟨a, la, ca, rfl, hla, hma, hsa, hra⟩ := hv
  obtain ⟨b, lb, cb, rfl, hlb, hmb, hsb, hrb⟩ := hu
  cases hl : ((lb : Int) == (la : Int))
  · have hl' : ((lb : Int) != (la : Int)) = true := by rw [bne, hl]; rfl
    have F : Hid (covL xs ys = false) := by
      show _ = _
      have hne : lb ≠ la := by intro e; rw [e] at hl; simp at hl
      unfold covL covTo
      rw [hla, hlb, (by simpa using hne : (lb == la) = false)]; rfl
    clear hl
    go_enter Try.func17, Try.ntmps17
    go_wp2
    go_ret
    exact ⟨ret_bool F.out.symm, 0, rfl⟩
  · have hl' : ((lb : Int) != (la : Int)) = false := by rw [bne, hl]; rfl
    have hll : lb = la := by have := beq_iff_eq.1 hl; omega
    subst hll
    have H0 : Hid (covTo xs ys 0 = true) := by show _ = _; unfold covTo; rw [hla, hlb]; simp
    have Hst : Hid _ := covTo_succ xs ys
    have Hno : Hid (∀ p, p < lb → nth xs p ≠ -1 → nth xs p < nth ys p → covL xs ys = false) := fun p hp => covL_no (by omega)
    have HA : Hid (covTo xs ys lb = covL xs ys) := by show _ = _; rw [covL, hlb]
    clear hl hl'
    go_enter Try.func17, Try.ntmps17
    go_wp2_with fail
    go_loopw [13] (fun i wr => ∃ k : Nat, k ≤ lb ∧ i = .int .i64 k ∧ Hid (covTo xs ys k = true) ∧ ∃ m, wr = w.drewN m) (fun i _ => lb - (intOf i).toNat)
    case atStart => exact ⟨0, Nat.zero_le _, rfl, H0, 0, rfl⟩
    case round =>
      obtain ⟨k, hk, rfl, hB, m, rfl⟩ := hrel
      by_cases hkn : k < lb
      · obtain ⟨b1, o1, rfl, hb1, hc1⟩ := hra k (by omega)
        obtain ⟨b2, o2, rfl, hb2, hc2⟩ := hrb k (by omega)
        have hc1' : (w.drewN m).cell? ⟨b1, o1 + k, none⟩ = some (.int .i64 (nth xs k)) := by simpa using hc1
        have hc2' : (w.drewN m).cell? ⟨b2, o2 + k, none⟩ = some (.int .i64 (nth ys k)) := by simpa using hc2
        have Hs : Hid _ := Hst.out k
        have Hn : Hid _ := Hno.out k hkn
        clear hra hrb Hst Hno hc1 hc2
        obtain ⟨wd, Hwd⟩ : ∃ wd, Hid (w.drewN m = wd) := ⟨_, rfl⟩
        rw [Hwd.out] at hc1' hc2' ⊢
        by_cases q1 : nth xs k = -1
        · have e1 : (nth xs k != -1) = false := by simp [q1]
          have E : Hid (covTo xs ys (k + 1) = true) := by show _ = _; rw [Hs.out, hB.out, q1]; rfl
          clear q1 Hs Hn
          go_wp2_with fail
          go_quiet (fail)
          have Hd : Hid (wd.drewN nq = w.drewN (m + nq)) := by show _ = _; rw [← Hwd.out]; exact World.drewN_drewN _ _ _
          rw [Hd.out]
          clear hc1' hc2' Hwd
          go_wp2
          go_roundw
          case rel => exact ⟨k + 1, by omega, by go_num, E, _, rfl⟩
          case measure => simp [intOf]; omega
        · have e1 : (nth xs k != -1) = true := by simpa using q1
          by_cases q2 : nth xs k < nth ys k
          · have E : Hid _ := Hn.out q1 q2
            clear q1 Hs Hn
            go_wp2_with fail
            go_quiet (fail)
            have Hd : Hid (wd.drewN nq = w.drewN (m + nq)) := by show _ = _; rw [← Hwd.out]; exact World.drewN_drewN _ _ _
            rw [Hd.out]
            clear hc1' hc2' Hwd
            go_wp2
            go_ret
            exact ⟨ret_bool E.out.symm, _, rfl⟩
          · have E : Hid (covTo xs ys (k + 1) = true) := by show _ = _; rw [Hs.out, hB.out, decide_eq_false q2]; simp
            clear q1 Hs Hn
            go_wp2_with fail
            go_quiet (fail)
            have Hd : Hid (wd.drewN nq = w.drewN (m + nq)) := by show _ = _; rw [← Hwd.out]; exact World.drewN_drewN _ _ _
            rw [Hd.out]
            clear hc1' hc2' Hwd
            go_wp2
            go_roundw
            case rel => exact ⟨k + 1, by omega, by go_num, E, _, rfl⟩
            case measure => simp [intOf]; omega
      · obtain rfl : k = lb := by omega
        have E : Hid (covL xs ys = true) := by show _ = _; rw [← HA.out]; exact hB.out
        go_wp2
        go_ret
        exact ⟨ret_bool E.out.symm, _, rfl⟩

end Go.Proofs.Ytbpkebkblkjdhaa

/- The small trial of package cover that the laws make first, walked. -/
namespace Go.Proofs.Ytbpkebkblkjdhaa
open Go.RowKit
set_option linter.unusedVariables false

theorem trans_lit1 (w : World) (b : Nat) (c1 c2 : Value) (p1 q1 : List Int) (l1 : Int) (t : TypeId) (h1 : Ints w c1 p1) (h2 : Ints w c2 q1) (hb : b = w.heap.size) :
    Trans (w.alloc (.cells #[.int .i64 l1, c1, c2] t)) (.slice (some ⟨b, 0, none⟩) 1 1) [⟨l1, p1, q1⟩] := by
  subst hb
  have hn := below_new w (.cells #[.int .i64 l1, c1, c2] t)
  refine ⟨_, _, _, rfl, rfl, by omega, ⟨by omega, by omega, fun h => by cases h⟩, fun j hj => ?_⟩
  match j, hj with
  | 0, _ => exact ⟨w.heap.size, 0, c1, c2, rfl, by simp, by rw [World.cell?_alloc_at _ _ _ _ rfl]; rfl, by rw [World.cell?_alloc_at _ _ _ _ rfl]; rfl, by rw [World.cell?_alloc_at _ _ _ _ rfl]; rfl, h1.below hn, h2.below hn⟩
  | j + 1, h => simp at h

theorem lit_net1 (w W : World) (a b c d : Int) (hW : W = ((w.alloc (.cells #[.int .i64 a, .int .i64 b] 3)).alloc (.cells #[.int .i64 c, .int .i64 d] 3)).alloc
      (.cells #[.int .i64 0, .slice (some ⟨w.heap.size, 0, none⟩) 2 2, .slice (some ⟨w.heap.size + 1, 0, none⟩) 2 2] 62)) :
    Trans W (.slice (some ⟨w.heap.size + 1 + 1, 0, none⟩) 1 1) [⟨0, [a, b], [c, d]⟩] ∧ Below w.heap.size w W ∧ W.heap.size = w.heap.size + 1 + 1 + 1 := by
  have b1 := below_new w (.cells #[.int .i64 a, .int .i64 b] 3)
  have i1 := ints_lit w _ [a, b] 3 2 rfl (by omega) rfl
  generalize hw1 : w.alloc (.cells #[.int .i64 a, .int .i64 b] 3) = w1 at *
  have i1 : Ints w1 (.slice (some ⟨w.heap.size, 0, none⟩) 2 2) [a, b] := by rw [← hw1]; exact i1
  have s1 : w1.heap.size = w.heap.size + 1 := by rw [← hw1]; simp
  have b2 := below_new w1 (.cells #[.int .i64 c, .int .i64 d] 3)
  have i2 : Ints (w1.alloc (.cells #[.int .i64 c, .int .i64 d] 3)) (.slice (some ⟨w.heap.size + 1, 0, none⟩) 2 2) [c, d] := ints_lit w1 _ [c, d] 3 2 rfl (by omega) s1.symm
  generalize hw2 : w1.alloc (.cells #[.int .i64 c, .int .i64 d] 3) = w2 at *
  have s2 : w2.heap.size = w.heap.size + 1 + 1 := by rw [← hw2]; simp [s1]
  have b3 := below_new w2 (.cells #[.int .i64 0, .slice (some ⟨w.heap.size, 0, none⟩) 2 2, .slice (some ⟨w.heap.size + 1, 0, none⟩) 2 2] 62)
  rw [hW]
  exact ⟨trans_lit1 w2 _ _ _ [a, b] [c, d] 0 _ (i1.below b2) i2 s2.symm, below_then b1 (below_then b2 b3), by simp [s2]⟩
theorem lit_netc (w W : World) (n : NetL) (hn : n.places = 2) (hT : Trans W (.slice (some ⟨w.heap.size + 1 + 1, 0, none⟩) 1 1) n.trans) (hb : Below w.heap.size w W) (hs : W.heap.size = w.heap.size + 1 + 1 + 1) :
    ∃ b tv, Value.pointer (some ⟨w.heap.size + 1 + 1 + 1, 0, none⟩) = .pointer (some ⟨b, 0, none⟩) ∧ Box2 (W.alloc (.cells #[.int .i64 2, .slice (some ⟨w.heap.size + 1 + 1, 0, none⟩) 1 1] 24)) b (.int .i64 2) tv ∧
      Net (W.alloc (.cells #[.int .i64 2, .slice (some ⟨w.heap.size + 1 + 1, 0, none⟩) 1 1] 24)) (.agg #[.int .i64 2, tv]) n ∧ Below w.heap.size w (W.alloc (.cells #[.int .i64 2, .slice (some ⟨w.heap.size + 1 + 1, 0, none⟩) 1 1] 24)) := by
  have b1 := below_new W (.cells #[.int .i64 2, .slice (some ⟨w.heap.size + 1 + 1, 0, none⟩) 1 1] 24)
  have hx := box2_new W (.int .i64 2) (.slice (some ⟨w.heap.size + 1 + 1, 0, none⟩) 1 1) 24
  rw [hs] at hx
  exact ⟨_, _, rfl, hx, ⟨_, by rw [hn], hT.below b1⟩, below_then hb b1⟩

set_option maxHeartbeats 2000000 in
theorem alive5_any (w : World) :
    Calls Try.prog 13 #[] w fun e w' => e = .returned (.bool true) ∧ Below w.heap.size w w' := by
  obtain ⟨hT, hb, hs⟩ := lit_net1 w _ 1 0 1 1 rfl
  go_enter Try.func13, Try.ntmps13
  go_upto_region 1 with fail
  go_cut [1] (fun p wc => ∃ b tv, p = .pointer (some ⟨b, 0, none⟩) ∧ Box2 wc b (.int .i64 2) tv ∧ Net wc (.agg #[.int .i64 2, tv]) net5 ∧ Below w.heap.size w wc)
  case first =>
    have HT : Hid _ := hT
    have HB : Hid _ := hb
    have HS : Hid _ := hs
    clear hT hb hs
    go_wp2_with fail
    go_meet
    exact lit_netc w _ net5 rfl HT.out HB.out HS.out
  case rest =>
    clear hT hb hs
    obtain ⟨bk, tv, rfl, hbx, hv, c⟩ := hcut
    obtain ⟨w0, rfl⟩ : ∃ w0, w0 = wc := ⟨_, rfl⟩
    obtain ⟨x0, x1, x2⟩ := id hbx
    have b1 := below_new w0 (.cells #[.int .i64 1, .int .i64 0] 3)
    go_wp2_with fail
    refine (cover_tree _ _ net5 [1, 0] 9 _ (by exact hv.below b1) (by exact ints_lit w0 _ [1, 0] 3 2 rfl (by omega) rfl)).mono ?_
    rintro e w1 ⟨r1, rfl, hr1, b⟩
    rw [net5_tree] at hr1
    simp only [net5_tree]
    replace b := below_then b1 b
    replace hv := hv.below b
    replace hbx := hbx.below b
    replace c := below_then c b
    clear b b1 x0 x1 x2
    obtain ⟨x0, x1, x2⟩ := id hbx
    obtain ⟨ak, ck, rfl, _, _⟩ := hr1.slice
    have b1 := below_new w1 (.cells #[.int .i64 1, .int .i64 0] 3)
    go_wp2_with fail
    refine (cover_limit _ _ net5 [1, 0] 1 9 _ (by exact hv.below b1) (by exact ints_lit w1 _ [1, 0] 3 2 rfl (by omega) rfl)).mono ?_
    rintro e w2 ⟨rfl, b⟩
    rw [net5_limit1]
    replace b := below_then b1 b
    replace hv := hv.below b
    replace hbx := hbx.below b
    replace hr1 := hr1.below b
    replace c := below_then c b
    clear b b1 x0 x1 x2
    obtain ⟨x0, x1, x2⟩ := id hbx
    have b1 := below_new w2 (.cells #[.int .i64 1, .int .i64 0] 3)
    go_wp2_with fail
    refine (cover_limit _ _ net5 [1, 0] 0 9 _ (by exact hv.below b1) (by exact ints_lit w2 _ [1, 0] 3 2 rfl (by omega) rfl)).mono ?_
    rintro e w3 ⟨rfl, b⟩
    rw [net5_limit0]
    replace b := below_then b1 b
    replace hr1 := hr1.below b
    replace c := below_then c b
    clear b b1 x0 x1 x2 hbx hv
    obtain ⟨g1, o1, u1, rfl, hg1, _, _, hc1, hi1⟩ := hr1.at (k := 1) (by show 1 < 3; omega)
    have k3 : (tree5.length : Int) = 3 := rfl
    have k4 : tree5.length = 3 := rfl
    have hc1' : w3.cell? ⟨g1, o1 + 1 * 3 + 2, none⟩ = some u1 := hc1
    obtain ⟨au, lu, cu, rfl, _, _, _, _⟩ := id hi1
    have b1 := below_new w3 (.cells #[.int .i64 1, .int .i64 (-1)] 3)
    rw [k4]
    clear hr1 k3 k4 hc1
    go_wp2_with fail
    refine (equal_b _ _ [1, -1] [1, -1] _ (by exact hi1.below b1) (by exact ints_lit w3 _ [1, -1] 3 2 rfl (by omega) rfl)).mono ?_
    rintro e w4 ⟨rfl, b⟩
    replace c := below_then c (below_then b1 b)
    clear b b1
    go_wp2
    go_ret
    exact ⟨rfl, c⟩

end Go.Proofs.Ytbpkebkblkjdhaa
