/- Package choice as it landed: whether two share a place, and whether choices are free. -/
import Derived.Test.YtgedpebnipghlaaChoiceRef1
import Derived.Test.YtgedpebnipghlaaNetDev
import Derived.Test.YtgedpebnipghlaaBoxes
namespace Go.Proofs.Ytgedpebnipghlaa
open Go.RowKit
set_option linter.unusedVariables false
set_option linter.unusedSimpArgs false
set_option maxRecDepth 4000

/-- Of the first so many places none has a weight in both. -/
def Apart0 (xs ys : List Int) (k : Nat) : Prop := ∀ p, p < k → ¬ (nth xs p ≠ 0 ∧ nth ys p ≠ 0)
theorem apart0_succ {xs ys : List Int} {k : Nat} (h : Apart0 xs ys k) (hn : ¬ (nth xs k ≠ 0 ∧ nth ys k ≠ 0)) : Apart0 xs ys (k + 1) := by
  intro p hp
  rcases Nat.lt_or_ge p k with h1 | h1
  · exact h p h1
  · obtain rfl : p = k := by omega
    exact hn
def Common (xs ys : List Int) : Prop := ∃ p, nth xs p ≠ 0 ∧ nth ys p ≠ 0
theorem apart0_all {xs ys : List Int} (h : Apart0 xs ys xs.length) : ¬ Common xs ys := by
  rintro ⟨p, h1, h2⟩
  rcases Nat.lt_or_ge p xs.length with h3 | h3
  · exact h p h3 ⟨h1, h2⟩
  · exact h1 (nth_past _ _ h3)
theorem common_shares {n : NetL} (hn : netOk n = true) {i j : Nat} (hi : i < n.trans.length) (hj : j < n.trans.length) : Common (tranAt n.trans i).pre (tranAt n.trans j).pre ↔ Shares n i j := by
  constructor
  · rintro ⟨p, h1, h2⟩
    have := net_weight hn hi p
    have := net_weight hn hj p
    exact ⟨p, by omega, by omega⟩
  · rintro ⟨p, h1, h2⟩
    exact ⟨p, by omega, by omega⟩

theorem boxes33 (w : World) (x y z x' y' z' : Value) (t t' : TypeId) : ∃ W, Hid ((w.alloc (.cells #[x, y, z] t)).alloc (.cells #[x', y', z'] t') = W) ∧
    Below w.heap.size w W ∧ Box3 W w.heap.size x y z ∧ Box3 W (w.heap.size + 1) x' y' z' := by
  have b1 := below_new w (.cells #[x, y, z] t)
  have b2 := below_new (w.alloc (.cells #[x, y, z] t)) (.cells #[x', y', z'] t')
  have hx := box3_new (w.alloc (.cells #[x, y, z] t)) x' y' z' t'
  have e : (w.alloc (.cells #[x, y, z] t)).heap.size = w.heap.size + 1 := by simp
  rw [e] at hx
  exact ⟨_, rfl, below_then b1 b2, (box3_new w x y z t).below b2, hx⟩

set_option maxHeartbeats 1000000 in
theorem share_any (l1 l2 : Int) (p1 q1 p2 q2 : Value) (xs ys : List Int) (w : World) (h1 : Ints w p1 xs) (h2 : Ints w p2 ys) (hl : ys.length = xs.length) :
    Calls Try.prog 23 #[.agg #[.int .i64 l1, p1, q1], .agg #[.int .i64 l2, p2, q2]] w fun e w' => ∃ b, e = .returned (.bool b) ∧ (b = true ↔ Common xs ys) ∧ Below w.heap.size w w' := by
  obtain ⟨w0, Hw0, c, hb1, hb2⟩ := boxes33 w (.int .i64 l1) p1 q1 (.int .i64 l2) p2 q2 44 44
  replace h1 := h1.below c
  replace h2 := h2.below c
  obtain ⟨a1, P, cp1, rfl, e1, hmx, hsh, _⟩ := id h1
  obtain ⟨a2, P2, cp2, rfl, e2, _, _, _⟩ := id h2
  obtain rfl : P2 = P := by omega
  have Hall : Hid (Apart0 xs ys P2 → ¬ Common xs ys) := by rw [← e1]; exact apart0_all
  clear e1 e2 hsh hl
  go_enter Try.func23, Try.ntmps23
  go_upto_region 1 with fail
  rw [Hw0.out]
  clear Hw0
  obtain ⟨B, HB⟩ : ∃ B, Hid (w.heap.size = B) := ⟨_, rfl⟩
  rw [HB.out] at hb1 hb2
  rw [HB.out]
  obtain ⟨x0, x1, x2, x3⟩ := id hb1
  go_wp2_with fail
  clear x0 x1 x2 x3
  go_loopg [9] P2 (fun gk i' wr => ∃ k : Nat, k + gk = P2 ∧ i' = .int .i64 (k : Int) ∧ Hid (Apart0 xs ys k) ∧ wr = w0)
  case atStart => exact ⟨0, by omega, rfl, fun p hp => absurd hp (Nat.not_lt_zero _), rfl⟩
  case round =>
    obtain ⟨k, hkg, rfl, HN, rfl⟩ := hrel
    by_cases hk : k < P2
    · obtain ⟨x0, x1, x2, x3⟩ := id hb1
      obtain ⟨y0, y1, y2, y3⟩ := id hb2
      obtain ⟨b1, o1, rfl, _, cX⟩ := ints_atL h1 hk
      obtain ⟨b2, o2, rfl, _, cY⟩ := ints_atL h2 hk
      have HS : Hid (¬ (nth xs k ≠ 0 ∧ nth ys k ≠ 0) → Apart0 xs ys (k + 1)) := apart0_succ HN.out
      have HY : Hid (nth xs k ≠ 0 ∧ nth ys k ≠ 0 → Common xs ys) := fun h => ⟨k, h⟩
      generalize nth xs k = x at *
      generalize nth ys k = y at *
      by_cases hx : x = 0
      · subst hx
        have R : Hid _ := HS.out (by simp)
        clear HS HY
        go_wp2
        go_roundg (gk - 1)
        case measure => omega
        case rel => exact ⟨k + 1, by omega, by go_num, R, rfl⟩
      · by_cases hy : y = 0
        · subst hy
          have R : Hid _ := HS.out (by simp)
          clear HS HY
          go_wp2
          go_roundg (gk - 1)
          case measure => omega
          case rel => exact ⟨k + 1, by omega, by go_num, R, rfl⟩
        · have R : Hid (Common xs ys) := HY.out ⟨hx, hy⟩
          have e1 : (x != 0) = true := by simp [hx]
          have e2 : (y != 0) = true := by simp [hy]
          clear HS HY
          go_wp2
          go_ret
          exact ⟨true, rfl, ⟨fun _ => R.out, fun _ => rfl⟩, c⟩
    · obtain rfl : k = P2 := by omega
      have R : Hid (¬ Common xs ys) := Hall.out HN.out
      clear HN Hall
      go_wp2
      go_ret
      exact ⟨false, rfl, ⟨fun h => (by cases h), fun h => absurd h R.out⟩, c⟩

/-- Of pairs up to here, who shares a place shares all. -/
def FreeB (n : NetL) (b a : Nat) : Prop := ∀ x y, x < y → (y < b ∨ (y = b ∧ x < a)) → Shares n x y → (tranAt n.trans x).pre = (tranAt n.trans y).pre
theorem freeB_step {n : NetL} {b a : Nat} (h : FreeB n b a) (hn : Shares n a b → (tranAt n.trans a).pre = (tranAt n.trans b).pre) : FreeB n b (a + 1) := by
  intro x y hxy hy hs
  rcases hy with hy | ⟨rfl, hy⟩
  · exact h x y hxy (.inl hy) hs
  · rcases Nat.lt_or_ge x a with h1 | h1
    · exact h x y hxy (.inr ⟨rfl, h1⟩) hs
    · obtain rfl : x = a := by omega
      exact hn hs
theorem freeB_row {n : NetL} {b : Nat} (h : FreeB n b b) : FreeB n (b + 1) 0 := by
  intro x y hxy hy hs
  rcases hy with hy | ⟨rfl, hy⟩
  · rcases Nat.lt_or_ge y b with h1 | h1
    · exact h x y hxy (.inl h1) hs
    · obtain rfl : y = b := by omega
      exact h x y hxy (.inr ⟨rfl, hxy⟩) hs
  · omega
theorem freeB_all {n : NetL} (hn : netOk n = true) (h : FreeB n n.trans.length 0) : FreeN n := by
  refine ⟨hn, fun i j hi hj hs => ?_⟩
  rcases Nat.lt_trichotomy i j with h1 | h1 | h1
  · exact h i j h1 (.inl hj) hs
  · rw [h1]
  · exact (h j i h1 (.inl hi) hs.symm).symm

set_option maxHeartbeats 4000000 in
theorem choice_free (v : Value) (n : NetL) (w : World) (hv : Net w v n) :
    Calls Try.prog 8 #[v] w fun e w' => ∃ b, e = .returned (.bool b) ∧ (b = true ↔ FreeN n) ∧ Below w.heap.size w w' := by
  obtain ⟨tv, rfl, hT⟩ := hv
  have c := below_new w (.cells #[.int .i64 n.places, tv] 24)
  have hbx := box2_new w (.int .i64 n.places) tv 24
  have hv : Net _ (.agg #[.int .i64 n.places, tv]) n := ⟨_, rfl, hT.below c⟩
  clear hT
  go_enter Try.func8, Try.ntmps8
  go_wp2_with fail
  refine (net_wrong _ n _ (by exact hv)).mono ?_
  rintro e w1 ⟨rfl, b1⟩
  replace c := below_then c b1
  replace hbx := hbx.below b1
  replace hv := hv.below b1
  clear b1
  cases hn : netOk n
  · rw [wrongL_not hn]
    have R : Hid (¬ FreeN n) := fun h => by rw [h.1] at hn; cases hn
    clear hn
    go_wp2
    go_ret
    exact ⟨false, rfl, ⟨fun h => (by cases h), fun h => absurd h R.out⟩, c⟩
  · rw [wrongL_ok hn]
    have Hn : Hid (netOk n = true) := hn
    obtain ⟨tv', e, hT⟩ := id hv
    obtain rfl : tv = tv' := by injection e with e; simp at e; exact e
    clear e hn
    obtain ⟨a, len, cap, rfl, hlen, hmx, hsh, _⟩ := id hT
    have hcap : len ≤ cap := hsh.1
    have hcap2 : cap ≤ 9223372036854775807 := hsh.2.1
    have Hlen : Hid (n.trans.length = len) := hlen
    have HD : Hid (FreeB n len 0 → FreeN n) := by rw [← Hlen.out]; exact freeB_all Hn.out
    have HE : Hid (∀ k, k < len → k < n.trans.length) := fun k hk => by rw [Hlen.out]; exact hk
    have HL : Hid (∀ i j, i < len → j < len → (tranAt n.trans i).pre.length = (tranAt n.trans j).pre.length) := fun i j hi hj => by
      have h1 := (tran_length Hn.out (HE.out i hi)).1
      have h2 := (tran_length Hn.out (HE.out j hj)).1
      omega
    clear hsh hlen
    obtain ⟨B, HB⟩ : ∃ B, Hid (w.heap.size = B) := ⟨_, rfl⟩
    rw [HB.out] at hbx
    rw [HB.out]
    obtain ⟨x0, x1, x2⟩ := id hbx
    go_wp2_with fail
    clear x0 x1 x2
    go_loopg [13] len (fun gk i' wr => ∃ i : Nat, i + gk = len ∧ i' = .int .i64 (i : Int) ∧ Hid (FreeB n i 0) ∧ Below w1.heap.size w1 wr)
    case atStart => exact ⟨0, by omega, rfl, fun a b h => (by omega), Below.refl _ _⟩
    case round =>
      obtain ⟨i, hig, rfl, HF, hb0⟩ := hrel
      obtain ⟨g1, rfl⟩ : ∃ g1, g1 = gk := ⟨_, rfl⟩
      by_cases hin : i < len
      · obtain ⟨bt, ot, p1, q1, rfl, hlt, h0, h1, h2, iX, jX⟩ := (hT.below hb0).at hin
        obtain ⟨aX, lX, cX, rfl⟩ : ∃ a l c, p1 = .slice a l c := by obtain ⟨a, l, c, e, _⟩ := iX; exact ⟨a, l, c, e⟩
        obtain ⟨aX', lX', cX', rfl⟩ : ∃ a l c, q1 = .slice a l c := by obtain ⟨a, l, c, e, _⟩ := jX; exact ⟨a, l, c, e⟩
        obtain ⟨L, HLb⟩ : ∃ L, Hid ((tranAt n.trans i).label = L) := ⟨_, rfl⟩
        rw [HLb.out] at h0
        have bn1 := below_new wr (.cells #[.int .i64 L, .slice aX lX cX, .slice aX' lX' cX'] 44)
        have hb3 := box3_new wr (.int .i64 L) (.slice aX lX cX) (.slice aX' lX' cX') 44
        obtain ⟨Bt, HBt⟩ : ∃ B, Hid (wr.heap.size = B) := ⟨_, rfl⟩
        rw [HBt.out] at hb3
        obtain ⟨w8, Hw8⟩ : ∃ w8, Hid (wr.alloc (.cells #[.int .i64 L, .slice aX lX cX, .slice aX' lX' cX'] 44) = w8) := ⟨_, rfl⟩
        rw [Hw8.out] at bn1 hb3
        have iX8 := iX.below bn1
        have b8 := below_then hb0 bn1
        go_upto_region 6 with fail
        rw [Hw8.out, HBt.out]
        clear Hw8 HBt h0 h1 h2 iX jX bn1 hb0
        obtain ⟨x0, x1, x2⟩ := hbx.below b8
        go_wp2_with fail
        clear x0 x1 x2
        go_loopg [23] i (fun gk j' wr => ∃ j : Nat, j + gk = i ∧ j' = .int .i64 (j : Int) ∧ Hid (FreeB n i j) ∧ Below w8.heap.size w8 wr)
        case atStart => exact ⟨0, by omega, rfl, HF, Below.refl _ _⟩
        case round =>
          clear HF
          obtain ⟨j, hjg, rfl, HF, hb⟩ := hrel
          by_cases hjn : j < i
          · have hjl : j < len := by omega
            obtain ⟨bt', ot', p2, q2, e, _, g0, g1', g2, iY, jY⟩ := (hT.below (below_then b8 hb)).at hjl
            injection e with e
            injection e with e1 e2
            subst e1 e2
            obtain ⟨aY, lY, cY, rfl⟩ : ∃ a l c, p2 = .slice a l c := by obtain ⟨a, l, c, e, _⟩ := iY; exact ⟨a, l, c, e⟩
            obtain ⟨aY', lY', cY', rfl⟩ : ∃ a l c, q2 = .slice a l c := by obtain ⟨a, l, c, e, _⟩ := jY; exact ⟨a, l, c, e⟩
            obtain ⟨L2, HL2⟩ : ∃ L, Hid ((tranAt n.trans j).label = L) := ⟨_, rfl⟩
            rw [HL2.out] at g0
            have HSk : Hid ((Shares n j i → (tranAt n.trans j).pre = (tranAt n.trans i).pre) → FreeB n i (j + 1)) := freeB_step HF.out
            have HY : Hid (Shares n j i → ¬ (tranAt n.trans j).pre = (tranAt n.trans i).pre → ¬ FreeN n) := fun h1 h2 h3 => h2 (h3.2 j i (HE.out j hjl) (HE.out i hin) h1)
            have HC : Hid (Common (tranAt n.trans j).pre (tranAt n.trans i).pre ↔ Shares n j i) := common_shares Hn.out (HE.out j hjl) (HE.out i hin)
            have Hll : Hid ((tranAt n.trans i).pre.length = (tranAt n.trans j).pre.length) := HL.out i j hin hjl
            have bn2 := below_new wr (.cells #[.int .i64 L2, .slice aY lY cY, .slice aY' lY' cY'] 44)
            have hb4 := box3_new wr (.int .i64 L2) (.slice aY lY cY) (.slice aY' lY' cY') 44
            obtain ⟨By, HBy⟩ : ∃ B, Hid (wr.heap.size = B) := ⟨_, rfl⟩
            rw [HBy.out] at hb4
            obtain ⟨w9, Hw9⟩ : ∃ w9, Hid (wr.alloc (.cells #[.int .i64 L2, .slice aY lY cY, .slice aY' lY' cY'] 44) = w9) := ⟨_, rfl⟩
            rw [Hw9.out] at bn2 hb4
            have hb5 := hb3.below (below_then hb bn2)
            have iX9 := iX8.below (below_then hb bn2)
            have iY9 := iY.below bn2
            have b9 := below_then hb bn2
            go_upto_region 9 with fail
            rw [Hw9.out, HBy.out]
            clear Hw9 HBy g0 g1' g2 iY jY bn2 hb HF
            obtain ⟨x0, x1, x2, x3⟩ := id hb4
            obtain ⟨y0, y1, y2, y3⟩ := id hb5
            go_wp2_with fail
            refine (share_any _ _ _ _ _ _ _ _ w9 iY9 iX9 Hll.out).mono ?_
            rintro e w10 ⟨b, rfl, hbs, b10⟩
            clear x0 x1 x2 x3 y0 y1 y2 y3
            obtain ⟨x0, x1, x2, x3⟩ := hb4.below b10
            obtain ⟨y0, y1, y2, y3⟩ := hb5.below b10
            rw [HC.out] at hbs
            cases b
            · have R : Hid _ := HSk.out (fun h => by have := hbs.2 h; cases this)
              have B2 := below_then b9 b10
              clear HSk HY HC hbs
              go_wp2
              go_roundg (gk - 1)
              case measure => omega
              case rel => exact ⟨j + 1, by omega, by go_num, R, B2⟩
            · have hs : Hid (Shares n j i) := hbs.1 rfl
              clear hbs HC
              go_wp2_with fail
              refine (equal_b _ _ _ _ w10 (iY9.below b10) (iX9.below b10)).mono ?_
              rintro e w11 ⟨rfl, b11⟩
              have B2 := below_then b9 (below_then b10 b11)
              cases he : ((tranAt n.trans j).pre == (tranAt n.trans i).pre)
              · have R : Hid (¬ FreeN n) := HY.out hs.out (by intro q; rw [q, beq_self_eq_true] at he; cases he)
                have B3 := below_then c (below_then b8 B2)
                clear HSk HY he
                go_wp2
                go_ret
                exact ⟨false, rfl, ⟨fun h => (by cases h), fun h => absurd h R.out⟩, B3⟩
              · have R : Hid _ := HSk.out (fun _ => eq_of_beq he)
                clear HSk HY he
                go_wp2
                go_roundg (gk - 1)
                case measure => omega
                case rel => exact ⟨j + 1, by omega, by go_num, R, B2⟩
          · obtain rfl : j = i := by omega
            have R : Hid _ := freeB_row HF.out
            have B2 := below_then b8 hb
            clear HF
            go_wp2
            go_roundg (g1 - 1)
            case measure => omega
            case rel => exact ⟨j + 1, by omega, by go_num, R, B2⟩
      · obtain rfl : i = len := by omega
        have R : Hid (FreeN n) := HD.out HF.out
        have B2 := below_then c hb0
        clear HF HD
        go_wp2
        go_ret
        exact ⟨true, rfl, ⟨fun _ => R.out, fun _ => rfl⟩, B2⟩

end Go.Proofs.Ytgedpebnipghlaa
