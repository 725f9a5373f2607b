/- The answers of the document itself for flow: counts, what is within limits, sums of products. -/
import Derived.Test.YtdaigbamgplboaaFlowBase
namespace Go.Proofs.Ytdaigbamgplboaa
open Go.RowKit
set_option linter.unusedVariables false

def inOk (least x : Int) : Bool := decide (least ≤ x) && decide (x ≤ 1000000)
def withTo (xs : List Int) (many least : Int) (k : Nat) : Bool := ((xs.length : Int) == many) && (xs.take k).all fun x => decide (least ≤ x) && decide (x ≤ 1000000)
theorem withTo_succ (xs : List Int) (many least : Int) (k : Nat) (h : k < xs.length) : withTo xs many least (k + 1) = (withTo xs many least k && inOk least (nth xs k)) := by
  unfold withTo inOk
  rw [List.take_succ_eq_append_getElem h, List.all_append]
  simp [nth, List.getD, List.getElem?_eq_getElem h, Bool.and_assoc]
theorem withTo_all (xs : List Int) (many least : Int) (k : Nat) (h : xs.length ≤ k) : withTo xs many least k = withinL xs many least := by
  unfold withTo withinL; rw [List.take_of_length_le h]

set_option maxHeartbeats 400000 in
theorem cwithin_any (v : Value) (xs : List Int) (many least : Int) (w : World) (hv : Ints w v xs) :
    Calls Try.prog 28 #[v, .int .i64 many, .int .i64 least] w fun e w' => e = .returned (.bool (withinL xs many least)) ∧ w' = w := by
  obtain ⟨a, len, cap, rfl, hlen, hmx, hsh, hr⟩ := hv
  have Hst : Hid _ := withTo_succ xs many least
  have Hall : Hid _ := withTo_all xs many least
  have H0 : Hid (((len : Int) == many) = withTo xs many least 0) := by show _ = _; simp [withTo, hlen]
  go_enter Try.func28, Try.ntmps28
  go_wp2_with fail
  go_loop [7, 16] (fun o i => ∃ j : Nat, j ≤ len ∧ i = .int .i64 j ∧ o = .bool (withTo xs many least j)) (fun _ i => len - (intOf i).toNat)
  case atStart => exact ⟨0, Nat.zero_le _, rfl, by rw [← H0.out]⟩
  case round =>
    obtain ⟨j, hj, rfl, rfl⟩ := hrel
    by_cases hjn : j < len
    · obtain ⟨b, off, rfl, hb, hc⟩ := hr j (by omega)
      have Hs : Hid _ := Hst.out j (by omega)
      clear hr Hst Hall H0
      cases hA : withTo xs many least j
      · have F : Hid (withTo xs many least (j + 1) = false) := by show _ = _; rw [Hs.out, hA]; rfl
        clear Hs hA
        go_wp2
        go_round
        case rel => exact ⟨j + 1, by omega, by go_num, by rw [F.out]⟩
        case measure => simp [intOf]; omega
      · have F : Hid (withTo xs many least (j + 1) = inOk least (nth xs j)) := by show _ = _; rw [Hs.out, hA]; rfl
        clear Hs hA
        by_cases q1 : least ≤ nth xs j
        · by_cases q2 : nth xs j ≤ 1000000
          · go_wp2
            go_round
            case rel => exact ⟨j + 1, by omega, by go_num, by rw [F.out]; simp [inOk, q1, q2]⟩
            case measure => simp [intOf]; omega
          · go_wp2
            go_round
            case rel => exact ⟨j + 1, by omega, by go_num, by rw [F.out]; simp [inOk]; omega⟩
            case measure => simp [intOf]; omega
        · go_wp2
          go_round
          case rel => exact ⟨j + 1, by omega, by go_num, by rw [F.out]; simp [inOk]; omega⟩
          case measure => simp [intOf]; omega
    · have F := Hall.out j (by omega)
      clear Hst Hall H0 hr
      go_wp2
      go_ret
      exact ⟨rfl, rfl⟩

set_option maxHeartbeats 1000000 in
theorem ccount_any (v u : Value) (n : NetL) (seq : List Int) (w : World) (hv : Net w v n) (hu : Ints w u seq) :
    Calls Try.prog 13 #[v, u] w fun e w' => ∃ r, e = .returned r ∧ Own w.heap.size w w' r (countL n seq) := by
  obtain ⟨tv, rfl, hT⟩ := hv
  have b1 := below_new w (.cells #[.int .i64 n.places, tv] 24)
  have hbx := box2_new w (.int .i64 n.places) tv 24
  obtain ⟨a, len, cap, rfl, hlen, hmx, hsh, _⟩ := hT
  have HN : Hid (countL n seq = countTo seq len) := by show _ = _; rw [countL, hlen]
  have hO0 : Own w.heap.size w (w.alloc (.cells #[.int .i64 n.places, .slice a len cap] 24)) (.slice none 0 0) [] := Own.nil_of b1 (by simp)
  obtain ⟨w0, Hw0⟩ : ∃ w0, Hid (w.alloc (.cells #[.int .i64 n.places, .slice a len cap] 24) = w0) := ⟨_, rfl⟩
  rw [Hw0.out] at b1 hbx hO0
  obtain ⟨x0, x1, x2⟩ := hbx
  obtain ⟨sa, ls, sc, rfl, hls, hms, _, _⟩ := id hu
  go_enter Try.func13, Try.ntmps13
  go_upto_region 1 with fail
  rw [Hw0.out]
  clear Hw0
  go_wp2_with fail
  clear x0 x1 x2
  go_loopg [5, 13] len (fun g o i wr => ∃ k : Nat, k + g = len ∧ i = .int .i64 k ∧ Own w.heap.size w wr o (countTo seq k))
  case atStart => exact ⟨0, by omega, rfl, hO0⟩
  case round =>
    obtain ⟨k, hkg, rfl, hG⟩ := hrel
    by_cases hkn : k < len
    · obtain ⟨_, _, _, e, _, _, _, hrs⟩ := hu.below hG.2.1
      injection e with e1 e2 e3
      subst e1 e2 e3
      go_wp2_with fail
      go_loop [7, 18] (fun o i => ∃ j : Nat, j ≤ ls ∧ i = .int .i64 j ∧ o = .int .i64 (((seq.take j).count (k : Int) : Nat) : Int)) (fun _ i => ls - (intOf i).toNat)
      case atStart => exact ⟨0, Nat.zero_le _, rfl, by simp⟩
      case round =>
        obtain ⟨j, hj, rfl, rfl⟩ := hrel
        by_cases hjn : j < ls
        · obtain ⟨b, off, rfl, hb, hc⟩ := hrs j (by omega)
          have Hs : Hid _ := count_take_succ seq (k : Int) j (by omega)
          have hle : (seq.take j).count (k : Int) ≤ 17592186044416 := Nat.le_trans List.count_le_length (by simp; omega)
          clear hrs
          by_cases q : nth seq j = (k : Int)
          · have e1 : (nth seq j == (k : Int)) = true := by simp [q]
            have F : Hid (((seq.take (j + 1)).count (k : Int) : Nat) = (seq.take j).count (k : Int) + 1) := by show _ = _; rw [Hs.out, if_pos q]
            clear Hs q
            generalize (seq.take j).count (k : Int) = c at *
            go_wp2
            go_round
            case rel => exact ⟨j + 1, by omega, by go_num, by rw [F.out]; go_num⟩
            case measure => simp [intOf]; omega
          · have e1 : (nth seq j == (k : Int)) = false := by simp [q]
            have F : Hid (((seq.take (j + 1)).count (k : Int) : Nat) = (seq.take j).count (k : Int)) := by show _ = _; rw [Hs.out, if_neg q]; rfl
            clear Hs q
            go_wp2
            go_round
            case rel => exact ⟨j + 1, by omega, by go_num, by rw [F.out]⟩
            case measure => simp [intOf]; omega
        · have F : Hid ((seq.take j).count (k : Int) = seq.count (k : Int)) := by show _ = _; rw [List.take_of_length_le (by omega)]
          rw [F.out]
          clear F hrs
          have hl2 := countTo_length seq k
          have Hcs : Hid _ := countTo_succ seq k
          generalize hc : seq.count (k : Int) = c at *
          go_wp2_with (at_builtin; refine wp_append_int rfl _ _ rfl w.heap.size w _ _ _ (c : Int) hG rfl rfl (by omega) ?_; intro v' w3 hG3)
          have R : Own w.heap.size w w3 v' (countTo seq (k + 1)) := by rw [Hcs.out]; exact hG3
          clear hG hG3
          go_wp2
          go_roundg (gk - 1)
          case measure => omega
          case rel => exact ⟨k + 1, by omega, by go_num, R⟩
    · obtain rfl : k = len := by omega
      go_wp2
      go_ret
      exact ⟨_, rfl, by rw [HN.out]; exact hG⟩

end Go.Proofs.Ytdaigbamgplboaa
