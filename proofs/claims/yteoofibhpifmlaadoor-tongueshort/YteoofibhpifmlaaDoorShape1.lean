/- The answers of the document itself for shape: the mark at the beginning. -/
import Derived.Test.YteoofibhpifmlaaDoorShapeBase
import Derived.Test.YteoofibhpifmlaaDoorOwn
namespace Go.Proofs.YteoofibhpifmlaaDoor
open Go.RowKit
set_option linter.unusedVariables false
set_option maxRecDepth 4000

theorem start_succ (i : Int) (k : Nat) : mapTo (k + 1) (fun p => if (p : Int) = i then 1 else 0) = mapTo k (fun p => if (p : Int) = i then 1 else 0) ++ [if (k : Int) = i then 1 else 0] := mapTo_succ k _

set_option maxHeartbeats 1000000 in
theorem hstart_own (v : Value) (n : NetL) (i : Int) (w : World) (hv : Net w v n) :
    Calls Tryd.prog 38 #[v, .int .i64 i] w fun e w' => ∃ r, e = .returned r ∧ Own w.heap.size w w' r (startL n.places i) := by
  obtain ⟨tv, rfl, hT⟩ := hv
  obtain ⟨w0, Hw0⟩ : ∃ w0, Hid (w.alloc (.cells #[.int .i64 n.places, tv] 24) = w0) := ⟨_, rfl⟩
  have c : Below w.heap.size w w0 := by rw [← Hw0.out]; exact below_new _ _
  have hbx : Box2 w0 w.heap.size (.int .i64 n.places) tv := by rw [← Hw0.out]; exact box2_new w _ tv 24
  obtain ⟨P, HP⟩ : ∃ P, Hid (n.places = P) := ⟨_, rfl⟩
  rw [HP.out] at hbx Hw0 ⊢
  obtain ⟨N, HN⟩ : ∃ N : Nat, Hid ((min P 16).toNat = N) := ⟨_, rfl⟩
  have HS : Hid _ := start_succ i
  have HL : Hid (∀ k, (mapTo k (fun p => if (p : Int) = i then 1 else 0)).length = k) := fun k => mapTo_length _ _
  have HE : Hid (mapTo N (fun p => if (p : Int) = i then 1 else 0) = startL P i) := by show _ = _; rw [← HN.out]; rfl
  obtain ⟨x0, x1, x2⟩ := id hbx
  have O0 : Own w.heap.size w w0 (.slice none 0 0) (mapTo 0 (fun p => if (p : Int) = i then 1 else 0)) := Own.nil_of c c.size
  rw [← HE.out]
  have hN16 : N ≤ 16 := by rw [← HN.out]; omega
  obtain ⟨K, HK, hK⟩ : ∃ K : Int, Hid (min P 16 = K) ∧ (∀ k : Nat, (k : Int) < K ↔ k < N) := ⟨_, rfl, fun k => by rw [← HN.out]; omega⟩
  have hmin : (P < 16 ∧ K = P) ∨ (P = 16 ∧ K = 16) ∨ (16 < P ∧ K = 16) := by have := HK.out; omega
  clear HN HP HE
  go_enter Tryd.func38, Tryd.ntmps38
  go_upto_region 2 with fail
  rw [Hw0.out]
  clear Hw0 HK
  rcases hmin with ⟨h1, rfl⟩ | ⟨rfl, rfl⟩ | ⟨h1, rfl⟩
  all_goals
    go_wp2_with fail
    clear x0 x1 x2 hbx
    go_loopw [5, 10] (fun v a wr => ∃ k : Nat, k ≤ N ∧ a = .int .i64 k ∧ Own w.heap.size w wr v (mapTo k (fun p => if (p : Int) = i then 1 else 0))) (fun _ a _ => N - (intOf a).toNat)
    case atStart => exact ⟨0, Nat.zero_le _, rfl, O0⟩
    case round =>
      clear O0
      obtain ⟨k, hk, rfl, hO⟩ := hrel
      by_cases hkn : k < N
      · have hkK := (hK k).2 hkn
        have Hs : Hid _ := HS.out k
        have Hl : Hid _ := HL.out k
        clear HS HL hK
        by_cases e : (k : Int) = i
        · have R : Hid (mapTo (k + 1) (fun p => if (p : Int) = i then 1 else 0) = mapTo k (fun p => if (p : Int) = i then 1 else 0) ++ [1]) := by show _ = _; rw [Hs.out, if_pos e]
          clear Hs
          go_wp2_with (at_builtin; refine wp_append_int rfl _ _ rfl w.heap.size w _ _ _ 1 hO rfl rfl (by have := Hl.out; omega) ?_; intro v' w3 hO3)
          go_roundw
          case rel => exact ⟨k + 1, by omega, by go_num, by rw [R.out]; exact hO3⟩
          case measure => simp [intOf]; omega
        · have R : Hid (mapTo (k + 1) (fun p => if (p : Int) = i then 1 else 0) = mapTo k (fun p => if (p : Int) = i then 1 else 0) ++ [0]) := by show _ = _; rw [Hs.out, if_neg e]
          clear Hs
          go_wp2_with (at_builtin; refine wp_append_int rfl _ _ rfl w.heap.size w _ _ _ 0 hO rfl rfl (by have := Hl.out; omega) ?_; intro v' w3 hO3)
          go_roundw
          case rel => exact ⟨k + 1, by omega, by go_num, by rw [R.out]; exact hO3⟩
          case measure => simp [intOf]; omega
      · obtain rfl : k = N := by omega
        have hkK := mt (hK k).1 (Nat.lt_irrefl k)
        go_wp2
        go_ret
        exact ⟨_, rfl, hO⟩

end Go.Proofs.YteoofibhpifmlaaDoor
