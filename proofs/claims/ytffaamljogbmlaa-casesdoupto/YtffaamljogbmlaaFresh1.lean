/- The answers of the document itself for nets, with what they hang on: one fires. -/
import Derived.Test.YtffaamljogbmlaaGr04
import Derived.Test.YtffaamljogbmlaaGr01
namespace Go.Proofs.Ytffaamljogbmlaa
open Go.RowKit
set_option linter.unusedVariables false
set_option maxRecDepth 4000

/-- What a call answers that makes a mark anew, or tells what is wrong: the mark hangs on new blocks alone. -/
def GivesO (w : World) (p : List Int × Int) (e : Ending) (w' : World) : Prop :=
  ∃ r, e = .returned (.tuple #[r, .int .i64 p.2]) ∧ On (fun k => w.heap.size ≤ k) w' (fun w'' => Ints w'' r p.1) ∧ Below w.heap.size w w'

theorem givesO_of {w w' : World} {r : Value} {p : List Int × Int} {zs : List Int} {c : Int} (hp : p = (zs, c)) (hr : On (fun k => w.heap.size ≤ k) w' (fun w'' => Ints w'' r zs)) (hb : Below w.heap.size w w') : GivesO w p (.returned (.tuple #[r, .int .i64 c])) w' := by
  subst hp; exact ⟨r, rfl, hr, hb⟩
theorem on_nil (D : Nat → Prop) (w : World) : On D w (fun w' => Ints w' (.slice none 0 0) []) := fun w' _ _ => Ints.nil w'

set_option maxHeartbeats 400000 in
theorem amix_own (t : Int) (ht : t = 1 ∨ t = -1) (v u : Value) (xs ys : List Int) (w : World) (hv : Ints w v xs) (hu : Ints w u ys) (rx : rightL xs = true) (ry : rightL ys = true) :
    Calls Try.prog 33 #[v, u, .int .i64 t] w fun e w' => ∃ r, e = .returned r ∧ Own w.heap.size w w' r (zipL (mixL t) xs ys) := by
  have hv' := hv
  have hu' := hu
  obtain ⟨a, la, ca, rfl, hla, hma, hsa, hra⟩ := hv
  obtain ⟨b, lb, cb, rfl, hlb, hmb, hsb, hrb⟩ := hu
  obtain ⟨n, Hn⟩ : ∃ n : Nat, max xs.length ys.length = n := ⟨_, rfl⟩
  have HZ : Hid (zipL (mixL t) xs ys = zipTo (mixL t) xs ys n) := by show _ = _; unfold zipL zipTo; rw [Hn]
  have HX := fun j => okTok_nth rx j
  have HY := fun j => okTok_nth ry j
  have ht1 : -1 ≤ t ∧ t ≤ 1 := by omega
  have HT : Hid (t = 1 ∨ t = -1) := ht
  clear hra hrb rx ry ht
  by_cases hlt : la < lb
  case' pos => obtain rfl : n = lb := by omega
  case' neg => obtain rfl : n = la := by omega
  all_goals
    clear Hn hla hlb
    go_enter Try.func33, Try.ntmps33
    go_wp2
    go_loopw [7, 14] (fun o i wr => ∃ k : Nat, k ≤ n ∧ i = .int .i64 k ∧ Own w.heap.size w wr o (zipTo (mixL t) xs ys k)) (fun _ i _ => n - (intOf i).toNat)
    case atStart => exact ⟨0, Nat.zero_le _, rfl, Own.nil _⟩
    case round =>
      obtain ⟨k, hk, rfl, hG⟩ := hrel
      obtain ⟨hx1, hx2⟩ := HX k
      obtain ⟨hy1, hy2⟩ := HY k
      clear HX HY
      by_cases hkn : k < n
      · have hm : Hid (mixL t (nth xs k) (nth ys k) = nth xs k + t * nth ys k) := rfl
        have ht2 : -1000000 ≤ t * nth ys k ∧ t * nth ys k ≤ 1000000 := by rcases HT.out with h | h <;> rw [h] <;> omega
        go_wp2_with fail
        refine (aat_any _ xs k _ (by exact hv'.below hG.2.1)).mono ?_
        rintro e w' ⟨rfl, rfl⟩
        go_wp2_with fail
        refine (aat_any _ ys k _ (by exact hu'.below hG.2.1)).mono ?_
        rintro e w' ⟨rfl, rfl⟩
        have hlen := zipTo_length (mixL t) xs ys k
        go_wp2_with (at_builtin; refine wp_append_int rfl _ _ rfl w.heap.size w _ _ _ (nth xs k + t * nth ys k) hG rfl rfl (by rw [hlen]; omega) ?_; intro v' w1 hG')
        have R : Own w.heap.size w w1 v' (zipTo (mixL t) xs ys (k + 1)) := by rw [zipTo_succ]; exact hG'
        clear hG hG'
        go_wp2
        go_roundw
        case rel => exact ⟨k + 1, by omega, by go_num, R⟩
        case measure => simp [intOf]; omega
      · obtain rfl : k = n := by omega
        go_wp2
        go_ret
        exact ⟨_, rfl, by rw [HZ.out]; exact hG⟩

end Go.Proofs.Ytffaamljogbmlaa
