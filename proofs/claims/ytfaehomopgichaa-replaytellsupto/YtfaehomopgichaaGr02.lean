import Derived.Test.YtfaehomopgichaaGr00
import Derived.Test.YtfaehomopgichaaProg
/- What the functions of package mark answer, that only read. -/
namespace Go.Proofs.Ytfaehomopgichaa
open Go.RowKit
set_option linter.unusedVariables false
set_option maxRecDepth 4000

set_option maxHeartbeats 400000 in
theorem at_any (v : Value) (xs : List Int) (p : Nat) (w : World) (h : Ints w v xs) :
    Calls Try.prog 50 #[v, .int .i64 p] w fun e w' => e = .returned (.int .i64 (nth xs p)) ∧ w' = w := by
  obtain ⟨a, len, cap, rfl, hlen, hmx, hsh, hr⟩ := h
  by_cases hp : p < len
  · obtain ⟨b, off, rfl, hb, hc⟩ := hr p (by omega)
    clear hr
    go_enter Try.func50, Try.ntmps50
    go_wp2
    go_ret
    exact ⟨rfl, rfl⟩
  · go_enter Try.func50, Try.ntmps50
    go_wp2
    go_ret
    exact ⟨ret_int (nth_past _ _ (by omega)).symm, rfl⟩

/-- Function g of two ints answers whether f. -/
def Asks (g : Nat) (f : Int → Int → Bool) : Prop := ∀ x y w, Calls Try.prog g #[.int .i64 x, .int .i64 y] w fun e w' => e = .returned (.bool (f x y)) ∧ w' = w

def okTok (x _y : Int) : Bool := decide (0 ≤ x) && decide (x ≤ 1000000)
def geTok (x y : Int) : Bool := decide (y ≤ x)

set_option maxHeartbeats 400000 in
theorem right1_any : Asks 42 okTok := by
  intro x y w
  by_cases h1 : 0 ≤ x <;> by_cases h2 : x ≤ 1000000 <;>
  · go_enter Try.func42, Try.ntmps42
    go_wp2
    go_ret
    exact ⟨by simp [okTok, h1, h2], rfl⟩

set_option maxHeartbeats 400000 in
theorem covers1_any : Asks 51 geTok := by
  intro x y w
  by_cases h1 : y ≤ x <;>
  · go_enter Try.func51, Try.ntmps51
    go_wp2
    go_ret
    exact ⟨by simp [geTok, h1], rfl⟩

/-- At each place up to n. -/
def allTo (f : Int → Int → Bool) (xs ys : List Int) (n : Nat) : Bool := (List.range n).all fun p => f (nth xs p) (nth ys p)

theorem allTo_zero (f : Int → Int → Bool) (xs ys : List Int) : allTo f xs ys 0 = true := rfl
theorem allTo_succ (f : Int → Int → Bool) (xs ys : List Int) (n : Nat) : allTo f xs ys (n + 1) = (allTo f xs ys n && f (nth xs n) (nth ys n)) := by
  unfold allTo; rw [List.range_succ, List.all_append]; simp
theorem allTo_false (f : Int → Int → Bool) (xs ys : List Int) (n k : Nat) (h : k < n) (hf : f (nth xs k) (nth ys k) = false) : allTo f xs ys n = false := by
  unfold allTo; rw [List.all_eq_false]; exact ⟨k, by simpa using h, by simp [hf]⟩

set_option maxHeartbeats 400000 in
theorem everywhere_any (g : Nat) (f : Int → Int → Bool) (hg : Asks g f) (eg : ∀ args w, (callFunc g args).run Try.prog w = .ok (.enter g args) w)
    (v u : Value) (xs ys : List Int) (w : World) (hv : Ints w v xs) (hu : Ints w u ys) :
    Calls Try.prog 41 #[v, u, .func (.func g) #[] #[]] w fun e w' => e = .returned (.bool (allTo f xs ys (max xs.length ys.length))) ∧ w' = w := by
  have hv' := hv
  have hu' := hu
  obtain ⟨a, la, ca, rfl, hla, hma, hsa, hra⟩ := hv
  obtain ⟨b, lb, cb, rfl, hlb, hmb, hsb, hrb⟩ := hu
  obtain ⟨n, Hn⟩ : ∃ n : Nat, max xs.length ys.length = n := ⟨_, rfl⟩
  rw [Hn]
  clear hra hrb
  by_cases hlt : la < lb
  case' pos => obtain rfl : n = lb := by omega
  case' neg => obtain rfl : n = la := by omega
  all_goals
    clear Hn hla hlb
    go_enter Try.func41, Try.ntmps41
    go_wp2
    go_loop [13] (fun i => ∃ k : Nat, k ≤ n ∧ i = .int .i64 k ∧ allTo f xs ys k = true) (fun i => n - (intOf i).toNat)
    case atStart => exact ⟨0, Nat.zero_le _, rfl, rfl⟩
    case round =>
      obtain ⟨k, hk, rfl, hall⟩ := hrel
      by_cases hkn : k < n
      · go_wp2_with fail
        refine (at_any _ xs k _ hv').mono ?_
        rintro e w' ⟨rfl, rfl⟩
        go_wp2_with fail
        refine (at_any _ ys k _ hu').mono ?_
        rintro e w' ⟨rfl, rfl⟩
        go_wp2_with fail
        refine (hg _ _ _).mono ?_
        rintro e w' ⟨rfl, rfl⟩
        cases hf : f (nth xs k) (nth ys k)
        · go_wp2
          go_ret
          exact ⟨ret_bool (allTo_false f xs ys n k hkn hf).symm, rfl⟩
        · go_wp2
          go_round
          case rel => exact ⟨k + 1, by omega, by go_num, by rw [allTo_succ, hall, hf]; rfl⟩
          case measure => simp [intOf]; omega
      · go_wp2
        go_ret
        have : k = n := by omega
        subst this
        exact ⟨ret_bool hall.symm, rfl⟩

theorem allTo_max (f : Int → Int → Bool) (xs ys : List Int) (m n : Nat) : allTo f xs ys (max m n) = (allTo f xs ys m && allTo f xs ys n) := by
  rw [Bool.eq_iff_iff]
  simp only [allTo, Bool.and_eq_true, List.all_eq_true, List.mem_range]
  exact ⟨fun h => ⟨fun p hp => h p (by omega), fun p hp => h p (by omega)⟩, fun ⟨h1, h2⟩ p hp => by by_cases hm : p < m; exact h1 p hm; exact h2 p (by omega)⟩

def rightL (xs : List Int) : Bool := allTo okTok xs [] xs.length
def coversL (xs ys : List Int) : Bool := allTo geTok xs ys (max xs.length ys.length)

set_option maxHeartbeats 400000 in
theorem right_any (v : Value) (xs : List Int) (w : World) (hv : Ints w v xs) :
    Calls Try.prog 30 #[v] w fun e w' => e = .returned (.bool (rightL xs)) ∧ w' = w := by
  go_enter Try.func30, Try.ntmps30
  go_wp2_with fail
  refine (everywhere_any 42 okTok right1_any Try.call42 _ _ xs [] _ hv (Ints.nil _)).mono ?_
  rintro e w' ⟨rfl, rfl⟩
  go_wp2
  go_ret
  exact ⟨ret_bool (by simp [rightL]), rfl⟩

set_option maxHeartbeats 400000 in
theorem covers_any (v u : Value) (xs ys : List Int) (w : World) (hv : Ints w v xs) (hu : Ints w u ys) :
    Calls Try.prog 43 #[v, u] w fun e w' => e = .returned (.bool (coversL xs ys)) ∧ w' = w := by
  go_enter Try.func43, Try.ntmps43
  go_wp2_with fail
  refine (everywhere_any 51 geTok covers1_any Try.call51 _ _ xs ys _ hv hu).mono ?_
  rintro e w' ⟨rfl, rfl⟩
  go_wp2
  go_ret
  exact ⟨rfl, rfl⟩

/-! The answers of the document itself -/

end Go.Proofs.Ytfaehomopgichaa

/- What the answers of the document itself for marks come to, and slices.Equal: they only read. -/
namespace Go.Proofs.Ytfaehomopgichaa
open Go.RowKit
set_option linter.unusedVariables false
set_option maxRecDepth 4000

theorem geTok_false {x y : Int} (h : x < y) : geTok x y = false := by simp [geTok]; omega
theorem geTok_true {x y : Int} (h : y ≤ x) : geTok x y = true := by simp [geTok]; omega

theorem nth_step {xs ys : List Int} {k : Nat} (h : ∀ j, j < k → nth xs j = nth ys j) (e : nth xs k = nth ys k) : ∀ j, j < k + 1 → nth xs j = nth ys j := by
  intro j hj
  by_cases hjk : j < k
  · exact h j hjk
  · obtain rfl : j = k := by omega
    exact e

theorem eq_of_nth (xs ys : List Int) (hl : xs.length = ys.length) (h : ∀ j, j < xs.length → nth xs j = nth ys j) : xs = ys := by
  refine List.ext_getElem hl fun i h1 h2 => ?_
  have := h i h1
  simpa [nth, List.getD, List.getElem?_eq_getElem h1, List.getElem?_eq_getElem h2] using this

end Go.Proofs.Ytfaehomopgichaa
