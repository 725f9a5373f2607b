import Derived.Test.YtakgppoeikcepaaGr00
import Derived.Test.YtakgppoeikcepaaProg
/- What the functions of package mark answer, that only read. -/
namespace Go.Proofs.Ytakgppoeikcepaa
open Go.RowKit
set_option linter.unusedVariables false
set_option maxRecDepth 4000

set_option maxHeartbeats 400000 in
theorem at_any (v : Value) (xs : List Int) (p : Nat) (w : World) (h : Ints w v xs) :
    Calls Try.prog 81 #[v, .int .i64 p] w fun e w' => e = .returned (.int .i64 (nth xs p)) ∧ w' = w := by
  obtain ⟨a, len, cap, rfl, hlen, hmx, hsh, hr⟩ := h
  by_cases hp : p < len
  · obtain ⟨b, off, rfl, hb, hc⟩ := hr p (by omega)
    clear hr
    go_enter Try.func81, Try.ntmps81
    go_wp2
    go_ret
    exact ⟨rfl, rfl⟩
  · go_enter Try.func81, Try.ntmps81
    go_wp2
    go_ret
    exact ⟨ret_int (nth_past _ _ (by omega)).symm, rfl⟩

/-- Function g of two ints answers whether f. -/
def Asks (g : Nat) (f : Int → Int → Bool) : Prop := ∀ x y w, Calls Try.prog g #[.int .i64 x, .int .i64 y] w fun e w' => e = .returned (.bool (f x y)) ∧ w' = w

def okTok (x _y : Int) : Bool := decide (0 ≤ x) && decide (x ≤ 1000000)
def geTok (x y : Int) : Bool := decide (y ≤ x)

set_option maxHeartbeats 400000 in
theorem right1_any : Asks 60 okTok := by
  intro x y w
  by_cases h1 : 0 ≤ x <;> by_cases h2 : x ≤ 1000000 <;>
  · go_enter Try.func60, Try.ntmps60
    go_wp2
    go_ret
    exact ⟨by simp [okTok, h1, h2], rfl⟩

set_option maxHeartbeats 400000 in
theorem covers1_any : Asks 82 geTok := by
  intro x y w
  by_cases h1 : y ≤ x <;>
  · go_enter Try.func82, Try.ntmps82
    go_wp2
    go_ret
    exact ⟨by simp [geTok, h1], rfl⟩

/-- At each place up to n. -/
def allTo (f : Int → Int → Bool) (xs ys : List Int) (n : Nat) : Bool := (List.range n).all fun p => f (nth xs p) (nth ys p)

theorem allTo_zero (f : Int → Int → Bool) (xs ys : List Int) : allTo f xs ys 0 = true := rfl
theorem allTo_succ (f : Int → Int → Bool) (xs ys : List Int) (n : Nat) : allTo f xs ys (n + 1) = (allTo f xs ys n && f (nth xs n) (nth ys n)) := by
  unfold allTo; rw [List.range_succ, List.all_append]; simp
theorem allTo_false (f : Int → Int → Bool) (xs ys : List Int) (n k : Nat) (h : k < n) (hf : f (nth xs k) (nth ys k) = false) : allTo f xs ys n = false := by
  unfold allTo; rw [List.all_eq_false]; exact ⟨k, by simpa using h, by simp [hf]⟩

set_option maxHeartbeats 400000 in
theorem everywhere_any (g : Nat) (f : Int → Int → Bool) (hg : Asks g f) (eg : ∀ args w, (callFunc g args).run Try.prog w = .ok (.enter g args) w)
    (v u : Value) (xs ys : List Int) (w : World) (hv : Ints w v xs) (hu : Ints w u ys) :
    Calls Try.prog 59 #[v, u, .func (.func g) #[] #[]] w fun e w' => e = .returned (.bool (allTo f xs ys (max xs.length ys.length))) ∧ w' = w := by
  have hv' := hv
  have hu' := hu
  obtain ⟨a, la, ca, rfl, hla, hma, hsa, hra⟩ := hv
  obtain ⟨b, lb, cb, rfl, hlb, hmb, hsb, hrb⟩ := hu
  obtain ⟨n, Hn⟩ : ∃ n : Nat, max xs.length ys.length = n := ⟨_, rfl⟩
  rw [Hn]
  clear hra hrb
  by_cases hlt : la < lb
  case' pos => obtain rfl : n = lb := by omega
  case' neg => obtain rfl : n = la := by omega
  all_goals
    clear Hn hla hlb
    go_enter Try.func59, Try.ntmps59
    go_wp2
    go_loop [13] (fun i => ∃ k : Nat, k ≤ n ∧ i = .int .i64 k ∧ allTo f xs ys k = true) (fun i => n - (intOf i).toNat)
    case atStart => exact ⟨0, Nat.zero_le _, rfl, rfl⟩
    case round =>
      obtain ⟨k, hk, rfl, hall⟩ := hrel
      by_cases hkn : k < n
      · go_wp2_with fail
        refine (at_any _ xs k _ hv').mono ?_
        rintro e w' ⟨rfl, rfl⟩
        go_wp2_with fail
        refine (at_any _ ys k _ hu').mono ?_
        rintro e w' ⟨rfl, rfl⟩
        go_wp2_with fail
        refine (hg _ _ _).mono ?_
        rintro e w' ⟨rfl, rfl⟩
        cases hf : f (nth xs k) (nth ys k)
        · go_wp2
          go_ret
          exact ⟨ret_bool (allTo_false f xs ys n k hkn hf).symm, rfl⟩
        · go_wp2
          go_round
          case rel => exact ⟨k + 1, by omega, by go_num, by rw [allTo_succ, hall, hf]; rfl⟩
          case measure => simp [intOf]; omega
      · go_wp2
        go_ret
        have : k = n := by omega
        subst this
        exact ⟨ret_bool hall.symm, rfl⟩

theorem allTo_max (f : Int → Int → Bool) (xs ys : List Int) (m n : Nat) : allTo f xs ys (max m n) = (allTo f xs ys m && allTo f xs ys n) := by
  rw [Bool.eq_iff_iff]
  simp only [allTo, Bool.and_eq_true, List.all_eq_true, List.mem_range]
  exact ⟨fun h => ⟨fun p hp => h p (by omega), fun p hp => h p (by omega)⟩, fun ⟨h1, h2⟩ p hp => by by_cases hm : p < m; exact h1 p hm; exact h2 p (by omega)⟩

def rightL (xs : List Int) : Bool := allTo okTok xs [] xs.length
def coversL (xs ys : List Int) : Bool := allTo geTok xs ys (max xs.length ys.length)

set_option maxHeartbeats 400000 in
theorem right_any (v : Value) (xs : List Int) (w : World) (hv : Ints w v xs) :
    Calls Try.prog 35 #[v] w fun e w' => e = .returned (.bool (rightL xs)) ∧ w' = w := by
  go_enter Try.func35, Try.ntmps35
  go_wp2_with fail
  refine (everywhere_any 60 okTok right1_any Try.call60 _ _ xs [] _ hv (Ints.nil _)).mono ?_
  rintro e w' ⟨rfl, rfl⟩
  go_wp2
  go_ret
  exact ⟨ret_bool (by simp [rightL]), rfl⟩

set_option maxHeartbeats 400000 in
theorem covers_any (v u : Value) (xs ys : List Int) (w : World) (hv : Ints w v xs) (hu : Ints w u ys) :
    Calls Try.prog 61 #[v, u] w fun e w' => e = .returned (.bool (coversL xs ys)) ∧ w' = w := by
  go_enter Try.func61, Try.ntmps61
  go_wp2_with fail
  refine (everywhere_any 82 geTok covers1_any Try.call82 _ _ xs ys _ hv hu).mono ?_
  rintro e w' ⟨rfl, rfl⟩
  go_wp2
  go_ret
  exact ⟨rfl, rfl⟩

set_option maxHeartbeats 400000 in
theorem same_any (v u : Value) (xs ys : List Int) (w : World) (hv : Ints w v xs) (hu : Ints w u ys) :
    Calls Try.prog 68 #[v, u] w fun e w' => e = .returned (.bool (coversL xs ys && coversL ys xs)) ∧ w' = w := by
  go_enter Try.func68, Try.ntmps68
  go_wp2_with fail
  refine (covers_any _ _ xs ys _ hv hu).mono ?_
  rintro e w' ⟨rfl, rfl⟩
  cases h1 : coversL xs ys
  · go_wp2
    go_ret
    exact ⟨by simp [h1], rfl⟩
  · go_wp2_with fail
    refine (covers_any _ _ ys xs _ hu hv).mono ?_
    rintro e w' ⟨rfl, rfl⟩
    go_wp2
    go_ret
    exact ⟨by simp [h1], rfl⟩

/-! The answers of the document itself -/

set_option maxHeartbeats 400000 in
theorem aat_any (v : Value) (xs : List Int) (p : Nat) (w : World) (h : Ints w v xs) :
    Calls Try.prog 85 #[v, .int .i64 p] w fun e w' => e = .returned (.int .i64 (nth xs p)) ∧ w' = w := by
  obtain ⟨a, len, cap, rfl, hlen, hmx, hsh, hr⟩ := h
  go_enter Try.func85, Try.ntmps85
  go_wp2
  go_loop [5, 10] (fun n i => ∃ k : Nat, k ≤ len ∧ i = .int .i64 k ∧ n = .int .i64 (if p < k then nth xs p else 0)) (fun _ i => len - (intOf i).toNat)
  case atStart => exact ⟨0, Nat.zero_le _, rfl, rfl⟩
  case round =>
    obtain ⟨k, hk, rfl, rfl⟩ := hrel
    by_cases hkn : k < len
    · obtain ⟨b, off, rfl, hb, hc⟩ := hr k (by omega)
      clear hr
      by_cases hkp : k = p
      · subst hkp
        have e1 : (((k : Nat) : Int) == (k : Int)) = true := by simp
        go_wp2
        go_round
        case rel => exact ⟨k + 1, by omega, by go_num, by simp⟩
        case measure => simp [intOf]; omega
      · have e1 : (((k : Nat) : Int) == (p : Int)) = false := by simp; omega
        go_wp2
        all_goals
          go_round
          case rel => exact ⟨k + 1, by omega, by go_num, by congr 1; split <;> split <;> first | rfl | omega⟩
          case measure => simp [intOf]; omega
    · go_wp2
      all_goals
        go_ret
        refine ⟨ret_int ?_, rfl⟩
        first | rfl | (rw [nth_past]; omega)

end Go.Proofs.Ytakgppoeikcepaa

/- What the answers of the document itself for marks come to, and slices.Equal: they only read. -/
namespace Go.Proofs.Ytakgppoeikcepaa
open Go.RowKit
set_option linter.unusedVariables false
set_option maxRecDepth 4000

set_option maxHeartbeats 400000 in
theorem aright_any (v : Value) (xs : List Int) (w : World) (h : Ints w v xs) :
    Calls Try.prog 78 #[v] w fun e w' => e = .returned (.bool (rightL xs)) ∧ w' = w := by
  obtain ⟨a, len, cap, rfl, hlen, hmx, hsh, hr⟩ := h
  go_enter Try.func78, Try.ntmps78
  go_wp2
  go_loop [3, 8] (fun o i => ∃ k : Nat, k ≤ len ∧ i = .int .i64 k ∧ o = .bool (allTo okTok xs [] k)) (fun _ i => len - (intOf i).toNat)
  case atStart => exact ⟨0, Nat.zero_le _, rfl, rfl⟩
  case round =>
    obtain ⟨k, hk, rfl, rfl⟩ := hrel
    by_cases hkn : k < len
    · obtain ⟨b, off, rfl, hb, hc⟩ := hr k (by omega)
      clear hr
      have hs := allTo_succ okTok xs [] k
      cases ha : allTo okTok xs [] k
      · have Hs : Hid (allTo okTok xs [] (k + 1) = false) := by rw [hs, ha]; rfl
        clear hs ha
        go_wp2
        go_round
        case rel => exact ⟨k + 1, by omega, by go_num, by rw [Hs.out]⟩
        case measure => simp [intOf]; omega
      · have Hs : Hid (allTo okTok xs [] (k + 1) = okTok (nth xs k) (nth [] k)) := by rw [hs, ha]; rfl
        clear hs ha
        by_cases h1 : 0 ≤ nth xs k
        · by_cases h2 : nth xs k ≤ 1000000
          · go_wp2
            go_round
            case rel => exact ⟨k + 1, by omega, by go_num, by rw [Hs.out]; simp [okTok, h1, h2]⟩
            case measure => simp [intOf]; omega
          · go_wp2
            go_round
            case rel => exact ⟨k + 1, by omega, by go_num, by rw [Hs.out]; simp [okTok]; omega⟩
            case measure => simp [intOf]; omega
        · go_wp2
          go_round
          case rel => exact ⟨k + 1, by omega, by go_num, by rw [Hs.out]; simp [okTok]; omega⟩
          case measure => simp [intOf]; omega
    · go_wp2
      go_ret
      have : k = xs.length := by omega
      subst this
      exact ⟨rfl, rfl⟩

theorem geTok_false {x y : Int} (h : x < y) : geTok x y = false := by simp [geTok]; omega
theorem geTok_true {x y : Int} (h : y ≤ x) : geTok x y = true := by simp [geTok]; omega

set_option maxHeartbeats 400000 in
theorem acovers_any (v u : Value) (xs ys : List Int) (w : World) (hv : Ints w v xs) (hu : Ints w u ys) :
    Calls Try.prog 79 #[v, u] w fun e w' => e = .returned (.bool (coversL xs ys)) ∧ ∃ m, w' = w.drewN m := by
  have hv' := hv
  have hu' := hu
  obtain ⟨a, la, ca, rfl, hla, hma, hsa, hra⟩ := hv
  obtain ⟨b, lb, cb, rfl, hlb, hmb, hsb, hrb⟩ := hu
  have Hmx : Hid (coversL xs ys = (allTo geTok xs ys la && allTo geTok xs ys lb)) := by
    show _ = _; unfold coversL; rw [allTo_max, hla, hlb]
  go_enter Try.func79, Try.ntmps79
  go_wp2
  go_loopw [9] (fun i wr => ∃ k : Nat, k ≤ la ∧ i = .int .i64 k ∧ allTo geTok xs ys k = true ∧ ∃ m, wr = w.drewN m) (fun i _ => la - (intOf i).toNat)
  case atStart => exact ⟨0, Nat.zero_le _, rfl, rfl, 0, rfl⟩
  case round =>
    obtain ⟨k, hk, rfl, hall, m, hwm⟩ := hrel
    have Hw : Hid (wr = w.drewN m) := hwm
    have hv2 : Ints wr (.slice a la ca) xs := by rw [hwm]; exact hv'.drewN m
    have hu2 : Ints wr (.slice b lb cb) ys := by rw [hwm]; exact hu'.drewN m
    have hra2 : Row wr a xs := by rw [hwm]; exact hra.drewN m
    clear hwm hra
    by_cases hkn : k < la
    · obtain ⟨bx, off, rfl, hbx, hc⟩ := hra2 k (by omega)
      clear hra2 hrb
      by_cases hg : nth xs k < nth ys k
      · go_wp2
        go_quiet ((go_at_call 85; exact Calls.quiet_of_same (aat_any _ ys k _ (by exact Ints.drewN hu2 _))))
        go_wp2
        go_ret
        refine ⟨ret_bool ?_, m + nq, by rw [Hw.out, World.drewN_drewN]⟩
        rw [Hmx.out, allTo_false geTok xs ys la k hkn (geTok_false hg)]; rfl
      · go_wp2
        go_quiet ((go_at_call 85; exact Calls.quiet_of_same (aat_any _ ys k _ (by exact Ints.drewN hu2 _))))
        go_wp2
        go_roundw
        case rel => exact ⟨k + 1, by omega, by go_num, by rw [allTo_succ, hall, geTok_true hg]; rfl, m + nq, by rw [Hw.out, World.drewN_drewN]⟩
        case measure => simp [intOf]; omega
    · have hka : k = la := by omega
      have Hall : Hid (allTo geTok xs ys la = true) := by rw [← hka]; exact hall
      clear hall hka hra2
      go_wp2
      go_loopw [23] (fun i wr => ∃ k : Nat, k ≤ lb ∧ i = .int .i64 k ∧ allTo geTok xs ys k = true ∧ ∃ m, wr = w.drewN m) (fun i _ => lb - (intOf i).toNat)
      case atStart => exact ⟨0, Nat.zero_le _, rfl, rfl, m, Hw.out⟩
      case round =>
        clear Hw hu2 hv2
        obtain ⟨k', hk', rfl, hall', m', hwm⟩ := hrel
        have Hw : Hid (wr = w.drewN m') := hwm
        have hv2 : Ints wr (.slice a la ca) xs := by rw [hwm]; exact hv'.drewN m'
        have hrb2 : Row wr b ys := by rw [hwm]; exact hrb.drewN m'
        clear hwm hrb
        by_cases hkn' : k' < lb
        · obtain ⟨bx, off, rfl, hbx, hc⟩ := hrb2 k' (by omega)
          clear hrb2
          by_cases hg : nth xs k' < nth ys k'
          · go_wp2
            go_quiet ((go_at_call 85; exact Calls.quiet_of_same (aat_any _ xs k' _ (by exact Ints.drewN hv2 _))))
            go_wp2
            go_ret
            refine ⟨ret_bool ?_, m' + nq, by rw [Hw.out, World.drewN_drewN]⟩
            rw [Hmx.out, allTo_false geTok xs ys lb k' hkn' (geTok_false hg)]; simp
          · go_wp2
            go_quiet ((go_at_call 85; exact Calls.quiet_of_same (aat_any _ xs k' _ (by exact Ints.drewN hv2 _))))
            go_wp2
            go_roundw
            case rel => exact ⟨k' + 1, by omega, by go_num, by rw [allTo_succ, hall', geTok_true hg]; rfl, m' + nq, by rw [Hw.out, World.drewN_drewN]⟩
            case measure => simp [intOf]; omega
        · have hkb : k' = lb := by omega
          have Hall' : Hid (allTo geTok xs ys lb = true) := by rw [← hkb]; exact hall'
          clear hall' hkb
          go_wp2
          go_ret
          exact ⟨ret_bool (by rw [Hmx.out, Hall.out, Hall'.out]; rfl), m', Hw.out⟩

theorem nth_step {xs ys : List Int} {k : Nat} (h : ∀ j, j < k → nth xs j = nth ys j) (e : nth xs k = nth ys k) : ∀ j, j < k + 1 → nth xs j = nth ys j := by
  intro j hj
  by_cases hjk : j < k
  · exact h j hjk
  · obtain rfl : j = k := by omega
    exact e

theorem eq_of_nth (xs ys : List Int) (hl : xs.length = ys.length) (h : ∀ j, j < xs.length → nth xs j = nth ys j) : xs = ys := by
  refine List.ext_getElem hl fun i h1 h2 => ?_
  have := h i h1
  simpa [nth, List.getD, List.getElem?_eq_getElem h1, List.getElem?_eq_getElem h2] using this

set_option maxHeartbeats 400000 in
theorem equal_any (v u : Value) (xs ys : List Int) (w : World) (hv : Ints w v xs) (hu : Ints w u ys) :
    Calls Try.prog 11 #[v, u] w fun e w' => e = .returned (.bool (xs == ys)) ∧ ∃ m, w' = w.drewN m := by
  obtain ⟨a, la, ca, rfl, hla, hma, hsa, hra⟩ := hv
  obtain ⟨b, lb, cb, rfl, hlb, hmb, hsb, hrb⟩ := hu
  by_cases hl : la = lb
  · subst hl
    have e1 : (((la : Nat) : Int) != (la : Int)) = false := by simp
    go_enter Try.func11, Try.ntmps11
    go_wp2
    go_loopw [13] (fun i wr => ∃ k : Nat, k ≤ la ∧ i = .int .i64 k ∧ (∀ j, j < k → nth xs j = nth ys j) ∧ ∃ m, wr = w.drewN m) (fun i _ => la - (intOf i).toNat)
    case atStart => exact ⟨0, Nat.zero_le _, rfl, fun j hj => absurd hj (Nat.not_lt_zero _), 0, rfl⟩
    case round =>
      obtain ⟨k, hk, rfl, hall0, m, hwm⟩ := hrel
      have Hall : Hid (∀ j, j < k → nth xs j = nth ys j) := hall0
      have Hw : Hid (wr = w.drewN m) := hwm
      have hra2 : Row wr a xs := by rw [hwm]; exact hra.drewN m
      have hrb2 : Row wr b ys := by rw [hwm]; exact hrb.drewN m
      clear hwm hra hrb hall0
      by_cases hkn : k < la
      · obtain ⟨bx, off, rfl, hbx, hc⟩ := hra2 k (by omega)
        obtain ⟨bx', off', rfl, hbx', hc'⟩ := hrb2 k (by omega)
        clear hra2 hrb2
        by_cases hg : nth xs k = nth ys k
        · have e2 : (nth xs k != nth ys k) = false := by simp [hg]
          have Hg : Hid (nth xs k = nth ys k) := hg
          clear hg
          go_wp2
          go_quiet (fail)
          go_wp2
          go_roundw
          case rel => exact ⟨k + 1, by omega, by go_num, nth_step Hall.out Hg.out, m + nq, by rw [Hw.out, World.drewN_drewN]⟩
          case measure => simp [intOf]; omega
        · have e2 : (nth xs k != nth ys k) = true := by simp [hg]
          go_wp2
          go_quiet (fail)
          go_wp2
          go_ret
          exact ⟨ret_bool (by symm; rw [beq_eq_false_iff_ne]; intro h; exact hg (by rw [h])), m + nq, by rw [Hw.out, World.drewN_drewN]⟩
      · go_wp2
        go_ret
        refine ⟨ret_bool ?_, m, Hw.out⟩
        symm; rw [beq_iff_eq]
        exact eq_of_nth xs ys (by omega) (fun j hj => Hall.out j (by omega))
  · have e1 : (((la : Nat) : Int) != (lb : Int)) = true := by simp; omega
    go_enter Try.func11, Try.ntmps11
    go_wp2
    go_ret
    refine ⟨ret_bool ?_, 0, rfl⟩
    symm; rw [beq_eq_false_iff_ne]
    intro h; rw [h] at hla; omega

theorem acovers_b (v u : Value) (xs ys : List Int) (w : World) (hv : Ints w v xs) (hu : Ints w u ys) :
    Calls Try.prog 79 #[v, u] w fun e w' => e = .returned (.bool (coversL xs ys)) ∧ Below w.heap.size w w' :=
  (acovers_any v u xs ys w hv hu).mono fun _ _ h => ⟨h.1, below_of_drewN h.2⟩

theorem equal_b (v u : Value) (xs ys : List Int) (w : World) (hv : Ints w v xs) (hu : Ints w u ys) :
    Calls Try.prog 11 #[v, u] w fun e w' => e = .returned (.bool (xs == ys)) ∧ Below w.heap.size w w' :=
  (equal_any v u xs ys w hv hu).mono fun _ _ h => ⟨h.1, below_of_drewN h.2⟩

end Go.Proofs.Ytakgppoeikcepaa
