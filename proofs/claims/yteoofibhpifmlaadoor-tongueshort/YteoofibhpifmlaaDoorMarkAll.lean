import Derived.Test.YteoofibhpifmlaaDoorBase
import Derived.Test.YteoofibhpifmlaaDoorProg
import Derived.Test.YteoofibhpifmlaaDoorOwn
/- What the functions of package mark answer, that only read. -/
namespace Go.Proofs.YteoofibhpifmlaaDoor
open Go.RowKit
set_option linter.unusedVariables false
set_option maxRecDepth 4000

set_option maxHeartbeats 400000 in
theorem at_any (v : Value) (xs : List Int) (p : Nat) (w : World) (h : Ints w v xs) :
    Calls Tryd.prog 94 #[v, .int .i64 p] w fun e w' => e = .returned (.int .i64 (nth xs p)) ∧ w' = w := by
  obtain ⟨a, len, cap, rfl, hlen, hmx, hsh, hr⟩ := h
  by_cases hp : p < len
  · obtain ⟨b, off, rfl, hb, hc⟩ := hr p (by omega)
    clear hr
    go_enter Tryd.func94, Tryd.ntmps94
    go_wp2
    go_ret
    exact ⟨rfl, rfl⟩
  · go_enter Tryd.func94, Tryd.ntmps94
    go_wp2
    go_ret
    exact ⟨ret_int (nth_past _ _ (by omega)).symm, rfl⟩

/-- Function g of two ints answers whether f. -/
def Asks (g : Nat) (f : Int → Int → Bool) : Prop := ∀ x y w, Calls Tryd.prog g #[.int .i64 x, .int .i64 y] w fun e w' => e = .returned (.bool (f x y)) ∧ w' = w

def okTok (x _y : Int) : Bool := decide (0 ≤ x) && decide (x ≤ 1000000)
def geTok (x y : Int) : Bool := decide (y ≤ x)

set_option maxHeartbeats 400000 in
theorem right1_any : Asks 76 okTok := by
  intro x y w
  by_cases h1 : 0 ≤ x <;> by_cases h2 : x ≤ 1000000 <;>
  · go_enter Tryd.func76, Tryd.ntmps76
    go_wp2
    go_ret
    exact ⟨by simp [okTok, h1, h2], rfl⟩

set_option maxHeartbeats 400000 in
theorem covers1_any : Asks 95 geTok := by
  intro x y w
  by_cases h1 : y ≤ x <;>
  · go_enter Tryd.func95, Tryd.ntmps95
    go_wp2
    go_ret
    exact ⟨by simp [geTok, h1], rfl⟩

/-- At each place up to n. -/
def allTo (f : Int → Int → Bool) (xs ys : List Int) (n : Nat) : Bool := (List.range n).all fun p => f (nth xs p) (nth ys p)

theorem allTo_zero (f : Int → Int → Bool) (xs ys : List Int) : allTo f xs ys 0 = true := rfl
theorem allTo_succ (f : Int → Int → Bool) (xs ys : List Int) (n : Nat) : allTo f xs ys (n + 1) = (allTo f xs ys n && f (nth xs n) (nth ys n)) := by
  unfold allTo; rw [List.range_succ, List.all_append]; simp
theorem allTo_false (f : Int → Int → Bool) (xs ys : List Int) (n k : Nat) (h : k < n) (hf : f (nth xs k) (nth ys k) = false) : allTo f xs ys n = false := by
  unfold allTo; rw [List.all_eq_false]; exact ⟨k, by simpa using h, by simp [hf]⟩

set_option maxHeartbeats 400000 in
theorem everywhere_any (g : Nat) (f : Int → Int → Bool) (hg : Asks g f) (eg : ∀ args w, (callFunc g args).run Tryd.prog w = .ok (.enter g args) w)
    (v u : Value) (xs ys : List Int) (w : World) (hv : Ints w v xs) (hu : Ints w u ys) :
    Calls Tryd.prog 75 #[v, u, .func (.func g) #[] #[]] w fun e w' => e = .returned (.bool (allTo f xs ys (max xs.length ys.length))) ∧ w' = w := by
  have hv' := hv
  have hu' := hu
  obtain ⟨a, la, ca, rfl, hla, hma, hsa, hra⟩ := hv
  obtain ⟨b, lb, cb, rfl, hlb, hmb, hsb, hrb⟩ := hu
  obtain ⟨n, Hn⟩ : ∃ n : Nat, max xs.length ys.length = n := ⟨_, rfl⟩
  rw [Hn]
  clear hra hrb
  by_cases hlt : la < lb
  case' pos => obtain rfl : n = lb := by omega
  case' neg => obtain rfl : n = la := by omega
  all_goals
    clear Hn hla hlb
    go_enter Tryd.func75, Tryd.ntmps75
    go_wp2
    go_loop [13] (fun i => ∃ k : Nat, k ≤ n ∧ i = .int .i64 k ∧ allTo f xs ys k = true) (fun i => n - (intOf i).toNat)
    case atStart => exact ⟨0, Nat.zero_le _, rfl, rfl⟩
    case round =>
      obtain ⟨k, hk, rfl, hall⟩ := hrel
      by_cases hkn : k < n
      · go_wp2_with fail
        refine (at_any _ xs k _ hv').mono ?_
        rintro e w' ⟨rfl, rfl⟩
        go_wp2_with fail
        refine (at_any _ ys k _ hu').mono ?_
        rintro e w' ⟨rfl, rfl⟩
        go_wp2_with fail
        refine (hg _ _ _).mono ?_
        rintro e w' ⟨rfl, rfl⟩
        cases hf : f (nth xs k) (nth ys k)
        · go_wp2
          go_ret
          exact ⟨ret_bool (allTo_false f xs ys n k hkn hf).symm, rfl⟩
        · go_wp2
          go_round
          case rel => exact ⟨k + 1, by omega, by go_num, by rw [allTo_succ, hall, hf]; rfl⟩
          case measure => simp [intOf]; omega
      · go_wp2
        go_ret
        have : k = n := by omega
        subst this
        exact ⟨ret_bool hall.symm, rfl⟩

theorem allTo_max (f : Int → Int → Bool) (xs ys : List Int) (m n : Nat) : allTo f xs ys (max m n) = (allTo f xs ys m && allTo f xs ys n) := by
  rw [Bool.eq_iff_iff]
  simp only [allTo, Bool.and_eq_true, List.all_eq_true, List.mem_range]
  exact ⟨fun h => ⟨fun p hp => h p (by omega), fun p hp => h p (by omega)⟩, fun ⟨h1, h2⟩ p hp => by by_cases hm : p < m; exact h1 p hm; exact h2 p (by omega)⟩

def rightL (xs : List Int) : Bool := allTo okTok xs [] xs.length
def coversL (xs ys : List Int) : Bool := allTo geTok xs ys (max xs.length ys.length)

set_option maxHeartbeats 400000 in
theorem right_any (v : Value) (xs : List Int) (w : World) (hv : Ints w v xs) :
    Calls Tryd.prog 46 #[v] w fun e w' => e = .returned (.bool (rightL xs)) ∧ w' = w := by
  go_enter Tryd.func46, Tryd.ntmps46
  go_wp2_with fail
  refine (everywhere_any 76 okTok right1_any Tryd.call76 _ _ xs [] _ hv (Ints.nil _)).mono ?_
  rintro e w' ⟨rfl, rfl⟩
  go_wp2
  go_ret
  exact ⟨ret_bool (by simp [rightL]), rfl⟩

set_option maxHeartbeats 400000 in
theorem covers_any (v u : Value) (xs ys : List Int) (w : World) (hv : Ints w v xs) (hu : Ints w u ys) :
    Calls Tryd.prog 77 #[v, u] w fun e w' => e = .returned (.bool (coversL xs ys)) ∧ w' = w := by
  go_enter Tryd.func77, Tryd.ntmps77
  go_wp2_with fail
  refine (everywhere_any 95 geTok covers1_any Tryd.call95 _ _ xs ys _ hv hu).mono ?_
  rintro e w' ⟨rfl, rfl⟩
  go_wp2
  go_ret
  exact ⟨rfl, rfl⟩

set_option maxHeartbeats 400000 in
theorem same_any (v u : Value) (xs ys : List Int) (w : World) (hv : Ints w v xs) (hu : Ints w u ys) :
    Calls Tryd.prog 58 #[v, u] w fun e w' => e = .returned (.bool (coversL xs ys && coversL ys xs)) ∧ w' = w := by
  go_enter Tryd.func58, Tryd.ntmps58
  go_wp2_with fail
  refine (covers_any _ _ xs ys _ hv hu).mono ?_
  rintro e w' ⟨rfl, rfl⟩
  cases h1 : coversL xs ys
  · go_wp2
    go_ret
    exact ⟨by simp [h1], rfl⟩
  · go_wp2_with fail
    refine (covers_any _ _ ys xs _ hu hv).mono ?_
    rintro e w' ⟨rfl, rfl⟩
    go_wp2
    go_ret
    exact ⟨by simp [h1], rfl⟩

/-! The answers of the document itself -/

set_option maxHeartbeats 400000 in
theorem aat_any (v : Value) (xs : List Int) (p : Nat) (w : World) (h : Ints w v xs) :
    Calls Tryd.prog 105 #[v, .int .i64 p] w fun e w' => e = .returned (.int .i64 (nth xs p)) ∧ w' = w := by
  obtain ⟨a, len, cap, rfl, hlen, hmx, hsh, hr⟩ := h
  go_enter Tryd.func105, Tryd.ntmps105
  go_wp2
  go_loop [5, 10] (fun n i => ∃ k : Nat, k ≤ len ∧ i = .int .i64 k ∧ n = .int .i64 (if p < k then nth xs p else 0)) (fun _ i => len - (intOf i).toNat)
  case atStart => exact ⟨0, Nat.zero_le _, rfl, rfl⟩
  case round =>
    obtain ⟨k, hk, rfl, rfl⟩ := hrel
    by_cases hkn : k < len
    · obtain ⟨b, off, rfl, hb, hc⟩ := hr k (by omega)
      clear hr
      by_cases hkp : k = p
      · subst hkp
        have e1 : (((k : Nat) : Int) == (k : Int)) = true := by simp
        go_wp2
        go_round
        case rel => exact ⟨k + 1, by omega, by go_num, by simp⟩
        case measure => simp [intOf]; omega
      · have e1 : (((k : Nat) : Int) == (p : Int)) = false := by simp; omega
        go_wp2
        all_goals
          go_round
          case rel => exact ⟨k + 1, by omega, by go_num, by congr 1; split <;> split <;> first | rfl | omega⟩
          case measure => simp [intOf]; omega
    · go_wp2
      all_goals
        go_ret
        refine ⟨ret_int ?_, rfl⟩
        first | rfl | (rw [nth_past]; omega)

end Go.Proofs.YteoofibhpifmlaaDoor

/- What the answers of the document itself for marks come to, and slices.Equal: they only read. -/
namespace Go.Proofs.YteoofibhpifmlaaDoor
open Go.RowKit
set_option linter.unusedVariables false
set_option maxRecDepth 4000

set_option maxHeartbeats 400000 in
theorem aright_any (v : Value) (xs : List Int) (w : World) (h : Ints w v xs) :
    Calls Tryd.prog 90 #[v] w fun e w' => e = .returned (.bool (rightL xs)) ∧ w' = w := by
  obtain ⟨a, len, cap, rfl, hlen, hmx, hsh, hr⟩ := h
  go_enter Tryd.func90, Tryd.ntmps90
  go_wp2
  go_loop [3, 8] (fun o i => ∃ k : Nat, k ≤ len ∧ i = .int .i64 k ∧ o = .bool (allTo okTok xs [] k)) (fun _ i => len - (intOf i).toNat)
  case atStart => exact ⟨0, Nat.zero_le _, rfl, rfl⟩
  case round =>
    obtain ⟨k, hk, rfl, rfl⟩ := hrel
    by_cases hkn : k < len
    · obtain ⟨b, off, rfl, hb, hc⟩ := hr k (by omega)
      clear hr
      have hs := allTo_succ okTok xs [] k
      cases ha : allTo okTok xs [] k
      · have Hs : Hid (allTo okTok xs [] (k + 1) = false) := by rw [hs, ha]; rfl
        clear hs ha
        go_wp2
        go_round
        case rel => exact ⟨k + 1, by omega, by go_num, by rw [Hs.out]⟩
        case measure => simp [intOf]; omega
      · have Hs : Hid (allTo okTok xs [] (k + 1) = okTok (nth xs k) (nth [] k)) := by rw [hs, ha]; rfl
        clear hs ha
        by_cases h1 : 0 ≤ nth xs k
        · by_cases h2 : nth xs k ≤ 1000000
          · go_wp2
            go_round
            case rel => exact ⟨k + 1, by omega, by go_num, by rw [Hs.out]; simp [okTok, h1, h2]⟩
            case measure => simp [intOf]; omega
          · go_wp2
            go_round
            case rel => exact ⟨k + 1, by omega, by go_num, by rw [Hs.out]; simp [okTok]; omega⟩
            case measure => simp [intOf]; omega
        · go_wp2
          go_round
          case rel => exact ⟨k + 1, by omega, by go_num, by rw [Hs.out]; simp [okTok]; omega⟩
          case measure => simp [intOf]; omega
    · go_wp2
      go_ret
      have : k = xs.length := by omega
      subst this
      exact ⟨rfl, rfl⟩

theorem geTok_false {x y : Int} (h : x < y) : geTok x y = false := by simp [geTok]; omega
theorem geTok_true {x y : Int} (h : y ≤ x) : geTok x y = true := by simp [geTok]; omega

set_option maxHeartbeats 400000 in
theorem acovers_any (v u : Value) (xs ys : List Int) (w : World) (hv : Ints w v xs) (hu : Ints w u ys) :
    Calls Tryd.prog 91 #[v, u] w fun e w' => e = .returned (.bool (coversL xs ys)) ∧ ∃ m, w' = w.drewN m := by
  have hv' := hv
  have hu' := hu
  obtain ⟨a, la, ca, rfl, hla, hma, hsa, hra⟩ := hv
  obtain ⟨b, lb, cb, rfl, hlb, hmb, hsb, hrb⟩ := hu
  have Hmx : Hid (coversL xs ys = (allTo geTok xs ys la && allTo geTok xs ys lb)) := by
    show _ = _; unfold coversL; rw [allTo_max, hla, hlb]
  go_enter Tryd.func91, Tryd.ntmps91
  go_wp2
  go_loopw [9] (fun i wr => ∃ k : Nat, k ≤ la ∧ i = .int .i64 k ∧ allTo geTok xs ys k = true ∧ ∃ m, wr = w.drewN m) (fun i _ => la - (intOf i).toNat)
  case atStart => exact ⟨0, Nat.zero_le _, rfl, rfl, 0, rfl⟩
  case round =>
    obtain ⟨k, hk, rfl, hall, m, hwm⟩ := hrel
    have Hw : Hid (wr = w.drewN m) := hwm
    have hv2 : Ints wr (.slice a la ca) xs := by rw [hwm]; exact hv'.drewN m
    have hu2 : Ints wr (.slice b lb cb) ys := by rw [hwm]; exact hu'.drewN m
    have hra2 : Row wr a xs := by rw [hwm]; exact hra.drewN m
    clear hwm hra
    by_cases hkn : k < la
    · obtain ⟨bx, off, rfl, hbx, hc⟩ := hra2 k (by omega)
      clear hra2 hrb
      by_cases hg : nth xs k < nth ys k
      · go_wp2
        go_quiet ((go_at_call 105; exact Calls.quiet_of_same (aat_any _ ys k _ (by exact Ints.drewN hu2 _))))
        go_wp2
        go_ret
        refine ⟨ret_bool ?_, m + nq, by rw [Hw.out, World.drewN_drewN]⟩
        rw [Hmx.out, allTo_false geTok xs ys la k hkn (geTok_false hg)]; rfl
      · go_wp2
        go_quiet ((go_at_call 105; exact Calls.quiet_of_same (aat_any _ ys k _ (by exact Ints.drewN hu2 _))))
        go_wp2
        go_roundw
        case rel => exact ⟨k + 1, by omega, by go_num, by rw [allTo_succ, hall, geTok_true hg]; rfl, m + nq, by rw [Hw.out, World.drewN_drewN]⟩
        case measure => simp [intOf]; omega
    · have hka : k = la := by omega
      have Hall : Hid (allTo geTok xs ys la = true) := by rw [← hka]; exact hall
      clear hall hka hra2
      go_wp2
      go_loopw [23] (fun i wr => ∃ k : Nat, k ≤ lb ∧ i = .int .i64 k ∧ allTo geTok xs ys k = true ∧ ∃ m, wr = w.drewN m) (fun i _ => lb - (intOf i).toNat)
      case atStart => exact ⟨0, Nat.zero_le _, rfl, rfl, m, Hw.out⟩
      case round =>
        clear Hw hu2 hv2
        obtain ⟨k', hk', rfl, hall', m', hwm⟩ := hrel
        have Hw : Hid (wr = w.drewN m') := hwm
        have hv2 : Ints wr (.slice a la ca) xs := by rw [hwm]; exact hv'.drewN m'
        have hrb2 : Row wr b ys := by rw [hwm]; exact hrb.drewN m'
        clear hwm hrb
        by_cases hkn' : k' < lb
        · obtain ⟨bx, off, rfl, hbx, hc⟩ := hrb2 k' (by omega)
          clear hrb2
          by_cases hg : nth xs k' < nth ys k'
          · go_wp2
            go_quiet ((go_at_call 105; exact Calls.quiet_of_same (aat_any _ xs k' _ (by exact Ints.drewN hv2 _))))
            go_wp2
            go_ret
            refine ⟨ret_bool ?_, m' + nq, by rw [Hw.out, World.drewN_drewN]⟩
            rw [Hmx.out, allTo_false geTok xs ys lb k' hkn' (geTok_false hg)]; simp
          · go_wp2
            go_quiet ((go_at_call 105; exact Calls.quiet_of_same (aat_any _ xs k' _ (by exact Ints.drewN hv2 _))))
            go_wp2
            go_roundw
            case rel => exact ⟨k' + 1, by omega, by go_num, by rw [allTo_succ, hall', geTok_true hg]; rfl, m' + nq, by rw [Hw.out, World.drewN_drewN]⟩
            case measure => simp [intOf]; omega
        · have hkb : k' = lb := by omega
          have Hall' : Hid (allTo geTok xs ys lb = true) := by rw [← hkb]; exact hall'
          clear hall' hkb
          go_wp2
          go_ret
          exact ⟨ret_bool (by rw [Hmx.out, Hall.out, Hall'.out]; rfl), m', Hw.out⟩

theorem nth_step {xs ys : List Int} {k : Nat} (h : ∀ j, j < k → nth xs j = nth ys j) (e : nth xs k = nth ys k) : ∀ j, j < k + 1 → nth xs j = nth ys j := by
  intro j hj
  by_cases hjk : j < k
  · exact h j hjk
  · obtain rfl : j = k := by omega
    exact e

theorem eq_of_nth (xs ys : List Int) (hl : xs.length = ys.length) (h : ∀ j, j < xs.length → nth xs j = nth ys j) : xs = ys := by
  refine List.ext_getElem hl fun i h1 h2 => ?_
  have := h i h1
  simpa [nth, List.getD, List.getElem?_eq_getElem h1, List.getElem?_eq_getElem h2] using this

set_option maxHeartbeats 400000 in
theorem equal_any (v u : Value) (xs ys : List Int) (w : World) (hv : Ints w v xs) (hu : Ints w u ys) :
    Calls Tryd.prog 13 #[v, u] w fun e w' => e = .returned (.bool (xs == ys)) ∧ ∃ m, w' = w.drewN m := by
  obtain ⟨a, la, ca, rfl, hla, hma, hsa, hra⟩ := hv
  obtain ⟨b, lb, cb, rfl, hlb, hmb, hsb, hrb⟩ := hu
  by_cases hl : la = lb
  · subst hl
    have e1 : (((la : Nat) : Int) != (la : Int)) = false := by simp
    go_enter Tryd.func13, Tryd.ntmps13
    go_wp2
    go_loopw [13] (fun i wr => ∃ k : Nat, k ≤ la ∧ i = .int .i64 k ∧ (∀ j, j < k → nth xs j = nth ys j) ∧ ∃ m, wr = w.drewN m) (fun i _ => la - (intOf i).toNat)
    case atStart => exact ⟨0, Nat.zero_le _, rfl, fun j hj => absurd hj (Nat.not_lt_zero _), 0, rfl⟩
    case round =>
      obtain ⟨k, hk, rfl, hall0, m, hwm⟩ := hrel
      have Hall : Hid (∀ j, j < k → nth xs j = nth ys j) := hall0
      have Hw : Hid (wr = w.drewN m) := hwm
      have hra2 : Row wr a xs := by rw [hwm]; exact hra.drewN m
      have hrb2 : Row wr b ys := by rw [hwm]; exact hrb.drewN m
      clear hwm hra hrb hall0
      by_cases hkn : k < la
      · obtain ⟨bx, off, rfl, hbx, hc⟩ := hra2 k (by omega)
        obtain ⟨bx', off', rfl, hbx', hc'⟩ := hrb2 k (by omega)
        clear hra2 hrb2
        by_cases hg : nth xs k = nth ys k
        · have e2 : (nth xs k != nth ys k) = false := by simp [hg]
          have Hg : Hid (nth xs k = nth ys k) := hg
          clear hg
          go_wp2
          go_quiet (fail)
          go_wp2
          go_roundw
          case rel => exact ⟨k + 1, by omega, by go_num, nth_step Hall.out Hg.out, m + nq, by rw [Hw.out, World.drewN_drewN]⟩
          case measure => simp [intOf]; omega
        · have e2 : (nth xs k != nth ys k) = true := by simp [hg]
          go_wp2
          go_quiet (fail)
          go_wp2
          go_ret
          exact ⟨ret_bool (by symm; rw [beq_eq_false_iff_ne]; intro h; exact hg (by rw [h])), m + nq, by rw [Hw.out, World.drewN_drewN]⟩
      · go_wp2
        go_ret
        refine ⟨ret_bool ?_, m, Hw.out⟩
        symm; rw [beq_iff_eq]
        exact eq_of_nth xs ys (by omega) (fun j hj => Hall.out j (by omega))
  · have e1 : (((la : Nat) : Int) != (lb : Int)) = true := by simp; omega
    go_enter Tryd.func13, Tryd.ntmps13
    go_wp2
    go_ret
    refine ⟨ret_bool ?_, 0, rfl⟩
    symm; rw [beq_eq_false_iff_ne]
    intro h; rw [h] at hla; omega

theorem acovers_b (v u : Value) (xs ys : List Int) (w : World) (hv : Ints w v xs) (hu : Ints w u ys) :
    Calls Tryd.prog 91 #[v, u] w fun e w' => e = .returned (.bool (coversL xs ys)) ∧ Below w.heap.size w w' :=
  (acovers_any v u xs ys w hv hu).mono fun _ _ h => ⟨h.1, below_of_drewN h.2⟩

theorem equal_b (v u : Value) (xs ys : List Int) (w : World) (hv : Ints w v xs) (hu : Ints w u ys) :
    Calls Tryd.prog 13 #[v, u] w fun e w' => e = .returned (.bool (xs == ys)) ∧ Below w.heap.size w w' :=
  (equal_any v u xs ys w hv hu).mono fun _ _ h => ⟨h.1, below_of_drewN h.2⟩

end Go.Proofs.YteoofibhpifmlaaDoor

/- What the functions answer that make a new mark of two. -/
namespace Go.Proofs.YteoofibhpifmlaaDoor
open Go.RowKit
set_option linter.unusedVariables false
set_option maxRecDepth 4000

/-- Place by place, at as many places as the longer one has. -/
def zipL (f : Int → Int → Int) (xs ys : List Int) : List Int := (List.range (max xs.length ys.length)).map fun p => f (nth xs p) (nth ys p)

theorem zipL_length (f : Int → Int → Int) (xs ys : List Int) : (zipL f xs ys).length = max xs.length ys.length := by simp [zipL]
theorem zipL_nth (f : Int → Int → Int) (xs ys : List Int) (j : Nat) (h : j < max xs.length ys.length) : nth (zipL f xs ys) j = f (nth xs j) (nth ys j) := by
  simp [zipL, nth, List.getD, List.getElem?_map, List.getElem?_range h]

theorem okTok_nth {xs : List Int} (h : rightL xs = true) (j : Nat) : 0 ≤ nth xs j ∧ nth xs j ≤ 1000000 := by
  by_cases hj : j < xs.length
  · have := List.all_eq_true.1 h j (by simpa using hj)
    simpa [okTok] using this
  · rw [nth_past xs j (by omega)]; omega

/-- Function g of two numbers of tokens answers f. -/
def Makes (g : Nat) (f : Int → Int → Int) : Prop := ∀ x y w, 0 ≤ x → x ≤ 1000000 → 0 ≤ y → y ≤ 1000000 → Calls Tryd.prog g #[.int .i64 x, .int .i64 y] w fun e w' => e = .returned (.int .i64 (f x y)) ∧ w' = w

set_option maxHeartbeats 400000 in
theorem plus1_any : Makes 80 (· + ·) := by
  intro x y w h1 h2 h3 h4
  go_enter Tryd.func80, Tryd.ntmps80
  go_wp2
  go_ret
  exact ⟨rfl, rfl⟩

set_option maxHeartbeats 400000 in
theorem minus1_any : Makes 79 (· - ·) := by
  intro x y w h1 h2 h3 h4
  go_enter Tryd.func79, Tryd.ntmps79
  go_wp2
  go_ret
  exact ⟨rfl, rfl⟩

set_option maxHeartbeats 400000 in
theorem joined_any (g : Nat) (f : Int → Int → Int) (hg : Makes g f) (eg : ∀ args w, (callFunc g args).run Tryd.prog w = .ok (.enter g args) w)
    (v u : Value) (xs ys : List Int) (w : World) (hv : Ints w v xs) (hu : Ints w u ys) (rx : rightL xs = true) (ry : rightL ys = true) :
    Calls Tryd.prog 78 #[v, u, .func (.func g) #[] #[]] w fun e w' => ∃ r, e = .returned r ∧ Ints w' r (zipL f xs ys) ∧ Below w.heap.size w w' := by
  have hv' := hv
  have hu' := hu
  obtain ⟨a, la, ca, rfl, hla, hma, hsa, hra⟩ := hv
  obtain ⟨b, lb, cb, rfl, hlb, hmb, hsb, hrb⟩ := hu
  obtain ⟨n, Hn⟩ : ∃ n : Nat, max xs.length ys.length = n := ⟨_, rfl⟩
  have HL : Hid ((zipL f xs ys).length = n) := by rw [zipL_length]; exact Hn
  have HZ : ∀ j, j < n → Hid (nth (zipL f xs ys) j = f (nth xs j) (nth ys j)) := fun j hj => zipL_nth f xs ys j (by omega)
  have HX := fun j => okTok_nth rx j
  have HY := fun j => okTok_nth ry j
  clear hra hrb rx ry
  obtain ⟨w1, hmk, hb1, hs1, hc1⟩ := make_ints w n (by omega)
  by_cases hlt : la < lb
  case' pos => obtain rfl : n = lb := by omega
  case' neg => obtain rfl : n = la := by omega
  all_goals
    clear Hn hla hlb
    go_enter Tryd.func78, Tryd.ntmps78
    go_wp2
    go_loopw [17] (fun i wr => ∃ k : Nat, k ≤ n ∧ i = .int .i64 k ∧ Filled w.heap.size w wr n k (zipL f xs ys)) (fun i _ => n - (intOf i).toNat)
    case atStart => exact ⟨0, Nat.zero_le _, rfl, fun j hj => (hc1 j hj).1, fun j hj => (hc1 j hj).2, hb1, hs1⟩
    case round =>
      clear hmk hb1 hs1 hc1
      obtain ⟨k, hk, rfl, hF⟩ := hrel
      have hxk := HX k
      have hyk := HY k
      clear HX HY
      by_cases hkn : k < n
      · have hcell := hF.cells k hkn
        rw [if_neg (by omega)] at hcell
        have hfz := hF.frozen k hkn
        have hsz := hF.size
        go_wp2_with fail
        refine (at_any _ xs k _ (by exact hv'.below hF.below)).mono ?_
        rintro e w' ⟨rfl, rfl⟩
        go_wp2_with fail
        refine (at_any _ ys k _ (by exact hu'.below hF.below)).mono ?_
        rintro e w' ⟨rfl, rfl⟩
        go_wp2_with fail
        refine (hg _ _ _ hxk.1 hxk.2 hyk.1 hyk.2).mono ?_
        rintro e w' ⟨rfl, rfl⟩
        have R := hF.step hkn (HZ k hkn).out
        clear hF HZ
        go_wp2
        go_roundw
        case rel => exact ⟨k + 1, by omega, by go_num, R⟩
        case measure => simp [intOf]; omega
      · obtain rfl : k = n := by omega
        have R := hF.done HL.out (by omega) (cap := k) (by omega) (by omega)
        have R2 := hF.below
        clear hF HZ
        go_wp2
        go_ret
        exact ⟨_, rfl, R, R2⟩

end Go.Proofs.YteoofibhpifmlaaDoor

/- Plus and Minus, and the answers of the document itself for them. -/
namespace Go.Proofs.YteoofibhpifmlaaDoor
open Go.RowKit
set_option linter.unusedVariables false
set_option maxRecDepth 4000

def mixL (t : Int) (x y : Int) : Int := x + t * y

/-- The first k of them. -/
def zipTo (f : Int → Int → Int) (xs ys : List Int) (k : Nat) : List Int := (List.range k).map fun p => f (nth xs p) (nth ys p)
theorem zipTo_succ (f : Int → Int → Int) (xs ys : List Int) (k : Nat) : zipTo f xs ys (k + 1) = zipTo f xs ys k ++ [f (nth xs k) (nth ys k)] := by
  simp [zipTo, List.range_succ]
theorem zipTo_length (f : Int → Int → Int) (xs ys : List Int) (k : Nat) : (zipTo f xs ys k).length = k := by simp [zipTo]

set_option maxHeartbeats 400000 in
theorem amix_any (t : Int) (ht : t = 1 ∨ t = -1) (v u : Value) (xs ys : List Int) (w : World) (hv : Ints w v xs) (hu : Ints w u ys) (rx : rightL xs = true) (ry : rightL ys = true) :
    Calls Tryd.prog 92 #[v, u, .int .i64 t] w fun e w' => ∃ r, e = .returned r ∧ Ints w' r (zipL (mixL t) xs ys) ∧ Below w.heap.size w w' := by
  have hv' := hv
  have hu' := hu
  obtain ⟨a, la, ca, rfl, hla, hma, hsa, hra⟩ := hv
  obtain ⟨b, lb, cb, rfl, hlb, hmb, hsb, hrb⟩ := hu
  obtain ⟨n, Hn⟩ : ∃ n : Nat, max xs.length ys.length = n := ⟨_, rfl⟩
  have HZ : Hid (zipL (mixL t) xs ys = zipTo (mixL t) xs ys n) := by show _ = _; unfold zipL zipTo; rw [Hn]
  have HX := fun j => okTok_nth rx j
  have HY := fun j => okTok_nth ry j
  have ht1 : -1 ≤ t ∧ t ≤ 1 := by omega
  have HT : Hid (t = 1 ∨ t = -1) := ht
  clear hra hrb rx ry ht
  by_cases hlt : la < lb
  case' pos => obtain rfl : n = lb := by omega
  case' neg => obtain rfl : n = la := by omega
  all_goals
    clear Hn hla hlb
    go_enter Tryd.func92, Tryd.ntmps92
    go_wp2
    go_loopw [7, 14] (fun o i wr => ∃ k : Nat, k ≤ n ∧ i = .int .i64 k ∧ Own w.heap.size w wr o (zipTo (mixL t) xs ys k)) (fun _ i _ => n - (intOf i).toNat)
    case atStart => exact ⟨0, Nat.zero_le _, rfl, Own.nil _⟩
    case round =>
      obtain ⟨k, hk, rfl, hG⟩ := hrel
      obtain ⟨hx1, hx2⟩ := HX k
      obtain ⟨hy1, hy2⟩ := HY k
      clear HX HY
      by_cases hkn : k < n
      · have hm : Hid (mixL t (nth xs k) (nth ys k) = nth xs k + t * nth ys k) := rfl
        have ht2 : -1000000 ≤ t * nth ys k ∧ t * nth ys k ≤ 1000000 := by rcases HT.out with h | h <;> rw [h] <;> omega
        go_wp2_with fail
        refine (aat_any _ xs k _ (by exact hv'.below hG.2.1)).mono ?_
        rintro e w' ⟨rfl, rfl⟩
        go_wp2_with fail
        refine (aat_any _ ys k _ (by exact hu'.below hG.2.1)).mono ?_
        rintro e w' ⟨rfl, rfl⟩
        have hlen := zipTo_length (mixL t) xs ys k
        go_wp2_with (at_builtin; refine wp_append_int rfl _ _ rfl w.heap.size w _ _ _ (nth xs k + t * nth ys k) hG rfl rfl (by rw [hlen]; omega) ?_; intro v' w1 hG')
        have R : Own w.heap.size w w1 v' (zipTo (mixL t) xs ys (k + 1)) := by rw [zipTo_succ]; exact hG'
        clear hG hG'
        go_wp2
        go_roundw
        case rel => exact ⟨k + 1, by omega, by go_num, R⟩
        case measure => simp [intOf]; omega
      · obtain rfl : k = n := by omega
        go_wp2
        go_ret
        exact ⟨_, rfl, by rw [HZ.out]; exact hG.ints (by rw [zipTo_length]; omega), hG.2.1⟩

/-- Both together. -/
def plusL (xs ys : List Int) : List Int × Int :=
  if (rightL xs && rightL ys) then (if rightL (zipL (· + ·) xs ys) then (zipL (· + ·) xs ys, 0) else ([], 4)) else ([], 2)

/-- One without the other. -/
def minusL (xs ys : List Int) : List Int × Int :=
  if (rightL xs && rightL ys) then (if coversL xs ys then (zipL (· - ·) xs ys, 0) else ([], 3)) else ([], 2)

theorem plusL_range1 {xs ys : List Int} (h : rightL xs = false) : plusL xs ys = ([], 2) := by simp [plusL, h]
theorem plusL_range2 {xs ys : List Int} (h : rightL ys = false) : plusL xs ys = ([], 2) := by simp [plusL, h]
theorem plusL_full {xs ys : List Int} (h : rightL xs = true) (h' : rightL ys = true) (h2 : rightL (zipL (· + ·) xs ys) = false) : plusL xs ys = ([], 4) := by simp [plusL, h, h', h2]
theorem plusL_ok {xs ys : List Int} (h : rightL xs = true) (h' : rightL ys = true) (h2 : rightL (zipL (· + ·) xs ys) = true) : plusL xs ys = (zipL (· + ·) xs ys, 0) := by simp [plusL, h, h', h2]
theorem minusL_range1 {xs ys : List Int} (h : rightL xs = false) : minusL xs ys = ([], 2) := by simp [minusL, h]
theorem minusL_range2 {xs ys : List Int} (h : rightL ys = false) : minusL xs ys = ([], 2) := by simp [minusL, h]
theorem minusL_none {xs ys : List Int} (h : rightL xs = true) (h' : rightL ys = true) (h2 : coversL xs ys = false) : minusL xs ys = ([], 3) := by simp [minusL, h, h', h2]
theorem minusL_ok {xs ys : List Int} (h : rightL xs = true) (h' : rightL ys = true) (h2 : coversL xs ys = true) : minusL xs ys = (zipL (· - ·) xs ys, 0) := by simp [minusL, h, h', h2]

/-- What a call answers that makes a mark, or tells what is wrong. -/
def Gives (w : World) (p : List Int × Int) (e : Ending) (w' : World) : Prop := ∃ r, e = .returned (.tuple #[r, .int .i64 p.2]) ∧ Ints w' r p.1 ∧ Below w.heap.size w w'

theorem gives_of {w w' : World} {r : Value} {p : List Int × Int} {zs : List Int} {c : Int} (hp : p = (zs, c)) (hr : Ints w' r zs) (hb : Below w.heap.size w w') : Gives w p (.returned (.tuple #[r, .int .i64 c])) w' := by
  subst hp; exact ⟨r, rfl, hr, hb⟩

set_option maxHeartbeats 400000 in
theorem plus_any (v u : Value) (xs ys : List Int) (w : World) (hv : Ints w v xs) (hu : Ints w u ys) :
    Calls Tryd.prog 48 #[v, u] w fun e w' => Gives w (plusL xs ys) e w' := by
  go_enter Tryd.func48, Tryd.ntmps48
  go_wp2_with fail
  refine (right_any _ xs _ hv).mono ?_
  rintro e w' ⟨rfl, rfl⟩
  cases hx : rightL xs
  · go_wp2
    go_ret2
    exact gives_of (plusL_range1 hx) (Ints.nil _) (Below.refl _ _)
  · go_wp2_with fail
    refine (right_any _ ys _ hu).mono ?_
    rintro e w' ⟨rfl, rfl⟩
    cases hy : rightL ys
    · go_wp2
      go_ret2
      exact gives_of (plusL_range2 hy) (Ints.nil _) (Below.refl _ _)
    · go_wp2_with fail
      refine (joined_any 80 _ plus1_any Tryd.call80 _ _ xs ys _ hv hu hx hy).mono ?_
      rintro e w1 ⟨r, rfl, hr, hb⟩
      go_wp2_with fail
      refine (right_any _ _ _ hr).mono ?_
      rintro e w' ⟨rfl, rfl⟩
      cases hz : rightL (zipL (fun x1 x2 => x1 + x2) xs ys)
      · go_wp2
        go_ret2
        exact gives_of (plusL_full hx hy hz) (Ints.nil _) (hb)
      · go_wp2
        go_ret2
        exact gives_of (plusL_ok hx hy hz) (hr) (hb)

set_option maxHeartbeats 400000 in
theorem minus_any (v u : Value) (xs ys : List Int) (w : World) (hv : Ints w v xs) (hu : Ints w u ys) :
    Calls Tryd.prog 47 #[v, u] w fun e w' => Gives w (minusL xs ys) e w' := by
  go_enter Tryd.func47, Tryd.ntmps47
  go_wp2_with fail
  refine (right_any _ xs _ hv).mono ?_
  rintro e w' ⟨rfl, rfl⟩
  cases hx : rightL xs
  · go_wp2
    go_ret2
    exact gives_of (minusL_range1 hx) (Ints.nil _) (Below.refl _ _)
  · go_wp2_with fail
    refine (right_any _ ys _ hu).mono ?_
    rintro e w' ⟨rfl, rfl⟩
    cases hy : rightL ys
    · go_wp2
      go_ret2
      exact gives_of (minusL_range2 hy) (Ints.nil _) (Below.refl _ _)
    · go_wp2_with fail
      refine (covers_any _ _ xs ys _ hv hu).mono ?_
      rintro e w' ⟨rfl, rfl⟩
      cases hc : coversL xs ys
      · go_wp2
        go_ret2
        exact gives_of (minusL_none hx hy hc) (Ints.nil _) (Below.refl _ _)
      · go_wp2_with fail
        refine (joined_any 79 _ minus1_any Tryd.call79 _ _ xs ys _ hv hu hx hy).mono ?_
        rintro e w1 ⟨r, rfl, hr, hb⟩
        go_wp2
        go_ret2
        exact gives_of (minusL_ok hx hy hc) hr hb

theorem mix_one (xs ys : List Int) : zipL (mixL 1) xs ys = zipL (fun x1 x2 => x1 + x2) xs ys := by simp [zipL, mixL]
theorem mix_less (xs ys : List Int) : zipL (mixL (-1)) xs ys = zipL (fun x1 x2 => x1 - x2) xs ys := by
  simp only [zipL, mixL]; congr 1; funext p; omega

theorem rightL_iff (xs : List Int) : rightL xs = true ↔ ∀ j, 0 ≤ nth xs j ∧ nth xs j ≤ 1000000 := by
  refine ⟨okTok_nth, fun h => ?_⟩
  unfold rightL allTo
  rw [List.all_eq_true]
  intro j _
  simpa [okTok] using h j
theorem coversL_iff (xs ys : List Int) : coversL xs ys = true ↔ ∀ j, nth ys j ≤ nth xs j := by
  unfold coversL allTo
  rw [List.all_eq_true]
  constructor
  · intro h j
    by_cases hj : j < max xs.length ys.length
    · simpa [geTok] using h j (by simpa using hj)
    · rw [nth_past xs j (by omega), nth_past ys j (by omega)]; omega
  · intro h j _
    simpa [geTok] using h j
theorem zipL_at (f : Int → Int → Int) (f0 : f 0 0 = 0) (xs ys : List Int) (j : Nat) : nth (zipL f xs ys) j = f (nth xs j) (nth ys j) := by
  by_cases hj : j < max xs.length ys.length
  · exact zipL_nth f xs ys j hj
  · rw [nth_past xs j (by omega), nth_past ys j (by omega), nth_past _ j (by rw [zipL_length]; omega), f0]

theorem right_minus {xs ys : List Int} (hx : rightL xs = true) (hy : rightL ys = true) : rightL (zipL (fun x1 x2 => x1 - x2) xs ys) = coversL xs ys := by
  rw [Bool.eq_iff_iff, rightL_iff, coversL_iff]
  rw [rightL_iff] at hx hy
  constructor
  · intro h j
    have := h j
    rw [zipL_at _ (by rfl)] at this
    omega
  · intro h j
    have := h j
    have := hx j
    have := hy j
    rw [zipL_at _ (by rfl)]
    omega

end Go.Proofs.YteoofibhpifmlaaDoor
