import Derived.Test.YtakgppoeikcepaaGr02
import Derived.Test.YtakgppoeikcepaaGr00
/- What the functions answer that make a new mark of two. -/
namespace Go.Proofs.Ytakgppoeikcepaa
open Go.RowKit
set_option linter.unusedVariables false
set_option maxRecDepth 4000

/-- Place by place, at as many places as the longer one has. -/
def zipL (f : Int → Int → Int) (xs ys : List Int) : List Int := (List.range (max xs.length ys.length)).map fun p => f (nth xs p) (nth ys p)

theorem zipL_length (f : Int → Int → Int) (xs ys : List Int) : (zipL f xs ys).length = max xs.length ys.length := by simp [zipL]
theorem zipL_nth (f : Int → Int → Int) (xs ys : List Int) (j : Nat) (h : j < max xs.length ys.length) : nth (zipL f xs ys) j = f (nth xs j) (nth ys j) := by
  simp [zipL, nth, List.getD, List.getElem?_map, List.getElem?_range h]

theorem okTok_nth {xs : List Int} (h : rightL xs = true) (j : Nat) : 0 ≤ nth xs j ∧ nth xs j ≤ 1000000 := by
  by_cases hj : j < xs.length
  · have := List.all_eq_true.1 h j (by simpa using hj)
    simpa [okTok] using this
  · rw [nth_past xs j (by omega)]; omega

/-- Function g of two numbers of tokens answers f. -/
def Makes (g : Nat) (f : Int → Int → Int) : Prop := ∀ x y w, 0 ≤ x → x ≤ 1000000 → 0 ≤ y → y ≤ 1000000 → Calls Try.prog g #[.int .i64 x, .int .i64 y] w fun e w' => e = .returned (.int .i64 (f x y)) ∧ w' = w

set_option maxHeartbeats 400000 in
theorem plus1_any : Makes 64 (· + ·) := by
  intro x y w h1 h2 h3 h4
  go_enter Try.func64, Try.ntmps64
  go_wp2
  go_ret
  exact ⟨rfl, rfl⟩

set_option maxHeartbeats 400000 in
theorem minus1_any : Makes 63 (· - ·) := by
  intro x y w h1 h2 h3 h4
  go_enter Try.func63, Try.ntmps63
  go_wp2
  go_ret
  exact ⟨rfl, rfl⟩

set_option maxHeartbeats 400000 in
theorem joined_any (g : Nat) (f : Int → Int → Int) (hg : Makes g f) (eg : ∀ args w, (callFunc g args).run Try.prog w = .ok (.enter g args) w)
    (v u : Value) (xs ys : List Int) (w : World) (hv : Ints w v xs) (hu : Ints w u ys) (rx : rightL xs = true) (ry : rightL ys = true) :
    Calls Try.prog 62 #[v, u, .func (.func g) #[] #[]] w fun e w' => ∃ r, e = .returned r ∧ Ints w' r (zipL f xs ys) ∧ Below w.heap.size w w' := by
  have hv' := hv
  have hu' := hu
  obtain ⟨a, la, ca, rfl, hla, hma, hsa, hra⟩ := hv
  obtain ⟨b, lb, cb, rfl, hlb, hmb, hsb, hrb⟩ := hu
  obtain ⟨n, Hn⟩ : ∃ n : Nat, max xs.length ys.length = n := ⟨_, rfl⟩
  have HL : Hid ((zipL f xs ys).length = n) := by rw [zipL_length]; exact Hn
  have HZ : ∀ j, j < n → Hid (nth (zipL f xs ys) j = f (nth xs j) (nth ys j)) := fun j hj => zipL_nth f xs ys j (by omega)
  have HX := fun j => okTok_nth rx j
  have HY := fun j => okTok_nth ry j
  clear hra hrb rx ry
  obtain ⟨w1, hmk, hb1, hs1, hc1⟩ := make_ints w n (by omega)
  by_cases hlt : la < lb
  case' pos => obtain rfl : n = lb := by omega
  case' neg => obtain rfl : n = la := by omega
  all_goals
    clear Hn hla hlb
    go_enter Try.func62, Try.ntmps62
    go_wp2
    go_loopw [17] (fun i wr => ∃ k : Nat, k ≤ n ∧ i = .int .i64 k ∧ Filled w.heap.size w wr n k (zipL f xs ys)) (fun i _ => n - (intOf i).toNat)
    case atStart => exact ⟨0, Nat.zero_le _, rfl, fun j hj => (hc1 j hj).1, fun j hj => (hc1 j hj).2, hb1, hs1⟩
    case round =>
      clear hmk hb1 hs1 hc1
      obtain ⟨k, hk, rfl, hF⟩ := hrel
      have hxk := HX k
      have hyk := HY k
      clear HX HY
      by_cases hkn : k < n
      · have hcell := hF.cells k hkn
        rw [if_neg (by omega)] at hcell
        have hfz := hF.frozen k hkn
        have hsz := hF.size
        go_wp2_with fail
        refine (at_any _ xs k _ (by exact hv'.below hF.below)).mono ?_
        rintro e w' ⟨rfl, rfl⟩
        go_wp2_with fail
        refine (at_any _ ys k _ (by exact hu'.below hF.below)).mono ?_
        rintro e w' ⟨rfl, rfl⟩
        go_wp2_with fail
        refine (hg _ _ _ hxk.1 hxk.2 hyk.1 hyk.2).mono ?_
        rintro e w' ⟨rfl, rfl⟩
        have R := hF.step hkn (HZ k hkn).out
        clear hF HZ
        go_wp2
        go_roundw
        case rel => exact ⟨k + 1, by omega, by go_num, R⟩
        case measure => simp [intOf]; omega
      · obtain rfl : k = n := by omega
        have R := hF.done HL.out (by omega) (cap := k) (by omega) (by omega)
        have R2 := hF.below
        clear hF HZ
        go_wp2
        go_ret
        exact ⟨_, rfl, R, R2⟩

end Go.Proofs.Ytakgppoeikcepaa

/- Plus and Minus, and the answers of the document itself for them. -/
namespace Go.Proofs.Ytakgppoeikcepaa
open Go.RowKit
set_option linter.unusedVariables false
set_option maxRecDepth 4000

def mixL (t : Int) (x y : Int) : Int := x + t * y

/-- The first k of them. -/
def zipTo (f : Int → Int → Int) (xs ys : List Int) (k : Nat) : List Int := (List.range k).map fun p => f (nth xs p) (nth ys p)
theorem zipTo_succ (f : Int → Int → Int) (xs ys : List Int) (k : Nat) : zipTo f xs ys (k + 1) = zipTo f xs ys k ++ [f (nth xs k) (nth ys k)] := by
  simp [zipTo, List.range_succ]
theorem zipTo_length (f : Int → Int → Int) (xs ys : List Int) (k : Nat) : (zipTo f xs ys k).length = k := by simp [zipTo]

set_option maxHeartbeats 400000 in
theorem amix_any (t : Int) (ht : t = 1 ∨ t = -1) (v u : Value) (xs ys : List Int) (w : World) (hv : Ints w v xs) (hu : Ints w u ys) (rx : rightL xs = true) (ry : rightL ys = true) :
    Calls Try.prog 80 #[v, u, .int .i64 t] w fun e w' => ∃ r, e = .returned r ∧ Ints w' r (zipL (mixL t) xs ys) ∧ Below w.heap.size w w' := by
  have hv' := hv
  have hu' := hu
  obtain ⟨a, la, ca, rfl, hla, hma, hsa, hra⟩ := hv
  obtain ⟨b, lb, cb, rfl, hlb, hmb, hsb, hrb⟩ := hu
  obtain ⟨n, Hn⟩ : ∃ n : Nat, max xs.length ys.length = n := ⟨_, rfl⟩
  have HZ : Hid (zipL (mixL t) xs ys = zipTo (mixL t) xs ys n) := by show _ = _; unfold zipL zipTo; rw [Hn]
  have HX := fun j => okTok_nth rx j
  have HY := fun j => okTok_nth ry j
  have ht1 : -1 ≤ t ∧ t ≤ 1 := by omega
  have HT : Hid (t = 1 ∨ t = -1) := ht
  clear hra hrb rx ry ht
  by_cases hlt : la < lb
  case' pos => obtain rfl : n = lb := by omega
  case' neg => obtain rfl : n = la := by omega
  all_goals
    clear Hn hla hlb
    go_enter Try.func80, Try.ntmps80
    go_wp2
    go_loopw [7, 14] (fun o i wr => ∃ k : Nat, k ≤ n ∧ i = .int .i64 k ∧ Own w.heap.size w wr o (zipTo (mixL t) xs ys k)) (fun _ i _ => n - (intOf i).toNat)
    case atStart => exact ⟨0, Nat.zero_le _, rfl, Own.nil _⟩
    case round =>
      obtain ⟨k, hk, rfl, hG⟩ := hrel
      obtain ⟨hx1, hx2⟩ := HX k
      obtain ⟨hy1, hy2⟩ := HY k
      clear HX HY
      by_cases hkn : k < n
      · have hm : Hid (mixL t (nth xs k) (nth ys k) = nth xs k + t * nth ys k) := rfl
        have ht2 : -1000000 ≤ t * nth ys k ∧ t * nth ys k ≤ 1000000 := by rcases HT.out with h | h <;> rw [h] <;> omega
        go_wp2_with fail
        refine (aat_any _ xs k _ (by exact hv'.below hG.2.1)).mono ?_
        rintro e w' ⟨rfl, rfl⟩
        go_wp2_with fail
        refine (aat_any _ ys k _ (by exact hu'.below hG.2.1)).mono ?_
        rintro e w' ⟨rfl, rfl⟩
        have hlen := zipTo_length (mixL t) xs ys k
        go_wp2_with (at_builtin; refine wp_append_int rfl _ _ rfl w.heap.size w _ _ _ (nth xs k + t * nth ys k) hG rfl rfl (by rw [hlen]; omega) ?_; intro v' w1 hG')
        have R : Own w.heap.size w w1 v' (zipTo (mixL t) xs ys (k + 1)) := by rw [zipTo_succ]; exact hG'
        clear hG hG'
        go_wp2
        go_roundw
        case rel => exact ⟨k + 1, by omega, by go_num, R⟩
        case measure => simp [intOf]; omega
      · obtain rfl : k = n := by omega
        go_wp2
        go_ret
        exact ⟨_, rfl, by rw [HZ.out]; exact hG.ints (by rw [zipTo_length]; omega), hG.2.1⟩

/-- Both together. -/
def plusL (xs ys : List Int) : List Int × Int :=
  if (rightL xs && rightL ys) then (if rightL (zipL (· + ·) xs ys) then (zipL (· + ·) xs ys, 0) else ([], 4)) else ([], 2)

/-- One without the other. -/
def minusL (xs ys : List Int) : List Int × Int :=
  if (rightL xs && rightL ys) then (if coversL xs ys then (zipL (· - ·) xs ys, 0) else ([], 3)) else ([], 2)

theorem plusL_range1 {xs ys : List Int} (h : rightL xs = false) : plusL xs ys = ([], 2) := by simp [plusL, h]
theorem plusL_range2 {xs ys : List Int} (h : rightL ys = false) : plusL xs ys = ([], 2) := by simp [plusL, h]
theorem plusL_full {xs ys : List Int} (h : rightL xs = true) (h' : rightL ys = true) (h2 : rightL (zipL (· + ·) xs ys) = false) : plusL xs ys = ([], 4) := by simp [plusL, h, h', h2]
theorem plusL_ok {xs ys : List Int} (h : rightL xs = true) (h' : rightL ys = true) (h2 : rightL (zipL (· + ·) xs ys) = true) : plusL xs ys = (zipL (· + ·) xs ys, 0) := by simp [plusL, h, h', h2]
theorem minusL_range1 {xs ys : List Int} (h : rightL xs = false) : minusL xs ys = ([], 2) := by simp [minusL, h]
theorem minusL_range2 {xs ys : List Int} (h : rightL ys = false) : minusL xs ys = ([], 2) := by simp [minusL, h]
theorem minusL_none {xs ys : List Int} (h : rightL xs = true) (h' : rightL ys = true) (h2 : coversL xs ys = false) : minusL xs ys = ([], 3) := by simp [minusL, h, h', h2]
theorem minusL_ok {xs ys : List Int} (h : rightL xs = true) (h' : rightL ys = true) (h2 : coversL xs ys = true) : minusL xs ys = (zipL (· - ·) xs ys, 0) := by simp [minusL, h, h', h2]

/-- What a call answers that makes a mark, or tells what is wrong. -/
def Gives (w : World) (p : List Int × Int) (e : Ending) (w' : World) : Prop := ∃ r, e = .returned (.tuple #[r, .int .i64 p.2]) ∧ Ints w' r p.1 ∧ Below w.heap.size w w'

theorem gives_of {w w' : World} {r : Value} {p : List Int × Int} {zs : List Int} {c : Int} (hp : p = (zs, c)) (hr : Ints w' r zs) (hb : Below w.heap.size w w') : Gives w p (.returned (.tuple #[r, .int .i64 c])) w' := by
  subst hp; exact ⟨r, rfl, hr, hb⟩

set_option maxHeartbeats 400000 in
theorem plus_any (v u : Value) (xs ys : List Int) (w : World) (hv : Ints w v xs) (hu : Ints w u ys) :
    Calls Try.prog 37 #[v, u] w fun e w' => Gives w (plusL xs ys) e w' := by
  go_enter Try.func37, Try.ntmps37
  go_wp2_with fail
  refine (right_any _ xs _ hv).mono ?_
  rintro e w' ⟨rfl, rfl⟩
  cases hx : rightL xs
  · go_wp2
    go_ret2
    exact gives_of (plusL_range1 hx) (Ints.nil _) (Below.refl _ _)
  · go_wp2_with fail
    refine (right_any _ ys _ hu).mono ?_
    rintro e w' ⟨rfl, rfl⟩
    cases hy : rightL ys
    · go_wp2
      go_ret2
      exact gives_of (plusL_range2 hy) (Ints.nil _) (Below.refl _ _)
    · go_wp2_with fail
      refine (joined_any 64 _ plus1_any Try.call64 _ _ xs ys _ hv hu hx hy).mono ?_
      rintro e w1 ⟨r, rfl, hr, hb⟩
      go_wp2_with fail
      refine (right_any _ _ _ hr).mono ?_
      rintro e w' ⟨rfl, rfl⟩
      cases hz : rightL (zipL (fun x1 x2 => x1 + x2) xs ys)
      · go_wp2
        go_ret2
        exact gives_of (plusL_full hx hy hz) (Ints.nil _) (hb)
      · go_wp2
        go_ret2
        exact gives_of (plusL_ok hx hy hz) (hr) (hb)

set_option maxHeartbeats 400000 in
theorem minus_any (v u : Value) (xs ys : List Int) (w : World) (hv : Ints w v xs) (hu : Ints w u ys) :
    Calls Try.prog 36 #[v, u] w fun e w' => Gives w (minusL xs ys) e w' := by
  go_enter Try.func36, Try.ntmps36
  go_wp2_with fail
  refine (right_any _ xs _ hv).mono ?_
  rintro e w' ⟨rfl, rfl⟩
  cases hx : rightL xs
  · go_wp2
    go_ret2
    exact gives_of (minusL_range1 hx) (Ints.nil _) (Below.refl _ _)
  · go_wp2_with fail
    refine (right_any _ ys _ hu).mono ?_
    rintro e w' ⟨rfl, rfl⟩
    cases hy : rightL ys
    · go_wp2
      go_ret2
      exact gives_of (minusL_range2 hy) (Ints.nil _) (Below.refl _ _)
    · go_wp2_with fail
      refine (covers_any _ _ xs ys _ hv hu).mono ?_
      rintro e w' ⟨rfl, rfl⟩
      cases hc : coversL xs ys
      · go_wp2
        go_ret2
        exact gives_of (minusL_none hx hy hc) (Ints.nil _) (Below.refl _ _)
      · go_wp2_with fail
        refine (joined_any 63 _ minus1_any Try.call63 _ _ xs ys _ hv hu hx hy).mono ?_
        rintro e w1 ⟨r, rfl, hr, hb⟩
        go_wp2
        go_ret2
        exact gives_of (minusL_ok hx hy hc) hr hb

theorem mix_one (xs ys : List Int) : zipL (mixL 1) xs ys = zipL (fun x1 x2 => x1 + x2) xs ys := by simp [zipL, mixL]
theorem mix_less (xs ys : List Int) : zipL (mixL (-1)) xs ys = zipL (fun x1 x2 => x1 - x2) xs ys := by
  simp only [zipL, mixL]; congr 1; funext p; omega

theorem rightL_iff (xs : List Int) : rightL xs = true ↔ ∀ j, 0 ≤ nth xs j ∧ nth xs j ≤ 1000000 := by
  refine ⟨okTok_nth, fun h => ?_⟩
  unfold rightL allTo
  rw [List.all_eq_true]
  intro j _
  simpa [okTok] using h j
theorem coversL_iff (xs ys : List Int) : coversL xs ys = true ↔ ∀ j, nth ys j ≤ nth xs j := by
  unfold coversL allTo
  rw [List.all_eq_true]
  constructor
  · intro h j
    by_cases hj : j < max xs.length ys.length
    · simpa [geTok] using h j (by simpa using hj)
    · rw [nth_past xs j (by omega), nth_past ys j (by omega)]; omega
  · intro h j _
    simpa [geTok] using h j
theorem zipL_at (f : Int → Int → Int) (f0 : f 0 0 = 0) (xs ys : List Int) (j : Nat) : nth (zipL f xs ys) j = f (nth xs j) (nth ys j) := by
  by_cases hj : j < max xs.length ys.length
  · exact zipL_nth f xs ys j hj
  · rw [nth_past xs j (by omega), nth_past ys j (by omega), nth_past _ j (by rw [zipL_length]; omega), f0]

theorem right_minus {xs ys : List Int} (hx : rightL xs = true) (hy : rightL ys = true) : rightL (zipL (fun x1 x2 => x1 - x2) xs ys) = coversL xs ys := by
  rw [Bool.eq_iff_iff, rightL_iff, coversL_iff]
  rw [rightL_iff] at hx hy
  constructor
  · intro h j
    have := h j
    rw [zipL_at _ (by rfl)] at this
    omega
  · intro h j
    have := h j
    have := hx j
    have := hy j
    rw [zipL_at _ (by rfl)]
    omega

end Go.Proofs.Ytakgppoeikcepaa

/- Plain facts on marks as lists: sums, differences, covering. -/
namespace Go.Proofs.Ytakgppoeikcepaa
set_option linter.unusedVariables false
set_option maxRecDepth 4000

theorem zip_comm (xs ys : List Int) : zipL (fun x1 x2 => x1 + x2) ys xs = zipL (fun x1 x2 => x1 + x2) xs ys := by
  simp only [zipL, Nat.max_comm ys.length xs.length]; congr 1; funext p; omega

theorem plusL_comm (xs ys : List Int) : plusL ys xs = plusL xs ys := by
  unfold plusL; rw [zip_comm, Bool.and_comm]

theorem sum_at (xs ys : List Int) (j : Nat) : nth (zipL (fun x1 x2 => x1 + x2) xs ys) j = nth xs j + nth ys j := zipL_at _ rfl _ _ _
theorem less_at (xs ys : List Int) (j : Nat) : nth (zipL (fun x1 x2 => x1 - x2) xs ys) j = nth xs j - nth ys j := zipL_at _ rfl _ _ _

/-- What an answer of Plus can be. -/
theorem plusL_cases (xs ys : List Int) : (plusL xs ys = (zipL (fun x1 x2 => x1 + x2) xs ys, 0) ∧ rightL xs = true ∧ rightL ys = true ∧ rightL (zipL (fun x1 x2 => x1 + x2) xs ys) = true) ∨
    (∃ c, plusL xs ys = ([], c) ∧ c ≠ 0) := by
  cases hx : rightL xs
  · exact .inr ⟨2, plusL_range1 hx, by decide⟩
  cases hy : rightL ys
  · exact .inr ⟨2, plusL_range2 hy, by decide⟩
  cases hz : rightL (zipL (fun x1 x2 => x1 + x2) xs ys)
  · exact .inr ⟨4, plusL_full hx hy hz, by decide⟩
  · exact .inl ⟨plusL_ok hx hy hz, rfl, rfl, rfl⟩

theorem covers_self (xs : List Int) : coversL xs xs = true := (coversL_iff _ _).2 fun j => Int.le_refl _
theorem covers_sum {xs ys : List Int} (hy : rightL ys = true) : coversL (zipL (fun x1 x2 => x1 + x2) xs ys) xs = true :=
  (coversL_iff _ _).2 fun j => by have := (rightL_iff _).1 hy j; rw [sum_at]; omega
theorem covers_sum2 {xs ys : List Int} (hx : rightL xs = true) : coversL (zipL (fun x1 x2 => x1 + x2) xs ys) ys = true :=
  (coversL_iff _ _).2 fun j => by have := (rightL_iff _).1 hx j; rw [sum_at]; omega

theorem sameL_iff (xs ys : List Int) : (coversL xs ys && coversL ys xs) = true ↔ ∀ j, nth xs j = nth ys j := by
  rw [Bool.and_eq_true, coversL_iff, coversL_iff]
  exact ⟨fun ⟨h, k⟩ j => by have := h j; have := k j; omega, fun h => ⟨fun j => by rw [h j]; omega, fun j => by rw [h j]; omega⟩⟩

/-- What was added is taken away again. -/
theorem minus_sum {xs ys : List Int} (hx : rightL xs = true) (hy : rightL ys = true) (hz : rightL (zipL (fun x1 x2 => x1 + x2) xs ys) = true) :
    ∃ zz, minusL (zipL (fun x1 x2 => x1 + x2) xs ys) ys = (zz, 0) ∧ (coversL zz xs && coversL xs zz) = true :=
  ⟨_, minusL_ok hz hy (covers_sum2 hx), (sameL_iff _ _).2 fun j => by rw [less_at, sum_at]; omega⟩

/-- In whatever order. -/
theorem plus_assoc {xs ys cs : List Int} (hx : rightL xs = true) (hy : rightL ys = true) (h : (plusL (zipL (fun x1 x2 => x1 + x2) xs ys) cs).2 = 0) :
    (plusL ys cs).2 = 0 ∧ (plusL xs (plusL ys cs).1).2 = 0 ∧
      (coversL (plusL (zipL (fun x1 x2 => x1 + x2) xs ys) cs).1 (plusL xs (plusL ys cs).1).1 && coversL (plusL xs (plusL ys cs).1).1 (plusL (zipL (fun x1 x2 => x1 + x2) xs ys) cs).1) = true := by
  rcases plusL_cases (zipL (fun x1 x2 => x1 + x2) xs ys) cs with ⟨e, _, hc, hr⟩ | ⟨c, e, hc⟩
  · have hr' := (rightL_iff _).1 hr
    have hx' := (rightL_iff _).1 hx
    have hy' := (rightL_iff _).1 hy
    have hc' := (rightL_iff _).1 hc
    have h1 : rightL (zipL (fun x1 x2 => x1 + x2) ys cs) = true := (rightL_iff _).2 fun j => by
      have := hr' j; have := hx' j; have := hy' j; have := hc' j
      simp only [sum_at] at *; omega
    have e1 := plusL_ok hy hc h1
    have h2 : rightL (zipL (fun x1 x2 => x1 + x2) xs (zipL (fun x1 x2 => x1 + x2) ys cs)) = true := (rightL_iff _).2 fun j => by
      have := hr' j
      simp only [sum_at] at *; omega
    have e2 := plusL_ok hx h1 h2
    refine ⟨by rw [e1], by rw [e1]; exact congrArg Prod.snd e2, ?_⟩
    rw [e, e1]
    show (coversL _ (plusL xs (zipL (fun x1 x2 => x1 + x2) ys cs)).1 && coversL (plusL xs (zipL (fun x1 x2 => x1 + x2) ys cs)).1 _) = true
    rw [e2]
    exact (sameL_iff _ _).2 fun j => by rw [sum_at, sum_at, sum_at, sum_at]; omega
  · rw [e] at h; exact absurd h hc

/-- What was taken away is added again. -/
theorem plus_less {xs ys : List Int} (hx : rightL xs = true) (hy : rightL ys = true) (hc : coversL xs ys = true) :
    ∃ zz, plusL (zipL (fun x1 x2 => x1 - x2) xs ys) ys = (zz, 0) ∧ (coversL zz xs && coversL xs zz) = true := by
  have h1 : rightL (zipL (fun x1 x2 => x1 - x2) xs ys) = true := by rw [right_minus hx hy]; exact hc
  have h2 : rightL (zipL (fun x1 x2 => x1 + x2) (zipL (fun x1 x2 => x1 - x2) xs ys) ys) = true := (rightL_iff _).2 fun j => by
    have := (rightL_iff _).1 hx j
    rw [sum_at, less_at]; omega
  exact ⟨_, plusL_ok h1 hy h2, (sameL_iff _ _).2 fun j => by rw [sum_at, less_at]; omega⟩

theorem covers_trans {xs ys cs : List Int} (h : coversL xs ys = true) (k : coversL ys cs = true) : coversL xs cs = true :=
  (coversL_iff _ _).2 fun j => Int.le_trans ((coversL_iff _ _).1 k j) ((coversL_iff _ _).1 h j)

end Go.Proofs.Ytakgppoeikcepaa

/- Whether a list of transitions has one that a function with two captured variables tells of. -/
namespace Go.Proofs.Ytakgppoeikcepaa
open Go.RowKit
set_option linter.unusedVariables false
set_option maxRecDepth 4000

theorem tranAt_get {ts : List TranL} {k : Nat} (hk : k < ts.length) : tranAt ts k = ts[k] := by simp [tranAt, List.getD, List.getElem?_eq_getElem hk]
theorem anyT_of {ls : List TranL} {p : TranL → Bool} {k : Nat} (hk : k < ls.length) (h : p (tranAt ls k) = true) : ls.any p = true :=
  List.any_eq_true.2 ⟨_, List.getElem_mem hk, by rw [← tranAt_get hk]; exact h⟩
theorem anyT_not {ls : List TranL} {p : TranL → Bool} (h : ∀ j, j < ls.length → p (tranAt ls j) = false) : ls.any p = false := by
  rw [List.any_eq_false]
  intro x hx
  obtain ⟨j, hj, rfl⟩ := List.getElem_of_mem hx
  have := h j hj
  rw [tranAt_get hj] at this
  simpa using this

/-- The function g with the captured values q, r tells p of every transition of which C holds, in every world that comes of w0. -/
def AsksT2 (w0 : World) (g : Nat) (q r : Value) (C : TranL → Prop) (p : TranL → Bool) : Prop :=
  ∀ u1 u2 (x : TranL) w, C x → Below w0.heap.size w0 w → Ints w u1 x.pre → Ints w u2 x.post → Calls Try.prog g #[.agg #[.int .i64 x.label, u1, u2], q, r] w fun e w' => e = .returned (.bool (p x)) ∧ Below w.heap.size w w'

set_option maxHeartbeats 1000000 in
theorem indextransQ (w0 : World) (g : Nat) (q r : Value) (C : TranL → Prop) (p : TranL → Bool) (hg : AsksT2 w0 g q r C p) (eg : ∀ args w, (callFunc g args).run Try.prog w = .ok (.enter g args) w) (v : Value) (ls : List TranL) (hC : ∀ j, j < ls.length → C (tranAt ls j)) (w : World) (hw : Below w0.heap.size w0 w) (hv : Trans w v ls) :
    Calls Try.prog 70 #[v, .func (.func g) #[] #[q, r]] w fun e w' => ∃ i : Int, e = .returned (.int .i64 i) ∧ decide (0 ≤ i) = ls.any p ∧ Below w.heap.size w w' := by
  obtain ⟨a, len, ca, rfl, hlen, hla, hsh, _⟩ := id hv
  have Hg : Hid _ := hg
  have HC : Hid _ := hC
  have Hlen : Hid (ls.length = len) := hlen
  clear hg hC hlen
  go_enter Try.func70, Try.ntmps70
  go_wp2_with fail
  go_loopg [8] len (fun g i wr => ∃ k : Nat, k + g = len ∧ i = .int .i64 k ∧ Below w.heap.size w wr ∧ Hid (∀ j, j < k → p (tranAt ls j) = false))
  case atStart => exact ⟨0, by omega, rfl, Below.refl _ _, fun j hj => absurd hj (Nat.not_lt_zero _)⟩
  case round =>
    obtain ⟨k, hkg, rfl, hb, Hn⟩ := hrel
    by_cases hkn : k < len
    · obtain ⟨b, off, c1, c2, rfl, hblt, h0, h1, h2, i1, i2⟩ := (hv.below hb).at hkn
      have hw2 := below_then hw hb
      have HCk : Hid (C (tranAt ls k)) := HC.out k (by have := Hlen.out; omega)
      obtain ⟨t, Ht⟩ : ∃ t, Hid (tranAt ls k = t) := ⟨_, rfl⟩
      rw [Ht.out] at h0 i1 i2 HCk
      obtain ⟨a1, l1, p1, rfl, _, _, _, _⟩ := id i1
      obtain ⟨a2, l2, p2, rfl, _, _, _, _⟩ := id i2
      go_wp2_with fail
      refine (Hg.out _ _ t _ HCk.out (by exact hw2) (by exact i1) (by exact i2)).mono ?_
      rintro e w2 ⟨rfl, b'⟩
      have R := below_then hb b'
      cases hp : p t
      · have Hn2 : Hid (∀ j, j < k + 1 → p (tranAt ls j) = false) := fun j hj => by
          by_cases e : j = k
          · subst e; rw [Ht.out]; exact hp
          · exact Hn.out j (by omega)
        clear b' hb i1 i2 h0 h1 h2 hp hw2 HCk
        go_wp2
        go_roundg (gk - 1)
        case measure => omega
        case rel => exact ⟨k + 1, by omega, by go_num, R, Hn2⟩
      · have F : Hid (ls.any p = true) := anyT_of (k := k) (by have := Hlen.out; omega) (by rw [Ht.out]; exact hp)
        clear b' hb i1 i2 h0 h1 h2 hp hw2 HCk
        go_wp2
        go_ret
        exact ⟨_, rfl, by rw [F.out]; simp, R⟩
    · have F : Hid (ls.any p = false) := anyT_not fun j hj => Hn.out j (by have := Hlen.out; omega)
      go_wp2
      go_ret
      exact ⟨_, rfl, by rw [F.out]; simp, hb⟩

theorem containstransQ (w0 : World) (g : Nat) (q r : Value) (C : TranL → Prop) (p : TranL → Bool) (hg : AsksT2 w0 g q r C p) (eg : ∀ args w, (callFunc g args).run Try.prog w = .ok (.enter g args) w) (v : Value) (ls : List TranL) (hC : ∀ j, j < ls.length → C (tranAt ls j)) (w : World) (hw : Below w0.heap.size w0 w) (hv : Trans w v ls) :
    Calls Try.prog 45 #[v, .func (.func g) #[] #[q, r]] w fun e w' => e = .returned (.bool (ls.any p)) ∧ Below w.heap.size w w' := by
  go_enter Try.func45, Try.ntmps45
  go_wp2_with fail
  refine (indextransQ w0 g q r C p hg eg _ ls hC _ hw (by exact hv)).mono ?_
  rintro e w1 ⟨i, rfl, hi, b⟩
  go_wp2
  go_ret
  exact ⟨rfl, b⟩

end Go.Proofs.Ytakgppoeikcepaa
