import Derived.Test.YtfgimobmaahmmaaGr02
import Derived.Test.YtfgimobmaahmmaaGr01
/- What the functions answer that make a new mark of two. -/
namespace Go.Proofs.Ytfgimobmaahmmaa
open Go.RowKit
set_option linter.unusedVariables false
set_option maxRecDepth 4000

/-- Place by place, at as many places as the longer one has. -/
def zipL (f : Int → Int → Int) (xs ys : List Int) : List Int := (List.range (max xs.length ys.length)).map fun p => f (nth xs p) (nth ys p)

theorem zipL_length (f : Int → Int → Int) (xs ys : List Int) : (zipL f xs ys).length = max xs.length ys.length := by simp [zipL]
theorem zipL_nth (f : Int → Int → Int) (xs ys : List Int) (j : Nat) (h : j < max xs.length ys.length) : nth (zipL f xs ys) j = f (nth xs j) (nth ys j) := by
  simp [zipL, nth, List.getD, List.getElem?_map, List.getElem?_range h]

theorem okTok_nth {xs : List Int} (h : rightL xs = true) (j : Nat) : 0 ≤ nth xs j ∧ nth xs j ≤ 1000000 := by
  by_cases hj : j < xs.length
  · have := List.all_eq_true.1 h j (by simpa using hj)
    simpa [okTok] using this
  · rw [nth_past xs j (by omega)]; omega

/-- Function g of two numbers of tokens answers f. -/
def Makes (g : Nat) (f : Int → Int → Int) : Prop := ∀ x y w, 0 ≤ x → x ≤ 1000000 → 0 ≤ y → y ≤ 1000000 → Calls Try.prog g #[.int .i64 x, .int .i64 y] w fun e w' => e = .returned (.int .i64 (f x y)) ∧ w' = w

set_option maxHeartbeats 400000 in
theorem plus1_any : Makes 78 (· + ·) := by
  intro x y w h1 h2 h3 h4
  go_enter Try.func78, Try.ntmps78
  go_wp2
  go_ret
  exact ⟨rfl, rfl⟩

set_option maxHeartbeats 400000 in
theorem minus1_any : Makes 77 (· - ·) := by
  intro x y w h1 h2 h3 h4
  go_enter Try.func77, Try.ntmps77
  go_wp2
  go_ret
  exact ⟨rfl, rfl⟩

set_option maxHeartbeats 400000 in
theorem joined_any (g : Nat) (f : Int → Int → Int) (hg : Makes g f) (eg : ∀ args w, (callFunc g args).run Try.prog w = .ok (.enter g args) w)
    (v u : Value) (xs ys : List Int) (w : World) (hv : Ints w v xs) (hu : Ints w u ys) (rx : rightL xs = true) (ry : rightL ys = true) :
    Calls Try.prog 76 #[v, u, .func (.func g) #[] #[]] w fun e w' => ∃ r, e = .returned r ∧ Ints w' r (zipL f xs ys) ∧ Below w.heap.size w w' := by
  have hv' := hv
  have hu' := hu
  obtain ⟨a, la, ca, rfl, hla, hma, hsa, hra⟩ := hv
  obtain ⟨b, lb, cb, rfl, hlb, hmb, hsb, hrb⟩ := hu
  obtain ⟨n, Hn⟩ : ∃ n : Nat, max xs.length ys.length = n := ⟨_, rfl⟩
  have HL : Hid ((zipL f xs ys).length = n) := by rw [zipL_length]; exact Hn
  have HZ : ∀ j, j < n → Hid (nth (zipL f xs ys) j = f (nth xs j) (nth ys j)) := fun j hj => zipL_nth f xs ys j (by omega)
  have HX := fun j => okTok_nth rx j
  have HY := fun j => okTok_nth ry j
  clear hra hrb rx ry
  obtain ⟨w1, hmk, hb1, hs1, hc1⟩ := make_ints w n (by omega)
  by_cases hlt : la < lb
  case' pos => obtain rfl : n = lb := by omega
  case' neg => obtain rfl : n = la := by omega
  all_goals
    clear Hn hla hlb
    go_enter Try.func76, Try.ntmps76
    go_wp2
    go_loopw [17] (fun i wr => ∃ k : Nat, k ≤ n ∧ i = .int .i64 k ∧ Filled w.heap.size w wr n k (zipL f xs ys)) (fun i _ => n - (intOf i).toNat)
    case atStart => exact ⟨0, Nat.zero_le _, rfl, fun j hj => (hc1 j hj).1, fun j hj => (hc1 j hj).2, hb1, hs1⟩
    case round =>
      clear hmk hb1 hs1 hc1
      obtain ⟨k, hk, rfl, hF⟩ := hrel
      have hxk := HX k
      have hyk := HY k
      clear HX HY
      by_cases hkn : k < n
      · have hcell := hF.cells k hkn
        rw [if_neg (by omega)] at hcell
        have hfz := hF.frozen k hkn
        have hsz := hF.size
        go_wp2_with fail
        refine (at_any _ xs k _ (by exact hv'.below hF.below)).mono ?_
        rintro e w' ⟨rfl, rfl⟩
        go_wp2_with fail
        refine (at_any _ ys k _ (by exact hu'.below hF.below)).mono ?_
        rintro e w' ⟨rfl, rfl⟩
        go_wp2_with fail
        refine (hg _ _ _ hxk.1 hxk.2 hyk.1 hyk.2).mono ?_
        rintro e w' ⟨rfl, rfl⟩
        have R := hF.step hkn (HZ k hkn).out
        clear hF HZ
        go_wp2
        go_roundw
        case rel => exact ⟨k + 1, by omega, by go_num, R⟩
        case measure => simp [intOf]; omega
      · obtain rfl : k = n := by omega
        have R := hF.done HL.out (by omega) (cap := k) (by omega) (by omega)
        have R2 := hF.below
        clear hF HZ
        go_wp2
        go_ret
        exact ⟨_, rfl, R, R2⟩

end Go.Proofs.Ytfgimobmaahmmaa

/- Plus and Minus, and the answers of the document itself for them. -/
namespace Go.Proofs.Ytfgimobmaahmmaa
open Go.RowKit
set_option linter.unusedVariables false
set_option maxRecDepth 4000

def mixL (t : Int) (x y : Int) : Int := x + t * y

/-- The first k of them. -/
def zipTo (f : Int → Int → Int) (xs ys : List Int) (k : Nat) : List Int := (List.range k).map fun p => f (nth xs p) (nth ys p)
theorem zipTo_succ (f : Int → Int → Int) (xs ys : List Int) (k : Nat) : zipTo f xs ys (k + 1) = zipTo f xs ys k ++ [f (nth xs k) (nth ys k)] := by
  simp [zipTo, List.range_succ]
theorem zipTo_length (f : Int → Int → Int) (xs ys : List Int) (k : Nat) : (zipTo f xs ys k).length = k := by simp [zipTo]

/-- Both together. -/
def plusL (xs ys : List Int) : List Int × Int :=
  if (rightL xs && rightL ys) then (if rightL (zipL (· + ·) xs ys) then (zipL (· + ·) xs ys, 0) else ([], 4)) else ([], 2)

/-- One without the other. -/
def minusL (xs ys : List Int) : List Int × Int :=
  if (rightL xs && rightL ys) then (if coversL xs ys then (zipL (· - ·) xs ys, 0) else ([], 3)) else ([], 2)

theorem plusL_range1 {xs ys : List Int} (h : rightL xs = false) : plusL xs ys = ([], 2) := by simp [plusL, h]
theorem plusL_range2 {xs ys : List Int} (h : rightL ys = false) : plusL xs ys = ([], 2) := by simp [plusL, h]
theorem plusL_full {xs ys : List Int} (h : rightL xs = true) (h' : rightL ys = true) (h2 : rightL (zipL (· + ·) xs ys) = false) : plusL xs ys = ([], 4) := by simp [plusL, h, h', h2]
theorem plusL_ok {xs ys : List Int} (h : rightL xs = true) (h' : rightL ys = true) (h2 : rightL (zipL (· + ·) xs ys) = true) : plusL xs ys = (zipL (· + ·) xs ys, 0) := by simp [plusL, h, h', h2]
theorem minusL_range1 {xs ys : List Int} (h : rightL xs = false) : minusL xs ys = ([], 2) := by simp [minusL, h]
theorem minusL_range2 {xs ys : List Int} (h : rightL ys = false) : minusL xs ys = ([], 2) := by simp [minusL, h]
theorem minusL_none {xs ys : List Int} (h : rightL xs = true) (h' : rightL ys = true) (h2 : coversL xs ys = false) : minusL xs ys = ([], 3) := by simp [minusL, h, h', h2]
theorem minusL_ok {xs ys : List Int} (h : rightL xs = true) (h' : rightL ys = true) (h2 : coversL xs ys = true) : minusL xs ys = (zipL (· - ·) xs ys, 0) := by simp [minusL, h, h', h2]

/-- What a call answers that makes a mark, or tells what is wrong. -/
def Gives (w : World) (p : List Int × Int) (e : Ending) (w' : World) : Prop := ∃ r, e = .returned (.tuple #[r, .int .i64 p.2]) ∧ Ints w' r p.1 ∧ Below w.heap.size w w'

theorem gives_of {w w' : World} {r : Value} {p : List Int × Int} {zs : List Int} {c : Int} (hp : p = (zs, c)) (hr : Ints w' r zs) (hb : Below w.heap.size w w') : Gives w p (.returned (.tuple #[r, .int .i64 c])) w' := by
  subst hp; exact ⟨r, rfl, hr, hb⟩

set_option maxHeartbeats 400000 in
theorem plus_any (v u : Value) (xs ys : List Int) (w : World) (hv : Ints w v xs) (hu : Ints w u ys) :
    Calls Try.prog 63 #[v, u] w fun e w' => Gives w (plusL xs ys) e w' := by
  go_enter Try.func63, Try.ntmps63
  go_wp2_with fail
  refine (right_any _ xs _ hv).mono ?_
  rintro e w' ⟨rfl, rfl⟩
  cases hx : rightL xs
  · go_wp2
    go_ret2
    exact gives_of (plusL_range1 hx) (Ints.nil _) (Below.refl _ _)
  · go_wp2_with fail
    refine (right_any _ ys _ hu).mono ?_
    rintro e w' ⟨rfl, rfl⟩
    cases hy : rightL ys
    · go_wp2
      go_ret2
      exact gives_of (plusL_range2 hy) (Ints.nil _) (Below.refl _ _)
    · go_wp2_with fail
      refine (joined_any 78 _ plus1_any Try.call78 _ _ xs ys _ hv hu hx hy).mono ?_
      rintro e w1 ⟨r, rfl, hr, hb⟩
      go_wp2_with fail
      refine (right_any _ _ _ hr).mono ?_
      rintro e w' ⟨rfl, rfl⟩
      cases hz : rightL (zipL (fun x1 x2 => x1 + x2) xs ys)
      · go_wp2
        go_ret2
        exact gives_of (plusL_full hx hy hz) (Ints.nil _) (hb)
      · go_wp2
        go_ret2
        exact gives_of (plusL_ok hx hy hz) (hr) (hb)

set_option maxHeartbeats 400000 in
theorem minus_any (v u : Value) (xs ys : List Int) (w : World) (hv : Ints w v xs) (hu : Ints w u ys) :
    Calls Try.prog 62 #[v, u] w fun e w' => Gives w (minusL xs ys) e w' := by
  go_enter Try.func62, Try.ntmps62
  go_wp2_with fail
  refine (right_any _ xs _ hv).mono ?_
  rintro e w' ⟨rfl, rfl⟩
  cases hx : rightL xs
  · go_wp2
    go_ret2
    exact gives_of (minusL_range1 hx) (Ints.nil _) (Below.refl _ _)
  · go_wp2_with fail
    refine (right_any _ ys _ hu).mono ?_
    rintro e w' ⟨rfl, rfl⟩
    cases hy : rightL ys
    · go_wp2
      go_ret2
      exact gives_of (minusL_range2 hy) (Ints.nil _) (Below.refl _ _)
    · go_wp2_with fail
      refine (covers_any _ _ xs ys _ hv hu).mono ?_
      rintro e w' ⟨rfl, rfl⟩
      cases hc : coversL xs ys
      · go_wp2
        go_ret2
        exact gives_of (minusL_none hx hy hc) (Ints.nil _) (Below.refl _ _)
      · go_wp2_with fail
        refine (joined_any 77 _ minus1_any Try.call77 _ _ xs ys _ hv hu hx hy).mono ?_
        rintro e w1 ⟨r, rfl, hr, hb⟩
        go_wp2
        go_ret2
        exact gives_of (minusL_ok hx hy hc) hr hb

theorem mix_one (xs ys : List Int) : zipL (mixL 1) xs ys = zipL (fun x1 x2 => x1 + x2) xs ys := by simp [zipL, mixL]
theorem mix_less (xs ys : List Int) : zipL (mixL (-1)) xs ys = zipL (fun x1 x2 => x1 - x2) xs ys := by
  simp only [zipL, mixL]; congr 1; funext p; omega

theorem rightL_iff (xs : List Int) : rightL xs = true ↔ ∀ j, 0 ≤ nth xs j ∧ nth xs j ≤ 1000000 := by
  refine ⟨okTok_nth, fun h => ?_⟩
  unfold rightL allTo
  rw [List.all_eq_true]
  intro j _
  simpa [okTok] using h j
theorem coversL_iff (xs ys : List Int) : coversL xs ys = true ↔ ∀ j, nth ys j ≤ nth xs j := by
  unfold coversL allTo
  rw [List.all_eq_true]
  constructor
  · intro h j
    by_cases hj : j < max xs.length ys.length
    · simpa [geTok] using h j (by simpa using hj)
    · rw [nth_past xs j (by omega), nth_past ys j (by omega)]; omega
  · intro h j _
    simpa [geTok] using h j
theorem zipL_at (f : Int → Int → Int) (f0 : f 0 0 = 0) (xs ys : List Int) (j : Nat) : nth (zipL f xs ys) j = f (nth xs j) (nth ys j) := by
  by_cases hj : j < max xs.length ys.length
  · exact zipL_nth f xs ys j hj
  · rw [nth_past xs j (by omega), nth_past ys j (by omega), nth_past _ j (by rw [zipL_length]; omega), f0]

theorem right_minus {xs ys : List Int} (hx : rightL xs = true) (hy : rightL ys = true) : rightL (zipL (fun x1 x2 => x1 - x2) xs ys) = coversL xs ys := by
  rw [Bool.eq_iff_iff, rightL_iff, coversL_iff]
  rw [rightL_iff] at hx hy
  constructor
  · intro h j
    have := h j
    rw [zipL_at _ (by rfl)] at this
    omega
  · intro h j
    have := h j
    have := hx j
    have := hy j
    rw [zipL_at _ (by rfl)]
    omega

end Go.Proofs.Ytfgimobmaahmmaa

/- Plain facts on marks as lists: sums, differences, covering. -/
namespace Go.Proofs.Ytfgimobmaahmmaa
set_option linter.unusedVariables false
set_option maxRecDepth 4000

theorem zip_comm (xs ys : List Int) : zipL (fun x1 x2 => x1 + x2) ys xs = zipL (fun x1 x2 => x1 + x2) xs ys := by
  simp only [zipL, Nat.max_comm ys.length xs.length]; congr 1; funext p; omega

theorem plusL_comm (xs ys : List Int) : plusL ys xs = plusL xs ys := by
  unfold plusL; rw [zip_comm, Bool.and_comm]

theorem sum_at (xs ys : List Int) (j : Nat) : nth (zipL (fun x1 x2 => x1 + x2) xs ys) j = nth xs j + nth ys j := zipL_at _ rfl _ _ _
theorem less_at (xs ys : List Int) (j : Nat) : nth (zipL (fun x1 x2 => x1 - x2) xs ys) j = nth xs j - nth ys j := zipL_at _ rfl _ _ _

/-- What an answer of Plus can be. -/
theorem plusL_cases (xs ys : List Int) : (plusL xs ys = (zipL (fun x1 x2 => x1 + x2) xs ys, 0) ∧ rightL xs = true ∧ rightL ys = true ∧ rightL (zipL (fun x1 x2 => x1 + x2) xs ys) = true) ∨
    (∃ c, plusL xs ys = ([], c) ∧ c ≠ 0) := by
  cases hx : rightL xs
  · exact .inr ⟨2, plusL_range1 hx, by decide⟩
  cases hy : rightL ys
  · exact .inr ⟨2, plusL_range2 hy, by decide⟩
  cases hz : rightL (zipL (fun x1 x2 => x1 + x2) xs ys)
  · exact .inr ⟨4, plusL_full hx hy hz, by decide⟩
  · exact .inl ⟨plusL_ok hx hy hz, rfl, rfl, rfl⟩

theorem covers_self (xs : List Int) : coversL xs xs = true := (coversL_iff _ _).2 fun j => Int.le_refl _
theorem covers_sum {xs ys : List Int} (hy : rightL ys = true) : coversL (zipL (fun x1 x2 => x1 + x2) xs ys) xs = true :=
  (coversL_iff _ _).2 fun j => by have := (rightL_iff _).1 hy j; rw [sum_at]; omega
theorem covers_sum2 {xs ys : List Int} (hx : rightL xs = true) : coversL (zipL (fun x1 x2 => x1 + x2) xs ys) ys = true :=
  (coversL_iff _ _).2 fun j => by have := (rightL_iff _).1 hx j; rw [sum_at]; omega

theorem sameL_iff (xs ys : List Int) : (coversL xs ys && coversL ys xs) = true ↔ ∀ j, nth xs j = nth ys j := by
  rw [Bool.and_eq_true, coversL_iff, coversL_iff]
  exact ⟨fun ⟨h, k⟩ j => by have := h j; have := k j; omega, fun h => ⟨fun j => by rw [h j]; omega, fun j => by rw [h j]; omega⟩⟩

/-- What was added is taken away again. -/
theorem minus_sum {xs ys : List Int} (hx : rightL xs = true) (hy : rightL ys = true) (hz : rightL (zipL (fun x1 x2 => x1 + x2) xs ys) = true) :
    ∃ zz, minusL (zipL (fun x1 x2 => x1 + x2) xs ys) ys = (zz, 0) ∧ (coversL zz xs && coversL xs zz) = true :=
  ⟨_, minusL_ok hz hy (covers_sum2 hx), (sameL_iff _ _).2 fun j => by rw [less_at, sum_at]; omega⟩

/-- In whatever order. -/
theorem plus_assoc {xs ys cs : List Int} (hx : rightL xs = true) (hy : rightL ys = true) (h : (plusL (zipL (fun x1 x2 => x1 + x2) xs ys) cs).2 = 0) :
    (plusL ys cs).2 = 0 ∧ (plusL xs (plusL ys cs).1).2 = 0 ∧
      (coversL (plusL (zipL (fun x1 x2 => x1 + x2) xs ys) cs).1 (plusL xs (plusL ys cs).1).1 && coversL (plusL xs (plusL ys cs).1).1 (plusL (zipL (fun x1 x2 => x1 + x2) xs ys) cs).1) = true := by
  rcases plusL_cases (zipL (fun x1 x2 => x1 + x2) xs ys) cs with ⟨e, _, hc, hr⟩ | ⟨c, e, hc⟩
  · have hr' := (rightL_iff _).1 hr
    have hx' := (rightL_iff _).1 hx
    have hy' := (rightL_iff _).1 hy
    have hc' := (rightL_iff _).1 hc
    have h1 : rightL (zipL (fun x1 x2 => x1 + x2) ys cs) = true := (rightL_iff _).2 fun j => by
      have := hr' j; have := hx' j; have := hy' j; have := hc' j
      simp only [sum_at] at *; omega
    have e1 := plusL_ok hy hc h1
    have h2 : rightL (zipL (fun x1 x2 => x1 + x2) xs (zipL (fun x1 x2 => x1 + x2) ys cs)) = true := (rightL_iff _).2 fun j => by
      have := hr' j
      simp only [sum_at] at *; omega
    have e2 := plusL_ok hx h1 h2
    refine ⟨by rw [e1], by rw [e1]; exact congrArg Prod.snd e2, ?_⟩
    rw [e, e1]
    show (coversL _ (plusL xs (zipL (fun x1 x2 => x1 + x2) ys cs)).1 && coversL (plusL xs (zipL (fun x1 x2 => x1 + x2) ys cs)).1 _) = true
    rw [e2]
    exact (sameL_iff _ _).2 fun j => by rw [sum_at, sum_at, sum_at, sum_at]; omega
  · rw [e] at h; exact absurd h hc

/-- What was taken away is added again. -/
theorem plus_less {xs ys : List Int} (hx : rightL xs = true) (hy : rightL ys = true) (hc : coversL xs ys = true) :
    ∃ zz, plusL (zipL (fun x1 x2 => x1 - x2) xs ys) ys = (zz, 0) ∧ (coversL zz xs && coversL xs zz) = true := by
  have h1 : rightL (zipL (fun x1 x2 => x1 - x2) xs ys) = true := by rw [right_minus hx hy]; exact hc
  have h2 : rightL (zipL (fun x1 x2 => x1 + x2) (zipL (fun x1 x2 => x1 - x2) xs ys) ys) = true := (rightL_iff _).2 fun j => by
    have := (rightL_iff _).1 hx j
    rw [sum_at, less_at]; omega
  exact ⟨_, plusL_ok h1 hy h2, (sameL_iff _ _).2 fun j => by rw [sum_at, less_at]; omega⟩

theorem covers_trans {xs ys cs : List Int} (h : coversL xs ys = true) (k : coversL ys cs = true) : coversL xs cs = true :=
  (coversL_iff _ _).2 fun j => Int.le_trans ((coversL_iff _ _).1 k j) ((coversL_iff _ _).1 h j)

end Go.Proofs.Ytfgimobmaahmmaa

/- The answers of the document itself for blocks: what is wrong. -/
namespace Go.Proofs.Ytfgimobmaahmmaa
open Go.RowKit
set_option linter.unusedVariables false
set_option maxRecDepth 4000

theorem jwAll_cons_ok {g : BlockL → Nat → Nat × Int} {l : List BlockL} {k h : Nat} (hk : k < l.length) (e : (g l[k] h).2 = 0) : jwAll g (l.drop k) h = jwAll g (l.drop (k + 1)) (g l[k] h).1 := by
  rw [List.drop_eq_getElem_cons hk]
  simp only [jwAll]
  rw [if_pos e]
theorem jwAll_cons_bad {g : BlockL → Nat → Nat × Int} {l : List BlockL} {k h : Nat} (hk : k < l.length) (e : (g l[k] h).2 ≠ 0) : jwAll g (l.drop k) h = g l[k] h := by
  rw [List.drop_eq_getElem_cons hk]
  simp only [jwAll]
  rw [if_neg e]
theorem jw_bad {f : Nat} {b : BlockL} {had : Nat} {e : Int} (h : badB b (had + 1) = e) (he : e ≠ 0) : jw (f + 1) b had = (had + 1, e) := by
  simp only [jw]
  rw [h, if_neg he]
theorem jw_good {f : Nat} {b : BlockL} {had : Nat} (h : badB b (had + 1) = 0) : jw (f + 1) b had = jwAll (jw f) b.kids (had + 1) := by
  simp only [jw]
  rw [if_pos h]

set_option maxHeartbeats 4000000 in
theorem jwrong_any (f : Nat) : ∀ (b : BlockL) (v : Value) (had : Nat) (w : World), BlockV w v b → had ≤ 40 → 41 ≤ f + had →
    Calls Try.prog 44 #[v, .int .i64 had] w fun e w' => e = .returned (.tuple #[.int .i64 ((jw f b had).1 : Int), .int .i64 (jw f b had).2]) ∧ Below w.heap.size w w' := by
  induction f with
  | zero => intro b v had w hv h0 h1; omega
  | succ f ih =>
    intro b v had w hv h0 h1
    have IH : Hid _ := ih
    clear ih
    obtain ⟨kv, rfl, hK⟩ := blockV_iff.1 hv
    obtain ⟨a, cap, rfl, hmx, hsh⟩ := hK.slice
    obtain ⟨n, Hn⟩ : ∃ n, Hid (b.kids.length = n) := ⟨_, rfl⟩
    have c := below_new w (.cells #[.int .i64 b.kind, .int .i64 b.label, .slice a b.kids.length cap] 24)
    have hbx := box3_new w (.int .i64 b.kind) (.int .i64 b.label) (.slice a b.kids.length cap) 24
    replace hK := hK.below c
    obtain ⟨w0, Hw0⟩ : ∃ w0, Hid (w.alloc (.cells #[.int .i64 b.kind, .int .i64 b.label, .slice a b.kids.length cap] 24) = w0) := ⟨_, rfl⟩
    rw [Hw0.out] at c hbx hK
    rw [Hn.out] at Hw0 hbx hK hmx ⊢
    obtain ⟨E, HE⟩ : ∃ E, Hid (badB b (had + 1) = E) := ⟨_, rfl⟩
    have HB : Hid _ := HE.out
    replace HB : Hid ((if 40 < had + 1 then (4 : Int) else if b.kind < 1 ∨ 6 < b.kind then 5 else if b.kind = 2 ∧ (b.label < 1 ∨ 26 < b.label) then 2 else if (b.kind ≤ 2 ∧ n ≠ 0) ∨ (3 ≤ b.kind ∧ n = 0) ∨ (b.kind = 6 ∧ n ≠ 2) then 1 else 0) = E) := by rw [← Hn.out]; exact HE.out
    obtain ⟨K, HK⟩ : ∃ K, Hid (b.kind = K) := ⟨_, rfl⟩
    obtain ⟨L, HL⟩ : ∃ L, Hid (b.label = L) := ⟨_, rfl⟩
    rw [HK.out, HL.out] at HB hbx Hw0 ⊢
    clear hv hsh
    go_enter Try.func44, Try.ntmps44
    go_upto_region 1 with fail
    rw [Hw0.out]
    clear Hw0
    obtain ⟨x0, x1, x2, x3⟩ := id hbx
    by_cases p1 : 40 < had + 1
    · have R : Hid (jw (f + 1) b had = (had + 1, 4)) := jw_bad (by rw [HE.out, ← HB.out, if_pos p1]) (by decide)
      have q1 : (40 : Int) < (had : Int) + 1 := by omega
      go_wp2
      go_ret2
      exact ⟨by rw [R.out]; simp, c⟩
    · have q1 : decide ((40 : Int) < (had : Int) + 1) = false := decide_eq_false (by omega)
      have h39 : had + 1 ≤ 40 := by omega
      rw [if_neg p1] at HB
      clear p1
      by_cases p2 : K < 1
      · have R : Hid (jw (f + 1) b had = (had + 1, 5)) := jw_bad (by rw [HE.out, ← HB.out, if_pos (.inl p2)]) (by decide)
        go_wp2
        go_ret2
        exact ⟨by rw [R.out]; simp, c⟩
      · by_cases p3 : 6 < K
        · have R : Hid (jw (f + 1) b had = (had + 1, 5)) := jw_bad (by rw [HE.out, ← HB.out, if_pos (.inr p3)]) (by decide)
          have p2' : decide (K < 1) = false := decide_eq_false p2
          clear p2
          go_wp2
          go_ret2
          exact ⟨by rw [R.out]; simp, c⟩
        · rw [if_neg (by omega)] at HB
          by_cases p4 : K = 2 ∧ (L < 1 ∨ 26 < L)
          · have R : Hid (jw (f + 1) b had = (had + 1, 2)) := jw_bad (by rw [HE.out, ← HB.out, if_pos p4]) (by decide)
            clear p2 p3
            obtain ⟨rfl, p4⟩ := p4
            by_cases p5 : L < 1
            · go_wp2
              go_ret2
              exact ⟨by rw [R.out]; simp, c⟩
            · have p6 : 26 < L := by omega
              have p5' : decide (L < 1) = false := decide_eq_false p5
              clear p5 p4
              go_wp2
              go_ret2
              exact ⟨by rw [R.out]; simp, c⟩
          · rw [if_neg p4] at HB
            by_cases p5 : (K ≤ 2 ∧ n ≠ 0) ∨ (3 ≤ K ∧ n = 0) ∨ (K = 6 ∧ n ≠ 2)
            · have R : Hid (jw (f + 1) b had = (had + 1, 1)) := jw_bad (by rw [HE.out, ← HB.out, if_pos p5]) (by decide)
              have hcase : (K = 1 ∧ n ≠ 0) ∨ (K = 2 ∧ n ≠ 0 ∧ 1 ≤ L ∧ L ≤ 26) ∨ (K = 3 ∧ n = 0) ∨ (K = 4 ∧ n = 0) ∨ (K = 5 ∧ n = 0) ∨ (K = 6 ∧ n = 0) ∨ (K = 6 ∧ n ≠ 0 ∧ n ≠ 2) := by omega
              clear p2 p3 p4 p5 HB HE HK
              rcases hcase with ⟨rfl, hn⟩ | ⟨rfl, hn, hl1, hl2⟩ | ⟨rfl, rfl⟩ | ⟨rfl, rfl⟩ | ⟨rfl, rfl⟩ | ⟨rfl, rfl⟩ | ⟨rfl, hn, hn2⟩
              · have hn' : ((n : Int) != 0) = true := by rw [bne_iff_ne]; omega
                go_wp2
                go_ret2
                exact ⟨by rw [R.out]; simp, c⟩
              · have hn' : ((n : Int) != 0) = true := by rw [bne_iff_ne]; omega
                have l1 : decide (L < 1) = false := decide_eq_false (by omega)
                have l2 : decide (26 < L) = false := decide_eq_false (by omega)
                go_wp2
                go_ret2
                exact ⟨by rw [R.out]; simp, c⟩
              · go_wp2
                go_ret2
                exact ⟨by rw [R.out]; simp, c⟩
              · go_wp2
                go_ret2
                exact ⟨by rw [R.out]; simp, c⟩
              · go_wp2
                go_ret2
                exact ⟨by rw [R.out]; simp, c⟩
              · go_wp2
                go_ret2
                exact ⟨by rw [R.out]; simp, c⟩
              · have hn' : ((n : Int) == 0) = false := by rw [beq_eq_false_iff_ne]; omega
                have hn2' : ((n : Int) != 2) = true := by rw [bne_iff_ne]; omega
                go_wp2
                go_ret2
                exact ⟨by rw [R.out]; simp, c⟩
            · have R : Hid (jw (f + 1) b had = jwAll (jw f) b.kids (had + 1)) := jw_good (by rw [HE.out, ← HB.out, if_neg p5])
              have hcase : (K = 1 ∧ ((n : Int) != 0) = false) ∨ (K = 2 ∧ ((n : Int) != 0) = false ∧ decide (L < 1) = false ∧ decide (26 < L) = false) ∨ (K = 3 ∧ ((n : Int) == 0) = false) ∨ (K = 4 ∧ ((n : Int) == 0) = false) ∨ (K = 5 ∧ ((n : Int) == 0) = false) ∨ (K = 6 ∧ ((n : Int) == 0) = false ∧ ((n : Int) != 2) = false) := by
                simp only [bne_eq_false_iff_eq, beq_eq_false_iff_ne, decide_eq_false_iff_not]
                omega
              clear p2 p3 p4 p5 HB HE HK
              have hfl : 41 ≤ f + (had + 1) := by omega
              rcases hcase with ⟨rfl, g1⟩ | ⟨rfl, g1, g2, g3⟩ | ⟨rfl, g1⟩ | ⟨rfl, g1⟩ | ⟨rfl, g1⟩ | ⟨rfl, g1, g2⟩
              all_goals
                go_upto_region 13 with fail
                go_wp2_with fail
                clear x0 x1 x2 x3
                go_loopg [1, 70] n (fun g o i wr => ∃ k h : Nat, k + g = n ∧ i = .int .i64 k ∧ o = .int .i64 h ∧ had + 1 ≤ h ∧ h ≤ 40 ∧ Hid (jwAll (jw f) b.kids (had + 1) = jwAll (jw f) (b.kids.drop k) h) ∧ Below w0.heap.size w0 wr)
                case atStart => exact ⟨0, had + 1, by omega, rfl, by simp, by omega, by omega, rfl, Below.refl _ _⟩
                case round =>
                  obtain ⟨k, h, hkg, rfl, rfl, hh1, hh2, Hj, hb⟩ := hrel
                  by_cases hk : k < n
                  · have Hkl : Hid (k < b.kids.length) := by show k < b.kids.length; rw [Hn.out]; exact hk
                    obtain ⟨bk, off, kv, rfl, hlt, c0, c1, c2, hkid⟩ := (hK.below hb).at Hkl.out
                    have Hok : Hid _ := jwAll_cons_ok (g := jw f) (l := b.kids) (k := k) (h := h) Hkl.out
                    have Hbd : Hid _ := jwAll_cons_bad (g := jw f) (l := b.kids) (k := k) (h := h) Hkl.out
                    have Hz : Hid _ := (jw_zero (f := f) (b := b.kids[k]'Hkl.out) (had := h) hh2 (by omega))
                    obtain ⟨kb, Hkb⟩ : ∃ kb, Hid (b.kids[k]'Hkl.out = kb) := ⟨_, rfl⟩
                    rw [Hkb.out] at c0 c1 hkid Hok Hbd Hz
                    obtain ⟨ka, kl, kc, rfl, _⟩ : ∃ ka kl kc, kv = .slice ka kl kc ∧ True := by obtain ⟨kv', e, hk'⟩ := blockV_iff.1 hkid; obtain ⟨ka, kc, e2, _⟩ := hk'.slice; injection e with e; simp only [Array.mk.injEq, List.cons.injEq, and_true, true_and] at e; exact ⟨ka, _, kc, by rw [e, e2], trivial⟩
                    have b3 := below_new wr (.cells #[.int .i64 kb.kind, .int .i64 kb.label, .slice ka kl kc] 24)
                    have hx3 := box3_new wr (.int .i64 kb.kind) (.int .i64 kb.label) (.slice ka kl kc) 24
                    replace hkid := hkid.below b3
                    have hbn := below_then hb b3
                    obtain ⟨w1, Hw1⟩ : ∃ w1, Hid (wr.alloc (.cells #[.int .i64 kb.kind, .int .i64 kb.label, .slice ka kl kc] 24) = w1) := ⟨_, rfl⟩
                    rw [Hw1.out] at hx3 hkid hbn
                    go_upto_region 16 with fail
                    rw [Hw1.out]
                    clear Hw1 c0 c1 c2 b3 hb hlt
                    obtain ⟨z0, z1, z2, z3⟩ := id hx3
                    go_wp2_with fail
                    refine (IH.out kb _ h _ (by exact hkid) hh2 (by omega)).mono ?_
                    rintro e w2 ⟨rfl, b2⟩
                    have hb2 := below_then hbn b2
                    clear z0 z1 z2 z3 hx3 hkid hbn b2
                    generalize jw f kb h = A at *
                    obtain ⟨A1, A2⟩ := A
                    simp only at Hok Hbd Hz ⊢
                    by_cases he : A2 = 0
                    · subst he
                      have hA1 : h ≤ A1 ∧ A1 ≤ 40 := by have q := Hz.out.2 rfl; have q2 := (Hz.out.1.1 rfl).2; omega
                      have Hj2 : Hid (jwAll (jw f) b.kids (had + 1) = jwAll (jw f) (b.kids.drop (k + 1)) A1) := by rw [Hj.out]; exact Hok.out rfl
                      clear Hok Hbd Hz Hj
                      go_wp2
                      go_roundg (gk - 1)
                      case measure => omega
                      case rel => exact ⟨k + 1, A1, by omega, by go_num, rfl, by omega, by omega, Hj2, hb2⟩
                    · have he' : (A2 != 0) = true := by simpa using he
                      have R2 : Hid (jw (f + 1) b had = (A1, A2)) := by rw [R.out, Hj.out]; exact Hbd.out he
                      have R3 := below_then c hb2
                      clear Hok Hbd Hz Hj he
                      go_wp2
                      go_ret2
                      exact ⟨by rw [R2.out]; rfl, R3⟩
                  · have R2 : Hid (jw (f + 1) b had = (h, 0)) := by rw [R.out, Hj.out, List.drop_of_length_le (by rw [Hn.out]; omega)]; rfl
                    have R3 := below_then c hb
                    clear hb Hj
                    go_wp2
                    go_ret2
                    exact ⟨by rw [R2.out]; rfl, R3⟩

theorem jwrong0_any (v : Value) (b : BlockL) (w : World) (hv : BlockV w v b) :
    Calls Try.prog 22 #[v] w fun e w' => e = .returned (.int .i64 (wrongB b)) ∧ Below w.heap.size w w' := by
  obtain ⟨kv, rfl, hK⟩ := blockV_iff.1 hv
  obtain ⟨a, cap, rfl, hmx, hsh⟩ := hK.slice
  obtain ⟨n, Hn⟩ : ∃ n, Hid (b.kids.length = n) := ⟨_, rfl⟩
  rw [Hn.out] at hv ⊢
  have c := below_new w (.cells #[.int .i64 b.kind, .int .i64 b.label, .slice a n cap] 24)
  have hbx := box3_new w (.int .i64 b.kind) (.int .i64 b.label) (.slice a n cap) 24
  replace hv := hv.below c
  obtain ⟨w0, Hw0⟩ : ∃ w0, Hid (w.alloc (.cells #[.int .i64 b.kind, .int .i64 b.label, .slice a n cap] 24) = w0) := ⟨_, rfl⟩
  rw [Hw0.out] at c hbx hv
  obtain ⟨x0, x1, x2, x3⟩ := id hbx
  go_enter Try.func22, Try.ntmps22
  go_upto_region 1 with fail
  rw [Hw0.out]
  clear Hw0
  go_wp2_with fail
  refine (jwrong_any 41 b _ 0 _ (by exact hv) (by omega) (by omega)).mono ?_
  rintro e w2 ⟨rfl, b2⟩
  have R := below_then c b2
  clear b2
  go_wp2
  go_ret
  exact ⟨rfl, R⟩

end Go.Proofs.Ytfgimobmaahmmaa
