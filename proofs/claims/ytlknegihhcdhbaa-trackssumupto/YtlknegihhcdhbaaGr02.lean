import Derived.Test.YtlknegihhcdhbaaGr01
import Derived.Test.YtlknegihhcdhbaaGr00
/- What the functions answer that make a new mark of two. -/
namespace Go.Proofs.Ytlknegihhcdhbaa
open Go.RowKit
set_option linter.unusedVariables false
set_option maxRecDepth 4000

/-- Place by place, at as many places as the longer one has. -/
def zipL (f : Int → Int → Int) (xs ys : List Int) : List Int := (List.range (max xs.length ys.length)).map fun p => f (nth xs p) (nth ys p)

theorem zipL_length (f : Int → Int → Int) (xs ys : List Int) : (zipL f xs ys).length = max xs.length ys.length := by simp [zipL]
theorem zipL_nth (f : Int → Int → Int) (xs ys : List Int) (j : Nat) (h : j < max xs.length ys.length) : nth (zipL f xs ys) j = f (nth xs j) (nth ys j) := by
  simp [zipL, nth, List.getD, List.getElem?_map, List.getElem?_range h]

theorem okTok_nth {xs : List Int} (h : rightL xs = true) (j : Nat) : 0 ≤ nth xs j ∧ nth xs j ≤ 1000000 := by
  by_cases hj : j < xs.length
  · have := List.all_eq_true.1 h j (by simpa using hj)
    simpa [okTok] using this
  · rw [nth_past xs j (by omega)]; omega

/-- Function g of two numbers of tokens answers f. -/
def Makes (g : Nat) (f : Int → Int → Int) : Prop := ∀ x y w, 0 ≤ x → x ≤ 1000000 → 0 ≤ y → y ≤ 1000000 → Calls Try.prog g #[.int .i64 x, .int .i64 y] w fun e w' => e = .returned (.int .i64 (f x y)) ∧ w' = w

end Go.Proofs.Ytlknegihhcdhbaa

/- Plus and Minus, and the answers of the document itself for them. -/
namespace Go.Proofs.Ytlknegihhcdhbaa
open Go.RowKit
set_option linter.unusedVariables false
set_option maxRecDepth 4000

def mixL (t : Int) (x y : Int) : Int := x + t * y

/-- The first k of them. -/
def zipTo (f : Int → Int → Int) (xs ys : List Int) (k : Nat) : List Int := (List.range k).map fun p => f (nth xs p) (nth ys p)
theorem zipTo_succ (f : Int → Int → Int) (xs ys : List Int) (k : Nat) : zipTo f xs ys (k + 1) = zipTo f xs ys k ++ [f (nth xs k) (nth ys k)] := by
  simp [zipTo, List.range_succ]
theorem zipTo_length (f : Int → Int → Int) (xs ys : List Int) (k : Nat) : (zipTo f xs ys k).length = k := by simp [zipTo]

/-- Both together. -/
def plusL (xs ys : List Int) : List Int × Int :=
  if (rightL xs && rightL ys) then (if rightL (zipL (· + ·) xs ys) then (zipL (· + ·) xs ys, 0) else ([], 4)) else ([], 2)

/-- One without the other. -/
def minusL (xs ys : List Int) : List Int × Int :=
  if (rightL xs && rightL ys) then (if coversL xs ys then (zipL (· - ·) xs ys, 0) else ([], 3)) else ([], 2)

theorem plusL_range1 {xs ys : List Int} (h : rightL xs = false) : plusL xs ys = ([], 2) := by simp [plusL, h]
theorem plusL_range2 {xs ys : List Int} (h : rightL ys = false) : plusL xs ys = ([], 2) := by simp [plusL, h]
theorem plusL_full {xs ys : List Int} (h : rightL xs = true) (h' : rightL ys = true) (h2 : rightL (zipL (· + ·) xs ys) = false) : plusL xs ys = ([], 4) := by simp [plusL, h, h', h2]
theorem plusL_ok {xs ys : List Int} (h : rightL xs = true) (h' : rightL ys = true) (h2 : rightL (zipL (· + ·) xs ys) = true) : plusL xs ys = (zipL (· + ·) xs ys, 0) := by simp [plusL, h, h', h2]
theorem minusL_range1 {xs ys : List Int} (h : rightL xs = false) : minusL xs ys = ([], 2) := by simp [minusL, h]
theorem minusL_range2 {xs ys : List Int} (h : rightL ys = false) : minusL xs ys = ([], 2) := by simp [minusL, h]
theorem minusL_none {xs ys : List Int} (h : rightL xs = true) (h' : rightL ys = true) (h2 : coversL xs ys = false) : minusL xs ys = ([], 3) := by simp [minusL, h, h', h2]
theorem minusL_ok {xs ys : List Int} (h : rightL xs = true) (h' : rightL ys = true) (h2 : coversL xs ys = true) : minusL xs ys = (zipL (· - ·) xs ys, 0) := by simp [minusL, h, h', h2]

/-- What a call answers that makes a mark, or tells what is wrong. -/
def Gives (w : World) (p : List Int × Int) (e : Ending) (w' : World) : Prop := ∃ r, e = .returned (.tuple #[r, .int .i64 p.2]) ∧ Ints w' r p.1 ∧ Below w.heap.size w w'

theorem gives_of {w w' : World} {r : Value} {p : List Int × Int} {zs : List Int} {c : Int} (hp : p = (zs, c)) (hr : Ints w' r zs) (hb : Below w.heap.size w w') : Gives w p (.returned (.tuple #[r, .int .i64 c])) w' := by
  subst hp; exact ⟨r, rfl, hr, hb⟩

theorem mix_one (xs ys : List Int) : zipL (mixL 1) xs ys = zipL (fun x1 x2 => x1 + x2) xs ys := by simp [zipL, mixL]
theorem mix_less (xs ys : List Int) : zipL (mixL (-1)) xs ys = zipL (fun x1 x2 => x1 - x2) xs ys := by
  simp only [zipL, mixL]; congr 1; funext p; omega

theorem rightL_iff (xs : List Int) : rightL xs = true ↔ ∀ j, 0 ≤ nth xs j ∧ nth xs j ≤ 1000000 := by
  refine ⟨okTok_nth, fun h => ?_⟩
  unfold rightL allTo
  rw [List.all_eq_true]
  intro j _
  simpa [okTok] using h j
theorem coversL_iff (xs ys : List Int) : coversL xs ys = true ↔ ∀ j, nth ys j ≤ nth xs j := by
  unfold coversL allTo
  rw [List.all_eq_true]
  constructor
  · intro h j
    by_cases hj : j < max xs.length ys.length
    · simpa [geTok] using h j (by simpa using hj)
    · rw [nth_past xs j (by omega), nth_past ys j (by omega)]; omega
  · intro h j _
    simpa [geTok] using h j
theorem zipL_at (f : Int → Int → Int) (f0 : f 0 0 = 0) (xs ys : List Int) (j : Nat) : nth (zipL f xs ys) j = f (nth xs j) (nth ys j) := by
  by_cases hj : j < max xs.length ys.length
  · exact zipL_nth f xs ys j hj
  · rw [nth_past xs j (by omega), nth_past ys j (by omega), nth_past _ j (by rw [zipL_length]; omega), f0]

theorem right_minus {xs ys : List Int} (hx : rightL xs = true) (hy : rightL ys = true) : rightL (zipL (fun x1 x2 => x1 - x2) xs ys) = coversL xs ys := by
  rw [Bool.eq_iff_iff, rightL_iff, coversL_iff]
  rw [rightL_iff] at hx hy
  constructor
  · intro h j
    have := h j
    rw [zipL_at _ (by rfl)] at this
    omega
  · intro h j
    have := h j
    have := hx j
    have := hy j
    rw [zipL_at _ (by rfl)]
    omega

end Go.Proofs.Ytlknegihhcdhbaa

/- Plain facts on marks as lists: sums, differences, covering. -/
namespace Go.Proofs.Ytlknegihhcdhbaa
set_option linter.unusedVariables false
set_option maxRecDepth 4000

theorem zip_comm (xs ys : List Int) : zipL (fun x1 x2 => x1 + x2) ys xs = zipL (fun x1 x2 => x1 + x2) xs ys := by
  simp only [zipL, Nat.max_comm ys.length xs.length]; congr 1; funext p; omega

theorem plusL_comm (xs ys : List Int) : plusL ys xs = plusL xs ys := by
  unfold plusL; rw [zip_comm, Bool.and_comm]

theorem sum_at (xs ys : List Int) (j : Nat) : nth (zipL (fun x1 x2 => x1 + x2) xs ys) j = nth xs j + nth ys j := zipL_at _ rfl _ _ _
theorem less_at (xs ys : List Int) (j : Nat) : nth (zipL (fun x1 x2 => x1 - x2) xs ys) j = nth xs j - nth ys j := zipL_at _ rfl _ _ _

/-- What an answer of Plus can be. -/
theorem plusL_cases (xs ys : List Int) : (plusL xs ys = (zipL (fun x1 x2 => x1 + x2) xs ys, 0) ∧ rightL xs = true ∧ rightL ys = true ∧ rightL (zipL (fun x1 x2 => x1 + x2) xs ys) = true) ∨
    (∃ c, plusL xs ys = ([], c) ∧ c ≠ 0) := by
  cases hx : rightL xs
  · exact .inr ⟨2, plusL_range1 hx, by decide⟩
  cases hy : rightL ys
  · exact .inr ⟨2, plusL_range2 hy, by decide⟩
  cases hz : rightL (zipL (fun x1 x2 => x1 + x2) xs ys)
  · exact .inr ⟨4, plusL_full hx hy hz, by decide⟩
  · exact .inl ⟨plusL_ok hx hy hz, rfl, rfl, rfl⟩

theorem covers_self (xs : List Int) : coversL xs xs = true := (coversL_iff _ _).2 fun j => Int.le_refl _
theorem covers_sum {xs ys : List Int} (hy : rightL ys = true) : coversL (zipL (fun x1 x2 => x1 + x2) xs ys) xs = true :=
  (coversL_iff _ _).2 fun j => by have := (rightL_iff _).1 hy j; rw [sum_at]; omega
theorem covers_sum2 {xs ys : List Int} (hx : rightL xs = true) : coversL (zipL (fun x1 x2 => x1 + x2) xs ys) ys = true :=
  (coversL_iff _ _).2 fun j => by have := (rightL_iff _).1 hx j; rw [sum_at]; omega

theorem sameL_iff (xs ys : List Int) : (coversL xs ys && coversL ys xs) = true ↔ ∀ j, nth xs j = nth ys j := by
  rw [Bool.and_eq_true, coversL_iff, coversL_iff]
  exact ⟨fun ⟨h, k⟩ j => by have := h j; have := k j; omega, fun h => ⟨fun j => by rw [h j]; omega, fun j => by rw [h j]; omega⟩⟩

/-- What was added is taken away again. -/
theorem minus_sum {xs ys : List Int} (hx : rightL xs = true) (hy : rightL ys = true) (hz : rightL (zipL (fun x1 x2 => x1 + x2) xs ys) = true) :
    ∃ zz, minusL (zipL (fun x1 x2 => x1 + x2) xs ys) ys = (zz, 0) ∧ (coversL zz xs && coversL xs zz) = true :=
  ⟨_, minusL_ok hz hy (covers_sum2 hx), (sameL_iff _ _).2 fun j => by rw [less_at, sum_at]; omega⟩

/-- In whatever order. -/
theorem plus_assoc {xs ys cs : List Int} (hx : rightL xs = true) (hy : rightL ys = true) (h : (plusL (zipL (fun x1 x2 => x1 + x2) xs ys) cs).2 = 0) :
    (plusL ys cs).2 = 0 ∧ (plusL xs (plusL ys cs).1).2 = 0 ∧
      (coversL (plusL (zipL (fun x1 x2 => x1 + x2) xs ys) cs).1 (plusL xs (plusL ys cs).1).1 && coversL (plusL xs (plusL ys cs).1).1 (plusL (zipL (fun x1 x2 => x1 + x2) xs ys) cs).1) = true := by
  rcases plusL_cases (zipL (fun x1 x2 => x1 + x2) xs ys) cs with ⟨e, _, hc, hr⟩ | ⟨c, e, hc⟩
  · have hr' := (rightL_iff _).1 hr
    have hx' := (rightL_iff _).1 hx
    have hy' := (rightL_iff _).1 hy
    have hc' := (rightL_iff _).1 hc
    have h1 : rightL (zipL (fun x1 x2 => x1 + x2) ys cs) = true := (rightL_iff _).2 fun j => by
      have := hr' j; have := hx' j; have := hy' j; have := hc' j
      simp only [sum_at] at *; omega
    have e1 := plusL_ok hy hc h1
    have h2 : rightL (zipL (fun x1 x2 => x1 + x2) xs (zipL (fun x1 x2 => x1 + x2) ys cs)) = true := (rightL_iff _).2 fun j => by
      have := hr' j
      simp only [sum_at] at *; omega
    have e2 := plusL_ok hx h1 h2
    refine ⟨by rw [e1], by rw [e1]; exact congrArg Prod.snd e2, ?_⟩
    rw [e, e1]
    show (coversL _ (plusL xs (zipL (fun x1 x2 => x1 + x2) ys cs)).1 && coversL (plusL xs (zipL (fun x1 x2 => x1 + x2) ys cs)).1 _) = true
    rw [e2]
    exact (sameL_iff _ _).2 fun j => by rw [sum_at, sum_at, sum_at, sum_at]; omega
  · rw [e] at h; exact absurd h hc

/-- What was taken away is added again. -/
theorem plus_less {xs ys : List Int} (hx : rightL xs = true) (hy : rightL ys = true) (hc : coversL xs ys = true) :
    ∃ zz, plusL (zipL (fun x1 x2 => x1 - x2) xs ys) ys = (zz, 0) ∧ (coversL zz xs && coversL xs zz) = true := by
  have h1 : rightL (zipL (fun x1 x2 => x1 - x2) xs ys) = true := by rw [right_minus hx hy]; exact hc
  have h2 : rightL (zipL (fun x1 x2 => x1 + x2) (zipL (fun x1 x2 => x1 - x2) xs ys) ys) = true := (rightL_iff _).2 fun j => by
    have := (rightL_iff _).1 hx j
    rw [sum_at, less_at]; omega
  exact ⟨_, plusL_ok h1 hy h2, (sameL_iff _ _).2 fun j => by rw [sum_at, less_at]; omega⟩

theorem covers_trans {xs ys cs : List Int} (h : coversL xs ys = true) (k : coversL ys cs = true) : coversL xs cs = true :=
  (coversL_iff _ _).2 fun j => Int.le_trans ((coversL_iff _ _).1 k j) ((coversL_iff _ _).1 h j)

end Go.Proofs.Ytlknegihhcdhbaa
