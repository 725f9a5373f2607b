/- Plain words for what transitions do together. -/
import Derived.Test.YtdaigbamgplboaaNets
namespace Go.Proofs.Ytdaigbamgplboaa
set_option linter.unusedVariables false

/-- The sum of the first k. -/
def sumTo (f : Nat → Int) : Nat → Int
  | 0 => 0
  | k + 1 => sumTo f k + f k

theorem sumTo_congr {f g : Nat → Int} : ∀ {k : Nat}, (∀ j, j < k → f j = g j) → sumTo f k = sumTo g k
  | 0, _ => rfl
  | k + 1, h => by rw [sumTo, sumTo, sumTo_congr fun j hj => h j (by omega), h k (by omega)]
theorem sumTo_add (f g : Nat → Int) : ∀ k, sumTo (fun j => f j + g j) k = sumTo f k + sumTo g k
  | 0 => rfl
  | k + 1 => by simp only [sumTo]; rw [sumTo_add f g k]; omega
theorem sumTo_neg (f : Nat → Int) : ∀ k, sumTo (fun j => - f j) k = - sumTo f k
  | 0 => rfl
  | k + 1 => by simp only [sumTo]; rw [sumTo_neg f k]; omega
theorem sumTo_mul (c : Int) (f : Nat → Int) : ∀ k, sumTo (fun j => c * f j) k = c * sumTo f k
  | 0 => by simp [sumTo]
  | k + 1 => by simp only [sumTo]; rw [sumTo_mul c f k, Int.mul_add]
theorem sumTo_zero {f : Nat → Int} : ∀ {k : Nat}, (∀ j, j < k → f j = 0) → sumTo f k = 0
  | 0, _ => rfl
  | k + 1, h => by rw [sumTo, sumTo_zero fun j hj => h j (by omega), h k (by omega)]; rfl
theorem sumTo_le {f g : Nat → Int} : ∀ {k : Nat}, (∀ j, j < k → f j ≤ g j) → sumTo f k ≤ sumTo g k
  | 0, _ => Int.le_refl _
  | k + 1, h => by
    have h1 := sumTo_le (k := k) fun j hj => h j (by omega)
    have h2 := h k (by omega)
    simp only [sumTo]; omega
theorem sumTo_const (c : Int) : ∀ k : Nat, sumTo (fun _ => c) k = c * k
  | 0 => by simp [sumTo]
  | k + 1 => by simp only [sumTo]; rw [sumTo_const c k, Int.natCast_add, Int.mul_add]; simp
theorem sumTo_nonneg {f : Nat → Int} {k : Nat} (h : ∀ j, j < k → 0 ≤ f j) : 0 ≤ sumTo f k := by
  have := sumTo_le (f := fun _ => 0) (g := f) h
  rw [sumTo_const] at this; omega
/-- One of them is no more than all, where none is below 0. -/
theorem sumTo_one {f : Nat → Int} {i : Nat} : ∀ {k : Nat}, (∀ j, j < k → 0 ≤ f j) → i < k → f i ≤ sumTo f k
  | 0, _, h => absurd h (Nat.not_lt_zero _)
  | k + 1, h, hi => by
    simp only [sumTo]
    have h2 := h k (by omega)
    by_cases e : i = k
    · subst e; have := sumTo_nonneg (f := f) (k := i) fun j hj => h j (by omega); omega
    · have := sumTo_one (k := k) (fun j hj => h j (by omega)) (show i < k by omega); omega
/-- One alone counts. -/
theorem sumTo_single {f : Nat → Int} {i : Nat} : ∀ {k : Nat}, i < k → (∀ j, j < k → j ≠ i → f j = 0) → sumTo f k = f i
  | 0, h, _ => absurd h (Nat.not_lt_zero _)
  | k + 1, hi, h => by
    simp only [sumTo]
    by_cases e : i = k
    · subst e; rw [sumTo_zero fun j hj => h j (by omega) (by omega)]; omega
    · rw [sumTo_single (k := k) (by omega) fun j hj hne => h j (by omega) hne, h k (by omega) (by omega)]; omega
theorem sumTo_swap (f : Nat → Nat → Int) (a : Nat) : ∀ b, sumTo (fun i => sumTo (fun j => f i j) a) b = sumTo (fun j => sumTo (fun i => f i j) b) a
  | 0 => (sumTo_zero fun _ _ => rfl).symm
  | b + 1 => by
    simp only [sumTo]
    rw [sumTo_swap f a b, ← sumTo_add]
theorem sumTo_past {f : Nat → Int} {a : Nat} : ∀ {b : Nat}, a ≤ b → (∀ j, a ≤ j → f j = 0) → sumTo f b = sumTo f a
  | 0, h, _ => by have : a = 0 := by omega
                  rw [this]
  | b + 1, h, hz => by
    by_cases e : a = b + 1
    · rw [e]
    · simp only [sumTo]; rw [sumTo_past (b := b) (by omega) hz, hz b (by omega)]; omega

/-- How often each is there, of the first k. -/
def countTo (seq : List Int) (k : Nat) : List Int := (List.range k).map fun (t : Nat) => ((seq.count (t : Int) : Nat) : Int)
theorem countTo_succ (seq : List Int) (k : Nat) : countTo seq (k + 1) = countTo seq k ++ [((seq.count (k : Int) : Nat) : Int)] := by simp [countTo, List.range_succ]
theorem countTo_length (seq : List Int) (k : Nat) : (countTo seq k).length = k := by simp [countTo]
theorem countTo_nth (seq : List Int) (k j : Nat) (h : j < k) : nth (countTo seq k) j = ((seq.count (j : Int) : Nat) : Int) := by
  simp [countTo, nth, List.getD, h]
def countL (n : NetL) (seq : List Int) : List Int := countTo seq n.trans.length

theorem count_take_succ (seq : List Int) (x : Int) (j : Nat) (h : j < seq.length) : (seq.take (j + 1)).count x = (seq.take j).count x + (if nth seq j = x then 1 else 0) := by
  rw [List.take_succ_eq_append_getElem h, List.count_append, List.count_singleton]
  have e : nth seq j = seq[j] := by simp [nth, List.getD, List.getElem?_eq_getElem h]
  rw [e]
  simp only [beq_iff_eq]

/-- As many numbers as there must be, each from 'least' to 1000000. -/
def withinL (xs : List Int) (many least : Int) : Bool := ((xs.length : Int) == many) && xs.all fun x => decide (least ≤ x) && decide (x ≤ 1000000)
theorem withinL_iff (xs : List Int) (many least : Int) : withinL xs many least = true ↔ (xs.length : Int) = many ∧ ∀ j, j < xs.length → least ≤ nth xs j ∧ nth xs j ≤ 1000000 := by
  unfold withinL
  rw [Bool.and_eq_true, beq_iff_eq, List.all_eq_true]
  constructor
  · rintro ⟨h1, h2⟩
    refine ⟨h1, fun j hj => ?_⟩
    have := h2 _ (List.getElem_mem hj)
    simpa [nth, List.getD, List.getElem?_eq_getElem hj] using this
  · rintro ⟨h1, h2⟩
    refine ⟨h1, fun x hx => ?_⟩
    obtain ⟨j, hj, rfl⟩ := List.getElem_of_mem hx
    have := h2 j hj
    simpa [nth, List.getD, List.getElem?_eq_getElem hj] using this

/-- What the first k transitions do at place p. -/
def effTo (n : NetL) (c : List Int) (p k : Nat) : Int := sumTo (fun j => nth c j * nth (tranAt n.trans j).post p - nth c j * nth (tranAt n.trans j).pre p) k
/-- What all do, place by place. -/
def effList (n : NetL) (c : List Int) (q : Nat) : List Int := (List.range q).map fun p => effTo n c p n.trans.length
theorem effList_succ (n : NetL) (c : List Int) (q : Nat) : effList n c (q + 1) = effList n c q ++ [effTo n c q n.trans.length] := by simp [effList, List.range_succ]
theorem effList_length (n : NetL) (c : List Int) (q : Nat) : (effList n c q).length = q := by simp [effList]
theorem effList_nth (n : NetL) (c : List Int) (q p : Nat) (h : p < q) : nth (effList n c q) p = effTo n c p n.trans.length := by
  simp [effList, nth, List.getD, h]
def effOk (n : NetL) (c : List Int) : Bool := netOk n && withinL c n.trans.length 0
def effectL (n : NetL) (c : List Int) : List Int × Int := if effOk n c then (effList n c n.places.toNat, 0) else ([], 2)

/-- The sum of the products. -/
def dotL : List Int → List Int → Int
  | y :: ys, m :: ms => y * m + dotL ys ms
  | _, _ => 0
def weighL (y m : List Int) : Int := IntKind.i64.wrap (dotL y m)

theorem sumTo_shift (f : Nat → Int) : ∀ k, sumTo f (k + 1) = f 0 + sumTo (fun j => f (j + 1)) k
  | 0 => by simp [sumTo]
  | k + 1 => by rw [sumTo, sumTo_shift f k, sumTo]; omega
theorem dotL_sum : ∀ (y m : List Int) (k : Nat), min y.length m.length ≤ k → dotL y m = sumTo (fun j => nth y j * nth m j) k
  | [], m, k, _ => by rw [dotL, sumTo_zero]; intro j _; simp [nth]; simp
  | y :: ys, [], k, _ => by rw [dotL, sumTo_zero]; intro j _; simp [nth]; simp
  | y :: ys, m :: ms, 0, h => by simp at h
  | y :: ys, m :: ms, k + 1, h => by
    rw [dotL, sumTo_shift, dotL_sum ys ms k (by simp at h; omega)]
    simp [nth]

def keptL (n : NetL) (y : List Int) : Bool := netOk n && withinL y n.places (-1000000) && n.trans.all fun t => dotL y t.pre == dotL y t.post
def roundL (n : NetL) (c : List Int) : Bool := ((effectL n c).2 == 0) && (effectL n c).1.all fun x => x == 0

theorem wrap_add (a b : Int) : IntKind.i64.wrap (IntKind.i64.wrap a + IntKind.i64.wrap b) = IntKind.i64.wrap (a + b) := by
  simp only [IntKind.wrap_i64]; omega
theorem wrap_id {a : Int} (h1 : -9223372036854775808 ≤ a) (h2 : a ≤ 9223372036854775807) : IntKind.i64.wrap a = a := by
  simp only [IntKind.wrap_i64]; omega

end Go.Proofs.Ytdaigbamgplboaa
