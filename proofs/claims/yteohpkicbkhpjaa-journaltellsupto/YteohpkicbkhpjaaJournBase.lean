/- Plain words for what was done at a desk, as bytes. -/
import Derived.Test.YteohpkicbkhpjaaDeskBase
namespace Go.Proofs.Yteohpkicbkhpjaa
set_option linter.unusedVariables false
set_option maxRecDepth 4000

def isByte (x : Int) : Prop := 0 ≤ x ∧ x < 256
/-- Bits turned to the left. -/
def rotN (x k : Nat) : Nat := (x * 2 ^ k) % 256 ||| x / 2 ^ (8 - k)
def rotI (x : Int) (k : Nat) : Int := ((rotN x.toNat k : Nat) : Int)
def xorI (a b : Int) : Int := ((a.toNat ^^^ b.toNat : Nat) : Int)
/-- The sum of the first k. -/
def sumJ (xs : List Int) : Nat → Int
  | 0 => 90
  | k + 1 => xorI (sumJ xs k) (rotI (nth xs k) k)

theorem rot_back : ∀ x, x < 256 → ∀ k, k < 6 → rotN (rotN x k) (8 - k) = x := by decide
theorem rot_lt {x k : Nat} (hx : x < 256) (hk : k ≤ 8) : rotN x k < 256 := by
  unfold rotN
  exact Nat.or_lt_two_pow (n := 8) (Nat.mod_lt _ (by decide)) (Nat.lt_of_le_of_lt (Nat.div_le_self _ _) hx)
theorem rotI_byte {x : Int} {k : Nat} (hx : isByte x) (hk : k ≤ 8) : isByte (rotI x k) := by
  have := rot_lt (x := x.toNat) (k := k) (by have := hx.1; have := hx.2; omega) hk
  exact ⟨by unfold rotI; omega, by unfold rotI; omega⟩
theorem rotI_inj {x y : Int} {k : Nat} (hx : isByte x) (hy : isByte y) (hk : k < 6) (h : rotI x k = rotI y k) : x = y := by
  have h1 := rot_back x.toNat (by have := hx.1; have := hx.2; omega) k hk
  have h2 := rot_back y.toNat (by have := hy.1; have := hy.2; omega) k hk
  have e : rotN x.toNat k = rotN y.toNat k := by unfold rotI at h; omega
  rw [e, h2] at h1
  have := hx.1; have := hy.1; omega
theorem xorI_byte {a b : Int} (ha : isByte a) (hb : isByte b) : isByte (xorI a b) := by
  have := Nat.xor_lt_two_pow (n := 8) (x := a.toNat) (y := b.toNat) (by have := ha.1; have := ha.2; omega) (by have := hb.1; have := hb.2; omega)
  exact ⟨by unfold xorI; omega, by unfold xorI; omega⟩
theorem nat_xor_cancel (a b : Nat) : a ^^^ (a ^^^ b) = b := by rw [← Nat.xor_assoc, Nat.xor_self, Nat.zero_xor]
theorem xorI_left {a b c : Int} (hb : isByte b) (hc : isByte c) (h : xorI a b = xorI a c) : b = c := by
  have e : a.toNat ^^^ b.toNat = a.toNat ^^^ c.toNat := by unfold xorI at h; omega
  have e2 := congrArg (a.toNat ^^^ ·) e
  simp only [nat_xor_cancel] at e2
  have := hb.1; have := hc.1; omega
theorem xorI_comm (a b : Int) : xorI a b = xorI b a := by unfold xorI; rw [Nat.xor_comm]
theorem sumJ_byte {xs : List Int} (h : ∀ j, isByte (nth xs j)) : ∀ {k : Nat}, k ≤ 8 → isByte (sumJ xs k)
  | 0, _ => ⟨by show (0 : Int) ≤ 90; decide, by show (90 : Int) < 256; decide⟩
  | k + 1, hk => xorI_byte (sumJ_byte h (by omega)) (rotI_byte (h k) (by omega))
theorem sumJ_congr {xs ys : List Int} : ∀ {k : Nat}, (∀ j, j < k → nth xs j = nth ys j) → sumJ xs k = sumJ ys k
  | 0, _ => rfl
  | k + 1, h => by rw [sumJ, sumJ, sumJ_congr fun j hj => h j (by omega), h k (by omega)]
theorem sumJ_diff {xs ys : List Int} {j : Nat} (hx : ∀ j, isByte (nth xs j)) (hy : ∀ j, isByte (nth ys j)) (hj : j < 6) (hne : nth xs j ≠ nth ys j) : ∀ {k : Nat}, k ≤ 6 → j < k → (∀ i, i < k → i ≠ j → nth xs i = nth ys i) → sumJ xs k ≠ sumJ ys k
  | 0, _, h, _ => absurd h (Nat.not_lt_zero _)
  | k + 1, hk, h, hi => fun e => by
    rw [sumJ, sumJ] at e
    by_cases q : j = k
    · subst q
      rw [sumJ_congr (xs := xs) (ys := ys) fun i h2 => hi i (by omega) (by omega)] at e
      exact hne (rotI_inj (hx j) (hy j) hj (xorI_left (rotI_byte (hx j) (by omega)) (rotI_byte (hy j) (by omega)) e))
    · rw [hi k (by omega) (fun q2 => q q2.symm), xorI_comm, xorI_comm (sumJ ys k)] at e
      exact sumJ_diff hx hy hj hne (k := k) (by omega) (by omega) (fun i h1 h2 => hi i (by omega) h2) (xorI_left (sumJ_byte hx (by omega)) (sumJ_byte hy (by omega)) e)

/-! ### written -/
def inB (x m : Int) : Bool := decide (0 ≤ x) && decide (x ≤ m)
def fitsO (o : DOp) : Bool := inB o.kind 255 && inB o.user 255 && inB o.tran 255 && inB o.hand 255 && inB o.item 65535
def six (o : DOp) : List Int := [o.kind, o.user, o.tran, o.hand, o.item / 256, o.item % 256]
def seven (o : DOp) : List Int := [o.kind, o.user, o.tran, o.hand, o.item / 256, o.item % 256, sumJ (six o) 6]
def writeJ (o : DOp) : List Int × Int := if fitsO o then (seven o, 0) else ([], 2)
def opJ (xs : List Int) : DOp := ⟨nth xs 0, nth xs 1, nth xs 2, nth xs 4 * 256 + nth xs 5, nth xs 3⟩

theorem fits_iff (o : DOp) : fitsO o = true ↔ isByte o.kind ∧ isByte o.user ∧ isByte o.tran ∧ isByte o.hand ∧ 0 ≤ o.item ∧ o.item < 65536 := by
  simp only [fitsO, inB, isByte, Bool.and_eq_true, decide_eq_true_eq]
  omega
theorem seven_length (o : DOp) : (seven o).length = 7 := rfl
theorem bytes7 {xs : List Int} (hl : xs.length = 7) (h : ∀ j, j < 7 → isByte (nth xs j)) (j : Nat) : isByte (nth xs j) := by
  by_cases hj : j < 7
  · exact h j hj
  · rw [nth_past _ _ (by omega)]; exact ⟨by decide, by decide⟩
theorem six_byte {o : DOp} (h : fitsO o = true) (j : Nat) : isByte (nth (six o) j) := by
  obtain ⟨h1, h2, h3, h4, h5, h6⟩ := (fits_iff o).1 h
  match j with
  | 0 => exact h1
  | 1 => exact h2
  | 2 => exact h3
  | 3 => exact h4
  | 4 => exact ⟨by show 0 ≤ o.item / 256; omega, by show o.item / 256 < 256; omega⟩
  | 5 => exact ⟨by show 0 ≤ o.item % 256; omega, by show o.item % 256 < 256; omega⟩
  | j + 6 => rw [nth_past _ _ (by show 6 ≤ j + 6; omega)]; exact ⟨by decide, by decide⟩
theorem seven_byte {o : DOp} (h : fitsO o = true) (j : Nat) : isByte (nth (seven o) j) := by
  match j with
  | 0 => exact six_byte h 0
  | 1 => exact six_byte h 1
  | 2 => exact six_byte h 2
  | 3 => exact six_byte h 3
  | 4 => exact six_byte h 4
  | 5 => exact six_byte h 5
  | 6 => exact sumJ_byte (fun j => six_byte h j) (by omega)
  | j + 7 => rw [nth_past _ _ (by show 7 ≤ j + 7; omega)]; exact ⟨by decide, by decide⟩
theorem seven_sum (o : DOp) : sumJ (seven o) 6 = nth (seven o) 6 := by
  have : sumJ (seven o) 6 = sumJ (six o) 6 := sumJ_congr fun j hj => by
    match j, hj with
    | 0, _ => rfl
    | 1, _ => rfl
    | 2, _ => rfl
    | 3, _ => rfl
    | 4, _ => rfl
    | 5, _ => rfl
  exact this
theorem op_seven {o : DOp} (h : fitsO o = true) : opJ (seven o) = o := by
  obtain ⟨h1, h2, h3, h4, h5, h6⟩ := (fits_iff o).1 h
  cases o with
  | mk a b c d e =>
    show DOp.mk a b c (d / 256 * 256 + d % 256) e = _
    have : d / 256 * 256 + d % 256 = d := by omega
    rw [this]
theorem list7 {xs ys : List Int} (h1 : xs.length = 7) (h2 : ys.length = 7) (h : ∀ j, j < 7 → nth xs j = nth ys j) : xs = ys := by
  refine List.ext_getElem (by omega) fun i q1 q2 => ?_
  have := h i (by omega)
  simpa [nth, List.getD, List.getElem?_eq_getElem q1, List.getElem?_eq_getElem q2] using this
theorem op_fits {xs : List Int} (h : ∀ j, isByte (nth xs j)) : fitsO (opJ xs) = true := by
  have h4 := h 4
  have h5 := h 5
  refine (fits_iff _).2 ⟨h 0, h 1, h 2, h 3, ?_, ?_⟩
  · show 0 ≤ nth xs 4 * 256 + nth xs 5
    have := h4.1; have := h5.1; omega
  · show nth xs 4 * 256 + nth xs 5 < 65536
    have := h4.2; have := h5.2; omega
theorem seven_op {xs : List Int} (hl : xs.length = 7) (h : ∀ j, isByte (nth xs j)) (hs : sumJ xs 6 = nth xs 6) : seven (opJ xs) = xs := by
  have h4 := h 4
  have h5 := h 5
  have e4 : nth (seven (opJ xs)) 4 = nth xs 4 := by show (nth xs 4 * 256 + nth xs 5) / 256 = nth xs 4; have := h5.1; have := h5.2; omega
  have e5 : nth (seven (opJ xs)) 5 = nth xs 5 := by show (nth xs 4 * 256 + nth xs 5) % 256 = nth xs 5; have := h5.1; have := h5.2; omega
  have e6 : nth (seven (opJ xs)) 6 = nth xs 6 := by
    rw [← seven_sum, ← hs]
    refine sumJ_congr fun j hj => ?_
    match j, hj with
    | 0, _ => rfl
    | 1, _ => rfl
    | 2, _ => rfl
    | 3, _ => rfl
    | 4, _ => exact e4
    | 5, _ => exact e5
  refine list7 rfl hl fun j hj => ?_
  match j, hj with
  | 0, _ => rfl
  | 1, _ => rfl
  | 2, _ => rfl
  | 3, _ => rfl
  | 4, _ => exact e4
  | 5, _ => exact e5
  | 6, _ => exact e6

/-! ### read -/
/-- The j-th seven bytes. -/
def blk (xs : List Int) (j : Nat) : List Int := (List.range 7).map fun i => nth xs (7 * j + i)
theorem blk_length (xs : List Int) (j : Nat) : (blk xs j).length = 7 := by simp [blk]
theorem blk_at (xs : List Int) (j i : Nat) (hi : i < 7) : nth (blk xs j) i = nth xs (7 * j + i) := by
  simp [nth, blk, List.getD, hi]
def goodB (xs : List Int) (j : Nat) : Prop := sumJ (blk xs j) 6 = nth xs (7 * j + 6)
structure ReadOk (xs : List Int) (l : List DOp) (e : Int) : Prop where
  room : 7 * l.length ≤ xs.length
  good : ∀ j, j < l.length → goodB xs j ∧ dopAt l j = opJ (blk xs j)
  stop : (e = 0 ∧ xs.length < 7 * (l.length + 1)) ∨ (e = 8 ∧ 7 * (l.length + 1) ≤ xs.length ∧ ¬ goodB xs l.length)
theorem dop_ext {l m : List DOp} (hl : l.length = m.length) (h : ∀ j, j < l.length → dopAt l j = dopAt m j) : l = m := by
  refine List.ext_getElem hl fun i h1 h2 => ?_
  have := h i h1
  simpa [dopAt, List.getD, List.getElem?_eq_getElem h1, List.getElem?_eq_getElem h2] using this
theorem ReadOk.unique {xs : List Int} {l m : List DOp} {e f : Int} (h : ReadOk xs l e) (k : ReadOk xs m f) : l = m ∧ e = f := by
  have hlen : l.length = m.length := by
    rcases Nat.lt_trichotomy l.length m.length with q | q | q
    · rcases h.stop with ⟨_, h2⟩ | ⟨_, _, h2⟩
      · have := k.room; omega
      · exact absurd (k.good l.length q).1 h2
    · exact q
    · rcases k.stop with ⟨_, h2⟩ | ⟨_, _, h2⟩
      · have := h.room; omega
      · exact absurd (h.good m.length q).1 h2
  refine ⟨dop_ext hlen fun j hj => by rw [(h.good j hj).2, (k.good j (by omega)).2], ?_⟩
  rcases h.stop with ⟨h1, h2⟩ | ⟨h1, h2, h3⟩ <;> rcases k.stop with ⟨k1, k2⟩ | ⟨k1, k2, k3⟩ <;> omega

/-- All of some, one behind the other. -/
def writtenL (l : List DOp) : List Int := l.flatMap seven
theorem written_length : ∀ l : List DOp, (writtenL l).length = 7 * l.length
  | [] => rfl
  | o :: l => by
    have := written_length l
    simp only [writtenL, List.flatMap_cons, List.length_append, seven_length, List.length_cons] at this ⊢
    omega
theorem nth_app_left {xs ys : List Int} {p : Nat} (h : p < xs.length) : nth (xs ++ ys) p = nth xs p := by simp [nth, List.getD, List.getElem?_append_left h]
theorem nth_app_right {xs ys : List Int} {p : Nat} (h : xs.length ≤ p) : nth (xs ++ ys) p = nth ys (p - xs.length) := by simp [nth, List.getD, List.getElem?_append_right h]
theorem written_at : ∀ (l : List DOp) (j i : Nat), j < l.length → i < 7 → nth (writtenL l) (7 * j + i) = nth (seven (dopAt l j)) i
  | [], j, i, h, _ => absurd h (Nat.not_lt_zero _)
  | o :: l, 0, i, _, hi => by
    show nth (seven o ++ writtenL l) (7 * 0 + i) = _
    rw [Nat.mul_zero, Nat.zero_add, nth_app_left (by rw [seven_length]; exact hi)]
    rfl
  | o :: l, j + 1, i, h, hi => by
    have := written_at l j i (by simpa using h) hi
    show nth (seven o ++ writtenL l) (7 * (j + 1) + i) = _
    rw [nth_app_right (by rw [seven_length]; omega), seven_length, show 7 * (j + 1) + i - 7 = 7 * j + i by omega, this]
    rfl
theorem written_snoc (l : List DOp) (o : DOp) : writtenL (l ++ [o]) = writtenL l ++ seven o := by simp [writtenL, List.flatMap_append]
def AllFit (l : List DOp) : Prop := ∀ j, j < l.length → fitsO (dopAt l j) = true
theorem written_byte {l : List DOp} (h : AllFit l) (p : Nat) : isByte (nth (writtenL l) p) := by
  by_cases hp : p < 7 * l.length
  · have e : p = 7 * (p / 7) + p % 7 := by omega
    rw [e, written_at l _ _ (by omega) (by omega)]
    exact seven_byte (h _ (by omega)) _
  · rw [nth_past _ _ (by rw [written_length]; omega)]; exact ⟨by decide, by decide⟩
theorem written_blk {l : List DOp} {j : Nat} (hj : j < l.length) {ys : List Int} (h : ∀ i, i < 7 → nth ys (7 * j + i) = nth (writtenL l) (7 * j + i)) : blk ys j = seven (dopAt l j) :=
  list7 (blk_length _ _) rfl fun i hi => by rw [blk_at _ _ _ hi, h i hi, written_at l j i hj hi]
theorem good_of {ys : List Int} {j : Nat} {o : DOp} (h : blk ys j = seven o) : goodB ys j := by
  unfold goodB
  rw [h, seven_sum, ← h, blk_at _ _ _ (by omega)]
theorem dop_take {l : List DOp} {k j : Nat} (h : j < k) : dopAt (l.take k) j = dopAt l j := by simp [dopAt, List.getD, h]

/-- What was written is read; where it was torn, all that was whole is. -/
theorem read_back {l : List DOp} {n : Nat} (hf : AllFit l) (hn : n ≤ 7 * l.length) : ReadOk ((writtenL l).take n) (l.take (n / 7)) 0 := by
  have hl : (l.take (n / 7)).length = n / 7 := by rw [List.length_take]; omega
  have hx : ((writtenL l).take n).length = n := by rw [List.length_take, written_length]; omega
  refine ⟨by rw [hl, hx]; omega, fun j hj => ?_, .inl ⟨rfl, by rw [hl, hx]; omega⟩⟩
  rw [hl] at hj
  have hb : blk ((writtenL l).take n) j = seven (dopAt l j) := written_blk (by omega) fun i hi => by simp [nth, List.getD, show 7 * j + i < n by omega]
  refine ⟨good_of hb, ?_⟩
  rw [dop_take hj, hb, op_seven (hf j (by omega))]
/-- A byte that was spoilt is seen. -/
theorem read_spoilt {l : List DOp} {p : Nat} {c : Int} (hf : AllFit l) (hp : p < 7 * l.length) (hc : isByte c) (hne : nth (writtenL l) p ≠ c) : ReadOk ((writtenL l).set p c) (l.take (p / 7)) 8 := by
  have hl : (l.take (p / 7)).length = p / 7 := by rw [List.length_take]; omega
  have hx : ((writtenL l).set p c).length = 7 * l.length := by rw [List.length_set, written_length]
  have hat : ∀ q, nth ((writtenL l).set p c) q = if q = p then c else nth (writtenL l) q := fun q => nth_set' _ _ _ _ (by rw [written_length]; exact hp)
  refine ⟨by rw [hl, hx]; omega, fun j hj => ?_, .inr ⟨rfl, by rw [hl, hx]; omega, ?_⟩⟩
  · rw [hl] at hj
    have hb : blk ((writtenL l).set p c) j = seven (dopAt l j) := written_blk (by omega) fun i hi => by rw [hat, if_neg (by omega)]
    refine ⟨good_of hb, ?_⟩
    rw [dop_take hj, hb, op_seven (hf j (by omega))]
  · rw [hl]
    intro hg
    have hj : p / 7 < l.length := by omega
    have hbl : ∀ i, i < 7 → nth (blk ((writtenL l).set p c) (p / 7)) i = if i = p % 7 then c else nth (seven (dopAt l (p / 7))) i := fun i hi => by
      rw [blk_at _ _ _ hi, hat]
      by_cases e : i = p % 7
      · rw [if_pos e, if_pos (by omega)]
      · rw [if_neg e, if_neg (by omega), written_at l _ _ hj hi]
    have hsb := seven_byte (hf _ hj)
    have hbb : ∀ j, isByte (nth (blk ((writtenL l).set p c) (p / 7)) j) := bytes7 (blk_length _ _) fun i hi => by
      rw [hbl i hi]
      split
      · exact hc
      · exact hsb i
    have hpe : p = 7 * (p / 7) + p % 7 := by omega
    rw [hpe, written_at l _ _ hj (by omega)] at hne
    unfold goodB at hg
    rw [← blk_at _ _ _ (show 6 < 7 by omega), hbl 6 (by omega)] at hg
    by_cases h6 : p % 7 = 6
    · rw [if_pos h6.symm] at hg
      have : sumJ (blk ((writtenL l).set p c) (p / 7)) 6 = sumJ (seven (dopAt l (p / 7))) 6 := sumJ_congr fun i hi => by rw [hbl i (by omega), if_neg (by omega)]
      rw [this, seven_sum] at hg
      rw [h6] at hne
      exact hne hg
    · rw [if_neg (fun e => h6 e.symm), ← seven_sum] at hg
      exact sumJ_diff (j := p % 7) hbb hsb (by omega) (by rw [hbl _ (by omega), if_pos rfl]; exact fun e => hne e.symm) (k := 6) (by omega) (by omega) (fun i hi hne2 => by rw [hbl i (by omega), if_neg hne2]) hg
/-- Nothing is read that was not written. -/
theorem read_only {xs : List Int} {l : List DOp} {e : Int} (h : ReadOk xs l e) (hb : ∀ p, isByte (nth xs p)) : AllFit l ∧ writtenL l = xs.take (7 * l.length) := by
  have hbb : ∀ j i, isByte (nth (blk xs j) i) := fun j => bytes7 (blk_length _ _) fun i hi => by rw [blk_at _ _ _ hi]; exact hb _
  refine ⟨fun j hj => ?_, ?_⟩
  · rw [(h.good j hj).2]; exact op_fits (hbb j)
  · have hr := h.room
    refine List.ext_getElem (by rw [written_length, List.length_take]; omega) fun p h1 h2 => ?_
    rw [written_length] at h1
    have e : p = 7 * (p / 7) + p % 7 := by omega
    have hj : p / 7 < l.length := by omega
    have q := written_at l (p / 7) (p % 7) hj (by omega)
    obtain ⟨g1, g2⟩ := h.good _ hj
    rw [g2, seven_op (blk_length _ _) (hbb _) (by rw [blk_at _ _ _ (by omega)]; exact g1), blk_at _ _ _ (by omega), ← e] at q
    have hp : p < (writtenL l).length := by rw [written_length]; exact h1
    have hp2 : p < xs.length := by omega
    simp only [List.getElem_take]
    simpa [nth, List.getD, List.getElem?_eq_getElem hp, List.getElem?_eq_getElem hp2] using q

end Go.Proofs.Yteohpkicbkhpjaa
