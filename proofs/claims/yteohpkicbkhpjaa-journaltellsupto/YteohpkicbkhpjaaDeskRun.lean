/- What is done at a desk, in the case; what is refused. -/
import Derived.Test.YteohpkicbkhpjaaDeskBase
namespace Go.Proofs.Yteohpkicbkhpjaa
set_option linter.unusedVariables false
set_option maxRecDepth 4000

theorem desk_snoc (n : NetL) (roles : List (List Int)) : ∀ (os : List DOp) (d : DeskL) (o : DOp), deskPlay n roles d (os ++ [o]) = ((deskDo n roles (deskPlay n roles d os).1 o).1, (deskPlay n roles d os).2 ++ [(deskDo n roles (deskPlay n roles d os).1 o).2])
  | [], d, o => rfl
  | p :: os, d, o => by
    have := desk_snoc n roles os (deskDo n roles d p).1 o
    show ((deskPlay n roles (deskDo n roles d p).1 (os ++ [o])).1, _ :: (deskPlay n roles (deskDo n roles d p).1 (os ++ [o])).2) = _
    rw [this]; rfl
theorem desk_append (n : NetL) (roles : List (List Int)) : ∀ (xs : List DOp) (d : DeskL) (ys : List DOp), deskPlay n roles d (xs ++ ys) = ((deskPlay n roles (deskPlay n roles d xs).1 ys).1, (deskPlay n roles d xs).2 ++ (deskPlay n roles (deskPlay n roles d xs).1 ys).2)
  | [], d, ys => rfl
  | x :: xs, d, ys => by
    have := desk_append n roles xs (deskDo n roles d x).1 ys
    show ((deskPlay n roles (deskDo n roles d x).1 (xs ++ ys)).1, _ :: (deskPlay n roles (deskDo n roles d x).1 (xs ++ ys)).2) = _
    rw [this]; rfl
/-- The desk behind the first so many. -/
def deskAt (n : NetL) (roles : List (List Int)) (d : DeskL) (os : List DOp) (k : Nat) : DeskL := (deskPlay n roles d (os.take k)).1
theorem dop_snoc {os : List DOp} {k : Nat} (h : k < os.length) : os.take (k + 1) = os.take k ++ [dopAt os k] := by
  rw [List.take_add_one, List.getElem?_eq_getElem h, dopAt, List.getD_eq_getElem?_getD, List.getElem?_eq_getElem h]; rfl
theorem deskAt_succ (n : NetL) (roles : List (List Int)) (d : DeskL) {os : List DOp} {k : Nat} (h : k < os.length) : deskAt n roles d os (k + 1) = (deskDo n roles (deskAt n roles d os k) (dopAt os k)).1 := by
  unfold deskAt; rw [dop_snoc h, desk_snoc]
theorem deskAt_all (n : NetL) (roles : List (List Int)) (d : DeskL) {os : List DOp} {k : Nat} (h : os.length ≤ k) : deskAt n roles d os k = (deskPlay n roles d os).1 := by
  unfold deskAt; rw [List.take_of_length_le h]
theorem dop_parts {os : List DOp} {k : Nat} (h : k < os.length) : os = os.take k ++ (dopAt os k :: os.drop (k + 1)) := by
  have h1 := (List.take_append_drop k os).symm
  rw [List.drop_eq_getElem_cons h] at h1
  rw [dopAt, List.getD_eq_getElem?_getD, List.getElem?_eq_getElem h]; exact h1
theorem ans_at (n : NetL) (roles : List (List Int)) (d : DeskL) {os : List DOp} {k : Nat} (h : k < os.length) : dansAt (deskPlay n roles d os).2 k = (deskDo n roles (deskAt n roles d os k) (dopAt os k)).2 := by
  have e := dop_parts h
  have hl : (deskPlay n roles d (os.take k)).2.length = k := by rw [desk_length, List.length_take]; omega
  have : dansAt (deskPlay n roles d (os.take k ++ (dopAt os k :: os.drop (k + 1)))).2 k = (deskDo n roles (deskAt n roles d os k) (dopAt os k)).2 := by
    rw [desk_append]
    show dansAt ((deskPlay n roles d (os.take k)).2 ++ _) k = _
    unfold dansAt
    rw [List.getD_eq_getElem?_getD, List.getElem?_append_right (by omega), hl, Nat.sub_self]
    rfl
  rw [← e] at this
  exact this
/-- What was there is there at the end, with its transition. -/
theorem item_end (n : NetL) (roles : List (List Int)) (d : DeskL) {os : List DOp} {k j : Nat} (h : k ≤ os.length) (hj : j < (deskAt n roles d os k).items.length) :
    j < (deskPlay n roles d os).1.items.length ∧ (itemAt (deskPlay n roles d os).1.items j).tran = (itemAt (deskAt n roles d os k).items j).tran := by
  have e : deskPlay n roles d os = deskPlay n roles d (os.take k ++ os.drop k) := by rw [List.take_append_drop]
  rw [e, desk_append]
  exact items_play _ hj

/-- What was done, as things done in the case. -/
def doneTo (n : NetL) (roles : List (List Int)) (d : DeskL) (os : List DOp) : Nat → List (Int × Int)
  | 0 => []
  | k + 1 => doneTo n roles d os k ++ (if (deskDo n roles (deskAt n roles d os k) (dopAt os k)).2.err = 0 ∧ (dopAt os k).kind ≠ 4 then [caseOp (deskAt n roles d os k) (dopAt os k)] else [])
theorem doneTo_le (n : NetL) (roles : List (List Int)) (d : DeskL) (os : List DOp) : ∀ k, (doneTo n roles d os k).length ≤ k
  | 0 => Nat.le_refl _
  | k + 1 => by
    have := doneTo_le n roles d os k
    simp only [doneTo, List.length_append]
    split <;> simp <;> omega
theorem done_case (n : NetL) (roles : List (List Int)) (d : DeskL) (os : List DOp) : ∀ k, k ≤ os.length → (playC n d.case (doneTo n roles d os k)).1 = (deskAt n roles d os k).case ∧ ∀ e ∈ (playC n d.case (doneTo n roles d os k)).2, e = 0
  | 0, _ => ⟨rfl, fun e he => by cases he⟩
  | k + 1, hk => by
    obtain ⟨h1, h2⟩ := done_case n roles d os k (by omega)
    rw [deskAt_succ n roles d (by omega)]
    by_cases h0 : (deskDo n roles (deskAt n roles d os k) (dopAt os k)).2.err = 0
    · have hd := (desk_ok h0).1
      by_cases h4 : (dopAt os k).kind = 4
      · have e : doneTo n roles d os (k + 1) = doneTo n roles d os k := by simp [doneTo, h4]
        rw [e, hd.give h4]
        exact ⟨h1, h2⟩
      · have e : doneTo n roles d os (k + 1) = doneTo n roles d os k ++ [caseOp (deskAt n roles d os k) (dopAt os k)] := by simp [doneTo, h4, h0]
        have hdo := hd.done h4
        rw [e, play_snoc, h1]
        unfold stepC
        rw [hdo, if_pos rfl]
        refine ⟨rfl, fun e he => ?_⟩
        rcases List.mem_append.1 he with h | h
        · exact h2 e h
        · exact List.mem_singleton.1 h
    · have e : doneTo n roles d os (k + 1) = doneTo n roles d os k := by simp [doneTo, h0]
      rw [e, desk_err h0]
      exact ⟨h1, h2⟩

/-- What was not refused, and its answers. -/
def goodTo (n : NetL) (roles : List (List Int)) (d : DeskL) (os : List DOp) : Nat → List DOp × List DAns
  | 0 => ([], [])
  | k + 1 => if (deskDo n roles (deskAt n roles d os k) (dopAt os k)).2.err = 0 then ((goodTo n roles d os k).1 ++ [dopAt os k], (goodTo n roles d os k).2 ++ [(deskDo n roles (deskAt n roles d os k) (dopAt os k)).2]) else goodTo n roles d os k
theorem goodTo_le (n : NetL) (roles : List (List Int)) (d : DeskL) (os : List DOp) : ∀ k, (goodTo n roles d os k).1.length ≤ k ∧ (goodTo n roles d os k).2.length ≤ k
  | 0 => ⟨Nat.le_refl _, Nat.le_refl _⟩
  | k + 1 => by
    have := goodTo_le n roles d os k
    simp only [goodTo]
    split
    · simp; omega
    · omega
theorem good_same (n : NetL) (roles : List (List Int)) (d : DeskL) (os : List DOp) : ∀ k, k ≤ os.length → deskPlay n roles d (goodTo n roles d os k).1 = (deskAt n roles d os k, (goodTo n roles d os k).2)
  | 0, _ => rfl
  | k + 1, hk => by
    have h := good_same n roles d os k (by omega)
    rw [deskAt_succ n roles d (by omega)]
    by_cases h0 : (deskDo n roles (deskAt n roles d os k) (dopAt os k)).2.err = 0
    · have e : goodTo n roles d os (k + 1) = ((goodTo n roles d os k).1 ++ [dopAt os k], (goodTo n roles d os k).2 ++ [(deskDo n roles (deskAt n roles d os k) (dopAt os k)).2]) := by simp [goodTo, h0]
      rw [e]
      show deskPlay n roles d ((goodTo n roles d os k).1 ++ [dopAt os k]) = _
      rw [desk_snoc, h]
    · have e : goodTo n roles d os (k + 1) = goodTo n roles d os k := by simp [goodTo, h0]
      rw [e, desk_err h0]
      exact h

/-- Of what was done with an item: the item was there. -/
theorem done_item {n : NetL} {roles : List (List Int)} {d : DeskL} {o : DOp} (h : (deskDo n roles d o).2.err = 0) (hk : o.kind = 2 ∨ o.kind = 3) : ∃ k : Nat, o.item = k ∧ k < d.items.length ∧ (deskDo n roles d o).2.item = k := by
  obtain ⟨hd, ht⟩ := desk_ok h
  have he := hd.err
  unfold deskErr at he
  rw [if_neg (by omega), if_neg (by omega), if_neg (by omega)] at he
  by_cases hi : o.item < 0 ∨ (d.items.length : Int) ≤ o.item ∨ (itemAt d.items o.item.toNat).opn = false
  · rw [if_pos hi] at he; omega
  obtain ⟨k, ek⟩ := Int.eq_ofNat_of_zero_le (show 0 ≤ o.item by omega)
  refine ⟨k, ek, by omega, ?_⟩
  rw [ht]; unfold toldItem; rw [if_neg (by omega), if_neg (by omega)]; exact ek
theorem done_kind {n : NetL} {roles : List (List Int)} {d : DeskL} {o : DOp} (h : (deskDo n roles d o).2.err = 0) : 1 ≤ o.kind ∧ o.kind ≤ 5 := by
  have he := (desk_ok h).1.err
  unfold deskErr at he
  by_cases hk : o.kind < 1 ∨ 5 < o.kind
  · rw [if_pos hk] at he; omega
  · omega

end Go.Proofs.Yteohpkicbkhpjaa
