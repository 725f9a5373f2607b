/- Plain words for desks: work handed out to people. -/
import Derived.Test.YteohpkicbkhpjaaCaseBase
namespace Go.Proofs.Yteohpkicbkhpjaa
set_option linter.unusedVariables false
set_option maxRecDepth 4000

structure ItemL where
  user : Int
  tran : Int
  opn : Bool
structure DeskL where
  case : CaseL
  items : List ItemL
structure DOp where
  kind : Int
  user : Int
  tran : Int
  item : Int
  hand : Int
structure DAns where
  err : Int
  item : Int

def noItem : ItemL := ⟨0, 0, false⟩
def itemAt (l : List ItemL) (k : Nat) : ItemL := l.getD k noItem
def noDOp : DOp := ⟨0, 0, 0, 0, 0⟩
def dopAt (l : List DOp) (k : Nat) : DOp := l.getD k noDOp
def dansAt (l : List DAns) (k : Nat) : DAns := l.getD k ⟨0, 0⟩

/-- May this user do what has this label? -/
def mayL (roles : List (List Int)) (user label : Int) : Bool := decide (0 ≤ user) && decide (user < roles.length) && decide (user < 8) && (roles.getD user.toNat []).contains label
theorem may_iff {roles : List (List Int)} {user label : Int} : mayL roles user label = true ↔ ∃ u : Nat, user = u ∧ u < roles.length ∧ u < 8 ∧ label ∈ roles.getD u [] := by
  unfold mayL
  simp only [Bool.and_eq_true, decide_eq_true_eq, List.contains_iff_mem]
  constructor
  · rintro ⟨⟨⟨h0, h1⟩, h2⟩, h3⟩
    exact ⟨user.toNat, by omega, by omega, by omega, h3⟩
  · rintro ⟨u, rfl, h1, h2, h3⟩
    exact ⟨⟨⟨by omega, by omega⟩, by omega⟩, by simpa using h3⟩

/-- What a thing done at a desk does in the case: its kind there, and its transition. -/
def caseOp (d : DeskL) (o : DOp) : Int × Int :=
  if o.kind = 1 then (2, o.tran) else if o.kind = 2 then (3, (itemAt d.items o.item.toNat).tran) else if o.kind = 3 then (4, (itemAt d.items o.item.toNat).tran) else (1, o.tran)
/-- What it does to the items. -/
def newItems (d : DeskL) (o : DOp) : List ItemL :=
  if o.kind = 1 then d.items ++ [⟨o.user, o.tran, true⟩]
  else if o.kind = 2 ∨ o.kind = 3 then d.items.set o.item.toNat ⟨(itemAt d.items o.item.toNat).user, (itemAt d.items o.item.toNat).tran, false⟩
  else if o.kind = 4 then d.items.set o.item.toNat ⟨o.hand, (itemAt d.items o.item.toNat).tran, true⟩
  else d.items
/-- The item that it tells of. -/
def toldItem (d : DeskL) (o : DOp) : Int := if o.kind = 1 then d.items.length else if o.kind = 5 then 0 else o.item
/-- Why not, ahead of the case. -/
def deskErr (n : NetL) (roles : List (List Int)) (d : DeskL) (o : DOp) : Int :=
  if o.kind < 1 ∨ 5 < o.kind then 5
  else if o.kind = 5 then 0
  else if o.kind = 1 then
    (if o.tran < 0 ∨ (n.trans.length : Int) ≤ o.tran then 3 else if mayL roles o.user (tranAt n.trans o.tran.toNat).label then 0 else 6)
  else if o.item < 0 ∨ (d.items.length : Int) ≤ o.item ∨ (itemAt d.items o.item.toNat).opn = false then 3
  else if (itemAt d.items o.item.toNat).user ≠ o.user then 7
  else if o.kind = 4 ∧ mayL roles o.hand (tranAt n.trans (itemAt d.items o.item.toNat).tran.toNat).label = false then 6
  else 0
def deskDo (n : NetL) (roles : List (List Int)) (d : DeskL) (o : DOp) : DeskL × DAns :=
  if deskErr n roles d o ≠ 0 then (d, ⟨deskErr n roles d o, 0⟩)
  else if o.kind = 4 then (⟨d.case, newItems d o⟩, ⟨0, toldItem d o⟩)
  else if (doC n d.case (caseOp d o).1 (caseOp d o).2).2 ≠ 0 then (d, ⟨(doC n d.case (caseOp d o).1 (caseOp d o).2).2, 0⟩)
  else (⟨(doC n d.case (caseOp d o).1 (caseOp d o).2).1, newItems d o⟩, ⟨0, toldItem d o⟩)

theorem desk_err {n : NetL} {roles : List (List Int)} {d : DeskL} {o : DOp} (h : (deskDo n roles d o).2.err ≠ 0) : (deskDo n roles d o).1 = d := by
  unfold deskDo at h ⊢
  split
  · rfl
  · rename_i h1
    rw [if_neg h1] at h
    split
    · rename_i h2
      rw [if_pos h2] at h; exact absurd rfl h
    · rename_i h2
      rw [if_neg h2] at h
      split
      · rfl
      · rename_i h3
        rw [if_neg h3] at h; exact absurd rfl h

/-- It is done: what it takes. -/
structure DeskOk (n : NetL) (roles : List (List Int)) (d : DeskL) (o : DOp) (x : DeskL) : Prop where
  err : deskErr n roles d o = 0
  items : x.items = newItems d o
  give : o.kind = 4 → x.case = d.case
  done : o.kind ≠ 4 → doC n d.case (caseOp d o).1 (caseOp d o).2 = (x.case, 0)
theorem desk_ok {n : NetL} {roles : List (List Int)} {d : DeskL} {o : DOp} (h : (deskDo n roles d o).2.err = 0) : DeskOk n roles d o (deskDo n roles d o).1 ∧ (deskDo n roles d o).2.item = toldItem d o := by
  unfold deskDo at h ⊢
  by_cases h1 : deskErr n roles d o ≠ 0
  · rw [if_pos h1] at h; exact absurd h h1
  · rw [if_neg h1] at h ⊢
    by_cases h2 : o.kind = 4
    · rw [if_pos h2]; exact ⟨⟨by omega, rfl, fun _ => rfl, fun q => absurd h2 q⟩, rfl⟩
    · rw [if_neg h2] at h ⊢
      by_cases h3 : (doC n d.case (caseOp d o).1 (caseOp d o).2).2 ≠ 0
      · rw [if_pos h3] at h; exact absurd h h3
      · rw [if_neg h3]; exact ⟨⟨by omega, rfl, fun q => absurd q h2, fun _ => Prod.ext rfl (by omega)⟩, rfl⟩

/-- How many open items there are of a transition. -/
def cntI (t : Nat) (x : ItemL) : Nat := if x.opn = true ∧ x.tran = t then 1 else 0
theorem cnt_shut {t : Nat} {x : ItemL} (h : x.opn = false) : cntI t x = 0 := by simp [cntI, h]
theorem cnt_open {t a : Nat} {x : ItemL} (h : x.opn = true) (ha : x.tran = a) : cntI t x = if a = t then 1 else 0 := by
  unfold cntI
  by_cases e : a = t
  · rw [if_pos e, if_pos ⟨h, by omega⟩]
  · rw [if_neg e, if_neg (fun q => e (by have := q.2; omega))]
def openOf (t : Nat) : List ItemL → Nat
  | [] => 0
  | x :: l => cntI t x + openOf t l
theorem open_append (t : Nat) : ∀ (l m : List ItemL), openOf t (l ++ m) = openOf t l + openOf t m
  | [], m => by simp [openOf]
  | x :: l, m => by simp only [List.cons_append, openOf, open_append t l m]; omega
theorem open_set (t : Nat) (y : ItemL) : ∀ (l : List ItemL) (k : Nat), k < l.length → openOf t (l.set k y) + cntI t (itemAt l k) = openOf t l + cntI t y
  | [], k, h => absurd h (Nat.not_lt_zero _)
  | x :: l, 0, h => by
    show cntI t y + openOf t l + cntI t x = cntI t x + openOf t l + cntI t y
    omega
  | x :: l, k + 1, h => by
    have := open_set t y l k (by simpa using h)
    show cntI t x + openOf t (l.set k y) + cntI t (itemAt l k) = cntI t x + openOf t l + cntI t y
    omega

/-- What holds at a desk. -/
structure DeskInv (n : NetL) (roles : List (List Int)) (d : DeskL) : Prop where
  right : rightC n d.case = true
  may : ∀ k, k < d.items.length → ∃ t : Nat, (itemAt d.items k).tran = t ∧ t < n.trans.length ∧ mayL roles (itemAt d.items k).user (tranAt n.trans t).label = true
  busy : ∀ t, t < n.trans.length → nth d.case.busy t = openOf t d.items

theorem item_append_left {l m : List ItemL} {k : Nat} (h : k < l.length) : itemAt (l ++ m) k = itemAt l k := by
  unfold itemAt; rw [List.getD_eq_getElem?_getD, List.getD_eq_getElem?_getD, List.getElem?_append_left h]
theorem item_last (l : List ItemL) (x : ItemL) : itemAt (l ++ [x]) l.length = x := by
  unfold itemAt; rw [List.getD_eq_getElem?_getD, List.getElem?_append_right (Nat.le_refl _)]; simp
theorem item_set {l : List ItemL} {k j : Nat} {x : ItemL} (h : k < l.length) : itemAt (l.set k x) j = if j = k then x else itemAt l j := by
  unfold itemAt
  rw [List.getD_eq_getElem?_getD, List.getD_eq_getElem?_getD, List.getElem?_set]
  by_cases e : k = j
  · subst e; simp [h]
  · rw [if_neg e, if_neg (fun q => e q.symm)]

theorem DeskInv.step {n : NetL} {roles : List (List Int)} {d x : DeskL} {o : DOp} (h : DeskInv n roles d) (hd : DeskOk n roles d o x) : DeskInv n roles x := by
  have he := hd.err
  unfold deskErr at he
  by_cases k0 : o.kind < 1 ∨ 5 < o.kind
  · rw [if_pos k0] at he; omega
  rw [if_neg k0] at he
  obtain ⟨hf, hbl, _⟩ := rightC_iff.1 h.right
  by_cases k5 : o.kind = 5
  · obtain ⟨t, ht, hk⟩ := do_ok.1 (hd.done (by omega))
    have e1 : (caseOp d o).1 = 1 := by unfold caseOp; rw [if_neg (by omega), if_neg (by omega), if_neg (by omega)]
    rw [e1] at hk
    have ei : x.items = d.items := by rw [hd.items]; unfold newItems; rw [if_neg (by omega), if_neg (by omega), if_neg (by omega)]
    refine ⟨hk.right2, fun k hk' => by rw [ei] at hk' ⊢; exact h.may k hk', fun t' ht' => ?_⟩
    rw [ei, ← h.busy t' ht', hk.out]
    show nth (d.case.busy.set t _) t' = _
    rw [nth_set' _ _ _ _ (by rw [hbl]; exact hk.lt)]
    split
    · rename_i e; subst e; simp [moreC]
    · rfl
  rw [if_neg k5] at he
  by_cases k1 : o.kind = 1
  · rw [if_pos k1] at he
    by_cases ht : o.tran < 0 ∨ (n.trans.length : Int) ≤ o.tran
    · rw [if_pos ht] at he; omega
    rw [if_neg ht] at he
    obtain ⟨t, et⟩ := Int.eq_ofNat_of_zero_le (show 0 ≤ o.tran by omega)
    cases hm : mayL roles o.user (tranAt n.trans o.tran.toNat).label with
    | false => rw [hm] at he; exact absurd he (by decide)
    | true =>
      obtain ⟨t2, ht2, hk⟩ := do_ok.1 (hd.done (by omega))
      have e1 : caseOp d o = (2, o.tran) := by unfold caseOp; rw [if_pos k1]
      rw [e1] at hk ht2
      obtain rfl : t2 = t := by simp only at ht2; omega
      simp only at hk
      have ei : x.items = d.items ++ [⟨o.user, o.tran, true⟩] := by rw [hd.items]; unfold newItems; rw [if_pos k1]
      refine ⟨hk.right2, fun k hk' => ?_, fun t' ht' => ?_⟩
      · rw [ei] at hk' ⊢
        by_cases hkl : k < d.items.length
        · rw [item_append_left hkl]; exact h.may k hkl
        · obtain rfl : k = d.items.length := by simp at hk'; omega
          rw [item_last]
          exact ⟨t2, et, hk.lt, by rw [et] at hm; simpa using hm⟩
      · rw [ei, open_append, hk.out]
        show nth (d.case.busy.set t2 _) t' = _
        rw [nth_set' _ _ _ _ (by rw [hbl]; exact hk.lt)]
        have hb := h.busy t' ht'
        have hc : openOf t' [⟨o.user, o.tran, true⟩] = if t2 = t' then 1 else 0 := by
          show cntI t' ⟨o.user, o.tran, true⟩ + 0 = _
          rw [cnt_open (a := t2) rfl et]; rfl
        rw [hc]
        by_cases e : t' = t2
        · subst e
          rw [if_pos rfl, if_pos rfl, hb]
          simp [moreC]
        · rw [if_neg e, if_neg (fun q => e q.symm), hb]; rfl
  rw [if_neg k1] at he
  by_cases hi : o.item < 0 ∨ (d.items.length : Int) ≤ o.item ∨ (itemAt d.items o.item.toNat).opn = false
  · rw [if_pos hi] at he; omega
  rw [if_neg hi] at he
  obtain ⟨k, ek⟩ := Int.eq_ofNat_of_zero_le (show 0 ≤ o.item by omega)
  have hkn : o.item.toNat = k := by omega
  rw [hkn] at hi he
  have hkl : k < d.items.length := by omega
  have hopn : (itemAt d.items k).opn = true := by
    cases q : (itemAt d.items k).opn with
    | true => rfl
    | false => exact absurd (.inr (.inr q)) hi
  obtain ⟨t, et, htl, hmay⟩ := h.may k hkl
  by_cases hu : (itemAt d.items k).user ≠ o.user
  · rw [if_pos hu] at he; omega
  rw [if_neg hu] at he
  by_cases k4 : o.kind = 4
  · by_cases hm : o.kind = 4 ∧ mayL roles o.hand (tranAt n.trans (itemAt d.items k).tran.toNat).label = false
    · rw [if_pos hm] at he; omega
    have hm' : mayL roles o.hand (tranAt n.trans t).label = true := by
      cases q : mayL roles o.hand (tranAt n.trans t).label with
      | true => rfl
      | false => exact absurd ⟨k4, by rw [et]; simpa using q⟩ hm
    have ei : x.items = d.items.set k ⟨o.hand, (itemAt d.items k).tran, true⟩ := by rw [hd.items]; unfold newItems; rw [if_neg k1, if_neg (by omega), if_pos k4, hkn]
    have ec := hd.give k4
    refine ⟨by rw [ec]; exact h.right, fun j hj => ?_, fun t' ht' => ?_⟩
    · rw [ei] at hj ⊢
      rw [item_set hkl]
      by_cases e : j = k
      · rw [if_pos e]; exact ⟨t, et, htl, hm'⟩
      · rw [if_neg e]; exact h.may j (by simpa using hj)
    · have := open_set t' ⟨o.hand, (itemAt d.items k).tran, true⟩ d.items k hkl
      rw [cnt_open (a := t) hopn et, cnt_open (a := t) (x := ⟨o.hand, (itemAt d.items k).tran, true⟩) rfl et] at this
      rw [ei, ec, h.busy t' ht']
      omega
  · have ei : x.items = d.items.set k ⟨(itemAt d.items k).user, (itemAt d.items k).tran, false⟩ := by rw [hd.items]; unfold newItems; rw [if_neg k1, if_pos (by omega), hkn]
    obtain ⟨t2, ht2, hk⟩ := do_ok.1 (hd.done k4)
    have e1 : (caseOp d o).2 = (itemAt d.items k).tran ∧ moreC (caseOp d o).1 = -1 := by
      unfold caseOp
      rw [if_neg k1]
      by_cases k2 : o.kind = 2
      · rw [if_pos k2, hkn]; exact ⟨rfl, by simp [moreC]⟩
      · rw [if_neg k2, if_pos (by omega), hkn]; exact ⟨rfl, by simp [moreC]⟩
    obtain rfl : t2 = t := by rw [e1.1, et] at ht2; omega
    refine ⟨hk.right2, fun j hj => ?_, fun t' ht' => ?_⟩
    · rw [ei] at hj ⊢
      rw [item_set hkl]
      by_cases e : j = k
      · rw [if_pos e]; exact ⟨t2, et, htl, hmay⟩
      · rw [if_neg e]; exact h.may j (by simpa using hj)
    · have := open_set t' ⟨(itemAt d.items k).user, (itemAt d.items k).tran, false⟩ d.items k hkl
      rw [cnt_open (a := t2) hopn et, cnt_shut rfl] at this
      rw [ei, hk.out]
      show nth (d.case.busy.set t2 _) t' = _
      rw [nth_set' _ _ _ _ (by rw [hbl]; exact hk.lt), e1.2]
      have hb := h.busy t' ht'
      by_cases e : t' = t2
      · subst e
        rw [if_pos rfl] at this ⊢
        rw [hb]
        omega
      · rw [if_neg e, hb]
        rw [if_neg (fun q => e q.symm)] at this
        omega

/-- One behind the other. -/
def deskPlay (n : NetL) (roles : List (List Int)) : DeskL → List DOp → DeskL × List DAns
  | d, [] => (d, [])
  | d, o :: os => ((deskPlay n roles (deskDo n roles d o).1 os).1, (deskDo n roles d o).2 :: (deskPlay n roles (deskDo n roles d o).1 os).2)
theorem desk_length (n : NetL) (roles : List (List Int)) : ∀ (os : List DOp) (d : DeskL), (deskPlay n roles d os).2.length = os.length
  | [], _ => rfl
  | o :: os, d => by
    show ((deskDo n roles d o).2 :: (deskPlay n roles (deskDo n roles d o).1 os).2).length = _
    rw [List.length_cons, desk_length n roles os, List.length_cons]
theorem DeskInv.play {n : NetL} {roles : List (List Int)} : ∀ (os : List DOp) {d : DeskL}, DeskInv n roles d → DeskInv n roles (deskPlay n roles d os).1
  | [], _, h => h
  | o :: os, d, h => by
    show DeskInv n roles (deskPlay n roles (deskDo n roles d o).1 os).1
    refine DeskInv.play os ?_
    by_cases e : (deskDo n roles d o).2.err = 0
    · exact h.step (desk_ok e).1
    · rw [desk_err e]; exact h
def deskBegin (n : NetL) (i : Int) : DeskL := ⟨(beginC n i).1, []⟩
theorem desk_begin {n : NetL} {i : Int} (roles : List (List Int)) (h : (beginC n i).2 = 0) : DeskInv n roles (deskBegin n i) := by
  obtain ⟨h1, hn, h2⟩ := begin_right h
  refine ⟨h1, fun k hk => absurd hk (Nat.not_lt_zero _), fun t ht => ?_⟩
  show nth (beginC n i).1.busy t = _
  rw [begin_ok hn h2]
  show nth (zerosL _) t = _
  rw [zeros_at]; rfl
def noDesk : DeskL := ⟨noCase, []⟩
def deskAll (n : NetL) (i : Int) (roles : List (List Int)) (os : List DOp) : DeskL × List DAns × Int :=
  if (beginC n i).2 = 0 then ((deskPlay n roles (deskBegin n i) os).1, (deskPlay n roles (deskBegin n i) os).2, 0) else (noDesk, [], (beginC n i).2)

/-- The items only grow, and each keeps its transition. -/
theorem items_keep {n : NetL} {roles : List (List Int)} (o : DOp) {d : DeskL} {k : Nat} (h : k < d.items.length) : k < (deskDo n roles d o).1.items.length ∧ (itemAt (deskDo n roles d o).1.items k).tran = (itemAt d.items k).tran := by
  by_cases e : (deskDo n roles d o).2.err = 0
  · have hd := (desk_ok e).1
    rw [hd.items]
    unfold newItems
    split
    · rw [item_append_left h]; exact ⟨by simp; omega, rfl⟩
    · split
      · refine ⟨by simpa using h, ?_⟩
        by_cases hl : o.item.toNat < d.items.length
        · rw [item_set hl]; split
          · rename_i e; rw [e]
          · rfl
        · rw [List.set_eq_of_length_le (by omega)]
      · split
        · refine ⟨by simpa using h, ?_⟩
          by_cases hl : o.item.toNat < d.items.length
          · rw [item_set hl]; split
            · rename_i e; rw [e]
            · rfl
          · rw [List.set_eq_of_length_le (by omega)]
        · exact ⟨h, rfl⟩
  · rw [desk_err e]; exact ⟨h, rfl⟩
theorem items_play {n : NetL} {roles : List (List Int)} : ∀ (os : List DOp) {d : DeskL} {k : Nat}, k < d.items.length → k < (deskPlay n roles d os).1.items.length ∧ (itemAt (deskPlay n roles d os).1.items k).tran = (itemAt d.items k).tran
  | [], _, _, h => ⟨h, rfl⟩
  | o :: os, d, k, h => by
    obtain ⟨h1, h2⟩ := items_keep (n := n) (roles := roles) o h
    obtain ⟨h3, h4⟩ := items_play os h1
    exact ⟨h3, h4.trans h2⟩

end Go.Proofs.Yteohpkicbkhpjaa
