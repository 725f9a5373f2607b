import Derived.Test.YtaladbcocealnaaGr04
import Derived.Test.YtaladbcocealnaaGr00
import Derived.Laws.ResultCell
/- Plain words for desks: work handed out to people. -/
namespace Go.Proofs.Ytaladbcocealnaa
set_option linter.unusedVariables false
set_option maxRecDepth 4000

structure ItemL where
  user : Int
  tran : Int
  opn : Bool
structure DeskL where
  case : CaseL
  items : List ItemL
structure DOp where
  kind : Int
  user : Int
  tran : Int
  item : Int
  hand : Int
structure DAns where
  err : Int
  item : Int

def noItem : ItemL := ⟨0, 0, false⟩
def itemAt (l : List ItemL) (k : Nat) : ItemL := l.getD k noItem
def noDOp : DOp := ⟨0, 0, 0, 0, 0⟩
def dopAt (l : List DOp) (k : Nat) : DOp := l.getD k noDOp
def dansAt (l : List DAns) (k : Nat) : DAns := l.getD k ⟨0, 0⟩

/-- May this user do what has this label? -/
def mayL (roles : List (List Int)) (user label : Int) : Bool := decide (0 ≤ user) && decide (user < roles.length) && decide (user < 8) && (roles.getD user.toNat []).contains label
theorem may_iff {roles : List (List Int)} {user label : Int} : mayL roles user label = true ↔ ∃ u : Nat, user = u ∧ u < roles.length ∧ u < 8 ∧ label ∈ roles.getD u [] := by
  unfold mayL
  simp only [Bool.and_eq_true, decide_eq_true_eq, List.contains_iff_mem]
  constructor
  · rintro ⟨⟨⟨h0, h1⟩, h2⟩, h3⟩
    exact ⟨user.toNat, by omega, by omega, by omega, h3⟩
  · rintro ⟨u, rfl, h1, h2, h3⟩
    exact ⟨⟨⟨by omega, by omega⟩, by omega⟩, by simpa using h3⟩

/-- What a thing done at a desk does in the case: its kind there, and its transition. -/
def caseOp (d : DeskL) (o : DOp) : Int × Int :=
  if o.kind = 1 then (2, o.tran) else if o.kind = 2 then (3, (itemAt d.items o.item.toNat).tran) else if o.kind = 3 then (4, (itemAt d.items o.item.toNat).tran) else (1, o.tran)
/-- What it does to the items. -/
def newItems (d : DeskL) (o : DOp) : List ItemL :=
  if o.kind = 1 then d.items ++ [⟨o.user, o.tran, true⟩]
  else if o.kind = 2 ∨ o.kind = 3 then d.items.set o.item.toNat ⟨(itemAt d.items o.item.toNat).user, (itemAt d.items o.item.toNat).tran, false⟩
  else if o.kind = 4 then d.items.set o.item.toNat ⟨o.hand, (itemAt d.items o.item.toNat).tran, true⟩
  else d.items
/-- The item that it tells of. -/
def toldItem (d : DeskL) (o : DOp) : Int := if o.kind = 1 then d.items.length else if o.kind = 5 then 0 else o.item
/-- Why not, ahead of the case. -/
def deskErr (n : NetL) (roles : List (List Int)) (d : DeskL) (o : DOp) : Int :=
  if o.kind < 1 ∨ 5 < o.kind then 5
  else if o.kind = 5 then 0
  else if o.kind = 1 then
    (if o.tran < 0 ∨ (n.trans.length : Int) ≤ o.tran then 3 else if mayL roles o.user (tranAt n.trans o.tran.toNat).label then 0 else 6)
  else if o.item < 0 ∨ (d.items.length : Int) ≤ o.item ∨ (itemAt d.items o.item.toNat).opn = false then 3
  else if (itemAt d.items o.item.toNat).user ≠ o.user then 7
  else if o.kind = 4 ∧ mayL roles o.hand (tranAt n.trans (itemAt d.items o.item.toNat).tran.toNat).label = false then 6
  else 0
def deskDo (n : NetL) (roles : List (List Int)) (d : DeskL) (o : DOp) : DeskL × DAns :=
  if deskErr n roles d o ≠ 0 then (d, ⟨deskErr n roles d o, 0⟩)
  else if o.kind = 4 then (⟨d.case, newItems d o⟩, ⟨0, toldItem d o⟩)
  else if (doC n d.case (caseOp d o).1 (caseOp d o).2).2 ≠ 0 then (d, ⟨(doC n d.case (caseOp d o).1 (caseOp d o).2).2, 0⟩)
  else (⟨(doC n d.case (caseOp d o).1 (caseOp d o).2).1, newItems d o⟩, ⟨0, toldItem d o⟩)

theorem desk_err {n : NetL} {roles : List (List Int)} {d : DeskL} {o : DOp} (h : (deskDo n roles d o).2.err ≠ 0) : (deskDo n roles d o).1 = d := by
  unfold deskDo at h ⊢
  split
  · rfl
  · rename_i h1
    rw [if_neg h1] at h
    split
    · rename_i h2
      rw [if_pos h2] at h; exact absurd rfl h
    · rename_i h2
      rw [if_neg h2] at h
      split
      · rfl
      · rename_i h3
        rw [if_neg h3] at h; exact absurd rfl h

/-- It is done: what it takes. -/
structure DeskOk (n : NetL) (roles : List (List Int)) (d : DeskL) (o : DOp) (x : DeskL) : Prop where
  err : deskErr n roles d o = 0
  items : x.items = newItems d o
  give : o.kind = 4 → x.case = d.case
  done : o.kind ≠ 4 → doC n d.case (caseOp d o).1 (caseOp d o).2 = (x.case, 0)
theorem desk_ok {n : NetL} {roles : List (List Int)} {d : DeskL} {o : DOp} (h : (deskDo n roles d o).2.err = 0) : DeskOk n roles d o (deskDo n roles d o).1 ∧ (deskDo n roles d o).2.item = toldItem d o := by
  unfold deskDo at h ⊢
  by_cases h1 : deskErr n roles d o ≠ 0
  · rw [if_pos h1] at h; exact absurd h h1
  · rw [if_neg h1] at h ⊢
    by_cases h2 : o.kind = 4
    · rw [if_pos h2]; exact ⟨⟨by omega, rfl, fun _ => rfl, fun q => absurd h2 q⟩, rfl⟩
    · rw [if_neg h2] at h ⊢
      by_cases h3 : (doC n d.case (caseOp d o).1 (caseOp d o).2).2 ≠ 0
      · rw [if_pos h3] at h; exact absurd h h3
      · rw [if_neg h3]; exact ⟨⟨by omega, rfl, fun q => absurd q h2, fun _ => Prod.ext rfl (by omega)⟩, rfl⟩

/-- How many open items there are of a transition. -/
def cntI (t : Nat) (x : ItemL) : Nat := if x.opn = true ∧ x.tran = t then 1 else 0
theorem cnt_shut {t : Nat} {x : ItemL} (h : x.opn = false) : cntI t x = 0 := by simp [cntI, h]
theorem cnt_open {t a : Nat} {x : ItemL} (h : x.opn = true) (ha : x.tran = a) : cntI t x = if a = t then 1 else 0 := by
  unfold cntI
  by_cases e : a = t
  · rw [if_pos e, if_pos ⟨h, by omega⟩]
  · rw [if_neg e, if_neg (fun q => e (by have := q.2; omega))]
def openOf (t : Nat) : List ItemL → Nat
  | [] => 0
  | x :: l => cntI t x + openOf t l
theorem open_append (t : Nat) : ∀ (l m : List ItemL), openOf t (l ++ m) = openOf t l + openOf t m
  | [], m => by simp [openOf]
  | x :: l, m => by simp only [List.cons_append, openOf, open_append t l m]; omega
theorem open_set (t : Nat) (y : ItemL) : ∀ (l : List ItemL) (k : Nat), k < l.length → openOf t (l.set k y) + cntI t (itemAt l k) = openOf t l + cntI t y
  | [], k, h => absurd h (Nat.not_lt_zero _)
  | x :: l, 0, h => by
    show cntI t y + openOf t l + cntI t x = cntI t x + openOf t l + cntI t y
    omega
  | x :: l, k + 1, h => by
    have := open_set t y l k (by simpa using h)
    show cntI t x + openOf t (l.set k y) + cntI t (itemAt l k) = cntI t x + openOf t l + cntI t y
    omega

/-- What holds at a desk. -/
structure DeskInv (n : NetL) (roles : List (List Int)) (d : DeskL) : Prop where
  right : rightC n d.case = true
  may : ∀ k, k < d.items.length → ∃ t : Nat, (itemAt d.items k).tran = t ∧ t < n.trans.length ∧ mayL roles (itemAt d.items k).user (tranAt n.trans t).label = true
  busy : ∀ t, t < n.trans.length → nth d.case.busy t = openOf t d.items

theorem item_append_left {l m : List ItemL} {k : Nat} (h : k < l.length) : itemAt (l ++ m) k = itemAt l k := by
  unfold itemAt; rw [List.getD_eq_getElem?_getD, List.getD_eq_getElem?_getD, List.getElem?_append_left h]
theorem item_last (l : List ItemL) (x : ItemL) : itemAt (l ++ [x]) l.length = x := by
  unfold itemAt; rw [List.getD_eq_getElem?_getD, List.getElem?_append_right (Nat.le_refl _)]; simp
theorem item_set {l : List ItemL} {k j : Nat} {x : ItemL} (h : k < l.length) : itemAt (l.set k x) j = if j = k then x else itemAt l j := by
  unfold itemAt
  rw [List.getD_eq_getElem?_getD, List.getD_eq_getElem?_getD, List.getElem?_set]
  by_cases e : k = j
  · subst e; simp [h]
  · rw [if_neg e, if_neg (fun q => e q.symm)]

theorem DeskInv.step {n : NetL} {roles : List (List Int)} {d x : DeskL} {o : DOp} (h : DeskInv n roles d) (hd : DeskOk n roles d o x) : DeskInv n roles x := by
  have he := hd.err
  unfold deskErr at he
  by_cases k0 : o.kind < 1 ∨ 5 < o.kind
  · rw [if_pos k0] at he; omega
  rw [if_neg k0] at he
  obtain ⟨hf, hbl, _⟩ := rightC_iff.1 h.right
  by_cases k5 : o.kind = 5
  · obtain ⟨t, ht, hk⟩ := do_ok.1 (hd.done (by omega))
    have e1 : (caseOp d o).1 = 1 := by unfold caseOp; rw [if_neg (by omega), if_neg (by omega), if_neg (by omega)]
    rw [e1] at hk
    have ei : x.items = d.items := by rw [hd.items]; unfold newItems; rw [if_neg (by omega), if_neg (by omega), if_neg (by omega)]
    refine ⟨hk.right2, fun k hk' => by rw [ei] at hk' ⊢; exact h.may k hk', fun t' ht' => ?_⟩
    rw [ei, ← h.busy t' ht', hk.out]
    show nth (d.case.busy.set t _) t' = _
    rw [nth_set' _ _ _ _ (by rw [hbl]; exact hk.lt)]
    split
    · rename_i e; subst e; simp [moreC]
    · rfl
  rw [if_neg k5] at he
  by_cases k1 : o.kind = 1
  · rw [if_pos k1] at he
    by_cases ht : o.tran < 0 ∨ (n.trans.length : Int) ≤ o.tran
    · rw [if_pos ht] at he; omega
    rw [if_neg ht] at he
    obtain ⟨t, et⟩ := Int.eq_ofNat_of_zero_le (show 0 ≤ o.tran by omega)
    cases hm : mayL roles o.user (tranAt n.trans o.tran.toNat).label with
    | false => rw [hm] at he; exact absurd he (by decide)
    | true =>
      obtain ⟨t2, ht2, hk⟩ := do_ok.1 (hd.done (by omega))
      have e1 : caseOp d o = (2, o.tran) := by unfold caseOp; rw [if_pos k1]
      rw [e1] at hk ht2
      obtain rfl : t2 = t := by simp only at ht2; omega
      simp only at hk
      have ei : x.items = d.items ++ [⟨o.user, o.tran, true⟩] := by rw [hd.items]; unfold newItems; rw [if_pos k1]
      refine ⟨hk.right2, fun k hk' => ?_, fun t' ht' => ?_⟩
      · rw [ei] at hk' ⊢
        by_cases hkl : k < d.items.length
        · rw [item_append_left hkl]; exact h.may k hkl
        · obtain rfl : k = d.items.length := by simp at hk'; omega
          rw [item_last]
          exact ⟨t2, et, hk.lt, by rw [et] at hm; simpa using hm⟩
      · rw [ei, open_append, hk.out]
        show nth (d.case.busy.set t2 _) t' = _
        rw [nth_set' _ _ _ _ (by rw [hbl]; exact hk.lt)]
        have hb := h.busy t' ht'
        have hc : openOf t' [⟨o.user, o.tran, true⟩] = if t2 = t' then 1 else 0 := by
          show cntI t' ⟨o.user, o.tran, true⟩ + 0 = _
          rw [cnt_open (a := t2) rfl et]; rfl
        rw [hc]
        by_cases e : t' = t2
        · subst e
          rw [if_pos rfl, if_pos rfl, hb]
          simp [moreC]
        · rw [if_neg e, if_neg (fun q => e q.symm), hb]; rfl
  rw [if_neg k1] at he
  by_cases hi : o.item < 0 ∨ (d.items.length : Int) ≤ o.item ∨ (itemAt d.items o.item.toNat).opn = false
  · rw [if_pos hi] at he; omega
  rw [if_neg hi] at he
  obtain ⟨k, ek⟩ := Int.eq_ofNat_of_zero_le (show 0 ≤ o.item by omega)
  have hkn : o.item.toNat = k := by omega
  rw [hkn] at hi he
  have hkl : k < d.items.length := by omega
  have hopn : (itemAt d.items k).opn = true := by
    cases q : (itemAt d.items k).opn with
    | true => rfl
    | false => exact absurd (.inr (.inr q)) hi
  obtain ⟨t, et, htl, hmay⟩ := h.may k hkl
  by_cases hu : (itemAt d.items k).user ≠ o.user
  · rw [if_pos hu] at he; omega
  rw [if_neg hu] at he
  by_cases k4 : o.kind = 4
  · by_cases hm : o.kind = 4 ∧ mayL roles o.hand (tranAt n.trans (itemAt d.items k).tran.toNat).label = false
    · rw [if_pos hm] at he; omega
    have hm' : mayL roles o.hand (tranAt n.trans t).label = true := by
      cases q : mayL roles o.hand (tranAt n.trans t).label with
      | true => rfl
      | false => exact absurd ⟨k4, by rw [et]; simpa using q⟩ hm
    have ei : x.items = d.items.set k ⟨o.hand, (itemAt d.items k).tran, true⟩ := by rw [hd.items]; unfold newItems; rw [if_neg k1, if_neg (by omega), if_pos k4, hkn]
    have ec := hd.give k4
    refine ⟨by rw [ec]; exact h.right, fun j hj => ?_, fun t' ht' => ?_⟩
    · rw [ei] at hj ⊢
      rw [item_set hkl]
      by_cases e : j = k
      · rw [if_pos e]; exact ⟨t, et, htl, hm'⟩
      · rw [if_neg e]; exact h.may j (by simpa using hj)
    · have := open_set t' ⟨o.hand, (itemAt d.items k).tran, true⟩ d.items k hkl
      rw [cnt_open (a := t) hopn et, cnt_open (a := t) (x := ⟨o.hand, (itemAt d.items k).tran, true⟩) rfl et] at this
      rw [ei, ec, h.busy t' ht']
      omega
  · have ei : x.items = d.items.set k ⟨(itemAt d.items k).user, (itemAt d.items k).tran, false⟩ := by rw [hd.items]; unfold newItems; rw [if_neg k1, if_pos (by omega), hkn]
    obtain ⟨t2, ht2, hk⟩ := do_ok.1 (hd.done k4)
    have e1 : (caseOp d o).2 = (itemAt d.items k).tran ∧ moreC (caseOp d o).1 = -1 := by
      unfold caseOp
      rw [if_neg k1]
      by_cases k2 : o.kind = 2
      · rw [if_pos k2, hkn]; exact ⟨rfl, by simp [moreC]⟩
      · rw [if_neg k2, if_pos (by omega), hkn]; exact ⟨rfl, by simp [moreC]⟩
    obtain rfl : t2 = t := by rw [e1.1, et] at ht2; omega
    refine ⟨hk.right2, fun j hj => ?_, fun t' ht' => ?_⟩
    · rw [ei] at hj ⊢
      rw [item_set hkl]
      by_cases e : j = k
      · rw [if_pos e]; exact ⟨t2, et, htl, hmay⟩
      · rw [if_neg e]; exact h.may j (by simpa using hj)
    · have := open_set t' ⟨(itemAt d.items k).user, (itemAt d.items k).tran, false⟩ d.items k hkl
      rw [cnt_open (a := t2) hopn et, cnt_shut rfl] at this
      rw [ei, hk.out]
      show nth (d.case.busy.set t2 _) t' = _
      rw [nth_set' _ _ _ _ (by rw [hbl]; exact hk.lt), e1.2]
      have hb := h.busy t' ht'
      by_cases e : t' = t2
      · subst e
        rw [if_pos rfl] at this ⊢
        rw [hb]
        omega
      · rw [if_neg e, hb]
        rw [if_neg (fun q => e q.symm)] at this
        omega

/-- One behind the other. -/
def deskPlay (n : NetL) (roles : List (List Int)) : DeskL → List DOp → DeskL × List DAns
  | d, [] => (d, [])
  | d, o :: os => ((deskPlay n roles (deskDo n roles d o).1 os).1, (deskDo n roles d o).2 :: (deskPlay n roles (deskDo n roles d o).1 os).2)
theorem desk_length (n : NetL) (roles : List (List Int)) : ∀ (os : List DOp) (d : DeskL), (deskPlay n roles d os).2.length = os.length
  | [], _ => rfl
  | o :: os, d => by
    show ((deskDo n roles d o).2 :: (deskPlay n roles (deskDo n roles d o).1 os).2).length = _
    rw [List.length_cons, desk_length n roles os, List.length_cons]
theorem DeskInv.play {n : NetL} {roles : List (List Int)} : ∀ (os : List DOp) {d : DeskL}, DeskInv n roles d → DeskInv n roles (deskPlay n roles d os).1
  | [], _, h => h
  | o :: os, d, h => by
    show DeskInv n roles (deskPlay n roles (deskDo n roles d o).1 os).1
    refine DeskInv.play os ?_
    by_cases e : (deskDo n roles d o).2.err = 0
    · exact h.step (desk_ok e).1
    · rw [desk_err e]; exact h
def deskBegin (n : NetL) (i : Int) : DeskL := ⟨(beginC n i).1, []⟩
theorem desk_begin {n : NetL} {i : Int} (roles : List (List Int)) (h : (beginC n i).2 = 0) : DeskInv n roles (deskBegin n i) := by
  obtain ⟨h1, hn, h2⟩ := begin_right h
  refine ⟨h1, fun k hk => absurd hk (Nat.not_lt_zero _), fun t ht => ?_⟩
  show nth (beginC n i).1.busy t = _
  rw [begin_ok hn h2]
  show nth (zerosL _) t = _
  rw [zeros_at]; rfl
def noDesk : DeskL := ⟨noCase, []⟩
def deskAll (n : NetL) (i : Int) (roles : List (List Int)) (os : List DOp) : DeskL × List DAns × Int :=
  if (beginC n i).2 = 0 then ((deskPlay n roles (deskBegin n i) os).1, (deskPlay n roles (deskBegin n i) os).2, 0) else (noDesk, [], (beginC n i).2)

/-- The items only grow, and each keeps its transition. -/
theorem items_keep {n : NetL} {roles : List (List Int)} (o : DOp) {d : DeskL} {k : Nat} (h : k < d.items.length) : k < (deskDo n roles d o).1.items.length ∧ (itemAt (deskDo n roles d o).1.items k).tran = (itemAt d.items k).tran := by
  by_cases e : (deskDo n roles d o).2.err = 0
  · have hd := (desk_ok e).1
    rw [hd.items]
    unfold newItems
    split
    · rw [item_append_left h]; exact ⟨by simp; omega, rfl⟩
    · split
      · refine ⟨by simpa using h, ?_⟩
        by_cases hl : o.item.toNat < d.items.length
        · rw [item_set hl]; split
          · rename_i e; rw [e]
          · rfl
        · rw [List.set_eq_of_length_le (by omega)]
      · split
        · refine ⟨by simpa using h, ?_⟩
          by_cases hl : o.item.toNat < d.items.length
          · rw [item_set hl]; split
            · rename_i e; rw [e]
            · rfl
          · rw [List.set_eq_of_length_le (by omega)]
        · exact ⟨h, rfl⟩
  · rw [desk_err e]; exact ⟨h, rfl⟩
theorem items_play {n : NetL} {roles : List (List Int)} : ∀ (os : List DOp) {d : DeskL} {k : Nat}, k < d.items.length → k < (deskPlay n roles d os).1.items.length ∧ (itemAt (deskPlay n roles d os).1.items k).tran = (itemAt d.items k).tran
  | [], _, _, h => ⟨h, rfl⟩
  | o :: os, d, k, h => by
    obtain ⟨h1, h2⟩ := items_keep (n := n) (roles := roles) o h
    obtain ⟨h3, h4⟩ := items_play os h1
    exact ⟨h3, h4.trans h2⟩

end Go.Proofs.Ytaladbcocealnaa

/- What is done at a desk, in the case; what is refused. -/
namespace Go.Proofs.Ytaladbcocealnaa
set_option linter.unusedVariables false
set_option maxRecDepth 4000

theorem desk_snoc (n : NetL) (roles : List (List Int)) : ∀ (os : List DOp) (d : DeskL) (o : DOp), deskPlay n roles d (os ++ [o]) = ((deskDo n roles (deskPlay n roles d os).1 o).1, (deskPlay n roles d os).2 ++ [(deskDo n roles (deskPlay n roles d os).1 o).2])
  | [], d, o => rfl
  | p :: os, d, o => by
    have := desk_snoc n roles os (deskDo n roles d p).1 o
    show ((deskPlay n roles (deskDo n roles d p).1 (os ++ [o])).1, _ :: (deskPlay n roles (deskDo n roles d p).1 (os ++ [o])).2) = _
    rw [this]; rfl
theorem desk_append (n : NetL) (roles : List (List Int)) : ∀ (xs : List DOp) (d : DeskL) (ys : List DOp), deskPlay n roles d (xs ++ ys) = ((deskPlay n roles (deskPlay n roles d xs).1 ys).1, (deskPlay n roles d xs).2 ++ (deskPlay n roles (deskPlay n roles d xs).1 ys).2)
  | [], d, ys => rfl
  | x :: xs, d, ys => by
    have := desk_append n roles xs (deskDo n roles d x).1 ys
    show ((deskPlay n roles (deskDo n roles d x).1 (xs ++ ys)).1, _ :: (deskPlay n roles (deskDo n roles d x).1 (xs ++ ys)).2) = _
    rw [this]; rfl
/-- The desk behind the first so many. -/
def deskAt (n : NetL) (roles : List (List Int)) (d : DeskL) (os : List DOp) (k : Nat) : DeskL := (deskPlay n roles d (os.take k)).1
theorem dop_snoc {os : List DOp} {k : Nat} (h : k < os.length) : os.take (k + 1) = os.take k ++ [dopAt os k] := by
  rw [List.take_add_one, List.getElem?_eq_getElem h, dopAt, List.getD_eq_getElem?_getD, List.getElem?_eq_getElem h]; rfl
theorem deskAt_succ (n : NetL) (roles : List (List Int)) (d : DeskL) {os : List DOp} {k : Nat} (h : k < os.length) : deskAt n roles d os (k + 1) = (deskDo n roles (deskAt n roles d os k) (dopAt os k)).1 := by
  unfold deskAt; rw [dop_snoc h, desk_snoc]
theorem deskAt_all (n : NetL) (roles : List (List Int)) (d : DeskL) {os : List DOp} {k : Nat} (h : os.length ≤ k) : deskAt n roles d os k = (deskPlay n roles d os).1 := by
  unfold deskAt; rw [List.take_of_length_le h]
theorem dop_parts {os : List DOp} {k : Nat} (h : k < os.length) : os = os.take k ++ (dopAt os k :: os.drop (k + 1)) := by
  have h1 := (List.take_append_drop k os).symm
  rw [List.drop_eq_getElem_cons h] at h1
  rw [dopAt, List.getD_eq_getElem?_getD, List.getElem?_eq_getElem h]; exact h1
theorem ans_at (n : NetL) (roles : List (List Int)) (d : DeskL) {os : List DOp} {k : Nat} (h : k < os.length) : dansAt (deskPlay n roles d os).2 k = (deskDo n roles (deskAt n roles d os k) (dopAt os k)).2 := by
  have e := dop_parts h
  have hl : (deskPlay n roles d (os.take k)).2.length = k := by rw [desk_length, List.length_take]; omega
  have : dansAt (deskPlay n roles d (os.take k ++ (dopAt os k :: os.drop (k + 1)))).2 k = (deskDo n roles (deskAt n roles d os k) (dopAt os k)).2 := by
    rw [desk_append]
    show dansAt ((deskPlay n roles d (os.take k)).2 ++ _) k = _
    unfold dansAt
    rw [List.getD_eq_getElem?_getD, List.getElem?_append_right (by omega), hl, Nat.sub_self]
    rfl
  rw [← e] at this
  exact this
/-- What was there is there at the end, with its transition. -/
theorem item_end (n : NetL) (roles : List (List Int)) (d : DeskL) {os : List DOp} {k j : Nat} (h : k ≤ os.length) (hj : j < (deskAt n roles d os k).items.length) :
    j < (deskPlay n roles d os).1.items.length ∧ (itemAt (deskPlay n roles d os).1.items j).tran = (itemAt (deskAt n roles d os k).items j).tran := by
  have e : deskPlay n roles d os = deskPlay n roles d (os.take k ++ os.drop k) := by rw [List.take_append_drop]
  rw [e, desk_append]
  exact items_play _ hj

/-- What was done, as things done in the case. -/
def doneTo (n : NetL) (roles : List (List Int)) (d : DeskL) (os : List DOp) : Nat → List (Int × Int)
  | 0 => []
  | k + 1 => doneTo n roles d os k ++ (if (deskDo n roles (deskAt n roles d os k) (dopAt os k)).2.err = 0 ∧ (dopAt os k).kind ≠ 4 then [caseOp (deskAt n roles d os k) (dopAt os k)] else [])
theorem doneTo_le (n : NetL) (roles : List (List Int)) (d : DeskL) (os : List DOp) : ∀ k, (doneTo n roles d os k).length ≤ k
  | 0 => Nat.le_refl _
  | k + 1 => by
    have := doneTo_le n roles d os k
    simp only [doneTo, List.length_append]
    split <;> simp <;> omega
theorem done_case (n : NetL) (roles : List (List Int)) (d : DeskL) (os : List DOp) : ∀ k, k ≤ os.length → (playC n d.case (doneTo n roles d os k)).1 = (deskAt n roles d os k).case ∧ ∀ e ∈ (playC n d.case (doneTo n roles d os k)).2, e = 0
  | 0, _ => ⟨rfl, fun e he => by cases he⟩
  | k + 1, hk => by
    obtain ⟨h1, h2⟩ := done_case n roles d os k (by omega)
    rw [deskAt_succ n roles d (by omega)]
    by_cases h0 : (deskDo n roles (deskAt n roles d os k) (dopAt os k)).2.err = 0
    · have hd := (desk_ok h0).1
      by_cases h4 : (dopAt os k).kind = 4
      · have e : doneTo n roles d os (k + 1) = doneTo n roles d os k := by simp [doneTo, h4]
        rw [e, hd.give h4]
        exact ⟨h1, h2⟩
      · have e : doneTo n roles d os (k + 1) = doneTo n roles d os k ++ [caseOp (deskAt n roles d os k) (dopAt os k)] := by simp [doneTo, h4, h0]
        have hdo := hd.done h4
        rw [e, play_snoc, h1]
        unfold stepC
        rw [hdo, if_pos rfl]
        refine ⟨rfl, fun e he => ?_⟩
        rcases List.mem_append.1 he with h | h
        · exact h2 e h
        · exact List.mem_singleton.1 h
    · have e : doneTo n roles d os (k + 1) = doneTo n roles d os k := by simp [doneTo, h0]
      rw [e, desk_err h0]
      exact ⟨h1, h2⟩

/-- What was not refused, and its answers. -/
def goodTo (n : NetL) (roles : List (List Int)) (d : DeskL) (os : List DOp) : Nat → List DOp × List DAns
  | 0 => ([], [])
  | k + 1 => if (deskDo n roles (deskAt n roles d os k) (dopAt os k)).2.err = 0 then ((goodTo n roles d os k).1 ++ [dopAt os k], (goodTo n roles d os k).2 ++ [(deskDo n roles (deskAt n roles d os k) (dopAt os k)).2]) else goodTo n roles d os k
theorem goodTo_le (n : NetL) (roles : List (List Int)) (d : DeskL) (os : List DOp) : ∀ k, (goodTo n roles d os k).1.length ≤ k ∧ (goodTo n roles d os k).2.length ≤ k
  | 0 => ⟨Nat.le_refl _, Nat.le_refl _⟩
  | k + 1 => by
    have := goodTo_le n roles d os k
    simp only [goodTo]
    split
    · simp; omega
    · omega
theorem good_same (n : NetL) (roles : List (List Int)) (d : DeskL) (os : List DOp) : ∀ k, k ≤ os.length → deskPlay n roles d (goodTo n roles d os k).1 = (deskAt n roles d os k, (goodTo n roles d os k).2)
  | 0, _ => rfl
  | k + 1, hk => by
    have h := good_same n roles d os k (by omega)
    rw [deskAt_succ n roles d (by omega)]
    by_cases h0 : (deskDo n roles (deskAt n roles d os k) (dopAt os k)).2.err = 0
    · have e : goodTo n roles d os (k + 1) = ((goodTo n roles d os k).1 ++ [dopAt os k], (goodTo n roles d os k).2 ++ [(deskDo n roles (deskAt n roles d os k) (dopAt os k)).2]) := by simp [goodTo, h0]
      rw [e]
      show deskPlay n roles d ((goodTo n roles d os k).1 ++ [dopAt os k]) = _
      rw [desk_snoc, h]
    · have e : goodTo n roles d os (k + 1) = goodTo n roles d os k := by simp [goodTo, h0]
      rw [e, desk_err h0]
      exact h

/-- Of what was done with an item: the item was there. -/
theorem done_item {n : NetL} {roles : List (List Int)} {d : DeskL} {o : DOp} (h : (deskDo n roles d o).2.err = 0) (hk : o.kind = 2 ∨ o.kind = 3) : ∃ k : Nat, o.item = k ∧ k < d.items.length ∧ (deskDo n roles d o).2.item = k := by
  obtain ⟨hd, ht⟩ := desk_ok h
  have he := hd.err
  unfold deskErr at he
  rw [if_neg (by omega), if_neg (by omega), if_neg (by omega)] at he
  by_cases hi : o.item < 0 ∨ (d.items.length : Int) ≤ o.item ∨ (itemAt d.items o.item.toNat).opn = false
  · rw [if_pos hi] at he; omega
  obtain ⟨k, ek⟩ := Int.eq_ofNat_of_zero_le (show 0 ≤ o.item by omega)
  refine ⟨k, ek, by omega, ?_⟩
  rw [ht]; unfold toldItem; rw [if_neg (by omega), if_neg (by omega)]; exact ek
theorem done_kind {n : NetL} {roles : List (List Int)} {d : DeskL} {o : DOp} (h : (deskDo n roles d o).2.err = 0) : 1 ≤ o.kind ∧ o.kind ≤ 5 := by
  have he := (desk_ok h).1.err
  unfold deskErr at he
  by_cases hk : o.kind < 1 ∨ 5 < o.kind
  · rw [if_pos hk] at he; omega
  · omega

end Go.Proofs.Ytaladbcocealnaa

/- Cases in memory; a box that a case is answered from. -/
namespace Go.Proofs.Ytaladbcocealnaa
open Go.RowKit
set_option linter.unusedVariables false
set_option maxRecDepth 4000

theorem len_of_ints {w : World} {a : Option Addr} {l c : Nat} {xs : List Int} (h : Ints w (.slice a l c) xs) : xs.length = l := by
  obtain ⟨a', l', c', e, h, _⟩ := h
  injection e with _ e2 _
  rw [h, e2]

/-- A value that is this case. -/
def CaseV (w : World) (v : Value) (c : CaseL) : Prop := ∃ a l p a' l' p', v = .agg #[.slice a l p, .slice a' l' p'] ∧ Ints w (.slice a l p) c.mark ∧ Ints w (.slice a' l' p') c.busy
theorem CaseV.below {w w' : World} {v : Value} {c : CaseL} (h : CaseV w v c) (hb : Below w.heap.size w w') : CaseV w' v c := by
  obtain ⟨a, l, p, a', l', p', e, h1, h2⟩ := h
  exact ⟨a, l, p, a', l', p', e, h1.below hb, h2.below hb⟩
theorem CaseV.mk' {w : World} {mv bv : Value} {ms bs : List Int} (h1 : Ints w mv ms) (h2 : Ints w bv bs) : CaseV w (.agg #[mv, bv]) ⟨ms, bs⟩ := by
  obtain ⟨a, l, p, rfl, _⟩ := id h1
  obtain ⟨a', l', p', rfl, _⟩ := id h2
  exact ⟨a, l, p, a', l', p', rfl, h1, h2⟩
theorem CaseV.none (w : World) : CaseV w (.agg #[.slice none 0 0, .slice none 0 0]) noCase := CaseV.mk' (Ints.nil w) (Ints.nil w)

/-- What a call answers that makes a case, or tells why not. -/
def GivesC (w : World) (p : CaseL × Int) (e : Ending) (w' : World) : Prop := ∃ r, e = .returned (.tuple #[r, .int .i64 p.2]) ∧ CaseV w' r p.1 ∧ Below w.heap.size w w'
theorem givesC_of {w w' : World} {r : Value} {p : CaseL × Int} {c : CaseL} {d : Int} (hp : p = (c, d)) (hr : CaseV w' r c) (hb : Below w.heap.size w w') : GivesC w p (.returned (.tuple #[r, .int .i64 d])) w' := by
  subst hp; exact ⟨r, rfl, hr, hb⟩

/-- A cell that holds a slice is none that numbers are read from. -/
theorem Ints.putS {w : World} {v : Value} {xs : List Int} {p : Addr} {a : Option Addr} {l c : Nat} (h : Ints w v xs) (hp : w.cell? p = some (.slice a l c)) (u : Value) : Ints (w.setCell p u) v xs := by
  obtain ⟨a', len, cap, e, hl, hm, hs, hr⟩ := h
  refine ⟨a', len, cap, e, hl, hm, hs, fun j hj => ?_⟩
  obtain ⟨b, off, ha, hb, hc⟩ := hr j hj
  refine ⟨b, off, ha, by simpa [World.setCell] using hb, ?_⟩
  rw [World.cell?_setCell_other _ _ _ _ (by intro e; rw [← e, hp] at hc; cases hc)]
  exact hc

/-- A box of two slices that the call itself has made, at block R. -/
structure ResC (w : World) (R : Nat) (a : Option Addr) (l c : Nat) (a' : Option Addr) (l' c' : Nat) : Prop where
  cells : w.heap[R]? = some (.cells #[.slice a l c, .slice a' l' c'] 29 (0, 0))
theorem ResC.below {w w' : World} {R : Nat} {a a' : Option Addr} {l c l' c' : Nat} (h : ResC w R a l c a' l' c') (hb : Below w.heap.size w w') : ResC w' R a l c a' l' c' :=
  ⟨(hb.block R (Array.getElem?_eq_some_iff.1 h.cells).1).trans h.cells⟩
theorem ResC.facts {w : World} {R : Nat} {a a' : Option Addr} {l c l' c' : Nat} (h : ResC w R a l c a' l' c') :
    w.cell? ⟨R, 0, none⟩ = some (.slice a l c) ∧ w.cell? ⟨R, 1, none⟩ = some (.slice a' l' c') ∧ w.frozen? ⟨R, 0, none⟩ = false ∧ w.frozen? ⟨R, 1, none⟩ = false ∧ R < w.heap.size := by
  have e := h.cells
  exact ⟨by simp [World.cell?, e], by simp [World.cell?, e], by simp [World.frozen?, e], by simp [World.frozen?, e], (Array.getElem?_eq_some_iff.1 e).1⟩
theorem resC_new (w : World) : ResC (w.alloc (.cells #[.slice none 0 0, .slice none 0 0] 29)) w.heap.size none 0 0 none 0 0 := ⟨by
  show (w.heap.push _)[w.heap.size]? = _
  simp⟩

/-- It is filled. -/
theorem ResC.fill {w W w0 : World} {B R : Nat} {a a' : Option Addr} {l c l' c' : Nat} {mv bv : Value} {ms bs : List Int} (h : ResC w R a l c a' l' c') (hb : Below B w0 w) (hR : B ≤ R)
    (hW : (w.setCell ⟨R, 0, none⟩ mv).setCell ⟨R, 1, none⟩ bv = W) (hm : Ints w mv ms) (hv : Ints w bv bs) :
    W.cell? ⟨R, 0, none⟩ = some mv ∧ W.cell? ⟨R, 1, none⟩ = some bv ∧ CaseV W (.agg #[mv, bv]) ⟨ms, bs⟩ ∧ Below B w0 W := by
  obtain ⟨q1, q2, _, _, _⟩ := h.facts
  have e : (w.setCell ⟨R, 0, none⟩ mv).cell? ⟨R, 1, none⟩ = some (.slice a' l' c') := by rw [World.cell?_setCell_other _ _ _ _ (by simp)]; exact q2
  subst hW
  refine ⟨?_, ?_, CaseV.mk' ((hm.putS q1 _).putS e _) ((hv.putS q1 _).putS e _), (hb.setCell (p := ⟨R, 0, none⟩) hR _).setCell (p := ⟨R, 1, none⟩) hR _⟩
  · rw [World.cell?_setCell_other _ _ _ _ (by simp)]
    exact World.cell?_setCell_same _ _ _ q1
  · exact World.cell?_setCell_same _ _ _ e

theorem results_case {fn : Func} {p u : Tmp} {tmps : Array Value} {w : World} {b : Nat} {x y v : Value} (h : fn.results = #[.cell p 29, .tmp u]) (hp : tmps.getD p undef = .pointer (some ⟨b, 0, none⟩)) (hu : tmps.getD u undef = v) (h1 : w.cell? ⟨b, 0, none⟩ = some x) (h2 : w.cell? ⟨b, 1, none⟩ = some y) :
    (results fn tmps).run Try.prog w = .ok (.tuple #[.agg #[x, y], v]) w := by
  rw [results_cell_tmp h, hp, hu]
  simp [asAddr, go_sem, h1, h2]

end Go.Proofs.Ytaladbcocealnaa

/- Plain words for the net with a place for each work; what is done in a case is a run of it. -/
namespace Go.Proofs.Ytaladbcocealnaa
set_option linter.unusedVariables false
set_option maxRecDepth 4000

/-- How many of the first so many transitions have a label. -/
def seenTo (ts : List TranL) : Nat → Nat
  | 0 => 0
  | k + 1 => seenTo ts k + (if (tranAt ts k).label = 0 then 0 else 1)
theorem seen_le (ts : List TranL) : ∀ k, seenTo ts k ≤ k
  | 0 => Nat.le_refl _
  | k + 1 => by have := seen_le ts k; simp only [seenTo]; split <;> omega
theorem seen_mono (ts : List TranL) {a b : Nat} (h : a ≤ b) : seenTo ts a ≤ seenTo ts b := by
  induction b with
  | zero => obtain rfl : a = 0 := by omega
            exact Nat.le_refl _
  | succ b ih =>
    by_cases e : a = b + 1
    · subst e; exact Nat.le_refl _
    · have := ih (by omega); simp only [seenTo]; omega
theorem seen_lt (ts : List TranL) {a b : Nat} (h : a < b) (hl : (tranAt ts a).label ≠ 0) : seenTo ts a < seenTo ts b := by
  have h1 : seenTo ts (a + 1) = seenTo ts a + 1 := by simp [seenTo, hl]
  have h2 := seen_mono ts (show a + 1 ≤ b by omega)
  omega
theorem seen_onto (ts : List TranL) : ∀ (m k : Nat), k < seenTo ts m → ∃ t, t < m ∧ (tranAt ts t).label ≠ 0 ∧ seenTo ts t = k
  | 0, k, h => absurd h (Nat.not_lt_zero _)
  | m + 1, k, h => by
    by_cases hk : k < seenTo ts m
    · obtain ⟨t, h1, h2⟩ := seen_onto ts m k hk
      exact ⟨t, by omega, h2⟩
    · simp only [seenTo] at h
      by_cases hl : (tranAt ts m).label = 0
      · rw [if_pos hl] at h; omega
      · rw [if_neg hl] at h
        exact ⟨m, by omega, hl, by omega⟩

def oneAt (S k : Nat) : List Int := mapTo S fun j => if j = k then 1 else 0
theorem one_length (S k : Nat) : (oneAt S k).length = S := mapTo_length _ _
theorem one_at {S k j : Nat} (h : j < S) : nth (oneAt S k) j = if j = k then 1 else 0 := mapTo_nth _ _ _ h

/-- What becomes of a transition: itself, or two, with a place between. -/
def busyT (P S k : Nat) (t : TranL) : List TranL :=
  if t.label = 0 then [⟨0, t.pre ++ zerosL S, t.post ++ zerosL S⟩]
  else [⟨0, t.pre ++ zerosL S, zerosL P ++ oneAt S k⟩, ⟨t.label, zerosL P ++ oneAt S k, t.post ++ zerosL S⟩]
def busyTo (ts : List TranL) (P S : Nat) : Nat → List TranL
  | 0 => []
  | m + 1 => busyTo ts P S m ++ busyT P S (seenTo ts m) (tranAt ts m)
theorem busyTo_length (ts : List TranL) (P S : Nat) : ∀ m, (busyTo ts P S m).length = m + seenTo ts m
  | 0 => rfl
  | m + 1 => by
    simp only [busyTo, seenTo, List.length_append, busyTo_length ts P S m, busyT]
    split
    · simp; omega
    · simp; omega
/-- The net with a place for each work. -/
def busyN (n : NetL) : NetL × Int :=
  if netOk n then
    (if n.places + (seenTo n.trans n.trans.length : Int) > 16 ∨ n.trans.length + seenTo n.trans n.trans.length > 24 then (⟨0, []⟩, 4)
     else (⟨n.places + (seenTo n.trans n.trans.length : Int), busyTo n.trans n.places.toNat (seenTo n.trans n.trans.length) n.trans.length⟩, 0))
  else (⟨0, []⟩, 2)
theorem busy_bad {n : NetL} (h : netOk n = false) : busyN n = (⟨0, []⟩, 2) := by simp [busyN, h]
theorem busy_full {n : NetL} (h : netOk n = true) (hf : n.places + (seenTo n.trans n.trans.length : Int) > 16 ∨ n.trans.length + seenTo n.trans n.trans.length > 24) : busyN n = (⟨0, []⟩, 4) := by simp [busyN, h, hf]
theorem busy_ok {n : NetL} (h : netOk n = true) (hf : ¬ (n.places + (seenTo n.trans n.trans.length : Int) > 16 ∨ n.trans.length + seenTo n.trans n.trans.length > 24)) :
    busyN n = (⟨n.places + (seenTo n.trans n.trans.length : Int), busyTo n.trans n.places.toNat (seenTo n.trans n.trans.length) n.trans.length⟩, 0) := by unfold busyN; rw [if_pos h, if_neg hf]

theorem tran_at_append {xs ys : List TranL} {j : Nat} (h : xs.length ≤ j) : tranAt (xs ++ ys) j = tranAt ys (j - xs.length) := by
  unfold tranAt
  rw [List.getD_eq_getElem?_getD, List.getD_eq_getElem?_getD, List.getElem?_append_right h]
theorem tran_at_left {xs ys : List TranL} {j : Nat} (h : j < xs.length) : tranAt (xs ++ ys) j = tranAt xs j := by
  unfold tranAt
  rw [List.getD_eq_getElem?_getD, List.getD_eq_getElem?_getD, List.getElem?_append_left h]
/-- Where each one lies. -/
theorem busyTo_at (ts : List TranL) (P S : Nat) {t : Nat} : ∀ {m : Nat}, t < m → ∀ j, j < (busyT P S (seenTo ts t) (tranAt ts t)).length → t + seenTo ts t + j < (busyTo ts P S m).length ∧ tranAt (busyTo ts P S m) (t + seenTo ts t + j) = tranAt (busyT P S (seenTo ts t) (tranAt ts t)) j
  | 0, h => absurd h (Nat.not_lt_zero _)
  | m + 1, h => by
    intro j hj
    by_cases e : t = m
    · subst e
      have hl := busyTo_length ts P S t
      simp only [busyTo, List.length_append]
      refine ⟨by omega, ?_⟩
      rw [tran_at_append (by omega), show t + seenTo ts t + j - (busyTo ts P S t).length = j by omega]
    · obtain ⟨h1, h2⟩ := busyTo_at ts P S (show t < m by omega) j hj
      simp only [busyTo, List.length_append]
      exact ⟨by omega, by rw [tran_at_left h1]; exact h2⟩

theorem nth_app {xs ys : List Int} {j : Nat} : nth (xs ++ ys) j = if j < xs.length then nth xs j else nth ys (j - xs.length) := by
  unfold nth
  rw [List.getD_eq_getElem?_getD, List.getD_eq_getElem?_getD, List.getD_eq_getElem?_getD]
  split
  · rename_i h; rw [List.getElem?_append_left h]
  · rename_i h; rw [List.getElem?_append_right (by omega)]

/-- The case is the mark. -/
structure Sim (n : NetL) (P S : Nat) (c : CaseL) (m : List Int) : Prop where
  len : m.length = P + S
  place : ∀ p, p < P → nth m p = nth c.mark p
  work : ∀ t, t < n.trans.length → (tranAt n.trans t).label ≠ 0 → nth m (P + seenTo n.trans t) = nth c.busy t
  none : ∀ t, t < n.trans.length → (tranAt n.trans t).label = 0 → nth c.busy t = 0

/-- What both nets are. -/
structure BusyOk (n : NetL) (P S : Nat) (b : NetL) : Prop where
  ok : netOk n = true
  places : n.places = (P : Int)
  seen : S = seenTo n.trans n.trans.length
  p16 : P + S ≤ 16
  t24 : n.trans.length + S ≤ 24
  net : b = ⟨((P + S : Nat) : Int), busyTo n.trans P S n.trans.length⟩

theorem busy_some {n : NetL} (h : (busyN n).2 = 0) : ∃ P S, BusyOk n P S (busyN n).1 := by
  cases hn : netOk n with
  | false => rw [busy_bad hn] at h; cases h
  | true =>
    by_cases hf : n.places + (seenTo n.trans n.trans.length : Int) > 16 ∨ n.trans.length + seenTo n.trans n.trans.length > 24
    · rw [busy_full hn hf] at h; cases h
    · have hp : 0 ≤ n.places := by
        unfold netOk headOk at hn
        simp only [Bool.and_eq_true, decide_eq_true_eq] at hn
        omega
      exact ⟨n.places.toNat, seenTo n.trans n.trans.length, hn, by omega, rfl, by omega, by omega, by
        rw [busy_ok hn hf]
        show NetL.mk (n.places + (seenTo n.trans n.trans.length : Int)) _ = _
        rw [show n.places + (seenTo n.trans n.trans.length : Int) = ((n.places.toNat + seenTo n.trans n.trans.length : Nat) : Int) by omega]⟩

theorem BusyOk.ok_net {n b : NetL} {P S : Nat} (h : BusyOk n P S b) : netOk b = true := by
  have hw : ∀ k, k < n.trans.length → (tranAt n.trans k).pre.all weightOk = true ∧ (tranAt n.trans k).post.all weightOk = true ∧ 0 ≤ (tranAt n.trans k).label ∧ (tranAt n.trans k).label ≤ 26 ∧ (tranAt n.trans k).pre.length = P ∧ (tranAt n.trans k).post.length = P := fun k hk => by
    have h1 := net_tran h.ok hk
    have h2 := h.places
    simp only [tranOk, tranHead, Bool.and_eq_true, beq_iff_eq, decide_eq_true_eq, List.all_append] at h1
    exact ⟨h1.2.1, h1.2.2, h1.1.1.1.1, h1.1.1.1.2, by omega, by omega⟩
  have hz : ∀ k, (zerosL k).all weightOk = true := fun k => by
    rw [List.all_eq_true]
    intro x hx
    rw [show x = 0 from (List.mem_replicate.1 hx).2]; rfl
  have ho : ∀ k j, (oneAt k j).all weightOk = true := fun k j => by
    rw [List.all_eq_true]
    intro x hx
    unfold oneAt mapTo at hx
    obtain ⟨i, _, rfl⟩ := List.mem_map.1 hx
    split <;> rfl
  have hT : ∀ m, m ≤ n.trans.length → (busyTo n.trans P S m).all (tranOk ((P + S : Nat) : Int)) = true := by
    intro m
    induction m with
    | zero => intro _; rfl
    | succ m ih =>
      intro hm
      obtain ⟨w1, w2, l1, l2, e1, e2⟩ := hw m (by omega)
      simp only [busyTo, List.all_append, Bool.and_eq_true]
      refine ⟨ih (by omega), ?_⟩
      unfold busyT
      split
      · simp [tranOk, tranHead, List.all_append, w1, w2, hz, e1, e2, zeros_length]
      · simp [tranOk, tranHead, List.all_append, w1, w2, hz, ho, e1, e2, zeros_length, one_length, l1, l2]
  rw [h.net]
  unfold netOk headOk
  simp only [Bool.and_eq_true, decide_eq_true_eq]
  have := h.p16
  have := h.t24
  have hs := h.seen
  exact ⟨⟨⟨by omega, by omega⟩, by rw [busyTo_length]; omega⟩, hT _ (Nat.le_refl _)⟩

theorem BusyOk.seen_lt {n b : NetL} {P S : Nat} (h : BusyOk n P S b) {t : Nat} (ht : t < n.trans.length) (hl : (tranAt n.trans t).label ≠ 0) : seenTo n.trans t < S := by
  rw [h.seen]; exact Proofs.Ytaladbcocealnaa.seen_lt n.trans ht hl

/-- What a firing of the wider net is. -/
theorem BusyOk.fire {n b : NetL} {P S : Nat} (h : BusyOk n P S b) {c c' : CaseL} {m : List Int} {k : Nat} {j : Nat} {pr po : List Int} (hs : Sim n P S c m) (hlt : k + seenTo n.trans k + j < b.trans.length)
    (ht : tranAt b.trans (k + seenTo n.trans k + j) = ⟨(tranAt b.trans (k + seenTo n.trans k + j)).label, pr, po⟩)
    (hm0 : ∀ q, 0 ≤ nth m q ∧ nth m q ≤ 1000000)
    (hcov : ∀ q, nth pr q ≤ nth m q) (hr : ∀ q, 0 ≤ nth m q - nth pr q + nth po q ∧ nth m q - nth pr q + nth po q ≤ 1000000)
    (h1 : ∀ p, p < P → nth c'.mark p = nth c.mark p - nth pr p + nth po p)
    (h2 : ∀ t, t < n.trans.length → (tranAt n.trans t).label ≠ 0 → nth c'.busy t = nth c.busy t - nth pr (P + seenTo n.trans t) + nth po (P + seenTo n.trans t))
    (h3 : ∀ t, t < n.trans.length → (tranAt n.trans t).label = 0 → nth c'.busy t = 0) (hlr : pr.length = P + S) (hlo : po.length = P + S) :
    ∃ m', fireL b m ((k + seenTo n.trans k + j : Nat) : Int) = (m', 0) ∧ Sim n P S c' m' := by
  have hbp : b.places = ((P + S : Nat) : Int) := by rw [h.net]
  have e1 : (tranAt b.trans (k + seenTo n.trans k + j)).pre = pr := by rw [ht]
  have e2 : (tranAt b.trans (k + seenTo n.trans k + j)).post = po := by rw [ht]
  refine ⟨_, fire_mk hlt (fits_mk h.ok_net (by rw [hs.len, hbp]) ((rightL_iff _).2 hm0)) ((coversL_iff _ _).2 fun q => by rw [e1]; exact hcov q) ((rightL_iff _).2 fun q => ?_), ?_⟩
  · rw [add_at, sub_at, e1, e2]; exact hr q
  · refine ⟨by rw [add_length, sub_length, hs.len, e1, e2, hlr, hlo]; omega, fun p hp => ?_, fun t htl hl => ?_, h3⟩
    · rw [add_at, sub_at, e1, e2, h1 p hp, hs.place p hp]
    · rw [add_at, sub_at, e1, e2, h2 t htl hl, hs.work t htl hl]

theorem Sim.bounds {n b : NetL} {P S : Nat} {c : CaseL} {m : List Int} (h : BusyOk n P S b) (hs : Sim n P S c m) (hr : rightC n c = true) : ∀ q, 0 ≤ nth m q ∧ nth m q ≤ 1000000 := by
  obtain ⟨hf, _, hb⟩ := rightC_iff.1 hr
  have hm := (rightL_iff _).1 (fits_net hf).2.2
  have hbb := (rightL_iff _).1 hb
  intro q
  by_cases h1 : q < P
  · rw [hs.place q h1]; exact hm q
  · by_cases h2 : q < P + S
    · obtain ⟨t, ht, hl, e⟩ := seen_onto n.trans n.trans.length (q - P) (by rw [← h.seen]; omega)
      have := hs.work t ht hl
      rw [e, show P + (q - P) = q by omega] at this
      rw [this]; exact hbb t
    · rw [nth_past _ _ (by rw [hs.len]; omega)]; omega

/-- One thing done, that is no giving back, is one firing. -/
theorem Sim.step {n b : NetL} {P S : Nat} {c x : CaseL} {m : List Int} {kind : Int} {k : Nat} (h : BusyOk n P S b) (hs : Sim n P S c m) (hd : DoOk n c kind k x) (h4 : kind ≠ 4) :
    ∃ m', fireL b m ((k + seenTo n.trans k + (if kind = 3 then 1 else 0) : Nat) : Int) = (m', 0) ∧ Sim n P S x m' := by
  obtain ⟨hf, hbl, hbr⟩ := rightC_iff.1 hd.right
  obtain ⟨hf2, _, hbr2⟩ := rightC_iff.1 hd.right2
  obtain ⟨hn, hml, hmr⟩ := fits_net hf
  have hm0 := hs.bounds h hd.right
  have hpl : (tranAt n.trans k).pre.length = P := by have := (tran_length hn hd.lt).1; have := h.places; omega
  have hql : (tranAt n.trans k).post.length = P := by have := (tran_length hn hd.lt).2; have := h.places; omega
  have hxm := (rightL_iff _).1 (fits_net hf2).2.2
  have hxb := (rightL_iff _).1 hbr2
  have hcov := (coversL_iff _ _).1 hd.covers
  have hmore := hd.more
  have hx := hd.out
  have hbt : b.trans = busyTo n.trans P S n.trans.length := by rw [h.net]
  have hk1 := hd.kind1
  have hk4 := hd.kind4
  have hdlt := hd.lt
  have prew := (rightL_iff _).1 (tran_right (net_tran hn hd.lt)).1
  have postw := (rightL_iff _).1 (tran_right (net_tran hn hd.lt)).2
  have hbusy : ∀ t, nth x.busy t = if t = k then nth c.busy k + moreC kind else nth c.busy t := fun t => by
    rw [hx]; exact nth_set' _ _ _ _ (by rw [hbl]; exact hd.lt)
  have hmark : ∀ p, nth x.mark p = nth c.mark p - nth (takeC (tranAt n.trans k) kind) p + nth (giveC (tranAt n.trans k) kind) p := fun p => by
    rw [hx]; show nth (addL (subL _ _) _) p = _; rw [add_at, sub_at]
  have wide : ∀ (l : List Int), l.length = P → ∀ q, nth (l ++ zerosL S) q = nth l q := fun l hl q => by
    rw [nth_app]; split
    · rfl
    · rw [zeros_at, nth_past _ _ (by omega)]
  have behind : ∀ q, nth (zerosL P ++ oneAt S (seenTo n.trans k)) q = if P ≤ q ∧ q < P + S ∧ q = P + seenTo n.trans k then 1 else 0 := fun q => by
    rw [nth_app, zeros_length]
    by_cases h1 : q < P
    · rw [if_pos h1, zeros_at, if_neg (by omega)]
    · rw [if_neg h1]
      by_cases h2 : q < P + S
      · rw [one_at (by omega)]
        by_cases h3 : q = P + seenTo n.trans k
        · rw [if_pos (by omega), if_pos (by omega)]
        · rw [if_neg (by omega), if_neg (by omega)]
      · rw [nth_past _ _ (by rw [one_length]; omega), if_neg (by omega)]
  have inj : ∀ t, t < n.trans.length → (tranAt n.trans t).label ≠ 0 → (tranAt n.trans k).label ≠ 0 → seenTo n.trans t = seenTo n.trans k → t = k := fun t ht hl hlk e => by
    rcases Nat.lt_trichotomy t k with h1 | h1 | h1
    · have := Proofs.Ytaladbcocealnaa.seen_lt n.trans h1 hl; omega
    · exact h1
    · have := Proofs.Ytaladbcocealnaa.seen_lt n.trans h1 hlk; omega
  by_cases hk : kind = 1
  · subst hk
    have hlab := hd.form.2 rfl
    have eT : busyT P S (seenTo n.trans k) (tranAt n.trans k) = [⟨0, (tranAt n.trans k).pre ++ zerosL S, (tranAt n.trans k).post ++ zerosL S⟩] := by unfold busyT; rw [if_pos hlab]
    obtain ⟨q1, q2⟩ := busyTo_at n.trans P S hd.lt 0 (by rw [eT]; simp)
    rw [eT] at q2
    simp only [takeC, giveC] at hcov hmark
    rw [if_pos (by simp)] at hcov
    have hmark : ∀ p, nth x.mark p = nth c.mark p - nth (tranAt n.trans k).pre p + nth (tranAt n.trans k).post p := fun p => by have := hmark p; simpa using this
    rw [if_neg (by omega)]
    refine h.fire (c := c) (c' := x) (pr := (tranAt n.trans k).pre ++ zerosL S) (po := (tranAt n.trans k).post ++ zerosL S) hs (by rw [hbt]; exact q1) (by rw [hbt, q2]; rfl) hm0 (fun q => ?_) (fun q => ?_) (fun p hp => ?_) (fun t ht hl => ?_) (fun t ht hl => ?_) (by simp [hpl, zeros_length]) (by simp [hql, zeros_length])
    · rw [wide _ hpl]
      by_cases hq : q < P
      · rw [hs.place q hq]; exact hcov q
      · rw [nth_past _ _ (by omega)]; exact (hm0 q).1
    · rw [wide _ hpl, wide _ hql]
      by_cases hq : q < P
      · rw [hs.place q hq, ← hmark q]; exact hxm q
      · rw [nth_past (tranAt n.trans k).pre _ (by omega), nth_past (tranAt n.trans k).post _ (by omega)]; have := hm0 q; omega
    · rw [wide _ hpl, wide _ hql]; exact hmark p
    · rw [wide _ hpl, wide _ hql, nth_past (tranAt n.trans k).pre _ (by omega), nth_past (tranAt n.trans k).post _ (by omega), hbusy t]
      rw [if_neg (fun e => by subst e; exact hl hlab)]; omega
    · rw [hbusy t]
      split
      · rename_i e; subst e; rw [hs.none t ht hl]; simp [moreC]
      · exact hs.none t ht hl
  · have hlab : (tranAt n.trans k).label ≠ 0 := fun e => hk (hd.form.1 e)
    have hsk := h.seen_lt hd.lt hlab
    have eT : busyT P S (seenTo n.trans k) (tranAt n.trans k) = [⟨0, (tranAt n.trans k).pre ++ zerosL S, zerosL P ++ oneAt S (seenTo n.trans k)⟩, ⟨(tranAt n.trans k).label, zerosL P ++ oneAt S (seenTo n.trans k), (tranAt n.trans k).post ++ zerosL S⟩] := by unfold busyT; rw [if_neg hlab]
    have hz : ∀ t, t < n.trans.length → (tranAt n.trans t).label = 0 → nth x.busy t = 0 := fun t ht hl => by
      rw [hbusy t, if_neg (fun e => by subst e; exact hlab hl)]; exact hs.none t ht hl
    have hwk := hs.work k hd.lt hlab
    by_cases hk2 : kind = 2
    · subst hk2
      obtain ⟨q1, q2⟩ := busyTo_at n.trans P S hd.lt 0 (by rw [eT]; simp)
      rw [eT] at q2
      simp only [takeC, giveC] at hcov hmark
      rw [if_pos (by simp)] at hcov
      have hmark : ∀ p, nth x.mark p = nth c.mark p - nth (tranAt n.trans k).pre p := fun p => by have := hmark p; simp [nth] at this ⊢; omega
      have hbk := hbusy k
      rw [if_pos rfl] at hbk
      simp only [moreC, if_pos] at hbk
      rw [if_neg (by omega)]
      refine h.fire (c := c) (c' := x) (pr := (tranAt n.trans k).pre ++ zerosL S) (po := zerosL P ++ oneAt S (seenTo n.trans k)) hs (by rw [hbt]; exact q1) (by rw [hbt, q2]; rfl) hm0 (fun q => ?_) (fun q => ?_) (fun p hp => ?_) (fun t ht hl => ?_) hz (by simp [hpl, zeros_length]) (by simp [zeros_length, one_length])
      · rw [wide _ hpl]
        by_cases hq : q < P
        · rw [hs.place q hq]; exact hcov q
        · rw [nth_past _ _ (by omega)]; exact (hm0 q).1
      · rw [wide _ hpl, behind]
        by_cases hq : q < P
        · rw [hs.place q hq, if_neg (by omega)]; have := hmark q; have := hxm q; omega
        · rw [nth_past (tranAt n.trans k).pre _ (by omega)]
          by_cases he : q = P + seenTo n.trans k
          · rw [if_pos (by omega), he, hwk]; have := hxb k; rw [hbk] at this; omega
          · rw [if_neg (by omega)]; have := hm0 q; omega
      · rw [wide _ hpl, behind, if_neg (by omega)]; have := hmark p; omega
      · rw [wide _ hpl, behind, nth_past (tranAt n.trans k).pre _ (by omega), hbusy t]
        have hst := h.seen_lt ht hl
        by_cases he : t = k
        · subst he; rw [if_pos rfl, if_pos (by omega)]; simp [moreC]
        · rw [if_neg he, if_neg (fun q => he (inj t ht hl hlab (by omega)))]; omega
    · have hk3 : kind = 3 := by omega
      subst hk3
      obtain ⟨q1, q2⟩ := busyTo_at n.trans P S hd.lt 1 (by rw [eT]; simp)
      rw [eT] at q2
      simp only [takeC, giveC] at hmark
      have hmark : ∀ p, nth x.mark p = nth c.mark p + nth (tranAt n.trans k).post p := fun p => by have := hmark p; simp [nth] at this ⊢; omega
      have hbk := hbusy k
      rw [if_pos rfl] at hbk
      have hm1 : moreC 3 = -1 := by simp [moreC]
      rw [hm1] at hbk hmore
      rw [if_pos rfl]
      refine h.fire (c := c) (c' := x) (pr := zerosL P ++ oneAt S (seenTo n.trans k)) (po := (tranAt n.trans k).post ++ zerosL S) hs (by rw [hbt]; exact q1) (by rw [hbt, q2]; rfl) hm0 (fun q => ?_) (fun q => ?_) (fun p hp => ?_) (fun t ht hl => ?_) hz (by simp [zeros_length, one_length]) (by simp [hql, zeros_length])
      · rw [behind]
        by_cases he : q = P + seenTo n.trans k
        · rw [if_pos (by omega), he, hwk]; omega
        · rw [if_neg (by omega)]; exact (hm0 q).1
      · rw [wide _ hql, behind]
        by_cases hq : q < P
        · rw [hs.place q hq, if_neg (by omega)]; have := hmark q; have := hxm q; omega
        · rw [nth_past (tranAt n.trans k).post _ (by omega)]
          by_cases he : q = P + seenTo n.trans k
          · rw [if_pos (by omega), he, hwk]; have := hxb k; rw [hbk] at this; omega
          · rw [if_neg (by omega)]; have := hm0 q; omega
      · rw [wide _ hql, behind, if_neg (by omega)]; have := hmark p; omega
      · rw [wide _ hql, behind, nth_past (tranAt n.trans k).post _ (by omega), hbusy t]
        have hst := h.seen_lt ht hl
        by_cases he : t = k
        · subst he; rw [if_pos rfl, if_pos (by omega)]; simp [moreC]; omega
        · rw [if_neg he, if_neg (fun q => he (inj t ht hl hlab (by omega)))]; omega

/-- At the beginning. -/
theorem Sim.start {n b : NetL} {P S : Nat} {i : Int} (h : BusyOk n P S b) (hi : 0 ≤ i ∧ i < n.places) : Sim n P S (beginC n i).1 (startL b.places i) := by
  rw [begin_ok h.ok hi]
  have hbp : b.places = ((P + S : Nat) : Int) := by rw [h.net]
  have h16 := h.p16
  have hP := h.places
  have hN : (min b.places 16).toNat = P + S := by rw [hbp]; omega
  have hN2 : (min n.places 16).toNat = P := by rw [hP]; omega
  refine ⟨by rw [start_length, hN], fun p hp => ?_, fun t ht hl => ?_, fun t ht hl => zeros_at _ _⟩
  · show _ = nth (startL n.places i) p
    rw [start_at _ _ _ (by omega), start_at _ _ _ (by omega)]
  · have := h.seen_lt ht hl
    show _ = nth (zerosL _) t
    rw [zeros_at, start_at _ _ _ (by omega), if_neg (by omega)]

end Go.Proofs.Ytaladbcocealnaa

/- A list of things to do in a case, in memory; what is answered of it. -/
namespace Go.Proofs.Ytaladbcocealnaa
open Go.RowKit
set_option linter.unusedVariables false
set_option maxRecDepth 4000

def opAt (l : List (Int × Int)) (k : Nat) : Int × Int := l.getD k (0, 0)
/-- A slice of pairs of numbers. -/
def OpsV (w : World) (v : Value) (l : List (Int × Int)) : Prop :=
  ∃ a len cap, v = .slice a len cap ∧ l.length = len ∧ len ≤ 8796093022208 ∧ Shape a len cap ∧
    ∀ j, j < l.length → ∃ b off, a = some ⟨b, off, none⟩ ∧ b < w.heap.size ∧ w.cell? ⟨b, off + j * 2, none⟩ = some (.int .i64 (opAt l j).1) ∧ w.cell? ⟨b, off + j * 2 + 1, none⟩ = some (.int .i64 (opAt l j).2)
theorem OpsV.below {w w' : World} {v : Value} {l : List (Int × Int)} (h : OpsV w v l) (hb : Below w.heap.size w w') : OpsV w' v l := by
  obtain ⟨a, len, cap, e, hl, hm, hs, hr⟩ := h
  refine ⟨a, len, cap, e, hl, hm, hs, fun j hj => ?_⟩
  obtain ⟨b, off, ha, hlt, h0, h1⟩ := hr j hj
  exact ⟨b, off, ha, Nat.lt_of_lt_of_le hlt hb.size, by rw [hb.cell (p := ⟨b, _, none⟩) hlt]; exact h0, by rw [hb.cell (p := ⟨b, _, none⟩) hlt]; exact h1⟩
theorem OpsV.at {w : World} {a : Option Addr} {len cap : Nat} {l : List (Int × Int)} (h : OpsV w (.slice a len cap) l) {k : Nat} (hk : k < len) :
    ∃ b off, a = some ⟨b, off, none⟩ ∧ b < w.heap.size ∧ w.cell? ⟨b, off + k * 2, none⟩ = some (.int .i64 (opAt l k).1) ∧ w.cell? ⟨b, off + k * 2 + 1, none⟩ = some (.int .i64 (opAt l k).2) := by
  obtain ⟨a', len', cap', e, hl, hm, hs, hr⟩ := h
  injection e with e1 e2 e3
  subst e1 e2 e3
  exact hr k (by omega)
theorem OpsV.slice {w : World} {v : Value} {l : List (Int × Int)} (h : OpsV w v l) : ∃ a cap, v = .slice a l.length cap ∧ l.length ≤ 8796093022208 ∧ Shape a l.length cap := by
  obtain ⟨a, len, cap, e, hl, hm, hs, hr⟩ := h
  subst hl
  exact ⟨a, cap, e, hm, hs⟩

/-- What a call answers that plays them. -/
def GivesP (w : World) (p : CaseL × List Int × Int) (e : Ending) (w' : World) : Prop := ∃ r l, e = .returned (.tuple #[r, l, .int .i64 p.2.2]) ∧ CaseV w' r p.1 ∧ Ints w' l p.2.1 ∧ Below w.heap.size w w'
/-- What a call answers that makes a net, or tells why not. -/
def GivesN (w : World) (p : NetL × Int) (e : Ending) (w' : World) : Prop := ∃ r, e = .returned (.tuple #[r, .int .i64 p.2]) ∧ Net w' r p.1 ∧ Below w.heap.size w w'

end Go.Proofs.Ytaladbcocealnaa

/- Desks in memory. -/
namespace Go.Proofs.Ytaladbcocealnaa
open Go.RowKit
set_option linter.unusedVariables false
set_option maxRecDepth 4000

/-- A slice of items. -/
def ItemsV (w : World) (v : Value) (l : List ItemL) : Prop :=
  ∃ a len cap, v = .slice a len cap ∧ l.length = len ∧ len ≤ 5864062014805 ∧ Shape a len cap ∧
    ∀ j, j < l.length → ∃ b off, a = some ⟨b, off, none⟩ ∧ b < w.heap.size ∧ w.cell? ⟨b, off + j * 3, none⟩ = some (.int .i64 (itemAt l j).user) ∧ w.cell? ⟨b, off + j * 3 + 1, none⟩ = some (.int .i64 (itemAt l j).tran) ∧ w.cell? ⟨b, off + j * 3 + 2, none⟩ = some (.bool (itemAt l j).opn)
theorem ItemsV.below {w w' : World} {v : Value} {l : List ItemL} (h : ItemsV w v l) (hb : Below w.heap.size w w') : ItemsV w' v l := by
  obtain ⟨a, len, cap, e, hl, hm, hs, hr⟩ := h
  refine ⟨a, len, cap, e, hl, hm, hs, fun j hj => ?_⟩
  obtain ⟨b, off, ha, hlt, h0, h1, h2⟩ := hr j hj
  exact ⟨b, off, ha, Nat.lt_of_lt_of_le hlt hb.size, by rw [hb.cell (p := ⟨b, _, none⟩) hlt]; exact h0, by rw [hb.cell (p := ⟨b, _, none⟩) hlt]; exact h1, by rw [hb.cell (p := ⟨b, _, none⟩) hlt]; exact h2⟩
theorem ItemsV.at {w : World} {a : Option Addr} {len cap : Nat} {l : List ItemL} (h : ItemsV w (.slice a len cap) l) {k : Nat} (hk : k < len) :
    ∃ b off, a = some ⟨b, off, none⟩ ∧ b < w.heap.size ∧ w.cell? ⟨b, off + k * 3, none⟩ = some (.int .i64 (itemAt l k).user) ∧ w.cell? ⟨b, off + k * 3 + 1, none⟩ = some (.int .i64 (itemAt l k).tran) ∧ w.cell? ⟨b, off + k * 3 + 2, none⟩ = some (.bool (itemAt l k).opn) := by
  obtain ⟨a', len', cap', e, hl, hm, hs, hr⟩ := h
  injection e with e1 e2 e3
  subst e1 e2 e3
  exact hr k (by omega)
theorem ItemsV.slice {w : World} {v : Value} {l : List ItemL} (h : ItemsV w v l) : ∃ a cap, v = .slice a l.length cap ∧ l.length ≤ 5864062014805 ∧ Shape a l.length cap := by
  obtain ⟨a, len, cap, e, hl, hm, hs, hr⟩ := h
  subst hl
  exact ⟨a, cap, e, hm, hs⟩

/-- A value that is this desk. -/
def DeskV (w : World) (v : Value) (d : DeskL) : Prop :=
  ∃ a l p a' l' p' ia ic, v = .agg #[.slice a l p, .slice a' l' p', .slice ia d.items.length ic] ∧ Ints w (.slice a l p) d.case.mark ∧ Ints w (.slice a' l' p') d.case.busy ∧ ItemsV w (.slice ia d.items.length ic) d.items
theorem DeskV.below {w w' : World} {v : Value} {d : DeskL} (h : DeskV w v d) (hb : Below w.heap.size w w') : DeskV w' v d := by
  obtain ⟨a, l, p, a', l', p', ia, ic, e, h1, h2, h3⟩ := h
  exact ⟨a, l, p, a', l', p', ia, ic, e, h1.below hb, h2.below hb, h3.below hb⟩

/-- A slice of things to do at a desk. -/
def DOpsV (w : World) (v : Value) (l : List DOp) : Prop :=
  ∃ a len cap, v = .slice a len cap ∧ l.length = len ∧ len ≤ 3518437208883 ∧ Shape a len cap ∧
    ∀ j, j < l.length → ∃ b off, a = some ⟨b, off, none⟩ ∧ b < w.heap.size ∧ w.cell? ⟨b, off + j * 5, none⟩ = some (.int .i64 (dopAt l j).kind) ∧ w.cell? ⟨b, off + j * 5 + 1, none⟩ = some (.int .i64 (dopAt l j).user) ∧ w.cell? ⟨b, off + j * 5 + 2, none⟩ = some (.int .i64 (dopAt l j).tran) ∧
      w.cell? ⟨b, off + j * 5 + 3, none⟩ = some (.int .i64 (dopAt l j).item) ∧ w.cell? ⟨b, off + j * 5 + 4, none⟩ = some (.int .i64 (dopAt l j).hand)
theorem DOpsV.below {w w' : World} {v : Value} {l : List DOp} (h : DOpsV w v l) (hb : Below w.heap.size w w') : DOpsV w' v l := by
  obtain ⟨a, len, cap, e, hl, hm, hs, hr⟩ := h
  refine ⟨a, len, cap, e, hl, hm, hs, fun j hj => ?_⟩
  obtain ⟨b, off, ha, hlt, h0, h1, h2, h3, h4⟩ := hr j hj
  exact ⟨b, off, ha, Nat.lt_of_lt_of_le hlt hb.size, by rw [hb.cell (p := ⟨b, _, none⟩) hlt]; exact h0, by rw [hb.cell (p := ⟨b, _, none⟩) hlt]; exact h1, by rw [hb.cell (p := ⟨b, _, none⟩) hlt]; exact h2, by rw [hb.cell (p := ⟨b, _, none⟩) hlt]; exact h3, by rw [hb.cell (p := ⟨b, _, none⟩) hlt]; exact h4⟩
theorem DOpsV.at {w : World} {a : Option Addr} {len cap : Nat} {l : List DOp} (h : DOpsV w (.slice a len cap) l) {k : Nat} (hk : k < len) :
    ∃ b off, a = some ⟨b, off, none⟩ ∧ b < w.heap.size ∧ w.cell? ⟨b, off + k * 5, none⟩ = some (.int .i64 (dopAt l k).kind) ∧ w.cell? ⟨b, off + k * 5 + 1, none⟩ = some (.int .i64 (dopAt l k).user) ∧ w.cell? ⟨b, off + k * 5 + 2, none⟩ = some (.int .i64 (dopAt l k).tran) ∧
      w.cell? ⟨b, off + k * 5 + 3, none⟩ = some (.int .i64 (dopAt l k).item) ∧ w.cell? ⟨b, off + k * 5 + 4, none⟩ = some (.int .i64 (dopAt l k).hand) := by
  obtain ⟨a', len', cap', e, hl, hm, hs, hr⟩ := h
  injection e with e1 e2 e3
  subst e1 e2 e3
  exact hr k (by omega)
theorem DOpsV.slice {w : World} {v : Value} {l : List DOp} (h : DOpsV w v l) : ∃ a cap, v = .slice a l.length cap ∧ l.length ≤ 3518437208883 ∧ Shape a l.length cap := by
  obtain ⟨a, len, cap, e, hl, hm, hs, hr⟩ := h
  subst hl
  exact ⟨a, cap, e, hm, hs⟩

def ansL (l : List DAns) : List (Int × Int) := l.map fun a => (a.err, a.item)
theorem ansL_length (l : List DAns) : (ansL l).length = l.length := List.length_map ..
theorem ansL_at (l : List DAns) (k : Nat) : opAt (ansL l) k = ((dansAt l k).err, (dansAt l k).item) := by
  unfold opAt ansL dansAt
  rw [List.getD_eq_getElem?_getD, List.getD_eq_getElem?_getD, List.getElem?_map]
  cases l[k]? <;> rfl

/-- What a call answers that plays them. -/
def GivesD (w : World) (p : DeskL × List DAns × Int) (e : Ending) (w' : World) : Prop :=
  ∃ r a c, e = .returned (.tuple #[r, .slice a p.2.1.length c, .int .i64 p.2.2]) ∧ DeskV w' r p.1 ∧ OpsV w' (.slice a p.2.1.length c) (ansL p.2.1) ∧ Below w.heap.size w w'

/-- A boxed desk. -/
def BoxD (w : World) (b : Nat) (x y z : Value) : Prop := b < w.heap.size ∧ w.cell? ⟨b, 0, none⟩ = some x ∧ w.cell? ⟨b, 1, none⟩ = some y ∧ w.cell? ⟨b, 2, none⟩ = some z

end Go.Proofs.Ytaladbcocealnaa

/- Stops of ways, plainly: where a way goes on, and what is met on ways from a stop. -/
namespace Go.Proofs.Ytaladbcocealnaa
set_option linter.unusedVariables false
set_option maxRecDepth 4000

/-- A transition (true), or a place. -/
abbrev Stop := Bool × Nat

/-- A stop of a net. -/
def FitS (n : NetL) (s : Stop) : Prop := if s.1 then s.2 < n.trans.length else (s.2 : Int) < n.places

/-- Those below k that q tells of. -/
def somes (b : Bool) (q : Nat → Bool) (k : Nat) : List Stop := ((List.range k).filter q).map fun j => (b, j)
theorem somes_yes (b : Bool) (q : Nat → Bool) (k : Nat) (h : q k = true) : somes b q (k + 1) = somes b q k ++ [(b, k)] := by
  simp [somes, List.range_succ, List.filter_append, h]
theorem somes_no (b : Bool) (q : Nat → Bool) (k : Nat) (h : q k = false) : somes b q (k + 1) = somes b q k := by
  simp [somes, List.range_succ, List.filter_append, h]
theorem somes_le (b : Bool) (q : Nat → Bool) (k : Nat) : (somes b q k).length ≤ k := by
  simp only [somes, List.length_map]
  exact Nat.le_trans (List.length_filter_le _ _) (by simp)
theorem mem_somes {b : Bool} {q : Nat → Bool} {k : Nat} {s : Stop} : s ∈ somes b q k ↔ s.1 = b ∧ s.2 < k ∧ q s.2 = true := by
  obtain ⟨c, j⟩ := s
  simp only [somes, List.mem_map, List.mem_filter, List.mem_range, Prod.mk.injEq]
  constructor
  · rintro ⟨x, ⟨h1, h2⟩, h3, h4⟩
    subst h4
    exact ⟨h3.symm, h1, h2⟩
  · rintro ⟨h1, h2, h3⟩
    exact ⟨j, ⟨h2, h3⟩, h1.symm, rfl⟩

def putsAt (n : NetL) (k p : Nat) : Bool := decide (0 < nth (tranAt n.trans k).post p)
def takesAt (n : NetL) (p k : Nat) : Bool := decide (0 < nth (tranAt n.trans k).pre p)

/-- Where a way can go on from a stop. -/
def behindL (n : NetL) (s : Stop) : List Stop :=
  if s.1 then somes false (putsAt n s.2) (tranAt n.trans s.2).post.length else somes true (takesAt n s.2) n.trans.length

theorem behind_fits {n : NetL} (hn : netOk n = true) {s t : Stop} (hs : FitS n s) (h : t ∈ behindL n s) : FitS n t := by
  obtain ⟨b, k⟩ := s
  cases b with
  | true =>
    have hk : k < n.trans.length := hs
    have h := mem_somes.1 (show t ∈ somes false _ _ from h)
    obtain ⟨c, j⟩ := t
    obtain ⟨rfl, h2, _⟩ := h
    have hl := (tran_length hn hk).2
    show (j : Int) < n.places
    have h2 : j < (tranAt n.trans k).post.length := h2
    omega
  | false =>
    have h := mem_somes.1 (show t ∈ somes true _ _ from h)
    obtain ⟨c, j⟩ := t
    obtain ⟨rfl, h2, _⟩ := h
    exact h2

theorem behind_le {n : NetL} (hn : netOk n = true) {s : Stop} (hs : FitS n s) : (behindL n s).length ≤ 24 := by
  obtain ⟨b, k⟩ := s
  obtain ⟨h0, h1, h2⟩ := head_of hn
  cases b with
  | true =>
    have hk : k < n.trans.length := hs
    have hl := (tran_length hn hk).2
    have := somes_le false (putsAt n k) (tranAt n.trans k).post.length
    show (somes false (putsAt n k) (tranAt n.trans k).post.length).length ≤ 24
    omega
  | false =>
    have := somes_le true (takesAt n k) n.trans.length
    show (somes true (takesAt n k) n.trans.length).length ≤ 24
    omega

/-- What is on ways from a stop. -/
def OnWay (n : NetL) (s t : Stop) : Prop := ∀ Q : Stop → Prop, Q s → (∀ a b, Q a → b ∈ behindL n a → Q b) → Q t
theorem OnWay.here (n : NetL) (s : Stop) : OnWay n s s := fun Q h _ => h
theorem OnWay.step {n : NetL} {s a b : Stop} (h : OnWay n s a) (hb : b ∈ behindL n a) : OnWay n s b := fun Q q1 q2 => q2 a b (h Q q1 q2) hb
theorem OnWay.first {n : NetL} {s a b : Stop} (hb : a ∈ behindL n s) (h : OnWay n a b) : OnWay n s b := h (fun x => OnWay n s x) ((OnWay.here n s).step hb) fun _ _ q e => q.step e
theorem OnWay.fits {n : NetL} (hn : netOk n = true) {s t : Stop} (hs : FitS n s) (h : OnWay n s t) : FitS n t := h (FitS n) hs fun _ _ q e => behind_fits hn q e

/-- What has been met has become more: what is new is on ways from stops of S, and all behind it has been met. -/
structure Went (n : NetL) (S : Stop → Prop) (vs vs' : List Stop) : Prop where
  sub : ∀ x ∈ vs, x ∈ vs'
  new : ∀ x ∈ vs', x ∈ vs ∨ S x
  shut : ∀ x ∈ vs', x ∉ vs → ∀ y ∈ behindL n x, y ∈ vs'

theorem Went.refl (n : NetL) (S : Stop → Prop) (vs : List Stop) : Went n S vs vs := ⟨fun _ h => h, fun _ h => .inl h, fun x h k => absurd h k⟩

theorem Went.trans {n : NetL} {S T : Stop → Prop} {vs us ws : List Stop} (h : Went n S vs us) (g : Went n T us ws) (hT : ∀ x, T x → S x) : Went n S vs ws where
  sub := fun x hx => g.sub x (h.sub x hx)
  new := fun x hx => by
    rcases g.new x hx with k | k
    · exact h.new x k
    · exact .inr (hT x k)
  shut := fun x hx hn y hy => by
    by_cases k : x ∈ us
    · exact g.sub y (h.shut x k hn y hy)
    · exact g.shut x hx k y hy

/-- One stop, and what is behind it. -/
theorem Went.stop {n : NetL} {s : Stop} {vs us : List Stop} (h : Went n (OnWay n s) (vs ++ [s]) us) (hall : ∀ y ∈ behindL n s, y ∈ us) : Went n (OnWay n s) vs us where
  sub := fun x hx => h.sub x (by simp [hx])
  new := fun x hx => by
    rcases h.new x hx with k | k
    · rcases List.mem_append.1 k with k | k
      · exact .inl k
      · have : x = s := by simpa using k
        subst this
        exact .inr (OnWay.here _ _)
    · exact .inr k
  shut := fun x hx hn y hy => by
    by_cases e : x = s
    · subst e; exact hall y hy
    · exact h.shut x hx (by simp [hn, e]) y hy

/-- From nothing: all that is on ways from a stop. -/
theorem Went.all {n : NetL} {s : Stop} {us : List Stop} (h : Went n (OnWay n s) [] us) (hs : s ∈ us) (x : Stop) : x ∈ us ↔ OnWay n s x := by
  constructor
  · intro hx
    rcases h.new x hx with k | k
    · cases k
    · exact k
  · exact fun hx => hx (fun y => y ∈ us) hs fun a b ha hb => h.shut a ha (by simp) b hb

/-- All stops of a net. -/
def allS (n : NetL) : List Stop := ((List.range n.places.toNat).map fun j => (false, j)) ++ (List.range n.trans.length).map fun j => (true, j)
theorem mem_allS {n : NetL} {s : Stop} : s ∈ allS n ↔ FitS n s := by
  obtain ⟨b, k⟩ := s
  cases b <;> simp [allS, FitS]
theorem allS_length {n : NetL} (h : 0 ≤ n.places) : ((allS n).length : Int) = n.places + n.trans.length := by
  simp only [allS, List.length_append, List.length_map, List.length_range]
  omega

theorem nodup_le : ∀ {l1 l2 : List Stop}, l1.Nodup → (∀ x ∈ l1, x ∈ l2) → l1.length ≤ l2.length := by
  intro l1
  induction l1 with
  | nil => intro l2 _ _; simp
  | cons a r ih =>
    intro l2 hn hs
    obtain ⟨h1, h2⟩ := List.nodup_cons.1 hn
    have ha : a ∈ l2 := hs a (by simp)
    have := ih (l2 := l2.erase a) h2 fun x hx => by
      have hne : x ≠ a := fun e => h1 (e ▸ hx)
      exact (List.mem_erase_of_ne hne).2 (hs x (by simp [hx]))
    rw [List.length_erase_of_mem ha] at this
    have := List.length_pos_of_mem ha
    simp only [List.length_cons]
    omega

theorem nodup_full {l1 l2 : List Stop} (hn : l1.Nodup) (hs : ∀ x ∈ l1, x ∈ l2) (hl : l1.length = l2.length) : ∀ x ∈ l2, x ∈ l1 := by
  intro x hx
  apply Classical.byContradiction
  intro hno
  have := nodup_le (l1 := x :: l1) (l2 := l2) (List.nodup_cons.2 ⟨hno, hn⟩) fun y hy => by
    rcases List.mem_cons.1 hy with rfl | hy
    · exact hx
    · exact hs y hy
  simp only [List.length_cons] at this
  omega

theorem allS_nodup (n : NetL) : (allS n).Nodup := by
  unfold allS
  have inj : ∀ b : Bool, ∀ l : List Nat, l.Nodup → (l.map fun j => (b, j)).Nodup := by
    intro b l h
    rw [List.nodup_iff_pairwise_ne] at h
    simp only [List.nodup_iff_pairwise_ne, List.pairwise_map, ne_eq, Prod.mk.injEq, true_and]
    exact h
  rw [List.nodup_append]
  refine ⟨inj _ _ List.nodup_range, inj _ _ List.nodup_range, ?_⟩
  intro a ha b hb e
  subst e
  simp only [List.mem_map] at ha hb
  obtain ⟨_, _, rfl⟩ := ha
  obtain ⟨_, _, e⟩ := hb
  injection e with e _
  cases e

/-- As many were met as there are: all were. -/
theorem met_all {n : NetL} (hn : netOk n = true) {s : Stop} (hs : FitS n s) {us : List Stop} (hd : us.Nodup) (hm : ∀ x, x ∈ us ↔ OnWay n s x) :
    ((us.length : Int) = n.places + n.trans.length) ↔ ∀ x, FitS n x → OnWay n s x := by
  have hl := allS_length (head_of hn).1
  constructor
  · intro e x hx
    refine (hm x).1 (nodup_full hd (fun y hy => mem_allS.2 ((hm y).1 hy |>.fits hn hs)) (by omega) x (mem_allS.2 hx))
  · intro h
    have h1 := nodup_le hd fun y hy => mem_allS.2 (((hm y).1 hy).fits hn hs)
    have h2 := nodup_le (allS_nodup n) fun y hy => (hm y).2 (h y (mem_allS.1 hy))
    omega

theorem nth_in {xs : List Int} {p : Nat} (h : nth xs p ≠ 0) : p < xs.length := by
  rcases Nat.lt_or_ge p xs.length with h1 | h1
  · exact h1
  · exact absurd (nth_past _ _ h1) h

/-- Ways by stops are ways by places. -/
theorem onWay_place {n : NetL} (hn : netOk n = true) {f p : Nat} : OnWay n (false, f) (false, p) ↔ WayP n f p := by
  constructor
  · intro h
    have := h (fun s => if s.1 then WayT n f s.2 ∧ s.2 < n.trans.length else WayP n f s.2) (WayP.here n f) fun a b ha hb => by
      obtain ⟨ba, ka⟩ := a
      obtain ⟨bb, kb⟩ := b
      cases ba with
      | true =>
        obtain ⟨e, h2, h3⟩ := mem_somes.1 (show (bb, kb) ∈ somes false _ _ from hb)
        simp only at e
        subst e
        obtain ⟨⟨q, hq, hq2⟩, hk⟩ := ha
        have h3 : 0 < nth (tranAt n.trans ka).post kb := of_decide_eq_true h3
        exact hq.step hk hq2 (Int.ne_of_gt h3)
      | false =>
        obtain ⟨e, h2, h3⟩ := mem_somes.1 (show (bb, kb) ∈ somes true _ _ from hb)
        simp only at e
        subst e
        have h3 : 0 < nth (tranAt n.trans kb).pre ka := of_decide_eq_true h3
        exact ⟨⟨ka, ha, Int.ne_of_gt h3⟩, h2⟩
    exact this
  · intro h
    refine h (fun p => OnWay n (false, f) (false, p)) (OnWay.here _ _) fun k a b hk ha h1 h2 => ?_
    have r := tran_right (net_tran hn hk)
    have p1 := (okTok_nth r.1 a).1
    have p2 := (okTok_nth r.2 b).1
    have e1 : 0 < nth (tranAt n.trans k).pre a := by omega
    have e2 : 0 < nth (tranAt n.trans k).post b := by omega
    exact (ha.step (b := (true, k)) (mem_somes.2 ⟨rfl, hk, decide_eq_true e1⟩)).step (mem_somes.2 ⟨rfl, nth_in h2, decide_eq_true e2⟩)

theorem onWay_tran {n : NetL} (hn : netOk n = true) {f k : Nat} (hk : k < n.trans.length) : OnWay n (false, f) (true, k) ↔ WayT n f k := by
  constructor
  · intro h
    have := h (fun s => if s.1 then WayT n f s.2 ∧ s.2 < n.trans.length else OnWay n (false, f) (false, s.2)) (OnWay.here _ _) fun a b ha hb => by
      obtain ⟨ba, ka⟩ := a
      obtain ⟨bb, kb⟩ := b
      cases ba with
      | true =>
        obtain ⟨e, h2, h3⟩ := mem_somes.1 (show (bb, kb) ∈ somes false _ _ from hb)
        simp only at e
        subst e
        obtain ⟨⟨q, hq, hq2⟩, hk2⟩ := ha
        have h3 : 0 < nth (tranAt n.trans ka).post kb := of_decide_eq_true h3
        exact (onWay_place hn).2 (hq.step hk2 hq2 (Int.ne_of_gt h3))
      | false =>
        obtain ⟨e, h2, h3⟩ := mem_somes.1 (show (bb, kb) ∈ somes true _ _ from hb)
        simp only at e
        subst e
        have h3 : 0 < nth (tranAt n.trans kb).pre ka := of_decide_eq_true h3
        exact ⟨⟨ka, (onWay_place hn).1 ha, Int.ne_of_gt h3⟩, h2⟩
    exact this.1
  · rintro ⟨p, hp, h1⟩
    have r := tran_right (net_tran hn hk)
    have p1 := (okTok_nth r.1 p).1
    have e1 : 0 < nth (tranAt n.trans k).pre p := by omega
    exact ((onWay_place hn).2 hp).step (mem_somes.2 ⟨rfl, hk, decide_eq_true e1⟩)

theorem onWay_all {n : NetL} (hn : netOk n = true) {f : Nat} : (∀ x, FitS n x → OnWay n (false, f) x) ↔ (∀ p : Nat, (p : Int) < n.places → WayP n f p) ∧ ∀ k, k < n.trans.length → WayT n f k := by
  constructor
  · intro h
    exact ⟨fun p hp => (onWay_place hn).1 (h (false, p) hp), fun k hk => (onWay_tran hn hk).1 (h (true, k) hk)⟩
  · rintro ⟨h1, h2⟩ ⟨b, k⟩ hx
    cases b with
    | true => exact (onWay_tran hn hx).2 (h2 k hx)
    | false => exact (onWay_place hn).2 (h1 k hx)

end Go.Proofs.Ytaladbcocealnaa

/- What is done in a case, by firing, adding and taking away: plainly. -/
namespace Go.Proofs.Ytaladbcocealnaa
set_option linter.unusedVariables false
set_option maxRecDepth 4000

def onceL (len k : Nat) : List Int := (zerosL len).set k 1
theorem once_length (len k : Nat) : (onceL len k).length = len := by unfold onceL; rw [List.length_set, zeros_length]
theorem once_at {len k : Nat} (h : k < len) (j : Nat) : nth (onceL len k) j = if j = k then 1 else 0 := by
  unfold onceL
  rw [nth_set' _ _ _ _ (by rw [zeros_length]; exact h), zeros_at]
theorem once_right {len k : Nat} (h : k < len) : rightL (onceL len k) = true := (rightL_iff _).2 fun j => by rw [once_at h]; split <;> omega
theorem add_once {b : List Int} {k : Nat} (h : k < b.length) : addL b (onceL b.length k) = b.set k (nth b k + 1) := eq_of_at (by rw [add_length, once_length, List.length_set]; omega) fun j => by
  rw [add_at, once_at h, nth_set' _ _ _ _ h]
  split
  · rename_i e; rw [e]
  · omega
theorem sub_once {b : List Int} {k : Nat} (h : k < b.length) : subL b (onceL b.length k) = b.set k (nth b k + -1) := eq_of_at (by rw [sub_length, once_length, List.length_set]; omega) fun j => by
  rw [sub_at, once_at h, nth_set' _ _ _ _ h]
  split
  · rename_i e; rw [e]; omega
  · omega

theorem do_skip {n : NetL} {c : CaseL} {k : Nat} (h : rightC n c = true) (hk : k < n.trans.length) (hl : (tranAt n.trans k).label = 0) :
    doC n c 1 k = if (fireL n c.mark k).2 = 0 then (⟨(fireL n c.mark k).1, c.busy⟩, 0) else (noCase, (fireL n c.mark k).2) := by
  obtain ⟨hf, hb, hr⟩ := rightC_iff.1 h
  obtain ⟨hn, hm, hmr⟩ := fits_net hf
  obtain ⟨hpl, hql⟩ := tran_length hn hk
  have hb0 := (rightL_iff _).1 hr k
  have ht : takeC (tranAt n.trans k) 1 = (tranAt n.trans k).pre := by simp [takeC]
  have hg : giveC (tranAt n.trans k) 1 = (tranAt n.trans k).post := by simp [giveC]
  have hm1 : moreC 1 = 0 := by simp [moreC]
  have E0 : fireL n c.mark k = (if coversL c.mark (tranAt n.trans k).pre then
    (if rightL (addL (subL c.mark (tranAt n.trans k).pre) (tranAt n.trans k).post) then (addL (subL c.mark (tranAt n.trans k).pre) (tranAt n.trans k).post, 0) else ([], 4)) else ([], 3)) := by
    rw [fireL, hf, decide_eq_true (show (0 : Int) ≤ k by omega), decide_eq_true (show (k : Int) < n.trans.length by omega), Int.toNat_natCast]; simp
  cases hc : coversL c.mark (tranAt n.trans k).pre with
  | false =>
    rw [E0, hc, do_not h (by omega) hk (by simp [hl]) (.inl (by rw [ht]; exact hc))]; rfl
  | true =>
    have hout : outC n c 1 k = ⟨addL (subL c.mark (tranAt n.trans k).pre) (tranAt n.trans k).post, c.busy⟩ := by
      unfold outC
      rw [ht, hg, hm1, Int.add_zero]
      congr 1
      exact eq_of_at (by simp) fun j => by rw [nth_set' _ _ _ _ (by omega)]; split <;> simp_all
    rw [do_out h (by omega) hk (by simp [hl]) (by rw [ht, hc, hm1]; simp; omega), hout, E0, hc]
    cases hr2 : rightL (addL (subL c.mark (tranAt n.trans k).pre) (tranAt n.trans k).post) with
    | true =>
      have hx : rightC n ⟨addL (subL c.mark (tranAt n.trans k).pre) (tranAt n.trans k).post, c.busy⟩ = true := rightC_iff.2 ⟨fits_mk hn (by show ((addL _ _).length : Int) = _; rw [add_length, sub_length]; omega) hr2, hb, hr⟩
      rw [if_pos hx]; rfl
    | false =>
      rw [if_neg]
      · rfl
      · intro q
        have q := (fits_net (rightC_iff.1 q).1).2.2
        have q : rightL (addL (subL c.mark (tranAt n.trans k).pre) (tranAt n.trans k).post) = true := q
        rw [hr2] at q; cases q

theorem do_begin {n : NetL} {c : CaseL} {k : Nat} (h : rightC n c = true) (hk : k < n.trans.length) (hl : (tranAt n.trans k).label ≠ 0) :
    doC n c 2 k = if (minusL c.mark (tranAt n.trans k).pre).2 = 0 then (if (plusL c.busy (onceL n.trans.length k)).2 = 0 then (⟨(minusL c.mark (tranAt n.trans k).pre).1, (plusL c.busy (onceL n.trans.length k)).1⟩, 0) else (noCase, (plusL c.busy (onceL n.trans.length k)).2)) else (noCase, (minusL c.mark (tranAt n.trans k).pre).2) := by
  obtain ⟨hf, hb, hr⟩ := rightC_iff.1 h
  obtain ⟨hn, hm, hmr⟩ := fits_net hf
  obtain ⟨hpl, hql⟩ := tran_length hn hk
  obtain ⟨hrp, hrq⟩ := tran_right (net_tran hn hk)
  have hb0 := (rightL_iff _).1 hr k
  have hkb : k < c.busy.length := by omega
  have ht : takeC (tranAt n.trans k) 2 = (tranAt n.trans k).pre := by simp [takeC]
  have hg : giveC (tranAt n.trans k) 2 = [] := by simp [giveC]
  have hm1 : moreC 2 = 1 := by simp [moreC]
  cases hc : coversL c.mark (tranAt n.trans k).pre with
  | false => rw [minusL_none hmr hrp hc, do_not h (by omega) hk (by simp [hl]) (.inl (by rw [ht]; exact hc))]; rfl
  | true =>
    have hrs : rightL (subL c.mark (tranAt n.trans k).pre) = true := by rw [subL, right_minus hmr hrp]; exact hc
    have e1 : minusL c.mark (tranAt n.trans k).pre = (subL c.mark (tranAt n.trans k).pre, 0) := minusL_ok hmr hrp hc
    have hout : outC n c 2 k = ⟨subL c.mark (tranAt n.trans k).pre, addL c.busy (onceL n.trans.length k)⟩ := by
      unfold outC
      rw [ht, hg, hm1, add_nil, ← hb, add_once hkb]
    rw [do_out h (by omega) hk (by simp [hl]) (by rw [ht, hc, hm1]; simp; omega), hout, e1]
    cases hr2 : rightL (addL c.busy (onceL n.trans.length k)) with
    | true =>
      have hx : rightC n ⟨subL c.mark (tranAt n.trans k).pre, addL c.busy (onceL n.trans.length k)⟩ = true := rightC_iff.2 ⟨fits_mk hn (by show ((subL _ _).length : Int) = _; rw [sub_length]; omega) hrs, by show (addL _ _).length = _; rw [add_length, once_length]; omega, hr2⟩
      rw [if_pos hx, plusL_ok hr (once_right hk) hr2]; rfl
    | false =>
      rw [if_neg, plusL_full hr (once_right hk) hr2]
      · rfl
      · intro q
        have q := (rightC_iff.1 q).2.2
        have q : rightL (addL c.busy (onceL n.trans.length k)) = true := q
        rw [hr2] at q; cases q

theorem do_leave {n : NetL} {c : CaseL} {k : Nat} {kd : Int} (h : rightC n c = true) (hk : k < n.trans.length) (hl : (tranAt n.trans k).label ≠ 0) (hkd : kd = 3 ∨ kd = 4) {P : List Int} (hP : P = if kd = 3 then (tranAt n.trans k).post else (tranAt n.trans k).pre) :
    doC n c kd k = if (minusL c.busy (onceL n.trans.length k)).2 = 0 then (if (plusL c.mark P).2 = 0 then (⟨(plusL c.mark P).1, (minusL c.busy (onceL n.trans.length k)).1⟩, 0) else (noCase, (plusL c.mark P).2)) else (noCase, (minusL c.busy (onceL n.trans.length k)).2) := by
  obtain ⟨hf, hb, hr⟩ := rightC_iff.1 h
  obtain ⟨hn, hm, hmr⟩ := fits_net hf
  obtain ⟨hpl, hql⟩ := tran_length hn hk
  obtain ⟨hrp, hrq⟩ := tran_right (net_tran hn hk)
  have hb0 := (rightL_iff _).1 hr
  have hkb : k < c.busy.length := by omega
  have ht : takeC (tranAt n.trans k) kd = [] := by unfold takeC; rw [if_neg (by omega)]
  have hg : giveC (tranAt n.trans k) kd = P := by
    rw [hP]; unfold giveC
    rcases hkd with rfl | rfl
    · rw [if_pos (.inr rfl), if_pos rfl]
    · rw [if_neg (by omega), if_pos rfl, if_neg (by omega)]
  have hm1 : moreC kd = -1 := by unfold moreC; rw [if_neg (by omega), if_pos hkd]
  have hPr : rightL P = true := by rw [hP]; split; exact hrq; exact hrp
  have hPl : (P.length : Int) = n.places := by rw [hP]; split <;> omega
  have hform : (tranAt n.trans k).label = 0 ↔ kd = 1 := ⟨fun q => absurd q hl, fun q => by omega⟩
  have hc0 : coversL c.mark [] = true := (coversL_iff _ _).2 fun j => by have := (rightL_iff _).1 hmr j; simp [nth] at this ⊢; omega
  by_cases hx : nth c.busy k = 0
  · have hcv : coversL c.busy (onceL n.trans.length k) = false := by
      cases q : coversL c.busy (onceL n.trans.length k) with
      | false => rfl
      | true => have := (coversL_iff _ _).1 q k; rw [once_at hk, if_pos rfl] at this; omega
    rw [minusL_none hr (once_right hk) hcv, do_not h (by omega) hk hform (.inr (by rw [hm1]; omega))]; rfl
  · have hcv : coversL c.busy (onceL n.trans.length k) = true := (coversL_iff _ _).2 fun j => by
      have := hb0 j; have := hb0 k
      rw [once_at hk]; split
      · rename_i e; rw [e]; omega
      · omega
    have hrs : rightL (subL c.busy (onceL n.trans.length k)) = true := by rw [subL, right_minus hr (once_right hk)]; exact hcv
    have e1 : minusL c.busy (onceL n.trans.length k) = (subL c.busy (onceL n.trans.length k), 0) := minusL_ok hr (once_right hk) hcv
    have hout : outC n c kd k = ⟨addL c.mark P, subL c.busy (onceL n.trans.length k)⟩ := by
      unfold outC
      rw [ht, hg, hm1, sub_nil, ← hb, sub_once hkb]
    rw [do_out h (by omega) hk hform (by rw [ht, hc0, hm1]; have := hb0 k; simp; omega), hout, e1]
    cases hr2 : rightL (addL c.mark P) with
    | true =>
      have hx : rightC n ⟨addL c.mark P, subL c.busy (onceL n.trans.length k)⟩ = true := rightC_iff.2 ⟨fits_mk hn (by show ((addL _ _).length : Int) = _; rw [add_length]; omega) hr2, by show (subL _ _).length = _; rw [sub_length, once_length]; omega, hrs⟩
      rw [if_pos hx, plusL_ok hmr hPr hr2]; rfl
    | false =>
      rw [if_neg, plusL_full hmr hPr hr2]
      · rfl
      · intro q
        have q := (fits_net (rightC_iff.1 q).1).2.2
        have q : rightL (addL c.mark P) = true := q
        rw [hr2] at q; cases q

end Go.Proofs.Ytaladbcocealnaa

/- What is played in a case, without giving back, is a run of the net with a place for each work: plainly, step by step. -/
namespace Go.Proofs.Ytaladbcocealnaa
set_option linter.unusedVariables false
set_option maxRecDepth 4000

theorem play_append (n : NetL) : ∀ (xs : List (Int × Int)) (c : CaseL) (ys : List (Int × Int)), playC n c (xs ++ ys) = ((playC n (playC n c xs).1 ys).1, (playC n c xs).2 ++ (playC n (playC n c xs).1 ys).2)
  | [], c, ys => rfl
  | x :: xs, c, ys => by
    have := play_append n xs (stepC n c x) ys
    show ((playC n (stepC n c x) (xs ++ ys)).1, _ :: (playC n (stepC n c x) (xs ++ ys)).2) = _
    rw [this]; rfl
/-- The case behind the first so many. -/
def caseAt (n : NetL) (c : CaseL) (os : List (Int × Int)) (k : Nat) : CaseL := (playC n c (os.take k)).1
theorem take_snoc {os : List (Int × Int)} {k : Nat} (h : k < os.length) : os.take (k + 1) = os.take k ++ [opAt os k] := by
  rw [List.take_add_one, List.getElem?_eq_getElem h, opAt, List.getD_eq_getElem?_getD, List.getElem?_eq_getElem h]; rfl
theorem caseAt_succ (n : NetL) (c : CaseL) {os : List (Int × Int)} {k : Nat} (h : k < os.length) : caseAt n c os (k + 1) = stepC n (caseAt n c os k) (opAt os k) := by
  unfold caseAt; rw [take_snoc h, play_snoc]
theorem caseAt_all (n : NetL) (c : CaseL) {os : List (Int × Int)} {k : Nat} (h : os.length ≤ k) : caseAt n c os k = (playC n c os).1 := by
  unfold caseAt; rw [List.take_of_length_le h]
theorem err_at (n : NetL) (c : CaseL) {os : List (Int × Int)} {k : Nat} (h : k < os.length) : nth (playC n c os).2 k = (doC n (caseAt n c os k) (opAt os k).1 (opAt os k).2).2 := by
  have e : os = os.take k ++ (opAt os k :: os.drop (k + 1)) := by
    have h1 := (List.take_append_drop k os).symm
    rw [List.drop_eq_getElem_cons h] at h1
    rw [opAt, List.getD_eq_getElem?_getD, List.getElem?_eq_getElem h]; exact h1
  have hl : (playC n c (os.take k)).2.length = k := by rw [play_length, List.length_take]; omega
  have : nth (playC n c (os.take k ++ (opAt os k :: os.drop (k + 1)))).2 k = (doC n (caseAt n c os k) (opAt os k).1 (opAt os k).2).2 := by
    rw [play_append]
    show nth ((playC n c (os.take k)).2 ++ _) k = _
    rw [nth_app, if_neg (by omega), hl, Nat.sub_self]
    rfl
  rw [← e] at this
  exact this

/-- Where a thing that is done stands in the wider net. -/
def posOf (n : NetL) (o : Int × Int) : Int := ((o.2.toNat + seenTo n.trans o.2.toNat + (if o.1 = 3 then 1 else 0) : Nat) : Int)
def seqTo (n : NetL) (os : List (Int × Int)) (es : List Int) : Nat → List Int
  | 0 => []
  | k + 1 => seqTo n os es k ++ (if nth es k = 0 then [posOf n (opAt os k)] else [])
theorem seqTo_le (n : NetL) (os : List (Int × Int)) (es : List Int) : ∀ k, (seqTo n os es k).length ≤ k
  | 0 => Nat.le_refl _
  | k + 1 => by
    have := seqTo_le n os es k
    simp only [seqTo, List.length_append]
    split <;> simp <;> omega
theorem seqTo_yes {n : NetL} {os : List (Int × Int)} {es : List Int} {k : Nat} (h : nth es k = 0) : seqTo n os es (k + 1) = seqTo n os es k ++ [posOf n (opAt os k)] := by simp [seqTo, h]
theorem seqTo_no {n : NetL} {os : List (Int × Int)} {es : List Int} {k : Nat} (h : nth es k ≠ 0) : seqTo n os es (k + 1) = seqTo n os es k := by simp [seqTo, h]

theorem run_one {b : NetL} {m x y : List Int} {s : List Int} {t : Int} (h : runL b m s = (x, 0)) (hf : fireL b x t = (y, 0)) : runL b m (s ++ [t]) = (y, 0) := by
  rw [run_append, h]
  show (if ((0 : Int) == 0) = true then runL b x [t] else _) = _
  rw [if_pos (by decide)]
  exact run_cons.2 ⟨y, hf, run_nil.2 ⟨fire_fits hf, rfl⟩⟩

theorem case_run {n b : NetL} {P S : Nat} {i : Int} {os : List (Int × Int)} (h : BusyOk n P S b) (hi : 0 ≤ i ∧ i < n.places) (hno : ∀ k, k < os.length → (opAt os k).1 ≠ 4) :
    ∀ k, k ≤ os.length → ∃ m, runL b (startL b.places i) (seqTo n os (playC n (beginC n i).1 os).2 k) = (m, 0) ∧ Sim n P S (caseAt n (beginC n i).1 os k) m
  | 0, _ => by
    have hs := Sim.start h hi
    have hb := hs.bounds h (begin_right (by rw [begin_ok h.ok hi])).1
    have hbp : b.places = ((P + S : Nat) : Int) := by rw [h.net]
    exact ⟨_, run_nil.2 ⟨fits_mk h.ok_net (by rw [hs.len, hbp]) ((rightL_iff _).2 hb), rfl⟩, hs⟩
  | k + 1, hk => by
    obtain ⟨m, hr, hs⟩ := case_run h hi hno k (by omega)
    have he := err_at n (beginC n i).1 (os := os) (k := k) (by omega)
    by_cases h0 : nth (playC n (beginC n i).1 os).2 k = 0
    · rw [h0] at he
      obtain ⟨t, ht, hd⟩ := do_ok.1 (show doC n (caseAt n (beginC n i).1 os k) (opAt os k).1 (opAt os k).2 = ((doC n (caseAt n (beginC n i).1 os k) (opAt os k).1 (opAt os k).2).1, 0) from Prod.ext rfl he.symm)
      obtain ⟨m', hf, hs'⟩ := hs.step h hd (hno k (by omega))
      refine ⟨m', ?_, ?_⟩
      · rw [seqTo_yes h0]
        refine run_one hr ?_
        unfold posOf
        rw [ht, Int.toNat_natCast]
        exact hf
      · rw [caseAt_succ n _ (by omega)]
        unfold stepC
        rw [if_pos he.symm]
        exact hs'
    · refine ⟨m, by rw [seqTo_no h0]; exact hr, ?_⟩
      rw [caseAt_succ n _ (by omega)]
      unfold stepC
      rw [if_neg (by rw [← he]; exact h0)]
      exact hs

theorem done_in {n : NetL} {i : Int} {os : List (Int × Int)} {k : Nat} (hk : k < os.length) (h0 : nth (playC n (beginC n i).1 os).2 k = 0) : ∃ t : Nat, (opAt os k).2 = t ∧ t < n.trans.length ∧ 1 ≤ (opAt os k).1 ∧ (opAt os k).1 ≤ 4 := by
  have he := err_at n (beginC n i).1 hk
  rw [h0] at he
  obtain ⟨t, ht, hd⟩ := do_ok.1 (show doC n (caseAt n (beginC n i).1 os k) (opAt os k).1 (opAt os k).2 = ((doC n (caseAt n (beginC n i).1 os k) (opAt os k).1 (opAt os k).2).1, 0) from Prod.ext rfl he.symm)
  exact ⟨t, ht, hd.lt, hd.kind1, hd.kind4⟩

/-- Where each transition stands in the wider net; its place. -/
def atL (ts : List TranL) (k : Nat) : List Int := (List.range k).map fun t => ((t + seenTo ts t : Nat) : Int)
def placeL (ts : List TranL) (P k : Nat) : List Int := (List.range k).map fun t => ((P + seenTo ts t : Nat) : Int)
theorem atL_succ (ts : List TranL) (k : Nat) : atL ts (k + 1) = atL ts k ++ [((k + seenTo ts k : Nat) : Int)] := by simp [atL, List.range_succ]
theorem placeL_succ (ts : List TranL) (P k : Nat) : placeL ts P (k + 1) = placeL ts P k ++ [((P + seenTo ts k : Nat) : Int)] := by simp [placeL, List.range_succ]
theorem atL_length (ts : List TranL) (k : Nat) : (atL ts k).length = k := by simp [atL]
theorem placeL_length (ts : List TranL) (P k : Nat) : (placeL ts P k).length = k := by simp [placeL]
theorem atL_at (ts : List TranL) {t k : Nat} (h : t < k) : nth (atL ts k) t = ((t + seenTo ts t : Nat) : Int) := by
  unfold nth atL; rw [List.getD_eq_getElem?_getD, List.getElem?_map, List.getElem?_range h]; rfl
theorem placeL_at (ts : List TranL) (P : Nat) {t k : Nat} (h : t < k) : nth (placeL ts P k) t = ((P + seenTo ts t : Nat) : Int) := by
  unfold nth placeL; rw [List.getD_eq_getElem?_getD, List.getElem?_map, List.getElem?_range h]; rfl

end Go.Proofs.Ytaladbcocealnaa

/- Plain words for what was done at a desk, as bytes. -/
namespace Go.Proofs.Ytaladbcocealnaa
set_option linter.unusedVariables false
set_option maxRecDepth 4000

def isByte (x : Int) : Prop := 0 ≤ x ∧ x < 256
/-- Bits turned to the left. -/
def rotN (x k : Nat) : Nat := (x * 2 ^ k) % 256 ||| x / 2 ^ (8 - k)
def rotI (x : Int) (k : Nat) : Int := ((rotN x.toNat k : Nat) : Int)
def xorI (a b : Int) : Int := ((a.toNat ^^^ b.toNat : Nat) : Int)
/-- The sum of the first k. -/
def sumJ (xs : List Int) : Nat → Int
  | 0 => 90
  | k + 1 => xorI (sumJ xs k) (rotI (nth xs k) k)

theorem rot_back : ∀ x, x < 256 → ∀ k, k < 6 → rotN (rotN x k) (8 - k) = x := by decide
theorem rot_lt {x k : Nat} (hx : x < 256) (hk : k ≤ 8) : rotN x k < 256 := by
  unfold rotN
  exact Nat.or_lt_two_pow (n := 8) (Nat.mod_lt _ (by decide)) (Nat.lt_of_le_of_lt (Nat.div_le_self _ _) hx)
theorem rotI_byte {x : Int} {k : Nat} (hx : isByte x) (hk : k ≤ 8) : isByte (rotI x k) := by
  have := rot_lt (x := x.toNat) (k := k) (by have := hx.1; have := hx.2; omega) hk
  exact ⟨by unfold rotI; omega, by unfold rotI; omega⟩
theorem rotI_inj {x y : Int} {k : Nat} (hx : isByte x) (hy : isByte y) (hk : k < 6) (h : rotI x k = rotI y k) : x = y := by
  have h1 := rot_back x.toNat (by have := hx.1; have := hx.2; omega) k hk
  have h2 := rot_back y.toNat (by have := hy.1; have := hy.2; omega) k hk
  have e : rotN x.toNat k = rotN y.toNat k := by unfold rotI at h; omega
  rw [e, h2] at h1
  have := hx.1; have := hy.1; omega
theorem xorI_byte {a b : Int} (ha : isByte a) (hb : isByte b) : isByte (xorI a b) := by
  have := Nat.xor_lt_two_pow (n := 8) (x := a.toNat) (y := b.toNat) (by have := ha.1; have := ha.2; omega) (by have := hb.1; have := hb.2; omega)
  exact ⟨by unfold xorI; omega, by unfold xorI; omega⟩
theorem nat_xor_cancel (a b : Nat) : a ^^^ (a ^^^ b) = b := by rw [← Nat.xor_assoc, Nat.xor_self, Nat.zero_xor]
theorem xorI_left {a b c : Int} (hb : isByte b) (hc : isByte c) (h : xorI a b = xorI a c) : b = c := by
  have e : a.toNat ^^^ b.toNat = a.toNat ^^^ c.toNat := by unfold xorI at h; omega
  have e2 := congrArg (a.toNat ^^^ ·) e
  simp only [nat_xor_cancel] at e2
  have := hb.1; have := hc.1; omega
theorem xorI_comm (a b : Int) : xorI a b = xorI b a := by unfold xorI; rw [Nat.xor_comm]
theorem sumJ_byte {xs : List Int} (h : ∀ j, isByte (nth xs j)) : ∀ {k : Nat}, k ≤ 8 → isByte (sumJ xs k)
  | 0, _ => ⟨by show (0 : Int) ≤ 90; decide, by show (90 : Int) < 256; decide⟩
  | k + 1, hk => xorI_byte (sumJ_byte h (by omega)) (rotI_byte (h k) (by omega))
theorem sumJ_congr {xs ys : List Int} : ∀ {k : Nat}, (∀ j, j < k → nth xs j = nth ys j) → sumJ xs k = sumJ ys k
  | 0, _ => rfl
  | k + 1, h => by rw [sumJ, sumJ, sumJ_congr fun j hj => h j (by omega), h k (by omega)]
theorem sumJ_diff {xs ys : List Int} {j : Nat} (hx : ∀ j, isByte (nth xs j)) (hy : ∀ j, isByte (nth ys j)) (hj : j < 6) (hne : nth xs j ≠ nth ys j) : ∀ {k : Nat}, k ≤ 6 → j < k → (∀ i, i < k → i ≠ j → nth xs i = nth ys i) → sumJ xs k ≠ sumJ ys k
  | 0, _, h, _ => absurd h (Nat.not_lt_zero _)
  | k + 1, hk, h, hi => fun e => by
    rw [sumJ, sumJ] at e
    by_cases q : j = k
    · subst q
      rw [sumJ_congr (xs := xs) (ys := ys) fun i h2 => hi i (by omega) (by omega)] at e
      exact hne (rotI_inj (hx j) (hy j) hj (xorI_left (rotI_byte (hx j) (by omega)) (rotI_byte (hy j) (by omega)) e))
    · rw [hi k (by omega) (fun q2 => q q2.symm), xorI_comm, xorI_comm (sumJ ys k)] at e
      exact sumJ_diff hx hy hj hne (k := k) (by omega) (by omega) (fun i h1 h2 => hi i (by omega) h2) (xorI_left (sumJ_byte hx (by omega)) (sumJ_byte hy (by omega)) e)

/-! ### written -/
def inB (x m : Int) : Bool := decide (0 ≤ x) && decide (x ≤ m)
def fitsO (o : DOp) : Bool := inB o.kind 255 && inB o.user 255 && inB o.tran 255 && inB o.hand 255 && inB o.item 65535
def six (o : DOp) : List Int := [o.kind, o.user, o.tran, o.hand, o.item / 256, o.item % 256]
def seven (o : DOp) : List Int := [o.kind, o.user, o.tran, o.hand, o.item / 256, o.item % 256, sumJ (six o) 6]
def writeJ (o : DOp) : List Int × Int := if fitsO o then (seven o, 0) else ([], 2)
def opJ (xs : List Int) : DOp := ⟨nth xs 0, nth xs 1, nth xs 2, nth xs 4 * 256 + nth xs 5, nth xs 3⟩

theorem fits_iff (o : DOp) : fitsO o = true ↔ isByte o.kind ∧ isByte o.user ∧ isByte o.tran ∧ isByte o.hand ∧ 0 ≤ o.item ∧ o.item < 65536 := by
  simp only [fitsO, inB, isByte, Bool.and_eq_true, decide_eq_true_eq]
  omega
theorem seven_length (o : DOp) : (seven o).length = 7 := rfl
theorem bytes7 {xs : List Int} (hl : xs.length = 7) (h : ∀ j, j < 7 → isByte (nth xs j)) (j : Nat) : isByte (nth xs j) := by
  by_cases hj : j < 7
  · exact h j hj
  · rw [nth_past _ _ (by omega)]; exact ⟨by decide, by decide⟩
theorem six_byte {o : DOp} (h : fitsO o = true) (j : Nat) : isByte (nth (six o) j) := by
  obtain ⟨h1, h2, h3, h4, h5, h6⟩ := (fits_iff o).1 h
  match j with
  | 0 => exact h1
  | 1 => exact h2
  | 2 => exact h3
  | 3 => exact h4
  | 4 => exact ⟨by show 0 ≤ o.item / 256; omega, by show o.item / 256 < 256; omega⟩
  | 5 => exact ⟨by show 0 ≤ o.item % 256; omega, by show o.item % 256 < 256; omega⟩
  | j + 6 => rw [nth_past _ _ (by show 6 ≤ j + 6; omega)]; exact ⟨by decide, by decide⟩
theorem seven_byte {o : DOp} (h : fitsO o = true) (j : Nat) : isByte (nth (seven o) j) := by
  match j with
  | 0 => exact six_byte h 0
  | 1 => exact six_byte h 1
  | 2 => exact six_byte h 2
  | 3 => exact six_byte h 3
  | 4 => exact six_byte h 4
  | 5 => exact six_byte h 5
  | 6 => exact sumJ_byte (fun j => six_byte h j) (by omega)
  | j + 7 => rw [nth_past _ _ (by show 7 ≤ j + 7; omega)]; exact ⟨by decide, by decide⟩
theorem seven_sum (o : DOp) : sumJ (seven o) 6 = nth (seven o) 6 := by
  have : sumJ (seven o) 6 = sumJ (six o) 6 := sumJ_congr fun j hj => by
    match j, hj with
    | 0, _ => rfl
    | 1, _ => rfl
    | 2, _ => rfl
    | 3, _ => rfl
    | 4, _ => rfl
    | 5, _ => rfl
  exact this
theorem op_seven {o : DOp} (h : fitsO o = true) : opJ (seven o) = o := by
  obtain ⟨h1, h2, h3, h4, h5, h6⟩ := (fits_iff o).1 h
  cases o with
  | mk a b c d e =>
    show DOp.mk a b c (d / 256 * 256 + d % 256) e = _
    have : d / 256 * 256 + d % 256 = d := by omega
    rw [this]
theorem list7 {xs ys : List Int} (h1 : xs.length = 7) (h2 : ys.length = 7) (h : ∀ j, j < 7 → nth xs j = nth ys j) : xs = ys := by
  refine List.ext_getElem (by omega) fun i q1 q2 => ?_
  have := h i (by omega)
  simpa [nth, List.getD, List.getElem?_eq_getElem q1, List.getElem?_eq_getElem q2] using this
theorem op_fits {xs : List Int} (h : ∀ j, isByte (nth xs j)) : fitsO (opJ xs) = true := by
  have h4 := h 4
  have h5 := h 5
  refine (fits_iff _).2 ⟨h 0, h 1, h 2, h 3, ?_, ?_⟩
  · show 0 ≤ nth xs 4 * 256 + nth xs 5
    have := h4.1; have := h5.1; omega
  · show nth xs 4 * 256 + nth xs 5 < 65536
    have := h4.2; have := h5.2; omega
theorem seven_op {xs : List Int} (hl : xs.length = 7) (h : ∀ j, isByte (nth xs j)) (hs : sumJ xs 6 = nth xs 6) : seven (opJ xs) = xs := by
  have h4 := h 4
  have h5 := h 5
  have e4 : nth (seven (opJ xs)) 4 = nth xs 4 := by show (nth xs 4 * 256 + nth xs 5) / 256 = nth xs 4; have := h5.1; have := h5.2; omega
  have e5 : nth (seven (opJ xs)) 5 = nth xs 5 := by show (nth xs 4 * 256 + nth xs 5) % 256 = nth xs 5; have := h5.1; have := h5.2; omega
  have e6 : nth (seven (opJ xs)) 6 = nth xs 6 := by
    rw [← seven_sum, ← hs]
    refine sumJ_congr fun j hj => ?_
    match j, hj with
    | 0, _ => rfl
    | 1, _ => rfl
    | 2, _ => rfl
    | 3, _ => rfl
    | 4, _ => exact e4
    | 5, _ => exact e5
  refine list7 rfl hl fun j hj => ?_
  match j, hj with
  | 0, _ => rfl
  | 1, _ => rfl
  | 2, _ => rfl
  | 3, _ => rfl
  | 4, _ => exact e4
  | 5, _ => exact e5
  | 6, _ => exact e6

/-! ### read -/
/-- The j-th seven bytes. -/
def blk (xs : List Int) (j : Nat) : List Int := (List.range 7).map fun i => nth xs (7 * j + i)
theorem blk_length (xs : List Int) (j : Nat) : (blk xs j).length = 7 := by simp [blk]
theorem blk_at (xs : List Int) (j i : Nat) (hi : i < 7) : nth (blk xs j) i = nth xs (7 * j + i) := by
  simp [nth, blk, List.getD, hi]
def goodB (xs : List Int) (j : Nat) : Prop := sumJ (blk xs j) 6 = nth xs (7 * j + 6)
structure ReadOk (xs : List Int) (l : List DOp) (e : Int) : Prop where
  room : 7 * l.length ≤ xs.length
  good : ∀ j, j < l.length → goodB xs j ∧ dopAt l j = opJ (blk xs j)
  stop : (e = 0 ∧ xs.length < 7 * (l.length + 1)) ∨ (e = 8 ∧ 7 * (l.length + 1) ≤ xs.length ∧ ¬ goodB xs l.length)
theorem dop_ext {l m : List DOp} (hl : l.length = m.length) (h : ∀ j, j < l.length → dopAt l j = dopAt m j) : l = m := by
  refine List.ext_getElem hl fun i h1 h2 => ?_
  have := h i h1
  simpa [dopAt, List.getD, List.getElem?_eq_getElem h1, List.getElem?_eq_getElem h2] using this
theorem ReadOk.unique {xs : List Int} {l m : List DOp} {e f : Int} (h : ReadOk xs l e) (k : ReadOk xs m f) : l = m ∧ e = f := by
  have hlen : l.length = m.length := by
    rcases Nat.lt_trichotomy l.length m.length with q | q | q
    · rcases h.stop with ⟨_, h2⟩ | ⟨_, _, h2⟩
      · have := k.room; omega
      · exact absurd (k.good l.length q).1 h2
    · exact q
    · rcases k.stop with ⟨_, h2⟩ | ⟨_, _, h2⟩
      · have := h.room; omega
      · exact absurd (h.good m.length q).1 h2
  refine ⟨dop_ext hlen fun j hj => by rw [(h.good j hj).2, (k.good j (by omega)).2], ?_⟩
  rcases h.stop with ⟨h1, h2⟩ | ⟨h1, h2, h3⟩ <;> rcases k.stop with ⟨k1, k2⟩ | ⟨k1, k2, k3⟩ <;> omega

/-- All of some, one behind the other. -/
def writtenL (l : List DOp) : List Int := l.flatMap seven
theorem written_length : ∀ l : List DOp, (writtenL l).length = 7 * l.length
  | [] => rfl
  | o :: l => by
    have := written_length l
    simp only [writtenL, List.flatMap_cons, List.length_append, seven_length, List.length_cons] at this ⊢
    omega
theorem nth_app_left {xs ys : List Int} {p : Nat} (h : p < xs.length) : nth (xs ++ ys) p = nth xs p := by simp [nth, List.getD, List.getElem?_append_left h]
theorem nth_app_right {xs ys : List Int} {p : Nat} (h : xs.length ≤ p) : nth (xs ++ ys) p = nth ys (p - xs.length) := by simp [nth, List.getD, List.getElem?_append_right h]
theorem written_at : ∀ (l : List DOp) (j i : Nat), j < l.length → i < 7 → nth (writtenL l) (7 * j + i) = nth (seven (dopAt l j)) i
  | [], j, i, h, _ => absurd h (Nat.not_lt_zero _)
  | o :: l, 0, i, _, hi => by
    show nth (seven o ++ writtenL l) (7 * 0 + i) = _
    rw [Nat.mul_zero, Nat.zero_add, nth_app_left (by rw [seven_length]; exact hi)]
    rfl
  | o :: l, j + 1, i, h, hi => by
    have := written_at l j i (by simpa using h) hi
    show nth (seven o ++ writtenL l) (7 * (j + 1) + i) = _
    rw [nth_app_right (by rw [seven_length]; omega), seven_length, show 7 * (j + 1) + i - 7 = 7 * j + i by omega, this]
    rfl
theorem written_snoc (l : List DOp) (o : DOp) : writtenL (l ++ [o]) = writtenL l ++ seven o := by simp [writtenL, List.flatMap_append]
def AllFit (l : List DOp) : Prop := ∀ j, j < l.length → fitsO (dopAt l j) = true
theorem written_byte {l : List DOp} (h : AllFit l) (p : Nat) : isByte (nth (writtenL l) p) := by
  by_cases hp : p < 7 * l.length
  · have e : p = 7 * (p / 7) + p % 7 := by omega
    rw [e, written_at l _ _ (by omega) (by omega)]
    exact seven_byte (h _ (by omega)) _
  · rw [nth_past _ _ (by rw [written_length]; omega)]; exact ⟨by decide, by decide⟩
theorem written_blk {l : List DOp} {j : Nat} (hj : j < l.length) {ys : List Int} (h : ∀ i, i < 7 → nth ys (7 * j + i) = nth (writtenL l) (7 * j + i)) : blk ys j = seven (dopAt l j) :=
  list7 (blk_length _ _) rfl fun i hi => by rw [blk_at _ _ _ hi, h i hi, written_at l j i hj hi]
theorem good_of {ys : List Int} {j : Nat} {o : DOp} (h : blk ys j = seven o) : goodB ys j := by
  unfold goodB
  rw [h, seven_sum, ← h, blk_at _ _ _ (by omega)]
theorem dop_take {l : List DOp} {k j : Nat} (h : j < k) : dopAt (l.take k) j = dopAt l j := by simp [dopAt, List.getD, h]

/-- What was written is read; where it was torn, all that was whole is. -/
theorem read_back {l : List DOp} {n : Nat} (hf : AllFit l) (hn : n ≤ 7 * l.length) : ReadOk ((writtenL l).take n) (l.take (n / 7)) 0 := by
  have hl : (l.take (n / 7)).length = n / 7 := by rw [List.length_take]; omega
  have hx : ((writtenL l).take n).length = n := by rw [List.length_take, written_length]; omega
  refine ⟨by rw [hl, hx]; omega, fun j hj => ?_, .inl ⟨rfl, by rw [hl, hx]; omega⟩⟩
  rw [hl] at hj
  have hb : blk ((writtenL l).take n) j = seven (dopAt l j) := written_blk (by omega) fun i hi => by simp [nth, List.getD, show 7 * j + i < n by omega]
  refine ⟨good_of hb, ?_⟩
  rw [dop_take hj, hb, op_seven (hf j (by omega))]
/-- A byte that was spoilt is seen. -/
theorem read_spoilt {l : List DOp} {p : Nat} {c : Int} (hf : AllFit l) (hp : p < 7 * l.length) (hc : isByte c) (hne : nth (writtenL l) p ≠ c) : ReadOk ((writtenL l).set p c) (l.take (p / 7)) 8 := by
  have hl : (l.take (p / 7)).length = p / 7 := by rw [List.length_take]; omega
  have hx : ((writtenL l).set p c).length = 7 * l.length := by rw [List.length_set, written_length]
  have hat : ∀ q, nth ((writtenL l).set p c) q = if q = p then c else nth (writtenL l) q := fun q => nth_set' _ _ _ _ (by rw [written_length]; exact hp)
  refine ⟨by rw [hl, hx]; omega, fun j hj => ?_, .inr ⟨rfl, by rw [hl, hx]; omega, ?_⟩⟩
  · rw [hl] at hj
    have hb : blk ((writtenL l).set p c) j = seven (dopAt l j) := written_blk (by omega) fun i hi => by rw [hat, if_neg (by omega)]
    refine ⟨good_of hb, ?_⟩
    rw [dop_take hj, hb, op_seven (hf j (by omega))]
  · rw [hl]
    intro hg
    have hj : p / 7 < l.length := by omega
    have hbl : ∀ i, i < 7 → nth (blk ((writtenL l).set p c) (p / 7)) i = if i = p % 7 then c else nth (seven (dopAt l (p / 7))) i := fun i hi => by
      rw [blk_at _ _ _ hi, hat]
      by_cases e : i = p % 7
      · rw [if_pos e, if_pos (by omega)]
      · rw [if_neg e, if_neg (by omega), written_at l _ _ hj hi]
    have hsb := seven_byte (hf _ hj)
    have hbb : ∀ j, isByte (nth (blk ((writtenL l).set p c) (p / 7)) j) := bytes7 (blk_length _ _) fun i hi => by
      rw [hbl i hi]
      split
      · exact hc
      · exact hsb i
    have hpe : p = 7 * (p / 7) + p % 7 := by omega
    rw [hpe, written_at l _ _ hj (by omega)] at hne
    unfold goodB at hg
    rw [← blk_at _ _ _ (show 6 < 7 by omega), hbl 6 (by omega)] at hg
    by_cases h6 : p % 7 = 6
    · rw [if_pos h6.symm] at hg
      have : sumJ (blk ((writtenL l).set p c) (p / 7)) 6 = sumJ (seven (dopAt l (p / 7))) 6 := sumJ_congr fun i hi => by rw [hbl i (by omega), if_neg (by omega)]
      rw [this, seven_sum] at hg
      rw [h6] at hne
      exact hne hg
    · rw [if_neg (fun e => h6 e.symm), ← seven_sum] at hg
      exact sumJ_diff (j := p % 7) hbb hsb (by omega) (by rw [hbl _ (by omega), if_pos rfl]; exact fun e => hne e.symm) (k := 6) (by omega) (by omega) (fun i hi hne2 => by rw [hbl i (by omega), if_neg hne2]) hg
/-- Nothing is read that was not written. -/
theorem read_only {xs : List Int} {l : List DOp} {e : Int} (h : ReadOk xs l e) (hb : ∀ p, isByte (nth xs p)) : AllFit l ∧ writtenL l = xs.take (7 * l.length) := by
  have hbb : ∀ j i, isByte (nth (blk xs j) i) := fun j => bytes7 (blk_length _ _) fun i hi => by rw [blk_at _ _ _ hi]; exact hb _
  refine ⟨fun j hj => ?_, ?_⟩
  · rw [(h.good j hj).2]; exact op_fits (hbb j)
  · have hr := h.room
    refine List.ext_getElem (by rw [written_length, List.length_take]; omega) fun p h1 h2 => ?_
    rw [written_length] at h1
    have e : p = 7 * (p / 7) + p % 7 := by omega
    have hj : p / 7 < l.length := by omega
    have q := written_at l (p / 7) (p % 7) hj (by omega)
    obtain ⟨g1, g2⟩ := h.good _ hj
    rw [g2, seven_op (blk_length _ _) (hbb _) (by rw [blk_at _ _ _ (by omega)]; exact g1), blk_at _ _ _ (by omega), ← e] at q
    have hp : p < (writtenL l).length := by rw [written_length]; exact h1
    have hp2 : p < xs.length := by omega
    simp only [List.getElem_take]
    simpa [nth, List.getD, List.getElem?_eq_getElem hp, List.getElem?_eq_getElem hp2] using q

end Go.Proofs.Ytaladbcocealnaa

/- Plain words for a desk that begins again where it was. -/
namespace Go.Proofs.Ytaladbcocealnaa
set_option linter.unusedVariables false
set_option maxRecDepth 4000

structure HOp where
  kind : Int
  keep : Int
  op : DOp
/-- A hall: the desk, what is written (seven bytes each), and how much of that is sure. -/
structure HallL where
  desk : DeskL
  ws : List DOp
  sure : Nat

/-- How much is left behind a crash. -/
def leftH (h : HallL) (keep : Int) : Nat := h.sure + min ((max keep 0).toNat / 7) (h.ws.length - h.sure)
def hallDo (n : NetL) (roles : List (List Int)) (first : DeskL) (h : HallL) (o : HOp) : HallL × DAns :=
  if o.kind = 1 then
    (if fitsO o.op then
      (if (deskDo n roles h.desk o.op).2.err = 0 then (⟨(deskDo n roles h.desk o.op).1, h.ws ++ [o.op], h.sure⟩, (deskDo n roles h.desk o.op).2) else (h, (deskDo n roles h.desk o.op).2))
    else (h, ⟨2, 0⟩))
  else if o.kind = 2 then (⟨h.desk, h.ws, h.ws.length⟩, ⟨0, 0⟩)
  else if o.kind = 3 then (⟨(deskPlay n roles first (h.ws.take (leftH h o.keep))).1, h.ws.take (leftH h o.keep), leftH h o.keep⟩, ⟨0, 0⟩)
  else (h, ⟨5, 0⟩)
def hallPlay (n : NetL) (roles : List (List Int)) (first : DeskL) : HallL → List HOp → HallL × List DAns
  | h, [] => (h, [])
  | h, o :: os => ((hallPlay n roles first (hallDo n roles first h o).1 os).1, (hallDo n roles first h o).2 :: (hallPlay n roles first (hallDo n roles first h o).1 os).2)
def hallAll (n : NetL) (i : Int) (roles : List (List Int)) (os : List HOp) : DeskL × List DAns × Int :=
  if (beginC n i).2 = 0 then ((hallPlay n roles (deskBegin n i) ⟨deskBegin n i, [], 0⟩ os).1.desk, (hallPlay n roles (deskBegin n i) ⟨deskBegin n i, [], 0⟩ os).2, 0) else (noDesk, [], (beginC n i).2)

theorem hall_append (n : NetL) (roles : List (List Int)) (first : DeskL) : ∀ (xs : List HOp) (h : HallL) (ys : List HOp), hallPlay n roles first h (xs ++ ys) = ((hallPlay n roles first (hallPlay n roles first h xs).1 ys).1, (hallPlay n roles first h xs).2 ++ (hallPlay n roles first (hallPlay n roles first h xs).1 ys).2)
  | [], h, ys => by simp [hallPlay]
  | x :: xs, h, ys => by
    have := hall_append n roles first xs (hallDo n roles first h x).1 ys
    simp only [List.cons_append, hallPlay, this]
theorem hall_length (n : NetL) (roles : List (List Int)) (first : DeskL) : ∀ (xs : List HOp) (h : HallL), (hallPlay n roles first h xs).2.length = xs.length
  | [], h => rfl
  | x :: xs, h => by simp only [hallPlay, List.length_cons, hall_length n roles first xs]

/-- What a hall keeps: the desk is what was written, from the beginning on; all of it fits, and had no error. -/
structure HallInv (n : NetL) (roles : List (List Int)) (first : DeskL) (h : HallL) : Prop where
  sure : h.sure ≤ h.ws.length
  fit : AllFit h.ws
  desk : h.desk = (deskPlay n roles first h.ws).1
  fine : ∀ k, k < h.ws.length → (dansAt (deskPlay n roles first h.ws).2 k).err = 0
theorem inv_begin (n : NetL) (roles : List (List Int)) (first : DeskL) : HallInv n roles first ⟨first, [], 0⟩ := ⟨Nat.le_refl _, fun j hj => absurd hj (Nat.not_lt_zero _), rfl, fun j hj => absurd hj (Nat.not_lt_zero _)⟩
theorem left_le {h : HallL} (hs : h.sure ≤ h.ws.length) (keep : Int) : h.sure ≤ leftH h keep ∧ leftH h keep ≤ h.ws.length := by
  unfold leftH
  omega
theorem dop_app_left {l m : List DOp} {k : Nat} (h : k < l.length) : dopAt (l ++ m) k = dopAt l k := by simp [dopAt, List.getD, List.getElem?_append_left h]
theorem dop_app_last (l : List DOp) (o : DOp) : dopAt (l ++ [o]) l.length = o := by simp [dopAt, List.getD]
theorem dans_app_left {l m : List DAns} {k : Nat} (h : k < l.length) : dansAt (l ++ m) k = dansAt l k := by simp [dansAt, List.getD, List.getElem?_append_left h]
theorem dans_app_last (l : List DAns) (o : DAns) : dansAt (l ++ [o]) l.length = o := by simp [dansAt, List.getD]
theorem play_take {n : NetL} {roles : List (List Int)} {first : DeskL} {ws : List DOp} {s k : Nat} (hs : s ≤ ws.length) (hk : k < s) : dansAt (deskPlay n roles first (ws.take s)).2 k = dansAt (deskPlay n roles first ws).2 k := by
  have e := desk_append n roles (ws.take s) first (ws.drop s)
  rw [List.take_append_drop] at e
  rw [e]
  simp only
  rw [dans_app_left (by rw [desk_length, List.length_take]; omega)]
theorem HallInv.cut {n : NetL} {roles : List (List Int)} {first : DeskL} {h : HallL} (hi : HallInv n roles first h) {s : Nat} (hs : s ≤ h.ws.length) : HallInv n roles first ⟨(deskPlay n roles first (h.ws.take s)).1, h.ws.take s, s⟩ := by
  have hl : (h.ws.take s).length = s := by rw [List.length_take]; omega
  refine ⟨by show s ≤ (h.ws.take s).length; omega, fun j hj => ?_, rfl, fun k hk => ?_⟩
  · have hj : j < s := by rw [hl] at hj; exact hj
    rw [dop_take hj]
    exact hi.fit j (by omega)
  · have hk : k < s := by have : k < (h.ws.take s).length := hk; omega
    show (dansAt (deskPlay n roles first (h.ws.take s)).2 k).err = 0
    rw [play_take hs hk]
    exact hi.fine k (by omega)
theorem HallInv.step {n : NetL} {roles : List (List Int)} {first : DeskL} {h : HallL} (hi : HallInv n roles first h) (o : HOp) : HallInv n roles first (hallDo n roles first h o).1 := by
  unfold hallDo
  by_cases h1 : o.kind = 1
  · rw [if_pos h1]
    cases hf : fitsO o.op with
    | false => simpa using hi
    | true =>
      simp only [if_true]
      by_cases he : (deskDo n roles h.desk o.op).2.err = 0
      · rw [if_pos he]
        have e := desk_snoc n roles h.ws first o.op
        rw [← hi.desk] at e
        refine ⟨by show h.sure ≤ (h.ws ++ [o.op]).length; rw [List.length_append]; have := hi.sure; omega, fun j hj => ?_, ?_, fun k hk => ?_⟩
        · have hj : j < h.ws.length + 1 := by simpa using hj
          by_cases q : j < h.ws.length
          · rw [dop_app_left q]; exact hi.fit j q
          · obtain rfl : j = h.ws.length := by omega
            rw [dop_app_last]; exact hf
        · show _ = (deskPlay n roles first (h.ws ++ [o.op])).1
          rw [e]
        · have hk : k < h.ws.length + 1 := by simpa using hk
          show (dansAt (deskPlay n roles first (h.ws ++ [o.op])).2 k).err = 0
          rw [e]
          simp only
          by_cases q : k < h.ws.length
          · rw [dans_app_left (by rw [desk_length]; exact q)]; exact hi.fine k q
          · obtain rfl : k = h.ws.length := by omega
            have := dans_app_last (deskPlay n roles first h.ws).2 (deskDo n roles h.desk o.op).2
            rw [desk_length] at this
            rw [this]; exact he
      · rw [if_neg he]; exact hi
  · rw [if_neg h1]
    by_cases h2 : o.kind = 2
    · rw [if_pos h2]; exact ⟨Nat.le_refl _, hi.fit, hi.desk, hi.fine⟩
    · rw [if_neg h2]
      by_cases h3 : o.kind = 3
      · rw [if_pos h3]; exact hi.cut (left_le hi.sure _).2
      · rw [if_neg h3]; exact hi
theorem HallInv.play {n : NetL} {roles : List (List Int)} {first : DeskL} : ∀ (os : List HOp) {h : HallL}, HallInv n roles first h → HallInv n roles first (hallPlay n roles first h os).1
  | [], h, hi => hi
  | o :: os, h, hi => HallInv.play os (hi.step o)

/-- Behind a crash: the desk is what was left, from the beginning on. -/
theorem crash_desk (n : NetL) (roles : List (List Int)) (first : DeskL) (h : HallL) (o : HOp) (hk : o.kind = 3) : (hallDo n roles first h o).1 = ⟨(deskPlay n roles first (h.ws.take (leftH h o.keep))).1, h.ws.take (leftH h o.keep), leftH h o.keep⟩ := by
  unfold hallDo
  rw [if_neg (by omega), if_neg (by omega), if_pos hk]
/-- One crash more loses nothing more. -/
theorem hall_twice (n : NetL) (roles : List (List Int)) (first : DeskL) {h : HallL} (hi : HallInv n roles first h) (o p : HOp) (ho : o.kind = 3) (hp : p.kind = 3) : ((hallDo n roles first (hallDo n roles first h o).1 p).1).desk = (hallDo n roles first h o).1.desk := by
  rw [crash_desk n roles first h o ho, crash_desk n roles first _ p hp]
  have hl := (left_le hi.sure o.keep).2
  have e : leftH ⟨(deskPlay n roles first (h.ws.take (leftH h o.keep))).1, h.ws.take (leftH h o.keep), leftH h o.keep⟩ p.keep = leftH h o.keep := by
    show leftH h o.keep + min _ ((h.ws.take (leftH h o.keep)).length - leftH h o.keep) = _
    rw [List.length_take]
    omega
  simp only [e]
  rw [List.take_take, Nat.min_self]

end Go.Proofs.Ytaladbcocealnaa

/- What the laws on halls ask, plainly. -/
namespace Go.Proofs.Ytaladbcocealnaa
set_option linter.unusedVariables false
set_option linter.unusedSimpArgs false
set_option maxRecDepth 4000

def noHOp : HOp := ⟨0, 0, noDOp⟩
def hopAt (l : List HOp) (k : Nat) : HOp := l.getD k noHOp
def hallAt (n : NetL) (roles : List (List Int)) (first : DeskL) (h : HallL) (os : List HOp) (k : Nat) : HallL := (hallPlay n roles first h (os.take k)).1
theorem hop_snoc {os : List HOp} {k : Nat} (h : k < os.length) : os.take (k + 1) = os.take k ++ [hopAt os k] := by
  rw [List.take_add_one]
  simp [hopAt, List.getD, List.getElem?_eq_getElem h]
theorem hallAt_succ (n : NetL) (roles : List (List Int)) (first : DeskL) (h : HallL) {os : List HOp} {k : Nat} (hk : k < os.length) : hallAt n roles first h os (k + 1) = (hallDo n roles first (hallAt n roles first h os k) (hopAt os k)).1 := by
  unfold hallAt
  rw [hop_snoc hk, hall_append]
  rfl
theorem hallAt_all (n : NetL) (roles : List (List Int)) (first : DeskL) (h : HallL) {os : List HOp} {k : Nat} (hk : os.length ≤ k) : hallAt n roles first h os k = (hallPlay n roles first h os).1 := by
  unfold hallAt
  rw [List.take_of_length_le hk]
theorem hallAns_at (n : NetL) (roles : List (List Int)) (first : DeskL) (h : HallL) {os : List HOp} {k : Nat} (hk : k < os.length) : dansAt (hallPlay n roles first h os).2 k = (hallDo n roles first (hallAt n roles first h os k) (hopAt os k)).2 := by
  have e : os = os.take k ++ (hopAt os k :: os.drop (k + 1)) := by
    have := List.take_append_drop k os
    rw [List.drop_eq_getElem_cons hk] at this
    rw [show hopAt os k = os[k] by simp [hopAt, List.getD, List.getElem?_eq_getElem hk]]
    exact this.symm
  have hl : (hallPlay n roles first h (os.take k)).2.length = k := by rw [hall_length, List.length_take]; omega
  have e2 : (hallPlay n roles first h os).2 = (hallPlay n roles first h (os.take k)).2 ++ (hallDo n roles first (hallPlay n roles first h (os.take k)).1 (hopAt os k)).2 :: (hallPlay n roles first (hallDo n roles first (hallPlay n roles first h (os.take k)).1 (hopAt os k)).1 (os.drop (k + 1))).2 := by
    have q := congrArg (fun z => (hallPlay n roles first h z).2) e
    rw [q, hall_append]
    rfl
  rw [e2]
  simp [dansAt, List.getD, List.getElem?_append_right, hl]
  rfl

/-- What was done, and had no error, of the first so many. -/
def ackTo (os : List HOp) (l : List DAns) : Nat → List DOp
  | 0 => []
  | k + 1 => ackTo os l k ++ (if (hopAt os k).kind = 1 ∧ (dansAt l k).err = 0 then [(hopAt os k).op] else [])
theorem ackTo_le (os : List HOp) (l : List DAns) : ∀ k, (ackTo os l k).length ≤ k
  | 0 => Nat.le_refl _
  | k + 1 => by
    have := ackTo_le os l k
    simp only [ackTo, List.length_append]
    split <;> simp <;> omega
theorem ackTo_yes {os : List HOp} {l : List DAns} {k : Nat} (h1 : (hopAt os k).kind = 1) (h2 : (dansAt l k).err = 0) : ackTo os l (k + 1) = ackTo os l k ++ [(hopAt os k).op] := by simp [ackTo, h1, h2]
theorem ackTo_no {os : List HOp} {l : List DAns} {k : Nat} (h : ¬ ((hopAt os k).kind = 1 ∧ (dansAt l k).err = 0)) : ackTo os l (k + 1) = ackTo os l k := by
  rw [ackTo, if_neg h, List.append_nil]
/-- One thing done: what is written, and what is sure. -/
theorem do_ws (n : NetL) (roles : List (List Int)) (first : DeskL) (h : HallL) (o : HOp) (hk : o.kind = 1) :
    (hallDo n roles first h o).1.ws = h.ws ++ (if (hallDo n roles first h o).2.err = 0 then [o.op] else []) ∧ (hallDo n roles first h o).1.sure = h.sure := by
  unfold hallDo
  rw [if_pos hk]
  cases hf : fitsO o.op with
  | false => simp
  | true =>
    simp only [if_true]
    by_cases he : (deskDo n roles h.desk o.op).2.err = 0
    · rw [if_pos he]; simp [he]
    · rw [if_neg he]; simp [he]
theorem play_ws (n : NetL) (roles : List (List Int)) (first : DeskL) (h : HallL) (os : List HOp) (hd : ∀ k, k < os.length → (hopAt os k).kind = 1) :
    ∀ k, k ≤ os.length → (hallAt n roles first h os k).ws = h.ws ++ ackTo os (hallPlay n roles first h os).2 k ∧ (hallAt n roles first h os k).sure = h.sure
  | 0, _ => by simp [hallAt, hallPlay, ackTo]
  | k + 1, hk => by
    obtain ⟨e1, e2⟩ := play_ws n roles first h os hd k (by omega)
    have hk' : k < os.length := by omega
    have hkd := hd k hk'
    obtain ⟨w1, w2⟩ := do_ws n roles first (hallAt n roles first h os k) (hopAt os k) hkd
    rw [hallAt_succ n roles first h hk', w1, w2, e1, e2]
    refine ⟨?_, rfl⟩
    have ha := hallAns_at n roles first h hk'
    rw [List.append_assoc]
    congr 1
    by_cases he : (hallDo n roles first (hallAt n roles first h os k) (hopAt os k)).2.err = 0
    · rw [if_pos he, ackTo_yes hkd (by rw [ha]; exact he)]
    · rw [if_neg he, ackTo_no (fun q => he (by rw [← ha]; exact q.2)), List.append_nil]
theorem play_acked (n : NetL) (roles : List (List Int)) (first : DeskL) (h : HallL) (os : List HOp) (hd : ∀ k, k < os.length → (hopAt os k).kind = 1) :
    (hallPlay n roles first h os).1.ws = h.ws ++ ackTo os (hallPlay n roles first h os).2 os.length ∧ (hallPlay n roles first h os).1.sure = h.sure := by
  have := play_ws n roles first h os hd os.length (Nat.le_refl _)
  rwa [hallAt_all n roles first h (Nat.le_refl _)] at this

/-- Nothing that is sure is lost, and nothing else is there. -/
theorem hall_kept (n : NetL) (roles : List (List Int)) (first : DeskL) (bs xs : List HOp) (sy cr : HOp) (hb : ∀ k, k < bs.length → (hopAt bs k).kind = 1) (ha : ∀ k, k < xs.length → (hopAt xs k).kind = 1) (hs : sy.kind = 2) (hc : cr.kind = 3) :
    (hallPlay n roles first ⟨first, [], 0⟩ ((bs ++ [sy] ++ xs) ++ [cr])).1.desk = (deskPlay n roles first (ackTo bs (hallPlay n roles first ⟨first, [], 0⟩ bs).2 bs.length ++
      (ackTo xs (hallPlay n roles first (hallDo n roles first (hallPlay n roles first ⟨first, [], 0⟩ bs).1 sy).1 xs).2 xs.length).take ((max cr.keep 0).toNat / 7))).1 := by
  obtain ⟨b1, b2⟩ := play_acked n roles first ⟨first, [], 0⟩ bs hb
  have es : (hallDo n roles first (hallPlay n roles first ⟨first, [], 0⟩ bs).1 sy).1 = ⟨(hallPlay n roles first ⟨first, [], 0⟩ bs).1.desk, (hallPlay n roles first ⟨first, [], 0⟩ bs).1.ws, (hallPlay n roles first ⟨first, [], 0⟩ bs).1.ws.length⟩ := by
    unfold hallDo
    rw [if_neg (by omega), if_pos hs]
  obtain ⟨a1, a2⟩ := play_acked n roles first (hallDo n roles first (hallPlay n roles first ⟨first, [], 0⟩ bs).1 sy).1 xs ha
  have e1 : (hallPlay n roles first ⟨first, [], 0⟩ (bs ++ [sy] ++ xs)).1 = (hallPlay n roles first (hallDo n roles first (hallPlay n roles first ⟨first, [], 0⟩ bs).1 sy).1 xs).1 := by
    rw [hall_append, hall_append]
    rfl
  rw [hall_append]
  simp only [hallPlay]
  rw [crash_desk n roles first _ cr hc, e1]
  simp only
  generalize hA : ackTo xs (hallPlay n roles first (hallDo n roles first (hallPlay n roles first ⟨first, [], 0⟩ bs).1 sy).1 xs).2 xs.length = A at *
  rw [es] at a1 a2
  simp only [List.nil_append] at b1
  generalize hB : ackTo bs (hallPlay n roles first ⟨first, [], 0⟩ bs).2 bs.length = B at *
  rw [es]
  rw [b1] at a1 a2 ⊢
  unfold leftH
  rw [a1, a2]
  congr 2
  simp only [List.length_append]
  rw [List.take_append]
  congr 1
  · exact List.take_of_length_le (by omega)
  · rcases Nat.le_total ((max cr.keep 0).toNat / 7) A.length with q | q
    · rw [show B.length + min ((max cr.keep 0).toNat / 7) (B.length + A.length - B.length) - B.length = (max cr.keep 0).toNat / 7 by omega]
    · rw [List.take_of_length_le (l := A) (by omega), List.take_of_length_le (l := A) q]

/-! ### without a crash it is a desk -/
def hallOps (os : List DOp) : List HOp := os.flatMap fun o => [⟨1, 0, o⟩, ⟨2, 0, noDOp⟩]
theorem hallOps_length : ∀ os : List DOp, (hallOps os).length = 2 * os.length
  | [] => rfl
  | o :: os => by have := hallOps_length os; simp only [hallOps, List.flatMap_cons, List.length_append, List.length_cons, List.length_nil] at this ⊢; omega
theorem hallOps_snoc (os : List DOp) (o : DOp) : hallOps (os ++ [o]) = hallOps os ++ [⟨1, 0, o⟩, ⟨2, 0, noDOp⟩] := by simp [hallOps, List.flatMap_append]
theorem same_at (n : NetL) (roles : List (List Int)) (first : DeskL) (os : List DOp) (hf : AllFit os) : ∀ k, k ≤ os.length →
    (hallPlay n roles first ⟨first, [], 0⟩ (hallOps (os.take k))).1 = ⟨deskAt n roles first os k, (goodTo n roles first os k).1, (goodTo n roles first os k).1.length⟩
  | 0, _ => rfl
  | k + 1, hk => by
    have ih := same_at n roles first os hf k (by omega)
    rw [dop_snoc (by omega), hallOps_snoc, hall_append, ih]
    simp only [hallPlay]
    rw [deskAt_succ n roles first (by omega)]
    have hfk := hf k (by omega)
    by_cases h0 : (deskDo n roles (deskAt n roles first os k) (dopAt os k)).2.err = 0
    · have e : goodTo n roles first os (k + 1) = ((goodTo n roles first os k).1 ++ [dopAt os k], (goodTo n roles first os k).2 ++ [(deskDo n roles (deskAt n roles first os k) (dopAt os k)).2]) := by simp [goodTo, h0]
      rw [e]
      simp [hallDo, hfk, h0]
    · have e : goodTo n roles first os (k + 1) = goodTo n roles first os k := by simp [goodTo, h0]
      rw [e, desk_err h0]
      simp [hallDo, hfk, h0]
theorem hall_same_desk (n : NetL) (roles : List (List Int)) (first : DeskL) (os : List DOp) (hf : AllFit os) (cr : HOp) (hc : cr.kind = 3) :
    (hallPlay n roles first ⟨first, [], 0⟩ (hallOps os ++ [cr])).1.desk = (deskPlay n roles first os).1 := by
  have e := same_at n roles first os hf os.length (Nat.le_refl _)
  rw [List.take_length] at e
  rw [hall_append, e]
  simp only [hallPlay]
  rw [crash_desk n roles first _ cr hc]
  have el : leftH ⟨deskAt n roles first os os.length, (goodTo n roles first os os.length).1, (goodTo n roles first os os.length).1.length⟩ cr.keep = (goodTo n roles first os os.length).1.length := by
    unfold leftH
    simp
  simp only [el]
  rw [List.take_length, good_same n roles first os os.length (Nat.le_refl _), deskAt_all n roles first (Nat.le_refl _)]
theorem hallOps_take : ∀ (os : List DOp) (k : Nat), (hallOps os).take (2 * k) = hallOps (os.take k)
  | [], k => by simp [hallOps]
  | o :: os, 0 => by simp [hallOps]
  | o :: os, k + 1 => by
    have := hallOps_take os k
    show ((⟨1, 0, o⟩ : HOp) :: ⟨2, 0, noDOp⟩ :: hallOps os).take (2 * (k + 1)) = _
    rw [show 2 * (k + 1) = 2 * k + 1 + 1 by omega, List.take_succ_cons, List.take_succ_cons, this]
    rfl
theorem hallOps_at : ∀ (os : List DOp) (k : Nat) (r : List HOp), k < os.length → hopAt (hallOps os ++ r) (2 * k) = ⟨1, 0, dopAt os k⟩
  | [], k, r, h => absurd h (Nat.not_lt_zero _)
  | o :: os, 0, r, _ => rfl
  | o :: os, k + 1, r, h => by
    have := hallOps_at os k r (by simpa using h)
    exact this
theorem hall_same_ans (n : NetL) (roles : List (List Int)) (first : DeskL) (os : List DOp) (hf : AllFit os) (cr : HOp) {k : Nat} (hk : k < os.length) :
    dansAt (hallPlay n roles first ⟨first, [], 0⟩ (hallOps os ++ [cr])).2 (2 * k) = dansAt (deskPlay n roles first os).2 k := by
  have hl := hallOps_length os
  rw [hallAns_at n roles first ⟨first, [], 0⟩ (by rw [List.length_append, hl]; simp; omega), hallOps_at os k [cr] hk, ans_at n roles first hk]
  have e : hallAt n roles first ⟨first, [], 0⟩ (hallOps os ++ [cr]) (2 * k) = ⟨deskAt n roles first os k, (goodTo n roles first os k).1, (goodTo n roles first os k).1.length⟩ := by
    unfold hallAt
    rw [List.take_append_of_le_length (by omega), hallOps_take]
    exact same_at n roles first os hf k (by omega)
  rw [e]
  have hfk := hf k hk
  by_cases h0 : (deskDo n roles (deskAt n roles first os k) (dopAt os k)).2.err = 0
  · simp [hallDo, hfk, h0]
  · simp [hallDo, hfk, h0]

end Go.Proofs.Ytaladbcocealnaa

/- Where a search breaks off; how many can be different. -/
namespace Go.Proofs.Ytaladbcocealnaa
set_option linter.unusedVariables false
set_option maxRecDepth 4000

theorem row_broke {n : NetL} {m : List Int} {most k : Nat} {s : SpaceL} (h : Found n m most k 0 s) (hk : k < s.marks.length) : ∀ (t : Nat), t ≤ n.trans.length → rowTo n most k s t = none →
    ∃ j s', j < n.trans.length ∧ Found n m most k j s' ∧ k < s'.marks.length ∧ tryT n most k s' j = none
  | 0, _, e => by simp [rowTo] at e
  | t + 1, ht, e => by
    rw [rowTo] at e
    cases e1 : rowTo n most k s t with
    | none => exact row_broke h hk t (by omega) e1
    | some s1 =>
      rw [e1] at e
      obtain ⟨g1, l1⟩ := rowTo_found h hk t (by omega) e1
      exact ⟨t, s1, by omega, g1, Nat.lt_of_lt_of_le hk l1.le, e⟩
theorem graph_broke {n : NetL} {m : List Int} {most : Nat} (hm : 1 ≤ most) (hf : fitsL n m = true) : ∀ (k : Nat), graphTo n m most k = none →
    ∃ f j s', j < n.trans.length ∧ Found n m most f j s' ∧ f < s'.marks.length ∧ tryT n most f s' j = none
  | 0, e => by simp [graphTo] at e
  | k + 1, e => by
    rw [graphTo] at e
    cases e1 : graphTo n m most k with
    | none => exact graph_broke hm hf k e1
    | some s1 =>
      rw [e1] at e
      simp only [Option.bind_some] at e
      split at e
      · rename_i hk
        obtain ⟨j, s', q1, q2, q3, q4⟩ := row_broke (graphTo_found hm hf k e1) hk _ (Nat.le_refl _) e
        exact ⟨k, j, s', q1, q2, q3, q4⟩
      · cases e

theorem nodup_sub {l1 : List (List Int)} : ∀ {l2 : List (List Int)}, l1.Nodup → (∀ x ∈ l1, x ∈ l2) → l1.length ≤ l2.length := by
  induction l1 with
  | nil => intro l2 _ _; simp
  | cons a l ih =>
    intro l2 hn hs
    rw [List.nodup_cons] at hn
    have ha := hs a (by simp)
    have := ih (l2 := l2.erase a) hn.2 fun x hx => (List.mem_erase_of_ne (fun (e : x = a) => hn.1 (e ▸ hx))).2 (hs x (by simp [hx]))
    rw [List.length_erase_of_mem ha] at this
    have := List.length_pos_of_mem ha
    simp; omega

theorem graphOk_300 {n : NetL} {m : List Int} (hf : fitsL n m = true) : graphOk n m 300 = true := by simp [graphOk, hf]

end Go.Proofs.Ytaladbcocealnaa

/- Plain words for what can always be done again. -/
namespace Go.Proofs.Ytaladbcocealnaa
set_option linter.unusedVariables false
set_option maxRecDepth 4000

/-- Marks, and arcs between whatever numbers. -/
structure SpaceZ where
  marks : List (List Int)
  arcs : List (Int × Int × Int)

def rightS (s : SpaceZ) : Bool := s.arcs.all fun a => decide (0 ≤ a.1) && decide (a.1 < s.marks.length) && decide (0 ≤ a.2.2) && decide (a.2.2 < s.marks.length)
def Comes (s : SpaceZ) (k j : Int) : Prop := ∀ P : Int → Prop, P k → (∀ a : Int × Int × Int, P a.1 → a ∈ s.arcs → P a.2.2) → P j
theorem Comes.here {s : SpaceZ} (k : Int) : Comes s k k := fun _ h _ => h
theorem Comes.go {s : SpaceZ} {k : Int} {a : Int × Int × Int} (h : Comes s k a.1) (ha : a ∈ s.arcs) : Comes s k a.2.2 := fun P h0 h1 => h1 a (h P h0 h1) ha
theorem Comes.ind {s : SpaceZ} {k : Int} {motive : (j : Int) → Comes s k j → Prop} (here : motive k (Comes.here k)) (go : ∀ {a : Int × Int × Int} (h : Comes s k a.1) (ha : a ∈ s.arcs), motive a.1 h → motive a.2.2 (Comes.go h ha)) {j : Int} (h : Comes s k j) : motive j h := by
  obtain ⟨h', q⟩ := h (fun j => ∃ h : Comes s k j, motive j h) ⟨Comes.here k, here⟩ (fun a ⟨hx, qx⟩ ha => ⟨Comes.go hx ha, go hx ha qx⟩)
  exact q
def deadL (s : SpaceZ) (T : Int) : List Int := (rangeL (min T 24).toNat).filter fun t => s.arcs.all fun a => a.2.1 != t
def stuckL (s : SpaceZ) : List Int := (rangeL s.marks.length).filter fun k => s.arcs.all fun a => a.1 != k
def boundM (n : Int) (m : List Int) : Int := if rightL m then m.foldl max n else n
def boundL (s : SpaceZ) : Int := s.marks.foldl boundM 0
structure IsLive (s : SpaceZ) (T : Int) (xs : List Int) : Prop where
  up : xs.Pairwise (· < ·)
  mem : ∀ t, t ∈ xs ↔ rightS s = true ∧ 0 ≤ t ∧ t < min T 24 ∧ ∀ k : Int, 0 ≤ k → k < s.marks.length → ∃ a ∈ s.arcs, a.2.1 = t ∧ Comes s k a.1
structure IsHome (s : SpaceZ) (xs : List Int) : Prop where
  up : xs.Pairwise (· < ·)
  mem : ∀ k, k ∈ xs ↔ rightS s = true ∧ 0 ≤ k ∧ k < s.marks.length ∧ ∀ i : Int, 0 ≤ i → i < s.marks.length → Comes s i k

theorem rightS_iff {s : SpaceZ} : rightS s = true ↔ ∀ a ∈ s.arcs, 0 ≤ a.1 ∧ a.1 < s.marks.length ∧ 0 ≤ a.2.2 ∧ a.2.2 < s.marks.length := by
  unfold rightS
  simp only [List.all_eq_true, Bool.and_eq_true, decide_eq_true_eq, and_assoc]
theorem mem_dead {s : SpaceZ} {T t : Int} : t ∈ deadL s T ↔ 0 ≤ t ∧ t < min T 24 ∧ ∀ a ∈ s.arcs, a.2.1 ≠ t := by
  unfold deadL
  rw [List.mem_filter, mem_range]
  simp only [List.all_eq_true, bne_iff_ne]
  constructor
  · rintro ⟨h1, h2⟩; exact ⟨by omega, by omega, h2⟩
  · rintro ⟨h1, h2, h3⟩; exact ⟨by omega, h3⟩
theorem mem_stuck {s : SpaceZ} {k : Int} : k ∈ stuckL s ↔ 0 ≤ k ∧ k < s.marks.length ∧ ∀ a ∈ s.arcs, a.1 ≠ k := by
  unfold stuckL
  rw [List.mem_filter, mem_range]
  simp only [List.all_eq_true, bne_iff_ne, and_assoc]
theorem dead_up (s : SpaceZ) (T : Int) : (deadL s T).Pairwise (· < ·) := (range_sorted _).sublist List.filter_sublist
theorem stuck_up (s : SpaceZ) : (stuckL s).Pairwise (· < ·) := (range_sorted _).sublist List.filter_sublist

/-- Who is stuck goes nowhere. -/
theorem stuck_only {s : SpaceZ} {k j : Int} (h : k ∈ stuckL s) (hc : Comes s k j) : j = k := by
  induction hc using Comes.ind with
  | here => rfl
  | go h1 h2 ih => exact absurd ih ((mem_stuck.1 h).2.2 _ h2)

theorem up_one {xs : List Int} {k : Int} (hx : xs.Pairwise (· < ·)) (h : ∀ t, t ∈ xs ↔ t = k) : xs = [k] :=
  up_unique hx (List.pairwise_singleton _ _) fun t => by rw [h]; simp
theorem up_none {xs : List Int} (h : ∀ t, ¬ t ∈ xs) : xs = [] := List.eq_nil_iff_forall_not_mem.2 h

theorem stuck_live {s : SpaceZ} {T k : Int} {xs : List Int} (hk : k ∈ stuckL s) (h : IsLive s T xs) : xs = [] := by
  refine up_none fun t ht => ?_
  obtain ⟨_, _, _, hall⟩ := (h.mem t).1 ht
  obtain ⟨h1, h2, h3⟩ := mem_stuck.1 hk
  obtain ⟨a, ha, _, hc⟩ := hall k h1 h2
  exact h3 a ha (stuck_only hk hc)
theorem stuck_home {s : SpaceZ} {k : Int} {hs : List Int} (hk : k ∈ stuckL s) (h : IsHome s hs) (hh : k ∈ hs) : hs = [k] ∧ stuckL s = [k] := by
  obtain ⟨_, k1, k2, hall⟩ := (h.mem k).1 hh
  constructor
  · refine up_one h.up fun t => ⟨fun ht => ?_, fun e => by rw [e]; exact hh⟩
    obtain ⟨_, _, _, ht4⟩ := (h.mem t).1 ht
    exact stuck_only hk (ht4 k k1 k2)
  · refine up_one (stuck_up s) fun t => ⟨fun ht => ?_, fun e => by rw [e]; exact hk⟩
    obtain ⟨t1, t2, _⟩ := mem_stuck.1 ht
    exact (stuck_only ht (hall t t1 t2)).symm
theorem wrong_live {s : SpaceZ} {T : Int} {xs : List Int} (hr : rightS s = false) (h : IsLive s T xs) : xs = [] :=
  up_none fun t ht => by have := ((h.mem t).1 ht).1; rw [hr] at this; cases this
theorem wrong_home {s : SpaceZ} {xs : List Int} (hr : rightS s = false) (h : IsHome s xs) : xs = [] :=
  up_none fun t ht => by have := ((h.mem t).1 ht).1; rw [hr] at this; cases this

/-! ### spaces that are found -/
def toZ (s : SpaceL) : SpaceZ := ⟨s.marks, s.arcs.map arcZ⟩

theorem mem_arcZ {s : SpaceL} {a : Int × Int × Int} : a ∈ (toZ s).arcs ↔ ∃ b ∈ s.arcs, a = arcZ b := by
  unfold toZ
  simp only [List.mem_map]
  constructor
  · rintro ⟨b, h1, h2⟩; exact ⟨b, h1, h2.symm⟩
  · rintro ⟨b, h1, h2⟩; exact ⟨b, h1, h2.symm⟩

theorem Whole.sound {n : NetL} {m : List Int} {s : SpaceL} (h : Whole n m s) : ∀ a ∈ s.arcs, a.frm < s.marks.length ∧ a.dst < s.marks.length ∧ a.tran < n.trans.length ∧ fireL n (markAt s.marks a.frm) a.tran = (markAt s.marks a.dst, 0) := by
  obtain ⟨most, k, hF, hk⟩ := h
  intro a ha
  obtain ⟨h1, h2, h3, _, h5⟩ := hF.sound a ha
  exact ⟨h1, h2, h3, h5⟩
theorem Whole.right {n : NetL} {m : List Int} {s : SpaceL} (h : Whole n m s) : rightS (toZ s) = true := by
  refine rightS_iff.2 fun a ha => ?_
  obtain ⟨b, hb, rfl⟩ := mem_arcZ.1 ha
  obtain ⟨h1, h2, _⟩ := h.sound b hb
  simp only [arcZ, toZ]
  omega

/-- One comes by arcs just where a run leads. -/
theorem Whole.comes_run {n : NetL} {m : List Int} {s : SpaceL} (h : Whole n m s) {i : Nat} (hi : i < s.marks.length) {y : Int} (hc : Comes (toZ s) i y) :
    ∃ j : Nat, y = j ∧ j < s.marks.length ∧ ∃ seq, runL n (markAt s.marks i) seq = (markAt s.marks j, 0) := by
  have hfit : ∀ g, g < s.marks.length → fitsL n (markAt s.marks g) = true := by obtain ⟨most, k, hF, hk⟩ := h; exact fun g hg => hF.fits _ (markAt_mem hg)
  have key : ∀ {x y : Int}, Comes (toZ s) x y → x = (i : Int) → ∃ j : Nat, y = j ∧ j < s.marks.length ∧ ∃ seq, runL n (markAt s.marks i) seq = (markAt s.marks j, 0) := by
    intro x y hc
    induction hc using Comes.ind with
    | here => intro e; subst e; exact ⟨i, rfl, hi, [], run_nil.2 ⟨hfit i hi, rfl⟩⟩
    | go h1 h2 ih =>
      intro e
      obtain ⟨j, ej, hj, seq, hs⟩ := ih e
      obtain ⟨b, hb, rfl⟩ := mem_arcZ.1 h2
      obtain ⟨b1, b2, b3, b4⟩ := h.sound b hb
      simp only [arcZ] at ej ⊢
      obtain rfl : b.frm = j := by omega
      refine ⟨b.dst, rfl, b2, seq ++ [(b.tran : Int)], ?_⟩
      rw [run_append, hs]
      simp only [BEq.rfl, if_true]
      exact run_cons.2 ⟨_, b4, run_nil.2 ⟨hfit _ b2, rfl⟩⟩
  exact key hc rfl
theorem Whole.run_comes {n : NetL} {m : List Int} {s : SpaceL} (h : Whole n m s) (seq : List Int) : ∀ {i k : Nat} {z : List Int}, i < s.marks.length → Comes (toZ s) k i → runL n (markAt s.marks i) seq = (z, 0) →
    (∃ j : Nat, j < s.marks.length ∧ z = markAt s.marks j ∧ Comes (toZ s) k j) ∧ ∀ t ∈ seq, ∃ a ∈ s.arcs, (a.tran : Int) = t ∧ Comes (toZ s) k a.frm := by
  induction seq with
  | nil =>
    intro i k z hi hc hr
    obtain ⟨_, rfl⟩ := run_nil.1 hr
    exact ⟨⟨i, hi, rfl, hc⟩, by simp⟩
  | cons t ts ih =>
    intro i k z hi hc hr
    obtain ⟨y, h1, h2⟩ := run_cons.1 hr
    rcases h.fire hi t with h3 | ⟨j, g, rfl, hg, hgl, e⟩
    · rw [h1] at h3; simp at h3
    · rw [e] at h1
      injection h1 with h1 _
      subst h1
      have hc2 : Comes (toZ s) k g := Comes.go (a := arcZ ⟨i, j, g⟩) hc (mem_arcZ.2 ⟨_, hg, rfl⟩)
      obtain ⟨q1, q2⟩ := ih hgl hc2 h2
      refine ⟨q1, fun t' ht' => ?_⟩
      rcases List.mem_cons.1 ht' with q | q
      · exact ⟨_, hg, q.symm, hc⟩
      · exact q2 t' q

/-- From each of the marks all marks are found again, where there is room. -/
theorem Whole.again {n : NetL} {m : List Int} {s : SpaceL} (h : Whole n m s) (hl : s.marks.length < 300) {f : Nat} (hf : f < s.marks.length) : ∃ u, graphL n (markAt s.marks f) 300 = (u, 0) := by
  have hfit : fitsL n (markAt s.marks f) = true := by obtain ⟨most, k, hF, hk⟩ := h; exact hF.fits _ (markAt_mem hf)
  have hok := graphOk_300 hfit
  cases hg : graphTo n (markAt s.marks f) 300 300 with
  | some u => exact ⟨u, by rw [graphL, hok]; simp only [if_true, show (300 : Int).toNat = 300 from rfl]; rw [hg]⟩
  | none =>
    exfalso
    obtain ⟨f', j, s', hj, hF, hf', hn⟩ := graph_broke (by omega) hfit _ hg
    have hin : ∀ g, g < s'.marks.length → ∃ g2, g2 < s.marks.length ∧ markAt s'.marks g = markAt s.marks g2 := by
      intro g
      induction g using Nat.strongRecOn with
      | ind g ih =>
        intro hgl
        by_cases e : g = 0
        · subst e; exact ⟨f, hf, hF.first⟩
        · obtain ⟨a, ha, hlt⟩ := hF.par g (by omega) hgl
          obtain ⟨h1, h2⟩ := firstTo_mem ha
          obtain ⟨q1, q2, q3, q4, q5⟩ := hF.sound a h1
          obtain ⟨g2, hg2, e2⟩ := ih a.frm hlt q1
          rw [e2, h2] at q5
          rcases h.fire hg2 a.tran with r | ⟨_, g3, _, _, hg3, e3⟩
          · rw [q5] at r; simp at r
          · rw [q5] at e3; injection e3 with e3 _; exact ⟨g3, hg3, e3⟩
    have hlen : s'.marks.length ≤ s.marks.length := nodup_sub hF.nodup fun x hx => by
      obtain ⟨g, hgl, rfl⟩ := List.getElem_of_mem hx
      obtain ⟨g2, hg2, e2⟩ := hin g hgl
      have e3 : s'.marks[g] = markAt s'.marks g := by simp [markAt, List.getD_eq_getElem?_getD, List.getElem?_eq_getElem hgl]
      rw [e3, e2]
      exact markAt_mem hg2
    obtain ⟨g2, hg2, e2⟩ := hin f' hf'
    rcases h.fire hg2 j with r | ⟨_, g3, _, _, hg3, e3⟩
    · unfold tryT at hn
      rw [e2, r] at hn
      simp at hn
    · unfold tryT at hn
      rw [e2, e3] at hn
      simp only [show ((0 : Int) == 3) = false from rfl, Bool.false_eq_true, if_false, BEq.rfl, if_true] at hn
      split at hn
      · cases hn
      · rw [if_neg (by omega)] at hn
        cases hn

end Go.Proofs.Ytaladbcocealnaa

/- A value that is a space of whatever arcs. -/
namespace Go.Proofs.Ytaladbcocealnaa
open Go.RowKit
set_option linter.unusedVariables false
set_option maxRecDepth 4000

/-- A space; there are not more marks than memory holds. -/
def SpaceV (w : World) (v : Value) (s : SpaceZ) : Prop := s.marks.length ≤ 5864062014805 ∧ ∃ mv av, v = .agg #[mv, av] ∧ Lists w mv s.marks ∧ Arcs w av s.arcs
theorem SpaceV.below {w w' : World} {v : Value} {s : SpaceZ} (h : SpaceV w v s) (hb : Below w.heap.size w w') : SpaceV w' v s := by
  obtain ⟨hN, mv, av, e, h1, h2⟩ := h
  exact ⟨hN, mv, av, e, h1.below hb, h2.below hb⟩
theorem Space.toV {w : World} {v : Value} {s : SpaceL} (h : Space w v s) (hl : s.marks.length ≤ 300) : SpaceV w v (toZ s) := ⟨by simp only [toZ]; omega, h⟩
theorem graphL_small (n : NetL) (m : List Int) (most : Int) : (graphL n m most).1.marks.length ≤ 300 := by
  by_cases h : (graphL n m most).2 = 0
  · have h1 := graphL_ok (s := (graphL n m most).1) (by rw [← h])
    have h2 := h1.2.2.2.2.most_le
    omega
  · rw [graphL_err h]; simp

end Go.Proofs.Ytaladbcocealnaa
