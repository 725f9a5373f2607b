/- Texts of nets: what is read of them is one thing alone. -/
import Derived.Test.YtjfcfnaeinhmcaaDoorTextBase
namespace Go.Proofs.YtjfcfnaeinhmcaaDoor
set_option linter.unusedVariables false
set_option maxRecDepth 4000

/-! ### two ways to part a text -/
def HeadIs (p : UInt8 → Prop) (l : Bytes) : Prop := ∃ b r, l = b :: r ∧ p b
theorem part_one {p : UInt8 → Prop} : ∀ {a a' r r' : Bytes}, (∀ b ∈ a, p b) → (∀ b ∈ a', p b) → ¬ HeadIs p r → ¬ HeadIs p r' → a ++ r = a' ++ r' → a = a' ∧ r = r'
  | [], [], r, r', _, _, _, _, e => ⟨rfl, e⟩
  | [], x :: y, r, r', _, h2, h3, _, e => absurd ⟨x, y ++ r', e, h2 x (by simp)⟩ h3
  | x :: y, [], r, r', h1, _, _, h4, e => absurd ⟨x, y ++ r, e.symm, h1 x (by simp)⟩ h4
  | x :: y, x' :: y', r, r', h1, h2, h3, h4, e => by
    rw [List.cons_append, List.cons_append] at e
    injection e with e1 e2
    obtain ⟨q1, q2⟩ := part_one (fun b hb => h1 b (by simp [hb])) (fun b hb => h2 b (by simp [hb])) h3 h4 e2
    exact ⟨by rw [e1, q1], q2⟩

/-- Nothing, or a blank ahead. -/
def Blank (l : Bytes) : Prop := l = [] ∨ ∃ r, l = 32 :: r
theorem blank_nil : Blank [] := .inl rfl
theorem blank_cons (r : Bytes) : Blank (32 :: r) := .inr ⟨r, rfl⟩
theorem Blank.not {p : UInt8 → Prop} {l : Bytes} (h : Blank l) (hp : ¬ p 32) : ¬ HeadIs p l := by
  rintro ⟨b, r, e, hb⟩
  rcases h with rfl | ⟨r', rfl⟩
  · cases e
  · injection e with e1 e2
    exact hp (e1 ▸ hb)
theorem dig_32 : ¬ isDig 32 := by decide
theorem dig_42 : ¬ isDig 42 := by decide
theorem dig_62 : ¬ isDig 62 := by decide

theorem mem_tok {w : Int} {p : Nat} {b : UInt8} (hw : 0 ≤ w) (h : b ∈ tokT w p) : isDig b ∨ b = 42 := by
  unfold tokT at h
  split at h
  · rcases List.mem_append.1 h with h | h
    · rcases List.mem_append.1 h with h | h
      · exact .inl (itoa_dig hw b h)
      · exact .inr (List.mem_singleton.1 h)
    · exact .inl (itoa_dig (n := (p : Int)) (by omega) b h)
  · exact .inl (itoa_dig (n := (p : Int)) (by omega) b (by simpa using h))
theorem tok_ne {w : Int} {p : Nat} {b : UInt8} (hw : 0 ≤ w) (h : b ∈ tokT w p) : b ≠ 32 ∧ b ≠ 62 ∧ b ≠ 10 := by
  rcases mem_tok hw h with h | rfl
  · unfold isDig at h
    refine ⟨?_, ?_, ?_⟩ <;> rintro rfl <;> revert h <;> decide
  · decide
theorem tok_head {w : Int} {p : Nat} (hw : 0 ≤ w) : ∃ b r, tokT w p = b :: r ∧ isDig b := by
  unfold tokT
  split
  · cases e : Lib.itoa w with
    | nil => exact absurd e (itoa_ne hw)
    | cons b r => exact ⟨b, _, rfl, itoa_dig hw b (by rw [e]; simp)⟩
  · cases e : Lib.itoa (p : Int) with
    | nil => exact absurd e (itoa_ne (by omega))
    | cons b r => exact ⟨b, r, rfl, itoa_dig (n := (p : Int)) (by omega) b (by rw [e]; simp)⟩
/-- One weight at one place. -/
theorem tok_inj {w v : Int} {p q : Nat} (hw : 1 ≤ w) (hv : 1 ≤ v) (h : tokT w p = tokT v q) : w = v ∧ p = q := by
  have hp := itoa_dig (n := (p : Int)) (by omega)
  have hq := itoa_dig (n := (q : Int)) (by omega)
  have h42 : ∀ n : Nat, (42 : UInt8) ∉ Lib.itoa (n : Int) := fun n hn => dig_42 (itoa_dig (n := (n : Int)) (by omega) _ hn)
  unfold tokT at h
  split at h <;> split at h
  · rename_i h1 h2
    rw [List.append_assoc, List.append_assoc] at h
    obtain ⟨e1, e2⟩ := part_one (p := isDig) (itoa_dig (by omega)) (itoa_dig (by omega)) (by rintro ⟨b, r, e, hb⟩; injection e with e _; subst e; exact dig_42 hb) (by rintro ⟨b, r, e, hb⟩; injection e with e _; subst e; exact dig_42 hb) h
    have e2 : Lib.itoa (p : Int) = Lib.itoa (q : Int) := by simpa using e2
    exact ⟨itoa_inj (by omega) (by omega) e1, by have := itoa_inj (by omega) (by omega) e2; omega⟩
  · exact absurd (by rw [show Lib.itoa (q : Int) = [] ++ Lib.itoa (q : Int) from rfl, ← h]; simp) (h42 q)
  · exact absurd (by rw [show Lib.itoa (p : Int) = [] ++ Lib.itoa (p : Int) from rfl, h]; simp) (h42 p)
  · have e2 : Lib.itoa (p : Int) = Lib.itoa (q : Int) := by simpa using h
    exact ⟨by omega, by have := itoa_inj (by omega) (by omega) e2; omega⟩
theorem tok_part {w v : Int} {p q : Nat} {S S' : Bytes} (hw : 1 ≤ w) (hv : 1 ≤ v) (h1 : Blank S) (h2 : Blank S') (h : tokT w p ++ S = tokT v q ++ S') : w = v ∧ p = q ∧ S = S' := by
  obtain ⟨e1, e2⟩ := part_one (p := fun b => b ≠ 32) (fun b hb => (tok_ne (by omega) hb).1) (fun b hb => (tok_ne (by omega) hb).1) (h1.not (by simp)) (h2.not (by simp)) h
  obtain ⟨q1, q2⟩ := tok_inj hw hv e1
  exact ⟨q1, q2, e2⟩

/-- One weight at one place, and what is no digit behind. -/
theorem tok_part2 {w v : Int} {p q : Nat} {S X : Bytes} (hw : 1 ≤ w) (hv : 1 ≤ v) (hX : Blank X) (hS : ¬ HeadIs isDig S) (h42 : w = 1 → ¬ HeadIs (· = 42) S) (h : tokT v q ++ X = tokT w p ++ S) : v = w ∧ q = p ∧ X = S := by
  have hp := itoa_dig (n := (p : Int)) (by omega)
  have hq := itoa_dig (n := (q : Int)) (by omega)
  have h4 : ∀ r : Bytes, ¬ HeadIs isDig (42 :: r) := by rintro r ⟨b, r', e, hb⟩; injection e with e _; subst e; exact dig_42 hb
  have hX1 := hX.not (p := isDig) dig_32
  unfold tokT at h
  split at h <;> split at h
  · rename_i h1 h2
    simp only [List.append_assoc, List.singleton_append] at h
    obtain ⟨e1, e2⟩ := part_one (p := isDig) (itoa_dig (by omega)) (itoa_dig (by omega)) (h4 _) (h4 _) h
    injection e2 with _ e2
    obtain ⟨e3, e4⟩ := part_one (p := isDig) hq hp hX1 hS e2
    exact ⟨itoa_inj (by omega) (by omega) e1, by have := itoa_inj (by omega) (by omega) e3; omega, e4⟩
  · rename_i h1 h2
    simp only [List.append_assoc, List.singleton_append, List.nil_append] at h
    obtain ⟨e1, e2⟩ := part_one (p := isDig) (itoa_dig (by omega)) hp (h4 _) hS h
    exact absurd ⟨42, _, e2.symm, rfl⟩ (h42 (by omega))
  · rename_i h1 h2
    simp only [List.append_assoc, List.singleton_append, List.nil_append] at h
    obtain ⟨e1, e2⟩ := part_one (p := isDig) hq (itoa_dig (by omega)) hX1 (h4 _) h
    exact absurd ⟨42, _, e2, rfl⟩ (hX.not (p := (· = 42)) (by decide))
  · simp only [List.nil_append] at h
    obtain ⟨e3, e4⟩ := part_one (p := isDig) hq hp hX1 hS h
    exact ⟨by omega, by have := itoa_inj (by omega) (by omega) e3; omega, e4⟩

/-! ### a side -/
theorem oneT_zero (p : Nat) : oneT 0 p = [] := rfl
theorem oneT_pos {w : Int} {p : Nat} (h : 0 < w) : oneT w p = 32 :: tokT w p := by unfold oneT; rw [if_pos h]
theorem side_cons (p : Nat) (w : Int) (l : List Int) : sideT p (w :: l) = oneT w p ++ sideT (p + 1) l := rfl
theorem side_blank : ∀ (p : Nat) (l : List Int), Blank (sideT p l)
  | _, [] => blank_nil
  | p, w :: l => by
    rw [side_cons]
    by_cases h : 0 < w
    · rw [oneT_pos h]; exact blank_cons _
    · unfold oneT; rw [if_neg h]; exact side_blank (p + 1) l
theorem side_append : ∀ (p : Nat) (l m : List Int), sideT p (l ++ m) = sideT p l ++ sideT (p + l.length) m
  | p, [], m => by simp [sideT]
  | p, w :: l, m => by
    rw [List.cons_append, side_cons, side_cons, side_append (p + 1) l m, List.append_assoc, show p + 1 + l.length = p + (w :: l).length by simp; omega]
theorem side_zero : ∀ {p : Nat} {l : List Int}, (∀ w ∈ l, w = 0) → sideT p l = []
  | _, [], _ => rfl
  | p, w :: l, h => by
    rw [side_cons, h w (by simp), oneT_zero, side_zero fun x hx => h x (by simp [hx])]
    rfl
/-- All zero, or a first one that is not. -/
theorem first_nz : ∀ (p : Nat) (l : List Int), (∀ w ∈ l, 0 ≤ w) → (∀ w ∈ l, w = 0) ∨ ∃ k v m, l = List.replicate k 0 ++ v :: m ∧ 1 ≤ v ∧ sideT p l = 32 :: (tokT v (p + k) ++ sideT (p + k + 1) m)
  | _, [], _ => .inl fun w hw => by cases hw
  | p, w :: l, h => by
    have hw := h w (by simp)
    by_cases h0 : 0 < w
    · right
      refine ⟨0, w, l, rfl, h0, ?_⟩
      rw [side_cons, oneT_pos h0]
      rfl
    · have e : w = 0 := by omega
      subst e
      rcases first_nz (p + 1) l fun x hx => h x (by simp [hx]) with q | ⟨k, v, m, q1, q2, q3⟩
      · left
        intro x hx
        rcases List.mem_cons.1 hx with rfl | hx
        · rfl
        · exact q x hx
      · right
        refine ⟨k + 1, v, m, by rw [q1]; rfl, q2, ?_⟩
        rw [side_cons, oneT_zero, q3, show p + 1 + k = p + (k + 1) by omega]
        rfl
/-- What may stand behind a side. -/
def StopT (R : Bytes) : Prop := R = [] ∨ ∃ r, R = 32 :: 62 :: r
theorem StopT.blank {R : Bytes} (h : StopT R) : Blank R := by
  rcases h with rfl | ⟨r, rfl⟩
  · exact blank_nil
  · exact blank_cons _
theorem side_stop_blank {p : Nat} {l : List Int} {R : Bytes} (h : StopT R) : Blank (sideT p l ++ R) := by
  rcases side_blank p l with e | ⟨r, e⟩
  · rw [e]; exact h.blank
  · rw [e]; exact blank_cons _

/-- While a side is read: so far 'out', from 'least' on zero; R is left of R0. -/
structure Side (P : Nat) (R0 : Bytes) (out : List Int) (least : Nat) (R : Bytes) : Prop where
  ok : SideOk P out
  zero : ∀ j, least ≤ j → nth out j = 0
  le : least ≤ P
  at_ : R0 = sideT 0 out ++ R
  one : ∀ l R', SideOk P l → StopT R' → R0 = sideT 0 l ++ R' → l.take least = out.take least ∧ sideT least (l.drop least) ++ R' = R
theorem SideOk.zeros (P : Nat) : SideOk P (List.replicate P 0) := ⟨by simp, fun w hw => by rw [List.eq_of_mem_replicate hw]; omega⟩
theorem Side.start (P : Nat) (R0 : Bytes) : Side P R0 (List.replicate P 0) 0 R0 where
  ok := SideOk.zeros P
  zero j _ := by unfold nth; simp [List.getD_eq_getElem?_getD, List.getElem?_replicate]; split <;> rfl
  le := Nat.zero_le _
  at_ := by rw [side_zero fun w hw => List.eq_of_mem_replicate hw]; rfl
  one l R' _ _ e := ⟨by simp, by simpa using e.symm⟩
theorem drop_zero {l : List Int} {k : Nat} (h : ∀ j, k ≤ j → nth l j = 0) : ∀ w ∈ l.drop k, w = 0 := by
  intro w hw
  obtain ⟨j, hj, e⟩ := List.getElem_of_mem hw
  rw [List.getElem_drop] at e
  have := h (k + j) (by omega)
  rw [List.length_drop] at hj
  unfold nth at this
  rw [List.getD_eq_getElem?_getD, List.getElem?_eq_getElem (by omega)] at this
  simp at this
  omega
theorem side_take {l : List Int} {k : Nat} : sideT 0 l = sideT 0 (l.take k) ++ sideT (min k l.length) (l.drop k) := by
  conv => lhs; rw [← List.take_append_drop k l]
  rw [side_append, List.length_take, Nat.zero_add]
section
variable {P : Nat} {R0 R : Bytes} {out : List Int} {least : Nat}
/-- One is read. -/
theorem Side.next (h : Side P R0 out least R) {w : Int} {p : Nat} {S : Bytes} (hp : least ≤ p) (hP : p < P) (hw : 1 ≤ w) (hw9 : w ≤ 9) (hR : R = 32 :: (tokT w p ++ S)) (hS : ∀ l R' k v m, SideOk P l → StopT R' → l.drop least = List.replicate k 0 ++ v :: m → 1 ≤ v → tokT v (least + k) ++ (sideT (least + k + 1) m ++ R') = tokT w p ++ S → v = w ∧ least + k = p ∧ sideT (least + k + 1) m ++ R' = S) (hR62 : ¬ ∃ r, tokT w p ++ S = 62 :: r) :
    Side P R0 (out.set p w) (p + 1) S := by
  have hlen := h.ok.1
  have htk : (out.set p w).take (p + 1) = out.take p ++ [w] := by
    rw [List.take_succ_eq_append_getElem (by rw [List.length_set]; omega), List.take_set_of_le (Nat.le_refl _), List.getElem_set_self]
  have hz1 : sideT 0 (out.take p) = sideT 0 (out.take least) := by
    have e : out.take p = out.take least ++ (out.drop least).take (p - least) := by
      rw [← List.take_add]
      congr 1
      omega
    rw [e, side_append, side_zero (l := (out.drop least).take (p - least)) fun x hx => drop_zero h.zero x (List.mem_of_mem_take hx), List.append_nil]
  have hz0 : sideT 0 out = sideT 0 (out.take least) := by
    rw [side_take (k := least), side_zero (l := out.drop least) (drop_zero h.zero), List.append_nil]
  have hdz : ∀ x ∈ (out.set p w).drop (p + 1), x = 0 := by
    intro x hx
    rw [List.drop_set_of_lt (by omega)] at hx
    exact drop_zero (k := p + 1) (fun j hj => h.zero j (by omega)) x hx
  have hs1 : sideT 0 (out.set p w) = sideT 0 out ++ 32 :: tokT w p := by
    rw [side_take (k := p + 1), side_zero hdz, List.append_nil, htk, side_append, hz1, hz0, List.length_take, show min p out.length = p by omega]
    rw [side_cons, oneT_pos (by omega)]
    simp [sideT]
  refine ⟨⟨by rw [List.length_set]; exact hlen, fun x hx => ?_⟩, fun j hj => ?_, by omega, ?_, fun l R' hl hR' e => ?_⟩
  · rcases List.mem_or_eq_of_mem_set hx with hx | rfl
    · exact h.ok.2 x hx
    · omega
  · unfold nth
    rw [List.getD_eq_getElem?_getD, List.getElem?_set_ne (by omega), ← List.getD_eq_getElem?_getD]
    exact h.zero j (by omega)
  · rw [h.at_, hs1, hR]
    simp
  · obtain ⟨e1, e2⟩ := h.one l R' hl hR' e
    have hll := hl.1
    rcases first_nz least (l.drop least) (fun x hx => (hl.2 x (List.mem_of_mem_drop hx)).1) with q | ⟨k, v, m, q1, q2, q3⟩
    · exfalso
      rw [side_zero q, List.nil_append, hR] at e2
      rcases hR' with rfl | ⟨r, rfl⟩
      · cases e2
      · injection e2 with _ e2
        exact hR62 ⟨r, e2.symm⟩
    · rw [q3, hR, List.cons_append] at e2
      injection e2 with _ e2
      rw [List.append_assoc] at e2
      obtain ⟨g1, g2, g3⟩ := hS l R' k v m hl hR' q1 q2 e2
      have hk : k = p - least := by omega
      have hd1 : l.drop (p + 1) = m := by
        have : l.drop (least + (k + 1)) = m := by
          rw [← List.drop_drop, q1]
          simp [List.drop_append]
        rwa [show least + (k + 1) = p + 1 by omega] at this
      refine ⟨?_, by rw [hd1, ← g2]; exact g3⟩
      rw [htk]
      have e3 : l.take (p + 1) = l.take least ++ (l.drop least).take (k + 1) := by
        rw [← List.take_add]
        congr 1
        omega
      have e4 : out.take p = out.take least ++ (out.drop least).take k := by
        rw [← List.take_add]
        congr 1
        omega
      have e5 : (out.drop least).take k = List.replicate k 0 := by
        refine List.ext_getElem (by simp; omega) fun j h1 h2 => ?_
        rw [List.getElem_replicate]
        exact drop_zero h.zero _ (List.mem_of_mem_take (List.getElem_mem h1))
      rw [e3, e4, e5, e1, q1, g1]
      simp [List.take_append]
/-- At the end. -/
theorem Side.done (h : Side P R0 out least R) (hR : ¬ HeadIs (· = 32) R ∨ ∃ r, R = 32 :: 62 :: r) : ∀ l R', SideOk P l → StopT R' → R0 = sideT 0 l ++ R' → l = out ∧ R' = R := by
  intro l R' hl hR' e
  obtain ⟨e1, e2⟩ := h.one l R' hl hR' e
  have hlen := h.ok.1
  have hll := hl.1
  rcases first_nz least (l.drop least) (fun x hx => (hl.2 x (List.mem_of_mem_drop hx)).1) with q | ⟨k, v, m, q1, q2, q3⟩
  · rw [side_zero q, List.nil_append] at e2
    refine ⟨?_, e2⟩
    rw [← List.take_append_drop least l, ← List.take_append_drop least out, e1]
    congr 1
    refine List.ext_getElem (by simp; omega) fun j h1 h2 => ?_
    rw [q _ (List.getElem_mem h1), drop_zero h.zero _ (List.getElem_mem h2)]
  · exfalso
    rw [q3, List.cons_append] at e2
    rcases hR with hR | ⟨r, hr⟩
    · exact hR ⟨32, _, e2.symm, rfl⟩
    · rw [hr] at e2
      injection e2 with _ e2
      obtain ⟨b, s, q4, q5⟩ := tok_head (w := v) (p := least + k) (by omega)
      rw [q4] at e2
      injection e2 with e2 _
      subst e2
      exact dig_62 q5
/-- It cannot be one. -/
theorem Side.none (h : Side P R0 out least R) {S : Bytes} (hR : R = 32 :: S) (hno : ∀ l R' k v m, SideOk P l → StopT R' → l.drop least = List.replicate k 0 ++ v :: m → 1 ≤ v → v ≤ 9 → least + k < P → tokT v (least + k) ++ (sideT (least + k + 1) m ++ R') ≠ S) : ∀ l R', SideOk P l → StopT R' → (R' = [] ∨ ¬ ∃ r, S = 62 :: r) → R0 ≠ sideT 0 l ++ R' := by
  intro l R' hl hR' h62 e
  obtain ⟨e1, e2⟩ := h.one l R' hl hR' e
  have hll := hl.1
  rcases first_nz least (l.drop least) (fun x hx => (hl.2 x (List.mem_of_mem_drop hx)).1) with q | ⟨k, v, m, q1, q2, q3⟩
  · rw [side_zero q, List.nil_append, hR] at e2
    rcases hR' with rfl | ⟨r, rfl⟩
    · cases e2
    · injection e2 with _ e2
      rcases h62 with h62 | h62
      · cases h62
      · exact h62 ⟨r, e2.symm⟩
  · rw [q3, hR, List.cons_append] at e2
    injection e2 with _ e2
    rw [List.append_assoc] at e2
    have hlk : least + k < P := by
      have := congrArg List.length q1
      simp at this
      omega
    have hv9 : v ≤ 9 := (hl.2 v (List.mem_of_mem_drop (by rw [q1]; simp))).2
    exact hno l R' k v m hl hR' q1 q2 hv9 hlk e2
end

end Go.Proofs.YtjfcfnaeinhmcaaDoor
