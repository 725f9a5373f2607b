/- Texts of nets, plainly. -/
import Derived.Test.YtjfcfnaeinhmcaaDoorNets
import Derived.Lib.ItoaNum
import Derived.Lib.IndexMore
namespace Go.Proofs.YtjfcfnaeinhmcaaDoor
set_option linter.unusedVariables false
set_option maxRecDepth 4000

abbrev Bytes := List UInt8
/-- A place's weight, as it is written. -/
def tokT (w : Int) (p : Nat) : Bytes := (if 1 < w then Lib.itoa w ++ [42] else []) ++ Lib.itoa (p : Int)
def oneT (w : Int) (p : Nat) : Bytes := if 0 < w then 32 :: tokT w p else []
def sideT : Nat → List Int → Bytes
  | _, [] => []
  | p, w :: l => oneT w p ++ sideT (p + 1) l
def letterT (l : Int) : UInt8 := if 0 < l then UInt8.ofNat (96 + l.toNat) else 45
def lineT (t : TranL) : Bytes := letterT t.label :: 32 :: 58 :: (sideT 0 t.pre ++ 32 :: 62 :: sideT 0 t.post)
def linesT : List TranL → Bytes
  | [] => []
  | t :: l => lineT t ++ 10 :: linesT l
def firstT (n : Int) : Bytes := [110, 101, 116, 32] ++ Lib.itoa n
def textT (n : NetL) : Bytes := firstT n.places ++ 10 :: linesT n.trans

/-- Weights that are let by. -/
def SideOk (P : Nat) (l : List Int) : Prop := l.length = P ∧ ∀ w ∈ l, 0 ≤ w ∧ w ≤ 9

/-! ### numbers -/
theorem dec_ne (u : Nat) : Lib.decDigits u ≠ [] := by
  rw [Lib.decDigits]
  split
  · simp
  · simp
abbrev isDig (b : UInt8) : Prop := 48 ≤ b.toNat ∧ b.toNat ≤ 57
theorem dig_of {k : Nat} (h : k < 10) : isDig (UInt8.ofNat (48 + k)) := by
  unfold isDig
  rw [UInt8.toNat_ofNat']
  omega
theorem dec_dig (u : Nat) : ∀ b ∈ Lib.decDigits u, isDig b := by
  induction u using Nat.strongRecOn with
  | _ u ih =>
    rw [Lib.decDigits]
    split
    · rename_i h
      intro b hb
      rw [List.mem_singleton] at hb
      subst hb
      exact dig_of h
    · rename_i h
      intro b hb
      rcases List.mem_append.1 hb with hb | hb
      · exact ih _ (by omega) b hb
      · rw [List.mem_singleton] at hb
        subst hb
        exact dig_of (by omega)
/-- What digits tell. -/
def valD : Nat → Bytes → Nat
  | a, [] => a
  | a, b :: l => valD (a * 10 + (b.toNat - 48)) l
theorem valD_append (a : Nat) (l m : Bytes) : valD a (l ++ m) = valD (valD a l) m := by
  induction l generalizing a with
  | nil => rfl
  | cons b l ih => exact ih _
theorem valD_dec (u : Nat) : valD 0 (Lib.decDigits u) = u := by
  induction u using Nat.strongRecOn with
  | _ u ih =>
    rw [Lib.decDigits]
    split
    · rename_i h
      show 0 * 10 + ((UInt8.ofNat (48 + u)).toNat - 48) = u
      rw [UInt8.toNat_ofNat']
      omega
    · rename_i h
      rw [valD_append, ih _ (by omega)]
      show u / 10 * 10 + ((UInt8.ofNat (48 + u % 10)).toNat - 48) = u
      rw [UInt8.toNat_ofNat']
      omega
theorem dec_inj {u v : Nat} (h : Lib.decDigits u = Lib.decDigits v) : u = v := by
  rw [← valD_dec u, ← valD_dec v, h]
theorem itoa_nat (u : Nat) : Lib.itoa (u : Int) = Lib.decDigits u := by unfold Lib.itoa; rw [if_neg (by omega)]; simp
theorem itoa_pos {n : Int} (h : 0 ≤ n) : Lib.itoa n = Lib.decDigits n.toNat := by unfold Lib.itoa; rw [if_neg (by omega)]
theorem itoa_inj {m n : Int} (h1 : 0 ≤ m) (h2 : 0 ≤ n) (h : Lib.itoa m = Lib.itoa n) : m = n := by
  rw [itoa_pos h1, itoa_pos h2] at h
  have := dec_inj h
  omega
theorem itoa_dig {n : Int} (h : 0 ≤ n) : ∀ b ∈ Lib.itoa n, isDig b := by rw [itoa_pos h]; exact dec_dig _
theorem itoa_ne {n : Int} (h : 0 ≤ n) : Lib.itoa n ≠ [] := by rw [itoa_pos h]; exact dec_ne _

/-! ### to cut at the first place -/
theorem isPrefix_sing (a : UInt8) (l : Bytes) (b : UInt8) : ([a] : Bytes).isPrefixOf (b :: l) = (a == b) := by
  simp [List.isPrefixOf]
/-- Cut at one byte: what is ahead lacks it. -/
theorem cut_one (s : Bytes) (c : UInt8) : (∃ a r, s = a ++ c :: r ∧ c ∉ a ∧ Lib.cut s [c] = (a, r, true)) ∨ (c ∉ s ∧ Lib.cut s [c] = (s, [], false)) := by
  unfold Lib.cut
  rcases Lib.index_spec s [c] with ⟨h1, h2⟩ | ⟨i, h1, h2, h3, h4⟩
  · right
    rw [h1, if_neg (by omega)]
    refine ⟨fun hm => ?_, rfl⟩
    obtain ⟨j, hj, e⟩ := List.getElem_of_mem hm
    have := h2 j (by omega)
    unfold Lib.occAt at this
    rw [List.drop_eq_getElem_cons hj, isPrefix_sing, e] at this
    simp at this
  · left
    rw [h1, if_pos (by omega)]
    have h5 : i < s.length := by
      rcases Lib.occAt_room h3 with q | q
      · simp at q; omega
      · cases q
    have h6 : s[i] = c := by
      unfold Lib.occAt at h3
      rw [List.drop_eq_getElem_cons h5, isPrefix_sing] at h3
      exact (beq_iff_eq.1 h3).symm
    refine ⟨s.take i, s.drop (i + 1), ?_, fun hm => ?_, ?_⟩
    · rw [← h6, List.getElem_cons_drop, List.take_append_drop]
    · obtain ⟨j, hj, e⟩ := List.getElem_of_mem hm
      rw [List.length_take] at hj
      have h7 := h4 j (by omega)
      unfold Lib.occAt at h7
      have hj2 : j < s.length := by omega
      rw [List.drop_eq_getElem_cons hj2, isPrefix_sing] at h7
      rw [List.getElem_take] at e
      rw [e] at h7
      simp at h7
    · simp
theorem cut_hit {a r : Bytes} {c : UInt8} (h : c ∉ a) : Lib.cut (a ++ c :: r) [c] = (a, r, true) := by
  rcases cut_one (a ++ c :: r) c with ⟨a', r', h1, h2, h3⟩ | ⟨h1, _⟩
  · rw [h3]
    have : a = a' ∧ r = r' := by
      clear h3
      induction a generalizing a' with
      | nil =>
        cases a' with
        | nil => simpa using h1
        | cons x y => simp at h1; exact absurd (by rw [h1.1]; simp) h2
      | cons x y ih =>
        cases a' with
        | nil => simp at h1; exact absurd (by rw [h1.1]; simp) h
        | cons x' y' =>
          simp at h1 h h2
          obtain ⟨e1, e2⟩ := h1
          obtain ⟨q1, q2⟩ := ih (by simpa using h.2) y' e2 (by simpa using h2.2)
          exact ⟨by rw [e1, q1], q2⟩
    rw [this.1, this.2]
  · exact absurd (by simp) h1
theorem cut_miss {s : Bytes} {c : UInt8} (h : c ∉ s) : Lib.cut s [c] = (s, [], false) := by
  rcases cut_one s c with ⟨a', r', h1, _⟩ | ⟨_, h1⟩
  · exact absurd (by rw [h1]; simp) h
  · exact h1
/-- Cut at a blank and one more byte, of which there is none ahead. -/
theorem cut_two {s : Bytes} {c d : UInt8} (hcd : c ≠ d) : (∃ a r, s = a ++ c :: d :: r ∧ Lib.cut s [c, d] = (a, r, true)) ∨ Lib.cut s [c, d] = (s, [], false) := by
  unfold Lib.cut
  rcases Lib.index_spec s [c, d] with ⟨h1, h2⟩ | ⟨i, h1, h2, h3, h4⟩
  · right
    rw [h1, if_neg (by omega)]
  · left
    rw [h1, if_pos (by omega)]
    unfold Lib.occAt at h3
    obtain ⟨r, hr⟩ := List.isPrefixOf_iff_prefix.1 h3
    refine ⟨s.take i, r, ?_, ?_⟩
    · conv => lhs; rw [← List.take_append_drop i s, ← hr]
      rfl
    · have : s.drop (i + 2) = r := by
        rw [← List.drop_drop, ← hr]
        rfl
      simp [this]
theorem cut_hit2 {a r : Bytes} {c d : UInt8} (hcd : c ≠ d) (hd : d ∉ a) : Lib.cut (a ++ c :: d :: r) [c, d] = (a, r, true) := by
  have hi : Lib.index (a ++ c :: d :: r) [c, d] = (a.length : Int) := by
    refine Lib.index_first (by simp) ?_ fun j hj => ?_
    · unfold Lib.occAt
      simp [List.isPrefixOf]
    · unfold Lib.occAt
      have hlen : j < (a ++ c :: d :: r).length := by simp; omega
      rw [Bool.eq_false_iff]
      intro q
      obtain ⟨z, hz⟩ := List.isPrefixOf_iff_prefix.1 q
      have e1 : (a ++ c :: d :: r)[j + 1]? = some d := by
        have : ((a ++ c :: d :: r).drop j)[1]? = some d := by rw [← hz]; rfl
        rwa [List.getElem?_drop] at this
      by_cases hj1 : j + 1 < a.length
      · rw [List.getElem?_append_left hj1] at e1
        exact hd (List.mem_of_getElem? e1)
      · have e2 : j + 1 = a.length := by omega
        rw [e2, List.getElem?_append_right (Nat.le_refl _)] at e1
        simp at e1
        exact hcd e1
  unfold Lib.cut
  rw [hi, if_pos (by omega)]
  simp

end Go.Proofs.YtjfcfnaeinhmcaaDoor
