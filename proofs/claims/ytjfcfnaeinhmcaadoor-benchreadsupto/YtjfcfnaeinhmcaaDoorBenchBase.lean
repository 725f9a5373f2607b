/- Texts of blocks and of logs, plainly. -/
import Derived.Test.YtjfcfnaeinhmcaaDoorBlockBase
import Derived.Test.YtjfcfnaeinhmcaaDoorTextSpec
import Derived.Lib.Join
import Derived.Lib.SlTrimSet
import Derived.Lib.Bytealg
namespace Go.Proofs.YtjfcfnaeinhmcaaDoor
set_option linter.unusedVariables false
set_option maxRecDepth 4000

/-! ### the text of a block -/
def signB (k : Int) : UInt8 := if k = 3 then 62 else if k = 4 then 63 else if k = 5 then 38 else 42
/-- Texts, each behind what parts it from the one ahead. -/
def pieceB : Nat → List Bytes → Bytes
  | _, [] => []
  | 0, x :: l => 40 :: x ++ pieceB 1 l
  | n + 1, x :: l => 44 :: x ++ pieceB (n + 1) l
def textB : Nat → BlockL → Bytes
  | 0, _ => []
  | f + 1, b => if b.kind = 1 then [45] else if b.kind = 2 then [letterT b.label] else signB b.kind :: (pieceB 0 (b.kids.map (textB f)) ++ [41])
theorem piece_tail : ∀ (l : List Bytes), pieceB 1 l = Lib.joinTail [44] l
  | [] => rfl
  | x :: l => by
    show 44 :: x ++ pieceB 1 l = _
    rw [piece_tail l]
    simp [Lib.joinTail]
theorem piece_join {l : List Bytes} (h : l ≠ []) : pieceB 0 l = 40 :: Lib.join l [44] := by
  cases l with
  | nil => exact absurd rfl h
  | cons x r =>
    rw [Lib.join_cons]
    show 40 :: x ++ pieceB 1 r = _
    rw [piece_tail]
    rfl
theorem piece_pos : ∀ (n : Nat) (l : List Bytes), pieceB (n + 1) l = pieceB 1 l
  | n, [] => rfl
  | n, x :: l => by
    show 44 :: x ++ pieceB (n + 1) l = 44 :: x ++ pieceB 1 l
    rw [piece_pos n l]
theorem piece_snoc : ∀ (n : Nat) (l : List Bytes) (x : Bytes), pieceB n (l ++ [x]) = pieceB n l ++ (if n + l.length = 0 then 40 else 44) :: x
  | 0, [], x => by show 40 :: x ++ [] = _; simp [pieceB]
  | n + 1, [], x => by show 44 :: x ++ [] = _; simp [pieceB]
  | 0, y :: l, x => by
    show 40 :: y ++ pieceB 1 (l ++ [x]) = 40 :: y ++ pieceB 1 l ++ _
    rw [piece_snoc 1 l x, List.append_assoc]
    simp
  | n + 1, y :: l, x => by
    show 44 :: y ++ pieceB (n + 1) (l ++ [x]) = 44 :: y ++ pieceB (n + 1) l ++ _
    rw [piece_snoc (n + 1) l x, List.append_assoc]
    simp
theorem piece_len {t : BlockL → Bytes} {c : BlockL → Nat} : ∀ {n : Nat} {l : List BlockL}, (∀ k ∈ l, (t k).length + 2 ≤ 3 * c k) → (pieceB n (l.map t)).length + l.length ≤ 3 * sumB c l
  | _, [], _ => by simp [pieceB]
  | 0, x :: l, h => by
    have h1 := h x (by simp)
    have h2 := piece_len (n := 1) (fun k hk => h k (List.mem_cons_of_mem _ hk)) (l := l)
    show (40 :: t x ++ pieceB 1 (l.map t)).length + _ ≤ 3 * (c x + sumB c l)
    simp
    omega
  | n + 1, x :: l, h => by
    have h1 := h x (by simp)
    have h2 := piece_len (n := n + 1) (fun k hk => h k (List.mem_cons_of_mem _ hk)) (l := l)
    show (44 :: t x ++ pieceB (n + 1) (l.map t)).length + _ ≤ 3 * (c x + sumB c l)
    simp
    omega
theorem text_lenB : ∀ {f : Nat} {b : BlockL}, Fit f b → okB f b → (textB f b).length + 2 ≤ 3 * cntB f b
  | 0, b, h, _ => by cases h
  | f + 1, b, hf, h => by
    show (if b.kind = 1 then [45] else if b.kind = 2 then [letterT b.label] else signB b.kind :: (pieceB 0 (b.kids.map (textB f)) ++ [41]) : Bytes).length + 2 ≤ 3 * (1 + sumB (cntB f) b.kids)
    split
    · simp; omega
    · split
      · simp; omega
      · rename_i h1 h2
        obtain ⟨⟨g1, g2, g3, g4, g5, g6⟩, hk⟩ := h
        have hn := g5 (by omega)
        have h3 := piece_len (t := textB f) (c := cntB f) (n := 0) (l := b.kids) (fun k hk2 => text_lenB (hf k hk2) (hk k hk2))
        simp
        omega
theorem text_fit : ∀ {f g : Nat} {b : BlockL}, Fit f b → Fit g b → textB f b = textB g b
  | 0, _, _, h, _ => by cases h
  | _, 0, _, _, h => by cases h
  | f + 1, g + 1, b, h1, h2 => by
    have e : b.kids.map (textB f) = b.kids.map (textB g) := List.map_congr_left fun k hk => text_fit (h1 k hk) (h2 k hk)
    simp only [textB, e]
theorem RightB.text_len {b : BlockL} (h : RightB b) : (textB 41 b).length ≤ 118 := by
  have := text_lenB h.fit h.1
  have := h.2
  omega
theorem RightB.text {b : BlockL} (h : RightB b) : textB 41 b = if b.kind = 1 then [45] else if b.kind = 2 then [letterT b.label] else signB b.kind :: (pieceB 0 (b.kids.map (textB 41)) ++ [41]) := by
  have e : b.kids.map (textB 40) = b.kids.map (textB 41) := List.map_congr_left fun k hk => text_fit (h.fit k hk) (h.kid hk).fit
  rw [← e]
  rfl
theorem piece_take_len {n : Nat} {l : List Bytes} (k : Nat) : (pieceB n (l.take k)).length ≤ (pieceB n l).length := by
  conv => rhs; rw [← List.take_append_drop k l]
  generalize l.take k = a
  generalize l.drop k = b
  induction a generalizing n with
  | nil => simp [pieceB]
  | cons x a ih =>
    cases n with
    | zero =>
      show (40 :: x ++ pieceB 1 a).length ≤ (40 :: x ++ pieceB 1 (a ++ b)).length
      have := ih (n := 1)
      simp
      omega
    | succ n =>
      show (44 :: x ++ pieceB (n + 1) a).length ≤ (44 :: x ++ pieceB (n + 1) (a ++ b)).length
      have := ih (n := n + 1)
      simp
      omega

/-! ### the text of a log -/
def TraceOk (t : List Int) : Prop := ∀ z ∈ t, 1 ≤ z ∧ z ≤ 26
def wordT (t : List Int) : Bytes := t.map letterT
def logT : List (List Int) → Bytes
  | [] => []
  | t :: l => wordT t ++ 10 :: logT l
/-- The line that begins here is none. -/
def BadLine (R : Bytes) : Prop := R ≠ [] ∧ ∀ t r, TraceOk t → R ≠ wordT t ++ 10 :: r
def LogIs (s : Bytes) (log : List (List Int)) (k e : Int) : Prop := (e = 0 ∧ k = 0 ∧ (∀ t ∈ log, TraceOk t) ∧ s = logT log) ∨
  (e = 1 ∧ log = [] ∧ ∃ pre R, (∀ t ∈ pre, TraceOk t) ∧ s = logT pre ++ R ∧ BadLine R ∧ k = (pre.length : Int))
theorem letter_at {z : Int} (h1 : 1 ≤ z) (h2 : z ≤ 26) : (letterT z).toNat = 96 + z.toNat := by
  unfold letterT
  rw [if_pos (by omega), UInt8.toNat_ofNat']
  omega
theorem word_no10 {t : List Int} (h : TraceOk t) : (10 : UInt8) ∉ wordT t := by
  intro hm
  obtain ⟨z, hz, e⟩ := List.mem_map.1 hm
  have := letter_at (h z hz).1 (h z hz).2
  rw [e] at this
  have : (10 : UInt8).toNat = 10 := rfl
  omega
theorem word_inj : ∀ {t u : List Int}, TraceOk t → TraceOk u → wordT t = wordT u → t = u
  | [], [], _, _, _ => rfl
  | [], x :: u, _, _, e => by cases e
  | x :: t, [], _, _, e => by cases e
  | x :: t, y :: u, h1, h2, e => by
    injection e with e1 e2
    have q1 := letter_at (h1 x (by simp)).1 (h1 x (by simp)).2
    have q2 := letter_at (h2 y (by simp)).1 (h2 y (by simp)).2
    have q3 := h1 x (by simp)
    have q4 := h2 y (by simp)
    rw [e1] at q1
    rw [show x = y by omega, word_inj (fun z hz => h1 z (List.mem_cons_of_mem _ hz)) (fun z hz => h2 z (List.mem_cons_of_mem _ hz)) e2]
theorem logT_append (l m : List (List Int)) : logT (l ++ m) = logT l ++ logT m := by
  induction l with
  | nil => rfl
  | cons t l ih => show wordT t ++ 10 :: logT (l ++ m) = _; rw [ih]; show _ = wordT t ++ 10 :: logT l ++ logT m; simp
theorem log_part : ∀ {l m : List (List Int)} {R S : Bytes}, (∀ t ∈ l, TraceOk t) → (∀ t ∈ m, TraceOk t) → l.length ≤ m.length → logT l ++ R = logT m ++ S → ∃ more, m = l ++ more ∧ R = logT more ++ S
  | [], m, R, S, _, _, _, e => ⟨m, rfl, e⟩
  | t :: l, [], R, S, _, _, h, _ => by simp at h
  | t :: l, u :: m, R, S, h1, h2, h3, e => by
    have e' : wordT t ++ 10 :: (logT l ++ R) = wordT u ++ 10 :: (logT m ++ S) := by
      have : (wordT t ++ 10 :: logT l) ++ R = (wordT u ++ 10 :: logT m) ++ S := e
      simpa using this
    obtain ⟨q1, q2⟩ := part10 (word_no10 (h1 t (by simp))) (word_no10 (h2 u (by simp))) e'
    have q3 := word_inj (h1 t (by simp)) (h2 u (by simp)) q1
    obtain ⟨more, q4, q5⟩ := log_part (fun z hz => h1 z (List.mem_cons_of_mem _ hz)) (fun z hz => h2 z (List.mem_cons_of_mem _ hz)) (by simpa using h3) q2
    exact ⟨more, by rw [q3, q4]; rfl, q5⟩
theorem bad_more {R S : Bytes} {more : List (List Int)} (hb : BadLine R) (hm : ∀ t ∈ more, TraceOk t) (e : R = logT more ++ S) : more = [] := by
  cases more with
  | nil => rfl
  | cons t l => exact absurd (by rw [e]; show (wordT t ++ 10 :: logT l) ++ S = wordT t ++ 10 :: (logT l ++ S); simp) (hb.2 t (logT l ++ S) (hm t (by simp)))
theorem log_two {s R : Bytes} {log pre : List (List Int)} (h1 : ∀ t ∈ log, TraceOk t) (h2 : ∀ t ∈ pre, TraceOk t) (e1 : s = logT log) (e2 : s = logT pre ++ R) (hb : BadLine R) : False := by
  have e : logT log ++ [] = logT pre ++ R := by rw [List.append_nil, ← e1, e2]
  rcases Nat.le_total log.length pre.length with h | h
  · obtain ⟨more, q1, q2⟩ := log_part h1 h2 h e
    have : R = [] := by
      have := congrArg List.length q2
      rw [List.length_append] at this
      exact List.length_eq_zero_iff.1 (by simp at this; omega)
    exact hb.1 this
  · obtain ⟨more, q1, q2⟩ := log_part h2 h1 h e.symm
    have hm := bad_more hb (fun t ht => h1 t (by rw [q1]; exact List.mem_append_right _ ht)) q2
    rw [hm] at q2
    exact hb.1 (by rw [q2]; rfl)
theorem LogIs.one {s : Bytes} {l m : List (List Int)} {k j e f : Int} (h : LogIs s l k e) (h' : LogIs s m j f) : l = m ∧ k = j ∧ e = f := by
  rcases h with ⟨h1, h2, h3, h4⟩ | ⟨h1, h2, pre, R, h3, h4, h5, h6⟩ <;> rcases h' with ⟨q1, q2, q3, q4⟩ | ⟨q1, q2, pre', R', q3, q4, q5, q6⟩
  · refine ⟨?_, by omega, by omega⟩
    have e : logT l ++ [] = logT m ++ [] := by rw [List.append_nil, List.append_nil, ← h4, q4]
    rcases Nat.le_total l.length m.length with g | g
    · obtain ⟨more, g1, g2⟩ := log_part h3 q3 g e
      cases more with
      | nil => rw [g1, List.append_nil]
      | cons t r => exact absurd (congrArg List.length g2) (by simp [logT])
    · obtain ⟨more, g1, g2⟩ := log_part q3 h3 g e.symm
      cases more with
      | nil => rw [g1, List.append_nil]
      | cons t r => exact absurd (congrArg List.length g2) (by simp [logT])
  · exact absurd (log_two h3 q3 h4 q4 q5) id
  · exact absurd (log_two q3 h3 q4 h4 h5) id
  · have e : logT pre ++ R = logT pre' ++ R' := by rw [← h4, q4]
    have : pre.length = pre'.length := by
      rcases Nat.le_total pre.length pre'.length with g | g
      · obtain ⟨more, g1, g2⟩ := log_part h3 q3 g e
        have := bad_more h5 (fun t ht => q3 t (by rw [g1]; exact List.mem_append_right _ ht)) g2
        rw [g1, this, List.append_nil]
      · obtain ⟨more, g1, g2⟩ := log_part q3 h3 g e.symm
        have := bad_more q5 (fun t ht => h3 t (by rw [g1]; exact List.mem_append_right _ ht)) g2
        rw [g1, this, List.append_nil]
    exact ⟨by rw [h2, q2], by omega, by omega⟩

/-! ### letters -/
abbrev isLet (b : UInt8) : Prop := 97 ≤ b.toNat ∧ b.toNat ≤ 122
def valW (b : UInt8) : Int := (b.toNat : Int) - 96
theorem word_let {t : List Int} (h : TraceOk t) : ∀ b ∈ wordT t, isLet b := fun b hb => by
  obtain ⟨z, hz, e⟩ := List.mem_map.1 hb
  have h1 := letter_at (h z hz).1 (h z hz).2
  have h2 := h z hz
  rw [e] at h1
  exact ⟨by omega, by omega⟩
theorem letter_val {b : UInt8} (h : isLet b) : letterT (valW b) = b := by
  have h1 : (letterT (valW b)).toNat = b.toNat := by
    unfold valW
    rw [letter_at (by omega) (by omega)]
    omega
  exact UInt8.toNat_inj.1 h1
theorem word_back {a : Bytes} (h : ∀ b ∈ a, isLet b) : TraceOk (a.map valW) ∧ wordT (a.map valW) = a := by
  refine ⟨fun z hz => ?_, ?_⟩
  · obtain ⟨b, hb, e⟩ := List.mem_map.1 hz
    have := h b hb
    unfold valW at e
    omega
  · unfold wordT
    rw [List.map_map]
    conv => rhs; rw [← List.map_id a]
    exact List.map_congr_left fun b hb => letter_val (h b hb)
theorem bad_end {R : Bytes} (h : R ≠ []) (hn : (10 : UInt8) ∉ R) : BadLine R := ⟨h, fun t r _ e => hn (by rw [e]; simp)⟩
theorem bad_char {a r : Bytes} {c : UInt8} (ha : ∀ b ∈ a, isLet b) (hc : ¬ isLet c) (h10 : c ≠ 10) : BadLine (a ++ c :: r) := by
  refine ⟨by simp, fun t r' ht e => ?_⟩
  obtain ⟨_, q⟩ := part_one (p := isLet) ha (word_let ht) (by rintro ⟨b, l, q1, q2⟩; injection q1 with q1 _; rw [← q1] at q2; exact hc q2) (by rintro ⟨b, l, q1, q2⟩; injection q1 with q1 _; rw [← q1] at q2; exact absurd q2 (by decide)) e
  injection q with q _
  exact h10 q
/-- A line that is cut off, and holds what is no letter. -/
theorem bad_line {a r : Bytes} (h10 : (10 : UInt8) ∉ a) (hb : ¬ ∀ b ∈ a, isLet b) : BadLine (a ++ 10 :: r) := by
  refine ⟨by simp, fun t r' ht e => ?_⟩
  obtain ⟨q, _⟩ := part10 h10 (word_no10 ht) e
  exact hb (by rw [q]; exact word_let ht)
theorem logT_snoc (l : List (List Int)) (t : List Int) (R : Bytes) : logT l ++ (wordT t ++ 10 :: R) = logT (l ++ [t]) ++ R := by
  rw [logT_append]
  show _ = logT l ++ (wordT t ++ 10 :: []) ++ R
  simp

abbrev lettersL : Bytes := [97, 98, 99, 100, 101, 102, 103, 104, 105, 106, 107, 108, 109, 110, 111, 112, 113, 114, 115, 116, 117, 118, 119, 120, 121, 122]
theorem letters_has_fin : ∀ i : Fin 256, lettersL.contains (UInt8.ofNat i.val) = decide (97 ≤ i.val ∧ i.val ≤ 122) := by decide +kernel
theorem letters_has (b : UInt8) : lettersL.contains b = decide (isLet b) := by
  have h := letters_has_fin ⟨b.toNat, UInt8.toNat_lt b⟩
  have e : UInt8.ofNat b.toNat = b := UInt8.ofNat_toNat
  simp only [e] at h
  exact h
theorem letters_index_fin : ∀ i : Fin 26, Lib.indexByte lettersL (UInt8.ofNat (97 + i.val)) = (i.val : Int) := by decide +kernel
theorem letters_index {b : UInt8} (h : isLet b) : Lib.indexByte lettersL b + 1 = valW b := by
  have q := letters_index_fin ⟨b.toNat - 97, by omega⟩
  have e : UInt8.ofNat (97 + (b.toNat - 97)) = b := by rw [show 97 + (b.toNat - 97) = b.toNat by omega]; exact UInt8.ofNat_toNat
  simp only [e] at q
  rw [q]
  unfold valW
  omega
theorem trim_letters {a : Bytes} : Lib.trimLeftS a lettersL = [] ↔ ∀ b ∈ a, isLet b := by
  unfold Lib.trimLeftS
  induction a with
  | nil => simp
  | cons b l ih =>
    rw [List.dropWhile_cons, letters_has]
    by_cases h : isLet b
    · rw [if_pos (by rw [decide_eq_true_eq]; exact h), ih]
      constructor
      · intro q x hx
        rcases List.mem_cons.1 hx with e | hx
        · rw [e]; exact h
        · exact q x hx
      · intro q x hx
        exact q x (List.mem_cons_of_mem _ hx)
    · rw [if_neg (by rw [decide_eq_true_eq]; exact h)]
      constructor
      · intro q; cases q
      · intro q; exact absurd (q b (by simp)) h

end Go.Proofs.YtjfcfnaeinhmcaaDoor
