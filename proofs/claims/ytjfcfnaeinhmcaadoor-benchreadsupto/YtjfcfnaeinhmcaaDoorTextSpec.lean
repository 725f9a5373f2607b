/- Texts of nets: what their readers answer, plainly. -/
import Derived.Test.YtjfcfnaeinhmcaaDoorTextTok
namespace Go.Proofs.YtjfcfnaeinhmcaaDoor
set_option linter.unusedVariables false
set_option maxRecDepth 4000

/-- A number from least to most, as it is written. -/
def NumIs (d : Bytes) (least most x : Int) (ok : Bool) : Prop := (ok = true ∧ least ≤ x ∧ x ≤ most ∧ Lib.itoa x = d) ∨ (ok = false ∧ x = 0 ∧ ∀ y, least ≤ y → y ≤ most → Lib.itoa y ≠ d)
/-- A place, from least on, and its weight. -/
def WeightIs (s : Bytes) (least P : Nat) (p w : Int) (ok : Bool) : Prop := (ok = true ∧ ∃ q : Nat, p = q ∧ least ≤ q ∧ q < P ∧ 1 ≤ w ∧ w ≤ 9 ∧ s = tokT w q) ∨ (ok = false ∧ ∀ (q : Nat) v, least ≤ q → q < P → 1 ≤ v → v ≤ 9 → s ≠ tokT v q)
theorem no42 {n : Int} (h : 0 ≤ n) : (42 : UInt8) ∉ Lib.itoa n := fun hn => dig_42 (itoa_dig h _ hn)
theorem tok_one (q : Nat) : tokT 1 q = Lib.itoa (q : Int) := by unfold tokT; simp
theorem tok_more {v : Int} (h : 1 < v) (q : Nat) : tokT v q = Lib.itoa v ++ 42 :: Lib.itoa (q : Int) := by unfold tokT; rw [if_pos h]; simp
theorem weight_plain {s : Bytes} {least P : Nat} {p : Int} {ok : Bool} (h : (42 : UInt8) ∉ s) (hn : NumIs s least ((P : Int) - 1) p ok) : WeightIs s least P p 1 ok := by
  rcases hn with ⟨rfl, h1, h2, h3⟩ | ⟨rfl, rfl, h2⟩
  · refine .inl ⟨rfl, p.toNat, by omega, by omega, by omega, by omega, by omega, ?_⟩
    rw [tok_one, ← h3]
    congr 1
    omega
  · refine .inr ⟨rfl, fun q v h3 h4 h5 h6 e => ?_⟩
    by_cases hv : 1 < v
    · rw [tok_more hv] at e
      exact h (by rw [e]; simp)
    · obtain rfl : v = 1 := by omega
      rw [tok_one] at e
      exact h2 q (by omega) (by omega) e.symm
theorem weight_cut {s a r : Bytes} {v : Int} {q : Nat} (hs : s = a ++ 42 :: r) (ha : (42 : UInt8) ∉ a) (hv : 1 ≤ v) (e : s = tokT v q) : 1 < v ∧ a = Lib.itoa v ∧ r = Lib.itoa (q : Int) := by
  by_cases h1 : 1 < v
  · refine ⟨h1, ?_⟩
    rw [tok_more h1, hs] at e
    have h2 := cut_hit (r := r) ha
    rw [e, cut_hit (no42 (by omega))] at h2
    injection h2 with h2 h3
    injection h3 with h3 _
    exact ⟨h2.symm, h3.symm⟩
  · obtain rfl : v = 1 := by omega
    rw [tok_one] at e
    exact absurd (by rw [← e, hs]; simp) (no42 (n := (q : Int)) (by omega))
theorem weight_bad {s a r : Bytes} {w : Int} {least P : Nat} (hs : s = a ++ 42 :: r) (ha : (42 : UInt8) ∉ a) (hn : NumIs a 2 9 w false) : WeightIs s least P 0 0 false := by
  refine .inr ⟨rfl, fun q v h3 h4 h5 h6 e => ?_⟩
  obtain ⟨h7, h8, h9⟩ := weight_cut hs ha h5 e
  rcases hn with ⟨h, _⟩ | ⟨_, _, h⟩
  · cases h
  · exact h v (by omega) h6 h8.symm
theorem weight_good {s a r : Bytes} {p w : Int} {least P : Nat} {ok : Bool} (hs : s = a ++ 42 :: r) (ha : (42 : UInt8) ∉ a) (hw : NumIs a 2 9 w true) (hn : NumIs r least ((P : Int) - 1) p ok) : WeightIs s least P p w ok := by
  rcases hw with ⟨_, w1, w2, w3⟩ | ⟨h, _⟩
  · rcases hn with ⟨rfl, h1, h2, h3⟩ | ⟨rfl, rfl, h2⟩
    · refine .inl ⟨rfl, p.toNat, by omega, by omega, by omega, by omega, by omega, ?_⟩
      rw [tok_more (by omega), hs, ← h3, ← w3]
      congr 3
      omega
    · refine .inr ⟨rfl, fun q v h3 h4 h5 h6 e => ?_⟩
      obtain ⟨h7, h8, h9⟩ := weight_cut hs ha h5 e
      exact h2 q (by omega) (by omega) h9.symm
  · cases h

/-- A side, alone. -/
def SideIs (P : Nat) (R0 : Bytes) (l : List Int) (ok : Bool) : Prop := (ok = true ∧ SideOk P l ∧ R0 = sideT 0 l) ∨ (ok = false ∧ ∀ l, SideOk P l → R0 ≠ sideT 0 l)
theorem side_empty (P : Nat) : SideIs P [] (List.replicate P 0) true := .inl ⟨rfl, SideOk.zeros P, (side_zero fun w hw => List.eq_of_mem_replicate hw).symm⟩
/-- What is left: nothing, or a blank and more. -/
def leftT (more : Bool) (r : Bytes) : Bytes := if more then 32 :: r else []
theorem leftT_blank (m : Bool) (r : Bytes) : Blank (leftT m r) := by unfold leftT; split; exact blank_cons _; exact blank_nil
theorem side_ahead {P : Nat} {R0 a : Bytes} (ha : a ≠ []) (h : (32 : UInt8) ∉ a) (r : Bytes) (hR : R0 = a ++ r) : ∀ l, SideOk P l → R0 ≠ sideT 0 l := by
  intro l hl e
  rcases side_blank 0 l with q | ⟨x, q⟩
  · rw [hR, q] at e
    cases a with
    | nil => exact ha rfl
    | cons y z => simp at e
  · rw [hR, q] at e
    cases a with
    | nil => exact ha rfl
    | cons y z =>
      injection e with e _
      exact h (by rw [e]; simp)
theorem Side.step {P : Nat} {R0 one rest : Bytes} {out : List Int} {least : Nat} {more : Bool} {p : Nat} {w : Int} (h : Side P R0 out least (32 :: (one ++ leftT more rest))) (hw : WeightIs one least P p w true) : Side P R0 (out.set p w) (p + 1) (leftT more rest) := by
  rcases hw with ⟨_, q, e, h1, h2, h3, h4, h5⟩ | ⟨h, _⟩
  · obtain rfl : p = q := by omega
    subst h5
    refine h.next h1 h2 h3 h4 rfl (fun l R' k v m hl hR' _ hv e => ?_) ?_
    · obtain ⟨g1, g2, g3⟩ := tok_part hv h3 (side_stop_blank hR') (leftT_blank _ _) e
      exact ⟨g1, g2, g3⟩
    · rintro ⟨r, e⟩
      obtain ⟨b, s, q4, q5⟩ := tok_head (w := w) (p := p) (by omega)
      rw [q4] at e
      injection e with e _
      subst e
      exact dig_62 q5
  · cases h
theorem Side.fail {P : Nat} {R0 one rest : Bytes} {out : List Int} {least : Nat} {more : Bool} {p w : Int} (h : Side P R0 out least (32 :: (one ++ leftT more rest))) (h32 : (32 : UInt8) ∉ one) (hw : WeightIs one least P p w false) (l : List Int) : SideIs P R0 l false := by
  refine .inr ⟨rfl, fun l hl e => ?_⟩
  rcases hw with ⟨h, _⟩ | ⟨_, hno⟩
  · cases h
  · refine h.none rfl (fun l R' k v m _ hR' _ hv hv9 hk e => ?_) l [] hl (.inl rfl) (.inl rfl) (by rw [List.append_nil]; exact e)
    obtain ⟨e1, _⟩ := part_one (p := fun b => b ≠ 32) (fun b hb => (tok_ne (by omega) hb).1) (fun b hb q => h32 (q ▸ hb)) ((side_stop_blank hR').not (by simp)) ((leftT_blank _ _).not (by simp)) e
    exact hno (least + k) v (by omega) hk hv hv9 e1.symm
theorem Side.end_ {P : Nat} {R0 : Bytes} {out : List Int} {least : Nat} {r : Bytes} (h : Side P R0 out least (leftT false r)) : SideIs P R0 out true := .inl ⟨rfl, h.ok, by have := h.at_; rw [this]; simp [leftT]⟩

/-! ### a line -/
structure TranOk (P : Nat) (t : TranL) : Prop where
  lab : 0 ≤ t.label ∧ t.label ≤ 26
  pre : SideOk P t.pre
  post : SideOk P t.post
theorem tranOk_iff (P : Nat) (t : TranL) : tranOk (P : Int) t = true ↔ TranOk P t := by
  unfold tranOk tranHead
  simp only [Bool.and_eq_true, decide_eq_true_eq, beq_iff_eq, List.all_eq_true, List.mem_append, weightOk]
  constructor
  · rintro ⟨⟨⟨⟨h1, h2⟩, h3⟩, h4⟩, h5⟩
    exact ⟨⟨h1, h2⟩, ⟨by omega, fun w hw => h5 w (.inl hw)⟩, ⟨by omega, fun w hw => h5 w (.inr hw)⟩⟩
  · rintro ⟨⟨h1, h2⟩, ⟨h3, h4⟩, ⟨h5, h6⟩⟩
    refine ⟨⟨⟨⟨h1, h2⟩, by omega⟩, by omega⟩, fun w hw => ?_⟩
    rcases hw with hw | hw
    · exact h4 w hw
    · exact h6 w hw
theorem letter_fin : ∀ i j : Fin 27, letterT (i.val : Int) = letterT (j.val : Int) → i = j := by decide +kernel
theorem letter_inj {a b : Int} (ha : 0 ≤ a ∧ a ≤ 26) (hb : 0 ≤ b ∧ b ≤ 26) (h : letterT a = letterT b) : a = b := by
  have := letter_fin ⟨a.toNat, by omega⟩ ⟨b.toNat, by omega⟩ (by
    show letterT ((a.toNat : Nat) : Int) = letterT ((b.toNat : Nat) : Int)
    rw [show ((a.toNat : Nat) : Int) = a by omega, show ((b.toNat : Nat) : Int) = b by omega]
    exact h)
  have := congrArg Fin.val this
  simp at this
  omega
theorem letter_ne_fin : ∀ i : Fin 27, letterT (i.val : Int) ≠ 32 ∧ letterT (i.val : Int) ≠ 58 ∧ letterT (i.val : Int) ≠ 10 := by decide +kernel
theorem letter_ne {a : Int} (ha : 0 ≤ a ∧ a ≤ 26) : letterT a ≠ 32 ∧ letterT a ≠ 58 ∧ letterT a ≠ 10 := by
  have := letter_ne_fin ⟨a.toNat, by omega⟩
  rwa [show (((⟨a.toNat, by omega⟩ : Fin 27).val : Nat) : Int) = a by show ((a.toNat : Nat) : Int) = a; omega] at this
theorem mem_side : ∀ {p : Nat} {l : List Int} {b : UInt8}, (∀ w ∈ l, 0 ≤ w) → b ∈ sideT p l → b ≠ 62 ∧ b ≠ 10
  | _, [], b, _, h => by cases h
  | p, w :: l, b, hl, h => by
    rw [side_cons] at h
    rcases List.mem_append.1 h with h | h
    · by_cases hw : 0 < w
      · rw [oneT_pos hw] at h
        rcases List.mem_cons.1 h with rfl | h
        · decide
        · exact (tok_ne (by omega) h).2
      · unfold oneT at h
        rw [if_neg hw] at h
        cases h
    · exact mem_side (fun x hx => hl x (by simp [hx])) h
theorem SideOk.nn {P : Nat} {l : List Int} (h : SideOk P l) : ∀ w ∈ l, 0 ≤ w := fun w hw => (h.2 w hw).1
/-- A line and what stands behind its end are one thing alone. -/
theorem line_cut {P : Nat} {t : TranL} (h : TranOk P t) : Lib.cut (lineT t) [32, 58] = ([letterT t.label], sideT 0 t.pre ++ 32 :: 62 :: sideT 0 t.post, true) := by
  have := cut_hit2 (a := [letterT t.label]) (r := sideT 0 t.pre ++ 32 :: 62 :: sideT 0 t.post) (c := 32) (d := 58) (by decide) (by
    rw [List.mem_singleton]; exact fun e => (letter_ne h.lab).2.1 e.symm)
  exact this
theorem sides_cut {P : Nat} {a b : List Int} (h : SideOk P a) : Lib.cut (sideT 0 a ++ 32 :: 62 :: sideT 0 b) [32, 62] = (sideT 0 a, sideT 0 b, true) :=
  cut_hit2 (by decide) fun hm => (mem_side h.nn hm).1 rfl
theorem side_inj {P : Nat} {a b : List Int} (ha : SideOk P a) (hb : SideOk P b) (h : sideT 0 a = sideT 0 b) : a = b := by
  have h1 := Side.start P (sideT 0 a)
  have key : ∀ l : List Int, SideOk P l → ∀ n, n ≤ P → ∃ out least R, Side P (sideT 0 l) out least R ∧ (P - least ≤ P - n ∨ R = []) := by
    intro l hl n
    induction n with
    | zero => intro _; exact ⟨_, _, _, Side.start P _, .inl (by omega)⟩
    | succ n ih =>
      intro hn
      obtain ⟨out, least, R, hS, hR⟩ := ih (by omega)
      by_cases hR0 : R = []
      · exact ⟨out, least, R, hS, .inr hR0⟩
      · obtain ⟨e1, e2⟩ := hS.one l [] hl (.inl rfl) (by rw [List.append_nil])
        rw [List.append_nil] at e2
        rcases first_nz least (l.drop least) (fun x hx => (hl.2 x (List.mem_of_mem_drop hx)).1) with q | ⟨k, v, m, q1, q2, q3⟩
        · exact absurd (by rw [← e2, side_zero q]) hR0
        · have hlk : least + k < P := by
            have hl1 := congrArg List.length q1
            simp only [List.length_drop, List.length_append, List.length_replicate, List.length_cons] at hl1
            have := hl.1
            omega
          have hv9 : v ≤ 9 := (hl.2 v (List.mem_of_mem_drop (by rw [q1]; simp))).2
          refine ⟨_, _, _, hS.next (p := least + k) (w := v) (S := sideT (least + k + 1) m) (by omega) hlk q2 hv9 (by rw [← e2, q3]) (fun l R' k v m hl hR' _ hv e => ?_) ?_, ?_⟩
          · obtain ⟨g1, g2, g3⟩ := tok_part hv q2 (side_stop_blank hR') (side_blank _ _) e
            exact ⟨g1, g2, g3⟩
          · rintro ⟨r, e⟩
            obtain ⟨b, s, q4, q5⟩ := tok_head (w := v) (p := least + k) (by omega)
            rw [q4] at e
            injection e with e _
            subst e
            exact dig_62 q5
          · rcases hR with hR | hR
            · exact .inl (by omega)
            · exact absurd hR hR0
  obtain ⟨out, least, R, hS, hR⟩ := key a ha P (Nat.le_refl _)
  have hRe : R = [] := by
    rcases hR with hR | hR
    · have hle := hS.le
      obtain rfl : least = P := by omega
      obtain ⟨_, e2⟩ := hS.one a [] ha (.inl rfl) (by rw [List.append_nil])
      rw [List.append_nil, List.drop_eq_nil_of_le (by have := ha.1; omega)] at e2
      exact e2.symm
    · exact hR
  subst hRe
  have hd := hS.done (.inl (by rintro ⟨b, r, e, _⟩; cases e))
  rw [(hd a [] ha (.inl rfl) (by rw [List.append_nil])).1, (hd b [] hb (.inl rfl) (by rw [List.append_nil, h])).1]
theorem line_inj {P : Nat} {t u : TranL} (ht : TranOk P t) (hu : TranOk P u) (h : lineT t = lineT u) : t = u := by
  have h1 := line_cut ht
  rw [h, line_cut hu] at h1
  injection h1 with e1 e2
  injection e2 with e2 _
  have h2 := sides_cut (b := t.post) ht.pre
  rw [← e2, sides_cut hu.pre] at h2
  injection h2 with e3 e4
  injection e4 with e4 _
  injection e1 with e1 _
  obtain ⟨l1, p1, q1⟩ := t
  obtain ⟨l2, p2, q2⟩ := u
  have g1 := letter_inj hu.lab ht.lab e1
  have g2 := side_inj hu.pre ht.pre e3
  have g3 := side_inj hu.post ht.post e4
  simp only at g1 g2 g3
  rw [g1, g2, g3]
theorem line_no10 {P : Nat} {t : TranL} (h : TranOk P t) : (10 : UInt8) ∉ lineT t := by
  unfold lineT
  intro hm
  rcases List.mem_cons.1 hm with e | hm
  · exact (letter_ne h.lab).2.2 e.symm
  rcases List.mem_cons.1 hm with e | hm
  · exact absurd e (by decide)
  rcases List.mem_cons.1 hm with e | hm
  · exact absurd e (by decide)
  rcases List.mem_append.1 hm with hm | hm
  · exact (mem_side h.pre.nn hm).2 rfl
  rcases List.mem_cons.1 hm with e | hm
  · exact absurd e (by decide)
  rcases List.mem_cons.1 hm with e | hm
  · exact absurd e (by decide)
  · exact (mem_side h.post.nn hm).2 rfl
theorem part10 {a b r s : Bytes} (ha : (10 : UInt8) ∉ a) (hb : (10 : UInt8) ∉ b) (h : a ++ 10 :: r = b ++ 10 :: s) : a = b ∧ r = s := by
  have h1 := cut_hit (r := r) ha
  rw [h, cut_hit hb] at h1
  injection h1 with h1 h2
  injection h2 with h2 _
  exact ⟨h1.symm, h2.symm⟩
/-- A line's transition. -/
def LineIs (P : Nat) (s : Bytes) (t : TranL) (ok : Bool) : Prop := (ok = true ∧ TranOk P t ∧ s = lineT t) ∨ (ok = false ∧ ∀ t, TranOk P t → s ≠ lineT t)
/-- The first line's number. -/
def FirstIs (s : Bytes) (n : Int) (ok : Bool) : Prop := (ok = true ∧ 0 ≤ n ∧ n ≤ 16 ∧ s = firstT n) ∨ (ok = false ∧ ∀ m : Int, 0 ≤ m → m ≤ 16 → s ≠ firstT m)
theorem first_no10 {m : Int} (h : 0 ≤ m) : (10 : UInt8) ∉ firstT m := by
  unfold firstT
  intro hm
  rcases List.mem_append.1 hm with hm | hm
  · revert hm; decide
  · exact absurd (itoa_dig h _ hm) (by decide)
theorem first_inj {m n : Int} (h1 : 0 ≤ m) (h2 : 0 ≤ n) (h : firstT m = firstT n) : m = n := by
  unfold firstT at h
  exact itoa_inj h1 h2 (List.append_cancel_left h)

/-! ### a text -/
/-- While lines are read: of P places, ts so far, R is left. -/
structure Lines (s : Bytes) (P : Nat) (ts : List TranL) (R : Bytes) : Prop where
  le : P ≤ 16
  ok : ∀ t ∈ ts, TranOk P t
  many : ts.length ≤ 24
  at_ : s = firstT P ++ 10 :: (linesT ts ++ R)
theorem lines_append : ∀ (a b : List TranL), linesT (a ++ b) = linesT a ++ linesT b
  | [], b => rfl
  | t :: a, b => by
    show lineT t ++ 10 :: linesT (a ++ b) = lineT t ++ 10 :: linesT a ++ linesT b
    rw [lines_append a b]
    simp
theorem Lines.next {s R : Bytes} {P : Nat} {ts : List TranL} {t : TranL} {r : Bytes} (h : Lines s P ts R) (ht : TranOk P t) (hR : R = lineT t ++ 10 :: r) (hm : ts.length < 24) : Lines s P (ts ++ [t]) r where
  le := h.le
  ok x hx := by
    rcases List.mem_append.1 hx with hx | hx
    · exact h.ok x hx
    · rw [List.mem_singleton.1 hx]; exact ht
  many := by simp; omega
  at_ := by rw [h.at_, lines_append, hR]; simp [linesT]
/-- What is wrong, and where: the first line, or the one behind so many. -/
def BadT (s : Bytes) (k : Int) : Prop := (k = 0 ∧ ∀ (P : Nat) r, P ≤ 16 → s ≠ firstT P ++ 10 :: r) ∨ ∃ P ts R, Lines s P ts R ∧ k = ((ts.length + 1 : Nat) : Int) ∧ R ≠ [] ∧ (ts.length = 24 ∨ ∀ t r, TranOk P t → R ≠ lineT t ++ 10 :: r)
def ParseIs (s : Bytes) (n : NetL) (k e : Int) : Prop := (e = 0 ∧ k = 0 ∧ netOk n = true ∧ s = textT n) ∨ (e = 1 ∧ n = ⟨0, []⟩ ∧ BadT s k)
theorem Lines.same {s R R' : Bytes} {P P' : Nat} {ts ts' : List TranL} (h : Lines s P ts R) (h' : Lines s P' ts' R') (hl : ts.length ≤ ts'.length) : P = P' ∧ ∃ more, ts' = ts ++ more ∧ R = linesT more ++ R' := by
  have e := h.at_
  rw [h'.at_] at e
  obtain ⟨e1, e2⟩ := part10 (first_no10 (by omega)) (first_no10 (by omega)) e
  have e3 := first_inj (by omega) (by omega) e1
  have e3 : P = P' := by omega
  subst e3
  refine ⟨rfl, ?_⟩
  have go : ∀ (ts ts' : List TranL), (∀ t ∈ ts, TranOk P t) → (∀ t ∈ ts', TranOk P t) → ts.length ≤ ts'.length → linesT ts' ++ R' = linesT ts ++ R → ∃ more, ts' = ts ++ more ∧ R = linesT more ++ R' := by
    intro ts
    induction ts with
    | nil => intro ts' _ _ _ e; exact ⟨ts', rfl, e.symm⟩
    | cons t ts ih =>
      intro ts' h1 h2 hl e
      cases ts' with
      | nil => simp at hl
      | cons t' ts' =>
        have e : lineT t' ++ 10 :: (linesT ts' ++ R') = lineT t ++ 10 :: (linesT ts ++ R) := by simpa [linesT] using e
        obtain ⟨q1, q2⟩ := part10 (line_no10 (h2 t' (by simp))) (line_no10 (h1 t (by simp))) e
        obtain rfl := line_inj (h2 t' (by simp)) (h1 t (by simp)) q1
        obtain ⟨more, m1, m2⟩ := ih ts' (fun x hx => h1 x (by simp [hx])) (fun x hx => h2 x (by simp [hx])) (by simpa using hl) q2
        exact ⟨more, by rw [m1]; rfl, m2⟩
  exact go ts ts' h.ok h'.ok hl e2
theorem Lines.whole {s : Bytes} {n : NetL} (h : netOk n = true) (hs : s = textT n) : Lines s n.places.toNat n.trans [] ∧ n.places = (n.places.toNat : Int) := by
  unfold netOk headOk at h
  simp only [Bool.and_eq_true, decide_eq_true_eq, List.all_eq_true] at h
  obtain ⟨⟨⟨h1, h2⟩, h3⟩, h4⟩ := h
  have e : n.places = (n.places.toNat : Int) := by omega
  refine ⟨⟨by omega, fun t ht => (tranOk_iff _ t).1 (by rw [← e]; exact h4 t ht), h3, ?_⟩, e⟩
  rw [hs, ← e, List.append_nil]
  rfl
theorem Lines.net {s : Bytes} {P : Nat} {ts : List TranL} (h : Lines s P ts []) : netOk ⟨P, ts⟩ = true ∧ s = textT ⟨P, ts⟩ := by
  refine ⟨?_, by rw [h.at_, List.append_nil]; rfl⟩
  unfold netOk headOk
  simp only [Bool.and_eq_true, decide_eq_true_eq, List.all_eq_true]
  exact ⟨⟨⟨by omega, by have := h.le; omega⟩, h.many⟩, fun t ht => (tranOk_iff _ t).2 (h.ok t ht)⟩
theorem Lines.bad_whole {s R : Bytes} {P Q : Nat} {ts us : List TranL} (h : Lines s P ts R) (hR : R ≠ []) (hb : ts.length = 24 ∨ ∀ t r, TranOk P t → R ≠ lineT t ++ 10 :: r) {R' : Bytes} (k : Lines s Q us R') : us.length ≤ ts.length := by
  by_cases hl : ts.length ≤ us.length
  · obtain ⟨rfl, more, e1, e2⟩ := h.same k hl
    cases more with
    | nil => rw [e1]; simp
    | cons t more =>
      exfalso
      rcases hb with hb | hb
      · have := k.many
        rw [e1] at this
        simp at this
        omega
      · exact hb t (linesT more ++ R') (k.ok t (by rw [e1]; simp)) (by rw [e2]; simp [linesT])
  · omega
theorem BadT.not_whole {s : Bytes} {k : Int} {n : NetL} (h : BadT s k) (hn : netOk n = true) (hs : s = textT n) : False := by
  obtain ⟨hw, e⟩ := Lines.whole hn hs
  rcases h with ⟨_, h⟩ | ⟨P, ts, R, h1, _, h2, h3⟩
  · exact h _ _ hw.le hw.at_
  · have h4 := h1.bad_whole h2 h3 hw
    obtain ⟨_, more, e1, e2⟩ := hw.same h1 h4
    cases more with
    | nil => exact h2 (by simpa [linesT] using e2.symm)
    | cons t more =>
      have : ([] : Bytes).length = (linesT (t :: more) ++ R).length := by rw [← e2]
      simp [linesT] at this
theorem BadT.one {s : Bytes} {k j : Int} (h : BadT s k) (h' : BadT s j) : k = j := by
  rcases h with ⟨e, h⟩ | ⟨P, ts, R, h1, e, h2, h3⟩ <;> rcases h' with ⟨e', h'⟩ | ⟨P', ts', R', h1', e', h2', h3'⟩
  · omega
  · exact absurd h1'.at_ (h P' _ h1'.le)
  · exact absurd h1.at_ (h' P _ h1.le)
  · have q1 := h1.bad_whole h2 h3 h1'
    have q2 := h1'.bad_whole h2' h3' h1
    omega
theorem ParseIs.one {s : Bytes} {n m : NetL} {k j e f : Int} (h : ParseIs s n k e) (h' : ParseIs s m j f) : n = m ∧ k = j ∧ e = f := by
  rcases h with ⟨h1, h2, h3, h4⟩ | ⟨h1, h2, h3⟩ <;> rcases h' with ⟨q1, q2, q3, q4⟩ | ⟨q1, q2, q3⟩
  · obtain ⟨w1, w2⟩ := Lines.whole h3 h4
    obtain ⟨v1, v2⟩ := Lines.whole q3 q4
    refine ⟨?_, by omega, by omega⟩
    rcases Nat.le_total n.trans.length m.trans.length with hl | hl
    · obtain ⟨g1, more, g2, g3⟩ := w1.same v1 hl
      have : more = [] := by
        cases more with
        | nil => rfl
        | cons t more => have := congrArg List.length g3; simp [linesT] at this
      subst this
      obtain ⟨np, nt⟩ := n
      obtain ⟨mp, mt⟩ := m
      simp only [List.append_nil] at *
      rw [g2, show np = mp by omega]
    · obtain ⟨g1, more, g2, g3⟩ := v1.same w1 hl
      have : more = [] := by
        cases more with
        | nil => rfl
        | cons t more => have := congrArg List.length g3; simp [linesT] at this
      subst this
      obtain ⟨np, nt⟩ := n
      obtain ⟨mp, mt⟩ := m
      simp only [List.append_nil] at *
      rw [g2, show np = mp by omega]
  · exact absurd (q3.not_whole h3 h4) id
  · exact absurd (h3.not_whole q3 q4) id
  · exact ⟨by rw [h2, q2], h3.one q3, by omega⟩

end Go.Proofs.YtjfcfnaeinhmcaaDoor
