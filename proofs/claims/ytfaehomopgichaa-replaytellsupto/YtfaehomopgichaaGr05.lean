import Derived.Test.YtfaehomopgichaaGr04
import Derived.Test.YtfaehomopgichaaGr02
/- Plain words for a trace that is replayed: what lacks, and what is left. -/
namespace Go.Proofs.Ytfaehomopgichaa
set_option linter.unusedVariables false
set_option maxRecDepth 4000

/-- What is told of a replay. -/
structure PlayL where
  put : Int
  taken : Int
  lacked : Int
  left : Int
def noPlay : PlayL := ⟨0, 0, 0, 0⟩

/-- A replay that goes on: what is told, and what is there. -/
structure GameL where
  pl : PlayL
  there : Nat → Int

/-- What lacks at a place. -/
def lackG (g : Nat → Int) (t : List Int) (p : Nat) : Int := max (nth t p - g p) 0

/-- The first k places of tokens are put. -/
def putTo (g : GameL) (t : List Int) (k : Nat) : GameL :=
  ⟨⟨g.pl.put + sumTo (nth t) k, g.pl.taken, g.pl.lacked, g.pl.left + sumTo (nth t) k⟩, fun p => if p < k then g.there p + nth t p else g.there p⟩
def takeTo (g : GameL) (t : List Int) (k : Nat) : GameL :=
  ⟨⟨g.pl.put, g.pl.taken + sumTo (nth t) k, g.pl.lacked + sumTo (lackG g.there t) k, g.pl.left + sumTo (fun p => lackG g.there t p - nth t p) k⟩, fun p => if p < k then g.there p + (lackG g.there t p - nth t p) else g.there p⟩
def putG (g : GameL) (t : List Int) : GameL := putTo g t t.length
def takeG (g : GameL) (t : List Int) : GameL := takeTo g t t.length

def hasLab (l : Int) (t : TranL) : Bool := t.label == l
/-- Which transition has that label. -/
def labIdx (n : NetL) (l : Int) : Option Nat := n.trans.findIdx? (hasLab l)
/-- All labels of a trace, in turn. -/
def gameL (n : NetL) : List Int → GameL → Option GameL
  | [], g => some g
  | l :: ls, g => match labIdx n l with
    | none => none
    | some k => gameL n ls (putG (takeG g (tranAt n.trans k).pre) (tranAt n.trans k).post)
/-- Each transition has a label of its own. -/
def NamedN (n : NetL) : Prop := ∀ k, k < n.trans.length → (tranAt n.trans k).label ≠ 0 ∧ ∀ j, j < k → (tranAt n.trans j).label ≠ (tranAt n.trans k).label
def begunG (n : NetL) (i : Int) : GameL := putG ⟨noPlay, fun _ => 0⟩ (startL n.places i)

/-- What is answered. -/
structure Replayed (n : NetL) (i o : Int) (tr : List Int) (r : PlayL) (e : Int) : Prop where
  bad : ∀ d, Judged n i o d → d ≠ 0 → r = noPlay ∧ e = d
  form : ShapeOk n i o → ¬ NamedN n → r = noPlay ∧ e = 1
  many : ShapeOk n i o → NamedN n → 60 < tr.length → r = noPlay ∧ e = 2
  none : ShapeOk n i o → NamedN n → tr.length ≤ 60 → gameL n tr (begunG n i) = .none → r = noPlay ∧ e = 3
  ok : ShapeOk n i o → NamedN n → tr.length ≤ 60 → ∀ g, gameL n tr (begunG n i) = some g → r = (takeG g (startL n.places o)).pl ∧ e = 0

theorem judged_ex (n : NetL) (i o : Int) : ∃ d, Judged n i o d := by
  cases hn : netOk n with
  | false => exact ⟨2, Judged.of_bad hn⟩
  | true =>
    by_cases hs : ShapeOk n i o
    · exact ⟨0, Judged.of_right hs⟩
    · exact ⟨1, Judged.of_form hn hs⟩

theorem Replayed.unique {n : NetL} {i o : Int} {tr : List Int} {r s : PlayL} {e f : Int} (h : Replayed n i o tr r e) (k : Replayed n i o tr s f) : r = s ∧ e = f := by
  obtain ⟨d, hd⟩ := judged_ex n i o
  by_cases h0 : d = 0
  · subst h0
    have hs := hd.zero
    by_cases hn : NamedN n
    · by_cases hl : 60 < tr.length
      · obtain ⟨rfl, rfl⟩ := h.many hs hn hl; obtain ⟨rfl, rfl⟩ := k.many hs hn hl; exact ⟨rfl, rfl⟩
      · cases hg : gameL n tr (begunG n i) with
        | none => obtain ⟨rfl, rfl⟩ := h.none hs hn (by omega) hg; obtain ⟨rfl, rfl⟩ := k.none hs hn (by omega) hg; exact ⟨rfl, rfl⟩
        | some g => obtain ⟨rfl, rfl⟩ := h.ok hs hn (by omega) g hg; obtain ⟨rfl, rfl⟩ := k.ok hs hn (by omega) g hg; exact ⟨rfl, rfl⟩
    · obtain ⟨rfl, rfl⟩ := h.form hs hn; obtain ⟨rfl, rfl⟩ := k.form hs hn; exact ⟨rfl, rfl⟩
  · obtain ⟨r1, e1⟩ := h.bad d hd h0; obtain ⟨r2, e2⟩ := k.bad d hd h0; exact ⟨r1.trans r2.symm, e1.trans e2.symm⟩

theorem Replayed.of_bad {n : NetL} {i o d : Int} {tr : List Int} (h : Judged n i o d) (h0 : d ≠ 0) : Replayed n i o tr noPlay d :=
  ⟨fun d' hd' _ => ⟨rfl, h.unique hd'⟩, fun hs => absurd hs (h.not_zero h0), fun hs => absurd hs (h.not_zero h0), fun hs => absurd hs (h.not_zero h0), fun hs => absurd hs (h.not_zero h0)⟩
theorem Replayed.of_form {n : NetL} {i o : Int} {tr : List Int} (hs : ShapeOk n i o) (hn : ¬ NamedN n) : Replayed n i o tr noPlay 1 :=
  ⟨fun d hd h0 => absurd hs (hd.not_zero h0), fun _ _ => ⟨rfl, rfl⟩, fun _ h => absurd h hn, fun _ h => absurd h hn, fun _ h => absurd h hn⟩
theorem Replayed.of_many {n : NetL} {i o : Int} {tr : List Int} (hs : ShapeOk n i o) (hn : NamedN n) (hl : 60 < tr.length) : Replayed n i o tr noPlay 2 :=
  ⟨fun d hd h0 => absurd hs (hd.not_zero h0), fun _ h => absurd hn h, fun _ _ _ => ⟨rfl, rfl⟩, fun _ _ h => absurd h (by omega), fun _ _ h => absurd h (by omega)⟩
theorem Replayed.of_none {n : NetL} {i o : Int} {tr : List Int} (hs : ShapeOk n i o) (hn : NamedN n) (hl : tr.length ≤ 60) (hg : gameL n tr (begunG n i) = .none) : Replayed n i o tr noPlay 3 :=
  ⟨fun d hd h0 => absurd hs (hd.not_zero h0), fun _ h => absurd hn h, fun _ _ h => absurd h (by omega), fun _ _ _ _ => ⟨rfl, rfl⟩, fun _ _ _ g h => by rw [hg] at h; cases h⟩
theorem Replayed.of_ok {n : NetL} {i o : Int} {tr : List Int} {g : GameL} (hs : ShapeOk n i o) (hn : NamedN n) (hl : tr.length ≤ 60) (hg : gameL n tr (begunG n i) = some g) : Replayed n i o tr (takeG g (startL n.places o)).pl 0 :=
  ⟨fun d hd h0 => absurd hs (hd.not_zero h0), fun _ h => absurd hn h, fun _ _ h => absurd h (by omega), fun _ _ _ h => by (rw [hg] at h; cases h), fun _ _ _ g' h => by rw [hg] at h; cases h; exact ⟨rfl, rfl⟩⟩

theorem gameL_append (n : NetL) (ls ms : List Int) : ∀ g, gameL n (ls ++ ms) g = (gameL n ls g).bind (gameL n ms) := by
  induction ls with
  | nil => intro g; rfl
  | cons l ls ih =>
    intro g
    simp only [List.cons_append, gameL]
    cases labIdx n l with
    | none => rfl
    | some k => exact ih _
theorem gameL_snoc (n : NetL) (ls : List Int) (l : Int) (g0 g : GameL) (h : gameL n ls g0 = some g) : gameL n (ls ++ [l]) g0 = match labIdx n l with
    | none => none
    | some k => some (putG (takeG g (tranAt n.trans k).pre) (tranAt n.trans k).post) := by
  rw [gameL_append, h]
  show gameL n [l] g = _
  simp only [gameL]
theorem gameL_stop (n : NetL) (ls ms : List Int) (l : Int) (g0 g : GameL) (h : gameL n ls g0 = some g) (hl : labIdx n l = none) : gameL n (ls ++ l :: ms) g0 = none := by
  rw [gameL_append, h]
  show gameL n (l :: ms) g = _
  simp only [gameL, hl]

/-! ### bounds -/
/-- So many times something was put or taken. -/
structure BndG (P k : Nat) (g : GameL) : Prop where
  put0 : 0 ≤ g.pl.put
  put1 : g.pl.put ≤ 144 * k
  tak0 : 0 ≤ g.pl.taken
  tak1 : g.pl.taken ≤ 144 * k
  lac0 : 0 ≤ g.pl.lacked
  lac1 : g.pl.lacked ≤ 144 * k
  sum : g.pl.put + g.pl.lacked = g.pl.taken + g.pl.left
  left : g.pl.left = sumTo g.there P
  there0 : ∀ p, 0 ≤ g.there p
  there1 : ∀ p, g.there p ≤ 9 * k
  past : ∀ p, P ≤ p → g.there p = 0

/-- Tokens of a transition, or of a beginning. -/
structure Toks (P : Nat) (t : List Int) : Prop where
  len : t.length = P
  lo : ∀ p, 0 ≤ nth t p
  hi : ∀ p, nth t p ≤ 9
theorem Toks.sum0 {P : Nat} {t : List Int} (h : Toks P t) (k : Nat) : 0 ≤ sumTo (nth t) k := sumTo_nonneg fun j _ => h.lo j
theorem Toks.sum1 {P : Nat} {t : List Int} (h : Toks P t) {k : Nat} (hk : k ≤ 16) : sumTo (nth t) k ≤ 144 := by
  have := sumTo_le (f := nth t) (g := fun _ => 9) (k := k) fun j _ => h.hi j
  rw [sumTo_const] at this; omega
theorem lack0 (g : Nat → Int) (t : List Int) (p : Nat) : 0 ≤ lackG g t p := by unfold lackG; omega
theorem lack1 {g : Nat → Int} {P : Nat} {t : List Int} (h : Toks P t) (hg : ∀ p, 0 ≤ g p) (p : Nat) : lackG g t p ≤ 9 := by have := h.hi p; have := hg p; unfold lackG; omega
theorem lack_sum0 (g : Nat → Int) (t : List Int) (k : Nat) : 0 ≤ sumTo (lackG g t) k := sumTo_nonneg fun j _ => lack0 g t j
theorem lack_sum1 {g : Nat → Int} {P : Nat} {t : List Int} (h : Toks P t) (hg : ∀ p, 0 ≤ g p) {k : Nat} (hk : k ≤ 16) : sumTo (lackG g t) k ≤ 144 := by
  have := sumTo_le (f := lackG g t) (g := fun _ => 9) (k := k) fun j _ => lack1 h hg j
  rw [sumTo_const] at this; omega
theorem sumTo_sub (f g : Nat → Int) (k : Nat) : sumTo (fun p => f p - g p) k = sumTo f k - sumTo g k := by
  have h1 := sumTo_add f (fun p => - g p) k
  rw [sumTo_neg] at h1
  have : sumTo (fun p => f p - g p) k = sumTo (fun p => f p + - g p) k := sumTo_congr fun j _ => by omega
  omega

theorem tok_of_tran {n : NetL} {P : Nat} (hn : netOk n = true) (hP : n.places = P) {k : Nat} (hk : k < n.trans.length) : Toks P (tranAt n.trans k).pre ∧ Toks P (tranAt n.trans k).post := by
  have h := net_tran hn hk
  obtain ⟨l1, l2⟩ := tran_length hn hk
  simp only [tranOk, Bool.and_eq_true, List.all_append] at h
  have key : ∀ xs : List Int, xs.all weightOk = true → (xs.length : Int) = P → Toks P xs := by
    intro xs hx hl
    have hb : ∀ p, 0 ≤ nth xs p ∧ nth xs p ≤ 9 := by
      intro p
      by_cases hp : p < xs.length
      · have := List.all_eq_true.1 hx _ (List.getElem_mem hp)
        simp only [weightOk, Bool.and_eq_true, decide_eq_true_eq] at this
        simp only [nth, List.getD, List.getElem?_eq_getElem hp, Option.getD_some]
        exact this
      · rw [nth_past xs p (by omega)]; omega
    exact ⟨by omega, fun p => (hb p).1, fun p => (hb p).2⟩
  exact ⟨key _ h.2.1 (by omega), key _ h.2.2 (by omega)⟩
theorem tok_of_start {P : Nat} (hP : P ≤ 16) (i : Int) : Toks P (startL P i) :=
  ⟨by rw [start_length]; omega, fun p => (start_bounds _ _ p).1, fun p => by have := (start_bounds (P : Int) i p).2; omega⟩
theorem start_sum {P : Nat} (hP : P ≤ 16) {i : Nat} (hi : i < P) : sumTo (nth (startL P i)) P = 1 := by
  rw [sumTo_single (i := i) hi fun j hj hne => by rw [start_at _ _ _ (by omega), if_neg (by omega)], start_at _ _ _ (by omega), if_pos rfl]

theorem BndG.put {P k : Nat} {g : GameL} {t : List Int} (h : BndG P k g) (hP : P ≤ 16) (ht : Toks P t) : BndG P (k + 1) (putG g t) := by
  have a1 := ht.sum0 P
  have a2 := ht.sum1 hP
  have e : ∀ p, (putG g t).there p = g.there p + nth t p := by
    intro p
    show (if p < t.length then _ else _) = _
    by_cases hp : p < t.length
    · rw [if_pos hp]
    · rw [if_neg hp, nth_past _ _ (by omega)]; omega
  have e2 : sumTo (putG g t).there P = sumTo g.there P + sumTo (nth t) P := by rw [← sumTo_add]; exact sumTo_congr fun j _ => e j
  have := h.left
  have := h.sum
  have := h.put0
  have := h.put1
  have := h.tak0
  have := h.tak1
  have := h.lac0
  have := h.lac1
  refine ⟨?_, ?_, ?_, ?_, ?_, ?_, ?_, ?_, fun p => ?_, fun p => ?_, fun p hp => ?_⟩
  all_goals try (simp only [putG, putTo, ht.len]; omega)
  · rw [e2]; simp only [putG, putTo, ht.len]; omega
  · rw [e]; have := h.there0 p; have := ht.lo p; omega
  · rw [e]; have := h.there1 p; have := ht.hi p; omega
  · rw [e, h.past p hp, nth_past _ _ (by rw [ht.len]; exact hp)]; rfl
theorem takeG_there {P : Nat} {g : GameL} {t : List Int} (ht : t.length = P) (h0 : ∀ p, 0 ≤ g.there p) (p : Nat) : (takeG g t).there p = g.there p + (lackG g.there t p - nth t p) := by
  show (if p < t.length then _ else _) = _
  by_cases hp : p < t.length
  · rw [if_pos hp]
  · have := h0 p
    rw [if_neg hp]; unfold lackG; rw [nth_past _ _ (by omega)]; omega
theorem putG_there (g : GameL) (t : List Int) (p : Nat) : (putG g t).there p = g.there p + nth t p := by
  show (if p < t.length then _ else _) = _
  by_cases hp : p < t.length
  · rw [if_pos hp]
  · rw [if_neg hp, nth_past _ _ (by omega)]; omega
theorem BndG.take {P k : Nat} {g : GameL} {t : List Int} (h : BndG P k g) (hP : P ≤ 16) (ht : Toks P t) : BndG P (k + 1) (takeG g t) := by
  have a1 := ht.sum0 P
  have a2 := ht.sum1 hP
  have a3 := lack_sum0 g.there t P
  have a4 := lack_sum1 ht h.there0 hP
  have e := fun p => takeG_there (g := g) ht.len h.there0 p
  have e1 : sumTo (fun p => lackG g.there t p - nth t p) P = sumTo (lackG g.there t) P - sumTo (nth t) P := sumTo_sub _ _ _
  have e2 : sumTo (takeG g t).there P = sumTo g.there P + sumTo (fun p => lackG g.there t p - nth t p) P := by rw [← sumTo_add]; exact sumTo_congr fun j _ => e j
  have := h.left
  have := h.sum
  have := h.put0
  have := h.put1
  have := h.tak0
  have := h.tak1
  have := h.lac0
  have := h.lac1
  refine ⟨?_, ?_, ?_, ?_, ?_, ?_, ?_, ?_, fun p => ?_, fun p => ?_, fun p hp => ?_⟩
  all_goals try (simp only [takeG, takeTo, ht.len]; omega)
  · rw [e2]; simp only [takeG, takeTo, ht.len]; omega
  · rw [e]; have := h.there0 p; unfold lackG; omega
  · rw [e]; have := h.there1 p; have := ht.lo p; have := h.there0 p; unfold lackG; omega
  · rw [e, h.past p hp]; unfold lackG; rw [h.past p hp, nth_past _ _ (by rw [ht.len]; exact hp)]; rfl
theorem bnd_zero (P : Nat) : BndG P 0 ⟨noPlay, fun _ => 0⟩ :=
  ⟨Int.le_refl _, Int.le_refl _, Int.le_refl _, Int.le_refl _, Int.le_refl _, Int.le_refl _, rfl, (sumTo_zero fun _ _ => rfl).symm, fun _ => Int.le_refl _, fun _ => Int.le_refl _, fun _ _ => rfl⟩

theorem shape_places {n : NetL} {i o : Int} (h : ShapeOk n i o) : ∃ P : Nat, n.places = P ∧ 0 < P ∧ P ≤ 16 := by
  have h1 := h.ok
  simp only [netOk, headOk, Bool.and_eq_true, decide_eq_true_eq] at h1
  have := h.i0
  have := h.i1
  exact ⟨n.places.toNat, by omega, by omega, by omega⟩
theorem labIdx_some {n : NetL} {l : Int} {k : Nat} (h : labIdx n l = some k) : k < n.trans.length ∧ (tranAt n.trans k).label = l := by
  unfold labIdx at h
  obtain ⟨h1, h2, _⟩ := List.findIdx?_eq_some_iff_getElem.1 h
  refine ⟨h1, ?_⟩
  simpa [hasLab, tranAt, List.getD, List.getElem?_eq_getElem h1] using h2
theorem labIdx_none {n : NetL} {l : Int} (h : labIdx n l = none) {k : Nat} (hk : k < n.trans.length) : (tranAt n.trans k).label ≠ l := by
  unfold labIdx at h
  have := List.findIdx?_eq_none_iff.1 h _ (List.getElem_mem hk)
  simpa [hasLab, tranAt, List.getD, List.getElem?_eq_getElem hk] using this
theorem named_one {n : NetL} (h : NamedN n) {j k : Nat} (hj : j < n.trans.length) (hk : k < n.trans.length) (e : (tranAt n.trans j).label = (tranAt n.trans k).label) : j = k := by
  rcases Nat.lt_trichotomy j k with q | q | q
  · exact absurd e ((h k hk).2 j q)
  · exact q
  · exact absurd e.symm ((h j hj).2 k q)
theorem labIdx_of {n : NetL} (h : NamedN n) {k : Nat} (hk : k < n.trans.length) : labIdx n (tranAt n.trans k).label = some k := by
  cases e : labIdx n (tranAt n.trans k).label with
  | none => exact absurd rfl (labIdx_none e hk)
  | some j => obtain ⟨h1, h2⟩ := labIdx_some e; rw [named_one h h1 hk h2]

theorem BndG.game {n : NetL} {P : Nat} (hn : netOk n = true) (hP : n.places = P) (hP2 : P ≤ 16) : ∀ (tr : List Int) {k : Nat} {g g' : GameL}, BndG P k g → gameL n tr g = some g' → BndG P (k + 2 * tr.length) g' := by
  intro tr
  induction tr with
  | nil => intro k g g' h e; cases e; exact h
  | cons l ls ih =>
    intro k g g' h e
    simp only [gameL] at e
    cases hl : labIdx n l with
    | none => rw [hl] at e; cases e
    | some j =>
      rw [hl] at e
      obtain ⟨hj, _⟩ := labIdx_some hl
      obtain ⟨t1, t2⟩ := tok_of_tran hn hP hj
      have := ih ((h.take hP2 t1).put hP2 t2) e
      rw [List.length_cons]
      exact (show k + 1 + 1 + 2 * ls.length = k + 2 * (ls.length + 1) by omega) ▸ this
theorem begun_bnd {n : NetL} {P : Nat} (hP : n.places = P) (hP2 : P ≤ 16) (i : Int) : BndG P 1 (begunG n i) := by
  have := (bnd_zero P).put hP2 (tok_of_start hP2 i)
  rw [← hP] at this
  exact this

/-- What stands behind an answer. -/
theorem Replayed.zero {n : NetL} {i o : Int} {tr : List Int} {r : PlayL} (h : Replayed n i o tr r 0) : ShapeOk n i o ∧ NamedN n ∧ tr.length ≤ 60 ∧ ∃ g, gameL n tr (begunG n i) = some g ∧ r = (takeG g (startL n.places o)).pl := by
  obtain ⟨d, hd⟩ := judged_ex n i o
  by_cases h0 : d = 0
  · subst h0
    have hs := hd.zero
    by_cases hn : NamedN n
    · by_cases hl : 60 < tr.length
      · have := (h.many hs hn hl).2; omega
      · cases hg : gameL n tr (begunG n i) with
        | none => have := (h.none hs hn (by omega) hg).2; omega
        | some g => exact ⟨hs, hn, by omega, g, rfl, (h.ok hs hn (by omega) g hg).1⟩
    · have := (h.form hs hn).2; omega
  · have := (h.bad d hd h0).2; omega
theorem Replayed.err {n : NetL} {i o e : Int} {tr : List Int} {r : PlayL} (h : Replayed n i o tr r e) (he : e ≠ 0) : r = noPlay := by
  obtain ⟨d, hd⟩ := judged_ex n i o
  by_cases h0 : d = 0
  · subst h0
    have hs := hd.zero
    by_cases hn : NamedN n
    · by_cases hl : 60 < tr.length
      · exact (h.many hs hn hl).1
      · cases hg : gameL n tr (begunG n i) with
        | none => exact (h.none hs hn (by omega) hg).1
        | some g => exact absurd (h.ok hs hn (by omega) g hg).2 he
    · exact (h.form hs hn).1
  · exact (h.bad d hd h0).1

theorem game_grows {n : NetL} {P : Nat} (hn : netOk n = true) (hP : n.places = P) : ∀ (tr : List Int) {g g' : GameL}, gameL n tr g = some g' → g.pl.put ≤ g'.pl.put ∧ g.pl.lacked ≤ g'.pl.lacked := by
  intro tr
  induction tr with
  | nil => intro g g' e; cases e; exact ⟨Int.le_refl _, Int.le_refl _⟩
  | cons l ls ih =>
    intro g g' e
    simp only [gameL] at e
    cases hl : labIdx n l with
    | none => rw [hl] at e; cases e
    | some j =>
      rw [hl] at e
      obtain ⟨hj, _⟩ := labIdx_some hl
      obtain ⟨t1, t2⟩ := tok_of_tran hn hP hj
      obtain ⟨a1, a2⟩ := ih e
      have b1 := t2.sum0 (tranAt n.trans j).post.length
      have b2 := lack_sum0 g.there (tranAt n.trans j).pre (tranAt n.trans j).pre.length
      simp only [putG, putTo, takeG, takeTo] at a1 a2
      exact ⟨by omega, by omega⟩

/-- Tokens add up. -/
theorem Replayed.sums {n : NetL} {i o : Int} {tr : List Int} {r : PlayL} (h : Replayed n i o tr r 0) : r.put + r.lacked = r.taken + r.left ∧ 0 ≤ r.lacked ∧ 0 ≤ r.left ∧ 0 < r.put ∧ 0 < r.taken ∧ r.put ≤ 20000 ∧ r.taken ≤ 20000 ∧ r.lacked ≤ 20000 ∧ r.left ≤ 20000 := by
  obtain ⟨hs, hn, hl, g, hg, rfl⟩ := h.zero
  obtain ⟨P, hP, hP0, hP1⟩ := shape_places hs
  have hb0 := begun_bnd hP hP1 i
  have hb := BndG.game hs.ok hP hP1 tr hb0 hg
  have ht : Toks P (startL n.places o) := by rw [hP]; exact tok_of_start hP1 o
  have hb2 := hb.take hP1 ht
  have hle := sumTo_le (f := (takeG g (startL n.places o)).there) (g := fun _ => 1100) (k := P) fun j _ => by have := hb2.there1 j; omega
  rw [sumTo_const, ← hb2.left] at hle
  have hge : 0 ≤ sumTo (takeG g (startL n.places o)).there P := sumTo_nonneg fun j _ => hb2.there0 j
  rw [← hb2.left] at hge
  obtain ⟨i', hi⟩ := Int.eq_ofNat_of_zero_le hs.i0
  obtain ⟨o', ho⟩ := Int.eq_ofNat_of_zero_le hs.o0
  have h1 := hs.i1
  have h2 := hs.o1
  have s1 := start_sum hP1 (i := i') (by omega)
  have s2 := start_sum hP1 (i := o') (by omega)
  have g1 := (game_grows hs.ok hP tr hg).1
  have e1 : (begunG n i).pl.put = 1 := by
    unfold begunG
    simp only [putG, putTo, noPlay]
    rw [start_length, hP, show (min (P : Int) 16).toNat = P by omega, hi]
    omega
  have e2 : (takeG g (startL n.places o)).pl.taken = g.pl.taken + 1 := by
    simp only [takeG, takeTo]
    rw [start_length, hP, show (min (P : Int) 16).toNat = P by omega, ho]
    omega
  have e3 : (takeG g (startL n.places o)).pl.put = g.pl.put := rfl
  have := hb2.sum
  have := hb2.put1
  have := hb2.tak1
  have := hb2.lac0
  have := hb2.lac1
  have := hb.tak0
  refine ⟨by omega, by omega, by omega, by omega, by omega, by omega, by omega, by omega, by omega⟩

end Go.Proofs.Ytfaehomopgichaa

/- Package net, as it landed: what is wrong, and which marks fit. -/
namespace Go.Proofs.Ytfaehomopgichaa
open Go.RowKit
set_option linter.unusedVariables false
set_option maxRecDepth 4000

set_option maxHeartbeats 400000 in
theorem upTo_any (x y : Int) (w : World) :
    Calls Try.prog 33 #[.int .i64 x, .int .i64 y] w fun e w' => e = .returned (.bool (decide (0 ≤ x) && decide (x ≤ y))) ∧ w' = w := by
  by_cases h1 : 0 ≤ x <;> by_cases h2 : x ≤ y <;>
  · go_enter Try.func33, Try.ntmps33
    go_wp2
    go_ret
    exact ⟨by simp [h1, h2], rfl⟩

/-- What a transition may take or put. -/
def weighs (n : NetL) (xs : List Int) : Bool := ((xs.length : Int) == n.places) && xs.all weightOk

set_option maxHeartbeats 400000 in
theorem weights_any (v u : Value) (n : NetL) (xs : List Int) (w : World) (hv : Net w v n) (hu : Ints w u xs) :
    Calls Try.prog 34 #[v, u] w fun e w' => e = .returned (.bool (weighs n xs)) ∧ Below w.heap.size w w' := by
  obtain ⟨tv, rfl, hT⟩ := hv
  have b1 := below_new w (.cells #[.int .i64 n.places, tv] 24)
  have hu1 := hu.below b1
  have hbx := box2_new w (.int .i64 n.places) tv 24
  clear hT hu
  obtain ⟨a, len, cap, rfl, hlen, hmx, hsh, hr⟩ := hu1
  obtain ⟨x0, x1, x2⟩ := hbx
  cases hl : ((len : Int) == n.places)
  · have hl' : ((len : Int) != n.places) = true := by simpa using hl
    have F : Hid (weighs n xs = false) := by show _ = _; unfold weighs; rw [hlen, hl]; rfl
    clear hl
    go_enter Try.func34, Try.ntmps34
    go_wp2
    go_ret
    exact ⟨ret_bool F.out.symm, b1⟩
  · have hl' : ((len : Int) != n.places) = false := by simpa using hl
    have F : Hid (weighs n xs = xs.all weightOk) := by show _ = _; unfold weighs; rw [hlen, hl]; rfl
    clear hl
    go_enter Try.func34, Try.ntmps34
    go_wp2_with fail
    clear x0 x1 x2
    go_loop [14] (fun i => ∃ j : Nat, j ≤ len ∧ i = .int .i64 j ∧ Hid (weighTo xs j = true)) (fun i => len - (intOf i).toNat)
    case atStart => exact ⟨0, Nat.zero_le _, rfl, rfl⟩
    case round =>
      obtain ⟨j, hj, rfl, hw⟩ := hrel
      by_cases hjn : j < len
      · obtain ⟨b, off, rfl, hb, hc⟩ := hr j (by omega)
        have Hst : Hid _ := weighTo_succ xs j (by omega)
        have Hno : Hid (weightOk (nth xs j) = false → weighs n xs = false) := by
          intro h
          rw [F.out, List.all_eq_false]
          refine ⟨xs[j]'(by omega), List.getElem_mem _, ?_⟩
          have e : nth xs j = xs[j]'(by omega) := by simp [nth, List.getD, List.getElem?_eq_getElem (show j < xs.length by omega)]
          rw [← e, h]; simp
        clear hr
        go_wp2_with fail
        refine (upTo_any _ _ _).mono ?_
        rintro e w2 ⟨rfl, rfl⟩
        have Hwo : Hid ((decide (0 ≤ nth xs j) && decide (nth xs j ≤ 9)) = weightOk (nth xs j)) := rfl
        rw [Hwo.out]
        cases hk : weightOk (nth xs j)
        · have F2 : Hid _ := Hno.out hk
          clear Hno hk Hst
          go_wp2
          go_ret
          exact ⟨ret_bool F2.out.symm, b1⟩
        · have F2 : Hid (weighTo xs (j + 1) = true) := by show _ = _; rw [Hst.out, hw.out, hk]; rfl
          clear Hno hk Hst
          go_wp2
          go_round
          case rel => exact ⟨j + 1, by omega, by go_num, F2⟩
          case measure => simp [intOf]; omega
      · have F2 : Hid (weighs n xs = true) := by show _ = _; rw [F.out, ← weighTo_all xs j (by omega)]; exact hw.out
        go_wp2
        go_ret
        exact ⟨ret_bool F2.out.symm, b1⟩

theorem tranOk_weighs (n : NetL) (t : TranL) : tranOk n.places t = ((decide (0 ≤ t.label) && decide (t.label ≤ 26)) && weighs n t.pre && weighs n t.post) := by
  unfold tranOk tranHead weighs
  rw [List.all_append]
  cases decide (0 ≤ t.label) <;> cases decide (t.label ≤ 26) <;> cases ((t.pre.length : Int) == n.places) <;> cases ((t.post.length : Int) == n.places) <;> cases t.pre.all weightOk <;> cases t.post.all weightOk <;> rfl

theorem netOk_false_at {n : NetL} {k : Nat} (hk : k < n.trans.length) (h : tranOk n.places (tranAt n.trans k) = false) : netOk n = false := by
  unfold netOk
  rw [Bool.and_eq_false_iff]
  right
  rw [List.all_eq_false]
  refine ⟨n.trans[k], List.getElem_mem _, ?_⟩
  have e : tranAt n.trans k = n.trans[k] := by simp [tranAt, List.getD, List.getElem?_eq_getElem hk]
  rw [← e, h]; simp

set_option maxHeartbeats 1000000 in
theorem wrong_any (v : Value) (n : NetL) (w : World) (hv : Net w v n) :
    Calls Try.prog 23 #[v] w fun e w' => e = .returned (.int .i64 (wrongL n)) ∧ Below w.heap.size w w' := by
  obtain ⟨tv, rfl, hT⟩ := hv
  have b1 := below_new w (.cells #[.int .i64 n.places, tv] 24)
  have hbx := box2_new w (.int .i64 n.places) tv 24
  replace hT := hT.below b1
  obtain ⟨w0, Hw0⟩ : ∃ w0, Hid (w.alloc (.cells #[.int .i64 n.places, tv] 24) = w0) := ⟨_, rfl⟩
  rw [Hw0.out] at b1 hbx hT
  obtain ⟨a, len, cap, rfl, hlen, hmx, hsh, hr⟩ := id hT
  clear hr
  obtain ⟨x0, x1, x2⟩ := id hbx
  go_enter Try.func23, Try.ntmps23
  go_upto_region 1 with fail
  rw [Hw0.out]
  clear Hw0
  go_wp2_with fail
  refine (upTo_any _ _ _).mono ?_
  rintro e w2 ⟨rfl, rfl⟩
  cases hA : (decide (0 ≤ n.places) && decide (n.places ≤ 16))
  · have F : Hid (wrongL n = 2) := by show _ = _; simp only [wrongL, netOk, headOk, hA]; rfl
    clear hA
    go_wp2
    go_ret
    exact ⟨ret_int F.out.symm, b1⟩
  by_cases hB : len ≤ 24
  case neg =>
    have F : Hid (wrongL n = 2) := by show _ = _; simp only [wrongL, netOk, headOk, hA, hlen, decide_eq_false hB]; rfl
    clear hA
    go_wp2
    go_ret
    exact ⟨ret_int F.out.symm, b1⟩
  have F0 : Hid (okTo n 0 = true) := by show _ = _; simp only [okTo, headOk, hA, hlen, decide_eq_true hB]; rfl
  clear hA
  go_wp2_with fail
  go_loopg [18] len (fun g i wr => ∃ k : Nat, k + g = len ∧ i = .int .i64 k ∧ Hid (okTo n k = true) ∧ Below w2.heap.size w2 wr)
  case atStart => exact ⟨0, by omega, rfl, F0, Below.refl _ _⟩
  case round =>
    clear x0 x1 x2 F0
    obtain ⟨k, hkg, rfl, hok, hb⟩ := hrel
    have c := below_then b1 hb
    by_cases hkn : k < len
    · obtain ⟨b, off, c1, c2, rfl, hblt, h0, h1, h2, i1, i2⟩ := (hT.below hb).at hkn
      obtain ⟨x0, x1, x2⟩ := hbx.below hb
      have hv2 : Net wr (.agg #[.int .i64 n.places, .slice (some ⟨b, off, none⟩) len cap]) n := ⟨_, rfl, hT.below hb⟩
      obtain ⟨a1, l1, p1, rfl, _, _, _, _⟩ := id i1
      obtain ⟨a2, l2, p2, rfl, _, _, _, _⟩ := id i2
      have Hok : Hid _ := okTo_succ n k (by omega)
      have Hno : Hid (tranOk n.places (tranAt n.trans k) = false → wrongL n = 2) := fun h => wrongL_not (netOk_false_at (by omega) h)
      have Hto : Hid _ := tranOk_weighs n (tranAt n.trans k)
      have b2 := below_new wr (.cells #[.int .i64 (tranAt n.trans k).label, .slice a1 l1 p1, .slice a2 l2 p2] 35)
      generalize tranAt n.trans k = t at *
      replace hv2 := hv2.below b2
      replace i1 := i1.below b2
      replace i2 := i2.below b2
      go_wp2_with fail
      refine (upTo_any _ _ _).mono ?_
      rintro e w3 ⟨rfl, rfl⟩
      cases hA : (decide (0 ≤ t.label) && decide (t.label ≤ 26))
      · have F : Hid (wrongL n = 2) := Hno.out (by rw [Hto.out, hA]; rfl)
        clear Hno Hto Hok hA
        go_wp2
        go_ret
        exact ⟨ret_int F.out.symm, below_then c b2⟩
      go_wp2_with fail
      refine (weights_any _ _ n t.pre _ (by exact hv2) (by exact i1)).mono ?_
      rintro e w3 ⟨rfl, b3⟩
      cases hB : weighs n t.pre
      · have F : Hid (wrongL n = 2) := Hno.out (by rw [Hto.out, hA, hB]; rfl)
        clear Hno Hto Hok hA
        go_wp2
        go_ret
        exact ⟨ret_int F.out.symm, below_then c (below_then b2 b3)⟩
      have y0 : wr.heap.size < (wr.alloc (.cells #[.int .i64 t.label, .slice a1 l1 p1, .slice a2 l2 p2] 35)).heap.size := by simp
      have y2 : w3.cell? ⟨wr.heap.size, 2, none⟩ = some (.slice a2 l2 p2) := by rw [b3.cell (p := ⟨wr.heap.size, 2, none⟩) y0, World.cell?_alloc_at _ _ _ _ rfl]; rfl
      obtain ⟨z0, z1, z2⟩ := (hbx.below hb).below (below_then b2 b3)
      replace hv2 := hv2.below b3
      replace i2 := i2.below b3
      have b4 := below_then b2 b3
      clear b2 b3 x0 x1 x2 h0 h1 h2 i1 y0
      go_wp2_with fail
      refine (weights_any _ _ n t.post _ (by exact hv2) (by exact i2)).mono ?_
      rintro e w4 ⟨rfl, b3⟩
      replace b4 := below_then b4 b3
      clear y2 z0 z1 z2 hv2 i2 b3
      cases hC : weighs n t.post
      · have F : Hid (wrongL n = 2) := Hno.out (by rw [Hto.out, hA, hB, hC]; rfl)
        clear Hno Hto Hok hA
        go_wp2
        go_ret
        exact ⟨ret_int F.out.symm, below_then c b4⟩
      · have F : Hid (okTo n (k + 1) = true) := by show _ = _; rw [Hok.out, Hto.out, hok.out, hA, hB, hC]; rfl
        have R := below_then hb b4
        clear Hno Hto Hok hA b4
        go_wp2
        go_roundg (gk - 1)
        case measure => omega
        case rel => exact ⟨k + 1, by omega, by go_num, F, R⟩
    · have F : Hid (wrongL n = 0) := by show _ = _; rw [okTo_all n k (by omega)] at hok; exact wrongL_ok hok.out
      go_wp2
      go_ret
      exact ⟨ret_int F.out.symm, c⟩

set_option maxHeartbeats 400000 in
theorem marks_any (v u : Value) (n : NetL) (m : List Int) (w : World) (hv : Net w v n) (hu : Ints w u m) :
    Calls Try.prog 20 #[v, u] w fun e w' => e = .returned (.bool (fitsL n m)) ∧ Below w.heap.size w w' := by
  obtain ⟨tv, rfl, hT⟩ := hv
  have b1 := below_new w (.cells #[.int .i64 n.places, tv] 24)
  have hbx := box2_new w (.int .i64 n.places) tv 24
  have hu1 := hu.below b1
  have hv1 : Net _ _ n := ⟨tv, rfl, hT.below b1⟩
  go_enter Try.func20, Try.ntmps20
  go_wp2_with fail
  refine (wrong_any _ n _ (by exact hv1)).mono ?_
  rintro e w1 ⟨rfl, b2⟩
  have b3 := below_then b1 b2
  have hu2 := hu1.below b2
  obtain ⟨hx0, hx1, hx2⟩ := hbx.below b2
  clear b1 b2 hbx hu1 hv1
  have hu3 := hu2
  obtain ⟨a, len, cap, rfl, hlen, hmx, hsh, hr⟩ := hu2
  clear hr
  cases h1 : netOk n
  · rw [wrongL_not h1]
    have F : Hid (fitsL n m = false) := by show _ = _; simp [fitsL, h1]
    clear h1
    go_wp2
    go_ret
    exact ⟨ret_bool F.out.symm, b3⟩
  · rw [wrongL_ok h1]
    cases h2 : ((len : Int) == n.places)
    · have F : Hid (fitsL n m = false) := by show _ = _; unfold fitsL; rw [hlen, h2]; simp
      clear h1
      go_wp2
      go_ret
      exact ⟨ret_bool F.out.symm, b3⟩
    · have F : Hid (fitsL n m = rightL m) := by show _ = _; unfold fitsL; rw [h1, hlen, h2]; simp
      clear h1
      go_wp2_with fail
      refine (right_any _ m _ hu3).mono ?_
      rintro e w' ⟨rfl, rfl⟩
      go_wp2
      go_ret
      exact ⟨ret_bool F.out.symm, b3⟩

end Go.Proofs.Ytfaehomopgichaa

/- Which places and transitions are behind a place, reckoned round by round. -/
namespace Go.Proofs.Ytfaehomopgichaa
set_option linter.unusedVariables false
set_option maxRecDepth 4000

/-- What is known so far: of places, of transitions. -/
structure WayS where
  ps : Nat → Bool
  ts : Nat → Bool

/-- Does one of the first j places lead to a transition? -/
def leadTo (ps : Nat → Bool) (w : List Int) (b : Bool) : Nat → Bool
  | 0 => b
  | j + 1 => leadTo ps w b j || (ps j && decide (0 < nth w j))
/-- The first j places that a transition leads to. -/
def feedTo (ps : Nat → Bool) (w : List Int) (b : Bool) (j : Nat) : Nat → Bool := fun q => ps q || (decide (q < j) && (b && decide (0 < nth w q)))
def setAt (ts : Nat → Bool) (k : Nat) (b : Bool) : Nat → Bool := fun j => if j = k then b else ts j

def tranWay (n : NetL) (s : WayS) (k : Nat) : WayS :=
  ⟨feedTo s.ps (tranAt n.trans k).post (leadTo s.ps (tranAt n.trans k).pre (s.ts k) n.places.toNat) n.places.toNat, setAt s.ts k (leadTo s.ps (tranAt n.trans k).pre (s.ts k) n.places.toNat)⟩
def roundWay (n : NetL) (s : WayS) : Nat → WayS
  | 0 => s
  | k + 1 => tranWay n (roundWay n s k) k
def startWay (f : Nat) : WayS := ⟨fun q => decide (q = f), fun _ => false⟩
def waysTo (n : NetL) (f : Nat) : Nat → WayS
  | 0 => startWay f
  | r + 1 => roundWay n (waysTo n f r) n.trans.length
def waysL (n : NetL) (f : Nat) : WayS := waysTo n f (n.places.toNat + n.trans.length)

theorem lead_mono {ps : Nat → Bool} {w : List Int} {b : Bool} (h : b = true) (j : Nat) : leadTo ps w b j = true := by
  induction j with
  | zero => exact h
  | succ j ih => unfold leadTo; rw [ih]; rfl
theorem lead_iff {ps : Nat → Bool} {w : List Int} {b : Bool} (j : Nat) : leadTo ps w b j = true ↔ b = true ∨ ∃ q, q < j ∧ ps q = true ∧ 0 < nth w q := by
  induction j with
  | zero => simp [leadTo]
  | succ j ih =>
    unfold leadTo
    rw [Bool.or_eq_true, ih, Bool.and_eq_true, decide_eq_true_eq]
    constructor
    · rintro ((h | ⟨q, h1, h2⟩) | ⟨h1, h2⟩)
      · exact .inl h
      · exact .inr ⟨q, by omega, h2⟩
      · exact .inr ⟨j, by omega, h1, h2⟩
    · rintro (h | ⟨q, h1, h2⟩)
      · exact .inl (.inl h)
      · by_cases e : q = j
        · subst e; exact .inr h2
        · exact .inl (.inr ⟨q, by omega, h2⟩)
theorem feed_iff {ps : Nat → Bool} {w : List Int} {b : Bool} {j q : Nat} : feedTo ps w b j q = true ↔ ps q = true ∨ (q < j ∧ b = true ∧ 0 < nth w q) := by
  unfold feedTo
  rw [Bool.or_eq_true, Bool.and_eq_true, Bool.and_eq_true, decide_eq_true_eq, decide_eq_true_eq]

/-- Nothing that was known is lost. -/
structure WayLe (s u : WayS) : Prop where
  ps : ∀ q, s.ps q = true → u.ps q = true
  ts : ∀ k, s.ts k = true → u.ts k = true
theorem WayLe.refl (s : WayS) : WayLe s s := ⟨fun _ h => h, fun _ h => h⟩
theorem WayLe.trans {s u v : WayS} (h : WayLe s u) (k : WayLe u v) : WayLe s v := ⟨fun q h1 => k.ps q (h.ps q h1), fun q h1 => k.ts q (h.ts q h1)⟩
theorem WayLe.eq {s u : WayS} (h : WayLe s u) (k : WayLe u s) : s = u := by
  cases s with
  | mk p t =>
    cases u with
    | mk p2 t2 =>
      have e1 : p = p2 := by funext q; rw [Bool.eq_iff_iff]; exact ⟨h.ps q, k.ps q⟩
      have e2 : t = t2 := by funext q; rw [Bool.eq_iff_iff]; exact ⟨h.ts q, k.ts q⟩
      rw [e1, e2]
theorem tran_le (n : NetL) (s : WayS) (k : Nat) : WayLe s (tranWay n s k) := by
  refine ⟨fun q h => feed_iff.2 (.inl h), fun j h => ?_⟩
  show setAt s.ts k _ j = true
  unfold setAt
  split
  · rename_i e; subst e; exact lead_mono h _
  · exact h
theorem round_le (n : NetL) (s : WayS) : ∀ k, WayLe s (roundWay n s k)
  | 0 => WayLe.refl s
  | k + 1 => (round_le n s k).trans (tran_le n _ k)

/-- What is known is so. -/
structure WaySound (n : NetL) (f : Nat) (s : WayS) : Prop where
  ps : ∀ q, s.ps q = true → WayP n f q
  ts : ∀ k, k < n.trans.length → s.ts k = true → WayT n f k
theorem sound_start (n : NetL) (f : Nat) : WaySound n f (startWay f) := by
  refine ⟨fun q h => ?_, fun k _ h => by cases h⟩
  have : q = f := of_decide_eq_true h
  subst this; exact WayP.here n q
theorem sound_tran {n : NetL} {f : Nat} {s : WayS} (h : WaySound n f s) {k : Nat} (hk : k < n.trans.length) : WaySound n f (tranWay n s k) := by
  have hb : leadTo s.ps (tranAt n.trans k).pre (s.ts k) n.places.toNat = true → WayT n f k := fun q => by
    rcases (lead_iff _).1 q with q | ⟨a, h1, h2, h3⟩
    · exact h.ts k hk q
    · exact ⟨a, h.ps a h2, by omega⟩
  refine ⟨fun q hq => ?_, fun j hj hq => ?_⟩
  · rcases feed_iff.1 hq with q1 | ⟨h1, h2, h3⟩
    · exact h.ps q q1
    · obtain ⟨a, h4, h5⟩ := hb h2
      exact h4.step hk h5 (by omega)
  · have hq : setAt s.ts k _ j = true := hq
    unfold setAt at hq
    split at hq
    · rename_i e; subst e; exact hb hq
    · exact h.ts j hj hq
theorem sound_round {n : NetL} {f : Nat} {s : WayS} (h : WaySound n f s) : ∀ k, k ≤ n.trans.length → WaySound n f (roundWay n s k)
  | 0, _ => h
  | k + 1, hk => sound_tran (sound_round h k (by omega)) (by omega)
theorem sound_ways (n : NetL) (f : Nat) : ∀ r, WaySound n f (waysTo n f r)
  | 0 => sound_start n f
  | r + 1 => sound_round (sound_ways n f r) _ (Nat.le_refl _)

/-- How much is not known yet. -/
def gapOf (g : Nat → Bool) (k : Nat) : Nat := ((List.range k).filter fun j => !g j).length
theorem gap_zero (g : Nat → Bool) : gapOf g 0 = 0 := rfl
theorem gap_succ (g : Nat → Bool) (k : Nat) : gapOf g (k + 1) = gapOf g k + (if g k = true then 0 else 1) := by
  unfold gapOf
  rw [List.range_succ, List.filter_append, List.length_append]
  congr 1
  cases h : g k <;> simp [h]
theorem gap_le (g : Nat → Bool) (k : Nat) : gapOf g k ≤ k := by
  induction k with
  | zero => exact Nat.le_refl _
  | succ k ih => rw [gap_succ]; split <;> omega
theorem gap_some {g : Nat → Bool} {k j : Nat} (hj : j < k) (h : g j = true) : gapOf g k + 1 ≤ k := by
  induction k with
  | zero => omega
  | succ k ih =>
    rw [gap_succ]
    by_cases e : j = k
    · subst e; rw [if_pos h]; have := gap_le g j; omega
    · have := ih (by omega)
      split <;> omega
theorem gap_mono {g h : Nat → Bool} (hm : ∀ j, g j = true → h j = true) (k : Nat) : gapOf h k ≤ gapOf g k := by
  induction k with
  | zero => exact Nat.le_refl _
  | succ k ih =>
    rw [gap_succ, gap_succ]
    have := hm k
    by_cases e : g k = true
    · rw [if_pos e, if_pos (this e)]; exact ih
    · rw [if_neg e]; split <;> omega
theorem gap_same {g h : Nat → Bool} (hm : ∀ j, g j = true → h j = true) (k : Nat) (he : gapOf g k ≤ gapOf h k) : ∀ j, j < k → h j = true → g j = true := by
  induction k with
  | zero => intro j hj; omega
  | succ k ih =>
    rw [gap_succ, gap_succ] at he
    have hk := gap_mono hm k
    intro j hj hh
    by_cases e : j = k
    · subst e
      by_cases q : g j = true
      · exact q
      · rw [if_neg q, if_pos hh] at he; omega
    · refine ih ?_ j (by omega) hh
      by_cases q : g k = true
      · rw [if_pos q, if_pos (hm k q)] at he; omega
      · rw [if_neg q] at he; split at he <;> omega

theorem tran_out (n : NetL) (s : WayS) (k : Nat) : (∀ q, n.places.toNat ≤ q → (tranWay n s k).ps q = s.ps q) ∧ (∀ j, j ≠ k → (tranWay n s k).ts j = s.ts j) := by
  refine ⟨fun q hq => ?_, fun j hj => ?_⟩
  · show feedTo _ _ _ _ q = _
    unfold feedTo
    rw [decide_eq_false (by omega)]
    simp
  · show setAt _ _ _ j = _
    unfold setAt
    rw [if_neg hj]
theorem round_out (n : NetL) (s : WayS) : ∀ k, (∀ q, n.places.toNat ≤ q → (roundWay n s k).ps q = s.ps q) ∧ (∀ j, k ≤ j → (roundWay n s k).ts j = s.ts j)
  | 0 => ⟨fun _ _ => rfl, fun _ _ => rfl⟩
  | k + 1 => by
    obtain ⟨h1, h2⟩ := round_out n s k
    obtain ⟨h3, h4⟩ := tran_out n (roundWay n s k) k
    exact ⟨fun q hq => (h3 q hq).trans (h1 q hq), fun j hj => (h4 j (by omega)).trans (h2 j (by omega))⟩

def gapW (n : NetL) (s : WayS) : Nat := gapOf s.ps n.places.toNat + gapOf s.ts n.trans.length
/-- A round that tells nothing new changes nothing. -/
theorem round_same {n : NetL} {s : WayS} (h : gapW n s ≤ gapW n (roundWay n s n.trans.length)) : roundWay n s n.trans.length = s := by
  have hle := round_le n s n.trans.length
  have m1 := gap_mono hle.ps n.places.toNat
  have m2 := gap_mono hle.ts n.trans.length
  unfold gapW at h
  obtain ⟨o1, o2⟩ := round_out n s n.trans.length
  refine (hle.eq ⟨fun q hq => ?_, fun k hk => ?_⟩).symm
  · by_cases e : q < n.places.toNat
    · exact gap_same hle.ps n.places.toNat (by omega) q e hq
    · rw [← o1 q (by omega)]; exact hq
  · by_cases e : k < n.trans.length
    · exact gap_same hle.ts n.trans.length (by omega) k e hk
    · rw [← o2 k (by omega)]; exact hk
theorem round_end (n : NetL) (f : Nat) (hf : f < n.places.toNat) : ∀ r, roundWay n (waysTo n f r) n.trans.length = waysTo n f r ∨ gapW n (waysTo n f r) + r + 1 ≤ n.places.toNat + n.trans.length
  | 0 => by
    right
    have h1 := gap_some (g := (startWay f).ps) (k := n.places.toNat) (j := f) hf (decide_eq_true rfl)
    have h2 := gap_le (startWay f).ts n.trans.length
    show gapOf _ _ + gapOf _ _ + 0 + 1 ≤ _
    show gapOf (startWay f).ps n.places.toNat + gapOf (startWay f).ts n.trans.length + 0 + 1 ≤ _
    omega
  | r + 1 => by
    rcases round_end n f hf r with h | h
    · left
      show roundWay n (roundWay n (waysTo n f r) n.trans.length) n.trans.length = roundWay n (waysTo n f r) n.trans.length
      rw [h, h]
    · by_cases e : gapW n (waysTo n f r) ≤ gapW n (roundWay n (waysTo n f r) n.trans.length)
      · left
        have h1 := round_same e
        show roundWay n (roundWay n (waysTo n f r) n.trans.length) n.trans.length = roundWay n (waysTo n f r) n.trans.length
        rw [h1, h1]
      · right
        show gapW n (roundWay n (waysTo n f r) n.trans.length) + (r + 1) + 1 ≤ _
        omega
theorem ways_stable (n : NetL) (f : Nat) (hf : f < n.places.toNat) : roundWay n (waysL n f) n.trans.length = waysL n f := by
  rcases round_end n f hf (n.places.toNat + n.trans.length) with h | h
  · exact h
  · omega
/-- Where a round changes nothing, no transition does. -/
theorem stable_tran {n : NetL} {s : WayS} (h : roundWay n s n.trans.length = s) {k : Nat} (hk : k < n.trans.length) : tranWay n s k = s := by
  have up : ∀ j d, WayLe (roundWay n s j) (roundWay n s (j + d)) := by
    intro j d
    induction d with
    | zero => exact WayLe.refl _
    | succ d ih => exact ih.trans (tran_le n _ _)
  have at_ : ∀ j, j ≤ n.trans.length → roundWay n s j = s := by
    intro j hj
    have h1 := up j (n.trans.length - j)
    rw [show j + (n.trans.length - j) = n.trans.length by omega, h] at h1
    exact (h1.eq (round_le n s j))
  have h1 := at_ (k + 1) (by omega)
  have h2 := at_ k (by omega)
  have h3 : roundWay n s (k + 1) = tranWay n (roundWay n s k) k := rfl
  rw [h2] at h3
  rw [← h3, h1]
theorem ways_le (n : NetL) (f : Nat) : ∀ r, WayLe (startWay f) (waysTo n f r)
  | 0 => WayLe.refl _
  | r + 1 => (ways_le n f r).trans (round_le n _ _)

/-- All that is behind a place is known in the end. -/
theorem ways_iff {n : NetL} (hn : netOk n = true) {f : Nat} (hf : (f : Int) < n.places) : (∀ q, (waysL n f).ps q = true ↔ WayP n f q) ∧ (∀ k, k < n.trans.length → ((waysL n f).ts k = true ↔ WayT n f k)) := by
  have hs := ways_stable n f (by omega)
  have hsd := sound_ways n f (n.places.toNat + n.trans.length)
  have lead : ∀ k a, k < n.trans.length → (waysL n f).ps a = true → nth (tranAt n.trans k).pre a ≠ 0 → (waysL n f).ts k = true := by
    intro k a hk ha h0
    have e := congrArg WayS.ts (stable_tran hs hk)
    have e2 := congrFun e k
    have e3 : (tranWay n (waysL n f) k).ts k = leadTo (waysL n f).ps (tranAt n.trans k).pre ((waysL n f).ts k) n.places.toNat := by
      show setAt _ _ _ k = _
      unfold setAt
      rw [if_pos rfl]
    rw [← e2, e3, lead_iff]
    have hl := (tran_length hn hk).1
    have hb := (okTok_nth (tran_right (net_tran hn hk)).1 a).1
    refine .inr ⟨a, ?_, ha, by omega⟩
    rcases Nat.lt_or_ge a (tranAt n.trans k).pre.length with q | q
    · omega
    · exact absurd (nth_past _ _ q) h0
  have feed : ∀ k b, k < n.trans.length → (waysL n f).ts k = true → nth (tranAt n.trans k).post b ≠ 0 → (waysL n f).ps b = true := by
    intro k b hk ht h0
    have e := congrArg WayS.ps (stable_tran hs hk)
    have e2 := congrFun e b
    rw [← e2]
    have hl := (tran_length hn hk).2
    have hb := (okTok_nth (tran_right (net_tran hn hk)).2 b).1
    refine feed_iff.2 (.inr ⟨?_, lead_mono ht _, by omega⟩)
    rcases Nat.lt_or_ge b (tranAt n.trans k).post.length with q | q
    · omega
    · exact absurd (nth_past _ _ q) h0
  have full : ∀ q, WayP n f q → (waysL n f).ps q = true := fun q hq =>
    hq (fun q => (waysL n f).ps q = true) ((ways_le n f _).ps f (decide_eq_true rfl)) fun k a b hk ha h1 h2 => feed k b hk (lead k a hk ha h1) h2
  refine ⟨fun q => ⟨hsd.ps q, full q⟩, fun k hk => ⟨hsd.ts k hk, ?_⟩⟩
  rintro ⟨a, h1, h2⟩
  exact lead k a hk (full a h1) h2

end Go.Proofs.Ytfaehomopgichaa

/- The document's own replay, plainly: place by place. -/
namespace Go.Proofs.Ytfaehomopgichaa
set_option linter.unusedVariables false
set_option maxRecDepth 4000

def stepH (t : TranL) (p : Nat) (h : Int) : Int := h + max (nth t.pre p - h) 0 - nth t.pre p + nth t.post p
/-- What a place has behind some transitions. -/
def haveH (p : Nat) : List TranL → Int → Int
  | [], h => h
  | t :: ts, h => haveH p ts (stepH t p h)
/-- What lacks there. -/
def lackS (p : Nat) : List TranL → Int → Int
  | [], _ => 0
  | t :: ts, h => max (nth t.pre p - h) 0 + lackS p ts (stepH t p h)
def preS (p : Nat) : List TranL → Int
  | [] => 0
  | t :: ts => nth t.pre p + preS p ts
def postS (p : Nat) : List TranL → Int
  | [] => 0
  | t :: ts => nth t.post p + postS p ts

theorem haveH_snoc (p : Nat) (t : TranL) : ∀ (ts : List TranL) (h : Int), haveH p (ts ++ [t]) h = stepH t p (haveH p ts h) := by
  intro ts
  induction ts with
  | nil => intro h; rfl
  | cons x ts ih => intro h; exact ih _
theorem lackS_snoc (p : Nat) (t : TranL) : ∀ (ts : List TranL) (h : Int), lackS p (ts ++ [t]) h = lackS p ts h + max (nth t.pre p - haveH p ts h) 0 := by
  intro ts
  induction ts with
  | nil => intro h; simp [lackS, haveH]
  | cons x ts ih => intro h; simp only [List.cons_append, lackS, haveH, ih]; omega
theorem preS_snoc (p : Nat) (t : TranL) : ∀ (ts : List TranL), preS p (ts ++ [t]) = preS p ts + nth t.pre p := by
  intro ts
  induction ts with
  | nil => simp [preS]
  | cons x ts ih => simp only [List.cons_append, preS, ih]; omega
theorem postS_snoc (p : Nat) (t : TranL) : ∀ (ts : List TranL), postS p (ts ++ [t]) = postS p ts + nth t.post p := by
  intro ts
  induction ts with
  | nil => simp [postS]
  | cons x ts ih => simp only [List.cons_append, postS, ih]; omega

def TokT (P : Nat) (t : TranL) : Prop := Toks P t.pre ∧ Toks P t.post
theorem hist_bnd {P p : Nat} : ∀ (ts : List TranL) (h : Int), (∀ t ∈ ts, TokT P t) → 0 ≤ h → 0 ≤ haveH p ts h ∧ haveH p ts h ≤ h + 9 * ts.length ∧ 0 ≤ lackS p ts h ∧ lackS p ts h ≤ 9 * ts.length ∧ 0 ≤ preS p ts ∧ preS p ts ≤ 9 * ts.length ∧ 0 ≤ postS p ts ∧ postS p ts ≤ 9 * ts.length := by
  intro ts
  induction ts with
  | nil => intro h _ h0; simp [haveH, lackS, preS, postS]; omega
  | cons t ts ih =>
    intro h ht h0
    obtain ⟨t1, t2⟩ := ht t (by simp)
    have a1 := t1.lo p
    have a2 := t1.hi p
    have a3 := t2.lo p
    have a4 := t2.hi p
    have hs0 : 0 ≤ stepH t p h := by unfold stepH; omega
    have hs1 : stepH t p h ≤ h + 9 := by unfold stepH; omega
    obtain ⟨b1, b2, b3, b4, b5, b6, b7, b8⟩ := ih (stepH t p h) (fun x hx => ht x (by simp [hx])) hs0
    simp only [haveH, lackS, preS, postS, List.length_cons]
    refine ⟨b1, by omega, by omega, by omega, by omega, by omega, by omega, by omega⟩

/-- A game, by transitions. -/
def gameT : List TranL → GameL → GameL
  | [], g => g
  | t :: ts, g => gameT ts (putG (takeG g t.pre) t.post)
theorem gameT_append (ts us : List TranL) : ∀ g, gameT (ts ++ us) g = gameT us (gameT ts g) := by
  induction ts with
  | nil => intro g; rfl
  | cons t ts ih => intro g; exact ih _
theorem gameT_bnd {P : Nat} (hP : P ≤ 16) : ∀ (ts : List TranL) {k : Nat} {g : GameL}, (∀ t ∈ ts, TokT P t) → BndG P k g → BndG P (k + 2 * ts.length) (gameT ts g) := by
  intro ts
  induction ts with
  | nil => intro k g _ h; exact h
  | cons t ts ih =>
    intro k g ht h
    obtain ⟨t1, t2⟩ := ht t (by simp)
    have := ih (fun x hx => ht x (by simp [hx])) ((h.take hP t1).put hP t2)
    rw [List.length_cons]
    exact (show k + 1 + 1 + 2 * ts.length = k + 2 * (ts.length + 1) by omega) ▸ this
theorem step_there {P : Nat} {t : TranL} {g : GameL} (ht : TokT P t) (h0 : ∀ p, 0 ≤ g.there p) (p : Nat) : (putG (takeG g t.pre) t.post).there p = stepH t p (g.there p) := by
  rw [putG_there, takeG_there ht.1.len h0]
  unfold stepH lackG
  omega
theorem gameT_sum {P : Nat} (hP : P ≤ 16) : ∀ (ts : List TranL) {k : Nat} {g : GameL}, (∀ t ∈ ts, TokT P t) → BndG P k g →
    (∀ p, (gameT ts g).there p = haveH p ts (g.there p)) ∧ (gameT ts g).pl.put = g.pl.put + sumTo (fun p => postS p ts) P ∧ (gameT ts g).pl.taken = g.pl.taken + sumTo (fun p => preS p ts) P ∧ (gameT ts g).pl.lacked = g.pl.lacked + sumTo (fun p => lackS p ts (g.there p)) P := by
  intro ts
  induction ts with
  | nil => intro k g _ h; exact ⟨fun _ => rfl, by simp only [gameT, postS]; rw [sumTo_zero fun _ _ => rfl]; omega, by simp only [gameT, preS]; rw [sumTo_zero fun _ _ => rfl]; omega, by simp only [gameT, lackS]; rw [sumTo_zero fun _ _ => rfl]; omega⟩
  | cons t ts ih =>
    intro k g ht h
    have tt := ht t (by simp)
    obtain ⟨q1, q2, q3, q4⟩ := ih (fun x hx => ht x (by simp [hx])) ((h.take hP tt.1).put hP tt.2)
    have e := step_there (g := g) tt h.there0
    refine ⟨fun p => ?_, ?_, ?_, ?_⟩
    · show (gameT ts _).there p = haveH p ts (stepH t p (g.there p))
      rw [q1, e]
    · show (gameT ts _).pl.put = _
      rw [q2]
      have e1 : (putG (takeG g t.pre) t.post).pl.put = g.pl.put + sumTo (nth t.post) t.post.length := rfl
      have e2 : sumTo (fun p => postS p (t :: ts)) P = sumTo (nth t.post) P + sumTo (fun p => postS p ts) P := by rw [← sumTo_add]; exact sumTo_congr fun _ _ => rfl
      rw [e1, e2, tt.2.len]; omega
    · show (gameT ts _).pl.taken = _
      rw [q3]
      have e1 : (putG (takeG g t.pre) t.post).pl.taken = g.pl.taken + sumTo (nth t.pre) t.pre.length := rfl
      have e2 : sumTo (fun p => preS p (t :: ts)) P = sumTo (nth t.pre) P + sumTo (fun p => preS p ts) P := by rw [← sumTo_add]; exact sumTo_congr fun _ _ => rfl
      rw [e1, e2, tt.1.len]; omega
    · show (gameT ts _).pl.lacked = _
      rw [q4]
      have e1 : (putG (takeG g t.pre) t.post).pl.lacked = g.pl.lacked + sumTo (lackG g.there t.pre) t.pre.length := rfl
      have e2 : sumTo (fun p => lackS p (t :: ts) (g.there p)) P = sumTo (lackG g.there t.pre) P + sumTo (fun p => lackS p ts (stepH t p (g.there p))) P := by rw [← sumTo_add]; exact sumTo_congr fun _ _ => rfl
      have e3 : sumTo (fun p => lackS p ts ((putG (takeG g t.pre) t.post).there p)) P = sumTo (fun p => lackS p ts (stepH t p (g.there p))) P := sumTo_congr fun p _ => by rw [e p]
      rw [e1, e2, e3, tt.1.len]; omega

/-- The transitions of a trace. -/
def pickT (n : NetL) (a : Int) : List TranL := match labIdx n a with | none => [] | some k => [tranAt n.trans k]
def trL (n : NetL) (tr : List Int) : List TranL := tr.flatMap (pickT n)
def FoundL (n : NetL) (tr : List Int) : Prop := ∀ a ∈ tr, labIdx n a ≠ none
theorem game_trL {n : NetL} : ∀ (tr : List Int) (g : GameL), FoundL n tr → gameL n tr g = some (gameT (trL n tr) g) := by
  intro tr
  induction tr with
  | nil => intro g _; rfl
  | cons a tr ih =>
    intro g h
    cases e : labIdx n a with
    | none => exact absurd e (h a (by simp))
    | some k =>
      have := ih (putG (takeG g (tranAt n.trans k).pre) (tranAt n.trans k).post) fun x hx => h x (by simp [hx])
      simp only [gameL, e, this, trL, List.flatMap_cons, pickT, List.cons_append, List.nil_append, gameT]
theorem game_lost {n : NetL} {tr : List Int} {k : Nat} {a : Int} (g : GameL) (h : FoundL n (tr.take k)) (e : tr = tr.take k ++ a :: tr.drop (k + 1)) (ha : labIdx n a = none) : gameL n tr g = none := by
  rw [e]
  exact gameL_stop _ _ _ _ _ _ (game_trL _ g h) ha
theorem trL_len {n : NetL} : ∀ {tr : List Int}, FoundL n tr → (trL n tr).length = tr.length := by
  intro tr
  induction tr with
  | nil => intro _; rfl
  | cons a tr ih =>
    intro h
    cases e : labIdx n a with
    | none => exact absurd e (h a (by simp))
    | some k =>
      have := ih fun x hx => h x (by simp [hx])
      simp only [trL, List.flatMap_cons, pickT, e, List.cons_append, List.nil_append, List.length_cons] at this ⊢
      omega
theorem trL_tok {n : NetL} {P : Nat} (hn : netOk n = true) (hP : n.places = P) (tr : List Int) : ∀ t ∈ trL n tr, TokT P t := by
  intro t ht
  obtain ⟨a, _, h⟩ := List.mem_flatMap.1 ht
  unfold pickT at h
  cases e : labIdx n a with
  | none => rw [e] at h; cases h
  | some k =>
    rw [e] at h
    rw [List.mem_singleton.1 h]
    exact tok_of_tran hn hP (labIdx_some e).1

/-- All that is done, with the token that is taken at the end. -/
def lastT (n : NetL) (o : Int) (P : Nat) : TranL := ⟨0, startL n.places o, List.replicate P 0⟩
theorem nth_zeros (P p : Nat) : nth (List.replicate P 0) p = 0 := by
  by_cases h : p < P
  · simp [nth, List.getD, h]
  · rw [nth_past _ _ (by simp; omega)]
theorem zeros_tok (P : Nat) : Toks P (List.replicate P 0) := ⟨by simp, fun p => by rw [nth_zeros]; omega, fun p => by rw [nth_zeros]; omega⟩
/-- The sums, place by place. -/
def sumsH (n : NetL) (i : Int) (L : List TranL) (k : Nat) : PlayL :=
  ⟨sumTo (fun p => nth (startL n.places i) p + postS p L) k, sumTo (fun p => preS p L) k, sumTo (fun p => lackS p L (nth (startL n.places i) p)) k, sumTo (fun p => haveH p L (nth (startL n.places i) p)) k⟩
theorem ref_sums {n : NetL} {i o : Int} {tr : List Int} {P : Nat} (hs : ShapeOk n i o) (hP : n.places = P) (hP1 : P ≤ 16) (hF : FoundL n tr) :
    ∃ g, gameL n tr (begunG n i) = some g ∧ (takeG g (startL n.places o)).pl = sumsH n i (trL n tr ++ [lastT n o P]) P := by
  refine ⟨_, game_trL tr _ hF, ?_⟩
  have hb0 := begun_bnd hP hP1 i
  have ht : ∀ t ∈ trL n tr ++ [lastT n o P], TokT P t := by
    intro t h
    rcases List.mem_append.1 h with h | h
    · exact trL_tok hs.ok hP tr t h
    · rw [List.mem_singleton.1 h]; exact ⟨by show Toks P (startL n.places o); rw [hP]; exact tok_of_start hP1 o, zeros_tok P⟩
  obtain ⟨q1, q2, q3, q4⟩ := gameT_sum hP1 _ ht hb0
  have hb1 := gameT_bnd hP1 _ ht hb0
  have e : gameT (trL n tr ++ [lastT n o P]) (begunG n i) = putG (takeG (gameT (trL n tr) (begunG n i)) (startL n.places o)) (List.replicate P 0) := by rw [gameT_append]; rfl
  have e0 : (putG (takeG (gameT (trL n tr) (begunG n i)) (startL n.places o)) (List.replicate P 0)).pl = (takeG (gameT (trL n tr) (begunG n i)) (startL n.places o)).pl := by
    simp only [putG, putTo]
    rw [sumTo_zero fun j _ => nth_zeros P j]
    simp
  have et : ∀ p, (begunG n i).there p = nth (startL n.places i) p := fun p => by unfold begunG; rw [putG_there]; show 0 + _ = _; omega
  rw [← e0, ← e]
  have el := hb1.left
  have e1 : (begunG n i).pl.put = sumTo (nth (startL n.places i)) P := by
    unfold begunG
    simp only [putG, putTo, noPlay]
    rw [start_length, hP, show (min (P : Int) 16).toNat = P by omega]
    omega
  have p1 : (gameT (trL n tr ++ [lastT n o P]) (begunG n i)).pl.put = (sumsH n i (trL n tr ++ [lastT n o P]) P).put := by rw [q2, e1]; simp only [sumsH]; rw [sumTo_add]
  have p2 : (gameT (trL n tr ++ [lastT n o P]) (begunG n i)).pl.taken = (sumsH n i (trL n tr ++ [lastT n o P]) P).taken := by rw [q3]; show 0 + _ = _; simp only [sumsH]; omega
  have p3 : (gameT (trL n tr ++ [lastT n o P]) (begunG n i)).pl.lacked = (sumsH n i (trL n tr ++ [lastT n o P]) P).lacked := by
    rw [q4]
    show 0 + _ = _
    simp only [sumsH]
    rw [Int.zero_add]
    exact sumTo_congr fun p _ => by rw [et]
  have p4 : (gameT (trL n tr ++ [lastT n o P]) (begunG n i)).pl.left = (sumsH n i (trL n tr ++ [lastT n o P]) P).left := by
    rw [el]
    simp only [sumsH]
    exact sumTo_congr fun p _ => by rw [q1, et]
  generalize (gameT (trL n tr ++ [lastT n o P]) (begunG n i)).pl = x at p1 p2 p3 p4
  generalize sumsH n i (trL n tr ++ [lastT n o P]) P = y at p1 p2 p3 p4
  cases x
  cases y
  simp only at p1 p2 p3 p4
  rw [p1, p2, p3, p4]

/-- Those of the first ones that have a label. -/
def filtTo (n : NetL) (a : Int) (j : Nat) : List TranL := match labIdx n a with | none => [] | some k => if k < j then [tranAt n.trans k] else []
theorem filt_zero (n : NetL) (a : Int) : filtTo n a 0 = [] := by
  unfold filtTo
  cases labIdx n a <;> simp
theorem filt_all (n : NetL) (a : Int) : filtTo n a n.trans.length = pickT n a := by
  unfold filtTo pickT
  cases e : labIdx n a with
  | none => rfl
  | some k => simp [(labIdx_some e).1]
theorem filt_yes {n : NetL} {a : Int} {j : Nat} (hN : NamedN n) (hj : j < n.trans.length) (h : (tranAt n.trans j).label = a) : filtTo n a (j + 1) = filtTo n a j ++ [tranAt n.trans j] := by
  have e : labIdx n a = some j := by rw [← h]; exact labIdx_of hN hj
  simp [filtTo, e]
theorem filt_no {n : NetL} {a : Int} {j : Nat} (h : (tranAt n.trans j).label ≠ a) : filtTo n a (j + 1) = filtTo n a j := by
  unfold filtTo
  cases e : labIdx n a with
  | none => rfl
  | some k =>
    have hk : k ≠ j := fun q => h (by rw [← q]; exact (labIdx_some e).2)
    by_cases h1 : k < j
    · simp [h1, Nat.lt_succ_of_lt h1]
    · have : ¬ k < j + 1 := by omega
      simp [h1, this]
theorem filt_len (n : NetL) (a : Int) (j : Nat) : (filtTo n a j).length ≤ 1 := by
  unfold filtTo
  cases labIdx n a with
  | none => simp
  | some k => by_cases h : k < j <;> simp [h]

end Go.Proofs.Ytfaehomopgichaa
