import Derived.Test.YtfaehomopgichaaGr04
import Derived.Test.YtfaehomopgichaaGr02
import Derived.Test.YtfaehomopgichaaGr00
/- Plain words for a trace that is replayed: what lacks, and what is left. -/
namespace Go.Proofs.Ytfaehomopgichaa
set_option linter.unusedVariables false
set_option maxRecDepth 4000

/-- What is told of a replay. -/
structure PlayL where
  put : Int
  taken : Int
  lacked : Int
  left : Int
def noPlay : PlayL := ⟨0, 0, 0, 0⟩

/-- A replay that goes on: what is told, and what is there. -/
structure GameL where
  pl : PlayL
  there : Nat → Int

/-- What lacks at a place. -/
def lackG (g : Nat → Int) (t : List Int) (p : Nat) : Int := max (nth t p - g p) 0

/-- The first k places of tokens are put. -/
def putTo (g : GameL) (t : List Int) (k : Nat) : GameL :=
  ⟨⟨g.pl.put + sumTo (nth t) k, g.pl.taken, g.pl.lacked, g.pl.left + sumTo (nth t) k⟩, fun p => if p < k then g.there p + nth t p else g.there p⟩
def takeTo (g : GameL) (t : List Int) (k : Nat) : GameL :=
  ⟨⟨g.pl.put, g.pl.taken + sumTo (nth t) k, g.pl.lacked + sumTo (lackG g.there t) k, g.pl.left + sumTo (fun p => lackG g.there t p - nth t p) k⟩, fun p => if p < k then g.there p + (lackG g.there t p - nth t p) else g.there p⟩
def putG (g : GameL) (t : List Int) : GameL := putTo g t t.length
def takeG (g : GameL) (t : List Int) : GameL := takeTo g t t.length

def hasLab (l : Int) (t : TranL) : Bool := t.label == l
/-- Which transition has that label. -/
def labIdx (n : NetL) (l : Int) : Option Nat := n.trans.findIdx? (hasLab l)
/-- All labels of a trace, in turn. -/
def gameL (n : NetL) : List Int → GameL → Option GameL
  | [], g => some g
  | l :: ls, g => match labIdx n l with
    | none => none
    | some k => gameL n ls (putG (takeG g (tranAt n.trans k).pre) (tranAt n.trans k).post)
/-- Each transition has a label of its own. -/
def NamedN (n : NetL) : Prop := ∀ k, k < n.trans.length → (tranAt n.trans k).label ≠ 0 ∧ ∀ j, j < k → (tranAt n.trans j).label ≠ (tranAt n.trans k).label
def begunG (n : NetL) (i : Int) : GameL := putG ⟨noPlay, fun _ => 0⟩ (startL n.places i)

/-- What is answered. -/
structure Replayed (n : NetL) (i o : Int) (tr : List Int) (r : PlayL) (e : Int) : Prop where
  bad : ∀ d, Judged n i o d → d ≠ 0 → r = noPlay ∧ e = d
  form : ShapeOk n i o → ¬ NamedN n → r = noPlay ∧ e = 1
  many : ShapeOk n i o → NamedN n → 60 < tr.length → r = noPlay ∧ e = 2
  none : ShapeOk n i o → NamedN n → tr.length ≤ 60 → gameL n tr (begunG n i) = .none → r = noPlay ∧ e = 3
  ok : ShapeOk n i o → NamedN n → tr.length ≤ 60 → ∀ g, gameL n tr (begunG n i) = some g → r = (takeG g (startL n.places o)).pl ∧ e = 0

theorem judged_ex (n : NetL) (i o : Int) : ∃ d, Judged n i o d := by
  cases hn : netOk n with
  | false => exact ⟨2, Judged.of_bad hn⟩
  | true =>
    by_cases hs : ShapeOk n i o
    · exact ⟨0, Judged.of_right hs⟩
    · exact ⟨1, Judged.of_form hn hs⟩

theorem Replayed.unique {n : NetL} {i o : Int} {tr : List Int} {r s : PlayL} {e f : Int} (h : Replayed n i o tr r e) (k : Replayed n i o tr s f) : r = s ∧ e = f := by
  obtain ⟨d, hd⟩ := judged_ex n i o
  by_cases h0 : d = 0
  · subst h0
    have hs := hd.zero
    by_cases hn : NamedN n
    · by_cases hl : 60 < tr.length
      · obtain ⟨rfl, rfl⟩ := h.many hs hn hl; obtain ⟨rfl, rfl⟩ := k.many hs hn hl; exact ⟨rfl, rfl⟩
      · cases hg : gameL n tr (begunG n i) with
        | none => obtain ⟨rfl, rfl⟩ := h.none hs hn (by omega) hg; obtain ⟨rfl, rfl⟩ := k.none hs hn (by omega) hg; exact ⟨rfl, rfl⟩
        | some g => obtain ⟨rfl, rfl⟩ := h.ok hs hn (by omega) g hg; obtain ⟨rfl, rfl⟩ := k.ok hs hn (by omega) g hg; exact ⟨rfl, rfl⟩
    · obtain ⟨rfl, rfl⟩ := h.form hs hn; obtain ⟨rfl, rfl⟩ := k.form hs hn; exact ⟨rfl, rfl⟩
  · obtain ⟨r1, e1⟩ := h.bad d hd h0; obtain ⟨r2, e2⟩ := k.bad d hd h0; exact ⟨r1.trans r2.symm, e1.trans e2.symm⟩

theorem Replayed.of_bad {n : NetL} {i o d : Int} {tr : List Int} (h : Judged n i o d) (h0 : d ≠ 0) : Replayed n i o tr noPlay d :=
  ⟨fun d' hd' _ => ⟨rfl, h.unique hd'⟩, fun hs => absurd hs (h.not_zero h0), fun hs => absurd hs (h.not_zero h0), fun hs => absurd hs (h.not_zero h0), fun hs => absurd hs (h.not_zero h0)⟩
theorem Replayed.of_form {n : NetL} {i o : Int} {tr : List Int} (hs : ShapeOk n i o) (hn : ¬ NamedN n) : Replayed n i o tr noPlay 1 :=
  ⟨fun d hd h0 => absurd hs (hd.not_zero h0), fun _ _ => ⟨rfl, rfl⟩, fun _ h => absurd h hn, fun _ h => absurd h hn, fun _ h => absurd h hn⟩
theorem Replayed.of_many {n : NetL} {i o : Int} {tr : List Int} (hs : ShapeOk n i o) (hn : NamedN n) (hl : 60 < tr.length) : Replayed n i o tr noPlay 2 :=
  ⟨fun d hd h0 => absurd hs (hd.not_zero h0), fun _ h => absurd hn h, fun _ _ _ => ⟨rfl, rfl⟩, fun _ _ h => absurd h (by omega), fun _ _ h => absurd h (by omega)⟩
theorem Replayed.of_none {n : NetL} {i o : Int} {tr : List Int} (hs : ShapeOk n i o) (hn : NamedN n) (hl : tr.length ≤ 60) (hg : gameL n tr (begunG n i) = .none) : Replayed n i o tr noPlay 3 :=
  ⟨fun d hd h0 => absurd hs (hd.not_zero h0), fun _ h => absurd hn h, fun _ _ h => absurd h (by omega), fun _ _ _ _ => ⟨rfl, rfl⟩, fun _ _ _ g h => by rw [hg] at h; cases h⟩
theorem Replayed.of_ok {n : NetL} {i o : Int} {tr : List Int} {g : GameL} (hs : ShapeOk n i o) (hn : NamedN n) (hl : tr.length ≤ 60) (hg : gameL n tr (begunG n i) = some g) : Replayed n i o tr (takeG g (startL n.places o)).pl 0 :=
  ⟨fun d hd h0 => absurd hs (hd.not_zero h0), fun _ h => absurd hn h, fun _ _ h => absurd h (by omega), fun _ _ _ h => by (rw [hg] at h; cases h), fun _ _ _ g' h => by rw [hg] at h; cases h; exact ⟨rfl, rfl⟩⟩

theorem gameL_append (n : NetL) (ls ms : List Int) : ∀ g, gameL n (ls ++ ms) g = (gameL n ls g).bind (gameL n ms) := by
  induction ls with
  | nil => intro g; rfl
  | cons l ls ih =>
    intro g
    simp only [List.cons_append, gameL]
    cases labIdx n l with
    | none => rfl
    | some k => exact ih _
theorem gameL_snoc (n : NetL) (ls : List Int) (l : Int) (g0 g : GameL) (h : gameL n ls g0 = some g) : gameL n (ls ++ [l]) g0 = match labIdx n l with
    | none => none
    | some k => some (putG (takeG g (tranAt n.trans k).pre) (tranAt n.trans k).post) := by
  rw [gameL_append, h]
  show gameL n [l] g = _
  simp only [gameL]
theorem gameL_stop (n : NetL) (ls ms : List Int) (l : Int) (g0 g : GameL) (h : gameL n ls g0 = some g) (hl : labIdx n l = none) : gameL n (ls ++ l :: ms) g0 = none := by
  rw [gameL_append, h]
  show gameL n (l :: ms) g = _
  simp only [gameL, hl]

/-! ### bounds -/
/-- So many times something was put or taken. -/
structure BndG (P k : Nat) (g : GameL) : Prop where
  put0 : 0 ≤ g.pl.put
  put1 : g.pl.put ≤ 144 * k
  tak0 : 0 ≤ g.pl.taken
  tak1 : g.pl.taken ≤ 144 * k
  lac0 : 0 ≤ g.pl.lacked
  lac1 : g.pl.lacked ≤ 144 * k
  sum : g.pl.put + g.pl.lacked = g.pl.taken + g.pl.left
  left : g.pl.left = sumTo g.there P
  there0 : ∀ p, 0 ≤ g.there p
  there1 : ∀ p, g.there p ≤ 9 * k
  past : ∀ p, P ≤ p → g.there p = 0

/-- Tokens of a transition, or of a beginning. -/
structure Toks (P : Nat) (t : List Int) : Prop where
  len : t.length = P
  lo : ∀ p, 0 ≤ nth t p
  hi : ∀ p, nth t p ≤ 9
theorem Toks.sum0 {P : Nat} {t : List Int} (h : Toks P t) (k : Nat) : 0 ≤ sumTo (nth t) k := sumTo_nonneg fun j _ => h.lo j
theorem Toks.sum1 {P : Nat} {t : List Int} (h : Toks P t) {k : Nat} (hk : k ≤ 16) : sumTo (nth t) k ≤ 144 := by
  have := sumTo_le (f := nth t) (g := fun _ => 9) (k := k) fun j _ => h.hi j
  rw [sumTo_const] at this; omega
theorem lack0 (g : Nat → Int) (t : List Int) (p : Nat) : 0 ≤ lackG g t p := by unfold lackG; omega
theorem lack1 {g : Nat → Int} {P : Nat} {t : List Int} (h : Toks P t) (hg : ∀ p, 0 ≤ g p) (p : Nat) : lackG g t p ≤ 9 := by have := h.hi p; have := hg p; unfold lackG; omega
theorem lack_sum0 (g : Nat → Int) (t : List Int) (k : Nat) : 0 ≤ sumTo (lackG g t) k := sumTo_nonneg fun j _ => lack0 g t j
theorem lack_sum1 {g : Nat → Int} {P : Nat} {t : List Int} (h : Toks P t) (hg : ∀ p, 0 ≤ g p) {k : Nat} (hk : k ≤ 16) : sumTo (lackG g t) k ≤ 144 := by
  have := sumTo_le (f := lackG g t) (g := fun _ => 9) (k := k) fun j _ => lack1 h hg j
  rw [sumTo_const] at this; omega
theorem sumTo_sub (f g : Nat → Int) (k : Nat) : sumTo (fun p => f p - g p) k = sumTo f k - sumTo g k := by
  have h1 := sumTo_add f (fun p => - g p) k
  rw [sumTo_neg] at h1
  have : sumTo (fun p => f p - g p) k = sumTo (fun p => f p + - g p) k := sumTo_congr fun j _ => by omega
  omega

theorem tok_of_tran {n : NetL} {P : Nat} (hn : netOk n = true) (hP : n.places = P) {k : Nat} (hk : k < n.trans.length) : Toks P (tranAt n.trans k).pre ∧ Toks P (tranAt n.trans k).post := by
  have h := net_tran hn hk
  obtain ⟨l1, l2⟩ := tran_length hn hk
  simp only [tranOk, Bool.and_eq_true, List.all_append] at h
  have key : ∀ xs : List Int, xs.all weightOk = true → (xs.length : Int) = P → Toks P xs := by
    intro xs hx hl
    have hb : ∀ p, 0 ≤ nth xs p ∧ nth xs p ≤ 9 := by
      intro p
      by_cases hp : p < xs.length
      · have := List.all_eq_true.1 hx _ (List.getElem_mem hp)
        simp only [weightOk, Bool.and_eq_true, decide_eq_true_eq] at this
        simp only [nth, List.getD, List.getElem?_eq_getElem hp, Option.getD_some]
        exact this
      · rw [nth_past xs p (by omega)]; omega
    exact ⟨by omega, fun p => (hb p).1, fun p => (hb p).2⟩
  exact ⟨key _ h.2.1 (by omega), key _ h.2.2 (by omega)⟩
theorem tok_of_start {P : Nat} (hP : P ≤ 16) (i : Int) : Toks P (startL P i) :=
  ⟨by rw [start_length]; omega, fun p => (start_bounds _ _ p).1, fun p => by have := (start_bounds (P : Int) i p).2; omega⟩
theorem start_sum {P : Nat} (hP : P ≤ 16) {i : Nat} (hi : i < P) : sumTo (nth (startL P i)) P = 1 := by
  rw [sumTo_single (i := i) hi fun j hj hne => by rw [start_at _ _ _ (by omega), if_neg (by omega)], start_at _ _ _ (by omega), if_pos rfl]

theorem BndG.put {P k : Nat} {g : GameL} {t : List Int} (h : BndG P k g) (hP : P ≤ 16) (ht : Toks P t) : BndG P (k + 1) (putG g t) := by
  have a1 := ht.sum0 P
  have a2 := ht.sum1 hP
  have e : ∀ p, (putG g t).there p = g.there p + nth t p := by
    intro p
    show (if p < t.length then _ else _) = _
    by_cases hp : p < t.length
    · rw [if_pos hp]
    · rw [if_neg hp, nth_past _ _ (by omega)]; omega
  have e2 : sumTo (putG g t).there P = sumTo g.there P + sumTo (nth t) P := by rw [← sumTo_add]; exact sumTo_congr fun j _ => e j
  have := h.left
  have := h.sum
  have := h.put0
  have := h.put1
  have := h.tak0
  have := h.tak1
  have := h.lac0
  have := h.lac1
  refine ⟨?_, ?_, ?_, ?_, ?_, ?_, ?_, ?_, fun p => ?_, fun p => ?_, fun p hp => ?_⟩
  all_goals try (simp only [putG, putTo, ht.len]; omega)
  · rw [e2]; simp only [putG, putTo, ht.len]; omega
  · rw [e]; have := h.there0 p; have := ht.lo p; omega
  · rw [e]; have := h.there1 p; have := ht.hi p; omega
  · rw [e, h.past p hp, nth_past _ _ (by rw [ht.len]; exact hp)]; rfl
theorem takeG_there {P : Nat} {g : GameL} {t : List Int} (ht : t.length = P) (h0 : ∀ p, 0 ≤ g.there p) (p : Nat) : (takeG g t).there p = g.there p + (lackG g.there t p - nth t p) := by
  show (if p < t.length then _ else _) = _
  by_cases hp : p < t.length
  · rw [if_pos hp]
  · have := h0 p
    rw [if_neg hp]; unfold lackG; rw [nth_past _ _ (by omega)]; omega
theorem putG_there (g : GameL) (t : List Int) (p : Nat) : (putG g t).there p = g.there p + nth t p := by
  show (if p < t.length then _ else _) = _
  by_cases hp : p < t.length
  · rw [if_pos hp]
  · rw [if_neg hp, nth_past _ _ (by omega)]; omega
theorem BndG.take {P k : Nat} {g : GameL} {t : List Int} (h : BndG P k g) (hP : P ≤ 16) (ht : Toks P t) : BndG P (k + 1) (takeG g t) := by
  have a1 := ht.sum0 P
  have a2 := ht.sum1 hP
  have a3 := lack_sum0 g.there t P
  have a4 := lack_sum1 ht h.there0 hP
  have e := fun p => takeG_there (g := g) ht.len h.there0 p
  have e1 : sumTo (fun p => lackG g.there t p - nth t p) P = sumTo (lackG g.there t) P - sumTo (nth t) P := sumTo_sub _ _ _
  have e2 : sumTo (takeG g t).there P = sumTo g.there P + sumTo (fun p => lackG g.there t p - nth t p) P := by rw [← sumTo_add]; exact sumTo_congr fun j _ => e j
  have := h.left
  have := h.sum
  have := h.put0
  have := h.put1
  have := h.tak0
  have := h.tak1
  have := h.lac0
  have := h.lac1
  refine ⟨?_, ?_, ?_, ?_, ?_, ?_, ?_, ?_, fun p => ?_, fun p => ?_, fun p hp => ?_⟩
  all_goals try (simp only [takeG, takeTo, ht.len]; omega)
  · rw [e2]; simp only [takeG, takeTo, ht.len]; omega
  · rw [e]; have := h.there0 p; unfold lackG; omega
  · rw [e]; have := h.there1 p; have := ht.lo p; have := h.there0 p; unfold lackG; omega
  · rw [e, h.past p hp]; unfold lackG; rw [h.past p hp, nth_past _ _ (by rw [ht.len]; exact hp)]; rfl
theorem bnd_zero (P : Nat) : BndG P 0 ⟨noPlay, fun _ => 0⟩ :=
  ⟨Int.le_refl _, Int.le_refl _, Int.le_refl _, Int.le_refl _, Int.le_refl _, Int.le_refl _, rfl, (sumTo_zero fun _ _ => rfl).symm, fun _ => Int.le_refl _, fun _ => Int.le_refl _, fun _ _ => rfl⟩

theorem shape_places {n : NetL} {i o : Int} (h : ShapeOk n i o) : ∃ P : Nat, n.places = P ∧ 0 < P ∧ P ≤ 16 := by
  have h1 := h.ok
  simp only [netOk, headOk, Bool.and_eq_true, decide_eq_true_eq] at h1
  have := h.i0
  have := h.i1
  exact ⟨n.places.toNat, by omega, by omega, by omega⟩
theorem labIdx_some {n : NetL} {l : Int} {k : Nat} (h : labIdx n l = some k) : k < n.trans.length ∧ (tranAt n.trans k).label = l := by
  unfold labIdx at h
  obtain ⟨h1, h2, _⟩ := List.findIdx?_eq_some_iff_getElem.1 h
  refine ⟨h1, ?_⟩
  simpa [hasLab, tranAt, List.getD, List.getElem?_eq_getElem h1] using h2
theorem labIdx_none {n : NetL} {l : Int} (h : labIdx n l = none) {k : Nat} (hk : k < n.trans.length) : (tranAt n.trans k).label ≠ l := by
  unfold labIdx at h
  have := List.findIdx?_eq_none_iff.1 h _ (List.getElem_mem hk)
  simpa [hasLab, tranAt, List.getD, List.getElem?_eq_getElem hk] using this
theorem named_one {n : NetL} (h : NamedN n) {j k : Nat} (hj : j < n.trans.length) (hk : k < n.trans.length) (e : (tranAt n.trans j).label = (tranAt n.trans k).label) : j = k := by
  rcases Nat.lt_trichotomy j k with q | q | q
  · exact absurd e ((h k hk).2 j q)
  · exact q
  · exact absurd e.symm ((h j hj).2 k q)
theorem labIdx_of {n : NetL} (h : NamedN n) {k : Nat} (hk : k < n.trans.length) : labIdx n (tranAt n.trans k).label = some k := by
  cases e : labIdx n (tranAt n.trans k).label with
  | none => exact absurd rfl (labIdx_none e hk)
  | some j => obtain ⟨h1, h2⟩ := labIdx_some e; rw [named_one h h1 hk h2]

theorem BndG.game {n : NetL} {P : Nat} (hn : netOk n = true) (hP : n.places = P) (hP2 : P ≤ 16) : ∀ (tr : List Int) {k : Nat} {g g' : GameL}, BndG P k g → gameL n tr g = some g' → BndG P (k + 2 * tr.length) g' := by
  intro tr
  induction tr with
  | nil => intro k g g' h e; cases e; exact h
  | cons l ls ih =>
    intro k g g' h e
    simp only [gameL] at e
    cases hl : labIdx n l with
    | none => rw [hl] at e; cases e
    | some j =>
      rw [hl] at e
      obtain ⟨hj, _⟩ := labIdx_some hl
      obtain ⟨t1, t2⟩ := tok_of_tran hn hP hj
      have := ih ((h.take hP2 t1).put hP2 t2) e
      rw [List.length_cons]
      exact (show k + 1 + 1 + 2 * ls.length = k + 2 * (ls.length + 1) by omega) ▸ this
theorem begun_bnd {n : NetL} {P : Nat} (hP : n.places = P) (hP2 : P ≤ 16) (i : Int) : BndG P 1 (begunG n i) := by
  have := (bnd_zero P).put hP2 (tok_of_start hP2 i)
  rw [← hP] at this
  exact this

/-- What stands behind an answer. -/
theorem Replayed.zero {n : NetL} {i o : Int} {tr : List Int} {r : PlayL} (h : Replayed n i o tr r 0) : ShapeOk n i o ∧ NamedN n ∧ tr.length ≤ 60 ∧ ∃ g, gameL n tr (begunG n i) = some g ∧ r = (takeG g (startL n.places o)).pl := by
  obtain ⟨d, hd⟩ := judged_ex n i o
  by_cases h0 : d = 0
  · subst h0
    have hs := hd.zero
    by_cases hn : NamedN n
    · by_cases hl : 60 < tr.length
      · have := (h.many hs hn hl).2; omega
      · cases hg : gameL n tr (begunG n i) with
        | none => have := (h.none hs hn (by omega) hg).2; omega
        | some g => exact ⟨hs, hn, by omega, g, rfl, (h.ok hs hn (by omega) g hg).1⟩
    · have := (h.form hs hn).2; omega
  · have := (h.bad d hd h0).2; omega
theorem Replayed.err {n : NetL} {i o e : Int} {tr : List Int} {r : PlayL} (h : Replayed n i o tr r e) (he : e ≠ 0) : r = noPlay := by
  obtain ⟨d, hd⟩ := judged_ex n i o
  by_cases h0 : d = 0
  · subst h0
    have hs := hd.zero
    by_cases hn : NamedN n
    · by_cases hl : 60 < tr.length
      · exact (h.many hs hn hl).1
      · cases hg : gameL n tr (begunG n i) with
        | none => exact (h.none hs hn (by omega) hg).1
        | some g => exact absurd (h.ok hs hn (by omega) g hg).2 he
    · exact (h.form hs hn).1
  · exact (h.bad d hd h0).1

theorem game_grows {n : NetL} {P : Nat} (hn : netOk n = true) (hP : n.places = P) : ∀ (tr : List Int) {g g' : GameL}, gameL n tr g = some g' → g.pl.put ≤ g'.pl.put ∧ g.pl.lacked ≤ g'.pl.lacked := by
  intro tr
  induction tr with
  | nil => intro g g' e; cases e; exact ⟨Int.le_refl _, Int.le_refl _⟩
  | cons l ls ih =>
    intro g g' e
    simp only [gameL] at e
    cases hl : labIdx n l with
    | none => rw [hl] at e; cases e
    | some j =>
      rw [hl] at e
      obtain ⟨hj, _⟩ := labIdx_some hl
      obtain ⟨t1, t2⟩ := tok_of_tran hn hP hj
      obtain ⟨a1, a2⟩ := ih e
      have b1 := t2.sum0 (tranAt n.trans j).post.length
      have b2 := lack_sum0 g.there (tranAt n.trans j).pre (tranAt n.trans j).pre.length
      simp only [putG, putTo, takeG, takeTo] at a1 a2
      exact ⟨by omega, by omega⟩

/-- Tokens add up. -/
theorem Replayed.sums {n : NetL} {i o : Int} {tr : List Int} {r : PlayL} (h : Replayed n i o tr r 0) : r.put + r.lacked = r.taken + r.left ∧ 0 ≤ r.lacked ∧ 0 ≤ r.left ∧ 0 < r.put ∧ 0 < r.taken ∧ r.put ≤ 20000 ∧ r.taken ≤ 20000 ∧ r.lacked ≤ 20000 ∧ r.left ≤ 20000 := by
  obtain ⟨hs, hn, hl, g, hg, rfl⟩ := h.zero
  obtain ⟨P, hP, hP0, hP1⟩ := shape_places hs
  have hb0 := begun_bnd hP hP1 i
  have hb := BndG.game hs.ok hP hP1 tr hb0 hg
  have ht : Toks P (startL n.places o) := by rw [hP]; exact tok_of_start hP1 o
  have hb2 := hb.take hP1 ht
  have hle := sumTo_le (f := (takeG g (startL n.places o)).there) (g := fun _ => 1100) (k := P) fun j _ => by have := hb2.there1 j; omega
  rw [sumTo_const, ← hb2.left] at hle
  have hge : 0 ≤ sumTo (takeG g (startL n.places o)).there P := sumTo_nonneg fun j _ => hb2.there0 j
  rw [← hb2.left] at hge
  obtain ⟨i', hi⟩ := Int.eq_ofNat_of_zero_le hs.i0
  obtain ⟨o', ho⟩ := Int.eq_ofNat_of_zero_le hs.o0
  have h1 := hs.i1
  have h2 := hs.o1
  have s1 := start_sum hP1 (i := i') (by omega)
  have s2 := start_sum hP1 (i := o') (by omega)
  have g1 := (game_grows hs.ok hP tr hg).1
  have e1 : (begunG n i).pl.put = 1 := by
    unfold begunG
    simp only [putG, putTo, noPlay]
    rw [start_length, hP, show (min (P : Int) 16).toNat = P by omega, hi]
    omega
  have e2 : (takeG g (startL n.places o)).pl.taken = g.pl.taken + 1 := by
    simp only [takeG, takeTo]
    rw [start_length, hP, show (min (P : Int) 16).toNat = P by omega, ho]
    omega
  have e3 : (takeG g (startL n.places o)).pl.put = g.pl.put := rfl
  have := hb2.sum
  have := hb2.put1
  have := hb2.tak1
  have := hb2.lac0
  have := hb2.lac1
  have := hb.tak0
  refine ⟨by omega, by omega, by omega, by omega, by omega, by omega, by omega, by omega, by omega⟩

end Go.Proofs.Ytfaehomopgichaa

/- Package net, as it landed: what is wrong, and which marks fit. -/
namespace Go.Proofs.Ytfaehomopgichaa
open Go.RowKit
set_option linter.unusedVariables false
set_option maxRecDepth 4000

set_option maxHeartbeats 400000 in
theorem upTo_any (x y : Int) (w : World) :
    Calls Try.prog 33 #[.int .i64 x, .int .i64 y] w fun e w' => e = .returned (.bool (decide (0 ≤ x) && decide (x ≤ y))) ∧ w' = w := by
  by_cases h1 : 0 ≤ x <;> by_cases h2 : x ≤ y <;>
  · go_enter Try.func33, Try.ntmps33
    go_wp2
    go_ret
    exact ⟨by simp [h1, h2], rfl⟩

/-- What a transition may take or put. -/
def weighs (n : NetL) (xs : List Int) : Bool := ((xs.length : Int) == n.places) && xs.all weightOk

set_option maxHeartbeats 400000 in
theorem weights_any (v u : Value) (n : NetL) (xs : List Int) (w : World) (hv : Net w v n) (hu : Ints w u xs) :
    Calls Try.prog 34 #[v, u] w fun e w' => e = .returned (.bool (weighs n xs)) ∧ Below w.heap.size w w' := by
  obtain ⟨tv, rfl, hT⟩ := hv
  have b1 := below_new w (.cells #[.int .i64 n.places, tv] 24)
  have hu1 := hu.below b1
  have hbx := box2_new w (.int .i64 n.places) tv 24
  clear hT hu
  obtain ⟨a, len, cap, rfl, hlen, hmx, hsh, hr⟩ := hu1
  obtain ⟨x0, x1, x2⟩ := hbx
  cases hl : ((len : Int) == n.places)
  · have hl' : ((len : Int) != n.places) = true := by simpa using hl
    have F : Hid (weighs n xs = false) := by show _ = _; unfold weighs; rw [hlen, hl]; rfl
    clear hl
    go_enter Try.func34, Try.ntmps34
    go_wp2
    go_ret
    exact ⟨ret_bool F.out.symm, b1⟩
  · have hl' : ((len : Int) != n.places) = false := by simpa using hl
    have F : Hid (weighs n xs = xs.all weightOk) := by show _ = _; unfold weighs; rw [hlen, hl]; rfl
    clear hl
    go_enter Try.func34, Try.ntmps34
    go_wp2_with fail
    clear x0 x1 x2
    go_loop [14] (fun i => ∃ j : Nat, j ≤ len ∧ i = .int .i64 j ∧ Hid (weighTo xs j = true)) (fun i => len - (intOf i).toNat)
    case atStart => exact ⟨0, Nat.zero_le _, rfl, rfl⟩
    case round =>
      obtain ⟨j, hj, rfl, hw⟩ := hrel
      by_cases hjn : j < len
      · obtain ⟨b, off, rfl, hb, hc⟩ := hr j (by omega)
        have Hst : Hid _ := weighTo_succ xs j (by omega)
        have Hno : Hid (weightOk (nth xs j) = false → weighs n xs = false) := by
          intro h
          rw [F.out, List.all_eq_false]
          refine ⟨xs[j]'(by omega), List.getElem_mem _, ?_⟩
          have e : nth xs j = xs[j]'(by omega) := by simp [nth, List.getD, List.getElem?_eq_getElem (show j < xs.length by omega)]
          rw [← e, h]; simp
        clear hr
        go_wp2_with fail
        refine (upTo_any _ _ _).mono ?_
        rintro e w2 ⟨rfl, rfl⟩
        have Hwo : Hid ((decide (0 ≤ nth xs j) && decide (nth xs j ≤ 9)) = weightOk (nth xs j)) := rfl
        rw [Hwo.out]
        cases hk : weightOk (nth xs j)
        · have F2 : Hid _ := Hno.out hk
          clear Hno hk Hst
          go_wp2
          go_ret
          exact ⟨ret_bool F2.out.symm, b1⟩
        · have F2 : Hid (weighTo xs (j + 1) = true) := by show _ = _; rw [Hst.out, hw.out, hk]; rfl
          clear Hno hk Hst
          go_wp2
          go_round
          case rel => exact ⟨j + 1, by omega, by go_num, F2⟩
          case measure => simp [intOf]; omega
      · have F2 : Hid (weighs n xs = true) := by show _ = _; rw [F.out, ← weighTo_all xs j (by omega)]; exact hw.out
        go_wp2
        go_ret
        exact ⟨ret_bool F2.out.symm, b1⟩

theorem tranOk_weighs (n : NetL) (t : TranL) : tranOk n.places t = ((decide (0 ≤ t.label) && decide (t.label ≤ 26)) && weighs n t.pre && weighs n t.post) := by
  unfold tranOk tranHead weighs
  rw [List.all_append]
  cases decide (0 ≤ t.label) <;> cases decide (t.label ≤ 26) <;> cases ((t.pre.length : Int) == n.places) <;> cases ((t.post.length : Int) == n.places) <;> cases t.pre.all weightOk <;> cases t.post.all weightOk <;> rfl

theorem netOk_false_at {n : NetL} {k : Nat} (hk : k < n.trans.length) (h : tranOk n.places (tranAt n.trans k) = false) : netOk n = false := by
  unfold netOk
  rw [Bool.and_eq_false_iff]
  right
  rw [List.all_eq_false]
  refine ⟨n.trans[k], List.getElem_mem _, ?_⟩
  have e : tranAt n.trans k = n.trans[k] := by simp [tranAt, List.getD, List.getElem?_eq_getElem hk]
  rw [← e, h]; simp

set_option maxHeartbeats 1000000 in
theorem wrong_any (v : Value) (n : NetL) (w : World) (hv : Net w v n) :
    Calls Try.prog 23 #[v] w fun e w' => e = .returned (.int .i64 (wrongL n)) ∧ Below w.heap.size w w' := by
  obtain ⟨tv, rfl, hT⟩ := hv
  have b1 := below_new w (.cells #[.int .i64 n.places, tv] 24)
  have hbx := box2_new w (.int .i64 n.places) tv 24
  replace hT := hT.below b1
  obtain ⟨w0, Hw0⟩ : ∃ w0, Hid (w.alloc (.cells #[.int .i64 n.places, tv] 24) = w0) := ⟨_, rfl⟩
  rw [Hw0.out] at b1 hbx hT
  obtain ⟨a, len, cap, rfl, hlen, hmx, hsh, hr⟩ := id hT
  clear hr
  obtain ⟨x0, x1, x2⟩ := id hbx
  go_enter Try.func23, Try.ntmps23
  go_upto_region 1 with fail
  rw [Hw0.out]
  clear Hw0
  go_wp2_with fail
  refine (upTo_any _ _ _).mono ?_
  rintro e w2 ⟨rfl, rfl⟩
  cases hA : (decide (0 ≤ n.places) && decide (n.places ≤ 16))
  · have F : Hid (wrongL n = 2) := by show _ = _; simp only [wrongL, netOk, headOk, hA]; rfl
    clear hA
    go_wp2
    go_ret
    exact ⟨ret_int F.out.symm, b1⟩
  by_cases hB : len ≤ 24
  case neg =>
    have F : Hid (wrongL n = 2) := by show _ = _; simp only [wrongL, netOk, headOk, hA, hlen, decide_eq_false hB]; rfl
    clear hA
    go_wp2
    go_ret
    exact ⟨ret_int F.out.symm, b1⟩
  have F0 : Hid (okTo n 0 = true) := by show _ = _; simp only [okTo, headOk, hA, hlen, decide_eq_true hB]; rfl
  clear hA
  go_wp2_with fail
  go_loopg [18] len (fun g i wr => ∃ k : Nat, k + g = len ∧ i = .int .i64 k ∧ Hid (okTo n k = true) ∧ Below w2.heap.size w2 wr)
  case atStart => exact ⟨0, by omega, rfl, F0, Below.refl _ _⟩
  case round =>
    clear x0 x1 x2 F0
    obtain ⟨k, hkg, rfl, hok, hb⟩ := hrel
    have c := below_then b1 hb
    by_cases hkn : k < len
    · obtain ⟨b, off, c1, c2, rfl, hblt, h0, h1, h2, i1, i2⟩ := (hT.below hb).at hkn
      obtain ⟨x0, x1, x2⟩ := hbx.below hb
      have hv2 : Net wr (.agg #[.int .i64 n.places, .slice (some ⟨b, off, none⟩) len cap]) n := ⟨_, rfl, hT.below hb⟩
      obtain ⟨a1, l1, p1, rfl, _, _, _, _⟩ := id i1
      obtain ⟨a2, l2, p2, rfl, _, _, _, _⟩ := id i2
      have Hok : Hid _ := okTo_succ n k (by omega)
      have Hno : Hid (tranOk n.places (tranAt n.trans k) = false → wrongL n = 2) := fun h => wrongL_not (netOk_false_at (by omega) h)
      have Hto : Hid _ := tranOk_weighs n (tranAt n.trans k)
      have b2 := below_new wr (.cells #[.int .i64 (tranAt n.trans k).label, .slice a1 l1 p1, .slice a2 l2 p2] 35)
      generalize tranAt n.trans k = t at *
      replace hv2 := hv2.below b2
      replace i1 := i1.below b2
      replace i2 := i2.below b2
      go_wp2_with fail
      refine (upTo_any _ _ _).mono ?_
      rintro e w3 ⟨rfl, rfl⟩
      cases hA : (decide (0 ≤ t.label) && decide (t.label ≤ 26))
      · have F : Hid (wrongL n = 2) := Hno.out (by rw [Hto.out, hA]; rfl)
        clear Hno Hto Hok hA
        go_wp2
        go_ret
        exact ⟨ret_int F.out.symm, below_then c b2⟩
      go_wp2_with fail
      refine (weights_any _ _ n t.pre _ (by exact hv2) (by exact i1)).mono ?_
      rintro e w3 ⟨rfl, b3⟩
      cases hB : weighs n t.pre
      · have F : Hid (wrongL n = 2) := Hno.out (by rw [Hto.out, hA, hB]; rfl)
        clear Hno Hto Hok hA
        go_wp2
        go_ret
        exact ⟨ret_int F.out.symm, below_then c (below_then b2 b3)⟩
      have y0 : wr.heap.size < (wr.alloc (.cells #[.int .i64 t.label, .slice a1 l1 p1, .slice a2 l2 p2] 35)).heap.size := by simp
      have y2 : w3.cell? ⟨wr.heap.size, 2, none⟩ = some (.slice a2 l2 p2) := by rw [b3.cell (p := ⟨wr.heap.size, 2, none⟩) y0, World.cell?_alloc_at _ _ _ _ rfl]; rfl
      obtain ⟨z0, z1, z2⟩ := (hbx.below hb).below (below_then b2 b3)
      replace hv2 := hv2.below b3
      replace i2 := i2.below b3
      have b4 := below_then b2 b3
      clear b2 b3 x0 x1 x2 h0 h1 h2 i1 y0
      go_wp2_with fail
      refine (weights_any _ _ n t.post _ (by exact hv2) (by exact i2)).mono ?_
      rintro e w4 ⟨rfl, b3⟩
      replace b4 := below_then b4 b3
      clear y2 z0 z1 z2 hv2 i2 b3
      cases hC : weighs n t.post
      · have F : Hid (wrongL n = 2) := Hno.out (by rw [Hto.out, hA, hB, hC]; rfl)
        clear Hno Hto Hok hA
        go_wp2
        go_ret
        exact ⟨ret_int F.out.symm, below_then c b4⟩
      · have F : Hid (okTo n (k + 1) = true) := by show _ = _; rw [Hok.out, Hto.out, hok.out, hA, hB, hC]; rfl
        have R := below_then hb b4
        clear Hno Hto Hok hA b4
        go_wp2
        go_roundg (gk - 1)
        case measure => omega
        case rel => exact ⟨k + 1, by omega, by go_num, F, R⟩
    · have F : Hid (wrongL n = 0) := by show _ = _; rw [okTo_all n k (by omega)] at hok; exact wrongL_ok hok.out
      go_wp2
      go_ret
      exact ⟨ret_int F.out.symm, c⟩

set_option maxHeartbeats 400000 in
theorem marks_any (v u : Value) (n : NetL) (m : List Int) (w : World) (hv : Net w v n) (hu : Ints w u m) :
    Calls Try.prog 20 #[v, u] w fun e w' => e = .returned (.bool (fitsL n m)) ∧ Below w.heap.size w w' := by
  obtain ⟨tv, rfl, hT⟩ := hv
  have b1 := below_new w (.cells #[.int .i64 n.places, tv] 24)
  have hbx := box2_new w (.int .i64 n.places) tv 24
  have hu1 := hu.below b1
  have hv1 : Net _ _ n := ⟨tv, rfl, hT.below b1⟩
  go_enter Try.func20, Try.ntmps20
  go_wp2_with fail
  refine (wrong_any _ n _ (by exact hv1)).mono ?_
  rintro e w1 ⟨rfl, b2⟩
  have b3 := below_then b1 b2
  have hu2 := hu1.below b2
  obtain ⟨hx0, hx1, hx2⟩ := hbx.below b2
  clear b1 b2 hbx hu1 hv1
  have hu3 := hu2
  obtain ⟨a, len, cap, rfl, hlen, hmx, hsh, hr⟩ := hu2
  clear hr
  cases h1 : netOk n
  · rw [wrongL_not h1]
    have F : Hid (fitsL n m = false) := by show _ = _; simp [fitsL, h1]
    clear h1
    go_wp2
    go_ret
    exact ⟨ret_bool F.out.symm, b3⟩
  · rw [wrongL_ok h1]
    cases h2 : ((len : Int) == n.places)
    · have F : Hid (fitsL n m = false) := by show _ = _; unfold fitsL; rw [hlen, h2]; simp
      clear h1
      go_wp2
      go_ret
      exact ⟨ret_bool F.out.symm, b3⟩
    · have F : Hid (fitsL n m = rightL m) := by show _ = _; unfold fitsL; rw [h1, hlen, h2]; simp
      clear h1
      go_wp2_with fail
      refine (right_any _ m _ hu3).mono ?_
      rintro e w' ⟨rfl, rfl⟩
      go_wp2
      go_ret
      exact ⟨ret_bool F.out.symm, b3⟩

end Go.Proofs.Ytfaehomopgichaa

/- Which places and transitions are behind a place, reckoned round by round. -/
namespace Go.Proofs.Ytfaehomopgichaa
set_option linter.unusedVariables false
set_option maxRecDepth 4000

/-- What is known so far: of places, of transitions. -/
structure WayS where
  ps : Nat → Bool
  ts : Nat → Bool

/-- Does one of the first j places lead to a transition? -/
def leadTo (ps : Nat → Bool) (w : List Int) (b : Bool) : Nat → Bool
  | 0 => b
  | j + 1 => leadTo ps w b j || (ps j && decide (0 < nth w j))
/-- The first j places that a transition leads to. -/
def feedTo (ps : Nat → Bool) (w : List Int) (b : Bool) (j : Nat) : Nat → Bool := fun q => ps q || (decide (q < j) && (b && decide (0 < nth w q)))
def setAt (ts : Nat → Bool) (k : Nat) (b : Bool) : Nat → Bool := fun j => if j = k then b else ts j

def tranWay (n : NetL) (s : WayS) (k : Nat) : WayS :=
  ⟨feedTo s.ps (tranAt n.trans k).post (leadTo s.ps (tranAt n.trans k).pre (s.ts k) n.places.toNat) n.places.toNat, setAt s.ts k (leadTo s.ps (tranAt n.trans k).pre (s.ts k) n.places.toNat)⟩
def roundWay (n : NetL) (s : WayS) : Nat → WayS
  | 0 => s
  | k + 1 => tranWay n (roundWay n s k) k
def startWay (f : Nat) : WayS := ⟨fun q => decide (q = f), fun _ => false⟩
def waysTo (n : NetL) (f : Nat) : Nat → WayS
  | 0 => startWay f
  | r + 1 => roundWay n (waysTo n f r) n.trans.length
def waysL (n : NetL) (f : Nat) : WayS := waysTo n f (n.places.toNat + n.trans.length)

theorem lead_mono {ps : Nat → Bool} {w : List Int} {b : Bool} (h : b = true) (j : Nat) : leadTo ps w b j = true := by
  induction j with
  | zero => exact h
  | succ j ih => unfold leadTo; rw [ih]; rfl
theorem lead_iff {ps : Nat → Bool} {w : List Int} {b : Bool} (j : Nat) : leadTo ps w b j = true ↔ b = true ∨ ∃ q, q < j ∧ ps q = true ∧ 0 < nth w q := by
  induction j with
  | zero => simp [leadTo]
  | succ j ih =>
    unfold leadTo
    rw [Bool.or_eq_true, ih, Bool.and_eq_true, decide_eq_true_eq]
    constructor
    · rintro ((h | ⟨q, h1, h2⟩) | ⟨h1, h2⟩)
      · exact .inl h
      · exact .inr ⟨q, by omega, h2⟩
      · exact .inr ⟨j, by omega, h1, h2⟩
    · rintro (h | ⟨q, h1, h2⟩)
      · exact .inl (.inl h)
      · by_cases e : q = j
        · subst e; exact .inr h2
        · exact .inl (.inr ⟨q, by omega, h2⟩)
theorem feed_iff {ps : Nat → Bool} {w : List Int} {b : Bool} {j q : Nat} : feedTo ps w b j q = true ↔ ps q = true ∨ (q < j ∧ b = true ∧ 0 < nth w q) := by
  unfold feedTo
  rw [Bool.or_eq_true, Bool.and_eq_true, Bool.and_eq_true, decide_eq_true_eq, decide_eq_true_eq]

/-- Nothing that was known is lost. -/
structure WayLe (s u : WayS) : Prop where
  ps : ∀ q, s.ps q = true → u.ps q = true
  ts : ∀ k, s.ts k = true → u.ts k = true
theorem WayLe.refl (s : WayS) : WayLe s s := ⟨fun _ h => h, fun _ h => h⟩
theorem WayLe.trans {s u v : WayS} (h : WayLe s u) (k : WayLe u v) : WayLe s v := ⟨fun q h1 => k.ps q (h.ps q h1), fun q h1 => k.ts q (h.ts q h1)⟩
theorem WayLe.eq {s u : WayS} (h : WayLe s u) (k : WayLe u s) : s = u := by
  cases s with
  | mk p t =>
    cases u with
    | mk p2 t2 =>
      have e1 : p = p2 := by funext q; rw [Bool.eq_iff_iff]; exact ⟨h.ps q, k.ps q⟩
      have e2 : t = t2 := by funext q; rw [Bool.eq_iff_iff]; exact ⟨h.ts q, k.ts q⟩
      rw [e1, e2]
theorem tran_le (n : NetL) (s : WayS) (k : Nat) : WayLe s (tranWay n s k) := by
  refine ⟨fun q h => feed_iff.2 (.inl h), fun j h => ?_⟩
  show setAt s.ts k _ j = true
  unfold setAt
  split
  · rename_i e; subst e; exact lead_mono h _
  · exact h
theorem round_le (n : NetL) (s : WayS) : ∀ k, WayLe s (roundWay n s k)
  | 0 => WayLe.refl s
  | k + 1 => (round_le n s k).trans (tran_le n _ k)

/-- What is known is so. -/
structure WaySound (n : NetL) (f : Nat) (s : WayS) : Prop where
  ps : ∀ q, s.ps q = true → WayP n f q
  ts : ∀ k, k < n.trans.length → s.ts k = true → WayT n f k
theorem sound_start (n : NetL) (f : Nat) : WaySound n f (startWay f) := by
  refine ⟨fun q h => ?_, fun k _ h => by cases h⟩
  have : q = f := of_decide_eq_true h
  subst this; exact WayP.here n q
theorem sound_tran {n : NetL} {f : Nat} {s : WayS} (h : WaySound n f s) {k : Nat} (hk : k < n.trans.length) : WaySound n f (tranWay n s k) := by
  have hb : leadTo s.ps (tranAt n.trans k).pre (s.ts k) n.places.toNat = true → WayT n f k := fun q => by
    rcases (lead_iff _).1 q with q | ⟨a, h1, h2, h3⟩
    · exact h.ts k hk q
    · exact ⟨a, h.ps a h2, by omega⟩
  refine ⟨fun q hq => ?_, fun j hj hq => ?_⟩
  · rcases feed_iff.1 hq with q1 | ⟨h1, h2, h3⟩
    · exact h.ps q q1
    · obtain ⟨a, h4, h5⟩ := hb h2
      exact h4.step hk h5 (by omega)
  · have hq : setAt s.ts k _ j = true := hq
    unfold setAt at hq
    split at hq
    · rename_i e; subst e; exact hb hq
    · exact h.ts j hj hq
theorem sound_round {n : NetL} {f : Nat} {s : WayS} (h : WaySound n f s) : ∀ k, k ≤ n.trans.length → WaySound n f (roundWay n s k)
  | 0, _ => h
  | k + 1, hk => sound_tran (sound_round h k (by omega)) (by omega)
theorem sound_ways (n : NetL) (f : Nat) : ∀ r, WaySound n f (waysTo n f r)
  | 0 => sound_start n f
  | r + 1 => sound_round (sound_ways n f r) _ (Nat.le_refl _)

/-- How much is not known yet. -/
def gapOf (g : Nat → Bool) (k : Nat) : Nat := ((List.range k).filter fun j => !g j).length
theorem gap_zero (g : Nat → Bool) : gapOf g 0 = 0 := rfl
theorem gap_succ (g : Nat → Bool) (k : Nat) : gapOf g (k + 1) = gapOf g k + (if g k = true then 0 else 1) := by
  unfold gapOf
  rw [List.range_succ, List.filter_append, List.length_append]
  congr 1
  cases h : g k <;> simp [h]
theorem gap_le (g : Nat → Bool) (k : Nat) : gapOf g k ≤ k := by
  induction k with
  | zero => exact Nat.le_refl _
  | succ k ih => rw [gap_succ]; split <;> omega
theorem gap_some {g : Nat → Bool} {k j : Nat} (hj : j < k) (h : g j = true) : gapOf g k + 1 ≤ k := by
  induction k with
  | zero => omega
  | succ k ih =>
    rw [gap_succ]
    by_cases e : j = k
    · subst e; rw [if_pos h]; have := gap_le g j; omega
    · have := ih (by omega)
      split <;> omega
theorem gap_mono {g h : Nat → Bool} (hm : ∀ j, g j = true → h j = true) (k : Nat) : gapOf h k ≤ gapOf g k := by
  induction k with
  | zero => exact Nat.le_refl _
  | succ k ih =>
    rw [gap_succ, gap_succ]
    have := hm k
    by_cases e : g k = true
    · rw [if_pos e, if_pos (this e)]; exact ih
    · rw [if_neg e]; split <;> omega
theorem gap_same {g h : Nat → Bool} (hm : ∀ j, g j = true → h j = true) (k : Nat) (he : gapOf g k ≤ gapOf h k) : ∀ j, j < k → h j = true → g j = true := by
  induction k with
  | zero => intro j hj; omega
  | succ k ih =>
    rw [gap_succ, gap_succ] at he
    have hk := gap_mono hm k
    intro j hj hh
    by_cases e : j = k
    · subst e
      by_cases q : g j = true
      · exact q
      · rw [if_neg q, if_pos hh] at he; omega
    · refine ih ?_ j (by omega) hh
      by_cases q : g k = true
      · rw [if_pos q, if_pos (hm k q)] at he; omega
      · rw [if_neg q] at he; split at he <;> omega

theorem tran_out (n : NetL) (s : WayS) (k : Nat) : (∀ q, n.places.toNat ≤ q → (tranWay n s k).ps q = s.ps q) ∧ (∀ j, j ≠ k → (tranWay n s k).ts j = s.ts j) := by
  refine ⟨fun q hq => ?_, fun j hj => ?_⟩
  · show feedTo _ _ _ _ q = _
    unfold feedTo
    rw [decide_eq_false (by omega)]
    simp
  · show setAt _ _ _ j = _
    unfold setAt
    rw [if_neg hj]
theorem round_out (n : NetL) (s : WayS) : ∀ k, (∀ q, n.places.toNat ≤ q → (roundWay n s k).ps q = s.ps q) ∧ (∀ j, k ≤ j → (roundWay n s k).ts j = s.ts j)
  | 0 => ⟨fun _ _ => rfl, fun _ _ => rfl⟩
  | k + 1 => by
    obtain ⟨h1, h2⟩ := round_out n s k
    obtain ⟨h3, h4⟩ := tran_out n (roundWay n s k) k
    exact ⟨fun q hq => (h3 q hq).trans (h1 q hq), fun j hj => (h4 j (by omega)).trans (h2 j (by omega))⟩

def gapW (n : NetL) (s : WayS) : Nat := gapOf s.ps n.places.toNat + gapOf s.ts n.trans.length
/-- A round that tells nothing new changes nothing. -/
theorem round_same {n : NetL} {s : WayS} (h : gapW n s ≤ gapW n (roundWay n s n.trans.length)) : roundWay n s n.trans.length = s := by
  have hle := round_le n s n.trans.length
  have m1 := gap_mono hle.ps n.places.toNat
  have m2 := gap_mono hle.ts n.trans.length
  unfold gapW at h
  obtain ⟨o1, o2⟩ := round_out n s n.trans.length
  refine (hle.eq ⟨fun q hq => ?_, fun k hk => ?_⟩).symm
  · by_cases e : q < n.places.toNat
    · exact gap_same hle.ps n.places.toNat (by omega) q e hq
    · rw [← o1 q (by omega)]; exact hq
  · by_cases e : k < n.trans.length
    · exact gap_same hle.ts n.trans.length (by omega) k e hk
    · rw [← o2 k (by omega)]; exact hk
theorem round_end (n : NetL) (f : Nat) (hf : f < n.places.toNat) : ∀ r, roundWay n (waysTo n f r) n.trans.length = waysTo n f r ∨ gapW n (waysTo n f r) + r + 1 ≤ n.places.toNat + n.trans.length
  | 0 => by
    right
    have h1 := gap_some (g := (startWay f).ps) (k := n.places.toNat) (j := f) hf (decide_eq_true rfl)
    have h2 := gap_le (startWay f).ts n.trans.length
    show gapOf _ _ + gapOf _ _ + 0 + 1 ≤ _
    show gapOf (startWay f).ps n.places.toNat + gapOf (startWay f).ts n.trans.length + 0 + 1 ≤ _
    omega
  | r + 1 => by
    rcases round_end n f hf r with h | h
    · left
      show roundWay n (roundWay n (waysTo n f r) n.trans.length) n.trans.length = roundWay n (waysTo n f r) n.trans.length
      rw [h, h]
    · by_cases e : gapW n (waysTo n f r) ≤ gapW n (roundWay n (waysTo n f r) n.trans.length)
      · left
        have h1 := round_same e
        show roundWay n (roundWay n (waysTo n f r) n.trans.length) n.trans.length = roundWay n (waysTo n f r) n.trans.length
        rw [h1, h1]
      · right
        show gapW n (roundWay n (waysTo n f r) n.trans.length) + (r + 1) + 1 ≤ _
        omega
theorem ways_stable (n : NetL) (f : Nat) (hf : f < n.places.toNat) : roundWay n (waysL n f) n.trans.length = waysL n f := by
  rcases round_end n f hf (n.places.toNat + n.trans.length) with h | h
  · exact h
  · omega
/-- Where a round changes nothing, no transition does. -/
theorem stable_tran {n : NetL} {s : WayS} (h : roundWay n s n.trans.length = s) {k : Nat} (hk : k < n.trans.length) : tranWay n s k = s := by
  have up : ∀ j d, WayLe (roundWay n s j) (roundWay n s (j + d)) := by
    intro j d
    induction d with
    | zero => exact WayLe.refl _
    | succ d ih => exact ih.trans (tran_le n _ _)
  have at_ : ∀ j, j ≤ n.trans.length → roundWay n s j = s := by
    intro j hj
    have h1 := up j (n.trans.length - j)
    rw [show j + (n.trans.length - j) = n.trans.length by omega, h] at h1
    exact (h1.eq (round_le n s j))
  have h1 := at_ (k + 1) (by omega)
  have h2 := at_ k (by omega)
  have h3 : roundWay n s (k + 1) = tranWay n (roundWay n s k) k := rfl
  rw [h2] at h3
  rw [← h3, h1]
theorem ways_le (n : NetL) (f : Nat) : ∀ r, WayLe (startWay f) (waysTo n f r)
  | 0 => WayLe.refl _
  | r + 1 => (ways_le n f r).trans (round_le n _ _)

/-- All that is behind a place is known in the end. -/
theorem ways_iff {n : NetL} (hn : netOk n = true) {f : Nat} (hf : (f : Int) < n.places) : (∀ q, (waysL n f).ps q = true ↔ WayP n f q) ∧ (∀ k, k < n.trans.length → ((waysL n f).ts k = true ↔ WayT n f k)) := by
  have hs := ways_stable n f (by omega)
  have hsd := sound_ways n f (n.places.toNat + n.trans.length)
  have lead : ∀ k a, k < n.trans.length → (waysL n f).ps a = true → nth (tranAt n.trans k).pre a ≠ 0 → (waysL n f).ts k = true := by
    intro k a hk ha h0
    have e := congrArg WayS.ts (stable_tran hs hk)
    have e2 := congrFun e k
    have e3 : (tranWay n (waysL n f) k).ts k = leadTo (waysL n f).ps (tranAt n.trans k).pre ((waysL n f).ts k) n.places.toNat := by
      show setAt _ _ _ k = _
      unfold setAt
      rw [if_pos rfl]
    rw [← e2, e3, lead_iff]
    have hl := (tran_length hn hk).1
    have hb := (okTok_nth (tran_right (net_tran hn hk)).1 a).1
    refine .inr ⟨a, ?_, ha, by omega⟩
    rcases Nat.lt_or_ge a (tranAt n.trans k).pre.length with q | q
    · omega
    · exact absurd (nth_past _ _ q) h0
  have feed : ∀ k b, k < n.trans.length → (waysL n f).ts k = true → nth (tranAt n.trans k).post b ≠ 0 → (waysL n f).ps b = true := by
    intro k b hk ht h0
    have e := congrArg WayS.ps (stable_tran hs hk)
    have e2 := congrFun e b
    rw [← e2]
    have hl := (tran_length hn hk).2
    have hb := (okTok_nth (tran_right (net_tran hn hk)).2 b).1
    refine feed_iff.2 (.inr ⟨?_, lead_mono ht _, by omega⟩)
    rcases Nat.lt_or_ge b (tranAt n.trans k).post.length with q | q
    · omega
    · exact absurd (nth_past _ _ q) h0
  have full : ∀ q, WayP n f q → (waysL n f).ps q = true := fun q hq =>
    hq (fun q => (waysL n f).ps q = true) ((ways_le n f _).ps f (decide_eq_true rfl)) fun k a b hk ha h1 h2 => feed k b hk (lead k a hk ha h1) h2
  refine ⟨fun q => ⟨hsd.ps q, full q⟩, fun k hk => ⟨hsd.ts k hk, ?_⟩⟩
  rintro ⟨a, h1, h2⟩
  exact lead k a hk (full a h1) h2

end Go.Proofs.Ytfaehomopgichaa

/- Where a search breaks off; how many can be different. -/
namespace Go.Proofs.Ytfaehomopgichaa
set_option linter.unusedVariables false
set_option maxRecDepth 4000

theorem row_broke {n : NetL} {m : List Int} {most k : Nat} {s : SpaceL} (h : Found n m most k 0 s) (hk : k < s.marks.length) : ∀ (t : Nat), t ≤ n.trans.length → rowTo n most k s t = none →
    ∃ j s', j < n.trans.length ∧ Found n m most k j s' ∧ k < s'.marks.length ∧ tryT n most k s' j = none
  | 0, _, e => by simp [rowTo] at e
  | t + 1, ht, e => by
    rw [rowTo] at e
    cases e1 : rowTo n most k s t with
    | none => exact row_broke h hk t (by omega) e1
    | some s1 =>
      rw [e1] at e
      obtain ⟨g1, l1⟩ := rowTo_found h hk t (by omega) e1
      exact ⟨t, s1, by omega, g1, Nat.lt_of_lt_of_le hk l1.le, e⟩
theorem graph_broke {n : NetL} {m : List Int} {most : Nat} (hm : 1 ≤ most) (hf : fitsL n m = true) : ∀ (k : Nat), graphTo n m most k = none →
    ∃ f j s', j < n.trans.length ∧ Found n m most f j s' ∧ f < s'.marks.length ∧ tryT n most f s' j = none
  | 0, e => by simp [graphTo] at e
  | k + 1, e => by
    rw [graphTo] at e
    cases e1 : graphTo n m most k with
    | none => exact graph_broke hm hf k e1
    | some s1 =>
      rw [e1] at e
      simp only [Option.bind_some] at e
      split at e
      · rename_i hk
        obtain ⟨j, s', q1, q2, q3, q4⟩ := row_broke (graphTo_found hm hf k e1) hk _ (Nat.le_refl _) e
        exact ⟨k, j, s', q1, q2, q3, q4⟩
      · cases e

theorem nodup_sub {l1 : List (List Int)} : ∀ {l2 : List (List Int)}, l1.Nodup → (∀ x ∈ l1, x ∈ l2) → l1.length ≤ l2.length := by
  induction l1 with
  | nil => intro l2 _ _; simp
  | cons a l ih =>
    intro l2 hn hs
    rw [List.nodup_cons] at hn
    have ha := hs a (by simp)
    have := ih (l2 := l2.erase a) hn.2 fun x hx => (List.mem_erase_of_ne (fun (e : x = a) => hn.1 (e ▸ hx))).2 (hs x (by simp [hx]))
    rw [List.length_erase_of_mem ha] at this
    have := List.length_pos_of_mem ha
    simp; omega

theorem graphOk_300 {n : NetL} {m : List Int} (hf : fitsL n m = true) : graphOk n m 300 = true := by simp [graphOk, hf]

end Go.Proofs.Ytfaehomopgichaa

/- Plain words for what a space holds in memory. -/
namespace Go.Proofs.Ytfaehomopgichaa
open Go.RowKit
set_option linter.unusedVariables false
set_option maxRecDepth 4000

/-- A slice of arcs: three numbers each. -/
def Arcs (w : World) (v : Value) (l : List (Int × Int × Int)) : Prop :=
  ∃ a len cap, v = .slice a len cap ∧ l.length = len ∧ len ≤ 5864062014805 ∧ Shape a len cap ∧
    ∀ j (hj : j < l.length), ∃ b off, a = some ⟨b, off, none⟩ ∧ b < w.heap.size ∧ w.cell? ⟨b, off + j * 3, none⟩ = some (.int .i64 l[j].1) ∧
      w.cell? ⟨b, off + j * 3 + 1, none⟩ = some (.int .i64 l[j].2.1) ∧ w.cell? ⟨b, off + j * 3 + 2, none⟩ = some (.int .i64 l[j].2.2)

theorem Arcs.below {w w' : World} {v : Value} {l : List (Int × Int × Int)} (h : Arcs w v l) (hb : Below w.heap.size w w') : Arcs w' v l := by
  obtain ⟨a, len, cap, e, hl, hm, hs, hr⟩ := h
  refine ⟨a, len, cap, e, hl, hm, hs, fun j hj => ?_⟩
  obtain ⟨b, off, ha, hlt, h0, h1, h2⟩ := hr j hj
  exact ⟨b, off, ha, Nat.lt_of_lt_of_le hlt hb.size, by rw [hb.cell (p := ⟨b, _, none⟩) hlt]; exact h0, by rw [hb.cell (p := ⟨b, _, none⟩) hlt]; exact h1, by rw [hb.cell (p := ⟨b, _, none⟩) hlt]; exact h2⟩

theorem Arcs.at {w : World} {a : Option Addr} {len cap : Nat} {l : List (Int × Int × Int)} (h : Arcs w (.slice a len cap) l) {k : Nat} (hk : k < l.length) :
    ∃ b off, a = some ⟨b, off, none⟩ ∧ b < w.heap.size ∧ w.cell? ⟨b, off + k * 3, none⟩ = some (.int .i64 l[k].1) ∧
      w.cell? ⟨b, off + k * 3 + 1, none⟩ = some (.int .i64 l[k].2.1) ∧ w.cell? ⟨b, off + k * 3 + 2, none⟩ = some (.int .i64 l[k].2.2) := by
  obtain ⟨a', len', cap', e, hl, hm, hs, hr⟩ := h
  injection e with e1 e2 e3
  subst e1 e2 e3
  exact hr k hk
theorem Arcs.slice {w : World} {v : Value} {l : List (Int × Int × Int)} (h : Arcs w v l) : ∃ a cap, v = .slice a l.length cap ∧ l.length ≤ 5864062014805 := by
  obtain ⟨a, len, cap, e, hl, hm, hs, hr⟩ := h
  exact ⟨a, cap, by rw [e, hl], by omega⟩

theorem Lists.at {w : World} {a : Option Addr} {len cap : Nat} {ls : List (List Int)} (h : Lists w (.slice a len cap) ls) {k : Nat} (hk : k < len) :
    ∃ b off u, a = some ⟨b, off, none⟩ ∧ b < w.heap.size ∧ w.cell? ⟨b, off + k, none⟩ = some u ∧ Ints w u (markAt ls k) := by
  obtain ⟨a', len', cap', e, hl, hm, hs, hr⟩ := h
  injection e with e1 e2 e3
  subst e1 e2 e3
  exact hr k (by omega)
theorem Lists.slice {w : World} {v : Value} {ls : List (List Int)} (h : Lists w v ls) : ∃ a cap, v = .slice a ls.length cap ∧ ls.length ≤ 17592186044416 ∧ Shape a ls.length cap := by
  obtain ⟨a, len, cap, e, hl, hm, hs, hr⟩ := h
  subst hl
  exact ⟨a, cap, e, hm, hs⟩

def arcZ (a : ArcL) : Int × Int × Int := (a.frm, a.tran, a.dst)

/-- A value that is this space. -/
def Space (w : World) (v : Value) (s : SpaceL) : Prop := ∃ mv av, v = .agg #[mv, av] ∧ Lists w mv s.marks ∧ Arcs w av (s.arcs.map arcZ)

theorem Space.below {w w' : World} {v : Value} {s : SpaceL} (h : Space w v s) (hb : Below w.heap.size w w') : Space w' v s := by
  obtain ⟨mv, av, e, h1, h2⟩ := h
  exact ⟨mv, av, e, h1.below hb, h2.below hb⟩

/-- What a call answers that explores, or tells what is wrong. -/
def GivesS (w : World) (p : SpaceL × Int) (e : Ending) (w' : World) : Prop := ∃ r, e = .returned (.tuple #[r, .int .i64 p.2]) ∧ Space w' r p.1 ∧ Below w.heap.size w w'

theorem graphL_code (n : NetL) (m : List Int) (most : Int) : (graphL n m most).2 = 0 ∨ (graphL n m most).2 = 2 ∨ (graphL n m most).2 = 4 := by
  unfold graphL
  split
  · split
    · exact .inl rfl
    · exact .inr (.inr rfl)
  · exact .inr (.inl rfl)

end Go.Proofs.Ytfaehomopgichaa

/- Plain words for what can always be done again. -/
namespace Go.Proofs.Ytfaehomopgichaa
set_option linter.unusedVariables false
set_option maxRecDepth 4000

/-- Marks, and arcs between whatever numbers. -/
structure SpaceZ where
  marks : List (List Int)
  arcs : List (Int × Int × Int)

def rightS (s : SpaceZ) : Bool := s.arcs.all fun a => decide (0 ≤ a.1) && decide (a.1 < s.marks.length) && decide (0 ≤ a.2.2) && decide (a.2.2 < s.marks.length)
def Comes (s : SpaceZ) (k j : Int) : Prop := ∀ P : Int → Prop, P k → (∀ a : Int × Int × Int, P a.1 → a ∈ s.arcs → P a.2.2) → P j
theorem Comes.here {s : SpaceZ} (k : Int) : Comes s k k := fun _ h _ => h
theorem Comes.go {s : SpaceZ} {k : Int} {a : Int × Int × Int} (h : Comes s k a.1) (ha : a ∈ s.arcs) : Comes s k a.2.2 := fun P h0 h1 => h1 a (h P h0 h1) ha
theorem Comes.ind {s : SpaceZ} {k : Int} {motive : (j : Int) → Comes s k j → Prop} (here : motive k (Comes.here k)) (go : ∀ {a : Int × Int × Int} (h : Comes s k a.1) (ha : a ∈ s.arcs), motive a.1 h → motive a.2.2 (Comes.go h ha)) {j : Int} (h : Comes s k j) : motive j h := by
  obtain ⟨h', q⟩ := h (fun j => ∃ h : Comes s k j, motive j h) ⟨Comes.here k, here⟩ (fun a ⟨hx, qx⟩ ha => ⟨Comes.go hx ha, go hx ha qx⟩)
  exact q
def deadL (s : SpaceZ) (T : Int) : List Int := (rangeL (min T 24).toNat).filter fun t => s.arcs.all fun a => a.2.1 != t
def stuckL (s : SpaceZ) : List Int := (rangeL s.marks.length).filter fun k => s.arcs.all fun a => a.1 != k
def boundM (n : Int) (m : List Int) : Int := if rightL m then m.foldl max n else n
def boundL (s : SpaceZ) : Int := s.marks.foldl boundM 0
structure IsLive (s : SpaceZ) (T : Int) (xs : List Int) : Prop where
  up : xs.Pairwise (· < ·)
  mem : ∀ t, t ∈ xs ↔ rightS s = true ∧ 0 ≤ t ∧ t < min T 24 ∧ ∀ k : Int, 0 ≤ k → k < s.marks.length → ∃ a ∈ s.arcs, a.2.1 = t ∧ Comes s k a.1
structure IsHome (s : SpaceZ) (xs : List Int) : Prop where
  up : xs.Pairwise (· < ·)
  mem : ∀ k, k ∈ xs ↔ rightS s = true ∧ 0 ≤ k ∧ k < s.marks.length ∧ ∀ i : Int, 0 ≤ i → i < s.marks.length → Comes s i k

theorem rightS_iff {s : SpaceZ} : rightS s = true ↔ ∀ a ∈ s.arcs, 0 ≤ a.1 ∧ a.1 < s.marks.length ∧ 0 ≤ a.2.2 ∧ a.2.2 < s.marks.length := by
  unfold rightS
  simp only [List.all_eq_true, Bool.and_eq_true, decide_eq_true_eq, and_assoc]
theorem mem_dead {s : SpaceZ} {T t : Int} : t ∈ deadL s T ↔ 0 ≤ t ∧ t < min T 24 ∧ ∀ a ∈ s.arcs, a.2.1 ≠ t := by
  unfold deadL
  rw [List.mem_filter, mem_range]
  simp only [List.all_eq_true, bne_iff_ne]
  constructor
  · rintro ⟨h1, h2⟩; exact ⟨by omega, by omega, h2⟩
  · rintro ⟨h1, h2, h3⟩; exact ⟨by omega, h3⟩
theorem mem_stuck {s : SpaceZ} {k : Int} : k ∈ stuckL s ↔ 0 ≤ k ∧ k < s.marks.length ∧ ∀ a ∈ s.arcs, a.1 ≠ k := by
  unfold stuckL
  rw [List.mem_filter, mem_range]
  simp only [List.all_eq_true, bne_iff_ne, and_assoc]
theorem dead_up (s : SpaceZ) (T : Int) : (deadL s T).Pairwise (· < ·) := (range_sorted _).sublist List.filter_sublist
theorem stuck_up (s : SpaceZ) : (stuckL s).Pairwise (· < ·) := (range_sorted _).sublist List.filter_sublist

/-- Who is stuck goes nowhere. -/
theorem stuck_only {s : SpaceZ} {k j : Int} (h : k ∈ stuckL s) (hc : Comes s k j) : j = k := by
  induction hc using Comes.ind with
  | here => rfl
  | go h1 h2 ih => exact absurd ih ((mem_stuck.1 h).2.2 _ h2)

theorem up_one {xs : List Int} {k : Int} (hx : xs.Pairwise (· < ·)) (h : ∀ t, t ∈ xs ↔ t = k) : xs = [k] :=
  up_unique hx (List.pairwise_singleton _ _) fun t => by rw [h]; simp
theorem up_none {xs : List Int} (h : ∀ t, ¬ t ∈ xs) : xs = [] := List.eq_nil_iff_forall_not_mem.2 h

theorem stuck_live {s : SpaceZ} {T k : Int} {xs : List Int} (hk : k ∈ stuckL s) (h : IsLive s T xs) : xs = [] := by
  refine up_none fun t ht => ?_
  obtain ⟨_, _, _, hall⟩ := (h.mem t).1 ht
  obtain ⟨h1, h2, h3⟩ := mem_stuck.1 hk
  obtain ⟨a, ha, _, hc⟩ := hall k h1 h2
  exact h3 a ha (stuck_only hk hc)
theorem stuck_home {s : SpaceZ} {k : Int} {hs : List Int} (hk : k ∈ stuckL s) (h : IsHome s hs) (hh : k ∈ hs) : hs = [k] ∧ stuckL s = [k] := by
  obtain ⟨_, k1, k2, hall⟩ := (h.mem k).1 hh
  constructor
  · refine up_one h.up fun t => ⟨fun ht => ?_, fun e => by rw [e]; exact hh⟩
    obtain ⟨_, _, _, ht4⟩ := (h.mem t).1 ht
    exact stuck_only hk (ht4 k k1 k2)
  · refine up_one (stuck_up s) fun t => ⟨fun ht => ?_, fun e => by rw [e]; exact hk⟩
    obtain ⟨t1, t2, _⟩ := mem_stuck.1 ht
    exact (stuck_only ht (hall t t1 t2)).symm
theorem wrong_live {s : SpaceZ} {T : Int} {xs : List Int} (hr : rightS s = false) (h : IsLive s T xs) : xs = [] :=
  up_none fun t ht => by have := ((h.mem t).1 ht).1; rw [hr] at this; cases this
theorem wrong_home {s : SpaceZ} {xs : List Int} (hr : rightS s = false) (h : IsHome s xs) : xs = [] :=
  up_none fun t ht => by have := ((h.mem t).1 ht).1; rw [hr] at this; cases this

/-! ### spaces that are found -/
def toZ (s : SpaceL) : SpaceZ := ⟨s.marks, s.arcs.map arcZ⟩

theorem mem_arcZ {s : SpaceL} {a : Int × Int × Int} : a ∈ (toZ s).arcs ↔ ∃ b ∈ s.arcs, a = arcZ b := by
  unfold toZ
  simp only [List.mem_map]
  constructor
  · rintro ⟨b, h1, h2⟩; exact ⟨b, h1, h2.symm⟩
  · rintro ⟨b, h1, h2⟩; exact ⟨b, h1, h2.symm⟩

theorem Whole.sound {n : NetL} {m : List Int} {s : SpaceL} (h : Whole n m s) : ∀ a ∈ s.arcs, a.frm < s.marks.length ∧ a.dst < s.marks.length ∧ a.tran < n.trans.length ∧ fireL n (markAt s.marks a.frm) a.tran = (markAt s.marks a.dst, 0) := by
  obtain ⟨most, k, hF, hk⟩ := h
  intro a ha
  obtain ⟨h1, h2, h3, _, h5⟩ := hF.sound a ha
  exact ⟨h1, h2, h3, h5⟩
theorem Whole.right {n : NetL} {m : List Int} {s : SpaceL} (h : Whole n m s) : rightS (toZ s) = true := by
  refine rightS_iff.2 fun a ha => ?_
  obtain ⟨b, hb, rfl⟩ := mem_arcZ.1 ha
  obtain ⟨h1, h2, _⟩ := h.sound b hb
  simp only [arcZ, toZ]
  omega

/-- One comes by arcs just where a run leads. -/
theorem Whole.comes_run {n : NetL} {m : List Int} {s : SpaceL} (h : Whole n m s) {i : Nat} (hi : i < s.marks.length) {y : Int} (hc : Comes (toZ s) i y) :
    ∃ j : Nat, y = j ∧ j < s.marks.length ∧ ∃ seq, runL n (markAt s.marks i) seq = (markAt s.marks j, 0) := by
  have hfit : ∀ g, g < s.marks.length → fitsL n (markAt s.marks g) = true := by obtain ⟨most, k, hF, hk⟩ := h; exact fun g hg => hF.fits _ (markAt_mem hg)
  have key : ∀ {x y : Int}, Comes (toZ s) x y → x = (i : Int) → ∃ j : Nat, y = j ∧ j < s.marks.length ∧ ∃ seq, runL n (markAt s.marks i) seq = (markAt s.marks j, 0) := by
    intro x y hc
    induction hc using Comes.ind with
    | here => intro e; subst e; exact ⟨i, rfl, hi, [], run_nil.2 ⟨hfit i hi, rfl⟩⟩
    | go h1 h2 ih =>
      intro e
      obtain ⟨j, ej, hj, seq, hs⟩ := ih e
      obtain ⟨b, hb, rfl⟩ := mem_arcZ.1 h2
      obtain ⟨b1, b2, b3, b4⟩ := h.sound b hb
      simp only [arcZ] at ej ⊢
      obtain rfl : b.frm = j := by omega
      refine ⟨b.dst, rfl, b2, seq ++ [(b.tran : Int)], ?_⟩
      rw [run_append, hs]
      simp only [BEq.rfl, if_true]
      exact run_cons.2 ⟨_, b4, run_nil.2 ⟨hfit _ b2, rfl⟩⟩
  exact key hc rfl
theorem Whole.run_comes {n : NetL} {m : List Int} {s : SpaceL} (h : Whole n m s) (seq : List Int) : ∀ {i k : Nat} {z : List Int}, i < s.marks.length → Comes (toZ s) k i → runL n (markAt s.marks i) seq = (z, 0) →
    (∃ j : Nat, j < s.marks.length ∧ z = markAt s.marks j ∧ Comes (toZ s) k j) ∧ ∀ t ∈ seq, ∃ a ∈ s.arcs, (a.tran : Int) = t ∧ Comes (toZ s) k a.frm := by
  induction seq with
  | nil =>
    intro i k z hi hc hr
    obtain ⟨_, rfl⟩ := run_nil.1 hr
    exact ⟨⟨i, hi, rfl, hc⟩, by simp⟩
  | cons t ts ih =>
    intro i k z hi hc hr
    obtain ⟨y, h1, h2⟩ := run_cons.1 hr
    rcases h.fire hi t with h3 | ⟨j, g, rfl, hg, hgl, e⟩
    · rw [h1] at h3; simp at h3
    · rw [e] at h1
      injection h1 with h1 _
      subst h1
      have hc2 : Comes (toZ s) k g := Comes.go (a := arcZ ⟨i, j, g⟩) hc (mem_arcZ.2 ⟨_, hg, rfl⟩)
      obtain ⟨q1, q2⟩ := ih hgl hc2 h2
      refine ⟨q1, fun t' ht' => ?_⟩
      rcases List.mem_cons.1 ht' with q | q
      · exact ⟨_, hg, q.symm, hc⟩
      · exact q2 t' q

/-- From each of the marks all marks are found again, where there is room. -/
theorem Whole.again {n : NetL} {m : List Int} {s : SpaceL} (h : Whole n m s) (hl : s.marks.length < 300) {f : Nat} (hf : f < s.marks.length) : ∃ u, graphL n (markAt s.marks f) 300 = (u, 0) := by
  have hfit : fitsL n (markAt s.marks f) = true := by obtain ⟨most, k, hF, hk⟩ := h; exact hF.fits _ (markAt_mem hf)
  have hok := graphOk_300 hfit
  cases hg : graphTo n (markAt s.marks f) 300 300 with
  | some u => exact ⟨u, by rw [graphL, hok]; simp only [if_true, show (300 : Int).toNat = 300 from rfl]; rw [hg]⟩
  | none =>
    exfalso
    obtain ⟨f', j, s', hj, hF, hf', hn⟩ := graph_broke (by omega) hfit _ hg
    have hin : ∀ g, g < s'.marks.length → ∃ g2, g2 < s.marks.length ∧ markAt s'.marks g = markAt s.marks g2 := by
      intro g
      induction g using Nat.strongRecOn with
      | ind g ih =>
        intro hgl
        by_cases e : g = 0
        · subst e; exact ⟨f, hf, hF.first⟩
        · obtain ⟨a, ha, hlt⟩ := hF.par g (by omega) hgl
          obtain ⟨h1, h2⟩ := firstTo_mem ha
          obtain ⟨q1, q2, q3, q4, q5⟩ := hF.sound a h1
          obtain ⟨g2, hg2, e2⟩ := ih a.frm hlt q1
          rw [e2, h2] at q5
          rcases h.fire hg2 a.tran with r | ⟨_, g3, _, _, hg3, e3⟩
          · rw [q5] at r; simp at r
          · rw [q5] at e3; injection e3 with e3 _; exact ⟨g3, hg3, e3⟩
    have hlen : s'.marks.length ≤ s.marks.length := nodup_sub hF.nodup fun x hx => by
      obtain ⟨g, hgl, rfl⟩ := List.getElem_of_mem hx
      obtain ⟨g2, hg2, e2⟩ := hin g hgl
      have e3 : s'.marks[g] = markAt s'.marks g := by simp [markAt, List.getD_eq_getElem?_getD, List.getElem?_eq_getElem hgl]
      rw [e3, e2]
      exact markAt_mem hg2
    obtain ⟨g2, hg2, e2⟩ := hin f' hf'
    rcases h.fire hg2 j with r | ⟨_, g3, _, _, hg3, e3⟩
    · unfold tryT at hn
      rw [e2, r] at hn
      simp at hn
    · unfold tryT at hn
      rw [e2, e3] at hn
      simp only [show ((0 : Int) == 3) = false from rfl, Bool.false_eq_true, if_false, BEq.rfl, if_true] at hn
      split at hn
      · cases hn
      · rw [if_neg (by omega)] at hn
        cases hn

end Go.Proofs.Ytfaehomopgichaa

/- Plain words for the words of nets: ways along arcs, and what is seen of them. -/
namespace Go.Proofs.Ytfaehomopgichaa
set_option linter.unusedVariables false
set_option maxRecDepth 4000

/-- A way of so many arcs, and what is seen of it; lb tells what is seen of a transition, 0: nothing. -/
def WayN (A : List ArcL) (lb : Nat → Int) : Nat → Nat → List Int → Nat → Prop
  | 0, f, w, d => f = d ∧ w = []
  | k + 1, f, w, d => ∃ a ∈ A, a.frm = f ∧ ∃ u, WayN A lb k a.dst u d ∧ w = (if lb a.tran = 0 then u else lb a.tran :: u)
def Way (A : List ArcL) (lb : Nat → Int) (f : Nat) (w : List Int) (d : Nat) : Prop := ∃ k, WayN A lb k f w d

theorem WayN.cons {A : List ArcL} {lb : Nat → Int} {k d : Nat} {u : List Int} {a : ArcL} (ha : a ∈ A) (h : WayN A lb k a.dst u d) : WayN A lb (k + 1) a.frm (if lb a.tran = 0 then u else lb a.tran :: u) d := ⟨a, ha, rfl, u, h, rfl⟩
theorem WayN.append {A : List ArcL} {lb : Nat → Int} : ∀ {k j f m d : Nat} {u v : List Int}, WayN A lb k f u m → WayN A lb j m v d → WayN A lb (k + j) f (u ++ v) d := by
  intro k
  induction k with
  | zero => intro j f m d u v h1 h2; obtain ⟨rfl, rfl⟩ := h1; rw [Nat.zero_add]; exact h2
  | succ k ih =>
    intro j f m d u v h1 h2
    obtain ⟨a, ha, e, u', h, rfl⟩ := h1
    have h3 := ih h h2
    rw [show k + 1 + j = k + j + 1 by omega]
    refine ⟨a, ha, e, u' ++ v, h3, ?_⟩
    split <;> simp
theorem Way.here {A : List ArcL} {lb : Nat → Int} (f : Nat) : Way A lb f [] f := ⟨0, rfl, rfl⟩
theorem Way.append {A : List ArcL} {lb : Nat → Int} {f m d : Nat} {u v : List Int} (h1 : Way A lb f u m) (h2 : Way A lb m v d) : Way A lb f (u ++ v) d := by
  obtain ⟨k, h1⟩ := h1
  obtain ⟨j, h2⟩ := h2
  exact ⟨_, h1.append h2⟩
theorem Way.arc {A : List ArcL} {lb : Nat → Int} {a : ArcL} (ha : a ∈ A) (h : lb a.tran ≠ 0) : Way A lb a.frm [lb a.tran] a.dst := by
  have := WayN.cons (lb := lb) ha (k := 0) ⟨rfl, rfl⟩
  rw [if_neg h] at this
  exact ⟨_, this⟩
theorem Way.arc0 {A : List ArcL} {lb : Nat → Int} {a : ArcL} (ha : a ∈ A) (h : lb a.tran = 0) : Way A lb a.frm [] a.dst := by
  have := WayN.cons (lb := lb) ha (k := 0) ⟨rfl, rfl⟩
  rw [if_pos h] at this
  exact ⟨_, this⟩

/-- What is closed under arcs without letters has all that is come to without letters. -/
theorem Way.unseen {A : List ArcL} {lb : Nat → Int} {P : Nat → Prop} (hP : ∀ a ∈ A, lb a.tran = 0 → P a.frm → P a.dst) : ∀ {f d : Nat}, Way A lb f [] d → P f → P d := by
  rintro f d ⟨k, h⟩
  induction k generalizing f with
  | zero => intro hf; obtain ⟨rfl, _⟩ := h; exact hf
  | succ k ih =>
    intro hf
    obtain ⟨a, ha, e, u, h1, h2⟩ := h
    by_cases h0 : lb a.tran = 0
    · rw [if_pos h0] at h2
      subst h2
      exact ih h1 (hP a ha h0 (by rw [e]; exact hf))
    · rw [if_neg h0] at h2
      cases h2
theorem Way.unseenB {A : List ArcL} {lb : Nat → Int} {P : Nat → Prop} (hP : ∀ a ∈ A, lb a.tran = 0 → P a.dst → P a.frm) : ∀ {f d : Nat}, Way A lb f [] d → P d → P f := by
  rintro f d ⟨k, h⟩
  induction k generalizing f with
  | zero => intro hf; obtain ⟨rfl, _⟩ := h; exact hf
  | succ k ih =>
    intro hd
    obtain ⟨a, ha, e, u, h1, h2⟩ := h
    by_cases h0 : lb a.tran = 0
    · rw [if_pos h0] at h2
      subst h2
      rw [← e]
      exact hP a ha h0 (ih h1 hd)
    · rw [if_neg h0] at h2
      cases h2

/-- The first letter. -/
theorem Way.first {A : List ArcL} {lb : Nat → Int} {f d : Nat} {l : Int} {w : List Int} (h : Way A lb f (l :: w) d) : ∃ a ∈ A, Way A lb f [] a.frm ∧ lb a.tran = l ∧ l ≠ 0 ∧ Way A lb a.dst w d := by
  obtain ⟨k, h⟩ := h
  induction k generalizing f with
  | zero => obtain ⟨_, h⟩ := h; cases h
  | succ k ih =>
    obtain ⟨a, ha, rfl, u, h1, h2⟩ := h
    by_cases h0 : lb a.tran = 0
    · rw [if_pos h0] at h2
      subst h2
      obtain ⟨b, hb, q1, q2, q3, q4⟩ := ih h1
      exact ⟨b, hb, (Way.arc0 ha h0).append q1, q2, q3, q4⟩
    · rw [if_neg h0] at h2
      injection h2 with h2 h3
      subst h3
      exact ⟨a, ha, Way.here _, h2.symm, by rw [h2]; exact h0, ⟨k, h1⟩⟩

theorem Way.split {A : List ArcL} {lb : Nat → Int} : ∀ {u v : List Int} {f d : Nat}, Way A lb f (u ++ v) d → ∃ m, Way A lb f u m ∧ Way A lb m v d := by
  intro u
  induction u with
  | nil => intro v f d h; exact ⟨f, Way.here _, h⟩
  | cons l u ih =>
    intro v f d h
    obtain ⟨a, ha, h1, h2, h0, h3⟩ := Way.first (w := u ++ v) h
    obtain ⟨m, h4, h5⟩ := ih h3
    have := h1.append ((Way.arc (lb := lb) ha (by rw [h2]; exact h0)).append h4)
    rw [h2] at this
    exact ⟨m, this, h5⟩

/-- The last letter. -/
theorem Way.last {A : List ArcL} {lb : Nat → Int} {f d : Nat} {l : Int} {w : List Int} : Way A lb f (w ++ [l]) d ↔ ∃ a ∈ A, Way A lb f w a.frm ∧ lb a.tran = l ∧ l ≠ 0 ∧ Way A lb a.dst [] d := by
  constructor
  · intro h
    obtain ⟨m, h1, h2⟩ := h.split
    obtain ⟨a, ha, h3, h4, h5, h6⟩ := h2.first
    refine ⟨a, ha, ?_, h4, h5, h6⟩
    have := h1.append h3
    rwa [List.append_nil] at this
  · rintro ⟨a, ha, h1, h2, h3, h4⟩
    have := h1.append ((Way.arc (lb := lb) ha (by rw [h2]; exact h3)).append h4)
    rwa [h2] at this

theorem Way.end_lt {A : List ArcL} {lb : Nat → Int} {N f d : Nat} {w : List Int} (hA : ∀ a ∈ A, a.dst < N) (hf : f < N) (h : Way A lb f w d) : d < N := by
  obtain ⟨k, h⟩ := h
  induction k generalizing f w with
  | zero => obtain ⟨rfl, _⟩ := h; exact hf
  | succ k ih => obtain ⟨a, ha, e, u, h1, h2⟩ := h; exact ih (hA a ha) h1

/-! ### the shortest ones -/
theorem least_of {P : Nat → Prop} (h : ∃ n, P n) : ∃ n, P n ∧ ∀ m, P m → n ≤ m := by
  obtain ⟨n, hn⟩ := h
  induction n using Nat.strongRecOn with
  | ind n ih =>
    by_cases hm : ∃ m, m < n ∧ P m
    · obtain ⟨m, h1, h2⟩ := hm; exact ih m h1 h2
    · exact ⟨n, hn, fun m hP => Nat.le_of_not_lt fun h => hm ⟨m, h, hP⟩⟩

/-- So many letters, and among these so many arcs: no way to the end has less. -/
def Best (A : List ArcL) (lb : Nat → Int) (E : Nat → Prop) (f L k : Nat) : Prop :=
  (∃ w e, E e ∧ w.length = L ∧ WayN A lb k f w e) ∧ (∀ w e, E e → Way A lb f w e → L ≤ w.length) ∧ ∀ j w e, E e → w.length = L → WayN A lb j f w e → k ≤ j

theorem best_of {A : List ArcL} {lb : Nat → Int} {E : Nat → Prop} {f e : Nat} {w : List Int} (hE : E e) (h : Way A lb f w e) : ∃ L k, Best A lb E f L k := by
  obtain ⟨L, ⟨w1, e1, hE1, hL, h1⟩, hmin⟩ := least_of (P := fun L => ∃ w e, E e ∧ w.length = L ∧ Way A lb f w e) ⟨_, w, e, hE, rfl, h⟩
  obtain ⟨j1, h1⟩ := h1
  obtain ⟨k, ⟨w2, e2, hE2, hL2, h2⟩, hmin2⟩ := least_of (P := fun k => ∃ w e, E e ∧ w.length = L ∧ WayN A lb k f w e) ⟨_, w1, e1, hE1, hL, h1⟩
  exact ⟨L, k, ⟨w2, e2, hE2, hL2, h2⟩, fun w' e' hE' h' => hmin _ ⟨w', e', hE', rfl, h'⟩, fun j w' e' hE' hl h' => hmin2 j ⟨w', e', hE', hl, h'⟩⟩
theorem Best.one {A : List ArcL} {lb : Nat → Int} {E : Nat → Prop} {f L k L' k' : Nat} (h : Best A lb E f L k) (h' : Best A lb E f L' k') : L = L' ∧ k = k' := by
  obtain ⟨⟨w, e, hE, hL, h1⟩, h2, h3⟩ := h
  obtain ⟨⟨w', e', hE', hL', h1'⟩, h2', h3'⟩ := h'
  have a1 := h2 w' e' hE' ⟨_, h1'⟩
  have a2 := h2' w e hE ⟨_, h1⟩
  have e0 : L = L' := by omega
  subst e0
  have a3 := h3 _ w' e' hE' hL' h1'
  have a4 := h3' _ w e hE hL h1
  exact ⟨rfl, by omega⟩
theorem Best.down {A : List ArcL} {lb : Nat → Int} {E : Nat → Prop} {f L k : Nat} (h : Best A lb E f L (k + 1)) : ∃ a ∈ A, a.frm = f ∧ ∃ L', Best A lb E a.dst L' k := by
  obtain ⟨⟨w, e, hE, hL, a, ha, hf, u, h1, h2⟩, h3, h4⟩ := h
  obtain ⟨L', k', hB⟩ := best_of (f := a.dst) hE ⟨_, h1⟩
  refine ⟨a, ha, hf, L', ?_⟩
  obtain ⟨⟨w', e', hE', hL', q1⟩, q2, q3⟩ := hB
  have c1 := WayN.cons (lb := lb) ha q1
  rw [hf] at c1
  have c2 := h3 _ e' hE' ⟨_, c1⟩
  have c3 := q2 u e hE ⟨_, h1⟩
  have hul : u.length = L' ∧ (if lb a.tran = 0 then w' else lb a.tran :: w').length = L := by
    subst h2
    by_cases h0 : lb a.tran = 0
    · simp only [if_pos h0] at hL c2 ⊢; exact ⟨by omega, by omega⟩
    · simp only [if_neg h0, List.length_cons] at hL c2 ⊢; exact ⟨by omega, by omega⟩
  have c4 := h4 _ _ e' hE' hul.2 c1
  have c5 := q3 _ u e hE hul.1 h1
  obtain rfl : k = k' := by omega
  exact ⟨⟨w', e', hE', hL', q1⟩, q2, q3⟩

theorem nodup_nat {l1 : List Nat} : ∀ {l2 : List Nat}, l1.Nodup → (∀ x ∈ l1, x ∈ l2) → l1.length ≤ l2.length := by
  induction l1 with
  | nil => intro l2 _ _; exact Nat.zero_le _
  | cons x l1 ih =>
    intro l2 hn hs
    obtain ⟨h1, h2⟩ := List.nodup_cons.1 hn
    have := ih (l2 := l2.erase x) h2 fun y hy => (List.mem_erase_of_ne (fun e => h1 (by rw [← e]; exact hy))).2 (hs y (by simp [hy]))
    rw [List.length_erase_of_mem (hs x (by simp))] at this
    have h0 : 0 < l2.length := List.length_pos_of_mem (hs x (by simp))
    simp only [List.length_cons]
    omega

/-- As many marks as a best way has arcs lie ahead, each at another distance. -/
theorem Best.marks {A : List ArcL} {lb : Nat → Int} {E : Nat → Prop} {N : Nat} (hA : ∀ a ∈ A, a.dst < N) : ∀ {k f L : Nat}, f < N → Best A lb E f L k → ∃ l : List Nat, l.length = k + 1 ∧ l.Nodup ∧ ∀ x ∈ l, x < N ∧ ∃ L' j, j ≤ k ∧ Best A lb E x L' j := by
  intro k
  induction k with
  | zero => intro f L hf h; exact ⟨[f], rfl, by simp, fun x hx => by rw [List.mem_singleton.1 hx]; exact ⟨hf, L, 0, Nat.le_refl _, h⟩⟩
  | succ k ih =>
    intro f L hf h
    obtain ⟨a, ha, e, L', h'⟩ := h.down
    obtain ⟨l, h1, h2, h3⟩ := ih (hA a ha) h'
    refine ⟨f :: l, by simp [h1], List.nodup_cons.2 ⟨fun hm => ?_, h2⟩, fun x hx => ?_⟩
    · obtain ⟨_, L2, j, hj, hb⟩ := h3 f hm
      have := (hb.one h).2
      omega
    · rcases List.mem_cons.1 hx with rfl | hx
      · exact ⟨hf, L, k + 1, Nat.le_refl _, h⟩
      · obtain ⟨q1, L2, j, hj, hb⟩ := h3 x hx
        exact ⟨q1, L2, j, by omega, hb⟩
theorem Best.few {A : List ArcL} {lb : Nat → Int} {E : Nat → Prop} {N k f L : Nat} (hA : ∀ a ∈ A, a.dst < N) (hf : f < N) (h : Best A lb E f L k) : k < N := by
  obtain ⟨l, h1, h2, h3⟩ := h.marks hA hf
  have := nodup_nat (l2 := List.range N) h2 fun x hx => List.mem_range.2 (h3 x hx).1
  rw [List.length_range] at this
  omega
theorem WayN.len {A : List ArcL} {lb : Nat → Int} : ∀ {k f d : Nat} {w : List Int}, WayN A lb k f w d → w.length ≤ k := by
  intro k
  induction k with
  | zero => intro f d w h; rw [h.2]; simp
  | succ k ih =>
    intro f d w h
    obtain ⟨a, ha, e, u, h1, rfl⟩ := h
    have := ih h1
    split <;> simp <;> omega
theorem Best.short {A : List ArcL} {lb : Nat → Int} {E : Nat → Prop} {N k f L : Nat} (hA : ∀ a ∈ A, a.dst < N) (hf : f < N) (h : Best A lb E f L k) : L < N := by
  have h1 := h.few hA hf
  obtain ⟨⟨w, e, hE, hL, h2⟩, _⟩ := h
  have := h2.len
  omega

/-! ### the words of a net -/
def labT (n : NetL) (t : Nat) : Int := (tranAt n.trans t).label
def seenL (n : NetL) : List Int → List Int
  | [] => []
  | t :: ts => if labT n t.toNat = 0 then seenL n ts else labT n t.toNat :: seenL n ts
/-- Is it a word from mark to mark? -/
def WordN (n : NetL) (S E w : List Int) : Prop := ∃ seq, runL n S seq = (E, 0) ∧ seenL n seq = w
/-- Is it a word from a mark's number to the end? -/
def ToEnd (n : NetL) (s : SpaceL) (E : List Int) (f : Nat) (w : List Int) : Prop := ∃ e, e < s.marks.length ∧ markAt s.marks e = E ∧ Way s.arcs (labT n) f w e

theorem Whole.way_run {n : NetL} {m : List Int} {s : SpaceL} (h : Whole n m s) : ∀ {k f d : Nat} {w : List Int}, f < s.marks.length → WayN s.arcs (labT n) k f w d → d < s.marks.length ∧ ∃ seq, runL n (markAt s.marks f) seq = (markAt s.marks d, 0) ∧ seenL n seq = w := by
  have hfit : ∀ g, g < s.marks.length → fitsL n (markAt s.marks g) = true := by obtain ⟨most, k, hF, hk⟩ := h; exact fun g hg => hF.fits _ (markAt_mem hg)
  intro k
  induction k with
  | zero => intro f d w hf hw; obtain ⟨rfl, rfl⟩ := hw; exact ⟨hf, [], run_nil.2 ⟨hfit f hf, rfl⟩, rfl⟩
  | succ k ih =>
    intro f d w hf hw
    obtain ⟨a, ha, rfl, u, h1, rfl⟩ := hw
    obtain ⟨b1, b2, b3, b4⟩ := h.sound a ha
    obtain ⟨hd, seq, q1, q2⟩ := ih b2 h1
    exact ⟨hd, (a.tran : Int) :: seq, run_cons.2 ⟨_, b4, q1⟩, by simp only [seenL, Int.toNat_natCast, q2]⟩
theorem Whole.run_way {n : NetL} {m : List Int} {s : SpaceL} (h : Whole n m s) : ∀ (seq : List Int) {f : Nat} {z : List Int}, f < s.marks.length → runL n (markAt s.marks f) seq = (z, 0) → ∃ d, d < s.marks.length ∧ markAt s.marks d = z ∧ Way s.arcs (labT n) f (seenL n seq) d := by
  intro seq
  induction seq with
  | nil => intro f z hf hr; obtain ⟨_, rfl⟩ := run_nil.1 hr; exact ⟨f, hf, rfl, Way.here _⟩
  | cons t ts ih =>
    intro f z hf hr
    obtain ⟨y, h1, h2⟩ := run_cons.1 hr
    rcases h.fire hf t with h3 | ⟨j, g, rfl, hg, hgl, e⟩
    · rw [h1] at h3; simp at h3
    · rw [e] at h1
      injection h1 with h1 _
      subst h1
      obtain ⟨d, hd, hz, k, hk⟩ := ih hgl h2
      have := WayN.cons (lb := labT n) hg hk
      exact ⟨d, hd, hz, _, by simpa only [seenL, Int.toNat_natCast] using this⟩
theorem Whole.word {n : NetL} {S E w : List Int} {s : SpaceL} (h : Whole n S s) : WordN n S E w ↔ ToEnd n s E 0 w := by
  obtain ⟨h0, h1⟩ := h.here
  constructor
  · rintro ⟨seq, hr, rfl⟩
    rw [← h1] at hr
    obtain ⟨d, hd, hz, hw⟩ := h.run_way seq h0 hr
    exact ⟨d, hd, hz, hw⟩
  · rintro ⟨e, he, rfl, k, hw⟩
    obtain ⟨_, seq, q1, q2⟩ := h.way_run h0 hw
    rw [h1] at q1
    exact ⟨seq, q1, q2⟩

end Go.Proofs.Ytfaehomopgichaa

/- What is replayed, plainly: where nothing lacks it is a run; where nothing lacks, and nothing is left, a word. -/
namespace Go.Proofs.Ytfaehomopgichaa
set_option linter.unusedVariables false
set_option maxRecDepth 4000

theorem list_ext_nth {xs ys : List Int} (hl : xs.length = ys.length) (h : ∀ p, nth xs p = nth ys p) : xs = ys := by
  refine List.ext_getElem hl fun i h1 h2 => ?_
  have := h i
  simpa [nth, List.getD, List.getElem?_eq_getElem h1, List.getElem?_eq_getElem h2] using this

structure MarkG (P : Nat) (g : GameL) (m : List Int) : Prop where
  len : m.length = P
  eq : ∀ p, nth m p = g.there p

/-- The transitions of a trace. -/
def idxOf (n : NetL) (l : Int) : Int := match labIdx n l with | none => -1 | some k => k
def idxs (n : NetL) (tr : List Int) : List Int := tr.map (idxOf n)

theorem step_lack (g : GameL) (t u : List Int) : (putG (takeG g t) u).pl.lacked = g.pl.lacked + sumTo (lackG g.there t) t.length := rfl
theorem sum_none {f : Nat → Int} {k : Nat} (h0 : ∀ p, 0 ≤ f p) (h : sumTo f k = 0) (p : Nat) (hp : p < k) : f p = 0 := by
  have := sumTo_one (f := f) (i := p) (k := k) (fun j _ => h0 j) hp
  have := h0 p
  omega

theorem fire_game {n : NetL} {P k j : Nat} {g : GameL} {m : List Int} (hn : netOk n = true) (hP : n.places = P) (hP2 : P ≤ 16) (hb : BndG P k g) (hk : k ≤ 1000) (hm : MarkG P g m) (hj : j < n.trans.length)
    (hl : sumTo (lackG g.there (tranAt n.trans j).pre) (tranAt n.trans j).pre.length = 0) :
    ∃ m', fireL n m j = (m', 0) ∧ MarkG P (putG (takeG g (tranAt n.trans j).pre) (tranAt n.trans j).post) m' := by
  obtain ⟨t1, t2⟩ := tok_of_tran hn hP hj
  have h0 : ∀ p, lackG g.there (tranAt n.trans j).pre p = 0 := by
    intro p
    by_cases hp : p < (tranAt n.trans j).pre.length
    · exact sum_none (fun p => lack0 _ _ p) hl p hp
    · unfold lackG; rw [nth_past _ _ (by omega)]; have := hb.there0 p; omega
  have hr : rightL m = true := (rightL_iff _).2 fun p => by rw [hm.eq]; have := hb.there0 p; have := hb.there1 p; omega
  have hf : fitsL n m = true := fits_mk hn (by rw [hm.len, hP]) hr
  have hc : coversL m (tranAt n.trans j).pre = true := (coversL_iff _ _).2 fun p => by have := h0 p; rw [hm.eq]; unfold lackG at this; omega
  have e : ∀ p, nth (addL (subL m (tranAt n.trans j).pre) (tranAt n.trans j).post) p = (putG (takeG g (tranAt n.trans j).pre) (tranAt n.trans j).post).there p := by
    intro p
    rw [add_at, sub_at, putG_there, takeG_there t1.len hb.there0, h0, hm.eq]
    omega
  have hb2 := (hb.take hP2 t1).put hP2 t2
  have hr2 : rightL (addL (subL m (tranAt n.trans j).pre) (tranAt n.trans j).post) = true := (rightL_iff _).2 fun p => by rw [e]; have := hb2.there0 p; have := hb2.there1 p; omega
  exact ⟨_, fire_mk hj hf hc hr2, by rw [add_length, sub_length, hm.len, t1.len, t2.len]; omega, e⟩
theorem lack_game {n : NetL} {P k j : Nat} {g : GameL} {m m' : List Int} (hm : MarkG P g m) (hf : fireL n m j = (m', 0)) : sumTo (lackG g.there (tranAt n.trans j).pre) (tranAt n.trans j).pre.length = 0 := by
  obtain ⟨k', e, hk, _, hc, _⟩ := fire_ok hf
  obtain rfl : j = k' := by omega
  refine sumTo_zero fun p _ => ?_
  have := (coversL_iff _ _).1 hc p
  rw [hm.eq] at this
  unfold lackG
  omega

theorem game_run {n : NetL} {P : Nat} (hn : netOk n = true) (hP : n.places = P) (hP2 : P ≤ 16) (hN : NamedN n) : ∀ (tr : List Int) {k : Nat} {g g' : GameL} {m : List Int}, BndG P k g → k + 2 * tr.length ≤ 1000 → MarkG P g m →
    gameL n tr g = some g' → g'.pl.lacked = g.pl.lacked → ∃ m', runL n m (idxs n tr) = (m', 0) ∧ MarkG P g' m' ∧ seenL n (idxs n tr) = tr := by
  intro tr
  induction tr with
  | nil =>
    intro k g g' m hb hk hm e hl
    cases e
    have hr : rightL m = true := (rightL_iff _).2 fun p => by rw [hm.eq]; have := hb.there0 p; have := hb.there1 p; omega
    exact ⟨m, run_nil.2 ⟨fits_mk hn (by rw [hm.len, hP]) hr, rfl⟩, hm, rfl⟩
  | cons l ls ih =>
    intro k g g' m hb hk hm e hl
    simp only [gameL] at e
    cases hq : labIdx n l with
    | none => rw [hq] at e; cases e
    | some j =>
      rw [hq] at e
      obtain ⟨hj, hlab⟩ := labIdx_some hq
      obtain ⟨t1, t2⟩ := tok_of_tran hn hP hj
      have a1 := (game_grows hn hP ls e).2
      rw [step_lack] at a1
      have a2 := lack_sum0 g.there (tranAt n.trans j).pre (tranAt n.trans j).pre.length
      rw [List.length_cons] at hk
      obtain ⟨m1, h1, h2⟩ := fire_game hn hP hP2 hb (by omega) hm hj (by omega)
      obtain ⟨m', h3, h4, h5⟩ := ih ((hb.take hP2 t1).put hP2 t2) (by omega) h2 e (by rw [step_lack]; omega)
      have ei : idxs n (l :: ls) = (j : Int) :: idxs n ls := by simp only [idxs, List.map_cons, idxOf, hq]
      refine ⟨m', ?_, h4, ?_⟩
      · rw [ei]; exact run_cons.2 ⟨m1, h1, h3⟩
      · rw [ei]
        have e2 : labT n ((j : Nat) : Int).toNat = l := by rw [Int.toNat_natCast]; exact hlab
        simp only [seenL, e2, h5]
        rw [if_neg (by rw [← hlab]; exact (hN j hj).1)]
theorem run_game {n : NetL} {P : Nat} (hn : netOk n = true) (hP : n.places = P) (hP2 : P ≤ 16) (hN : NamedN n) : ∀ (seq : List Int) {k : Nat} {g : GameL} {m m' : List Int}, BndG P k g → MarkG P g m →
    runL n m seq = (m', 0) → ∃ g', gameL n (seenL n seq) g = some g' ∧ MarkG P g' m' ∧ g'.pl.lacked = g.pl.lacked := by
  intro seq
  induction seq with
  | nil => intro k g m m' hb hm h; obtain ⟨_, rfl⟩ := run_nil.1 h; exact ⟨g, rfl, hm, rfl⟩
  | cons t ts ih =>
    intro k g m m' hb hm h
    obtain ⟨m1, h1, h2⟩ := run_cons.1 h
    obtain ⟨j, rfl, hj, hf, hc, hr, hm1⟩ := fire_ok h1
    obtain ⟨t1, t2⟩ := tok_of_tran hn hP hj
    have hl := lack_game (k := k) hm h1
    have h0 : ∀ p, lackG g.there (tranAt n.trans j).pre p = 0 := by
      intro p
      by_cases hp : p < (tranAt n.trans j).pre.length
      · exact sum_none (fun p => lack0 _ _ p) hl p hp
      · unfold lackG; rw [nth_past _ _ (by omega)]; have := hb.there0 p; omega
    have h3 : MarkG P (putG (takeG g (tranAt n.trans j).pre) (tranAt n.trans j).post) m1 := by
      subst hm1
      refine ⟨by rw [add_length, sub_length, hm.len, t1.len, t2.len]; omega, fun p => ?_⟩
      rw [add_at, sub_at, putG_there, takeG_there t1.len hb.there0, h0, hm.eq]
      omega
    obtain ⟨g', q1, q2, q3⟩ := ih ((hb.take hP2 t1).put hP2 t2) h3 h2
    refine ⟨g', ?_, q2, ?_⟩
    · have e2 : labT n ((j : Nat) : Int).toNat = (tranAt n.trans j).label := by rw [Int.toNat_natCast]; rfl
      simp only [seenL, e2]
      rw [if_neg (hN j hj).1]
      simp only [gameL, labIdx_of hN hj]
      exact q1
    · rw [q3, step_lack, hl]; omega

theorem begun_mark {n : NetL} {P : Nat} (hP : n.places = P) (hP2 : P ≤ 16) (i : Int) : MarkG P (begunG n i) (startL n.places i) :=
  ⟨by rw [start_length, hP]; omega, fun p => by unfold begunG; rw [putG_there]; show _ = 0 + _; omega⟩

/-- Where nothing lacks it is a run. -/
theorem Replayed.run {n : NetL} {i o : Int} {tr : List Int} {r : PlayL} (h : Replayed n i o tr r 0) (hl : r.lacked = 0) :
    ∃ x P, n.places = (P : Nat) ∧ runL n (startL n.places i) (idxs n tr) = (x, 0) ∧ seenL n (idxs n tr) = tr ∧ x.length = P ∧ sumTo (nth x) P = r.left + 1 ∧ 0 < nth x o.toNat ∧ (r.left = 0 → x = startL n.places o) := by
  obtain ⟨hs, hn, hlen, g, hg, rfl⟩ := h.zero
  obtain ⟨P, hP, hP0, hP1⟩ := shape_places hs
  have hb0 := begun_bnd hP hP1 i
  have hb := BndG.game hs.ok hP hP1 tr hb0 hg
  have ht : Toks P (startL n.places o) := by rw [hP]; exact tok_of_start hP1 o
  have hb2 := hb.take hP1 ht
  have g1 := (game_grows hs.ok hP tr hg).2
  have e0 : (begunG n i).pl.lacked = 0 := rfl
  have e1 : (takeG g (startL n.places o)).pl.lacked = g.pl.lacked + sumTo (lackG g.there (startL n.places o)) (startL n.places o).length := rfl
  rw [ht.len] at e1
  have a1 := lack_sum0 g.there (startL n.places o) P
  obtain ⟨x, h1, h2, h3⟩ := game_run hs.ok hP hP1 hn tr hb0 (by omega) (begun_mark hP hP1 i) hg (by omega)
  have h00 : sumTo (lackG g.there (startL n.places o)) P = 0 := by omega
  have h0 : ∀ p, p < P → lackG g.there (startL n.places o) p = 0 := fun p hp => sum_none (fun p => lack0 _ _ p) h00 p hp
  obtain ⟨o', ho⟩ := Int.eq_ofNat_of_zero_le hs.o0
  have h4 := hs.o1
  have s2 := start_sum hP1 (i := o') (by omega)
  have e2 : sumTo (fun p => lackG g.there (startL n.places o) p - nth (startL n.places o) p) P = -1 := by
    rw [sumTo_sub, sumTo_zero h0, hP, ho, s2]; rfl
  have e3 : (takeG g (startL n.places o)).pl.left = g.pl.left + sumTo (fun p => lackG g.there (startL n.places o) p - nth (startL n.places o) p) (startL n.places o).length := rfl
  rw [ht.len, e2] at e3
  have hl' := hl
  have e4 : sumTo (nth x) P = g.pl.left := by rw [hb.left]; exact sumTo_congr fun j _ => h2.eq j
  refine ⟨x, P, hP, h1, h3, h2.len, by omega, ?_, fun hl0 => ?_⟩
  · have := h0 o' (by omega)
    unfold lackG at this
    rw [hP, ho, start_at _ _ _ (by omega), if_pos rfl] at this
    rw [h2.eq, ho, Int.toNat_natCast]
    omega
  · refine list_ext_nth (by rw [h2.len, ht.len]) fun p => ?_
    by_cases hp : p < P
    · rw [hb2.left] at hl0
      have q1 := sum_none hb2.there0 hl0 p hp
      rw [takeG_there ht.len hb.there0, h0 p hp, ← h2.eq] at q1
      omega
    · rw [nth_past _ _ (by rw [h2.len]; omega), nth_past _ _ (by rw [ht.len]; omega)]

/-- A trace fits, if, and only if, nothing lacks, and nothing is left. -/
theorem Replayed.fits {n : NetL} {i o : Int} {tr : List Int} {r : PlayL} (h : Replayed n i o tr r 0) : WordN n (startL n.places i) (startL n.places o) tr ↔ r.lacked = 0 ∧ r.left = 0 := by
  constructor
  · rintro ⟨seq, h1, rfl⟩
    obtain ⟨hs, hn, hlen, g, hg, rfl⟩ := h.zero
    obtain ⟨P, hP, hP0, hP1⟩ := shape_places hs
    have hb0 := begun_bnd hP hP1 i
    obtain ⟨g', q1, q2, q3⟩ := run_game hs.ok hP hP1 hn seq hb0 (begun_mark hP hP1 i) h1
    rw [hg] at q1
    cases q1
    have hb := BndG.game hs.ok hP hP1 _ hb0 hg
    have ht : Toks P (startL n.places o) := by rw [hP]; exact tok_of_start hP1 o
    have h0 : ∀ p, lackG g.there (startL n.places o) p = 0 := fun p => by unfold lackG; rw [q2.eq]; omega
    have e0 : (begunG n i).pl.lacked = 0 := rfl
    have e1 : (takeG g (startL n.places o)).pl.lacked = g.pl.lacked + sumTo (lackG g.there (startL n.places o)) (startL n.places o).length := rfl
    rw [sumTo_zero fun p _ => h0 p] at e1
    have e3 : (takeG g (startL n.places o)).pl.left = g.pl.left + sumTo (fun p => lackG g.there (startL n.places o) p - nth (startL n.places o) p) (startL n.places o).length := rfl
    rw [ht.len, sumTo_sub, sumTo_zero fun p _ => h0 p, hb.left, sumTo_congr fun j _ => (q2.eq j).symm] at e3
    exact ⟨by omega, by omega⟩
  · rintro ⟨h1, h2⟩
    obtain ⟨x, P, hP, q1, q2, q3, q4, q5, q6⟩ := h.run h1
    rw [q6 h2] at q1
    exact ⟨_, q1, q2⟩

end Go.Proofs.Ytfaehomopgichaa
