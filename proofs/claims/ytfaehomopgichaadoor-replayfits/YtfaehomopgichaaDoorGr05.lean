import Derived.Test.YtfaehomopgichaaDoorGr04
import Derived.Test.YtfaehomopgichaaDoorGr00
import Derived.Maps.AppendAt
import Derived.Test.YtfaehomopgichaaDoorGr01
import Derived.Test.YtfaehomopgichaaDoorGr03
/- Plain words for a trace that is replayed: what lacks, and what is left. -/
namespace Go.Proofs.YtfaehomopgichaaDoor
set_option linter.unusedVariables false
set_option maxRecDepth 4000

/-- What is told of a replay. -/
structure PlayL where
  put : Int
  taken : Int
  lacked : Int
  left : Int
def noPlay : PlayL := ⟨0, 0, 0, 0⟩

/-- A replay that goes on: what is told, and what is there. -/
structure GameL where
  pl : PlayL
  there : Nat → Int

/-- What lacks at a place. -/
def lackG (g : Nat → Int) (t : List Int) (p : Nat) : Int := max (nth t p - g p) 0

/-- The first k places of tokens are put. -/
def putTo (g : GameL) (t : List Int) (k : Nat) : GameL :=
  ⟨⟨g.pl.put + sumTo (nth t) k, g.pl.taken, g.pl.lacked, g.pl.left + sumTo (nth t) k⟩, fun p => if p < k then g.there p + nth t p else g.there p⟩
def takeTo (g : GameL) (t : List Int) (k : Nat) : GameL :=
  ⟨⟨g.pl.put, g.pl.taken + sumTo (nth t) k, g.pl.lacked + sumTo (lackG g.there t) k, g.pl.left + sumTo (fun p => lackG g.there t p - nth t p) k⟩, fun p => if p < k then g.there p + (lackG g.there t p - nth t p) else g.there p⟩
def putG (g : GameL) (t : List Int) : GameL := putTo g t t.length
def takeG (g : GameL) (t : List Int) : GameL := takeTo g t t.length

def hasLab (l : Int) (t : TranL) : Bool := t.label == l
/-- Which transition has that label. -/
def labIdx (n : NetL) (l : Int) : Option Nat := n.trans.findIdx? (hasLab l)
/-- All labels of a trace, in turn. -/
def gameL (n : NetL) : List Int → GameL → Option GameL
  | [], g => some g
  | l :: ls, g => match labIdx n l with
    | none => none
    | some k => gameL n ls (putG (takeG g (tranAt n.trans k).pre) (tranAt n.trans k).post)
/-- Each transition has a label of its own. -/
def NamedN (n : NetL) : Prop := ∀ k, k < n.trans.length → (tranAt n.trans k).label ≠ 0 ∧ ∀ j, j < k → (tranAt n.trans j).label ≠ (tranAt n.trans k).label
def begunG (n : NetL) (i : Int) : GameL := putG ⟨noPlay, fun _ => 0⟩ (startL n.places i)

/-- What is answered. -/
structure Replayed (n : NetL) (i o : Int) (tr : List Int) (r : PlayL) (e : Int) : Prop where
  bad : ∀ d, Judged n i o d → d ≠ 0 → r = noPlay ∧ e = d
  form : ShapeOk n i o → ¬ NamedN n → r = noPlay ∧ e = 1
  many : ShapeOk n i o → NamedN n → 60 < tr.length → r = noPlay ∧ e = 2
  none : ShapeOk n i o → NamedN n → tr.length ≤ 60 → gameL n tr (begunG n i) = .none → r = noPlay ∧ e = 3
  ok : ShapeOk n i o → NamedN n → tr.length ≤ 60 → ∀ g, gameL n tr (begunG n i) = some g → r = (takeG g (startL n.places o)).pl ∧ e = 0

theorem judged_ex (n : NetL) (i o : Int) : ∃ d, Judged n i o d := by
  cases hn : netOk n with
  | false => exact ⟨2, Judged.of_bad hn⟩
  | true =>
    by_cases hs : ShapeOk n i o
    · exact ⟨0, Judged.of_right hs⟩
    · exact ⟨1, Judged.of_form hn hs⟩

theorem Replayed.unique {n : NetL} {i o : Int} {tr : List Int} {r s : PlayL} {e f : Int} (h : Replayed n i o tr r e) (k : Replayed n i o tr s f) : r = s ∧ e = f := by
  obtain ⟨d, hd⟩ := judged_ex n i o
  by_cases h0 : d = 0
  · subst h0
    have hs := hd.zero
    by_cases hn : NamedN n
    · by_cases hl : 60 < tr.length
      · obtain ⟨rfl, rfl⟩ := h.many hs hn hl; obtain ⟨rfl, rfl⟩ := k.many hs hn hl; exact ⟨rfl, rfl⟩
      · cases hg : gameL n tr (begunG n i) with
        | none => obtain ⟨rfl, rfl⟩ := h.none hs hn (by omega) hg; obtain ⟨rfl, rfl⟩ := k.none hs hn (by omega) hg; exact ⟨rfl, rfl⟩
        | some g => obtain ⟨rfl, rfl⟩ := h.ok hs hn (by omega) g hg; obtain ⟨rfl, rfl⟩ := k.ok hs hn (by omega) g hg; exact ⟨rfl, rfl⟩
    · obtain ⟨rfl, rfl⟩ := h.form hs hn; obtain ⟨rfl, rfl⟩ := k.form hs hn; exact ⟨rfl, rfl⟩
  · obtain ⟨r1, e1⟩ := h.bad d hd h0; obtain ⟨r2, e2⟩ := k.bad d hd h0; exact ⟨r1.trans r2.symm, e1.trans e2.symm⟩

theorem Replayed.of_bad {n : NetL} {i o d : Int} {tr : List Int} (h : Judged n i o d) (h0 : d ≠ 0) : Replayed n i o tr noPlay d :=
  ⟨fun d' hd' _ => ⟨rfl, h.unique hd'⟩, fun hs => absurd hs (h.not_zero h0), fun hs => absurd hs (h.not_zero h0), fun hs => absurd hs (h.not_zero h0), fun hs => absurd hs (h.not_zero h0)⟩
theorem Replayed.of_form {n : NetL} {i o : Int} {tr : List Int} (hs : ShapeOk n i o) (hn : ¬ NamedN n) : Replayed n i o tr noPlay 1 :=
  ⟨fun d hd h0 => absurd hs (hd.not_zero h0), fun _ _ => ⟨rfl, rfl⟩, fun _ h => absurd h hn, fun _ h => absurd h hn, fun _ h => absurd h hn⟩
theorem Replayed.of_many {n : NetL} {i o : Int} {tr : List Int} (hs : ShapeOk n i o) (hn : NamedN n) (hl : 60 < tr.length) : Replayed n i o tr noPlay 2 :=
  ⟨fun d hd h0 => absurd hs (hd.not_zero h0), fun _ h => absurd hn h, fun _ _ _ => ⟨rfl, rfl⟩, fun _ _ h => absurd h (by omega), fun _ _ h => absurd h (by omega)⟩
theorem Replayed.of_none {n : NetL} {i o : Int} {tr : List Int} (hs : ShapeOk n i o) (hn : NamedN n) (hl : tr.length ≤ 60) (hg : gameL n tr (begunG n i) = .none) : Replayed n i o tr noPlay 3 :=
  ⟨fun d hd h0 => absurd hs (hd.not_zero h0), fun _ h => absurd hn h, fun _ _ h => absurd h (by omega), fun _ _ _ _ => ⟨rfl, rfl⟩, fun _ _ _ g h => by rw [hg] at h; cases h⟩
theorem Replayed.of_ok {n : NetL} {i o : Int} {tr : List Int} {g : GameL} (hs : ShapeOk n i o) (hn : NamedN n) (hl : tr.length ≤ 60) (hg : gameL n tr (begunG n i) = some g) : Replayed n i o tr (takeG g (startL n.places o)).pl 0 :=
  ⟨fun d hd h0 => absurd hs (hd.not_zero h0), fun _ h => absurd hn h, fun _ _ h => absurd h (by omega), fun _ _ _ h => by (rw [hg] at h; cases h), fun _ _ _ g' h => by rw [hg] at h; cases h; exact ⟨rfl, rfl⟩⟩

theorem gameL_append (n : NetL) (ls ms : List Int) : ∀ g, gameL n (ls ++ ms) g = (gameL n ls g).bind (gameL n ms) := by
  induction ls with
  | nil => intro g; rfl
  | cons l ls ih =>
    intro g
    simp only [List.cons_append, gameL]
    cases labIdx n l with
    | none => rfl
    | some k => exact ih _
theorem gameL_snoc (n : NetL) (ls : List Int) (l : Int) (g0 g : GameL) (h : gameL n ls g0 = some g) : gameL n (ls ++ [l]) g0 = match labIdx n l with
    | none => none
    | some k => some (putG (takeG g (tranAt n.trans k).pre) (tranAt n.trans k).post) := by
  rw [gameL_append, h]
  show gameL n [l] g = _
  simp only [gameL]
theorem gameL_stop (n : NetL) (ls ms : List Int) (l : Int) (g0 g : GameL) (h : gameL n ls g0 = some g) (hl : labIdx n l = none) : gameL n (ls ++ l :: ms) g0 = none := by
  rw [gameL_append, h]
  show gameL n (l :: ms) g = _
  simp only [gameL, hl]

/-! ### bounds -/
/-- So many times something was put or taken. -/
structure BndG (P k : Nat) (g : GameL) : Prop where
  put0 : 0 ≤ g.pl.put
  put1 : g.pl.put ≤ 144 * k
  tak0 : 0 ≤ g.pl.taken
  tak1 : g.pl.taken ≤ 144 * k
  lac0 : 0 ≤ g.pl.lacked
  lac1 : g.pl.lacked ≤ 144 * k
  sum : g.pl.put + g.pl.lacked = g.pl.taken + g.pl.left
  left : g.pl.left = sumTo g.there P
  there0 : ∀ p, 0 ≤ g.there p
  there1 : ∀ p, g.there p ≤ 9 * k
  past : ∀ p, P ≤ p → g.there p = 0

/-- Tokens of a transition, or of a beginning. -/
structure Toks (P : Nat) (t : List Int) : Prop where
  len : t.length = P
  lo : ∀ p, 0 ≤ nth t p
  hi : ∀ p, nth t p ≤ 9
theorem Toks.sum0 {P : Nat} {t : List Int} (h : Toks P t) (k : Nat) : 0 ≤ sumTo (nth t) k := sumTo_nonneg fun j _ => h.lo j
theorem Toks.sum1 {P : Nat} {t : List Int} (h : Toks P t) {k : Nat} (hk : k ≤ 16) : sumTo (nth t) k ≤ 144 := by
  have := sumTo_le (f := nth t) (g := fun _ => 9) (k := k) fun j _ => h.hi j
  rw [sumTo_const] at this; omega
theorem lack0 (g : Nat → Int) (t : List Int) (p : Nat) : 0 ≤ lackG g t p := by unfold lackG; omega
theorem lack1 {g : Nat → Int} {P : Nat} {t : List Int} (h : Toks P t) (hg : ∀ p, 0 ≤ g p) (p : Nat) : lackG g t p ≤ 9 := by have := h.hi p; have := hg p; unfold lackG; omega
theorem lack_sum0 (g : Nat → Int) (t : List Int) (k : Nat) : 0 ≤ sumTo (lackG g t) k := sumTo_nonneg fun j _ => lack0 g t j
theorem lack_sum1 {g : Nat → Int} {P : Nat} {t : List Int} (h : Toks P t) (hg : ∀ p, 0 ≤ g p) {k : Nat} (hk : k ≤ 16) : sumTo (lackG g t) k ≤ 144 := by
  have := sumTo_le (f := lackG g t) (g := fun _ => 9) (k := k) fun j _ => lack1 h hg j
  rw [sumTo_const] at this; omega
theorem sumTo_sub (f g : Nat → Int) (k : Nat) : sumTo (fun p => f p - g p) k = sumTo f k - sumTo g k := by
  have h1 := sumTo_add f (fun p => - g p) k
  rw [sumTo_neg] at h1
  have : sumTo (fun p => f p - g p) k = sumTo (fun p => f p + - g p) k := sumTo_congr fun j _ => by omega
  omega

theorem tok_of_tran {n : NetL} {P : Nat} (hn : netOk n = true) (hP : n.places = P) {k : Nat} (hk : k < n.trans.length) : Toks P (tranAt n.trans k).pre ∧ Toks P (tranAt n.trans k).post := by
  have h := net_tran hn hk
  obtain ⟨l1, l2⟩ := tran_length hn hk
  simp only [tranOk, Bool.and_eq_true, List.all_append] at h
  have key : ∀ xs : List Int, xs.all weightOk = true → (xs.length : Int) = P → Toks P xs := by
    intro xs hx hl
    have hb : ∀ p, 0 ≤ nth xs p ∧ nth xs p ≤ 9 := by
      intro p
      by_cases hp : p < xs.length
      · have := List.all_eq_true.1 hx _ (List.getElem_mem hp)
        simp only [weightOk, Bool.and_eq_true, decide_eq_true_eq] at this
        simp only [nth, List.getD, List.getElem?_eq_getElem hp, Option.getD_some]
        exact this
      · rw [nth_past xs p (by omega)]; omega
    exact ⟨by omega, fun p => (hb p).1, fun p => (hb p).2⟩
  exact ⟨key _ h.2.1 (by omega), key _ h.2.2 (by omega)⟩
theorem tok_of_start {P : Nat} (hP : P ≤ 16) (i : Int) : Toks P (startL P i) :=
  ⟨by rw [start_length]; omega, fun p => (start_bounds _ _ p).1, fun p => by have := (start_bounds (P : Int) i p).2; omega⟩
theorem start_sum {P : Nat} (hP : P ≤ 16) {i : Nat} (hi : i < P) : sumTo (nth (startL P i)) P = 1 := by
  rw [sumTo_single (i := i) hi fun j hj hne => by rw [start_at _ _ _ (by omega), if_neg (by omega)], start_at _ _ _ (by omega), if_pos rfl]

theorem BndG.put {P k : Nat} {g : GameL} {t : List Int} (h : BndG P k g) (hP : P ≤ 16) (ht : Toks P t) : BndG P (k + 1) (putG g t) := by
  have a1 := ht.sum0 P
  have a2 := ht.sum1 hP
  have e : ∀ p, (putG g t).there p = g.there p + nth t p := by
    intro p
    show (if p < t.length then _ else _) = _
    by_cases hp : p < t.length
    · rw [if_pos hp]
    · rw [if_neg hp, nth_past _ _ (by omega)]; omega
  have e2 : sumTo (putG g t).there P = sumTo g.there P + sumTo (nth t) P := by rw [← sumTo_add]; exact sumTo_congr fun j _ => e j
  have := h.left
  have := h.sum
  have := h.put0
  have := h.put1
  have := h.tak0
  have := h.tak1
  have := h.lac0
  have := h.lac1
  refine ⟨?_, ?_, ?_, ?_, ?_, ?_, ?_, ?_, fun p => ?_, fun p => ?_, fun p hp => ?_⟩
  all_goals try (simp only [putG, putTo, ht.len]; omega)
  · rw [e2]; simp only [putG, putTo, ht.len]; omega
  · rw [e]; have := h.there0 p; have := ht.lo p; omega
  · rw [e]; have := h.there1 p; have := ht.hi p; omega
  · rw [e, h.past p hp, nth_past _ _ (by rw [ht.len]; exact hp)]; rfl
theorem takeG_there {P : Nat} {g : GameL} {t : List Int} (ht : t.length = P) (h0 : ∀ p, 0 ≤ g.there p) (p : Nat) : (takeG g t).there p = g.there p + (lackG g.there t p - nth t p) := by
  show (if p < t.length then _ else _) = _
  by_cases hp : p < t.length
  · rw [if_pos hp]
  · have := h0 p
    rw [if_neg hp]; unfold lackG; rw [nth_past _ _ (by omega)]; omega
theorem putG_there (g : GameL) (t : List Int) (p : Nat) : (putG g t).there p = g.there p + nth t p := by
  show (if p < t.length then _ else _) = _
  by_cases hp : p < t.length
  · rw [if_pos hp]
  · rw [if_neg hp, nth_past _ _ (by omega)]; omega
theorem BndG.take {P k : Nat} {g : GameL} {t : List Int} (h : BndG P k g) (hP : P ≤ 16) (ht : Toks P t) : BndG P (k + 1) (takeG g t) := by
  have a1 := ht.sum0 P
  have a2 := ht.sum1 hP
  have a3 := lack_sum0 g.there t P
  have a4 := lack_sum1 ht h.there0 hP
  have e := fun p => takeG_there (g := g) ht.len h.there0 p
  have e1 : sumTo (fun p => lackG g.there t p - nth t p) P = sumTo (lackG g.there t) P - sumTo (nth t) P := sumTo_sub _ _ _
  have e2 : sumTo (takeG g t).there P = sumTo g.there P + sumTo (fun p => lackG g.there t p - nth t p) P := by rw [← sumTo_add]; exact sumTo_congr fun j _ => e j
  have := h.left
  have := h.sum
  have := h.put0
  have := h.put1
  have := h.tak0
  have := h.tak1
  have := h.lac0
  have := h.lac1
  refine ⟨?_, ?_, ?_, ?_, ?_, ?_, ?_, ?_, fun p => ?_, fun p => ?_, fun p hp => ?_⟩
  all_goals try (simp only [takeG, takeTo, ht.len]; omega)
  · rw [e2]; simp only [takeG, takeTo, ht.len]; omega
  · rw [e]; have := h.there0 p; unfold lackG; omega
  · rw [e]; have := h.there1 p; have := ht.lo p; have := h.there0 p; unfold lackG; omega
  · rw [e, h.past p hp]; unfold lackG; rw [h.past p hp, nth_past _ _ (by rw [ht.len]; exact hp)]; rfl
theorem bnd_zero (P : Nat) : BndG P 0 ⟨noPlay, fun _ => 0⟩ :=
  ⟨Int.le_refl _, Int.le_refl _, Int.le_refl _, Int.le_refl _, Int.le_refl _, Int.le_refl _, rfl, (sumTo_zero fun _ _ => rfl).symm, fun _ => Int.le_refl _, fun _ => Int.le_refl _, fun _ _ => rfl⟩

theorem shape_places {n : NetL} {i o : Int} (h : ShapeOk n i o) : ∃ P : Nat, n.places = P ∧ 0 < P ∧ P ≤ 16 := by
  have h1 := h.ok
  simp only [netOk, headOk, Bool.and_eq_true, decide_eq_true_eq] at h1
  have := h.i0
  have := h.i1
  exact ⟨n.places.toNat, by omega, by omega, by omega⟩
theorem labIdx_some {n : NetL} {l : Int} {k : Nat} (h : labIdx n l = some k) : k < n.trans.length ∧ (tranAt n.trans k).label = l := by
  unfold labIdx at h
  obtain ⟨h1, h2, _⟩ := List.findIdx?_eq_some_iff_getElem.1 h
  refine ⟨h1, ?_⟩
  simpa [hasLab, tranAt, List.getD, List.getElem?_eq_getElem h1] using h2
theorem labIdx_none {n : NetL} {l : Int} (h : labIdx n l = none) {k : Nat} (hk : k < n.trans.length) : (tranAt n.trans k).label ≠ l := by
  unfold labIdx at h
  have := List.findIdx?_eq_none_iff.1 h _ (List.getElem_mem hk)
  simpa [hasLab, tranAt, List.getD, List.getElem?_eq_getElem hk] using this
theorem named_one {n : NetL} (h : NamedN n) {j k : Nat} (hj : j < n.trans.length) (hk : k < n.trans.length) (e : (tranAt n.trans j).label = (tranAt n.trans k).label) : j = k := by
  rcases Nat.lt_trichotomy j k with q | q | q
  · exact absurd e ((h k hk).2 j q)
  · exact q
  · exact absurd e.symm ((h j hj).2 k q)
theorem labIdx_of {n : NetL} (h : NamedN n) {k : Nat} (hk : k < n.trans.length) : labIdx n (tranAt n.trans k).label = some k := by
  cases e : labIdx n (tranAt n.trans k).label with
  | none => exact absurd rfl (labIdx_none e hk)
  | some j => obtain ⟨h1, h2⟩ := labIdx_some e; rw [named_one h h1 hk h2]

theorem BndG.game {n : NetL} {P : Nat} (hn : netOk n = true) (hP : n.places = P) (hP2 : P ≤ 16) : ∀ (tr : List Int) {k : Nat} {g g' : GameL}, BndG P k g → gameL n tr g = some g' → BndG P (k + 2 * tr.length) g' := by
  intro tr
  induction tr with
  | nil => intro k g g' h e; cases e; exact h
  | cons l ls ih =>
    intro k g g' h e
    simp only [gameL] at e
    cases hl : labIdx n l with
    | none => rw [hl] at e; cases e
    | some j =>
      rw [hl] at e
      obtain ⟨hj, _⟩ := labIdx_some hl
      obtain ⟨t1, t2⟩ := tok_of_tran hn hP hj
      have := ih ((h.take hP2 t1).put hP2 t2) e
      rw [List.length_cons]
      exact (show k + 1 + 1 + 2 * ls.length = k + 2 * (ls.length + 1) by omega) ▸ this
theorem begun_bnd {n : NetL} {P : Nat} (hP : n.places = P) (hP2 : P ≤ 16) (i : Int) : BndG P 1 (begunG n i) := by
  have := (bnd_zero P).put hP2 (tok_of_start hP2 i)
  rw [← hP] at this
  exact this

/-- What stands behind an answer. -/
theorem Replayed.zero {n : NetL} {i o : Int} {tr : List Int} {r : PlayL} (h : Replayed n i o tr r 0) : ShapeOk n i o ∧ NamedN n ∧ tr.length ≤ 60 ∧ ∃ g, gameL n tr (begunG n i) = some g ∧ r = (takeG g (startL n.places o)).pl := by
  obtain ⟨d, hd⟩ := judged_ex n i o
  by_cases h0 : d = 0
  · subst h0
    have hs := hd.zero
    by_cases hn : NamedN n
    · by_cases hl : 60 < tr.length
      · have := (h.many hs hn hl).2; omega
      · cases hg : gameL n tr (begunG n i) with
        | none => have := (h.none hs hn (by omega) hg).2; omega
        | some g => exact ⟨hs, hn, by omega, g, rfl, (h.ok hs hn (by omega) g hg).1⟩
    · have := (h.form hs hn).2; omega
  · have := (h.bad d hd h0).2; omega
theorem Replayed.err {n : NetL} {i o e : Int} {tr : List Int} {r : PlayL} (h : Replayed n i o tr r e) (he : e ≠ 0) : r = noPlay := by
  obtain ⟨d, hd⟩ := judged_ex n i o
  by_cases h0 : d = 0
  · subst h0
    have hs := hd.zero
    by_cases hn : NamedN n
    · by_cases hl : 60 < tr.length
      · exact (h.many hs hn hl).1
      · cases hg : gameL n tr (begunG n i) with
        | none => exact (h.none hs hn (by omega) hg).1
        | some g => exact absurd (h.ok hs hn (by omega) g hg).2 he
    · exact (h.form hs hn).1
  · exact (h.bad d hd h0).1

theorem game_grows {n : NetL} {P : Nat} (hn : netOk n = true) (hP : n.places = P) : ∀ (tr : List Int) {g g' : GameL}, gameL n tr g = some g' → g.pl.put ≤ g'.pl.put ∧ g.pl.lacked ≤ g'.pl.lacked := by
  intro tr
  induction tr with
  | nil => intro g g' e; cases e; exact ⟨Int.le_refl _, Int.le_refl _⟩
  | cons l ls ih =>
    intro g g' e
    simp only [gameL] at e
    cases hl : labIdx n l with
    | none => rw [hl] at e; cases e
    | some j =>
      rw [hl] at e
      obtain ⟨hj, _⟩ := labIdx_some hl
      obtain ⟨t1, t2⟩ := tok_of_tran hn hP hj
      obtain ⟨a1, a2⟩ := ih e
      have b1 := t2.sum0 (tranAt n.trans j).post.length
      have b2 := lack_sum0 g.there (tranAt n.trans j).pre (tranAt n.trans j).pre.length
      simp only [putG, putTo, takeG, takeTo] at a1 a2
      exact ⟨by omega, by omega⟩

/-- Tokens add up. -/
theorem Replayed.sums {n : NetL} {i o : Int} {tr : List Int} {r : PlayL} (h : Replayed n i o tr r 0) : r.put + r.lacked = r.taken + r.left ∧ 0 ≤ r.lacked ∧ 0 ≤ r.left ∧ 0 < r.put ∧ 0 < r.taken ∧ r.put ≤ 20000 ∧ r.taken ≤ 20000 ∧ r.lacked ≤ 20000 ∧ r.left ≤ 20000 := by
  obtain ⟨hs, hn, hl, g, hg, rfl⟩ := h.zero
  obtain ⟨P, hP, hP0, hP1⟩ := shape_places hs
  have hb0 := begun_bnd hP hP1 i
  have hb := BndG.game hs.ok hP hP1 tr hb0 hg
  have ht : Toks P (startL n.places o) := by rw [hP]; exact tok_of_start hP1 o
  have hb2 := hb.take hP1 ht
  have hle := sumTo_le (f := (takeG g (startL n.places o)).there) (g := fun _ => 1100) (k := P) fun j _ => by have := hb2.there1 j; omega
  rw [sumTo_const, ← hb2.left] at hle
  have hge : 0 ≤ sumTo (takeG g (startL n.places o)).there P := sumTo_nonneg fun j _ => hb2.there0 j
  rw [← hb2.left] at hge
  obtain ⟨i', hi⟩ := Int.eq_ofNat_of_zero_le hs.i0
  obtain ⟨o', ho⟩ := Int.eq_ofNat_of_zero_le hs.o0
  have h1 := hs.i1
  have h2 := hs.o1
  have s1 := start_sum hP1 (i := i') (by omega)
  have s2 := start_sum hP1 (i := o') (by omega)
  have g1 := (game_grows hs.ok hP tr hg).1
  have e1 : (begunG n i).pl.put = 1 := by
    unfold begunG
    simp only [putG, putTo, noPlay]
    rw [start_length, hP, show (min (P : Int) 16).toNat = P by omega, hi]
    omega
  have e2 : (takeG g (startL n.places o)).pl.taken = g.pl.taken + 1 := by
    simp only [takeG, takeTo]
    rw [start_length, hP, show (min (P : Int) 16).toNat = P by omega, ho]
    omega
  have e3 : (takeG g (startL n.places o)).pl.put = g.pl.put := rfl
  have := hb2.sum
  have := hb2.put1
  have := hb2.tak1
  have := hb2.lac0
  have := hb2.lac1
  have := hb.tak0
  refine ⟨by omega, by omega, by omega, by omega, by omega, by omega, by omega, by omega, by omega⟩

end Go.Proofs.YtfaehomopgichaaDoor

/- What a reading hangs on: the blocks that must stand. -/
namespace Go.Proofs.YtfaehomopgichaaDoor
open Go.RowKit
set_option linter.unusedVariables false
set_option maxRecDepth 4000

/-- It holds here, and wherever the blocks of D that are here stand as they do. -/
def On (D : Nat → Prop) (w : World) (R : World → Prop) : Prop :=
  ∀ w' : World, w.heap.size ≤ w'.heap.size → (∀ k, k < w.heap.size → D k → w'.heap[k]? = w.heap[k]?) → R w'

theorem On.now {D : Nat → Prop} {w : World} {R : World → Prop} (h : On D w R) : R w := h w (Nat.le_refl _) fun _ _ _ => rfl

theorem On.to {D : Nat → Prop} {w w' : World} {R : World → Prop} (h : On D w R) (hs : w.heap.size ≤ w'.heap.size) (hk : ∀ k, k < w.heap.size → D k → w'.heap[k]? = w.heap[k]?) : On D w' R :=
  fun w2 h2 hk2 => h w2 (Nat.le_trans hs h2) fun k hlt hD => (hk2 k (Nat.lt_of_lt_of_le hlt hs) hD).trans (hk k hlt hD)

theorem On.weaken {D D' : Nat → Prop} {w : World} {R : World → Prop} (h : On D w R) (hD : ∀ k, k < w.heap.size → D k → D' k) : On D' w R :=
  fun w2 h2 hk => h w2 h2 fun k hlt hd => hk k hlt (hD k hlt hd)

theorem On.mono {D : Nat → Prop} {w : World} {R R' : World → Prop} (h : On D w R) (hR : ∀ w', R w' → R' w') : On D w R' := fun w2 h2 hk => hR _ (h w2 h2 hk)

theorem On.below {D : Nat → Prop} {w w' : World} {R : World → Prop} (h : On D w R) (hb : Below w.heap.size w w') : On D w' R := h.to hb.size fun k hlt _ => hb.block k hlt

theorem On.grown {D : Nat → Prop} {w w' : World} {R : World → Prop} {row : Option Nat} (h : On D w R) (hg : w.grownBy w' row) (hD : ∀ k, k < w.heap.size → D k → some k ≠ row) : On D w' R :=
  h.to hg.size fun k hlt hd => hg.block k hlt (hD k hlt hd)

theorem On.set {D : Nat → Prop} {w : World} {R : World → Prop} (h : On D w R) {a : Addr} (ha : ¬ D a.block) (u : Value) : On D (w.setCell a u) R :=
  h.to (by simp [World.setCell]) fun k _ hd => Below.heap_setCell w a u k (fun e => ha (e ▸ hd))

/-- Readings that are kept by whatever leaves all old blocks as they were. -/
theorem on_all {w : World} {R : World → Prop} (h : ∀ w', w.heap.size ≤ w'.heap.size → (∀ k, k < w.heap.size → w'.heap[k]? = w.heap[k]?) → R w') : On (fun _ => True) w R := fun w' hs hk => h w' hs fun k hlt => hk k hlt trivial

theorem cell_kept {w w' : World} {p : Addr} (h : w'.heap[p.block]? = w.heap[p.block]?) : w'.cell? p = w.cell? p := World.cell?_of_block h

/-- The row that the call itself has made hangs on blocks that were made by it. -/
theorem ownsRow_on {B : Nat} {w : World} {e : TypeId} {size : Nat} {v : Value} {n : Nat} {xs : List Value} (h : w.ownsRow B e size v n xs) : On (fun k => v.ownBlock = some k ∧ B ≤ k) w (fun w' => w'.ownsRow B e size v n xs) := by
  intro w' hs hk
  refine ⟨h.1, ?_⟩
  rcases h.2 with hn | ⟨g, cap, cur, rfl, hb, hgg, rest⟩
  · exact .inl hn
  · refine .inr ⟨g, cap, cur, rfl, hb, ?_, rest⟩
    rw [hk g (Array.getElem?_eq_some_iff.1 hgg).1 ⟨rfl, hb⟩]
    exact hgg

theorem ownsRow_ints {B : Nat} {wr : World} {v : Value} {zs : List Int} (hown : wr.ownsRow B 3 1 v zs.length (zs.map (Value.int .i64))) (hl : zs.length ≤ 17592186044416) : Ints wr v zs := by
  have hown0 := hown
  obtain ⟨_, hcase⟩ := hown
  rcases hcase with ⟨rfl, h0⟩ | ⟨g, cap', cur, rfl, hg, hh, hn, hcap, hsz, htake⟩
  · exact ⟨none, zs.length, 0, by rw [h0], rfl, hl, ⟨by omega, by omega, fun _ => rfl⟩, fun j hj => absurd hj (by omega)⟩
  · refine ⟨_, _, _, rfl, rfl, hl, ⟨hn, by unfold maxLen at hcap; omega, fun h => by cases h⟩, fun j hj => ⟨g, 0, rfl, ?_, ?_⟩⟩
    · rcases Nat.lt_or_ge g wr.heap.size with h | h
      · exact h
      · rw [Array.getElem?_eq_none h] at hh; cases hh
    · rw [Nat.zero_add, hown0.cellAt j (by omega)]
      simp [nth, List.getD, List.getElem?_eq_getElem hj]

theorem Own.on {B : Nat} {w wr : World} {v : Value} {zs : List Int} (h : Own B w wr v zs) (hl : zs.length ≤ 17592186044416) : On (fun k => B ≤ k) wr (fun w' => Ints w' v zs) :=
  ((ownsRow_on h.1).weaken fun k _ hk => hk.2).mono fun w' h' => ownsRow_ints h' hl

theorem Own.slice {B : Nat} {w wr : World} {v : Value} {zs : List Int} (h : Own B w wr v zs) : ∃ a l c, v = .slice a l c := by
  rcases h.1.2 with ⟨rfl, _⟩ | ⟨g, cap', cur, rfl, _⟩
  · exact ⟨_, _, _, rfl⟩
  · exact ⟨_, _, _, rfl⟩

theorem ownsRow_slice {B : Nat} {w : World} {e : TypeId} {size : Nat} {v : Value} {n : Nat} {xs : List Value} (h : w.ownsRow B e size v n xs) : ∃ a l c, v = .slice a l c := by
  rcases h.2 with ⟨rfl, _⟩ | ⟨g, cap', cur, rfl, _⟩
  · exact ⟨_, _, _, rfl⟩
  · exact ⟨_, _, _, rfl⟩

theorem ownsRow_lt {B : Nat} {w : World} {e : TypeId} {size : Nat} {v : Value} {n : Nat} {xs : List Value} (h : w.ownsRow B e size v n xs) {k : Nat} (hk : v.ownBlock = some k) : B ≤ k ∧ k < w.heap.size := h.lt k hk

/-- append of one element of several cells onto a row that the call itself has made, where it lies. -/
theorem wp_append_at {P : Program} {o : Oper} {a : Act} {K : Act → World → Prop} {Q : Exit → Act → World → Prop} {Y : Nat → Option Bool} (w : World) (hwt : Region.wanted o Y = true) (s x : Operand) (t : TypeId)
    (ho : o.op = .call { callee := .builtin .append, args := #[s, x], argTypes := #[t, t] })
    (base : Nat) (e : TypeId) (i : TypeInfo) (z : Value) (size bytes : Nat) (ht : P.underlying t = some (.slice e)) (hi : P.info? e = some i) (hz : i.zero = some z)
    (hsize : i.size = size) (hby : i.bytes = bytes) (hzs : z.cells.size = size) (hsz : 0 < size)
    (v : Value) (n : Nat) (xs : List Value) (hs : a.eval s = v) (hown : w.ownsRow base e size v n xs)
    (ad : Addr) (m c : Nat) (news : List Value) (hx : a.eval x = .slice (some ad) m c) (hl : news.length = m * size) (hnews : ∀ j u, news[j]? = some u → w.cell? (ad.add j) = some u) (h1 : ∀ u ∈ news, u.oneCell' = true)
    (h63 : n + m ≤ maxLen) (hbytes : (n + m) * bytes ≤ 140737488355328) (hbase : base ≤ w.heap.size)
    (h : ∀ v' w', w'.ownsRow base e size v' (n + m) (xs ++ news) → w.grownBy w' v.ownBlock → (v'.ownBlock = v.ownBlock ∨ v'.ownBlock = some w.heap.size) → K (a.put o.dst v') w') :
    if Region.wanted o Y = true then Oper.wp P o a w K Q else K (a.put o.dst undef) w := by
  rw [if_pos hwt]
  obtain ⟨v', w', hr, h2, h3, h4, h5⟩ := run_append_own_at (P := P) w base t o.type e i z size bytes ht hi hz hsize hby hzs hsz v n xs hown ad m c news hl hnews h1 h63 hbytes hbase
  unfold Oper.wp execOp
  simp only [ho, resolve, invoke, builtin, Sem.run_bind, Sem.run_pure, Result.andThen_ok, List.map_toArray, List.map_cons, List.map_nil, hs, hx, hr]
  exact h v' w' h2 h3 h5

/-- append of one number, inside a region that draws its order. -/
theorem wpr_append_int {o : Oper} {a : Act} {K : Act → World → Prop} {Q : Exit → Act → World → Prop} {Y : Nat → Option Bool} (hwt : Region.wanted o Y = true) (s x : Operand)
    (ho : o.op = .call { callee := .builtin .append, args := #[s, x], argTypes := #[25, 25] }) (B : Nat) (w wr : World) (v : Value) (zs : List Int) (z : Int) (hG : Own B w wr v zs)
    (hs : a.eval s = v) (hx : a.eval x = .slice (some ⟨wr.heap.size, 0, none⟩) 1 1) (hl : zs.length + 1 ≤ 17592186044416)
    (h : ∀ v' w', Own B w w' v' (zs ++ [z]) → K (a.put o.dst v') w') :
    if Region.wanted o Y = true then Oper.wp Tryd.prog o a (wr.alloc (.cells #[.int .i64 z] 3)) K Q else K (a.put o.dst undef) (wr.alloc (.cells #[.int .i64 z] 3)) := by
  obtain ⟨i0, hi, hz0, hz1, hz2⟩ := info_parts info_int
  obtain ⟨hown, hb, hB⟩ := hG
  refine wp_append_at _ hwt s x 25 ho B 3 i0 (.int .i64 0) 1 8 Tryd.underlying25 hi hz0 hz1 hz2 rfl (by decide) v zs.length _ hs (hown.alloc _) ⟨wr.heap.size, 0, none⟩ 1 1 [.int .i64 z] hx rfl ?_ ?_ ?_ ?_ ?_ ?_
  · intro j u hj
    match j, hj with
    | 0, hj => simp at hj; subst hj; simp [Addr.add]
  · intro u hu; simp at hu; subst hu; rfl
  · unfold maxLen; omega
  · omega
  · simp; omega
  · intro v' w' hown' hgrow _
    refine h v' w' ⟨by simpa using hown', (hb.alloc hB _).grown hgrow (by simp; omega) (fun k hk => (hown.lt k hk).1), ?_⟩
    have := hgrow.size; simp at this; omega

end Go.Proofs.YtfaehomopgichaaDoor

/- A row of ints that the call itself made, written at any index. -/
namespace Go.Proofs.YtfaehomopgichaaDoor
open Go.RowKit
set_option linter.unusedVariables false
set_option maxRecDepth 4000

/-- A row of n ints that the call itself made, at block B, that holds f; nothing older has turned. -/
structure RowAt (B : Nat) (w wr : World) (n : Nat) (f : Nat → Int) : Prop where
  cells : ∀ j, j < n → wr.cell? ⟨B, j, none⟩ = some (.int .i64 (f j))
  frozen : ∀ j, j < n → wr.frozen? ⟨B, j, none⟩ = false
  below : Below B w wr
  size : B < wr.heap.size

theorem RowAt.put {B : Nat} {w wr : World} {n k : Nat} {f g : Nat → Int} (h : RowAt B w wr n f) (hk : k < n) {x : Int} (hx : g k = x) (hg : ∀ j, j < n → j ≠ k → g j = f j) :
    RowAt B w (wr.setCell ⟨B, k, none⟩ (.int .i64 x)) n g := by
  refine ⟨fun j hj => ?_, fun j hj => by rw [World.frozen?_setCell]; exact h.frozen j hj, h.below.setCell (Nat.le_refl _) _, by simpa [World.setCell] using h.size⟩
  by_cases e : j = k
  · subst e
    rw [World.cell?_setCell_same _ _ _ (h.cells j hj), hx]
  · rw [World.cell?_setCell_other _ _ _ _ (by intro q; apply e; injection q with _ q2; exact q2.symm), h.cells j hj, hg j hj e]

theorem RowAt.same {B : Nat} {w wr : World} {n : Nat} {f g : Nat → Int} (h : RowAt B w wr n f) (hg : ∀ j, j < n → g j = f j) : RowAt B w wr n g :=
  ⟨fun j hj => by rw [h.cells j hj, hg j hj], h.frozen, h.below, h.size⟩

theorem RowAt.to {B : Nat} {w wr w2 : World} {n : Nat} {f : Nat → Int} (h : RowAt B w wr n f) (hb : Below wr.heap.size wr w2) : RowAt B w w2 n f :=
  ⟨fun j hj => by rw [hb.cell (p := ⟨B, j, none⟩) h.size]; exact h.cells j hj, fun j hj => by rw [hb.frozen (p := ⟨B, j, none⟩) h.size]; exact h.frozen j hj, h.below.trans (hb.mono (Nat.le_of_lt h.size)), Nat.lt_of_lt_of_le h.size hb.size⟩

theorem RowAt.ints {B : Nat} {w wr : World} {n : Nat} {f : Nat → Int} (h : RowAt B w wr n f) {zs : List Int} (hl : zs.length = n) (hz : ∀ j, j < n → nth zs j = f j) (hn : n ≤ 17592186044416) {cap : Nat} (hc : n ≤ cap) (hc2 : cap ≤ 9223372036854775807) :
    Ints wr (.slice (some ⟨B, 0, none⟩) n cap) zs :=
  ⟨_, _, _, rfl, hl, hn, ⟨hc, hc2, fun h => by cases h⟩, fun j hj => ⟨B, 0, rfl, h.size, by rw [Nat.zero_add, h.cells j (by omega), hz j (by omega)]⟩⟩

theorem rowAt_new {w w1 : World} {n : Nat} (hb : Below w.heap.size w w1) (hs : w.heap.size < w1.heap.size) (hc : ∀ j, j < n → w1.cell? ⟨w.heap.size, j, none⟩ = some (.int .i64 0) ∧ w1.frozen? ⟨w.heap.size, j, none⟩ = false)
    {f : Nat → Int} (hf : ∀ j, j < n → f j = 0) : RowAt w.heap.size w w1 n f :=
  ⟨fun j hj => by rw [hf j hj]; exact (hc j hj).1, fun j hj => (hc j hj).2, hb, hs⟩

theorem RowAt.on {B : Nat} {w wr : World} {n : Nat} {f : Nat → Int} (h : RowAt B w wr n f) {zs : List Int} (hl : zs.length = n) (hz : ∀ j, j < n → nth zs j = f j) (hn : n ≤ 17592186044416) {cap : Nat} (hc : n ≤ cap) (hc2 : cap ≤ 9223372036854775807) :
    On (fun k => B ≤ k) wr (fun w' => Ints w' (.slice (some ⟨B, 0, none⟩) n cap) zs) := by
  intro w' hs hk
  exact ⟨_, _, _, rfl, hl, hn, ⟨hc, hc2, fun h => by cases h⟩, fun j hj => ⟨B, 0, rfl, Nat.lt_of_lt_of_le h.size hs, by rw [Nat.zero_add, World.cell?_of_block (a := ⟨B, j, none⟩) (hk B h.size (Nat.le_refl _)), h.cells j (by omega), hz j (by omega)]⟩⟩

/-- A row of as many as a number says. -/
theorem make_intsZ (w : World) (n : Nat) (z : Int) (hz : z = n) (hn : n ≤ 17592186044416) :
    ∃ w1, (Instr.makeSlice 25 (.int .i64 z) (.int .i64 z)).run Tryd.prog w = .ok (.slice (some ⟨w.heap.size, 0, none⟩) n n) w1 ∧ RowAt w.heap.size w w1 n (fun _ => 0) := by
  subst hz
  obtain ⟨w1, h1, h2, h3, h4⟩ := make_ints w n hn
  exact ⟨w1, h1, rowAt_new h2 h3 h4 fun _ _ => rfl⟩

end Go.Proofs.YtfaehomopgichaaDoor

/- Package replay as it landed: a game that goes on. -/
namespace Go.Proofs.YtfaehomopgichaaDoor
open Go.RowKit
set_option linter.unusedVariables false
set_option linter.unusedSimpArgs false
set_option maxRecDepth 4000

def gameA (p : PlayL) (R P : Nat) : Array Value := #[.int .i64 p.put, .int .i64 p.taken, .int .i64 p.lacked, .int .i64 p.left, .slice (some ⟨R, 0, none⟩) P P]
/-- A game in memory: its box, and the row of what is there. -/
structure GameAt (B R P : Nat) (w : World) (g : GameL) : Prop where
  box : w.heap[B]? = some (.cells (gameA g.pl R P) 40 (0, 0))
  cells : ∀ j, j < P → w.cell? ⟨R, j, none⟩ = some (.int .i64 (g.there j))
  frozen : ∀ j, j < P → w.frozen? ⟨R, j, none⟩ = false
  ne : B ≠ R
  lt : R < w.heap.size

theorem blk_lt {w : World} {b : Nat} {o : Obj} (h : w.heap[b]? = some o) : b < w.heap.size := (Array.getElem?_eq_some_iff.1 h).1
theorem blk_cell {w : World} {b k : Nat} {cs : Array Value} {t : TypeId} {v : Value} (h : w.heap[b]? = some (.cells cs t (0, 0))) (hk : cs[k]? = some v) : w.cell? ⟨b, k, none⟩ = some v := by
  simp [World.cell?, h, hk]
theorem blk_free {w : World} {b k : Nat} {cs : Array Value} {t : TypeId} (h : w.heap[b]? = some (.cells cs t (0, 0))) : w.frozen? ⟨b, k, none⟩ = false := by
  simp [World.frozen?, h]

theorem GameAt.at {B R P : Nat} {w : World} {g : GameL} (h : GameAt B R P w g) :
    w.cell? ⟨B, 0, none⟩ = some (.int .i64 g.pl.put) ∧ w.cell? ⟨B, 1, none⟩ = some (.int .i64 g.pl.taken) ∧ w.cell? ⟨B, 2, none⟩ = some (.int .i64 g.pl.lacked) ∧ w.cell? ⟨B, 3, none⟩ = some (.int .i64 g.pl.left) ∧ w.cell? ⟨B, 4, none⟩ = some (.slice (some ⟨R, 0, none⟩) P P) ∧
    w.frozen? ⟨B, 0, none⟩ = false ∧ w.frozen? ⟨B, 1, none⟩ = false ∧ w.frozen? ⟨B, 2, none⟩ = false ∧ w.frozen? ⟨B, 3, none⟩ = false :=
  ⟨blk_cell h.box rfl, blk_cell h.box rfl, blk_cell h.box rfl, blk_cell h.box rfl, blk_cell h.box rfl, blk_free h.box, blk_free h.box, blk_free h.box, blk_free h.box⟩
theorem GameAt.fld {B R P k : Nat} {w : World} {g : GameL} {u : Value} {p' : PlayL} (h : GameAt B R P w g) (e : (gameA g.pl R P).setIfInBounds k u = gameA p' R P) : GameAt B R P (w.setCell ⟨B, k, none⟩ u) ⟨p', g.there⟩ := by
  refine ⟨by rw [setCell_blockM h.box, e], fun j hj => ?_, fun j hj => by rw [World.frozen?_setCell]; exact h.frozen j hj, h.ne, by simpa [World.setCell] using h.lt⟩
  rw [World.cell?_setCell_other _ _ _ _ (by intro q; injection q with q1 _; exact h.ne q1)]
  exact h.cells j hj
theorem GameAt.row {B R P k : Nat} {w : World} {g : GameL} {x : Int} (h : GameAt B R P w g) (hk : k < P) : GameAt B R P (w.setCell ⟨R, k, none⟩ (.int .i64 x)) ⟨g.pl, fun p => if p = k then x else g.there p⟩ := by
  refine ⟨by rw [Below.heap_setCell w ⟨R, k, none⟩ _ B h.ne]; exact h.box, fun j hj => ?_, fun j hj => by rw [World.frozen?_setCell]; exact h.frozen j hj, h.ne, by simpa [World.setCell] using h.lt⟩
  by_cases e : j = k
  · subst e; rw [World.cell?_setCell_same _ _ _ (h.cells j hj)]; simp
  · rw [World.cell?_setCell_other _ _ _ _ (by intro q; apply e; injection q with _ q2; exact q2.symm), h.cells j hj]; simp [e]
theorem GameAt.same {B R P : Nat} {w : World} {g g' : GameL} (h : GameAt B R P w g) (e : g'.pl = g.pl) (e2 : ∀ j, j < P → g'.there j = g.there j) : GameAt B R P w g' :=
  ⟨by rw [e]; exact h.box, fun j hj => by rw [e2 j hj]; exact h.cells j hj, h.frozen, h.ne, h.lt⟩
theorem GameAt.to {B R P : Nat} {w w' : World} {g : GameL} (h : GameAt B R P w g) (hb : Below w.heap.size w w') : GameAt B R P w' g :=
  ⟨(hb.block B (blk_lt h.box)).trans h.box, fun j hj => by rw [hb.cell (p := ⟨R, j, none⟩) h.lt]; exact h.cells j hj, fun j hj => by rw [hb.frozen (p := ⟨R, j, none⟩) h.lt]; exact h.frozen j hj, h.ne, Nat.lt_of_lt_of_le h.lt hb.size⟩
/-- Two blocks alone may have turned. -/
structure Two (B R : Nat) (w w' : World) : Prop where
  below : Below (min B R) w w'
  block : ∀ k, k < w.heap.size → k ≠ B → k ≠ R → w'.heap[k]? = w.heap[k]?
theorem Two.size {B R : Nat} {w w' : World} (h : Two B R w w') : w.heap.size ≤ w'.heap.size := h.below.size
theorem Two.trans {B R : Nat} {a c d : World} (h : Two B R a c) (k : Two B R c d) : Two B R a d := ⟨h.below.trans k.below, fun i hi h1 h2 => (k.block i (Nat.lt_of_lt_of_le hi h.size) h1 h2).trans (h.block i hi h1 h2)⟩
theorem Two.setL (B R off : Nat) (w : World) (u : Value) : Two B R w (w.setCell ⟨B, off, none⟩ u) := ⟨(Below.refl _ _).setCell (p := ⟨B, off, none⟩) (Nat.min_le_left _ _) u, fun k _ hne _ => Below.heap_setCell w ⟨B, off, none⟩ u k (fun e => hne e)⟩
theorem Two.setR (B R off : Nat) (w : World) (u : Value) : Two B R w (w.setCell ⟨R, off, none⟩ u) := ⟨(Below.refl _ _).setCell (p := ⟨R, off, none⟩) (Nat.min_le_right _ _) u, fun k _ _ hne => Below.heap_setCell w ⟨R, off, none⟩ u k (fun e => hne e)⟩
theorem Two.refl (B R : Nat) (w : World) : Two B R w w := ⟨Below.refl _ _, fun _ _ _ _ => rfl⟩
/-- What is older than both stands. -/
theorem Two.low {B R n : Nat} {a w w' : World} (h : Two B R w w') (hb : Below n a w) (h1 : n ≤ B) (h2 : n ≤ R) : Below n a w' := hb.trans (h.below.mono (by omega))
theorem Two.on {B R : Nat} {w w' : World} {D : Nat → Prop} {Q : World → Prop} (h : Two B R w w') (hO : On D w Q) (h1 : ¬ D B) (h2 : ¬ D R) : On D w' Q :=
  hO.to h.size fun k hk hD => h.block k hk (fun e => h1 (e ▸ hD)) (fun e => h2 (e ▸ hD))

/-- One place's tokens are moved. -/
def moveG (g : GameL) (p : Nat) (z : Int) : GameL := ⟨⟨g.pl.put, g.pl.taken, g.pl.lacked, g.pl.left + z⟩, fun q => if q = p then g.there p + z else g.there q⟩

set_option maxHeartbeats 1000000 in
theorem move_any (B R P p : Nat) (g : GameL) (z : Int) (w : World) (h : GameAt B R P w g) (hp : p < P) (hP : P ≤ 16) (h1 : 0 ≤ g.there p ∧ g.there p ≤ 1000000) (h2 : -1000000 ≤ g.pl.left ∧ g.pl.left ≤ 1000000) (h3 : -1000 ≤ z ∧ z ≤ 1000) :
    Calls Tryd.prog 21 #[.pointer (some ⟨B, 0, none⟩), .int .i64 (p : Int), .int .i64 z] w fun e w' => e = .returned (.tuple #[]) ∧ GameAt B R P w' (moveG g p z) ∧ Two B R w w' := by
  obtain ⟨x, Hx⟩ : ∃ x, Hid (g.there p = x) := ⟨_, rfl⟩
  have c := h.cells p hp
  have f := h.frozen p hp
  rw [Hx.out] at c h1
  obtain ⟨d0, d1, d2, d3, d4, f0, f1, f2, f3⟩ := h.at
  have hG1 := h.row (x := x + z) hp
  have hG2 := hG1.fld (k := 3) (u := .int .i64 (g.pl.left + z)) (p' := ⟨g.pl.put, g.pl.taken, g.pl.lacked, g.pl.left + z⟩) rfl
  have HR : Hid (GameAt B R P ((w.setCell ⟨R, p, none⟩ (.int .i64 (x + z))).setCell ⟨B, 3, none⟩ (.int .i64 (g.pl.left + z))) (moveG g p z)) := hG2.same rfl fun j _ => by
    show (if j = p then g.there p + z else g.there j) = if j = p then x + z else g.there j
    rw [Hx.out]
  have HO : Hid (Two B R w ((w.setCell ⟨R, p, none⟩ (.int .i64 (x + z))).setCell ⟨B, 3, none⟩ (.int .i64 (g.pl.left + z)))) := (Two.setR _ _ _ _ _).trans (Two.setL _ _ _ _ _)
  obtain ⟨_, _, _, e3, _, _, _, _, g3⟩ := hG1.at
  obtain ⟨L, HL⟩ : ∃ x, Hid (g.pl.left = x) := ⟨_, rfl⟩
  rw [HL.out] at HR HO d3 h2
  simp only [HL.out] at e3
  clear hG1 hG2 h HL Hx
  go_enter Tryd.func21, Tryd.ntmps21
  go_wp2
  go_end0
  exact ⟨rfl, HR.out, HO.out⟩

theorem putTo_next (g : GameL) (t : List Int) (k : Nat) (p : Nat) : (moveG ⟨⟨(putTo g t k).pl.put + nth t k, (putTo g t k).pl.taken, (putTo g t k).pl.lacked, (putTo g t k).pl.left⟩, (putTo g t k).there⟩ k (nth t k)).there p = (putTo g t (k + 1)).there p := by
  simp only [moveG, putTo]
  by_cases h1 : p = k
  · subst h1; simp
  · rw [if_neg h1]
    by_cases h2 : p < k
    · rw [if_pos h2, if_pos (by omega)]
    · rw [if_neg h2, if_neg (by omega)]
theorem takeTo_next (g : GameL) (t : List Int) (k : Nat) (p : Nat) : (moveG ⟨⟨(takeTo g t k).pl.put, (takeTo g t k).pl.taken + nth t k, (takeTo g t k).pl.lacked + lackG g.there t k, (takeTo g t k).pl.left⟩, (takeTo g t k).there⟩ k (lackG g.there t k - nth t k)).there p = (takeTo g t (k + 1)).there p := by
  simp only [moveG, takeTo]
  by_cases h1 : p = k
  · subst h1; simp
  · rw [if_neg h1]
    by_cases h2 : p < k
    · rw [if_pos h2, if_pos (by omega)]
    · rw [if_neg h2, if_neg (by omega)]
theorem putTo_bnd {P K : Nat} {g : GameL} {t : List Int} (h : BndG P K g) (hP : P ≤ 16) (hK : K ≤ 500) (ht : Toks P t) {k : Nat} (hk : k ≤ P) : 0 ≤ (putTo g t k).pl.put ∧ (putTo g t k).pl.put ≤ 80000 ∧ -80000 ≤ (putTo g t k).pl.left ∧ (putTo g t k).pl.left ≤ 80000 := by
  have a1 := ht.sum0 k
  have a2 := ht.sum1 (k := k) (by omega)
  have := h.put0; have := h.put1; have := h.tak0; have := h.tak1; have := h.lac0; have := h.lac1; have := h.sum
  have hle := sumTo_le (f := g.there) (g := fun _ => 4500) (k := P) fun j _ => by have := h.there1 j; omega
  rw [sumTo_const, ← h.left] at hle
  have hge : 0 ≤ sumTo g.there P := sumTo_nonneg fun j _ => h.there0 j
  rw [← h.left] at hge
  simp only [putTo]
  refine ⟨by omega, by omega, by omega, by omega⟩
theorem takeTo_bnd {P K : Nat} {g : GameL} {t : List Int} (h : BndG P K g) (hP : P ≤ 16) (hK : K ≤ 500) (ht : Toks P t) {k : Nat} (hk : k ≤ P) : 0 ≤ (takeTo g t k).pl.taken ∧ (takeTo g t k).pl.taken ≤ 80000 ∧ 0 ≤ (takeTo g t k).pl.lacked ∧ (takeTo g t k).pl.lacked ≤ 80000 ∧ -80000 ≤ (takeTo g t k).pl.left ∧ (takeTo g t k).pl.left ≤ 80000 := by
  have a1 := ht.sum0 k
  have a2 := ht.sum1 (k := k) (by omega)
  have a3 := lack_sum0 g.there t k
  have a4 := lack_sum1 ht h.there0 (k := k) (by omega)
  have := h.put0; have := h.put1; have := h.tak0; have := h.tak1; have := h.lac0; have := h.lac1; have := h.sum
  have hle := sumTo_le (f := g.there) (g := fun _ => 4500) (k := P) fun j _ => by have := h.there1 j; omega
  rw [sumTo_const, ← h.left] at hle
  have hge : 0 ≤ sumTo g.there P := sumTo_nonneg fun j _ => h.there0 j
  rw [← h.left] at hge
  have e1 : sumTo (fun p => lackG g.there t p - nth t p) k = sumTo (lackG g.there t) k - sumTo (nth t) k := sumTo_sub _ _ _
  simp only [takeTo]
  refine ⟨by omega, by omega, by omega, by omega, by omega, by omega⟩

set_option maxHeartbeats 2000000 in
theorem put_any (B R P K : Nat) (g : GameL) (v : Value) (t : List Int) (w : World) (h : GameAt B R P w g) (hP : P ≤ 16) (hb : BndG P K g) (hK : K ≤ 500) (ht : Toks P t) (hv : ∀ w', Two B R w w' → Ints w' v t) :
    Calls Tryd.prog 9 #[.pointer (some ⟨B, 0, none⟩), v] w fun e w' => e = .returned (.tuple #[]) ∧ GameAt B R P w' (putG g t) ∧ Two B R w w' := by
  obtain ⟨a, len, cap, rfl, hlen, hmx, hsh, _⟩ := hv w (Two.refl _ _ _)
  have Hv : Hid _ := hv
  have Hlen : Hid (t.length = len) := hlen
  have hlP : len = P := by rw [← hlen]; exact ht.len
  subst hlP
  have Ht : Hid _ := ht
  have Hb : Hid _ := hb
  clear hv hlen ht hb
  go_enter Tryd.func9, Tryd.ntmps9
  go_wp2_with fail
  go_loopg [8] len (fun gk i wr => ∃ k : Nat, k + gk = len ∧ i = .int .i64 k ∧ GameAt B R len wr (putTo g t k) ∧ Two B R w wr)
  case atStart => exact ⟨0, by omega, rfl, h.same (by simp [putTo, sumTo]) (fun j _ => by simp [putTo]), Two.refl _ _ _⟩
  case round =>
    obtain ⟨k, hkg, rfl, hG, hO⟩ := hrel
    by_cases hkn : k < len
    · obtain ⟨a', l', c', e, _, _, _, hr⟩ := Hv.out wr hO
      injection e with e1 e2 e3
      subst e1 e2 e3
      obtain ⟨b, off, rfl, hblt, hc⟩ := hr k (by rw [Hlen.out]; exact hkn)
      obtain ⟨z, Hz⟩ : ∃ z, Hid (nth t k = z) := ⟨_, rfl⟩
      have hz : 0 ≤ z ∧ z ≤ 9 := by rw [← Hz.out]; exact ⟨Ht.out.lo k, Ht.out.hi k⟩
      rw [Hz.out] at hc
      clear hr
      obtain ⟨b1, b2, b3, b4⟩ := putTo_bnd Hb.out hP hK Ht.out (k := k) (by omega)
      obtain ⟨d0, d1, d2, d3, d4, f0, f1, f2, f3⟩ := hG.at
      have hth : (putTo g t k).there k = g.there k := by simp [putTo]
      have t1 := Hb.out.there0 k
      have t2 := Hb.out.there1 k
      have hG1 := hG.fld (k := 0) (u := .int .i64 ((putTo g t k).pl.put + z)) (p' := ⟨(putTo g t k).pl.put + z, (putTo g t k).pl.taken, (putTo g t k).pl.lacked, (putTo g t k).pl.left⟩) rfl
      have HM := move_any B R len k _ z _ hG1 hkn hP (by show 0 ≤ (putTo g t k).there k ∧ (putTo g t k).there k ≤ 1000000; rw [hth]; omega) (by show -1000000 ≤ (putTo g t k).pl.left ∧ (putTo g t k).pl.left ≤ 1000000; omega) (by omega)
      have HR : Hid (∀ w', GameAt B R len w' (moveG ⟨⟨(putTo g t k).pl.put + z, (putTo g t k).pl.taken, (putTo g t k).pl.lacked, (putTo g t k).pl.left⟩, (putTo g t k).there⟩ k z) → GameAt B R len w' (putTo g t (k + 1))) := fun w' q => q.same (by
        rw [← Hz.out]; simp only [moveG, putTo, sumTo]; rw [Int.add_assoc, Int.add_assoc]) (fun j _ => by rw [← Hz.out]; exact (putTo_next g t k j).symm)
      have HO2 : Hid _ := Two.setL B R 0 wr (.int .i64 ((putTo g t k).pl.put + z))
      obtain ⟨p0, Hp0⟩ : ∃ x, Hid ((putTo g t k).pl.put = x) := ⟨_, rfl⟩
      rw [Hp0.out] at d0 b1 b2 HM HO2 HR
      clear hG1 hG d1 d2 d3 d4 t1 t2 hth b3 b4
      go_wp2_with fail
      refine HM.mono ?_
      rintro e w2 ⟨rfl, q1, q2⟩
      have R1 := HR.out _ q1
      have R2 := (hO.trans HO2.out).trans q2
      clear HM HR HO2 q1 q2 d0 f0 f1 f2 f3 hc Hp0 hO
      go_wp2
      go_roundg (gk - 1)
      case measure => omega
      case rel => exact ⟨k + 1, by omega, by go_num, R1, R2⟩
    · obtain rfl : k = len := by omega
      have R1 : Hid (GameAt B R k wr (putG g t)) := by unfold putG; rw [Hlen.out]; exact hG
      clear hG
      go_wp2
      go_end0
      exact ⟨rfl, R1.out, hO⟩

set_option maxHeartbeats 2000000 in
theorem take_any (B R P K : Nat) (g : GameL) (v : Value) (t : List Int) (w : World) (h : GameAt B R P w g) (hP : P ≤ 16) (hb : BndG P K g) (hK : K ≤ 500) (ht : Toks P t) (hv : ∀ w', Two B R w w' → Ints w' v t) :
    Calls Tryd.prog 13 #[.pointer (some ⟨B, 0, none⟩), v] w fun e w' => e = .returned (.tuple #[]) ∧ GameAt B R P w' (takeG g t) ∧ Two B R w w' := by
  obtain ⟨a, len, cap, rfl, hlen, hmx, hsh, _⟩ := hv w (Two.refl _ _ _)
  have Hv : Hid _ := hv
  have Hlen : Hid (t.length = len) := hlen
  have hlP : len = P := by rw [← hlen]; exact ht.len
  subst hlP
  have Ht : Hid _ := ht
  have Hb : Hid _ := hb
  clear hv hlen ht hb
  go_enter Tryd.func13, Tryd.ntmps13
  go_wp2_with fail
  go_loopg [9] len (fun gk i wr => ∃ k : Nat, k + gk = len ∧ i = .int .i64 k ∧ GameAt B R len wr (takeTo g t k) ∧ Two B R w wr)
  case atStart => exact ⟨0, by omega, rfl, h.same (by simp [takeTo, sumTo]) (fun j _ => by simp [takeTo]), Two.refl _ _ _⟩
  case round =>
    obtain ⟨k, hkg, rfl, hG, hO⟩ := hrel
    by_cases hkn : k < len
    · obtain ⟨a', l', c', e, _, _, _, hr⟩ := Hv.out wr hO
      injection e with e1 e2 e3
      subst e1 e2 e3
      obtain ⟨b, off, rfl, hblt, hc⟩ := hr k (by rw [Hlen.out]; exact hkn)
      obtain ⟨z, Hz⟩ : ∃ z, Hid (nth t k = z) := ⟨_, rfl⟩
      have hz : 0 ≤ z ∧ z ≤ 9 := by rw [← Hz.out]; exact ⟨Ht.out.lo k, Ht.out.hi k⟩
      rw [Hz.out] at hc
      clear hr
      obtain ⟨b1, b2, b3, b4, b5, b6⟩ := takeTo_bnd Hb.out hP hK Ht.out (k := k) (by omega)
      obtain ⟨d0, d1, d2, d3, d4, f0, f1, f2, f3⟩ := hG.at
      have hth : (takeTo g t k).there k = g.there k := by simp [takeTo]
      have ct := hG.cells k hkn
      have t1 := Hb.out.there0 k
      have t2 := Hb.out.there1 k
      obtain ⟨x, Hx⟩ : ∃ x, Hid (g.there k = x) := ⟨_, rfl⟩
      rw [hth, Hx.out] at ct
      rw [Hx.out] at t1 t2
      obtain ⟨L, HL⟩ : ∃ x, Hid (lackG g.there t k = x) := ⟨_, rfl⟩
      have eL : L = max (z - x) 0 := by rw [← HL.out, ← Hz.out, ← Hx.out]; rfl
      have hG1 := hG.fld (k := 2) (u := .int .i64 ((takeTo g t k).pl.lacked + L)) (p' := ⟨(takeTo g t k).pl.put, (takeTo g t k).pl.taken, (takeTo g t k).pl.lacked + L, (takeTo g t k).pl.left⟩) rfl
      obtain ⟨_, d1', _, _, _, _, f1', _, _⟩ := hG1.at
      have hG2 := hG1.fld (k := 1) (u := .int .i64 ((takeTo g t k).pl.taken + z)) (p' := ⟨(takeTo g t k).pl.put, (takeTo g t k).pl.taken + z, (takeTo g t k).pl.lacked + L, (takeTo g t k).pl.left⟩) rfl
      have HM := move_any B R len k _ (L - z) _ hG2 hkn hP (by show 0 ≤ (takeTo g t k).there k ∧ (takeTo g t k).there k ≤ 1000000; rw [hth, Hx.out]; omega) (by show -1000000 ≤ (takeTo g t k).pl.left ∧ (takeTo g t k).pl.left ≤ 1000000; omega) (by omega)
      have HR : Hid (∀ w', GameAt B R len w' (moveG ⟨⟨(takeTo g t k).pl.put, (takeTo g t k).pl.taken + z, (takeTo g t k).pl.lacked + L, (takeTo g t k).pl.left⟩, (takeTo g t k).there⟩ k (L - z)) → GameAt B R len w' (takeTo g t (k + 1))) := fun w' q => q.same (by
        rw [← Hz.out, ← HL.out]; simp only [moveG, takeTo, sumTo]; rw [Int.add_assoc, Int.add_assoc, Int.add_assoc]) (fun j _ => by rw [← Hz.out, ← HL.out]; exact (takeTo_next g t k j).symm)
      have HO2 : Hid (Two B R wr ((wr.setCell ⟨B, 2, none⟩ (.int .i64 ((takeTo g t k).pl.lacked + L))).setCell ⟨B, 1, none⟩ (.int .i64 ((takeTo g t k).pl.taken + z)))) := (Two.setL B R 2 wr _).trans (Two.setL B R 1 _ _)
      obtain ⟨p1, Hp1⟩ : ∃ x, Hid ((takeTo g t k).pl.taken = x) := ⟨_, rfl⟩
      obtain ⟨p2, Hp2⟩ : ∃ x, Hid ((takeTo g t k).pl.lacked = x) := ⟨_, rfl⟩
      simp only [Hp1.out, Hp2.out] at d1 d2 d1' b1 b2 b3 b4 HM HO2 HR
      have HR' : Hid _ := HR
      have HO2' : Hid _ := HO2
      clear hG1 hG2 hG d0 d3 hth b5 b6 HR HO2 Hp1 Hp2 HL Hx Hz
      have hcase : (z - x < 0 ∧ L = 0) ∨ (z - x = 0 ∧ L = 0) ∨ (0 < z - x ∧ L = z - x) := by omega
      clear eL
      have fin : ∀ w2, Hid (GameAt B R len w2 (moveG ⟨⟨(takeTo g t k).pl.put, p1 + z, p2 + L, (takeTo g t k).pl.left⟩, (takeTo g t k).there⟩ k (L - z))) → Hid (Two B R ((wr.setCell ⟨B, 2, none⟩ (.int .i64 (p2 + L))).setCell ⟨B, 1, none⟩ (.int .i64 (p1 + z))) w2) → Hid (GameAt B R len w2 (takeTo g t (k + 1)) ∧ Two B R w w2) := fun w2 q1 q2 => ⟨HR'.out _ q1.out, (hO.trans HO2'.out).trans q2.out⟩
      clear HR' HO2' hO
      have Hfin : Hid _ := fin
      clear fin
      rcases hcase with ⟨hq, rfl⟩ | ⟨hq, rfl⟩ | ⟨hq, rfl⟩
      all_goals
        try simp only [Int.add_zero, Int.zero_sub] at HM Hfin
        go_wp2_with fail
        refine HM.mono ?_
        rintro e w2 ⟨rfl, q1, q2⟩
        have R1 := Hfin.out _ q1 q2
        clear HM Hfin q1 q2 d1 d2 d4 d1' f1' f0 f1 f2 f3 hc ct
        go_wp2
        go_roundg (gk - 1)
        case measure => omega
        case rel => exact ⟨k + 1, by omega, by go_num, R1.out.1, R1.out.2⟩
    · obtain rfl : k = len := by omega
      have R1 : Hid (GameAt B R k wr (takeG g t)) := by unfold takeG; rw [Hlen.out]; exact hG
      clear hG
      go_wp2
      go_end0
      exact ⟨rfl, R1.out, hO⟩

end Go.Proofs.YtfaehomopgichaaDoor

/- Package replay as it landed: whether each transition has a name of its own; which one has a label. -/
namespace Go.Proofs.YtfaehomopgichaaDoor
open Go.RowKit
set_option linter.unusedVariables false
set_option linter.unusedSimpArgs false
set_option maxRecDepth 4000

def flagsA (N : Nat) (g : Nat → Bool) : Array Value := Array.ofFn (n := N) fun i => .bool (g i)
theorem flagsA_at (N : Nat) (g : Nat → Bool) {j : Nat} (h : j < N) : (flagsA N g)[j]? = some (.bool (g j)) := by
  unfold flagsA
  rw [Array.getElem?_ofFn]
  simp [h]
theorem info_flags27 : (Tryd.prog.info? 58).map (fun i => (i.zero, i.size, i.bytes)) = some (some (.agg (flagsA 27 fun _ => false)), 27, 27) := by kernel_rfl
theorem run_alloc_fl {t : TypeId} {cs : Array Value} {n m : Nat} (hi : (Tryd.prog.info? t).map (fun i => (i.zero, i.size, i.bytes)) = some (some (.agg cs), n, m)) (w : World) :
    (Instr.alloc t true (.tuple #[])).run Tryd.prog w = .ok (.pointer (some ⟨w.heap.size, 0, none⟩)) (w.alloc (.cells cs t)) := by
  obtain ⟨i0, h0, h1, h2, h3⟩ := info_parts hi
  simp [Instr.alloc, zeroValue, typeInfo, h0, h1, newVar, newRow, Value.cells, go_sem]
theorem wp_alloc_fl {o : Oper} {a : Act} {w : World} {K : Act → World → Prop} {Q : Exit → Act → World → Prop} {t : TypeId} {cs : Array Value} {n m : Nat} (hi : (Tryd.prog.info? t).map (fun i => (i.zero, i.size, i.bytes)) = some (some (.agg cs), n, m)) (ho : o.op = .alloc t)
    (h : K (a.put o.dst (.pointer (some ⟨w.heap.size, 0, none⟩))) (w.alloc (.cells cs t))) : o.wp Tryd.prog a w K Q := by
  unfold Oper.wp execOp
  simp only [ho, Sem.run_bind, run_alloc_fl hi, Result.andThen_ok, Sem.run_pure]
  exact h
theorem wpList_alloc_fl {ops : Array Oper} {rest : List Oper} {o : Oper} {a : Act} {w : World} {Q : Exit → Act → World → Prop} {t : TypeId} {cs : Array Value} {n m : Nat} (hgd : o.guard = none) (hi : (Tryd.prog.info? t).map (fun i => (i.zero, i.size, i.bytes)) = some (some (.agg cs), n, m)) (ho : o.op = .alloc t)
    (h : wpList Tryd.prog ops Q rest (a.put o.dst (.pointer (some ⟨w.heap.size, 0, none⟩))) (w.alloc (.cells cs t))) : wpList Tryd.prog ops Q (o :: rest) a w :=
  wpList_plain hgd fun _ hK => wp_alloc_fl hi ho (hK _ _ h)
theorem boolRow_new (w : World) (N : Nat) (g : Nat → Bool) (t : TypeId) : BoolRow (w.alloc (.cells (flagsA N g) t)) w.heap.size N g :=
  ⟨fun j hj => by rw [World.cell?_alloc_at _ _ _ _ rfl]; exact flagsA_at N g hj, fun j hj => World.frozen?_alloc_at _ _ _ _ rfl, by simp⟩

/-- Which labels were met. -/
def usedTo (n : NetL) (k : Nat) (l : Nat) : Bool := decide (l = 0) || (List.range k).any fun j => (tranAt n.trans j).label == (l : Int)
def NamedTo (n : NetL) (k : Nat) : Prop := ∀ a, a < k → (tranAt n.trans a).label ≠ 0 ∧ ∀ j, j < a → (tranAt n.trans j).label ≠ (tranAt n.trans a).label
theorem used_iff (n : NetL) (k l : Nat) : usedTo n k l = true ↔ l = 0 ∨ ∃ j, j < k ∧ (tranAt n.trans j).label = l := by
  simp [usedTo]
theorem used_next (n : NetL) (k l m : Nat) (h : (tranAt n.trans k).label = l) : usedTo n (k + 1) m = if m = l then true else usedTo n k m := by
  rw [Bool.eq_iff_iff, used_iff]
  by_cases e : m = l
  · subst e; simp; exact .inr ⟨k, by omega, h⟩
  · rw [if_neg e, used_iff]
    constructor
    · rintro (q | ⟨j, hj, q⟩)
      · exact .inl q
      · by_cases ej : j = k
        · subst ej; omega
        · exact .inr ⟨j, by omega, q⟩
    · rintro (q | ⟨j, hj, q⟩)
      · exact .inl q
      · exact .inr ⟨j, by omega, q⟩
theorem named_next {n : NetL} {k l : Nat} (h : NamedTo n k) (hl : (tranAt n.trans k).label = l) (hu : usedTo n k l = false) : NamedTo n (k + 1) := by
  have hu' : ¬ (l = 0 ∨ ∃ j, j < k ∧ (tranAt n.trans j).label = l) := fun q => by rw [(used_iff n k l).2 q] at hu; cases hu
  intro a ha
  by_cases e : a = k
  · subst e
    exact ⟨fun q => hu' (.inl (by omega)), fun j hj q => hu' (.inr ⟨j, hj, by omega⟩)⟩
  · exact h a (by omega)
theorem named_not {n : NetL} {k l : Nat} (hk : k < n.trans.length) (hl : (tranAt n.trans k).label = l) (hu : usedTo n k l = true) : ¬ NamedN n := by
  intro h
  rcases (used_iff n k l).1 hu with q | ⟨j, hj, q⟩
  · exact (h k hk).1 (by omega)
  · exact (h k hk).2 j hj (by omega)
theorem lab_bound {n : NetL} (hn : netOk n = true) {k : Nat} (hk : k < n.trans.length) : 0 ≤ (tranAt n.trans k).label ∧ (tranAt n.trans k).label ≤ 26 := by
  have := net_tran hn hk
  unfold tranOk tranHead at this
  simp only [Bool.and_eq_true, decide_eq_true_eq, beq_iff_eq] at this
  omega

set_option maxHeartbeats 2000000 in
theorem named_any (v : Value) (n : NetL) (w : World) (hv : Net w v n) (hn : netOk n = true) :
    Calls Tryd.prog 8 #[v] w fun e w' => ∃ b, e = .returned (.bool b) ∧ (b = true ↔ NamedN n) ∧ Below w.heap.size w w' := by
  obtain ⟨tv, rfl, hT⟩ := hv
  obtain ⟨ta, len, tc, rfl, hlen, hmx, _⟩ := id hT
  have b1 := below_new w (.cells #[.int .i64 n.places, .slice ta len tc] 24)
  have hbx := box2_new w (.int .i64 n.places) (.slice ta len tc) 24
  obtain ⟨wa, Hwa⟩ : ∃ v, Hid (w.alloc (.cells #[.int .i64 n.places, .slice ta len tc] 24) = v) := ⟨_, rfl⟩
  rw [Hwa.out] at b1 hbx
  have s1 : wa.heap.size = w.heap.size + 1 := by rw [← Hwa.out]; simp
  have b2 := below_new wa (.cells (flagsA 27 fun _ => false) 58)
  have hR := boolRow_new wa 27 (fun _ => false) 58
  rw [s1] at hR
  obtain ⟨w0, Hw0⟩ : ∃ v, Hid (wa.alloc (.cells (flagsA 27 fun _ => false) 58) = v) := ⟨_, rfl⟩
  rw [Hw0.out] at b2 hR
  replace hbx := hbx.below b2
  have c0 := below_then b1 b2
  have Hlen : Hid (n.trans.length = len) := hlen
  clear hlen
  go_enter Tryd.func8, Tryd.ntmps8
  go_upto_region 1 with fail
  rw [Hwa.out]
  go_upto_region 2 with (refine wpList_alloc_fl rfl info_flags27 rfl ?_)
  first | rw [s1, Hw0.out] | rw [Hw0.out]
  try simp only [Act.put, List.setIfInBounds_toArray, List.set_cons_zero, List.set_cons_succ]
  clear Hwa Hw0 s1 b1 b2
  have k0 := hR.cells 0 (by omega)
  have k1 := hR.frozen 0 (by omega)
  have hR1 := hR.put (k := 0) (by omega) (x := true) (g := usedTo n 0) (by rfl) (fun j hj hne => by simp [usedTo, hne])
  have c1 : Below w.heap.size w (w0.setCell ⟨w.heap.size + 1, 0, none⟩ (.bool true)) := c0.setCell (p := ⟨w.heap.size + 1, 0, none⟩) (by simp) _
  obtain ⟨x0, x1, x2⟩ := id hbx
  have HR1 : Hid _ := hR1
  have Hc1 : Hid _ := c1
  clear hR hR1 c1 c0
  go_upto_region 3 with fail
  obtain ⟨w1, Hw1⟩ : ∃ v, Hid (w0.setCell ⟨w.heap.size + 1, 0, none⟩ (.bool true) = v) := ⟨_, rfl⟩
  rw [Hw1.out] at HR1 Hc1 ⊢
  have y1 : w1.cell? ⟨w.heap.size, 1, none⟩ = some (.slice ta len tc) := by rw [← Hw1.out, World.cell?_setCell_other _ _ _ _ (by intro q; injection q with q1 _; omega)]; exact x2
  clear k0 k1 x0 x1 x2 Hw1 hbx
  go_wp2_with fail
  go_loopg [10] len (fun gk i wr => ∃ k : Nat, k + gk = len ∧ i = .int .i64 k ∧ Below w.heap.size w wr ∧ BoolRow wr (w.heap.size + 1) 27 (usedTo n k) ∧ Hid (NamedTo n k))
  case atStart => exact ⟨0, by omega, rfl, Hc1.out, HR1.out, fun a ha => absurd ha (Nat.not_lt_zero _)⟩
  case round =>
    obtain ⟨k, hkg, rfl, hb, hU, HN⟩ := hrel
    by_cases hkn : k < len
    · have Hkl : Hid (k < n.trans.length) := by show k < n.trans.length; rw [Hlen.out]; exact hkn
      obtain ⟨tb, tf, c1, c2, rfl, hblt, t0, t1, t2, i1, i2⟩ := (hT.below hb).at hkn
      obtain ⟨L, HL⟩ : ∃ L, Hid ((tranAt n.trans k).label = L) := ⟨_, rfl⟩
      have hl := lab_bound hn Hkl.out
      rw [HL.out] at hl t0
      obtain ⟨l, rfl⟩ := Int.eq_ofNat_of_zero_le hl.1
      have hl27 : l < 27 := by omega
      clear hl
      obtain ⟨a1, l1, p1, rfl, _⟩ := id i1
      obtain ⟨a2, l2, p2, rfl, _⟩ := id i2
      clear i1 i2
      have bb := below_new wr (.cells #[.int .i64 (l : Int), .slice a1 l1 p1, .slice a2 l2 p2] 36)
      have q0 := (hU.below bb).cells l hl27
      have q1 := (hU.below bb).frozen l hl27
      have hU2 := (hU.below bb).put (k := l) hl27 (x := true) (g := usedTo n (k + 1)) (by rw [used_next n k l l HL.out, if_pos rfl]) (fun j hj hne => by rw [used_next n k l j HL.out, if_neg hne])
      have hb2 : Below w.heap.size w ((wr.alloc (.cells #[.int .i64 (l : Int), .slice a1 l1 p1, .slice a2 l2 p2] 36)).setCell ⟨w.heap.size + 1, l, none⟩ (.bool true)) := (below_then hb bb).setCell (p := ⟨w.heap.size + 1, l, none⟩) (by simp) _
      have hb1 := below_then hb bb
      have Hb1 : Hid _ := hb1
      have Hb2 : Hid _ := hb2
      have HU2 : Hid _ := hU2
      clear bb hU2 hb2 hb1
      cases hu : usedTo n k l
      · have HN2 : Hid (NamedTo n (k + 1)) := named_next HN.out HL.out hu
        rw [hu] at q0
        clear HN HL hU hu hb
        go_wp2
        go_roundg (gk - 1)
        case measure => omega
        case rel => exact ⟨k + 1, by omega, by go_num, Hb2.out, HU2.out, HN2⟩
      · have HN2 : Hid (¬ NamedN n) := named_not Hkl.out HL.out hu
        rw [hu] at q0
        clear HN HL hU hu hb
        go_wp2
        go_ret
        exact ⟨_, rfl, ⟨fun q => (by cases q), fun q => absurd q HN2.out⟩, Hb1.out⟩
    · obtain rfl : k = len := by omega
      have HN2 : Hid (NamedN n) := fun a ha => HN.out a (by rw [← Hlen.out]; exact ha)
      clear HN
      go_wp2
      go_ret
      exact ⟨_, rfl, ⟨fun _ => HN2.out, fun _ => rfl⟩, hb⟩

/-- The function g with the captured value q tells p of every transition, in every world that comes of w0. -/
def AsksT1 (w0 : World) (g : Nat) (q : Value) (p : TranL → Bool) : Prop :=
  ∀ u1 u2 (x : TranL) w, Below w0.heap.size w0 w → Ints w u1 x.pre → Ints w u2 x.post → Calls Tryd.prog g #[.agg #[.int .i64 x.label, u1, u2], q] w fun e w' => e = .returned (.bool (p x)) ∧ Below w.heap.size w w'
/-- The first one's number, or -1. -/
def idxI (o : Option Nat) : Int := match o with | none => -1 | some k => k
theorem find_first {ls : List TranL} {p : TranL → Bool} {k : Nat} (hk : k < ls.length) (h : ∀ j, j < k → p (tranAt ls j) = false) (hp : p (tranAt ls k) = true) : ls.findIdx? p = some k := by
  rw [List.findIdx?_eq_some_iff_getElem]
  refine ⟨hk, by rw [← tranAt_get hk]; exact hp, fun j hj => ?_⟩
  have := h j hj
  rw [tranAt_get (by omega)] at this
  simp [this]
theorem find_none {ls : List TranL} {p : TranL → Bool} (h : ∀ j, j < ls.length → p (tranAt ls j) = false) : ls.findIdx? p = none := by
  rw [List.findIdx?_eq_none_iff]
  intro x hx
  obtain ⟨j, hj, rfl⟩ := List.getElem_of_mem hx
  have := h j hj
  rwa [tranAt_get hj] at this

set_option maxHeartbeats 1000000 in
theorem indextrans1 (w0 : World) (g : Nat) (q : Value) (p : TranL → Bool) (hg : AsksT1 w0 g q p) (eg : ∀ args w, (callFunc g args).run Tryd.prog w = .ok (.enter g args) w) (v : Value) (ls : List TranL) (w : World) (hw : Below w0.heap.size w0 w) (hv : Trans w v ls) :
    Calls Tryd.prog 11 #[v, .func (.func g) #[] #[q]] w fun e w' => e = .returned (.int .i64 (idxI (ls.findIdx? p))) ∧ Below w.heap.size w w' := by
  obtain ⟨a, len, ca, rfl, hlen, hla, hsh, _⟩ := id hv
  have Hg : Hid _ := hg
  have Hlen : Hid (ls.length = len) := hlen
  clear hg hlen
  go_enter Tryd.func11, Tryd.ntmps11
  go_wp2_with fail
  go_loopg [8] len (fun g i wr => ∃ k : Nat, k + g = len ∧ i = .int .i64 k ∧ Below w.heap.size w wr ∧ Hid (∀ j, j < k → p (tranAt ls j) = false))
  case atStart => exact ⟨0, by omega, rfl, Below.refl _ _, fun j hj => absurd hj (Nat.not_lt_zero _)⟩
  case round =>
    obtain ⟨k, hkg, rfl, hb, Hn⟩ := hrel
    by_cases hkn : k < len
    · obtain ⟨b, off, c1, c2, rfl, hblt, h0, h1, h2, i1, i2⟩ := (hv.below hb).at hkn
      have hw2 := below_then hw hb
      obtain ⟨t, Ht⟩ : ∃ t, Hid (tranAt ls k = t) := ⟨_, rfl⟩
      rw [Ht.out] at h0 i1 i2
      obtain ⟨a1, l1, p1, rfl, _, _, _, _⟩ := id i1
      obtain ⟨a2, l2, p2, rfl, _, _, _, _⟩ := id i2
      go_wp2_with fail
      refine (Hg.out _ _ t _ (by exact hw2) (by exact i1) (by exact i2)).mono ?_
      rintro e w2 ⟨rfl, b'⟩
      have R := below_then hb b'
      cases hp : p t
      · have Hn2 : Hid (∀ j, j < k + 1 → p (tranAt ls j) = false) := fun j hj => by
          by_cases e : j = k
          · subst e; rw [Ht.out]; exact hp
          · exact Hn.out j (by omega)
        clear b' hb i1 i2 h0 h1 h2 hp hw2
        go_wp2
        go_roundg (gk - 1)
        case measure => omega
        case rel => exact ⟨k + 1, by omega, by go_num, R, Hn2⟩
      · have F : Hid (ls.findIdx? p = some k) := find_first (by have := Hlen.out; omega) Hn.out (by rw [Ht.out]; exact hp)
        clear b' hb i1 i2 h0 h1 h2 hp hw2
        go_wp2
        go_ret
        exact ⟨by rw [F.out]; rfl, R⟩
    · have F : Hid (ls.findIdx? p = none) := find_none fun j hj => Hn.out j (by have := Hlen.out; omega)
      go_wp2
      go_ret
      exact ⟨by rw [F.out]; rfl, hb⟩

theorem labels_asks (w0 : World) (bl : Nat) (l : Int) (hl : Box1 w0 bl (.int .i64 l)) : AsksT1 w0 12 (.pointer (some ⟨bl, 0, none⟩)) (hasLab l) := by
  intro u1 u2 x w hb h1 h2
  obtain ⟨a1, l1, p1, rfl, _⟩ := id h1
  obtain ⟨a2, l2, p2, rfl, _⟩ := id h2
  have bb := below_new w (.cells #[.int .i64 x.label, .slice a1 l1 p1, .slice a2 l2 p2] 36)
  obtain ⟨hlt, c0⟩ := (hl.below hb).below bb
  obtain ⟨y, Hy⟩ : ∃ y, Hid (x.label = y) := ⟨_, rfl⟩
  have R : Hid (hasLab l x = (y == l)) := by unfold hasLab; rw [Hy.out]; rfl
  rw [Hy.out] at bb c0 ⊢
  rw [R.out]
  clear h1 h2 hb hl hlt
  go_enter Tryd.func12, Tryd.ntmps12
  go_wp2
  go_ret
  exact ⟨rfl, bb⟩

end Go.Proofs.YtfaehomopgichaaDoor

/- Which places and transitions are behind a place, reckoned round by round. -/
namespace Go.Proofs.YtfaehomopgichaaDoor
set_option linter.unusedVariables false
set_option maxRecDepth 4000

/-- What is known so far: of places, of transitions. -/
structure WayS where
  ps : Nat → Bool
  ts : Nat → Bool

/-- Does one of the first j places lead to a transition? -/
def leadTo (ps : Nat → Bool) (w : List Int) (b : Bool) : Nat → Bool
  | 0 => b
  | j + 1 => leadTo ps w b j || (ps j && decide (0 < nth w j))
/-- The first j places that a transition leads to. -/
def feedTo (ps : Nat → Bool) (w : List Int) (b : Bool) (j : Nat) : Nat → Bool := fun q => ps q || (decide (q < j) && (b && decide (0 < nth w q)))
def setAt (ts : Nat → Bool) (k : Nat) (b : Bool) : Nat → Bool := fun j => if j = k then b else ts j

def tranWay (n : NetL) (s : WayS) (k : Nat) : WayS :=
  ⟨feedTo s.ps (tranAt n.trans k).post (leadTo s.ps (tranAt n.trans k).pre (s.ts k) n.places.toNat) n.places.toNat, setAt s.ts k (leadTo s.ps (tranAt n.trans k).pre (s.ts k) n.places.toNat)⟩
def roundWay (n : NetL) (s : WayS) : Nat → WayS
  | 0 => s
  | k + 1 => tranWay n (roundWay n s k) k
def startWay (f : Nat) : WayS := ⟨fun q => decide (q = f), fun _ => false⟩
def waysTo (n : NetL) (f : Nat) : Nat → WayS
  | 0 => startWay f
  | r + 1 => roundWay n (waysTo n f r) n.trans.length
def waysL (n : NetL) (f : Nat) : WayS := waysTo n f (n.places.toNat + n.trans.length)

theorem lead_mono {ps : Nat → Bool} {w : List Int} {b : Bool} (h : b = true) (j : Nat) : leadTo ps w b j = true := by
  induction j with
  | zero => exact h
  | succ j ih => unfold leadTo; rw [ih]; rfl
theorem lead_iff {ps : Nat → Bool} {w : List Int} {b : Bool} (j : Nat) : leadTo ps w b j = true ↔ b = true ∨ ∃ q, q < j ∧ ps q = true ∧ 0 < nth w q := by
  induction j with
  | zero => simp [leadTo]
  | succ j ih =>
    unfold leadTo
    rw [Bool.or_eq_true, ih, Bool.and_eq_true, decide_eq_true_eq]
    constructor
    · rintro ((h | ⟨q, h1, h2⟩) | ⟨h1, h2⟩)
      · exact .inl h
      · exact .inr ⟨q, by omega, h2⟩
      · exact .inr ⟨j, by omega, h1, h2⟩
    · rintro (h | ⟨q, h1, h2⟩)
      · exact .inl (.inl h)
      · by_cases e : q = j
        · subst e; exact .inr h2
        · exact .inl (.inr ⟨q, by omega, h2⟩)
theorem feed_iff {ps : Nat → Bool} {w : List Int} {b : Bool} {j q : Nat} : feedTo ps w b j q = true ↔ ps q = true ∨ (q < j ∧ b = true ∧ 0 < nth w q) := by
  unfold feedTo
  rw [Bool.or_eq_true, Bool.and_eq_true, Bool.and_eq_true, decide_eq_true_eq, decide_eq_true_eq]

/-- Nothing that was known is lost. -/
structure WayLe (s u : WayS) : Prop where
  ps : ∀ q, s.ps q = true → u.ps q = true
  ts : ∀ k, s.ts k = true → u.ts k = true
theorem WayLe.refl (s : WayS) : WayLe s s := ⟨fun _ h => h, fun _ h => h⟩
theorem WayLe.trans {s u v : WayS} (h : WayLe s u) (k : WayLe u v) : WayLe s v := ⟨fun q h1 => k.ps q (h.ps q h1), fun q h1 => k.ts q (h.ts q h1)⟩
theorem WayLe.eq {s u : WayS} (h : WayLe s u) (k : WayLe u s) : s = u := by
  cases s with
  | mk p t =>
    cases u with
    | mk p2 t2 =>
      have e1 : p = p2 := by funext q; rw [Bool.eq_iff_iff]; exact ⟨h.ps q, k.ps q⟩
      have e2 : t = t2 := by funext q; rw [Bool.eq_iff_iff]; exact ⟨h.ts q, k.ts q⟩
      rw [e1, e2]
theorem tran_le (n : NetL) (s : WayS) (k : Nat) : WayLe s (tranWay n s k) := by
  refine ⟨fun q h => feed_iff.2 (.inl h), fun j h => ?_⟩
  show setAt s.ts k _ j = true
  unfold setAt
  split
  · rename_i e; subst e; exact lead_mono h _
  · exact h
theorem round_le (n : NetL) (s : WayS) : ∀ k, WayLe s (roundWay n s k)
  | 0 => WayLe.refl s
  | k + 1 => (round_le n s k).trans (tran_le n _ k)

/-- What is known is so. -/
structure WaySound (n : NetL) (f : Nat) (s : WayS) : Prop where
  ps : ∀ q, s.ps q = true → WayP n f q
  ts : ∀ k, k < n.trans.length → s.ts k = true → WayT n f k
theorem sound_start (n : NetL) (f : Nat) : WaySound n f (startWay f) := by
  refine ⟨fun q h => ?_, fun k _ h => by cases h⟩
  have : q = f := of_decide_eq_true h
  subst this; exact WayP.here n q
theorem sound_tran {n : NetL} {f : Nat} {s : WayS} (h : WaySound n f s) {k : Nat} (hk : k < n.trans.length) : WaySound n f (tranWay n s k) := by
  have hb : leadTo s.ps (tranAt n.trans k).pre (s.ts k) n.places.toNat = true → WayT n f k := fun q => by
    rcases (lead_iff _).1 q with q | ⟨a, h1, h2, h3⟩
    · exact h.ts k hk q
    · exact ⟨a, h.ps a h2, by omega⟩
  refine ⟨fun q hq => ?_, fun j hj hq => ?_⟩
  · rcases feed_iff.1 hq with q1 | ⟨h1, h2, h3⟩
    · exact h.ps q q1
    · obtain ⟨a, h4, h5⟩ := hb h2
      exact h4.step hk h5 (by omega)
  · have hq : setAt s.ts k _ j = true := hq
    unfold setAt at hq
    split at hq
    · rename_i e; subst e; exact hb hq
    · exact h.ts j hj hq
theorem sound_round {n : NetL} {f : Nat} {s : WayS} (h : WaySound n f s) : ∀ k, k ≤ n.trans.length → WaySound n f (roundWay n s k)
  | 0, _ => h
  | k + 1, hk => sound_tran (sound_round h k (by omega)) (by omega)
theorem sound_ways (n : NetL) (f : Nat) : ∀ r, WaySound n f (waysTo n f r)
  | 0 => sound_start n f
  | r + 1 => sound_round (sound_ways n f r) _ (Nat.le_refl _)

/-- How much is not known yet. -/
def gapOf (g : Nat → Bool) (k : Nat) : Nat := ((List.range k).filter fun j => !g j).length
theorem gap_zero (g : Nat → Bool) : gapOf g 0 = 0 := rfl
theorem gap_succ (g : Nat → Bool) (k : Nat) : gapOf g (k + 1) = gapOf g k + (if g k = true then 0 else 1) := by
  unfold gapOf
  rw [List.range_succ, List.filter_append, List.length_append]
  congr 1
  cases h : g k <;> simp [h]
theorem gap_le (g : Nat → Bool) (k : Nat) : gapOf g k ≤ k := by
  induction k with
  | zero => exact Nat.le_refl _
  | succ k ih => rw [gap_succ]; split <;> omega
theorem gap_some {g : Nat → Bool} {k j : Nat} (hj : j < k) (h : g j = true) : gapOf g k + 1 ≤ k := by
  induction k with
  | zero => omega
  | succ k ih =>
    rw [gap_succ]
    by_cases e : j = k
    · subst e; rw [if_pos h]; have := gap_le g j; omega
    · have := ih (by omega)
      split <;> omega
theorem gap_mono {g h : Nat → Bool} (hm : ∀ j, g j = true → h j = true) (k : Nat) : gapOf h k ≤ gapOf g k := by
  induction k with
  | zero => exact Nat.le_refl _
  | succ k ih =>
    rw [gap_succ, gap_succ]
    have := hm k
    by_cases e : g k = true
    · rw [if_pos e, if_pos (this e)]; exact ih
    · rw [if_neg e]; split <;> omega
theorem gap_same {g h : Nat → Bool} (hm : ∀ j, g j = true → h j = true) (k : Nat) (he : gapOf g k ≤ gapOf h k) : ∀ j, j < k → h j = true → g j = true := by
  induction k with
  | zero => intro j hj; omega
  | succ k ih =>
    rw [gap_succ, gap_succ] at he
    have hk := gap_mono hm k
    intro j hj hh
    by_cases e : j = k
    · subst e
      by_cases q : g j = true
      · exact q
      · rw [if_neg q, if_pos hh] at he; omega
    · refine ih ?_ j (by omega) hh
      by_cases q : g k = true
      · rw [if_pos q, if_pos (hm k q)] at he; omega
      · rw [if_neg q] at he; split at he <;> omega

theorem tran_out (n : NetL) (s : WayS) (k : Nat) : (∀ q, n.places.toNat ≤ q → (tranWay n s k).ps q = s.ps q) ∧ (∀ j, j ≠ k → (tranWay n s k).ts j = s.ts j) := by
  refine ⟨fun q hq => ?_, fun j hj => ?_⟩
  · show feedTo _ _ _ _ q = _
    unfold feedTo
    rw [decide_eq_false (by omega)]
    simp
  · show setAt _ _ _ j = _
    unfold setAt
    rw [if_neg hj]
theorem round_out (n : NetL) (s : WayS) : ∀ k, (∀ q, n.places.toNat ≤ q → (roundWay n s k).ps q = s.ps q) ∧ (∀ j, k ≤ j → (roundWay n s k).ts j = s.ts j)
  | 0 => ⟨fun _ _ => rfl, fun _ _ => rfl⟩
  | k + 1 => by
    obtain ⟨h1, h2⟩ := round_out n s k
    obtain ⟨h3, h4⟩ := tran_out n (roundWay n s k) k
    exact ⟨fun q hq => (h3 q hq).trans (h1 q hq), fun j hj => (h4 j (by omega)).trans (h2 j (by omega))⟩

def gapW (n : NetL) (s : WayS) : Nat := gapOf s.ps n.places.toNat + gapOf s.ts n.trans.length
/-- A round that tells nothing new changes nothing. -/
theorem round_same {n : NetL} {s : WayS} (h : gapW n s ≤ gapW n (roundWay n s n.trans.length)) : roundWay n s n.trans.length = s := by
  have hle := round_le n s n.trans.length
  have m1 := gap_mono hle.ps n.places.toNat
  have m2 := gap_mono hle.ts n.trans.length
  unfold gapW at h
  obtain ⟨o1, o2⟩ := round_out n s n.trans.length
  refine (hle.eq ⟨fun q hq => ?_, fun k hk => ?_⟩).symm
  · by_cases e : q < n.places.toNat
    · exact gap_same hle.ps n.places.toNat (by omega) q e hq
    · rw [← o1 q (by omega)]; exact hq
  · by_cases e : k < n.trans.length
    · exact gap_same hle.ts n.trans.length (by omega) k e hk
    · rw [← o2 k (by omega)]; exact hk
theorem round_end (n : NetL) (f : Nat) (hf : f < n.places.toNat) : ∀ r, roundWay n (waysTo n f r) n.trans.length = waysTo n f r ∨ gapW n (waysTo n f r) + r + 1 ≤ n.places.toNat + n.trans.length
  | 0 => by
    right
    have h1 := gap_some (g := (startWay f).ps) (k := n.places.toNat) (j := f) hf (decide_eq_true rfl)
    have h2 := gap_le (startWay f).ts n.trans.length
    show gapOf _ _ + gapOf _ _ + 0 + 1 ≤ _
    show gapOf (startWay f).ps n.places.toNat + gapOf (startWay f).ts n.trans.length + 0 + 1 ≤ _
    omega
  | r + 1 => by
    rcases round_end n f hf r with h | h
    · left
      show roundWay n (roundWay n (waysTo n f r) n.trans.length) n.trans.length = roundWay n (waysTo n f r) n.trans.length
      rw [h, h]
    · by_cases e : gapW n (waysTo n f r) ≤ gapW n (roundWay n (waysTo n f r) n.trans.length)
      · left
        have h1 := round_same e
        show roundWay n (roundWay n (waysTo n f r) n.trans.length) n.trans.length = roundWay n (waysTo n f r) n.trans.length
        rw [h1, h1]
      · right
        show gapW n (roundWay n (waysTo n f r) n.trans.length) + (r + 1) + 1 ≤ _
        omega
theorem ways_stable (n : NetL) (f : Nat) (hf : f < n.places.toNat) : roundWay n (waysL n f) n.trans.length = waysL n f := by
  rcases round_end n f hf (n.places.toNat + n.trans.length) with h | h
  · exact h
  · omega
/-- Where a round changes nothing, no transition does. -/
theorem stable_tran {n : NetL} {s : WayS} (h : roundWay n s n.trans.length = s) {k : Nat} (hk : k < n.trans.length) : tranWay n s k = s := by
  have up : ∀ j d, WayLe (roundWay n s j) (roundWay n s (j + d)) := by
    intro j d
    induction d with
    | zero => exact WayLe.refl _
    | succ d ih => exact ih.trans (tran_le n _ _)
  have at_ : ∀ j, j ≤ n.trans.length → roundWay n s j = s := by
    intro j hj
    have h1 := up j (n.trans.length - j)
    rw [show j + (n.trans.length - j) = n.trans.length by omega, h] at h1
    exact (h1.eq (round_le n s j))
  have h1 := at_ (k + 1) (by omega)
  have h2 := at_ k (by omega)
  have h3 : roundWay n s (k + 1) = tranWay n (roundWay n s k) k := rfl
  rw [h2] at h3
  rw [← h3, h1]
theorem ways_le (n : NetL) (f : Nat) : ∀ r, WayLe (startWay f) (waysTo n f r)
  | 0 => WayLe.refl _
  | r + 1 => (ways_le n f r).trans (round_le n _ _)

/-- All that is behind a place is known in the end. -/
theorem ways_iff {n : NetL} (hn : netOk n = true) {f : Nat} (hf : (f : Int) < n.places) : (∀ q, (waysL n f).ps q = true ↔ WayP n f q) ∧ (∀ k, k < n.trans.length → ((waysL n f).ts k = true ↔ WayT n f k)) := by
  have hs := ways_stable n f (by omega)
  have hsd := sound_ways n f (n.places.toNat + n.trans.length)
  have lead : ∀ k a, k < n.trans.length → (waysL n f).ps a = true → nth (tranAt n.trans k).pre a ≠ 0 → (waysL n f).ts k = true := by
    intro k a hk ha h0
    have e := congrArg WayS.ts (stable_tran hs hk)
    have e2 := congrFun e k
    have e3 : (tranWay n (waysL n f) k).ts k = leadTo (waysL n f).ps (tranAt n.trans k).pre ((waysL n f).ts k) n.places.toNat := by
      show setAt _ _ _ k = _
      unfold setAt
      rw [if_pos rfl]
    rw [← e2, e3, lead_iff]
    have hl := (tran_length hn hk).1
    have hb := (okTok_nth (tran_right (net_tran hn hk)).1 a).1
    refine .inr ⟨a, ?_, ha, by omega⟩
    rcases Nat.lt_or_ge a (tranAt n.trans k).pre.length with q | q
    · omega
    · exact absurd (nth_past _ _ q) h0
  have feed : ∀ k b, k < n.trans.length → (waysL n f).ts k = true → nth (tranAt n.trans k).post b ≠ 0 → (waysL n f).ps b = true := by
    intro k b hk ht h0
    have e := congrArg WayS.ps (stable_tran hs hk)
    have e2 := congrFun e b
    rw [← e2]
    have hl := (tran_length hn hk).2
    have hb := (okTok_nth (tran_right (net_tran hn hk)).2 b).1
    refine feed_iff.2 (.inr ⟨?_, lead_mono ht _, by omega⟩)
    rcases Nat.lt_or_ge b (tranAt n.trans k).post.length with q | q
    · omega
    · exact absurd (nth_past _ _ q) h0
  have full : ∀ q, WayP n f q → (waysL n f).ps q = true := fun q hq =>
    hq (fun q => (waysL n f).ps q = true) ((ways_le n f _).ps f (decide_eq_true rfl)) fun k a b hk ha h1 h2 => feed k b hk (lead k a hk ha h1) h2
  refine ⟨fun q => ⟨hsd.ps q, full q⟩, fun k hk => ⟨hsd.ts k hk, ?_⟩⟩
  rintro ⟨a, h1, h2⟩
  exact lead k a hk (full a h1) h2

end Go.Proofs.YtfaehomopgichaaDoor

/- Where a search breaks off; how many can be different. -/
namespace Go.Proofs.YtfaehomopgichaaDoor
set_option linter.unusedVariables false
set_option maxRecDepth 4000

theorem row_broke {n : NetL} {m : List Int} {most k : Nat} {s : SpaceL} (h : Found n m most k 0 s) (hk : k < s.marks.length) : ∀ (t : Nat), t ≤ n.trans.length → rowTo n most k s t = none →
    ∃ j s', j < n.trans.length ∧ Found n m most k j s' ∧ k < s'.marks.length ∧ tryT n most k s' j = none
  | 0, _, e => by simp [rowTo] at e
  | t + 1, ht, e => by
    rw [rowTo] at e
    cases e1 : rowTo n most k s t with
    | none => exact row_broke h hk t (by omega) e1
    | some s1 =>
      rw [e1] at e
      obtain ⟨g1, l1⟩ := rowTo_found h hk t (by omega) e1
      exact ⟨t, s1, by omega, g1, Nat.lt_of_lt_of_le hk l1.le, e⟩
theorem graph_broke {n : NetL} {m : List Int} {most : Nat} (hm : 1 ≤ most) (hf : fitsL n m = true) : ∀ (k : Nat), graphTo n m most k = none →
    ∃ f j s', j < n.trans.length ∧ Found n m most f j s' ∧ f < s'.marks.length ∧ tryT n most f s' j = none
  | 0, e => by simp [graphTo] at e
  | k + 1, e => by
    rw [graphTo] at e
    cases e1 : graphTo n m most k with
    | none => exact graph_broke hm hf k e1
    | some s1 =>
      rw [e1] at e
      simp only [Option.bind_some] at e
      split at e
      · rename_i hk
        obtain ⟨j, s', q1, q2, q3, q4⟩ := row_broke (graphTo_found hm hf k e1) hk _ (Nat.le_refl _) e
        exact ⟨k, j, s', q1, q2, q3, q4⟩
      · cases e

theorem nodup_sub {l1 : List (List Int)} : ∀ {l2 : List (List Int)}, l1.Nodup → (∀ x ∈ l1, x ∈ l2) → l1.length ≤ l2.length := by
  induction l1 with
  | nil => intro l2 _ _; simp
  | cons a l ih =>
    intro l2 hn hs
    rw [List.nodup_cons] at hn
    have ha := hs a (by simp)
    have := ih (l2 := l2.erase a) hn.2 fun x hx => (List.mem_erase_of_ne (fun (e : x = a) => hn.1 (e ▸ hx))).2 (hs x (by simp [hx]))
    rw [List.length_erase_of_mem ha] at this
    have := List.length_pos_of_mem ha
    simp; omega

theorem graphOk_300 {n : NetL} {m : List Int} (hf : fitsL n m = true) : graphOk n m 300 = true := by simp [graphOk, hf]

end Go.Proofs.YtfaehomopgichaaDoor

/- Plain words for what a space holds in memory. -/
namespace Go.Proofs.YtfaehomopgichaaDoor
open Go.RowKit
set_option linter.unusedVariables false
set_option maxRecDepth 4000

/-- A slice of arcs: three numbers each. -/
def Arcs (w : World) (v : Value) (l : List (Int × Int × Int)) : Prop :=
  ∃ a len cap, v = .slice a len cap ∧ l.length = len ∧ len ≤ 5864062014805 ∧ Shape a len cap ∧
    ∀ j (hj : j < l.length), ∃ b off, a = some ⟨b, off, none⟩ ∧ b < w.heap.size ∧ w.cell? ⟨b, off + j * 3, none⟩ = some (.int .i64 l[j].1) ∧
      w.cell? ⟨b, off + j * 3 + 1, none⟩ = some (.int .i64 l[j].2.1) ∧ w.cell? ⟨b, off + j * 3 + 2, none⟩ = some (.int .i64 l[j].2.2)

theorem Arcs.below {w w' : World} {v : Value} {l : List (Int × Int × Int)} (h : Arcs w v l) (hb : Below w.heap.size w w') : Arcs w' v l := by
  obtain ⟨a, len, cap, e, hl, hm, hs, hr⟩ := h
  refine ⟨a, len, cap, e, hl, hm, hs, fun j hj => ?_⟩
  obtain ⟨b, off, ha, hlt, h0, h1, h2⟩ := hr j hj
  exact ⟨b, off, ha, Nat.lt_of_lt_of_le hlt hb.size, by rw [hb.cell (p := ⟨b, _, none⟩) hlt]; exact h0, by rw [hb.cell (p := ⟨b, _, none⟩) hlt]; exact h1, by rw [hb.cell (p := ⟨b, _, none⟩) hlt]; exact h2⟩

theorem Arcs.at {w : World} {a : Option Addr} {len cap : Nat} {l : List (Int × Int × Int)} (h : Arcs w (.slice a len cap) l) {k : Nat} (hk : k < l.length) :
    ∃ b off, a = some ⟨b, off, none⟩ ∧ b < w.heap.size ∧ w.cell? ⟨b, off + k * 3, none⟩ = some (.int .i64 l[k].1) ∧
      w.cell? ⟨b, off + k * 3 + 1, none⟩ = some (.int .i64 l[k].2.1) ∧ w.cell? ⟨b, off + k * 3 + 2, none⟩ = some (.int .i64 l[k].2.2) := by
  obtain ⟨a', len', cap', e, hl, hm, hs, hr⟩ := h
  injection e with e1 e2 e3
  subst e1 e2 e3
  exact hr k hk
theorem Arcs.slice {w : World} {v : Value} {l : List (Int × Int × Int)} (h : Arcs w v l) : ∃ a cap, v = .slice a l.length cap ∧ l.length ≤ 5864062014805 := by
  obtain ⟨a, len, cap, e, hl, hm, hs, hr⟩ := h
  exact ⟨a, cap, by rw [e, hl], by omega⟩

theorem Lists.at {w : World} {a : Option Addr} {len cap : Nat} {ls : List (List Int)} (h : Lists w (.slice a len cap) ls) {k : Nat} (hk : k < len) :
    ∃ b off u, a = some ⟨b, off, none⟩ ∧ b < w.heap.size ∧ w.cell? ⟨b, off + k, none⟩ = some u ∧ Ints w u (markAt ls k) := by
  obtain ⟨a', len', cap', e, hl, hm, hs, hr⟩ := h
  injection e with e1 e2 e3
  subst e1 e2 e3
  exact hr k (by omega)
theorem Lists.slice {w : World} {v : Value} {ls : List (List Int)} (h : Lists w v ls) : ∃ a cap, v = .slice a ls.length cap ∧ ls.length ≤ 17592186044416 ∧ Shape a ls.length cap := by
  obtain ⟨a, len, cap, e, hl, hm, hs, hr⟩ := h
  subst hl
  exact ⟨a, cap, e, hm, hs⟩

def arcZ (a : ArcL) : Int × Int × Int := (a.frm, a.tran, a.dst)

/-- A value that is this space. -/
def Space (w : World) (v : Value) (s : SpaceL) : Prop := ∃ mv av, v = .agg #[mv, av] ∧ Lists w mv s.marks ∧ Arcs w av (s.arcs.map arcZ)

theorem Space.below {w w' : World} {v : Value} {s : SpaceL} (h : Space w v s) (hb : Below w.heap.size w w') : Space w' v s := by
  obtain ⟨mv, av, e, h1, h2⟩ := h
  exact ⟨mv, av, e, h1.below hb, h2.below hb⟩

/-- What a call answers that explores, or tells what is wrong. -/
def GivesS (w : World) (p : SpaceL × Int) (e : Ending) (w' : World) : Prop := ∃ r, e = .returned (.tuple #[r, .int .i64 p.2]) ∧ Space w' r p.1 ∧ Below w.heap.size w w'

theorem graphL_code (n : NetL) (m : List Int) (most : Int) : (graphL n m most).2 = 0 ∨ (graphL n m most).2 = 2 ∨ (graphL n m most).2 = 4 := by
  unfold graphL
  split
  · split
    · exact .inl rfl
    · exact .inr (.inr rfl)
  · exact .inr (.inl rfl)

end Go.Proofs.YtfaehomopgichaaDoor

/- Plain words for what can always be done again. -/
namespace Go.Proofs.YtfaehomopgichaaDoor
set_option linter.unusedVariables false
set_option maxRecDepth 4000

/-- Marks, and arcs between whatever numbers. -/
structure SpaceZ where
  marks : List (List Int)
  arcs : List (Int × Int × Int)

def rightS (s : SpaceZ) : Bool := s.arcs.all fun a => decide (0 ≤ a.1) && decide (a.1 < s.marks.length) && decide (0 ≤ a.2.2) && decide (a.2.2 < s.marks.length)
def Comes (s : SpaceZ) (k j : Int) : Prop := ∀ P : Int → Prop, P k → (∀ a : Int × Int × Int, P a.1 → a ∈ s.arcs → P a.2.2) → P j
theorem Comes.here {s : SpaceZ} (k : Int) : Comes s k k := fun _ h _ => h
theorem Comes.go {s : SpaceZ} {k : Int} {a : Int × Int × Int} (h : Comes s k a.1) (ha : a ∈ s.arcs) : Comes s k a.2.2 := fun P h0 h1 => h1 a (h P h0 h1) ha
theorem Comes.ind {s : SpaceZ} {k : Int} {motive : (j : Int) → Comes s k j → Prop} (here : motive k (Comes.here k)) (go : ∀ {a : Int × Int × Int} (h : Comes s k a.1) (ha : a ∈ s.arcs), motive a.1 h → motive a.2.2 (Comes.go h ha)) {j : Int} (h : Comes s k j) : motive j h := by
  obtain ⟨h', q⟩ := h (fun j => ∃ h : Comes s k j, motive j h) ⟨Comes.here k, here⟩ (fun a ⟨hx, qx⟩ ha => ⟨Comes.go hx ha, go hx ha qx⟩)
  exact q
def deadL (s : SpaceZ) (T : Int) : List Int := (rangeL (min T 24).toNat).filter fun t => s.arcs.all fun a => a.2.1 != t
def stuckL (s : SpaceZ) : List Int := (rangeL s.marks.length).filter fun k => s.arcs.all fun a => a.1 != k
def boundM (n : Int) (m : List Int) : Int := if rightL m then m.foldl max n else n
def boundL (s : SpaceZ) : Int := s.marks.foldl boundM 0
structure IsLive (s : SpaceZ) (T : Int) (xs : List Int) : Prop where
  up : xs.Pairwise (· < ·)
  mem : ∀ t, t ∈ xs ↔ rightS s = true ∧ 0 ≤ t ∧ t < min T 24 ∧ ∀ k : Int, 0 ≤ k → k < s.marks.length → ∃ a ∈ s.arcs, a.2.1 = t ∧ Comes s k a.1
structure IsHome (s : SpaceZ) (xs : List Int) : Prop where
  up : xs.Pairwise (· < ·)
  mem : ∀ k, k ∈ xs ↔ rightS s = true ∧ 0 ≤ k ∧ k < s.marks.length ∧ ∀ i : Int, 0 ≤ i → i < s.marks.length → Comes s i k

theorem rightS_iff {s : SpaceZ} : rightS s = true ↔ ∀ a ∈ s.arcs, 0 ≤ a.1 ∧ a.1 < s.marks.length ∧ 0 ≤ a.2.2 ∧ a.2.2 < s.marks.length := by
  unfold rightS
  simp only [List.all_eq_true, Bool.and_eq_true, decide_eq_true_eq, and_assoc]
theorem mem_dead {s : SpaceZ} {T t : Int} : t ∈ deadL s T ↔ 0 ≤ t ∧ t < min T 24 ∧ ∀ a ∈ s.arcs, a.2.1 ≠ t := by
  unfold deadL
  rw [List.mem_filter, mem_range]
  simp only [List.all_eq_true, bne_iff_ne]
  constructor
  · rintro ⟨h1, h2⟩; exact ⟨by omega, by omega, h2⟩
  · rintro ⟨h1, h2, h3⟩; exact ⟨by omega, h3⟩
theorem mem_stuck {s : SpaceZ} {k : Int} : k ∈ stuckL s ↔ 0 ≤ k ∧ k < s.marks.length ∧ ∀ a ∈ s.arcs, a.1 ≠ k := by
  unfold stuckL
  rw [List.mem_filter, mem_range]
  simp only [List.all_eq_true, bne_iff_ne, and_assoc]
theorem dead_up (s : SpaceZ) (T : Int) : (deadL s T).Pairwise (· < ·) := (range_sorted _).sublist List.filter_sublist
theorem stuck_up (s : SpaceZ) : (stuckL s).Pairwise (· < ·) := (range_sorted _).sublist List.filter_sublist

/-- Who is stuck goes nowhere. -/
theorem stuck_only {s : SpaceZ} {k j : Int} (h : k ∈ stuckL s) (hc : Comes s k j) : j = k := by
  induction hc using Comes.ind with
  | here => rfl
  | go h1 h2 ih => exact absurd ih ((mem_stuck.1 h).2.2 _ h2)

theorem up_one {xs : List Int} {k : Int} (hx : xs.Pairwise (· < ·)) (h : ∀ t, t ∈ xs ↔ t = k) : xs = [k] :=
  up_unique hx (List.pairwise_singleton _ _) fun t => by rw [h]; simp
theorem up_none {xs : List Int} (h : ∀ t, ¬ t ∈ xs) : xs = [] := List.eq_nil_iff_forall_not_mem.2 h

theorem stuck_live {s : SpaceZ} {T k : Int} {xs : List Int} (hk : k ∈ stuckL s) (h : IsLive s T xs) : xs = [] := by
  refine up_none fun t ht => ?_
  obtain ⟨_, _, _, hall⟩ := (h.mem t).1 ht
  obtain ⟨h1, h2, h3⟩ := mem_stuck.1 hk
  obtain ⟨a, ha, _, hc⟩ := hall k h1 h2
  exact h3 a ha (stuck_only hk hc)
theorem stuck_home {s : SpaceZ} {k : Int} {hs : List Int} (hk : k ∈ stuckL s) (h : IsHome s hs) (hh : k ∈ hs) : hs = [k] ∧ stuckL s = [k] := by
  obtain ⟨_, k1, k2, hall⟩ := (h.mem k).1 hh
  constructor
  · refine up_one h.up fun t => ⟨fun ht => ?_, fun e => by rw [e]; exact hh⟩
    obtain ⟨_, _, _, ht4⟩ := (h.mem t).1 ht
    exact stuck_only hk (ht4 k k1 k2)
  · refine up_one (stuck_up s) fun t => ⟨fun ht => ?_, fun e => by rw [e]; exact hk⟩
    obtain ⟨t1, t2, _⟩ := mem_stuck.1 ht
    exact (stuck_only ht (hall t t1 t2)).symm
theorem wrong_live {s : SpaceZ} {T : Int} {xs : List Int} (hr : rightS s = false) (h : IsLive s T xs) : xs = [] :=
  up_none fun t ht => by have := ((h.mem t).1 ht).1; rw [hr] at this; cases this
theorem wrong_home {s : SpaceZ} {xs : List Int} (hr : rightS s = false) (h : IsHome s xs) : xs = [] :=
  up_none fun t ht => by have := ((h.mem t).1 ht).1; rw [hr] at this; cases this

/-! ### spaces that are found -/
def toZ (s : SpaceL) : SpaceZ := ⟨s.marks, s.arcs.map arcZ⟩

theorem mem_arcZ {s : SpaceL} {a : Int × Int × Int} : a ∈ (toZ s).arcs ↔ ∃ b ∈ s.arcs, a = arcZ b := by
  unfold toZ
  simp only [List.mem_map]
  constructor
  · rintro ⟨b, h1, h2⟩; exact ⟨b, h1, h2.symm⟩
  · rintro ⟨b, h1, h2⟩; exact ⟨b, h1, h2.symm⟩

theorem Whole.sound {n : NetL} {m : List Int} {s : SpaceL} (h : Whole n m s) : ∀ a ∈ s.arcs, a.frm < s.marks.length ∧ a.dst < s.marks.length ∧ a.tran < n.trans.length ∧ fireL n (markAt s.marks a.frm) a.tran = (markAt s.marks a.dst, 0) := by
  obtain ⟨most, k, hF, hk⟩ := h
  intro a ha
  obtain ⟨h1, h2, h3, _, h5⟩ := hF.sound a ha
  exact ⟨h1, h2, h3, h5⟩
theorem Whole.right {n : NetL} {m : List Int} {s : SpaceL} (h : Whole n m s) : rightS (toZ s) = true := by
  refine rightS_iff.2 fun a ha => ?_
  obtain ⟨b, hb, rfl⟩ := mem_arcZ.1 ha
  obtain ⟨h1, h2, _⟩ := h.sound b hb
  simp only [arcZ, toZ]
  omega

/-- One comes by arcs just where a run leads. -/
theorem Whole.comes_run {n : NetL} {m : List Int} {s : SpaceL} (h : Whole n m s) {i : Nat} (hi : i < s.marks.length) {y : Int} (hc : Comes (toZ s) i y) :
    ∃ j : Nat, y = j ∧ j < s.marks.length ∧ ∃ seq, runL n (markAt s.marks i) seq = (markAt s.marks j, 0) := by
  have hfit : ∀ g, g < s.marks.length → fitsL n (markAt s.marks g) = true := by obtain ⟨most, k, hF, hk⟩ := h; exact fun g hg => hF.fits _ (markAt_mem hg)
  have key : ∀ {x y : Int}, Comes (toZ s) x y → x = (i : Int) → ∃ j : Nat, y = j ∧ j < s.marks.length ∧ ∃ seq, runL n (markAt s.marks i) seq = (markAt s.marks j, 0) := by
    intro x y hc
    induction hc using Comes.ind with
    | here => intro e; subst e; exact ⟨i, rfl, hi, [], run_nil.2 ⟨hfit i hi, rfl⟩⟩
    | go h1 h2 ih =>
      intro e
      obtain ⟨j, ej, hj, seq, hs⟩ := ih e
      obtain ⟨b, hb, rfl⟩ := mem_arcZ.1 h2
      obtain ⟨b1, b2, b3, b4⟩ := h.sound b hb
      simp only [arcZ] at ej ⊢
      obtain rfl : b.frm = j := by omega
      refine ⟨b.dst, rfl, b2, seq ++ [(b.tran : Int)], ?_⟩
      rw [run_append, hs]
      simp only [BEq.rfl, if_true]
      exact run_cons.2 ⟨_, b4, run_nil.2 ⟨hfit _ b2, rfl⟩⟩
  exact key hc rfl
theorem Whole.run_comes {n : NetL} {m : List Int} {s : SpaceL} (h : Whole n m s) (seq : List Int) : ∀ {i k : Nat} {z : List Int}, i < s.marks.length → Comes (toZ s) k i → runL n (markAt s.marks i) seq = (z, 0) →
    (∃ j : Nat, j < s.marks.length ∧ z = markAt s.marks j ∧ Comes (toZ s) k j) ∧ ∀ t ∈ seq, ∃ a ∈ s.arcs, (a.tran : Int) = t ∧ Comes (toZ s) k a.frm := by
  induction seq with
  | nil =>
    intro i k z hi hc hr
    obtain ⟨_, rfl⟩ := run_nil.1 hr
    exact ⟨⟨i, hi, rfl, hc⟩, by simp⟩
  | cons t ts ih =>
    intro i k z hi hc hr
    obtain ⟨y, h1, h2⟩ := run_cons.1 hr
    rcases h.fire hi t with h3 | ⟨j, g, rfl, hg, hgl, e⟩
    · rw [h1] at h3; simp at h3
    · rw [e] at h1
      injection h1 with h1 _
      subst h1
      have hc2 : Comes (toZ s) k g := Comes.go (a := arcZ ⟨i, j, g⟩) hc (mem_arcZ.2 ⟨_, hg, rfl⟩)
      obtain ⟨q1, q2⟩ := ih hgl hc2 h2
      refine ⟨q1, fun t' ht' => ?_⟩
      rcases List.mem_cons.1 ht' with q | q
      · exact ⟨_, hg, q.symm, hc⟩
      · exact q2 t' q

/-- From each of the marks all marks are found again, where there is room. -/
theorem Whole.again {n : NetL} {m : List Int} {s : SpaceL} (h : Whole n m s) (hl : s.marks.length < 300) {f : Nat} (hf : f < s.marks.length) : ∃ u, graphL n (markAt s.marks f) 300 = (u, 0) := by
  have hfit : fitsL n (markAt s.marks f) = true := by obtain ⟨most, k, hF, hk⟩ := h; exact hF.fits _ (markAt_mem hf)
  have hok := graphOk_300 hfit
  cases hg : graphTo n (markAt s.marks f) 300 300 with
  | some u => exact ⟨u, by rw [graphL, hok]; simp only [if_true, show (300 : Int).toNat = 300 from rfl]; rw [hg]⟩
  | none =>
    exfalso
    obtain ⟨f', j, s', hj, hF, hf', hn⟩ := graph_broke (by omega) hfit _ hg
    have hin : ∀ g, g < s'.marks.length → ∃ g2, g2 < s.marks.length ∧ markAt s'.marks g = markAt s.marks g2 := by
      intro g
      induction g using Nat.strongRecOn with
      | ind g ih =>
        intro hgl
        by_cases e : g = 0
        · subst e; exact ⟨f, hf, hF.first⟩
        · obtain ⟨a, ha, hlt⟩ := hF.par g (by omega) hgl
          obtain ⟨h1, h2⟩ := firstTo_mem ha
          obtain ⟨q1, q2, q3, q4, q5⟩ := hF.sound a h1
          obtain ⟨g2, hg2, e2⟩ := ih a.frm hlt q1
          rw [e2, h2] at q5
          rcases h.fire hg2 a.tran with r | ⟨_, g3, _, _, hg3, e3⟩
          · rw [q5] at r; simp at r
          · rw [q5] at e3; injection e3 with e3 _; exact ⟨g3, hg3, e3⟩
    have hlen : s'.marks.length ≤ s.marks.length := nodup_sub hF.nodup fun x hx => by
      obtain ⟨g, hgl, rfl⟩ := List.getElem_of_mem hx
      obtain ⟨g2, hg2, e2⟩ := hin g hgl
      have e3 : s'.marks[g] = markAt s'.marks g := by simp [markAt, List.getD_eq_getElem?_getD, List.getElem?_eq_getElem hgl]
      rw [e3, e2]
      exact markAt_mem hg2
    obtain ⟨g2, hg2, e2⟩ := hin f' hf'
    rcases h.fire hg2 j with r | ⟨_, g3, _, _, hg3, e3⟩
    · unfold tryT at hn
      rw [e2, r] at hn
      simp at hn
    · unfold tryT at hn
      rw [e2, e3] at hn
      simp only [show ((0 : Int) == 3) = false from rfl, Bool.false_eq_true, if_false, BEq.rfl, if_true] at hn
      split at hn
      · cases hn
      · rw [if_neg (by omega)] at hn
        cases hn

end Go.Proofs.YtfaehomopgichaaDoor

/- Plain words for the words of nets: ways along arcs, and what is seen of them. -/
namespace Go.Proofs.YtfaehomopgichaaDoor
set_option linter.unusedVariables false
set_option maxRecDepth 4000

/-- A way of so many arcs, and what is seen of it; lb tells what is seen of a transition, 0: nothing. -/
def WayN (A : List ArcL) (lb : Nat → Int) : Nat → Nat → List Int → Nat → Prop
  | 0, f, w, d => f = d ∧ w = []
  | k + 1, f, w, d => ∃ a ∈ A, a.frm = f ∧ ∃ u, WayN A lb k a.dst u d ∧ w = (if lb a.tran = 0 then u else lb a.tran :: u)
def Way (A : List ArcL) (lb : Nat → Int) (f : Nat) (w : List Int) (d : Nat) : Prop := ∃ k, WayN A lb k f w d

theorem WayN.cons {A : List ArcL} {lb : Nat → Int} {k d : Nat} {u : List Int} {a : ArcL} (ha : a ∈ A) (h : WayN A lb k a.dst u d) : WayN A lb (k + 1) a.frm (if lb a.tran = 0 then u else lb a.tran :: u) d := ⟨a, ha, rfl, u, h, rfl⟩
theorem WayN.append {A : List ArcL} {lb : Nat → Int} : ∀ {k j f m d : Nat} {u v : List Int}, WayN A lb k f u m → WayN A lb j m v d → WayN A lb (k + j) f (u ++ v) d := by
  intro k
  induction k with
  | zero => intro j f m d u v h1 h2; obtain ⟨rfl, rfl⟩ := h1; rw [Nat.zero_add]; exact h2
  | succ k ih =>
    intro j f m d u v h1 h2
    obtain ⟨a, ha, e, u', h, rfl⟩ := h1
    have h3 := ih h h2
    rw [show k + 1 + j = k + j + 1 by omega]
    refine ⟨a, ha, e, u' ++ v, h3, ?_⟩
    split <;> simp
theorem Way.here {A : List ArcL} {lb : Nat → Int} (f : Nat) : Way A lb f [] f := ⟨0, rfl, rfl⟩
theorem Way.append {A : List ArcL} {lb : Nat → Int} {f m d : Nat} {u v : List Int} (h1 : Way A lb f u m) (h2 : Way A lb m v d) : Way A lb f (u ++ v) d := by
  obtain ⟨k, h1⟩ := h1
  obtain ⟨j, h2⟩ := h2
  exact ⟨_, h1.append h2⟩
theorem Way.arc {A : List ArcL} {lb : Nat → Int} {a : ArcL} (ha : a ∈ A) (h : lb a.tran ≠ 0) : Way A lb a.frm [lb a.tran] a.dst := by
  have := WayN.cons (lb := lb) ha (k := 0) ⟨rfl, rfl⟩
  rw [if_neg h] at this
  exact ⟨_, this⟩
theorem Way.arc0 {A : List ArcL} {lb : Nat → Int} {a : ArcL} (ha : a ∈ A) (h : lb a.tran = 0) : Way A lb a.frm [] a.dst := by
  have := WayN.cons (lb := lb) ha (k := 0) ⟨rfl, rfl⟩
  rw [if_pos h] at this
  exact ⟨_, this⟩

/-- What is closed under arcs without letters has all that is come to without letters. -/
theorem Way.unseen {A : List ArcL} {lb : Nat → Int} {P : Nat → Prop} (hP : ∀ a ∈ A, lb a.tran = 0 → P a.frm → P a.dst) : ∀ {f d : Nat}, Way A lb f [] d → P f → P d := by
  rintro f d ⟨k, h⟩
  induction k generalizing f with
  | zero => intro hf; obtain ⟨rfl, _⟩ := h; exact hf
  | succ k ih =>
    intro hf
    obtain ⟨a, ha, e, u, h1, h2⟩ := h
    by_cases h0 : lb a.tran = 0
    · rw [if_pos h0] at h2
      subst h2
      exact ih h1 (hP a ha h0 (by rw [e]; exact hf))
    · rw [if_neg h0] at h2
      cases h2
theorem Way.unseenB {A : List ArcL} {lb : Nat → Int} {P : Nat → Prop} (hP : ∀ a ∈ A, lb a.tran = 0 → P a.dst → P a.frm) : ∀ {f d : Nat}, Way A lb f [] d → P d → P f := by
  rintro f d ⟨k, h⟩
  induction k generalizing f with
  | zero => intro hf; obtain ⟨rfl, _⟩ := h; exact hf
  | succ k ih =>
    intro hd
    obtain ⟨a, ha, e, u, h1, h2⟩ := h
    by_cases h0 : lb a.tran = 0
    · rw [if_pos h0] at h2
      subst h2
      rw [← e]
      exact hP a ha h0 (ih h1 hd)
    · rw [if_neg h0] at h2
      cases h2

/-- The first letter. -/
theorem Way.first {A : List ArcL} {lb : Nat → Int} {f d : Nat} {l : Int} {w : List Int} (h : Way A lb f (l :: w) d) : ∃ a ∈ A, Way A lb f [] a.frm ∧ lb a.tran = l ∧ l ≠ 0 ∧ Way A lb a.dst w d := by
  obtain ⟨k, h⟩ := h
  induction k generalizing f with
  | zero => obtain ⟨_, h⟩ := h; cases h
  | succ k ih =>
    obtain ⟨a, ha, rfl, u, h1, h2⟩ := h
    by_cases h0 : lb a.tran = 0
    · rw [if_pos h0] at h2
      subst h2
      obtain ⟨b, hb, q1, q2, q3, q4⟩ := ih h1
      exact ⟨b, hb, (Way.arc0 ha h0).append q1, q2, q3, q4⟩
    · rw [if_neg h0] at h2
      injection h2 with h2 h3
      subst h3
      exact ⟨a, ha, Way.here _, h2.symm, by rw [h2]; exact h0, ⟨k, h1⟩⟩

theorem Way.split {A : List ArcL} {lb : Nat → Int} : ∀ {u v : List Int} {f d : Nat}, Way A lb f (u ++ v) d → ∃ m, Way A lb f u m ∧ Way A lb m v d := by
  intro u
  induction u with
  | nil => intro v f d h; exact ⟨f, Way.here _, h⟩
  | cons l u ih =>
    intro v f d h
    obtain ⟨a, ha, h1, h2, h0, h3⟩ := Way.first (w := u ++ v) h
    obtain ⟨m, h4, h5⟩ := ih h3
    have := h1.append ((Way.arc (lb := lb) ha (by rw [h2]; exact h0)).append h4)
    rw [h2] at this
    exact ⟨m, this, h5⟩

/-- The last letter. -/
theorem Way.last {A : List ArcL} {lb : Nat → Int} {f d : Nat} {l : Int} {w : List Int} : Way A lb f (w ++ [l]) d ↔ ∃ a ∈ A, Way A lb f w a.frm ∧ lb a.tran = l ∧ l ≠ 0 ∧ Way A lb a.dst [] d := by
  constructor
  · intro h
    obtain ⟨m, h1, h2⟩ := h.split
    obtain ⟨a, ha, h3, h4, h5, h6⟩ := h2.first
    refine ⟨a, ha, ?_, h4, h5, h6⟩
    have := h1.append h3
    rwa [List.append_nil] at this
  · rintro ⟨a, ha, h1, h2, h3, h4⟩
    have := h1.append ((Way.arc (lb := lb) ha (by rw [h2]; exact h3)).append h4)
    rwa [h2] at this

theorem Way.end_lt {A : List ArcL} {lb : Nat → Int} {N f d : Nat} {w : List Int} (hA : ∀ a ∈ A, a.dst < N) (hf : f < N) (h : Way A lb f w d) : d < N := by
  obtain ⟨k, h⟩ := h
  induction k generalizing f w with
  | zero => obtain ⟨rfl, _⟩ := h; exact hf
  | succ k ih => obtain ⟨a, ha, e, u, h1, h2⟩ := h; exact ih (hA a ha) h1

/-! ### the shortest ones -/
theorem least_of {P : Nat → Prop} (h : ∃ n, P n) : ∃ n, P n ∧ ∀ m, P m → n ≤ m := by
  obtain ⟨n, hn⟩ := h
  induction n using Nat.strongRecOn with
  | ind n ih =>
    by_cases hm : ∃ m, m < n ∧ P m
    · obtain ⟨m, h1, h2⟩ := hm; exact ih m h1 h2
    · exact ⟨n, hn, fun m hP => Nat.le_of_not_lt fun h => hm ⟨m, h, hP⟩⟩

/-- So many letters, and among these so many arcs: no way to the end has less. -/
def Best (A : List ArcL) (lb : Nat → Int) (E : Nat → Prop) (f L k : Nat) : Prop :=
  (∃ w e, E e ∧ w.length = L ∧ WayN A lb k f w e) ∧ (∀ w e, E e → Way A lb f w e → L ≤ w.length) ∧ ∀ j w e, E e → w.length = L → WayN A lb j f w e → k ≤ j

theorem best_of {A : List ArcL} {lb : Nat → Int} {E : Nat → Prop} {f e : Nat} {w : List Int} (hE : E e) (h : Way A lb f w e) : ∃ L k, Best A lb E f L k := by
  obtain ⟨L, ⟨w1, e1, hE1, hL, h1⟩, hmin⟩ := least_of (P := fun L => ∃ w e, E e ∧ w.length = L ∧ Way A lb f w e) ⟨_, w, e, hE, rfl, h⟩
  obtain ⟨j1, h1⟩ := h1
  obtain ⟨k, ⟨w2, e2, hE2, hL2, h2⟩, hmin2⟩ := least_of (P := fun k => ∃ w e, E e ∧ w.length = L ∧ WayN A lb k f w e) ⟨_, w1, e1, hE1, hL, h1⟩
  exact ⟨L, k, ⟨w2, e2, hE2, hL2, h2⟩, fun w' e' hE' h' => hmin _ ⟨w', e', hE', rfl, h'⟩, fun j w' e' hE' hl h' => hmin2 j ⟨w', e', hE', hl, h'⟩⟩
theorem Best.one {A : List ArcL} {lb : Nat → Int} {E : Nat → Prop} {f L k L' k' : Nat} (h : Best A lb E f L k) (h' : Best A lb E f L' k') : L = L' ∧ k = k' := by
  obtain ⟨⟨w, e, hE, hL, h1⟩, h2, h3⟩ := h
  obtain ⟨⟨w', e', hE', hL', h1'⟩, h2', h3'⟩ := h'
  have a1 := h2 w' e' hE' ⟨_, h1'⟩
  have a2 := h2' w e hE ⟨_, h1⟩
  have e0 : L = L' := by omega
  subst e0
  have a3 := h3 _ w' e' hE' hL' h1'
  have a4 := h3' _ w e hE hL h1
  exact ⟨rfl, by omega⟩
theorem Best.down {A : List ArcL} {lb : Nat → Int} {E : Nat → Prop} {f L k : Nat} (h : Best A lb E f L (k + 1)) : ∃ a ∈ A, a.frm = f ∧ ∃ L', Best A lb E a.dst L' k := by
  obtain ⟨⟨w, e, hE, hL, a, ha, hf, u, h1, h2⟩, h3, h4⟩ := h
  obtain ⟨L', k', hB⟩ := best_of (f := a.dst) hE ⟨_, h1⟩
  refine ⟨a, ha, hf, L', ?_⟩
  obtain ⟨⟨w', e', hE', hL', q1⟩, q2, q3⟩ := hB
  have c1 := WayN.cons (lb := lb) ha q1
  rw [hf] at c1
  have c2 := h3 _ e' hE' ⟨_, c1⟩
  have c3 := q2 u e hE ⟨_, h1⟩
  have hul : u.length = L' ∧ (if lb a.tran = 0 then w' else lb a.tran :: w').length = L := by
    subst h2
    by_cases h0 : lb a.tran = 0
    · simp only [if_pos h0] at hL c2 ⊢; exact ⟨by omega, by omega⟩
    · simp only [if_neg h0, List.length_cons] at hL c2 ⊢; exact ⟨by omega, by omega⟩
  have c4 := h4 _ _ e' hE' hul.2 c1
  have c5 := q3 _ u e hE hul.1 h1
  obtain rfl : k = k' := by omega
  exact ⟨⟨w', e', hE', hL', q1⟩, q2, q3⟩

theorem nodup_nat {l1 : List Nat} : ∀ {l2 : List Nat}, l1.Nodup → (∀ x ∈ l1, x ∈ l2) → l1.length ≤ l2.length := by
  induction l1 with
  | nil => intro l2 _ _; exact Nat.zero_le _
  | cons x l1 ih =>
    intro l2 hn hs
    obtain ⟨h1, h2⟩ := List.nodup_cons.1 hn
    have := ih (l2 := l2.erase x) h2 fun y hy => (List.mem_erase_of_ne (fun e => h1 (by rw [← e]; exact hy))).2 (hs y (by simp [hy]))
    rw [List.length_erase_of_mem (hs x (by simp))] at this
    have h0 : 0 < l2.length := List.length_pos_of_mem (hs x (by simp))
    simp only [List.length_cons]
    omega

/-- As many marks as a best way has arcs lie ahead, each at another distance. -/
theorem Best.marks {A : List ArcL} {lb : Nat → Int} {E : Nat → Prop} {N : Nat} (hA : ∀ a ∈ A, a.dst < N) : ∀ {k f L : Nat}, f < N → Best A lb E f L k → ∃ l : List Nat, l.length = k + 1 ∧ l.Nodup ∧ ∀ x ∈ l, x < N ∧ ∃ L' j, j ≤ k ∧ Best A lb E x L' j := by
  intro k
  induction k with
  | zero => intro f L hf h; exact ⟨[f], rfl, by simp, fun x hx => by rw [List.mem_singleton.1 hx]; exact ⟨hf, L, 0, Nat.le_refl _, h⟩⟩
  | succ k ih =>
    intro f L hf h
    obtain ⟨a, ha, e, L', h'⟩ := h.down
    obtain ⟨l, h1, h2, h3⟩ := ih (hA a ha) h'
    refine ⟨f :: l, by simp [h1], List.nodup_cons.2 ⟨fun hm => ?_, h2⟩, fun x hx => ?_⟩
    · obtain ⟨_, L2, j, hj, hb⟩ := h3 f hm
      have := (hb.one h).2
      omega
    · rcases List.mem_cons.1 hx with rfl | hx
      · exact ⟨hf, L, k + 1, Nat.le_refl _, h⟩
      · obtain ⟨q1, L2, j, hj, hb⟩ := h3 x hx
        exact ⟨q1, L2, j, by omega, hb⟩
theorem Best.few {A : List ArcL} {lb : Nat → Int} {E : Nat → Prop} {N k f L : Nat} (hA : ∀ a ∈ A, a.dst < N) (hf : f < N) (h : Best A lb E f L k) : k < N := by
  obtain ⟨l, h1, h2, h3⟩ := h.marks hA hf
  have := nodup_nat (l2 := List.range N) h2 fun x hx => List.mem_range.2 (h3 x hx).1
  rw [List.length_range] at this
  omega
theorem WayN.len {A : List ArcL} {lb : Nat → Int} : ∀ {k f d : Nat} {w : List Int}, WayN A lb k f w d → w.length ≤ k := by
  intro k
  induction k with
  | zero => intro f d w h; rw [h.2]; simp
  | succ k ih =>
    intro f d w h
    obtain ⟨a, ha, e, u, h1, rfl⟩ := h
    have := ih h1
    split <;> simp <;> omega
theorem Best.short {A : List ArcL} {lb : Nat → Int} {E : Nat → Prop} {N k f L : Nat} (hA : ∀ a ∈ A, a.dst < N) (hf : f < N) (h : Best A lb E f L k) : L < N := by
  have h1 := h.few hA hf
  obtain ⟨⟨w, e, hE, hL, h2⟩, _⟩ := h
  have := h2.len
  omega

/-! ### the words of a net -/
def labT (n : NetL) (t : Nat) : Int := (tranAt n.trans t).label
def seenL (n : NetL) : List Int → List Int
  | [] => []
  | t :: ts => if labT n t.toNat = 0 then seenL n ts else labT n t.toNat :: seenL n ts
/-- Is it a word from mark to mark? -/
def WordN (n : NetL) (S E w : List Int) : Prop := ∃ seq, runL n S seq = (E, 0) ∧ seenL n seq = w
/-- Is it a word from a mark's number to the end? -/
def ToEnd (n : NetL) (s : SpaceL) (E : List Int) (f : Nat) (w : List Int) : Prop := ∃ e, e < s.marks.length ∧ markAt s.marks e = E ∧ Way s.arcs (labT n) f w e

theorem Whole.way_run {n : NetL} {m : List Int} {s : SpaceL} (h : Whole n m s) : ∀ {k f d : Nat} {w : List Int}, f < s.marks.length → WayN s.arcs (labT n) k f w d → d < s.marks.length ∧ ∃ seq, runL n (markAt s.marks f) seq = (markAt s.marks d, 0) ∧ seenL n seq = w := by
  have hfit : ∀ g, g < s.marks.length → fitsL n (markAt s.marks g) = true := by obtain ⟨most, k, hF, hk⟩ := h; exact fun g hg => hF.fits _ (markAt_mem hg)
  intro k
  induction k with
  | zero => intro f d w hf hw; obtain ⟨rfl, rfl⟩ := hw; exact ⟨hf, [], run_nil.2 ⟨hfit f hf, rfl⟩, rfl⟩
  | succ k ih =>
    intro f d w hf hw
    obtain ⟨a, ha, rfl, u, h1, rfl⟩ := hw
    obtain ⟨b1, b2, b3, b4⟩ := h.sound a ha
    obtain ⟨hd, seq, q1, q2⟩ := ih b2 h1
    exact ⟨hd, (a.tran : Int) :: seq, run_cons.2 ⟨_, b4, q1⟩, by simp only [seenL, Int.toNat_natCast, q2]⟩
theorem Whole.run_way {n : NetL} {m : List Int} {s : SpaceL} (h : Whole n m s) : ∀ (seq : List Int) {f : Nat} {z : List Int}, f < s.marks.length → runL n (markAt s.marks f) seq = (z, 0) → ∃ d, d < s.marks.length ∧ markAt s.marks d = z ∧ Way s.arcs (labT n) f (seenL n seq) d := by
  intro seq
  induction seq with
  | nil => intro f z hf hr; obtain ⟨_, rfl⟩ := run_nil.1 hr; exact ⟨f, hf, rfl, Way.here _⟩
  | cons t ts ih =>
    intro f z hf hr
    obtain ⟨y, h1, h2⟩ := run_cons.1 hr
    rcases h.fire hf t with h3 | ⟨j, g, rfl, hg, hgl, e⟩
    · rw [h1] at h3; simp at h3
    · rw [e] at h1
      injection h1 with h1 _
      subst h1
      obtain ⟨d, hd, hz, k, hk⟩ := ih hgl h2
      have := WayN.cons (lb := labT n) hg hk
      exact ⟨d, hd, hz, _, by simpa only [seenL, Int.toNat_natCast] using this⟩
theorem Whole.word {n : NetL} {S E w : List Int} {s : SpaceL} (h : Whole n S s) : WordN n S E w ↔ ToEnd n s E 0 w := by
  obtain ⟨h0, h1⟩ := h.here
  constructor
  · rintro ⟨seq, hr, rfl⟩
    rw [← h1] at hr
    obtain ⟨d, hd, hz, hw⟩ := h.run_way seq h0 hr
    exact ⟨d, hd, hz, hw⟩
  · rintro ⟨e, he, rfl, k, hw⟩
    obtain ⟨_, seq, q1, q2⟩ := h.way_run h0 hw
    rw [h1] at q1
    exact ⟨seq, q1, q2⟩

end Go.Proofs.YtfaehomopgichaaDoor

/- What is replayed, plainly: where nothing lacks it is a run; where nothing lacks, and nothing is left, a word. -/
namespace Go.Proofs.YtfaehomopgichaaDoor
set_option linter.unusedVariables false
set_option maxRecDepth 4000

theorem list_ext_nth {xs ys : List Int} (hl : xs.length = ys.length) (h : ∀ p, nth xs p = nth ys p) : xs = ys := by
  refine List.ext_getElem hl fun i h1 h2 => ?_
  have := h i
  simpa [nth, List.getD, List.getElem?_eq_getElem h1, List.getElem?_eq_getElem h2] using this

structure MarkG (P : Nat) (g : GameL) (m : List Int) : Prop where
  len : m.length = P
  eq : ∀ p, nth m p = g.there p

/-- The transitions of a trace. -/
def idxOf (n : NetL) (l : Int) : Int := match labIdx n l with | none => -1 | some k => k
def idxs (n : NetL) (tr : List Int) : List Int := tr.map (idxOf n)

theorem step_lack (g : GameL) (t u : List Int) : (putG (takeG g t) u).pl.lacked = g.pl.lacked + sumTo (lackG g.there t) t.length := rfl
theorem sum_none {f : Nat → Int} {k : Nat} (h0 : ∀ p, 0 ≤ f p) (h : sumTo f k = 0) (p : Nat) (hp : p < k) : f p = 0 := by
  have := sumTo_one (f := f) (i := p) (k := k) (fun j _ => h0 j) hp
  have := h0 p
  omega

theorem fire_game {n : NetL} {P k j : Nat} {g : GameL} {m : List Int} (hn : netOk n = true) (hP : n.places = P) (hP2 : P ≤ 16) (hb : BndG P k g) (hk : k ≤ 1000) (hm : MarkG P g m) (hj : j < n.trans.length)
    (hl : sumTo (lackG g.there (tranAt n.trans j).pre) (tranAt n.trans j).pre.length = 0) :
    ∃ m', fireL n m j = (m', 0) ∧ MarkG P (putG (takeG g (tranAt n.trans j).pre) (tranAt n.trans j).post) m' := by
  obtain ⟨t1, t2⟩ := tok_of_tran hn hP hj
  have h0 : ∀ p, lackG g.there (tranAt n.trans j).pre p = 0 := by
    intro p
    by_cases hp : p < (tranAt n.trans j).pre.length
    · exact sum_none (fun p => lack0 _ _ p) hl p hp
    · unfold lackG; rw [nth_past _ _ (by omega)]; have := hb.there0 p; omega
  have hr : rightL m = true := (rightL_iff _).2 fun p => by rw [hm.eq]; have := hb.there0 p; have := hb.there1 p; omega
  have hf : fitsL n m = true := fits_mk hn (by rw [hm.len, hP]) hr
  have hc : coversL m (tranAt n.trans j).pre = true := (coversL_iff _ _).2 fun p => by have := h0 p; rw [hm.eq]; unfold lackG at this; omega
  have e : ∀ p, nth (addL (subL m (tranAt n.trans j).pre) (tranAt n.trans j).post) p = (putG (takeG g (tranAt n.trans j).pre) (tranAt n.trans j).post).there p := by
    intro p
    rw [add_at, sub_at, putG_there, takeG_there t1.len hb.there0, h0, hm.eq]
    omega
  have hb2 := (hb.take hP2 t1).put hP2 t2
  have hr2 : rightL (addL (subL m (tranAt n.trans j).pre) (tranAt n.trans j).post) = true := (rightL_iff _).2 fun p => by rw [e]; have := hb2.there0 p; have := hb2.there1 p; omega
  exact ⟨_, fire_mk hj hf hc hr2, by rw [add_length, sub_length, hm.len, t1.len, t2.len]; omega, e⟩
theorem lack_game {n : NetL} {P k j : Nat} {g : GameL} {m m' : List Int} (hm : MarkG P g m) (hf : fireL n m j = (m', 0)) : sumTo (lackG g.there (tranAt n.trans j).pre) (tranAt n.trans j).pre.length = 0 := by
  obtain ⟨k', e, hk, _, hc, _⟩ := fire_ok hf
  obtain rfl : j = k' := by omega
  refine sumTo_zero fun p _ => ?_
  have := (coversL_iff _ _).1 hc p
  rw [hm.eq] at this
  unfold lackG
  omega

theorem game_run {n : NetL} {P : Nat} (hn : netOk n = true) (hP : n.places = P) (hP2 : P ≤ 16) (hN : NamedN n) : ∀ (tr : List Int) {k : Nat} {g g' : GameL} {m : List Int}, BndG P k g → k + 2 * tr.length ≤ 1000 → MarkG P g m →
    gameL n tr g = some g' → g'.pl.lacked = g.pl.lacked → ∃ m', runL n m (idxs n tr) = (m', 0) ∧ MarkG P g' m' ∧ seenL n (idxs n tr) = tr := by
  intro tr
  induction tr with
  | nil =>
    intro k g g' m hb hk hm e hl
    cases e
    have hr : rightL m = true := (rightL_iff _).2 fun p => by rw [hm.eq]; have := hb.there0 p; have := hb.there1 p; omega
    exact ⟨m, run_nil.2 ⟨fits_mk hn (by rw [hm.len, hP]) hr, rfl⟩, hm, rfl⟩
  | cons l ls ih =>
    intro k g g' m hb hk hm e hl
    simp only [gameL] at e
    cases hq : labIdx n l with
    | none => rw [hq] at e; cases e
    | some j =>
      rw [hq] at e
      obtain ⟨hj, hlab⟩ := labIdx_some hq
      obtain ⟨t1, t2⟩ := tok_of_tran hn hP hj
      have a1 := (game_grows hn hP ls e).2
      rw [step_lack] at a1
      have a2 := lack_sum0 g.there (tranAt n.trans j).pre (tranAt n.trans j).pre.length
      rw [List.length_cons] at hk
      obtain ⟨m1, h1, h2⟩ := fire_game hn hP hP2 hb (by omega) hm hj (by omega)
      obtain ⟨m', h3, h4, h5⟩ := ih ((hb.take hP2 t1).put hP2 t2) (by omega) h2 e (by rw [step_lack]; omega)
      have ei : idxs n (l :: ls) = (j : Int) :: idxs n ls := by simp only [idxs, List.map_cons, idxOf, hq]
      refine ⟨m', ?_, h4, ?_⟩
      · rw [ei]; exact run_cons.2 ⟨m1, h1, h3⟩
      · rw [ei]
        have e2 : labT n ((j : Nat) : Int).toNat = l := by rw [Int.toNat_natCast]; exact hlab
        simp only [seenL, e2, h5]
        rw [if_neg (by rw [← hlab]; exact (hN j hj).1)]
theorem run_game {n : NetL} {P : Nat} (hn : netOk n = true) (hP : n.places = P) (hP2 : P ≤ 16) (hN : NamedN n) : ∀ (seq : List Int) {k : Nat} {g : GameL} {m m' : List Int}, BndG P k g → MarkG P g m →
    runL n m seq = (m', 0) → ∃ g', gameL n (seenL n seq) g = some g' ∧ MarkG P g' m' ∧ g'.pl.lacked = g.pl.lacked := by
  intro seq
  induction seq with
  | nil => intro k g m m' hb hm h; obtain ⟨_, rfl⟩ := run_nil.1 h; exact ⟨g, rfl, hm, rfl⟩
  | cons t ts ih =>
    intro k g m m' hb hm h
    obtain ⟨m1, h1, h2⟩ := run_cons.1 h
    obtain ⟨j, rfl, hj, hf, hc, hr, hm1⟩ := fire_ok h1
    obtain ⟨t1, t2⟩ := tok_of_tran hn hP hj
    have hl := lack_game (k := k) hm h1
    have h0 : ∀ p, lackG g.there (tranAt n.trans j).pre p = 0 := by
      intro p
      by_cases hp : p < (tranAt n.trans j).pre.length
      · exact sum_none (fun p => lack0 _ _ p) hl p hp
      · unfold lackG; rw [nth_past _ _ (by omega)]; have := hb.there0 p; omega
    have h3 : MarkG P (putG (takeG g (tranAt n.trans j).pre) (tranAt n.trans j).post) m1 := by
      subst hm1
      refine ⟨by rw [add_length, sub_length, hm.len, t1.len, t2.len]; omega, fun p => ?_⟩
      rw [add_at, sub_at, putG_there, takeG_there t1.len hb.there0, h0, hm.eq]
      omega
    obtain ⟨g', q1, q2, q3⟩ := ih ((hb.take hP2 t1).put hP2 t2) h3 h2
    refine ⟨g', ?_, q2, ?_⟩
    · have e2 : labT n ((j : Nat) : Int).toNat = (tranAt n.trans j).label := by rw [Int.toNat_natCast]; rfl
      simp only [seenL, e2]
      rw [if_neg (hN j hj).1]
      simp only [gameL, labIdx_of hN hj]
      exact q1
    · rw [q3, step_lack, hl]; omega

theorem begun_mark {n : NetL} {P : Nat} (hP : n.places = P) (hP2 : P ≤ 16) (i : Int) : MarkG P (begunG n i) (startL n.places i) :=
  ⟨by rw [start_length, hP]; omega, fun p => by unfold begunG; rw [putG_there]; show _ = 0 + _; omega⟩

/-- Where nothing lacks it is a run. -/
theorem Replayed.run {n : NetL} {i o : Int} {tr : List Int} {r : PlayL} (h : Replayed n i o tr r 0) (hl : r.lacked = 0) :
    ∃ x P, n.places = (P : Nat) ∧ runL n (startL n.places i) (idxs n tr) = (x, 0) ∧ seenL n (idxs n tr) = tr ∧ x.length = P ∧ sumTo (nth x) P = r.left + 1 ∧ 0 < nth x o.toNat ∧ (r.left = 0 → x = startL n.places o) := by
  obtain ⟨hs, hn, hlen, g, hg, rfl⟩ := h.zero
  obtain ⟨P, hP, hP0, hP1⟩ := shape_places hs
  have hb0 := begun_bnd hP hP1 i
  have hb := BndG.game hs.ok hP hP1 tr hb0 hg
  have ht : Toks P (startL n.places o) := by rw [hP]; exact tok_of_start hP1 o
  have hb2 := hb.take hP1 ht
  have g1 := (game_grows hs.ok hP tr hg).2
  have e0 : (begunG n i).pl.lacked = 0 := rfl
  have e1 : (takeG g (startL n.places o)).pl.lacked = g.pl.lacked + sumTo (lackG g.there (startL n.places o)) (startL n.places o).length := rfl
  rw [ht.len] at e1
  have a1 := lack_sum0 g.there (startL n.places o) P
  obtain ⟨x, h1, h2, h3⟩ := game_run hs.ok hP hP1 hn tr hb0 (by omega) (begun_mark hP hP1 i) hg (by omega)
  have h00 : sumTo (lackG g.there (startL n.places o)) P = 0 := by omega
  have h0 : ∀ p, p < P → lackG g.there (startL n.places o) p = 0 := fun p hp => sum_none (fun p => lack0 _ _ p) h00 p hp
  obtain ⟨o', ho⟩ := Int.eq_ofNat_of_zero_le hs.o0
  have h4 := hs.o1
  have s2 := start_sum hP1 (i := o') (by omega)
  have e2 : sumTo (fun p => lackG g.there (startL n.places o) p - nth (startL n.places o) p) P = -1 := by
    rw [sumTo_sub, sumTo_zero h0, hP, ho, s2]; rfl
  have e3 : (takeG g (startL n.places o)).pl.left = g.pl.left + sumTo (fun p => lackG g.there (startL n.places o) p - nth (startL n.places o) p) (startL n.places o).length := rfl
  rw [ht.len, e2] at e3
  have hl' := hl
  have e4 : sumTo (nth x) P = g.pl.left := by rw [hb.left]; exact sumTo_congr fun j _ => h2.eq j
  refine ⟨x, P, hP, h1, h3, h2.len, by omega, ?_, fun hl0 => ?_⟩
  · have := h0 o' (by omega)
    unfold lackG at this
    rw [hP, ho, start_at _ _ _ (by omega), if_pos rfl] at this
    rw [h2.eq, ho, Int.toNat_natCast]
    omega
  · refine list_ext_nth (by rw [h2.len, ht.len]) fun p => ?_
    by_cases hp : p < P
    · rw [hb2.left] at hl0
      have q1 := sum_none hb2.there0 hl0 p hp
      rw [takeG_there ht.len hb.there0, h0 p hp, ← h2.eq] at q1
      omega
    · rw [nth_past _ _ (by rw [h2.len]; omega), nth_past _ _ (by rw [ht.len]; omega)]

/-- A trace fits, if, and only if, nothing lacks, and nothing is left. -/
theorem Replayed.fits {n : NetL} {i o : Int} {tr : List Int} {r : PlayL} (h : Replayed n i o tr r 0) : WordN n (startL n.places i) (startL n.places o) tr ↔ r.lacked = 0 ∧ r.left = 0 := by
  constructor
  · rintro ⟨seq, h1, rfl⟩
    obtain ⟨hs, hn, hlen, g, hg, rfl⟩ := h.zero
    obtain ⟨P, hP, hP0, hP1⟩ := shape_places hs
    have hb0 := begun_bnd hP hP1 i
    obtain ⟨g', q1, q2, q3⟩ := run_game hs.ok hP hP1 hn seq hb0 (begun_mark hP hP1 i) h1
    rw [hg] at q1
    cases q1
    have hb := BndG.game hs.ok hP hP1 _ hb0 hg
    have ht : Toks P (startL n.places o) := by rw [hP]; exact tok_of_start hP1 o
    have h0 : ∀ p, lackG g.there (startL n.places o) p = 0 := fun p => by unfold lackG; rw [q2.eq]; omega
    have e0 : (begunG n i).pl.lacked = 0 := rfl
    have e1 : (takeG g (startL n.places o)).pl.lacked = g.pl.lacked + sumTo (lackG g.there (startL n.places o)) (startL n.places o).length := rfl
    rw [sumTo_zero fun p _ => h0 p] at e1
    have e3 : (takeG g (startL n.places o)).pl.left = g.pl.left + sumTo (fun p => lackG g.there (startL n.places o) p - nth (startL n.places o) p) (startL n.places o).length := rfl
    rw [ht.len, sumTo_sub, sumTo_zero fun p _ => h0 p, hb.left, sumTo_congr fun j _ => (q2.eq j).symm] at e3
    exact ⟨by omega, by omega⟩
  · rintro ⟨h1, h2⟩
    obtain ⟨x, P, hP, q1, q2, q3, q4, q5, q6⟩ := h.run h1
    rw [q6 h2] at q1
    exact ⟨_, q1, q2⟩

end Go.Proofs.YtfaehomopgichaaDoor

/- A value that is a space of whatever arcs. -/
namespace Go.Proofs.YtfaehomopgichaaDoor
open Go.RowKit
set_option linter.unusedVariables false
set_option maxRecDepth 4000

/-- A space; there are not more marks than memory holds. -/
def SpaceV (w : World) (v : Value) (s : SpaceZ) : Prop := s.marks.length ≤ 5864062014805 ∧ ∃ mv av, v = .agg #[mv, av] ∧ Lists w mv s.marks ∧ Arcs w av s.arcs
theorem SpaceV.below {w w' : World} {v : Value} {s : SpaceZ} (h : SpaceV w v s) (hb : Below w.heap.size w w') : SpaceV w' v s := by
  obtain ⟨hN, mv, av, e, h1, h2⟩ := h
  exact ⟨hN, mv, av, e, h1.below hb, h2.below hb⟩
theorem Space.toV {w : World} {v : Value} {s : SpaceL} (h : Space w v s) (hl : s.marks.length ≤ 300) : SpaceV w v (toZ s) := ⟨by simp only [toZ]; omega, h⟩
theorem graphL_small (n : NetL) (m : List Int) (most : Int) : (graphL n m most).1.marks.length ≤ 300 := by
  by_cases h : (graphL n m most).2 = 0
  · have h1 := graphL_ok (s := (graphL n m most).1) (by rw [← h])
    have h2 := h1.2.2.2.2.most_le
    omega
  · rw [graphL_err h]; simp

theorem lists_lit3 (w : World) (b : Nat) (v0 v1 v2 : Value) (x0 x1 x2 : List Int) (h0 : Ints w v0 x0) (h1 : Ints w v1 x1) (h2 : Ints w v2 x2) (hb : b = w.heap.size) : Lists (w.alloc (.cells #[v0, v1, v2] 25)) (.slice (some ⟨b, 0, none⟩) 3 3) [x0, x1, x2] := by
  subst hb
  have b1 := below_new w (.cells #[v0, v1, v2] 25)
  refine ⟨_, _, _, rfl, rfl, by omega, ⟨by omega, by omega, fun h => by cases h⟩, fun j hj => ?_⟩
  match j, hj with
  | 0, _ => exact ⟨w.heap.size, 0, v0, rfl, by simp, by rw [World.cell?_alloc_at _ _ _ _ rfl]; rfl, h0.below b1⟩
  | 1, _ => exact ⟨w.heap.size, 0, v1, rfl, by simp, by rw [World.cell?_alloc_at _ _ _ _ rfl]; rfl, h1.below b1⟩
  | 2, _ => exact ⟨w.heap.size, 0, v2, rfl, by simp, by rw [World.cell?_alloc_at _ _ _ _ rfl]; rfl, h2.below b1⟩
  | j + 3, h => simp at h; omega
theorem lists_lit1 (w : World) (b : Nat) (v0 : Value) (x0 : List Int) (h0 : Ints w v0 x0) (hb : b = w.heap.size) : Lists (w.alloc (.cells #[v0] 25)) (.slice (some ⟨b, 0, none⟩) 1 1) [x0] := by
  subst hb
  have b1 := below_new w (.cells #[v0] 25)
  refine ⟨_, _, _, rfl, rfl, by omega, ⟨by omega, by omega, fun h => by cases h⟩, fun j hj => ?_⟩
  match j, hj with
  | 0, _ => exact ⟨w.heap.size, 0, v0, rfl, by simp, by rw [World.cell?_alloc_at _ _ _ _ rfl]; rfl, h0.below b1⟩
  | j + 1, h => simp at h
theorem arcs_lit3 (w : World) (b : Nat) (a0 a1 a2 b0 b1 b2 c0 c1 c2 : Int) (hb : b = w.heap.size) :
    Arcs (w.alloc (.cells #[.int .i64 a0, .int .i64 a1, .int .i64 a2, .int .i64 b0, .int .i64 b1, .int .i64 b2, .int .i64 c0, .int .i64 c1, .int .i64 c2] 68)) (.slice (some ⟨b, 0, none⟩) 3 3) [(a0, a1, a2), (b0, b1, b2), (c0, c1, c2)] := by
  subst hb
  refine ⟨_, _, _, rfl, rfl, by omega, ⟨by omega, by omega, fun h => by cases h⟩, fun j hj => ?_⟩
  match j, hj with
  | 0, _ => exact ⟨w.heap.size, 0, rfl, by simp, by rw [World.cell?_alloc_at _ _ _ _ rfl]; rfl, by rw [World.cell?_alloc_at _ _ _ _ rfl]; rfl, by rw [World.cell?_alloc_at _ _ _ _ rfl]; rfl⟩
  | 1, _ => exact ⟨w.heap.size, 0, rfl, by simp, by rw [World.cell?_alloc_at _ _ _ _ rfl]; rfl, by rw [World.cell?_alloc_at _ _ _ _ rfl]; rfl, by rw [World.cell?_alloc_at _ _ _ _ rfl]; rfl⟩
  | 2, _ => exact ⟨w.heap.size, 0, rfl, by simp, by rw [World.cell?_alloc_at _ _ _ _ rfl]; rfl, by rw [World.cell?_alloc_at _ _ _ _ rfl]; rfl, by rw [World.cell?_alloc_at _ _ _ _ rfl]; rfl⟩
  | j + 3, h => simp at h; omega
theorem arcs_lit1 (w : World) (b : Nat) (a0 a1 a2 : Int) (hb : b = w.heap.size) :
    Arcs (w.alloc (.cells #[.int .i64 a0, .int .i64 a1, .int .i64 a2] 68)) (.slice (some ⟨b, 0, none⟩) 1 1) [(a0, a1, a2)] := by
  subst hb
  refine ⟨_, _, _, rfl, rfl, by omega, ⟨by omega, by omega, fun h => by cases h⟩, fun j hj => ?_⟩
  match j, hj with
  | 0, _ => exact ⟨w.heap.size, 0, rfl, by simp, by rw [World.cell?_alloc_at _ _ _ _ rfl]; rfl, by rw [World.cell?_alloc_at _ _ _ _ rfl]; rfl, by rw [World.cell?_alloc_at _ _ _ _ rfl]; rfl⟩
  | j + 1, h => simp at h

end Go.Proofs.YtfaehomopgichaaDoor

/- Who comes where: a square of yes and no, plainly and in memory. -/
namespace Go.Proofs.YtfaehomopgichaaDoor
open Go.RowKit
set_option linter.unusedVariables false
set_option maxRecDepth 4000

/-! ### plainly -/
def upd2 (M : Nat → Nat → Bool) (k b : Nat) : Nat → Nat → Bool := fun i j => if i = k ∧ j = b then true else M i j
def falF (M : Nat → Nat → Bool) (n : Nat) : Nat → Nat
  | 0 => 0
  | i + 1 => falF M n i + cntF (M i) n

theorem falF_same {M N : Nat → Nat → Bool} (n : Nat) : ∀ (i : Nat), (∀ k, k < i → ∀ j, N k j = M k j) → falF N n i = falF M n i
  | 0, _ => rfl
  | i + 1, h => by
    simp only [falF]
    rw [falF_same n i fun k hk => h k (by omega), cntF_same n fun j _ => h i (by omega) j]
theorem falF_set {M : Nat → Nat → Bool} {k b n : Nat} (hb : b < n) (hf : M k b = false) : ∀ (i : Nat), k < i → falF (upd2 M k b) n i + 1 = falF M n i
  | 0, h => absurd h (Nat.not_lt_zero _)
  | i + 1, h => by
    simp only [falF]
    by_cases e : k = i
    · subst e
      rw [falF_same n k fun x hx j => by unfold upd2; rw [if_neg (by omega)]]
      have := cntF_set (f := M k) (g := upd2 M k b k) (b := b) hf (by unfold upd2; simp) (fun j hj => by unfold upd2; rw [if_neg (by omega)]) n hb
      omega
    · have h1 := falF_set hb hf i (by omega)
      have h2 : cntF (upd2 M k b i) n = cntF (M i) n := cntF_same n fun j _ => by unfold upd2; rw [if_neg (by omega)]
      omega

structure MatOk (s : SpaceZ) (M : Nat → Nat → Bool) : Prop where
  refl : ∀ i : Nat, M i i = true
  sound : ∀ i j : Nat, i < s.marks.length → j < s.marks.length → M i j = true → Comes s i j
theorem MatOk.start (s : SpaceZ) : MatOk s (fun i j => decide (i = j)) :=
  ⟨fun i => by simp, fun i j _ _ h => by have : i = j := by simpa using h
                                         subst this; exact .here _⟩
theorem MatOk.put {s : SpaceZ} {M : Nat → Nat → Bool} (h : MatOk s M) {k f b : Nat} {y : Int} (hk : k < s.marks.length) (hf : f < s.marks.length) (ha : ((f : Int), y, (b : Int)) ∈ s.arcs) (hM : M k f = true) : MatOk s (upd2 M k b) := by
  refine ⟨fun i => ?_, fun i j hi hj hij => ?_⟩
  · unfold upd2
    split
    · rfl
    · exact h.refl i
  · unfold upd2 at hij
    split at hij
    · rename_i e
      obtain ⟨rfl, rfl⟩ := e
      exact Comes.go (a := ((f : Int), y, (j : Int))) (h.sound i f hk hf hM) ha
    · exact h.sound i j hi hj hij

/-- The first p arcs, and of the next one the first k rows, bring nothing new. -/
def ShutTo (s : SpaceZ) (M : Nat → Nat → Bool) (p k : Nat) : Prop :=
  ∀ q (hq : q < s.arcs.length) (f b i : Nat), s.arcs[q].1 = f → s.arcs[q].2.2 = b → i < s.marks.length → (q < p ∨ q = p ∧ i < k) → M i f = true → M i b = true
def Pass (s : SpaceZ) (M0 M : Nat → Nat → Bool) (again : Bool) (p k : Nat) : Prop :=
  MatOk s M ∧ if again then falF M s.marks.length s.marks.length < falF M0 s.marks.length s.marks.length else M = M0 ∧ ShutTo s M0 p k

theorem Pass.start {s : SpaceZ} {M : Nat → Nat → Bool} (h : MatOk s M) : Pass s M M false 0 0 :=
  ⟨h, rfl, fun q _ _ _ _ _ _ _ h => by omega⟩
theorem Pass.next {s : SpaceZ} {M0 M : Nat → Nat → Bool} {again : Bool} {p k : Nat} (h : Pass s M0 M again p k) (hk : s.marks.length ≤ k) : Pass s M0 M again (p + 1) 0 := by
  refine ⟨h.1, ?_⟩
  have h2 := h.2
  cases again
  · exact ⟨h2.1, fun q hq f b i e1 e2 hi hqp => h2.2 q hq f b i e1 e2 hi (by omega)⟩
  · exact h2
theorem Pass.skip {s : SpaceZ} {M0 M : Nat → Nat → Bool} {again : Bool} {p k f b : Nat} {y : Int} (h : Pass s M0 M again p k) (hp : p < s.arcs.length) (ha : s.arcs[p] = ((f : Int), y, (b : Int))) (hM : M k f = true → M k b = true) : Pass s M0 M again p (k + 1) := by
  refine ⟨h.1, ?_⟩
  have h2 := h.2
  cases again
  · refine ⟨h2.1, fun q hq f' b' i e1 e2 hi hqp => ?_⟩
    by_cases e : q = p ∧ i = k
    · obtain ⟨rfl, rfl⟩ := e
      rw [ha] at e1 e2
      simp only at e1 e2
      obtain rfl : f = f' := by omega
      obtain rfl : b = b' := by omega
      rw [← h2.1]
      exact hM
    · exact h2.2 q hq f' b' i e1 e2 hi (by omega)
  · exact h2
theorem Pass.put {s : SpaceZ} {M0 M : Nat → Nat → Bool} {again : Bool} {p k f b : Nat} {y : Int} (h : Pass s M0 M again p k) (hp : p < s.arcs.length) (ha : s.arcs[p] = ((f : Int), y, (b : Int))) (hk : k < s.marks.length) (hf : f < s.marks.length) (hb : b < s.marks.length)
    (h1 : M k f = true) (h2 : M k b = false) : Pass s M0 (upd2 M k b) true p (k + 1) := by
  refine ⟨h.1.put (y := y) hk hf (by rw [← ha]; exact List.getElem_mem hp) h1, ?_⟩
  show _ < _
  have e := falF_set (M := M) hb h2 s.marks.length hk
  have h3 := h.2
  cases again
  · obtain ⟨e1, _⟩ := h3
    subst e1
    omega
  · have h3 : falF M s.marks.length s.marks.length < falF M0 s.marks.length s.marks.length := h3
    omega

def IsReach (s : SpaceZ) (M : Nat → Nat → Bool) : Prop := ∀ i j : Nat, i < s.marks.length → j < s.marks.length → (M i j = true ↔ Comes s i j)
theorem Pass.reach {s : SpaceZ} {M0 M : Nat → Nat → Bool} {p : Nat} (hr : rightS s = true) (h : Pass s M0 M false p 0) (hp : s.arcs.length ≤ p) : IsReach s M := by
  obtain ⟨hok, rfl, hs⟩ := h
  intro i j hi hj
  refine ⟨hok.sound i j hi hj, fun hc => ?_⟩
  have key : ∀ {x y : Int}, Comes s x y → x = (i : Int) → ∃ g : Nat, y = g ∧ g < s.marks.length ∧ M i g = true := by
    intro x y hc
    induction hc using Comes.ind with
    | here => intro e; subst e; exact ⟨i, rfl, hi, hok.refl i⟩
    | go h1 h2 ih =>
      intro e
      obtain ⟨g, eg, hg, hM⟩ := ih e
      obtain ⟨q, hq, rfl⟩ := List.getElem_of_mem h2
      obtain ⟨_, _, r1, r2⟩ := rightS_iff.1 hr _ h2
      obtain ⟨b, eb⟩ := Int.eq_ofNat_of_zero_le r1
      exact ⟨b, eb, by omega, hs q hq g b i eg eb hi (by omega) hM⟩
  obtain ⟨g, eg, _, hM⟩ := key hc rfl
  obtain rfl : j = g := by omega
  exact hM

/-! ### in memory -/
structure MatAt (b : Nat) (w wr : World) (n : Nat) (rb : Nat → Nat) (k : Nat) (M : Nat → Nat → Bool) : Prop where
  rows : ∀ i, i < k → wr.cell? ⟨b, i, none⟩ = some (.slice (some ⟨rb i, 0, none⟩) n n)
  outer : ∀ i, i < n → (∃ u, wr.cell? ⟨b, i, none⟩ = some u) ∧ wr.frozen? ⟨b, i, none⟩ = false
  cells : ∀ i j, i < k → j < n → wr.cell? ⟨rb i, j, none⟩ = some (.bool (M i j))
  frozen : ∀ i j, i < k → j < n → wr.frozen? ⟨rb i, j, none⟩ = false
  newer : ∀ i, i < k → b < rb i ∧ rb i < wr.heap.size
  inj : ∀ i j, i < k → j < k → rb i = rb j → i = j
  below : Below b w wr
  size : b < wr.heap.size

theorem MatAt.to {b : Nat} {w wr w2 : World} {n : Nat} {rb : Nat → Nat} {k : Nat} {M : Nat → Nat → Bool} (h : MatAt b w wr n rb k M) (hb : Below wr.heap.size wr w2) : MatAt b w w2 n rb k M :=
  ⟨fun i hi => by rw [hb.cell (p := ⟨b, i, none⟩) h.size]; exact h.rows i hi,
   fun i hi => ⟨by rw [hb.cell (p := ⟨b, i, none⟩) h.size]; exact (h.outer i hi).1, by rw [hb.frozen (p := ⟨b, i, none⟩) h.size]; exact (h.outer i hi).2⟩,
   fun i j hi hj => by rw [hb.cell (p := ⟨rb i, j, none⟩) (h.newer i hi).2]; exact h.cells i j hi hj,
   fun i j hi hj => by rw [hb.frozen (p := ⟨rb i, j, none⟩) (h.newer i hi).2]; exact h.frozen i j hi hj,
   fun i hi => ⟨(h.newer i hi).1, Nat.lt_of_lt_of_le (h.newer i hi).2 hb.size⟩, h.inj, h.below.trans (hb.mono (Nat.le_of_lt h.size)), Nat.lt_of_lt_of_le h.size hb.size⟩

theorem MatAt.put {b : Nat} {w wr : World} {n : Nat} {rb : Nat → Nat} {k : Nat} {M : Nat → Nat → Bool} (h : MatAt b w wr n rb k M) {i j : Nat} (hi : i < k) (hj : j < n) : MatAt b w (wr.setCell ⟨rb i, j, none⟩ (.bool true)) n rb k (upd2 M i j) := by
  have ne : ∀ x, (⟨rb i, j, none⟩ : Addr) ≠ ⟨b, x, none⟩ := fun x e => by have := (h.newer i hi).1; injection e with e1 _; omega
  refine ⟨fun x hx => by rw [World.cell?_setCell_other _ _ _ _ (ne x)]; exact h.rows x hx, fun x hx => ⟨by rw [World.cell?_setCell_other _ _ _ _ (ne x)]; exact (h.outer x hx).1, by rw [World.frozen?_setCell]; exact (h.outer x hx).2⟩, fun x y hx hy => ?_,
    fun x y hx hy => by rw [World.frozen?_setCell]; exact h.frozen x y hx hy, fun x hx => ⟨(h.newer x hx).1, by simpa [World.setCell] using (h.newer x hx).2⟩, h.inj, h.below.setCell (Nat.le_of_lt (h.newer i hi).1) _, by simpa [World.setCell] using h.size⟩
  by_cases e : x = i ∧ y = j
  · obtain ⟨rfl, rfl⟩ := e
    rw [World.cell?_setCell_same _ _ _ (h.cells x y hx hy)]
    simp [upd2]
  · rw [World.cell?_setCell_other _ _ _ _ (by intro q; injection q with q1 q2; exact e ⟨(h.inj i x hi hx q1).symm, q2.symm⟩), h.cells x y hx hy]
    simp [upd2, e]

theorem matAt_new {w w1 : World} {n : Nat} (hb : Below w.heap.size w w1) (hs : w.heap.size < w1.heap.size) (hc : ∀ j, j < n → w1.cell? ⟨w.heap.size, j, none⟩ = some (.slice none 0 0) ∧ w1.frozen? ⟨w.heap.size, j, none⟩ = false) (rb : Nat → Nat) (M : Nat → Nat → Bool) :
    MatAt w.heap.size w w1 n rb 0 M :=
  ⟨fun i hi => absurd hi (Nat.not_lt_zero _), fun i hi => ⟨⟨_, (hc i hi).1⟩, (hc i hi).2⟩, fun i j hi => absurd hi (Nat.not_lt_zero _), fun i j hi => absurd hi (Nat.not_lt_zero _), fun i hi => absurd hi (Nat.not_lt_zero _), fun i j hi => absurd hi (Nat.not_lt_zero _), hb, hs⟩

/-- One more row, with a yes where it meets itself. -/
theorem MatAt.grow {b : Nat} {w wr w2 : World} {n : Nat} {rb : Nat → Nat} {k : Nat} (h : MatAt b w wr n rb k (fun i j => decide (i = j))) (hk : k < n) (hb : Below wr.heap.size wr w2) (hs : wr.heap.size < w2.heap.size)
    (hc : ∀ j, j < n → w2.cell? ⟨wr.heap.size, j, none⟩ = some (.bool false) ∧ w2.frozen? ⟨wr.heap.size, j, none⟩ = false) :
    MatAt b w ((w2.setCell ⟨b, k, none⟩ (.slice (some ⟨wr.heap.size, 0, none⟩) n n)).setCell ⟨wr.heap.size, k, none⟩ (.bool true)) n (fun i => if i = k then wr.heap.size else rb i) (k + 1) (fun i j => decide (i = j)) := by
  have h2 := h.to hb
  have hbs := h.size
  have nb : ∀ x y, (⟨wr.heap.size, x, none⟩ : Addr) ≠ ⟨b, y, none⟩ := fun x y e => by injection e with e1 _; omega
  have nr : ∀ i, i < k → ∀ x y, (⟨wr.heap.size, x, none⟩ : Addr) ≠ ⟨rb i, y, none⟩ := fun i hi x y e => by have := (h.newer i hi).2; injection e with e1 _; omega
  have no : ∀ i, i < k → ∀ x y, (⟨b, x, none⟩ : Addr) ≠ ⟨rb i, y, none⟩ := fun i hi x y e => by have := (h.newer i hi).1; injection e with e1 _; omega
  refine ⟨fun i hi => ?_, fun i hi => ?_, fun i j hi hj => ?_, fun i j hi hj => ?_, fun i hi => ?_, fun i j hi hj e => ?_, (h2.below.setCell (Nat.le_refl _) _).setCell (Nat.le_of_lt hbs) _, by simpa [World.setCell] using h2.size⟩
  · rw [World.cell?_setCell_other _ _ _ _ (nb _ _)]
    by_cases e : i = k
    · subst e
      obtain ⟨u, hu⟩ := (h2.outer i hk).1
      rw [World.cell?_setCell_same _ _ _ hu, if_pos rfl]
    · rw [World.cell?_setCell_other _ _ _ _ (by intro q; injection q with _ q2; omega), if_neg e]
      exact h2.rows i (by omega)
  · refine ⟨?_, by rw [World.frozen?_setCell, World.frozen?_setCell]; exact (h2.outer i hi).2⟩
    rw [World.cell?_setCell_other _ _ _ _ (nb _ _)]
    by_cases e : i = k
    · subst e
      obtain ⟨u, hu⟩ := (h2.outer i hk).1
      exact ⟨_, World.cell?_setCell_same _ _ _ hu⟩
    · rw [World.cell?_setCell_other _ _ _ _ (by intro q; injection q with _ q2; omega)]
      exact (h2.outer i hi).1
  · by_cases e : i = k
    · subst e
      simp only [if_true]
      by_cases e2 : j = i
      · subst e2
        rw [World.cell?_setCell_same (u := .bool false) _ _ _ (by rw [World.cell?_setCell_other _ _ _ _ (fun q => nb _ _ q.symm)]; exact (hc j hj).1)]
        simp
      · rw [World.cell?_setCell_other _ _ _ _ (by intro q; injection q with _ q2; omega), World.cell?_setCell_other _ _ _ _ (fun q => nb _ _ q.symm), (hc j hj).1]
        have : ¬ i = j := by omega
        simp [this]
    · simp only [if_neg e]
      rw [World.cell?_setCell_other _ _ _ _ (nr i (by omega) _ _), World.cell?_setCell_other _ _ _ _ (no i (by omega) _ _)]
      exact h2.cells i j (by omega) hj
  · rw [World.frozen?_setCell, World.frozen?_setCell]
    by_cases e : i = k
    · simp only [if_pos e]; exact (hc j hj).2
    · simp only [if_neg e]; exact h2.frozen i j (by omega) hj
  · by_cases e : i = k
    · simp only [if_pos e]; exact ⟨hbs, by simpa [World.setCell] using hs⟩
    · simp only [if_neg e]; exact ⟨(h2.newer i (by omega)).1, by simpa [World.setCell] using (h2.newer i (by omega)).2⟩
  · by_cases e1 : i = k
    · by_cases e2 : j = k
      · omega
      · simp only [if_pos e1, if_neg e2] at e
        have := (h.newer j (by omega)).2
        omega
    · by_cases e2 : j = k
      · simp only [if_neg e1, if_pos e2] at e
        have := (h.newer i (by omega)).2
        omega
      · simp only [if_neg e1, if_neg e2] at e
        exact h.inj i j (by omega) (by omega) e

theorem box3_put {w : World} {b : Nat} {x y z u : Value} {p : Addr} (h : Box3 w b x y z) (hp : p.block ≠ b) : Box3 (w.setCell p u) b x y z := by
  have ne : ∀ j, (⟨b, j, none⟩ : Addr) ≠ p := fun j e => hp (by rw [← e])
  refine ⟨by simpa [World.setCell] using h.1, ?_, ?_, ?_⟩
  · rw [World.cell?_setCell_other _ _ _ _ (Ne.symm (ne 0))]; exact h.2.1
  · rw [World.cell?_setCell_other _ _ _ _ (Ne.symm (ne 1))]; exact h.2.2.1
  · rw [World.cell?_setCell_other _ _ _ _ (Ne.symm (ne 2))]; exact h.2.2.2

/-- As it is read. -/
structure MatR (w : World) (b n : Nat) (rb : Nat → Nat) (M : Nat → Nat → Bool) : Prop where
  lt : b < w.heap.size
  rows : ∀ i, i < n → w.cell? ⟨b, i, none⟩ = some (.slice (some ⟨rb i, 0, none⟩) n n)
  rlt : ∀ i, i < n → rb i < w.heap.size
  cells : ∀ i j, i < n → j < n → w.cell? ⟨rb i, j, none⟩ = some (.bool (M i j))
theorem MatR.below {w w' : World} {b n : Nat} {rb : Nat → Nat} {M : Nat → Nat → Bool} (h : MatR w b n rb M) (hb : Below w.heap.size w w') : MatR w' b n rb M :=
  ⟨Nat.lt_of_lt_of_le h.lt hb.size, fun i hi => by rw [hb.cell (p := ⟨b, i, none⟩) h.lt]; exact h.rows i hi, fun i hi => Nat.lt_of_lt_of_le (h.rlt i hi) hb.size, fun i j hi hj => by rw [hb.cell (p := ⟨rb i, j, none⟩) (h.rlt i hi)]; exact h.cells i j hi hj⟩
theorem MatAt.read {b : Nat} {w wr : World} {n : Nat} {rb : Nat → Nat} {M : Nat → Nat → Bool} (h : MatAt b w wr n rb n M) : MatR wr b n rb M :=
  ⟨h.size, h.rows, fun i hi => (h.newer i hi).2, h.cells⟩

end Go.Proofs.YtfaehomopgichaaDoor

/- A box for a space that is made ahead of the space. -/
namespace Go.Proofs.YtfaehomopgichaaDoor
open Go.RowKit
set_option linter.unusedVariables false
set_option maxRecDepth 4000

/-- A cell that holds an empty slice is none that a list of marks, each with something, is read from. -/
theorem ints_putNil {w : World} {v : Value} {xs : List Int} {p : Addr} (h : Ints w v xs) (hp : w.cell? p = some (.slice none 0 0)) (u : Value) : Ints (w.setCell p u) v xs := by
  obtain ⟨a, len, cap, e, hl, hm, hs, hr⟩ := h
  refine ⟨a, len, cap, e, hl, hm, hs, fun j hj => ?_⟩
  obtain ⟨b, off, ha, hb, hc⟩ := hr j hj
  refine ⟨b, off, ha, by simpa [World.setCell] using hb, ?_⟩
  rw [World.cell?_setCell_other _ _ _ _ (by intro e; rw [← e, hp] at hc; cases hc)]
  exact hc
theorem lists_putNil {w : World} {v : Value} {ls : List (List Int)} {p : Addr} (h : Lists w v ls) (hne : ∀ j, j < ls.length → markAt ls j ≠ []) (hp : w.cell? p = some (.slice none 0 0)) (u : Value) : Lists (w.setCell p u) v ls := by
  obtain ⟨a, len, cap, e, hl, hm, hs, hr⟩ := h
  refine ⟨a, len, cap, e, hl, hm, hs, fun j hj => ?_⟩
  obtain ⟨b, off, x, ha, hb, hc, hi⟩ := hr j hj
  refine ⟨b, off, x, ha, by simpa [World.setCell] using hb, ?_, ints_putNil hi hp u⟩
  rw [World.cell?_setCell_other _ _ _ _ ?_]
  · exact hc
  · intro e
    rw [← e, hp] at hc
    injection hc with hc
    subst hc
    obtain ⟨a', len', cap', e', hl', _⟩ := hi
    injection e' with _ e'
    exact hne j hj (List.length_eq_zero_iff.1 (by have : (ls.getD j []).length = len' := hl'; rw [← e'] at this; exact this))
theorem arcs_putNil {w : World} {v : Value} {l : List (Int × Int × Int)} {p : Addr} (h : Arcs w v l) (hp : w.cell? p = some (.slice none 0 0)) (u : Value) : Arcs (w.setCell p u) v l := by
  obtain ⟨a, len, cap, e, hl, hm, hs, hr⟩ := h
  refine ⟨a, len, cap, e, hl, hm, hs, fun j hj => ?_⟩
  obtain ⟨b, off, ha, hb, c0, c1, c2⟩ := hr j hj
  refine ⟨b, off, ha, by simpa [World.setCell] using hb, ?_, ?_, ?_⟩
  · rw [World.cell?_setCell_other _ _ _ _ (by intro e; rw [← e, hp] at c0; cases c0)]; exact c0
  · rw [World.cell?_setCell_other _ _ _ _ (by intro e; rw [← e, hp] at c1; cases c1)]; exact c1
  · rw [World.cell?_setCell_other _ _ _ _ (by intro e; rw [← e, hp] at c2; cases c2)]; exact c2
theorem space_putNil {w : World} {v : Value} {s : SpaceL} {p : Addr} (h : Space w v s) (hne : ∀ j, j < s.marks.length → markAt s.marks j ≠ []) (hp : w.cell? p = some (.slice none 0 0)) (u : Value) : Space (w.setCell p u) v s := by
  obtain ⟨mv, av, e, h1, h2⟩ := h
  exact ⟨mv, av, e, lists_putNil h1 hne hp u, arcs_putNil h2 hp u⟩

/-- A box for a space, made and still empty. -/
def NilBox (w : World) (b : Nat) : Prop := w.heap[b]? = some (.cells #[.slice none 0 0, .slice none 0 0] 64 (0, 0))
theorem NilBox.below {w w' : World} {b : Nat} (h : NilBox w b) (hb : Below w.heap.size w w') : NilBox w' b := by unfold NilBox at *; rw [hb.block b (Array.getElem?_eq_some_iff.1 h).1]; exact h
theorem nilBox_new (w : World) : NilBox (w.alloc (.cells #[.slice none 0 0, .slice none 0 0] 64)) w.heap.size := by
  show (w.heap.push _)[w.heap.size]? = _
  exact Array.getElem?_push_size
theorem NilBox.at {w : World} {b : Nat} (h : NilBox w b) : b < w.heap.size ∧ w.cell? ⟨b, 0, none⟩ = some (.slice none 0 0) ∧ w.cell? ⟨b, 1, none⟩ = some (.slice none 0 0) ∧ w.frozen? ⟨b, 0, none⟩ = false ∧ w.frozen? ⟨b, 1, none⟩ = false := by
  have h' := h
  unfold NilBox at h
  exact ⟨(Array.getElem?_eq_some_iff.1 h).1, by simp [World.cell?, h], by simp [World.cell?, h], by simp [World.frozen?, h], by simp [World.frozen?, h]⟩
theorem NilBox.fill {w : World} {b : Nat} {mv av : Value} {s : SpaceL} (h : NilBox w b) (hs : Space w (.agg #[mv, av]) s) (hne : ∀ j, j < s.marks.length → markAt s.marks j ≠ []) :
    Space ((w.setCell ⟨b, 0, none⟩ mv).setCell ⟨b, 1, none⟩ av) (.agg #[mv, av]) s ∧ Box2 ((w.setCell ⟨b, 0, none⟩ mv).setCell ⟨b, 1, none⟩ av) b mv av ∧ Below b w ((w.setCell ⟨b, 0, none⟩ mv).setCell ⟨b, 1, none⟩ av) := by
  obtain ⟨h0, h1, h2, _, _⟩ := h.at
  have e1 : (w.setCell ⟨b, 0, none⟩ mv).cell? ⟨b, 1, none⟩ = some (.slice none 0 0) := by rw [World.cell?_setCell_other _ _ _ _ (by simp)]; exact h2
  refine ⟨space_putNil (space_putNil hs hne h1 mv) hne e1 av, ⟨by simpa [World.setCell] using h0, ?_, World.cell?_setCell_same _ _ _ e1⟩, ((Below.refl _ _).setCell (p := ⟨b, 0, none⟩) (Nat.le_refl _) _).setCell (p := ⟨b, 1, none⟩) (Nat.le_refl _) _⟩
  rw [World.cell?_setCell_other _ _ _ _ (by simp)]
  exact World.cell?_setCell_same _ _ _ h1

theorem graph_full {n : NetL} {m : List Int} {most : Int} (hm : m ≠ []) : ∀ j, j < (graphL n m most).1.marks.length → markAt (graphL n m most).1.marks j ≠ [] := by
  intro j hj e
  by_cases h : (graphL n m most).2 = 0
  · obtain ⟨_, _, hf, _, hF⟩ := graphL_ok (s := (graphL n m most).1) (by rw [← h])
    have h1 := hF.fits _ (markAt_mem hj)
    have h2 := (fits_net h1).2.1
    have h3 := (fits_net hf).2.1
    rw [e] at h2
    have : (m.length : Int) = 0 := by rw [h3, ← h2]; rfl
    exact hm (List.length_eq_zero_iff.1 (by omega))
  · rw [graphL_err h] at hj
    simp at hj

end Go.Proofs.YtfaehomopgichaaDoor
