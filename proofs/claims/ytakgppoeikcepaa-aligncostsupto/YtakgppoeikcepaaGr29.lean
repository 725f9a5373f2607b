import Derived.Test.YtakgppoeikcepaaGr28
import Derived.Test.YtakgppoeikcepaaGr00
import Derived.Test.YtakgppoeikcepaaGr06
import Derived.Test.YtakgppoeikcepaaGr22
import Derived.Test.YtakgppoeikcepaaGr04
import Derived.Test.YtakgppoeikcepaaGr02
import Derived.Test.YtakgppoeikcepaaGr23
import Derived.Maps.AppendAt
/- The search for the cheapest moves, plainly: what was found, what is gone on from at this cost, and what costs one more. -/
namespace Go.Proofs.Ytakgppoeikcepaa
set_option linter.unusedVariables false
set_option maxRecDepth 4000

structure StepL where
  frm : Nat × Nat
  move : MoveL
  cost : Nat
structure SrchL where
  by_ : Nat × Nat → Option StepL
  level : List (Nat × Nat)
  dear : List (Nat × Nat)

def putS (f : Nat × Nat → Option StepL) (p : Nat × Nat) (s : StepL) : Nat × Nat → Option StepL := fun q => if q = p then some s else f q
/-- A step is kept where it is a cheaper one. -/
def takenS (st : SrchL) (to_ : Nat × Nat) (next : Nat) : Bool := match st.by_ to_ with | some f => decide (next < f.cost) | none => true
def relaxS (here : Nat × Nat) (c : Nat) (st : SrchL) (x : (Nat × Nat) × MoveL) : SrchL :=
  if takenS st x.1 (c + priceM x.2) = true then
    if priceM x.2 = 0 then ⟨putS st.by_ x.1 ⟨here, x.2, c + priceM x.2⟩, st.level ++ [x.1], st.dear⟩
    else ⟨putS st.by_ x.1 ⟨here, x.2, c + priceM x.2⟩, st.level, st.dear ++ [x.1]⟩
  else st
def relaxAll (here : Nat × Nat) (c : Nat) (st : SrchL) (l : List ((Nat × Nat) × MoveL)) : SrchL := l.foldl (relaxS here c) st
theorem price_le (m : MoveL) : priceM m ≤ 1 := by unfold priceM; split <;> omega

section
variable (A : List ArcL) (lb : Nat → Int) (tr : List Int) (N : Nat)
/-- The search at cost c; still to be gone on from: pend. -/
structure InvS (c : Nat) (st : SrchL) (pend : List (Nat × Nat)) : Prop where
  base : ∃ s, st.by_ (0, 0) = some s ∧ s.cost = 0
  frm : ∃ rk : Nat × Nat → Nat, ∀ p s, st.by_ p = some s → p ≠ (0, 0) → ∃ sf, st.by_ s.frm = some sf ∧ AStep A lb tr s.frm s.move p ∧ s.cost = sf.cost + priceM s.move ∧ sf.cost ≤ c ∧ rk s.frm < rk p
  range : ∀ p s, st.by_ p = some s → s.cost ≤ c + 1 ∧ p.1 < N ∧ p.2 ≤ tr.length
  closed : ∀ p s, st.by_ p = some s → s.cost ≤ c → (p ∉ pend ∨ s.cost < c) → ∀ m q, AStep A lb tr p m q → ∃ s', st.by_ q = some s' ∧ s'.cost ≤ s.cost + priceM m
  dearer : ∀ p s, st.by_ p = some s → s.cost = c + 1 → p ∈ st.dear
  levelIn : ∀ p, p ∈ pend → ∃ s, st.by_ p = some s ∧ s.cost ≤ c
  dearIn : ∀ p, p ∈ st.dear → ∃ s, st.by_ p = some s
end
section
variable {A : List ArcL} {lb : Nat → Int} {tr : List Int} {N : Nat}

theorem relax_by {here : Nat × Nat} {c : Nat} {st : SrchL} {x : (Nat × Nat) × MoveL} (q : Nat × Nat) :
    (relaxS here c st x).by_ q = if takenS st x.1 (c + priceM x.2) = true ∧ q = x.1 then some ⟨here, x.2, c + priceM x.2⟩ else st.by_ q := by
  unfold relaxS
  by_cases ht : takenS st x.1 (c + priceM x.2) = true
  · rw [if_pos ht]
    split
    · show putS _ _ _ q = _
      unfold putS
      by_cases hq : q = x.1
      · rw [if_pos hq, if_pos ⟨ht, hq⟩]
      · rw [if_neg hq, if_neg (fun h => hq h.2)]
    · show putS _ _ _ q = _
      unfold putS
      by_cases hq : q = x.1
      · rw [if_pos hq, if_pos ⟨ht, hq⟩]
      · rw [if_neg hq, if_neg (fun h => hq h.2)]
  · rw [if_neg ht, if_neg (fun h => ht h.1)]
theorem relax_mono {here : Nat × Nat} {c : Nat} {st : SrchL} {x : (Nat × Nat) × MoveL} {p : Nat × Nat} {s : StepL} (h : st.by_ p = some s) : ∃ s', (relaxS here c st x).by_ p = some s' ∧ s'.cost ≤ s.cost := by
  rw [relax_by]
  by_cases ht : takenS st x.1 (c + priceM x.2) = true ∧ p = x.1
  · rw [if_pos ht]
    refine ⟨_, rfl, ?_⟩
    obtain ⟨ht, rfl⟩ := ht
    unfold takenS at ht
    rw [h] at ht
    have := of_decide_eq_true ht
    show c + priceM x.2 ≤ s.cost
    omega
  · rw [if_neg ht]; exact ⟨s, h, Nat.le_refl _⟩
/-- What costs no more than c stays as it is. -/
theorem relax_old {here : Nat × Nat} {c : Nat} {st : SrchL} {x : (Nat × Nat) × MoveL} {p : Nat × Nat} {s : StepL} (h : st.by_ p = some s) (hc : s.cost ≤ c) : (relaxS here c st x).by_ p = some s := by
  rw [relax_by]
  by_cases ht : takenS st x.1 (c + priceM x.2) = true ∧ p = x.1
  · exfalso
    obtain ⟨ht, rfl⟩ := ht
    unfold takenS at ht
    rw [h] at ht
    have := of_decide_eq_true ht
    omega
  · rw [if_neg ht]; exact h
theorem relax_to {here : Nat × Nat} {c : Nat} {st : SrchL} {x : (Nat × Nat) × MoveL} : ∃ s', (relaxS here c st x).by_ x.1 = some s' ∧ s'.cost ≤ c + priceM x.2 := by
  rw [relax_by]
  by_cases ht : takenS st x.1 (c + priceM x.2) = true
  · rw [if_pos ⟨ht, rfl⟩]; exact ⟨_, rfl, Nat.le_refl _⟩
  · rw [if_neg (fun h => ht h.1)]
    unfold takenS at ht
    split at ht
    · rename_i f hf
      have : ¬ c + priceM x.2 < f.cost := fun h => ht (decide_eq_true h)
      exact ⟨f, hf, by omega⟩
    · exact absurd rfl ht
/-- What is pushed while one step is looked at. -/
def pushedS (here : Nat × Nat) (c : Nat) (st : SrchL) (x : (Nat × Nat) × MoveL) : List (Nat × Nat) := if takenS st x.1 (c + priceM x.2) = true ∧ priceM x.2 = 0 then [x.1] else []
theorem relax_level {here : Nat × Nat} {c : Nat} {st : SrchL} {x : (Nat × Nat) × MoveL} : (relaxS here c st x).level = st.level ++ pushedS here c st x := by
  unfold relaxS pushedS
  by_cases ht : takenS st x.1 (c + priceM x.2) = true
  · rw [if_pos ht]
    by_cases hp : priceM x.2 = 0
    · rw [if_pos hp, if_pos ⟨ht, hp⟩]
    · rw [if_neg hp, if_neg (fun h => hp h.2), List.append_nil]
  · rw [if_neg ht, if_neg (fun h => ht h.1), List.append_nil]
theorem relax_dear {here : Nat × Nat} {c : Nat} {st : SrchL} {x : (Nat × Nat) × MoveL} : (relaxS here c st x).dear = st.dear ++ (if takenS st x.1 (c + priceM x.2) = true ∧ ¬ priceM x.2 = 0 then [x.1] else []) := by
  unfold relaxS
  by_cases ht : takenS st x.1 (c + priceM x.2) = true
  · rw [if_pos ht]
    by_cases hp : priceM x.2 = 0
    · rw [if_pos hp, if_neg (fun h => h.2 hp), List.append_nil]
    · rw [if_neg hp, if_pos ⟨ht, hp⟩]
  · rw [if_neg ht, if_neg (fun h => ht h.1), List.append_nil]

theorem InvS.relax {c : Nat} {st : SrchL} {pend : List (Nat × Nat)} (h : InvS A lb tr N c st pend) {here : Nat × Nat} {sh : StepL} (hh : st.by_ here = some sh) (hc : sh.cost = c) {x : (Nat × Nat) × MoveL} (hx : AStep A lb tr here x.2 x.1) (hN : x.1.1 < N) (hT : x.1.2 ≤ tr.length) :
    InvS A lb tr N c (relaxS here c st x) (pend ++ pushedS here c st x) := by
  obtain ⟨s0, hb0, hc0⟩ := h.base
  have hpr := price_le x.2
  have hne0 : takenS st x.1 (c + priceM x.2) = true → x.1 ≠ (0, 0) := fun ht e => by
    unfold takenS at ht
    rw [e, hb0] at ht
    have := of_decide_eq_true ht
    omega
  have hold : takenS st x.1 (c + priceM x.2) = true → ∀ s, st.by_ x.1 = some s → c < s.cost := fun ht s hs => by
    unfold takenS at ht
    rw [hs] at ht
    have := of_decide_eq_true ht
    omega
  refine ⟨⟨s0, relax_old hb0 (by omega), hc0⟩, ?_, ?_, ?_, ?_, ?_, ?_⟩
  · obtain ⟨rk, hrk⟩ := h.frm
    by_cases ht : takenS st x.1 (c + priceM x.2) = true
    · refine ⟨fun p => if p = x.1 then rk here + 1 else rk p, fun p s hs hp => ?_⟩
      have hhx : here ≠ x.1 := fun e => by have := hold ht sh (by rw [← e]; exact hh); omega
      rw [relax_by] at hs
      by_cases hpx : p = x.1
      · rw [if_pos ⟨ht, hpx⟩] at hs
        injection hs with hs
        subst hs
        refine ⟨sh, relax_old hh (by omega), by rw [hpx]; exact hx, by show c + priceM x.2 = _; rw [hc], by omega, ?_⟩
        show (if here = x.1 then _ else _) < if p = x.1 then _ else _
        rw [if_neg hhx, if_pos hpx]
        exact Nat.lt_succ_self _
      · rw [if_neg (fun q => hpx q.2)] at hs
        obtain ⟨sf, g1, g2, g3, g4, g5⟩ := hrk p s hs hp
        have hfx : s.frm ≠ x.1 := fun e => by have := hold ht sf (by rw [← e]; exact g1); omega
        refine ⟨sf, relax_old g1 g4, g2, g3, g4, ?_⟩
        show (if s.frm = x.1 then _ else _) < if p = x.1 then _ else _
        rw [if_neg hfx, if_neg hpx]
        exact g5
    · refine ⟨rk, fun p s hs hp => ?_⟩
      rw [relax_by, if_neg (fun q => ht q.1)] at hs
      obtain ⟨sf, g1, g2, g3, g4, g5⟩ := hrk p s hs hp
      exact ⟨sf, relax_old g1 g4, g2, g3, g4, g5⟩
  · intro p s hs
    rw [relax_by] at hs
    split at hs
    · rename_i q
      injection hs with hs
      subst hs
      rw [q.2]
      exact ⟨by show c + priceM x.2 ≤ _; omega, hN, hT⟩
    · exact h.range p s hs
  · intro p s hs hcs hor m q hq
    rw [relax_by] at hs
    split at hs
    · rename_i w
      injection hs with hs
      subst hs
      have hcs' : c + priceM x.2 ≤ c := hcs
      have hp0 : priceM x.2 = 0 := by omega
      exfalso
      rcases hor with h1 | h1
      · exact h1 (List.mem_append.2 (.inr (by unfold pushedS; rw [if_pos ⟨w.1, hp0⟩, w.2]; simp)))
      · have : c + priceM x.2 < c := h1
        omega
    · obtain ⟨s', g1, g2⟩ := h.closed p s hs hcs (hor.imp (fun h1 h2 => h1 (List.mem_append.2 (.inl h2))) id) m q hq
      obtain ⟨s2, g3, g4⟩ := relax_mono (here := here) (c := c) (x := x) g1
      exact ⟨s2, g3, by omega⟩
  · intro p s hs hcs
    rw [relax_by] at hs
    rw [relax_dear]
    split at hs
    · rename_i w
      injection hs with hs
      subst hs
      have hcs' : c + priceM x.2 = c + 1 := hcs
      exact List.mem_append.2 (.inr (by rw [if_pos ⟨w.1, by omega⟩, w.2]; simp))
    · exact List.mem_append.2 (.inl (h.dearer p s hs hcs))
  · intro p hp
    rcases List.mem_append.1 hp with hp | hp
    · obtain ⟨s, g1, g2⟩ := h.levelIn p hp
      exact ⟨s, relax_old g1 g2, g2⟩
    · unfold pushedS at hp
      split at hp
      · rename_i w
        obtain rfl := List.mem_singleton.1 hp
        obtain ⟨s', g1, g2⟩ := relax_to (here := here) (c := c) (st := st) (x := x)
        exact ⟨s', g1, by omega⟩
      · cases hp
  · intro p hp
    rw [relax_dear] at hp
    rcases List.mem_append.1 hp with hp | hp
    · obtain ⟨s, g1⟩ := h.dearIn p hp
      obtain ⟨s', g2, _⟩ := relax_mono (here := here) (c := c) (x := x) g1
      exact ⟨s', g2⟩
    · split at hp
      · obtain rfl := List.mem_singleton.1 hp
        obtain ⟨s', g1, g2⟩ := relax_to (here := here) (c := c) (st := st) (x := x)
        exact ⟨s', g1⟩
      · cases hp

/-- All steps from one spot. -/
def pushedAll (here : Nat × Nat) (c : Nat) : SrchL → List ((Nat × Nat) × MoveL) → List (Nat × Nat)
  | _, [] => []
  | st, x :: l => pushedS here c st x ++ pushedAll here c (relaxS here c st x) l
theorem relaxAll_level (here : Nat × Nat) (c : Nat) : ∀ (l : List ((Nat × Nat) × MoveL)) (st : SrchL), (relaxAll here c st l).level = st.level ++ pushedAll here c st l
  | [], st => by show st.level = st.level ++ []; rw [List.append_nil]
  | x :: l, st => by
    show (relaxAll here c (relaxS here c st x) l).level = st.level ++ (pushedS here c st x ++ pushedAll here c (relaxS here c st x) l)
    rw [relaxAll_level here c l, relax_level, List.append_assoc]
theorem relaxAll_mono {here : Nat × Nat} {c : Nat} {p : Nat × Nat} : ∀ (l : List ((Nat × Nat) × MoveL)) {st : SrchL} {s : StepL}, st.by_ p = some s → ∃ s', (relaxAll here c st l).by_ p = some s' ∧ s'.cost ≤ s.cost
  | [], st, s, h => ⟨s, h, Nat.le_refl _⟩
  | x :: l, st, s, h => by
    obtain ⟨s1, g1, g2⟩ := relax_mono (here := here) (c := c) (x := x) h
    obtain ⟨s2, g3, g4⟩ := relaxAll_mono l g1
    exact ⟨s2, g3, by omega⟩
theorem relaxAll_old {here : Nat × Nat} {c : Nat} {p : Nat × Nat} : ∀ (l : List ((Nat × Nat) × MoveL)) {st : SrchL} {s : StepL}, st.by_ p = some s → s.cost ≤ c → (relaxAll here c st l).by_ p = some s
  | [], st, s, h, _ => h
  | x :: l, st, s, h, hc => relaxAll_old l (relax_old h hc) hc
theorem relaxAll_to {here : Nat × Nat} {c : Nat} : ∀ {l : List ((Nat × Nat) × MoveL)} {st : SrchL} {x : (Nat × Nat) × MoveL}, x ∈ l → ∃ s', (relaxAll here c st l).by_ x.1 = some s' ∧ s'.cost ≤ c + priceM x.2
  | y :: l, st, x, hx => by
    rcases List.mem_cons.1 hx with rfl | hx
    · obtain ⟨s1, g1, g2⟩ := relax_to (here := here) (c := c) (st := st) (x := x)
      obtain ⟨s2, g3, g4⟩ := relaxAll_mono l g1
      exact ⟨s2, g3, by omega⟩
    · exact relaxAll_to (l := l) (st := relaxS here c st y) hx
theorem InvS.relaxAll {c : Nat} {here : Nat × Nat} {sh : StepL} (hc : sh.cost = c) : ∀ {l : List ((Nat × Nat) × MoveL)} {st : SrchL} {pend : List (Nat × Nat)}, InvS A lb tr N c st pend → st.by_ here = some sh → (∀ x ∈ l, AStep A lb tr here x.2 x.1 ∧ x.1.1 < N ∧ x.1.2 ≤ tr.length) →
    InvS A lb tr N c (relaxAll here c st l) (pend ++ pushedAll here c st l)
  | [], st, pend, h, hh, hl => by show InvS A lb tr N c st (pend ++ []); rw [List.append_nil]; exact h
  | x :: l, st, pend, h, hh, hl => by
    obtain ⟨a1, a2, a3⟩ := hl x (by simp)
    have := (h.relax hh hc a1 a2 a3).relaxAll hc (l := l) (relax_old hh (by omega)) (fun y hy => hl y (by simp [hy]))
    rw [List.append_assoc] at this
    exact this
/-- A spot has been gone on from. -/
theorem InvS.gone {c : Nat} {here : Nat × Nat} {sh : StepL} {st : SrchL} {pend : List (Nat × Nat)} {l : List ((Nat × Nat) × MoveL)} (h : InvS A lb tr N c st (here :: pend)) (hh : st.by_ here = some sh) (hc : sh.cost = c) (hl : ∀ m q, AStep A lb tr here m q ↔ (q, m) ∈ l) (hN : ∀ x ∈ l, x.1.1 < N ∧ x.1.2 ≤ tr.length) :
    InvS A lb tr N c (Go.Proofs.Ytakgppoeikcepaa.relaxAll here c st l) (pend ++ pushedAll here c st l) := by
  have hI := h.relaxAll hc (l := l) hh (fun x hx => ⟨(hl x.2 x.1).2 hx, hN x hx⟩)
  refine ⟨hI.base, hI.frm, hI.range, fun p s hs hcs hor m q hq => ?_, hI.dearer, fun p hp => hI.levelIn p (by simp at hp ⊢; exact .inr hp), hI.dearIn⟩
  by_cases e : p = here
  · subst e
    have e1 := relaxAll_old (here := p) (c := c) l hh (by omega)
    rw [e1] at hs
    injection hs with hs
    subst hs
    have := relaxAll_to (here := p) (c := c) (st := st) ((hl m q).1 hq)
    obtain ⟨s', g1, g2⟩ := this
    exact ⟨s', g1, by show _ ≤ _; rw [hc]; exact g2⟩
  · exact hI.closed p s hs hcs (hor.imp (fun h1 h2 => h1 (by simp at h2 ⊢; exact h2.resolve_left e)) id) m q hq
/-- A spot that had become cheaper. -/
theorem InvS.stale {c : Nat} {here : Nat × Nat} {sh : StepL} {st : SrchL} {pend : List (Nat × Nat)} (h : InvS A lb tr N c st (here :: pend)) (hh : st.by_ here = some sh) (hc : sh.cost < c) : InvS A lb tr N c st pend := by
  refine ⟨h.base, h.frm, h.range, fun p s hs hcs hor m q hq => ?_, h.dearer, fun p hp => h.levelIn p (by simp [hp]), h.dearIn⟩
  refine h.closed p s hs hcs ?_ m q hq
  by_cases e : p = here
  · subst e; rw [hh] at hs; injection hs with hs; subst hs; exact .inr hc
  · exact hor.imp (fun h1 h2 => h1 ((List.mem_cons.1 h2).resolve_left e)) id
/-- The next level. -/
theorem InvS.next {c : Nat} {st : SrchL} (h : InvS A lb tr N c st []) : InvS A lb tr N (c + 1) ⟨st.by_, st.dear, []⟩ st.dear := by
  obtain ⟨rk, hrk⟩ := h.frm
  refine ⟨h.base, ⟨rk, fun p s hs hp => ?_⟩, fun p s hs => ?_, fun p s hs hcs hor m q hq => ?_, fun p s hs hcs => ?_, fun p hp => ?_, fun p hp => by cases hp⟩
  · obtain ⟨sf, g1, g2, g3, g4, g5⟩ := hrk p s hs hp
    exact ⟨sf, g1, g2, g3, by omega, g5⟩
  · obtain ⟨g1, g2, g3⟩ := h.range p s hs
    exact ⟨by omega, g2, g3⟩
  · by_cases e : s.cost ≤ c
    · exact h.closed p s hs e (.inl (by simp)) m q hq
    · rcases hor with h1 | h1
      · exact absurd (h.dearer p s hs (by omega)) h1
      · omega
  · exfalso
    have := (h.range p s hs).1
    have : s.cost = c + 1 + 1 := hcs
    omega
  · obtain ⟨s, g1⟩ := h.dearIn p hp
    exact ⟨s, g1, (h.range p s g1).1⟩
theorem InvS.start (s : StepL) (hs : s.cost = 0) (hN : 0 < N) : InvS A lb tr N 0 ⟨putS (fun _ => none) (0, 0) s, [(0, 0)], []⟩ [(0, 0)] := by
  have hp : ∀ p q, putS (fun _ => none) (0, 0) s p = some q → p = (0, 0) ∧ q = s := fun p q h => by
    unfold putS at h
    split at h
    · rename_i e; injection h with h; exact ⟨e, h.symm⟩
    · cases h
  refine ⟨⟨s, by simp [putS], hs⟩, ⟨fun _ => 0, fun p q h hne => absurd (hp p q h).1 hne⟩, fun p q h => ?_, fun p q h hc hor => ?_, fun p q h hc => ?_, fun p h => ?_, fun p h => by cases h⟩
  · obtain ⟨rfl, rfl⟩ := hp p q h; exact ⟨by omega, hN, Nat.zero_le _⟩
  · obtain ⟨rfl, rfl⟩ := hp p q h
    rcases hor with h1 | h1
    · exact absurd (by simp) h1
    · omega
  · obtain ⟨rfl, rfl⟩ := hp p q h; omega
  · obtain rfl := List.mem_singleton.1 h
    exact ⟨s, by simp [putS], by omega⟩

/-- What is cheap enough has been found, at the level's end. -/
theorem InvS.within {c : Nat} {st : SrchL} (h : InvS A lb tr N c st []) : ∀ {ms : List MoveL} {p q : Nat × Nat} {s : StepL}, st.by_ p = some s → Lay A lb tr p ms q → s.cost + costM ms ≤ c → ∃ s', st.by_ q = some s' ∧ s'.cost ≤ s.cost + costM ms
  | [], p, q, s, hs, hl, hc => by obtain rfl : p = q := hl; exact ⟨s, hs, Nat.le_add_right _ _⟩
  | m :: ms, p, q, s, hs, hl, hc => by
    obtain ⟨r, h1, h2⟩ := hl
    have hcm : costM (m :: ms) = priceM m + costM ms := rfl
    rw [hcm] at hc ⊢
    obtain ⟨s1, g1, g2⟩ := h.closed p s hs (by omega) (.inl (by simp)) m r h1
    obtain ⟨s2, g3, g4⟩ := h.within g1 h2 (by omega)
    exact ⟨s2, g3, by omega⟩
/-- Where nothing costs more, all has been found. -/
theorem InvS.all {c : Nat} {st : SrchL} (h : InvS A lb tr N c st []) (hd : st.dear = []) : ∀ {ms : List MoveL} {p q : Nat × Nat} {s : StepL}, st.by_ p = some s → Lay A lb tr p ms q → ∃ s', st.by_ q = some s'
  | [], p, q, s, hs, hl => by obtain rfl : p = q := hl; exact ⟨s, hs⟩
  | m :: ms, p, q, s, hs, hl => by
    obtain ⟨r, h1, h2⟩ := hl
    have hc : s.cost ≤ c := by
      have := (h.range p s hs).1
      rcases Nat.lt_or_ge c s.cost with g | g
      · have := h.dearer p s hs (by omega)
        rw [hd] at this; cases this
      · exact g
    obtain ⟨s1, g1, g2⟩ := h.closed p s hs hc (.inl (by simp)) m r h1
    exact h.all hd g1 h2
theorem InvS.back {c : Nat} {st : SrchL} {pend : List (Nat × Nat)} (h : InvS A lb tr N c st pend) : ∃ rk : Nat × Nat → Nat, ∀ (k : Nat) p s, rk p ≤ k → st.by_ p = some s → ∃ ms, Lay A lb tr (0, 0) ms p ∧ costM ms = s.cost := by
  obtain ⟨rk, hrk⟩ := h.frm
  refine ⟨rk, fun k => ?_⟩
  induction k with
  | zero =>
    intro p s hk hs
    by_cases e : p = (0, 0)
    · obtain ⟨s0, g1, g2⟩ := h.base
      rw [e, g1] at hs; injection hs with hs; subst hs
      exact ⟨[], e.symm, g2.symm⟩
    · obtain ⟨sf, _, _, _, _, g5⟩ := hrk p s hs e; omega
  | succ k ih =>
    intro p s hk hs
    by_cases e : p = (0, 0)
    · obtain ⟨s0, g1, g2⟩ := h.base
      rw [e, g1] at hs; injection hs with hs; subst hs
      exact ⟨[], e.symm, g2.symm⟩
    · obtain ⟨sf, g1, g2, g3, g4, g5⟩ := hrk p s hs e
      obtain ⟨ms, q1, q2⟩ := ih s.frm sf (by omega) g1
      refine ⟨ms ++ [s.move], q1.append (Lay.one g2), ?_⟩
      rw [costM_append, q2, g3]
      show _ + (priceM _ + 0) = _
      omega
/-- What was found at a level's end has its least cost. -/
theorem InvS.cheap {c : Nat} {st : SrchL} (h : InvS A lb tr N c st []) {p : Nat × Nat} {s : StepL} (hs : st.by_ p = some s) : Cheap A lb tr (0, 0) p s.cost := by
  obtain ⟨rk, hb⟩ := h.back
  refine ⟨hb (rk p) p s (Nat.le_refl _) hs, fun ms hl => ?_⟩
  obtain ⟨s0, g1, g2⟩ := h.base
  rcases Nat.lt_or_ge (costM ms) s.cost with g | g
  · have := (h.range p s hs).1
    obtain ⟨s', g3, g4⟩ := h.within g1 hl (by omega)
    rw [hs] at g3; injection g3 with g3; subst g3
    omega
  · exact g
end

/-- All moves from a spot. -/
def outM (lb : Nat → Int) (tr : List Int) (p : Nat × Nat) (a : ArcL) : List ((Nat × Nat) × MoveL) :=
  ((a.dst, p.2), ⟨3, lb a.tran, a.tran⟩) :: if lb a.tran ≠ 0 ∧ p.2 < tr.length ∧ nth tr p.2 = lb a.tran then [((a.dst, p.2 + 1), ⟨1, lb a.tran, a.tran⟩)] else []
def movesS (lb : Nat → Int) (tr : List Int) (p : Nat × Nat) (ars : List ArcL) : List ((Nat × Nat) × MoveL) :=
  (if p.2 < tr.length then [((p.1, p.2 + 1), ⟨2, nth tr p.2, 0⟩)] else []) ++ ars.flatMap (outM lb tr p)
theorem moves_iff {A : List ArcL} {lb : Nat → Int} {tr : List Int} {p : Nat × Nat} (m : MoveL) (q : Nat × Nat) : AStep A lb tr p m q ↔ (q, m) ∈ movesS lb tr p (A.filter fun a => a.frm == p.1) := by
  unfold AStep movesS
  rw [List.mem_append, List.mem_flatMap]
  constructor
  · rintro (⟨h1, rfl, rfl⟩ | ⟨a, ha, e, h⟩)
    · left; rw [if_pos h1]; simp
    · right
      refine ⟨a, List.mem_filter.2 ⟨ha, by simpa using e⟩, ?_⟩
      unfold outM
      rcases h with ⟨rfl, rfl⟩ | ⟨h1, h2, h3, rfl, rfl⟩
      · simp
      · rw [if_pos ⟨h2, h1, h3⟩]; simp
  · rintro (h | ⟨a, ha, h⟩)
    · left
      split at h
      · rename_i h1
        obtain h := List.mem_singleton.1 h
        injection h with h2 h3
        exact ⟨h1, h2, h3⟩
      · cases h
    · right
      obtain ⟨ha, e⟩ := List.mem_filter.1 ha
      refine ⟨a, ha, by simpa using e, ?_⟩
      unfold outM at h
      rcases List.mem_cons.1 h with h | h
      · left; injection h with h2 h3; exact ⟨h2, h3⟩
      · split at h
        · rename_i w
          obtain h := List.mem_singleton.1 h
          injection h with h2 h3
          exact .inr ⟨w.2.1, w.1, w.2.2, h2, h3⟩
        · cases h

end Go.Proofs.Ytakgppoeikcepaa

/- The search, plainly: what it still may find; the way back. -/
namespace Go.Proofs.Ytakgppoeikcepaa
set_option linter.unusedVariables false
set_option maxRecDepth 4000

def gridS (N T : Nat) : List (Nat × Nat) := (List.range N).flatMap fun a => (List.range (T + 1)).map fun b => (a, b)
theorem mem_grid {N T : Nat} {p : Nat × Nat} : p ∈ gridS N T ↔ p.1 < N ∧ p.2 ≤ T := by
  unfold gridS
  rw [List.mem_flatMap]
  constructor
  · rintro ⟨a, ha, h⟩
    obtain ⟨b, hb, rfl⟩ := List.mem_map.1 h
    exact ⟨List.mem_range.1 ha, by have := List.mem_range.1 hb; omega⟩
  · rintro ⟨h1, h2⟩
    exact ⟨p.1, List.mem_range.2 h1, List.mem_map.2 ⟨p.2, List.mem_range.2 (by omega), rfl⟩⟩
theorem grid_len (N T : Nat) : (gridS N T).length = N * (T + 1) := by
  unfold gridS
  rw [List.length_flatMap]
  simp only [List.length_map, List.length_range, List.map_const', List.sum_replicate_nat]
theorem sum_leS {α : Type} {g h : α → Nat} : ∀ {l : List α}, (∀ x ∈ l, g x ≤ h x) → (l.map g).sum ≤ (l.map h).sum
  | [], _ => Nat.le_refl _
  | x :: l, hle => by
    have h1 := hle x (by simp)
    have h2 := sum_leS (l := l) fun y hy => hle y (by simp [hy])
    simp only [List.map_cons, List.sum_cons]
    omega
theorem sum_ltS {α : Type} {g h : α → Nat} {p : α} : ∀ {l : List α}, (∀ x ∈ l, g x ≤ h x) → p ∈ l → g p + 1 ≤ h p → (l.map g).sum + 1 ≤ (l.map h).sum
  | x :: l, hle, hp, hlt => by
    have h1 := hle x (by simp)
    simp only [List.map_cons, List.sum_cons]
    rcases List.mem_cons.1 hp with rfl | hp
    · have h2 := sum_leS (l := l) fun y hy => hle y (by simp [hy])
      omega
    · have h2 := sum_ltS (l := l) (fun y hy => hle y (by simp [hy])) hp hlt
      omega
def phi1 (c : Nat) (o : Option StepL) : Nat := match o with | none => 2 | some s => if s.cost ≤ c then 0 else 1
def phiS (N T c : Nat) (f : Nat × Nat → Option StepL) : Nat := ((gridS N T).map fun p => phi1 c (f p)).sum
theorem phi1_le (c : Nat) (o : Option StepL) : phi1 c o ≤ 2 := by
  unfold phi1
  split
  · omega
  · split <;> omega
theorem phi_le (N T c : Nat) (f : Nat × Nat → Option StepL) : phiS N T c f ≤ 2 * (N * (T + 1)) := by
  unfold phiS
  have h := sum_leS (l := gridS N T) (g := fun p => phi1 c (f p)) (h := fun _ => 2) fun x _ => phi1_le c (f x)
  have e : ((gridS N T).map fun _ => 2).sum = 2 * (N * (T + 1)) := by rw [List.map_const', List.sum_replicate_nat, grid_len, Nat.mul_comm]
  omega
theorem phi_next (N T c : Nat) (f : Nat × Nat → Option StepL) : phiS N T (c + 1) f ≤ phiS N T c f := by
  unfold phiS
  refine sum_leS fun x _ => ?_
  unfold phi1
  split
  · exact Nat.le_refl _
  · split <;> split <;> omega
section
variable {A : List ArcL} {lb : Nat → Int} {tr : List Int} {N : Nat}
/-- What is kept is a step that was lacking, or a dearer one. -/
theorem InvS.taken {c : Nat} {st : SrchL} {pend : List (Nat × Nat)} (h : InvS A lb tr N c st pend) {here : Nat × Nat} {x : (Nat × Nat) × MoveL} (hN : x.1.1 < N) (hT : x.1.2 ≤ tr.length) (ht : takenS st x.1 (c + priceM x.2) = true) :
    phiS N tr.length c (relaxS here c st x).by_ + 1 ≤ phiS N tr.length c st.by_ := by
  have hpr := price_le x.2
  have hx : phi1 c ((relaxS here c st x).by_ x.1) + 1 ≤ phi1 c (st.by_ x.1) := by
    rw [relax_by, if_pos ⟨ht, rfl⟩]
    unfold takenS at ht
    cases hf : st.by_ x.1 with
    | none => unfold phi1; simp only; split <;> omega
    | some s =>
      rw [hf] at ht
      have h1 := of_decide_eq_true ht
      have h2 := (h.range _ _ hf).1
      unfold phi1
      simp only
      rw [if_pos (by omega), if_neg (by omega)]
      exact Nat.le_refl _
  unfold phiS
  refine sum_ltS (p := x.1) (fun q _ => ?_) (mem_grid.2 ⟨hN, hT⟩) hx
  by_cases e : q = x.1
  · rw [e]; omega
  · rw [relax_by, if_neg fun k => e k.2]
    exact Nat.le_refl _
theorem relax_not {here : Nat × Nat} {c : Nat} {st : SrchL} {x : (Nat × Nat) × MoveL} (ht : ¬ takenS st x.1 (c + priceM x.2) = true) : relaxS here c st x = st := by unfold relaxS; rw [if_neg ht]
/-- So many more may be pushed. -/
theorem InvS.room {c : Nat} {st : SrchL} {pend : List (Nat × Nat)} (h : InvS A lb tr N c st pend) {here : Nat × Nat} {x : (Nat × Nat) × MoveL} (hN : x.1.1 < N) (hT : x.1.2 ≤ tr.length) :
    (relaxS here c st x).level.length + (relaxS here c st x).dear.length + phiS N tr.length c (relaxS here c st x).by_ ≤ st.level.length + st.dear.length + phiS N tr.length c st.by_ := by
  by_cases ht : takenS st x.1 (c + priceM x.2) = true
  · have := h.taken (here := here) hN hT ht
    unfold relaxS at this ⊢
    rw [if_pos ht] at this ⊢
    split at this
    · rename_i hp
      rw [if_pos hp]
      simp only [List.length_append, List.length_singleton] at this ⊢
      omega
    · rename_i hp
      rw [if_neg hp]
      simp only [List.length_append, List.length_singleton] at this ⊢
      omega
  · rw [relax_not ht]; exact Nat.le_refl _
def sizeS (N T c : Nat) (st : SrchL) : Nat := st.level.length + st.dear.length + phiS N T c st.by_
theorem InvS.roomAll {c : Nat} {here : Nat × Nat} {sh : StepL} (hc : sh.cost = c) : ∀ {l : List ((Nat × Nat) × MoveL)} {st : SrchL} {pend : List (Nat × Nat)}, InvS A lb tr N c st pend → st.by_ here = some sh → (∀ x ∈ l, AStep A lb tr here x.2 x.1 ∧ x.1.1 < N ∧ x.1.2 ≤ tr.length) →
    sizeS N tr.length c (Go.Proofs.Ytakgppoeikcepaa.relaxAll here c st l) ≤ sizeS N tr.length c st
  | [], st, pend, h, hh, hl => Nat.le_refl _
  | x :: l, st, pend, h, hh, hl => by
    obtain ⟨a1, a2, a3⟩ := hl x (by simp)
    have h1 := h.room (here := here) a2 a3
    have h2 := InvS.roomAll (l := l) hc (h.relax hh hc a1 a2 a3) (relax_old hh (by omega)) (fun y hy => hl y (by simp [hy]))
    exact Nat.le_trans h2 h1
end

/-- The way back: from a spot to where it was found from. -/
structure BackS (A : List ArcL) (lb : Nat → Int) (tr : List Int) (N : Nat) (st : SrchL) (rk : Nat × Nat → Nat) (goal : Nat × Nat) (sg : StepL) (p : Nat × Nat) (ms : List MoveL) (vs : List (Nat × Nat)) : Prop where
  lay : Lay A lb tr p ms goal
  at_ : ∃ s, st.by_ p = some s ∧ s.cost + costM ms = sg.cost
  len : vs.length = ms.length
  nodup : vs.Nodup
  above : ∀ v ∈ vs, rk p < rk v
  grid : ∀ v ∈ vs, v ∈ gridS N tr.length
theorem BackS.start {A : List ArcL} {lb : Nat → Int} {tr : List Int} {N : Nat} {st : SrchL} {rk : Nat × Nat → Nat} {goal : Nat × Nat} {sg : StepL} (h : st.by_ goal = some sg) : BackS A lb tr N st rk goal sg goal [] [] :=
  ⟨rfl, ⟨sg, h, rfl⟩, rfl, List.nodup_nil, (fun v hv => by cases hv), (fun v hv => by cases hv)⟩
theorem nodup_len {α : Type} [DecidableEq α] : ∀ {l m : List α}, l.Nodup → (∀ x ∈ l, x ∈ m) → l.length ≤ m.length
  | [], m, _, _ => Nat.zero_le _
  | x :: l, m, h, hs => by
    obtain ⟨h1, h2⟩ := List.nodup_cons.1 h
    have hx := hs x (by simp)
    have := nodup_len (l := l) (m := m.erase x) h2 fun y hy => by
      have hne : y ≠ x := fun e => h1 (by rw [← e]; exact hy)
      exact (List.mem_erase_of_ne hne).2 (hs y (by simp [hy]))
    rw [List.length_erase_of_mem hx] at this
    have hp : 0 < m.length := List.length_pos_iff.2 (fun e => by rw [e] at hx; cases hx)
    simp only [List.length_cons]
    omega
section
variable {A : List ArcL} {lb : Nat → Int} {tr : List Int} {N : Nat} {c : Nat} {st : SrchL} {pend : List (Nat × Nat)} {goal : Nat × Nat} {sg : StepL}
theorem BackS.short {rk : Nat × Nat → Nat} {p : Nat × Nat} {ms : List MoveL} {vs : List (Nat × Nat)} (h : BackS A lb tr N st rk goal sg p ms vs) : ms.length ≤ N * (tr.length + 1) := by
  rw [← h.len, ← grid_len]
  exact nodup_len h.nodup h.grid
/-- A spot's rank: that it falls on the way back. -/
def RankS (A : List ArcL) (lb : Nat → Int) (tr : List Int) (st : SrchL) (rk : Nat × Nat → Nat) : Prop :=
  ∀ p s, st.by_ p = some s → p ≠ (0, 0) → ∃ sf, st.by_ s.frm = some sf ∧ AStep A lb tr s.frm s.move p ∧ s.cost = sf.cost + priceM s.move ∧ rk s.frm < rk p
theorem InvS.rank (h : InvS A lb tr N c st pend) : ∃ rk, RankS A lb tr st rk := by
  obtain ⟨rk, hrk⟩ := h.frm
  exact ⟨rk, fun p s hs hp => by obtain ⟨sf, g1, g2, g3, g4, g5⟩ := hrk p s hs hp; exact ⟨sf, g1, g2, g3, g5⟩⟩
theorem BackS.step {rk : Nat × Nat → Nat} {p : Nat × Nat} {ms : List MoveL} {vs : List (Nat × Nat)} {s : StepL} (h : BackS A lb tr N st rk goal sg p ms vs) (hr : RankS A lb tr st rk) (hI : InvS A lb tr N c st pend) (hs : st.by_ p = some s) (hp : p ≠ (0, 0)) :
    BackS A lb tr N st rk goal sg s.frm (s.move :: ms) (p :: vs) ∧ rk s.frm < rk p := by
  obtain ⟨sf, g1, g2, g3, g5⟩ := hr p s hs hp
  obtain ⟨s', k1, k2⟩ := h.at_
  rw [hs] at k1
  injection k1 with k1
  subst k1
  refine ⟨⟨⟨p, g2, h.lay⟩, ⟨sf, g1, ?_⟩, by simp [h.len], List.nodup_cons.2 ⟨fun e => by have := h.above p e; omega, h.nodup⟩, fun v hv => ?_, fun v hv => ?_⟩, g5⟩
  · show sf.cost + (priceM s.move + costM ms) = _
    omega
  · rcases List.mem_cons.1 hv with rfl | hv
    · exact g5
    · have := h.above v hv; omega
  · rcases List.mem_cons.1 hv with rfl | hv
    · have := hI.range _ _ hs; exact mem_grid.2 this.2
    · exact h.grid v hv
theorem BackS.done {rk : Nat × Nat → Nat} {ms : List MoveL} {vs : List (Nat × Nat)} (h : BackS A lb tr N st rk goal sg (0, 0) ms vs) (hI : InvS A lb tr N c st pend) : Lay A lb tr (0, 0) ms goal ∧ costM ms = sg.cost := by
  obtain ⟨s, g1, g2⟩ := h.at_
  obtain ⟨s0, k1, k2⟩ := hI.base
  rw [k1] at g1
  injection g1 with g1
  subst g1
  exact ⟨h.lay, by omega⟩
end

end Go.Proofs.Ytakgppoeikcepaa

/- The search in memory: its map, and the two rows of spots that grow. -/
namespace Go.Proofs.Ytakgppoeikcepaa
open Go.RowKit
set_option linter.unusedVariables false
set_option linter.unusedSimpArgs false
set_option maxRecDepth 4000

def spotC (p : Nat × Nat) : List Value := [.int .i64 (p.1 : Int), .int .i64 (p.2 : Int)]
def cellsS (l : List (Nat × Nat)) : List Value := l.flatMap spotC
theorem cellsS_append (l : List (Nat × Nat)) (p : Nat × Nat) : cellsS (l ++ [p]) = cellsS l ++ [.int .i64 (p.1 : Int), .int .i64 (p.2 : Int)] := by simp [cellsS, spotC]
theorem cellsS_at : ∀ (l : List (Nat × Nat)) (k : Nat), k < l.length → (cellsS l)[k * 2]? = some (.int .i64 ((l.getD k (0, 0)).1 : Int)) ∧ (cellsS l)[k * 2 + 1]? = some (.int .i64 ((l.getD k (0, 0)).2 : Int))
  | x :: l, 0, _ => ⟨rfl, rfl⟩
  | x :: l, k + 1, h => by
    have h1 := cellsS_at l k (by simpa using h)
    have e : cellsS (x :: l) = .int .i64 (x.1 : Int) :: .int .i64 (x.2 : Int) :: cellsS l := rfl
    rw [e, show (k + 1) * 2 + 1 = k * 2 + 1 + 1 + 1 by omega, show (k + 1) * 2 = k * 2 + 1 + 1 by omega]
    simpa using h1
theorem cellsS_length (l : List (Nat × Nat)) : (cellsS l).length = l.length * 2 := by
  unfold cellsS
  induction l with
  | nil => rfl
  | cons x r ih => rw [List.flatMap_cons, List.length_append, ih]; show 2 + _ = _; simp only [List.length_cons]; omega
def moveV (m : MoveL) : Value := .agg #[.int .i64 m.kind, .int .i64 m.label, .int .i64 m.tran]
def stepV (s : StepL) : Value := .agg #[.int .i64 (s.frm.1 : Int), .int .i64 (s.frm.2 : Int), .int .i64 s.move.kind, .int .i64 s.move.label, .int .i64 s.move.tran, .int .i64 (s.cost : Int)]
def mapV (f : Nat × Nat → Option StepL) (p : Nat × Nat) : Option Value := (f p).map stepV

/-- append of one spot, and where it lies. -/
theorem wp_append_spot_at {ops : Array Oper} {rest : List Oper} {o : Oper} {a : Act} {Q : Exit → Act → World → Prop} (hgd : o.guard = none) (s x : Operand)
    (ho : o.op = .call { callee := .builtin .append, args := #[s, x], argTypes := #[89, 89] }) (B : Nat) (wr : World) (v : Value) (zs : List (Nat × Nat)) (y z : Nat) (hown : wr.ownsRow B 60 2 v zs.length (cellsS zs))
    (hs : a.eval s = v) (hx : a.eval x = .slice (some ⟨wr.heap.size, 0, none⟩) 1 1) (hl : zs.length + 1 ≤ 8796093022208) (hB : B ≤ wr.heap.size)
    (h : ∀ v' w', w'.ownsRow B 60 2 v' (zs.length + 1) (cellsS zs ++ [.int .i64 (y : Int), .int .i64 (z : Int)]) → (wr.alloc (.cells #[.int .i64 (y : Int), .int .i64 (z : Int)] 60)).grownBy w' v.ownBlock →
      (v'.ownBlock = v.ownBlock ∨ v'.ownBlock = some (wr.alloc (.cells #[.int .i64 (y : Int), .int .i64 (z : Int)] 60)).heap.size) → wpList Try.prog ops Q rest (a.put o.dst v') w') :
    wpList Try.prog ops Q (o :: rest) a (wr.alloc (.cells #[.int .i64 (y : Int), .int .i64 (z : Int)] 60)) := by
  obtain ⟨i0, hi, hz0, hz1, hz2⟩ := info_parts (show (Try.prog.info? 60).map (fun i => (i.zero, i.size, i.bytes)) = some (some (.agg #[.int .i64 0, .int .i64 0]), 2, 16) by kernel_rfl)
  refine wpList_append_own_at _ hgd s x 89 ho B 60 i0 _ 2 16 Try.underlying89 hi hz0 hz1 hz2 rfl (by decide) v zs.length _ hs (hown.alloc _) ⟨wr.heap.size, 0, none⟩ 1 1 [.int .i64 (y : Int), .int .i64 (z : Int)] hx rfl ?_ ?_ ?_ ?_ ?_ ?_
  · intro j u hj
    rw [addr_add, World.cell?_alloc_at _ _ _ _ rfl]
    match j, hj with
    | 0, hj => simpa using hj
    | 1, hj => simpa using hj
  · intro u hu
    simp only [List.mem_cons, List.not_mem_nil, or_false] at hu
    rcases hu with rfl | rfl <;> rfl
  · unfold maxLen; omega
  · omega
  · simp; omega
  · intro v' w' h1 h2 _ h3
    exact h v' w' h1 h2 h3

/-- Nothing but the heap has turned. -/
def SameO (w w' : World) : Prop := w'.os = w.os ∧ w'.tape = w.tape ∧ w'.output = w.output
theorem SameO.trans {a b c : World} (h : SameO a b) (k : SameO b c) : SameO a c := ⟨k.1.trans h.1, k.2.1.trans h.2.1, k.2.2.trans h.2.2⟩
theorem SameO.below {B : Nat} {w w' : World} (h : Below B w w') : SameO w w' := ⟨h.os, h.tape, h.output⟩
theorem SameO.grown {w w' : World} {row : Option Nat} (h : w.grownBy w' row) : SameO w w' := ⟨h.os, h.tape, h.output⟩
/-- All that hangs on blocks outside S still does, outside S', and reads as it did. -/
structure KeepsA (w : World) (S : Nat → Prop) (w' : World) (S' : Nat → Prop) : Prop where
  size : w.heap.size ≤ w'.heap.size
  block : ∀ k, k < w.heap.size → ¬ S k → w'.heap[k]? = w.heap[k]? ∧ ¬ S' k
  same : SameO w w'
theorem KeepsA.on {w w' : World} {S S' : Nat → Prop} {R : World → Prop} (h : KeepsA w S w' S') (hR : On (fun k => ¬ S k) w R) : On (fun k => ¬ S' k) w' R :=
  fun w2 hs hk => hR w2 (Nat.le_trans h.size hs) fun k hlt hS => (hk k (Nat.lt_of_lt_of_le hlt h.1) (h.2 k hlt hS).2).trans (h.2 k hlt hS).1
theorem KeepsA.refl (w : World) (S : Nat → Prop) : KeepsA w S w S := ⟨Nat.le_refl _, fun k _ h => ⟨rfl, h⟩, rfl, rfl, rfl⟩
theorem KeepsA.trans {w w1 w2 : World} {S S1 S2 : Nat → Prop} (h : KeepsA w S w1 S1) (g : KeepsA w1 S1 w2 S2) : KeepsA w S w2 S2 :=
  ⟨Nat.le_trans h.1 g.1, fun k hlt hS => ⟨(g.2 k (Nat.lt_of_lt_of_le hlt h.1) (h.2 k hlt hS).2).1.trans (h.2 k hlt hS).1, (g.2 k (Nat.lt_of_lt_of_le hlt h.1) (h.2 k hlt hS).2).2⟩, h.same.trans g.same⟩
theorem KeepsA.below {w w' : World} (hb : Below w.heap.size w w') (S : Nat → Prop) : KeepsA w S w' S := ⟨hb.size, fun k hlt h => ⟨hb.block k hlt, h⟩, SameO.below hb⟩

/-- The blocks that the search writes: the level's box, the next one's, its map, and the two rows. -/
def mineA (L D mb : Nat) (lv dv : Value) (k : Nat) : Prop := k = L ∨ k = D ∨ k = mb ∨ lv.ownBlock = some k ∨ dv.ownBlock = some k
structure SpAt (B : Nat) (w : World) (L D mb n : Nat) (st : SrchL) (lv dv : Value) : Prop where
  rowL : w.ownsRow B 60 2 lv st.level.length (cellsS st.level)
  rowD : w.ownsRow B 60 2 dv st.dear.length (cellsS st.dear)
  map : MapA 60 spotLit okS w mb n (mapV st.by_)
  cellL : w.cell? ⟨L, 0, none⟩ = some lv
  cellD : w.cell? ⟨D, 0, none⟩ = some dv
  frL : w.frozen? ⟨L, 0, none⟩ = false
  frD : w.frozen? ⟨D, 0, none⟩ = false
  ltL : L < w.heap.size
  ltD : D < w.heap.size
  baseL : B ≤ L
  baseD : B ≤ D
  baseM : B ≤ mb
  ne : L ≠ D ∧ L ≠ mb ∧ D ≠ mb
  apL : lv.ownBlock ≠ some L ∧ lv.ownBlock ≠ some D ∧ lv.ownBlock ≠ some mb
  apD : dv.ownBlock ≠ some L ∧ dv.ownBlock ≠ some D ∧ dv.ownBlock ≠ some mb
  apLD : ∀ k, lv.ownBlock = some k → dv.ownBlock ≠ some k
section
variable {B : Nat} {w w' : World} {L D mb n : Nat} {st : SrchL} {lv dv : Value}
theorem SpAt.swap (h : SpAt B w L D mb n st lv dv) : SpAt B w D L mb n ⟨st.by_, st.dear, st.level⟩ dv lv :=
  ⟨h.rowD, h.rowL, h.map, h.cellD, h.cellL, h.frD, h.frL, h.ltD, h.ltL, h.baseD, h.baseL, h.baseM, ⟨fun e => h.ne.1 e.symm, h.ne.2.2, h.ne.2.1⟩, ⟨h.apD.2.1, h.apD.1, h.apD.2.2⟩, ⟨h.apL.2.1, h.apL.1, h.apL.2.2⟩, fun k h1 h2 => h.apLD k h2 h1⟩
theorem mineA_swap {k : Nat} : mineA L D mb lv dv k → mineA D L mb dv lv k := by
  rintro (h | h | h | h | h)
  · exact .inr (.inl h)
  · exact .inl h
  · exact .inr (.inr (.inl h))
  · exact .inr (.inr (.inr (.inr h)))
  · exact .inr (.inr (.inr (.inl h)))
theorem SpAt.mine (h : SpAt B w L D mb n st lv dv) {k : Nat} (hk : mineA L D mb lv dv k) : B ≤ k ∧ k < w.heap.size := by
  rcases hk with rfl | rfl | rfl | hk | hk
  · exact ⟨h.baseL, h.ltL⟩
  · exact ⟨h.baseD, h.ltD⟩
  · exact ⟨h.baseM, h.map.lt⟩
  · exact ownsRow_lt h.rowL hk
  · exact ownsRow_lt h.rowD hk
theorem SpAt.new (h : SpAt B w L D mb n st lv dv) {k : Nat} (hk : w.heap.size ≤ k) : ¬ mineA L D mb lv dv k := fun q => by have := (h.mine q).2; omega
theorem SpAt.to (h : SpAt B w L D mb n st lv dv) (hb : Below w.heap.size w w') : SpAt B w' L D mb n st lv dv :=
  ⟨((ownsRow_on h.rowL).below hb).now, ((ownsRow_on h.rowD).below hb).now, h.map.below hb, by rw [hb.cell (p := ⟨L, 0, none⟩) h.ltL]; exact h.cellL, by rw [hb.cell (p := ⟨D, 0, none⟩) h.ltD]; exact h.cellD,
   by rw [hb.frozen (p := ⟨L, 0, none⟩) h.ltL]; exact h.frL, by rw [hb.frozen (p := ⟨D, 0, none⟩) h.ltD]; exact h.frD, Nat.lt_of_lt_of_le h.ltL hb.size, Nat.lt_of_lt_of_le h.ltD hb.size, h.baseL, h.baseD, h.baseM, h.ne, h.apL, h.apD, h.apLD⟩
theorem cell_stay {b : Nat} {v : Value} (h : w.cell? ⟨b, 0, none⟩ = some v) (hb : w'.heap[b]? = w.heap[b]?) : w'.cell? ⟨b, 0, none⟩ = some v := (World.cell?_of_block (a := ⟨b, 0, none⟩) hb).trans h
theorem frozen_stay {b : Nat} (h : w.frozen? ⟨b, 0, none⟩ = false) (hb : w'.heap[b]? = w.heap[b]?) : w'.frozen? ⟨b, 0, none⟩ = false := by unfold World.frozen? at h ⊢; simp only [hb]; exact h
/-- The map was written. -/
theorem SpAt.mapped {n' : Nat} {f : Nat × Nat → Option StepL} (h : SpAt B w L D mb n st lv dv) (hm : MapA 60 spotLit okS w' mb n' (mapV f)) (hg : w.grownBy w' (some mb)) :
    SpAt B w' L D mb n' ⟨f, st.level, st.dear⟩ lv dv ∧ KeepsA w (mineA L D mb lv dv) w' (mineA L D mb lv dv) := by
  have hs : ∀ k, k < w.heap.size → k ≠ mb → w'.heap[k]? = w.heap[k]? := fun k hk hne => hg.block k hk (fun e => by injection e with e; exact hne e)
  refine ⟨⟨?_, ?_, hm, cell_stay h.cellL (hs _ h.ltL h.ne.2.1), cell_stay h.cellD (hs _ h.ltD h.ne.2.2), frozen_stay h.frL (hs _ h.ltL h.ne.2.1), frozen_stay h.frD (hs _ h.ltD h.ne.2.2), Nat.lt_of_lt_of_le h.ltL hg.size, Nat.lt_of_lt_of_le h.ltD hg.size, h.baseL, h.baseD, h.baseM, h.ne, h.apL, h.apD, h.apLD⟩, hg.size, fun k hk hn => ⟨hs k hk fun e => hn (.inr (.inr (.inl e))), hn⟩, SameO.grown hg⟩
  · exact ((ownsRow_on h.rowL).to hg.size fun k hk q => hs k hk fun e => h.apL.2.2 (by rw [← e]; exact q.1)).now
  · exact ((ownsRow_on h.rowD).to hg.size fun k hk q => hs k hk fun e => h.apD.2.2 (by rw [← e]; exact q.1)).now
/-- A spot was pushed. -/
theorem SpAt.pushL {wC : World} {p : Nat × Nat} {v' : Value} (h : SpAt B w L D mb n st lv dv) (hown : wC.ownsRow B 60 2 v' (st.level.length + 1) (cellsS st.level ++ [.int .i64 (p.1 : Int), .int .i64 (p.2 : Int)])) (hg : w.grownBy wC lv.ownBlock)
    (hat : v'.ownBlock = lv.ownBlock ∨ v'.ownBlock = some w.heap.size) :
    SpAt B (wC.setCell ⟨L, 0, none⟩ v') L D mb n ⟨st.by_, st.level ++ [p], st.dear⟩ v' dv ∧ KeepsA w (mineA L D mb lv dv) (wC.setCell ⟨L, 0, none⟩ v') (mineA L D mb v' dv) := by
  have hs : ∀ k, k < w.heap.size → lv.ownBlock ≠ some k → wC.heap[k]? = w.heap[k]? := fun k hk hne => hg.block k hk (fun e => hne e.symm)
  have hs2 : ∀ k, k < w.heap.size → lv.ownBlock ≠ some k → k ≠ L → (wC.setCell ⟨L, 0, none⟩ v').heap[k]? = w.heap[k]? := fun k hk hne hL => by rw [Below.heap_setCell wC ⟨L, 0, none⟩ v' k (fun e => hL (by simpa using e))]; exact hs k hk hne
  have hsz : w.heap.size ≤ (wC.setCell ⟨L, 0, none⟩ v').heap.size := by simpa [World.setCell] using hg.size
  have hnew : ∀ k, k < w.heap.size → lv.ownBlock ≠ some k → v'.ownBlock ≠ some k := fun k hk hne q => by
    rcases hat with r | r
    · rw [r] at q; exact hne q
    · rw [r] at q; injection q with q; omega
  have hcL : wC.cell? ⟨L, 0, none⟩ = some lv := cell_stay h.cellL (hs _ h.ltL h.apL.1)
  refine ⟨⟨?_, ?_, ?_, World.cell?_setCell_same _ _ _ hcL, cell_stay h.cellD (hs2 _ h.ltD h.apL.2.1 fun e => h.ne.1 e.symm), ?_, frozen_stay h.frD (hs2 _ h.ltD h.apL.2.1 fun e => h.ne.1 e.symm), Nat.lt_of_lt_of_le h.ltL hsz, Nat.lt_of_lt_of_le h.ltD hsz, h.baseL, h.baseD, h.baseM, h.ne,
    ⟨hnew _ h.ltL h.apL.1, hnew _ h.ltD h.apL.2.1, hnew _ h.map.lt h.apL.2.2⟩, h.apD, fun k hk q => ?_⟩, hsz, fun k hk hn => ⟨hs2 k hk (fun e => hn (.inr (.inr (.inr (.inl e))))) fun e => hn (.inl e), ?_⟩, (SameO.grown hg).trans ⟨rfl, rfl, rfl⟩⟩
  · have := ((ownsRow_on hown).set (a := ⟨L, 0, none⟩) (fun e => hnew _ h.ltL h.apL.1 e.1) v').now
    simpa [cellsS_append] using this
  · exact ((ownsRow_on h.rowD).to hsz fun k hk q => hs2 k hk (fun e => h.apLD k e q.1) fun e => h.apD.1 (by rw [← e]; exact q.1)).now
  · exact h.map.block (hs2 _ h.map.lt h.apL.2.2 fun e => h.ne.2.1 e.symm)
  · rw [World.frozen?_setCell]; exact frozen_stay h.frL (hs _ h.ltL h.apL.1)
  · have hlt := (ownsRow_lt h.rowD q).2
    exact hnew k hlt (fun e => h.apLD k e q) hk
  · rintro (e | e | e | e | e)
    · exact hn (.inl e)
    · exact hn (.inr (.inl e))
    · exact hn (.inr (.inr (.inl e)))
    · exact hnew k hk (fun e => hn (.inr (.inr (.inr (.inl e))))) e
    · exact hn (.inr (.inr (.inr (.inr e))))
theorem KeepsA.swap {lv' dv' : Value} (h : KeepsA w (mineA L D mb lv dv) w' (mineA L D mb lv' dv')) : KeepsA w (mineA D L mb dv lv) w' (mineA D L mb dv' lv') :=
  ⟨h.size, fun k hk hn => by obtain ⟨g1, g2⟩ := h.block k hk fun q => hn (mineA_swap q); exact ⟨g1, fun q => g2 (mineA_swap q)⟩, h.same⟩
theorem SpAt.pushD {wC : World} {p : Nat × Nat} {v' : Value} (h : SpAt B w L D mb n st lv dv) (hown : wC.ownsRow B 60 2 v' (st.dear.length + 1) (cellsS st.dear ++ [.int .i64 (p.1 : Int), .int .i64 (p.2 : Int)])) (hg : w.grownBy wC dv.ownBlock)
    (hat : v'.ownBlock = dv.ownBlock ∨ v'.ownBlock = some w.heap.size) :
    SpAt B (wC.setCell ⟨D, 0, none⟩ v') L D mb n ⟨st.by_, st.level, st.dear ++ [p]⟩ lv v' ∧ KeepsA w (mineA L D mb lv dv) (wC.setCell ⟨D, 0, none⟩ v') (mineA L D mb lv v') := by
  obtain ⟨g1, g2⟩ := h.swap.pushL hown hg hat
  exact ⟨g1.swap, g2.swap⟩
theorem SpAt.grownL {wC : World} (h : SpAt B w L D mb n st lv dv) (hg : w.grownBy wC lv.ownBlock) : wC.cell? ⟨L, 0, none⟩ = some lv ∧ wC.frozen? ⟨L, 0, none⟩ = false := by
  have hb : wC.heap[L]? = w.heap[L]? := hg.block L h.ltL fun e => h.apL.1 e.symm
  exact ⟨cell_stay h.cellL hb, frozen_stay h.frL hb⟩
theorem SpAt.grownD {wC : World} (h : SpAt B w L D mb n st lv dv) (hg : w.grownBy wC dv.ownBlock) : wC.cell? ⟨D, 0, none⟩ = some dv ∧ wC.frozen? ⟨D, 0, none⟩ = false := h.swap.grownL hg
end

/-- Boxes that a search leaves as they are. -/
def Box4A (w : World) (x : Nat) (v0 v1 v2 v3 : Value) : Prop := x < w.heap.size ∧ w.cell? ⟨x, 0, none⟩ = some v0 ∧ w.cell? ⟨x, 1, none⟩ = some v1 ∧ w.cell? ⟨x, 2, none⟩ = some v2 ∧ w.cell? ⟨x, 3, none⟩ = some v3
theorem box4A_new (w : World) (v0 v1 v2 v3 : Value) (t : TypeId) : Box4A (w.alloc (.cells #[v0, v1, v2, v3] t)) w.heap.size v0 v1 v2 v3 :=
  ⟨by simp, by rw [World.cell?_alloc_at _ _ _ _ rfl]; rfl, by rw [World.cell?_alloc_at _ _ _ _ rfl]; rfl, by rw [World.cell?_alloc_at _ _ _ _ rfl]; rfl, by rw [World.cell?_alloc_at _ _ _ _ rfl]; rfl⟩
theorem Box4A.block {w w' : World} {x : Nat} {v0 v1 v2 v3 : Value} (h : Box4A w x v0 v1 v2 v3) (hs : w.heap.size ≤ w'.heap.size) (hb : w'.heap[x]? = w.heap[x]?) : Box4A w' x v0 v1 v2 v3 := by
  obtain ⟨hx, h0, h1, h2, h3⟩ := h
  exact ⟨Nat.lt_of_lt_of_le hx hs, (World.cell?_of_block (a := ⟨x, 0, none⟩) hb).trans h0, (World.cell?_of_block (a := ⟨x, 1, none⟩) hb).trans h1, (World.cell?_of_block (a := ⟨x, 2, none⟩) hb).trans h2, (World.cell?_of_block (a := ⟨x, 3, none⟩) hb).trans h3⟩
theorem Box4A.below {w w' : World} {x : Nat} {v0 v1 v2 v3 : Value} (h : Box4A w x v0 v1 v2 v3) (hb : Below w.heap.size w w') : Box4A w' x v0 v1 v2 v3 := h.block hb.size (hb.block x h.1)
theorem KeepsA.box1A {w w' : World} {S S' : Nat → Prop} (h : KeepsA w S w' S') {b : Nat} {u : Value} (hx : Box1 w b u) (hb : ¬ S b) : Box1 w' b u ∧ ¬ S' b := by
  obtain ⟨h1, h2⟩ := hx
  have hk := h.block b h1 hb
  exact ⟨⟨Nat.lt_of_lt_of_le h1 h.size, (World.cell?_of_block (a := ⟨b, 0, none⟩) hk.1).trans h2⟩, hk.2⟩
theorem KeepsA.box2A {w w' : World} {S S' : Nat → Prop} (h : KeepsA w S w' S') {b : Nat} {u0 u1 : Value} (hx : Box2 w b u0 u1) (hb : ¬ S b) : Box2 w' b u0 u1 ∧ ¬ S' b := by
  obtain ⟨h0, h1, h2⟩ := hx
  have hk := h.block b h0 hb
  exact ⟨⟨Nat.lt_of_lt_of_le h0 h.size, (World.cell?_of_block (a := ⟨b, 0, none⟩) hk.1).trans h1, (World.cell?_of_block (a := ⟨b, 1, none⟩) hk.1).trans h2⟩, hk.2⟩
theorem KeepsA.box3A {w w' : World} {S S' : Nat → Prop} (h : KeepsA w S w' S') {b : Nat} {u0 u1 u2 : Value} (hx : Box3 w b u0 u1 u2) (hb : ¬ S b) : Box3 w' b u0 u1 u2 ∧ ¬ S' b := by
  obtain ⟨h0, h1, h2, h3⟩ := hx
  have hk := h.block b h0 hb
  exact ⟨⟨Nat.lt_of_lt_of_le h0 h.size, (World.cell?_of_block (a := ⟨b, 0, none⟩) hk.1).trans h1, (World.cell?_of_block (a := ⟨b, 1, none⟩) hk.1).trans h2, (World.cell?_of_block (a := ⟨b, 2, none⟩) hk.1).trans h3⟩, hk.2⟩
theorem KeepsA.box4A {w w' : World} {S S' : Nat → Prop} (h : KeepsA w S w' S') {b : Nat} {u0 u1 u2 u3 : Value} (hx : Box4A w b u0 u1 u2 u3) (hb : ¬ S b) : Box4A w' b u0 u1 u2 u3 ∧ ¬ S' b := by
  have hk := h.block b hx.1 hb
  exact ⟨hx.block h.size hk.1, hk.2⟩

/-- What the closure has captured beside: where it goes on from, the cost, the search. -/
structure FixA (w : World) (H C Sx S mb : Nat) (here : Nat × Nat) (c : Nat) (v0 v1 v2 : Value) (mine : Nat → Prop) : Prop where
  hereB : Box2 w H (.int .i64 (here.1 : Int)) (.int .i64 (here.2 : Int))
  costB : Box1 w C (.int .i64 (c : Int))
  ptrB : Box1 w Sx (.pointer (some ⟨S, 0, none⟩))
  srch : Box4A w S v0 v1 v2 (.map (some mb))
  off : ¬ mine H ∧ ¬ mine C ∧ ¬ mine Sx ∧ ¬ mine S
theorem FixA.below {w w' : World} {H C Sx S mb : Nat} {here : Nat × Nat} {c : Nat} {v0 v1 v2 : Value} {mine : Nat → Prop} (h : FixA w H C Sx S mb here c v0 v1 v2 mine) (hb : Below w.heap.size w w') : FixA w' H C Sx S mb here c v0 v1 v2 mine :=
  ⟨h.hereB.below hb, h.costB.below hb, h.ptrB.below hb, h.srch.below hb, h.off⟩
theorem FixA.keeps {w w' : World} {H C Sx S mb : Nat} {here : Nat × Nat} {c : Nat} {v0 v1 v2 : Value} {mine mine' : Nat → Prop} (h : FixA w H C Sx S mb here c v0 v1 v2 mine) (hk : KeepsA w mine w' mine') : FixA w' H C Sx S mb here c v0 v1 v2 mine' := by
  obtain ⟨a1, b1⟩ := hk.box2A h.hereB h.off.1
  obtain ⟨a2, b2⟩ := hk.box1A h.costB h.off.2.1
  obtain ⟨a3, b3⟩ := hk.box1A h.ptrB h.off.2.2.1
  obtain ⟨a4, b4⟩ := hk.box4A h.srch h.off.2.2.2
  exact ⟨a1, a2, a3, a4, b1, b2, b3, b4⟩

end Go.Proofs.Ytakgppoeikcepaa

/- spread's closure: a step is kept where it is a cheaper one. (Made by tools/gen_alignsp.py.) -/
namespace Go.Proofs.Ytakgppoeikcepaa
open Go.RowKit
set_option linter.unusedVariables false
set_option linter.unusedSimpArgs false
set_option maxRecDepth 4000

theorem price_any (m : MoveL) (w : World) : Calls Try.prog 53 #[moveV m] w fun e w' => e = .returned (.int .i64 (priceM m : Int)) ∧ Below w.heap.size w w' := by
  obtain ⟨k, l, t⟩ := m
  have hx := box3_new w (.int .i64 k) (.int .i64 l) (.int .i64 t) 35
  have b := below_new w (.cells #[.int .i64 k, .int .i64 l, .int .i64 t] 35)
  obtain ⟨w1, H1⟩ : ∃ z, Hid (w.alloc (.cells #[.int .i64 k, .int .i64 l, .int .i64 t] 35) = z) := ⟨_, rfl⟩
  rw [H1.out] at hx b
  obtain ⟨_, x0, x1, x2⟩ := hx
  obtain ⟨p, Hp⟩ : ∃ p, Hid (priceM ⟨k, l, t⟩ = p) := ⟨_, rfl⟩
  rw [Hp.out]
  show Calls _ _ #[.agg #[.int .i64 k, .int .i64 l, .int .i64 t]] _ _
  by_cases h1 : k = 1
  · have e : p = 0 := by rw [← Hp.out]; unfold priceM; simp [h1]
    subst e h1
    go_enter Try.func53, Try.ntmps53
    go_upto_region 1 with fail
    rw [H1.out]
    go_wp2
    go_ret
    exact ⟨rfl, b⟩
  · by_cases h3 : k = 3
    · subst h3
      by_cases h0 : l = 0
      · have e : p = 0 := by rw [← Hp.out]; unfold priceM; simp [h0]
        subst e h0
        go_enter Try.func53, Try.ntmps53
        go_upto_region 1 with fail
        rw [H1.out]
        go_wp2
        go_ret
        exact ⟨rfl, b⟩
      · have e : p = 1 := by rw [← Hp.out]; unfold priceM; simp [h0]
        subst e
        go_enter Try.func53, Try.ntmps53
        go_upto_region 1 with fail
        rw [H1.out]
        go_wp2
        go_ret
        exact ⟨rfl, b⟩
    · have e : p = 1 := by rw [← Hp.out]; unfold priceM; simp [h1, h3]
      subst e
      go_enter Try.func53, Try.ntmps53
      go_upto_region 1 with fail
      rw [H1.out]
      go_wp2
      go_ret
      exact ⟨rfl, b⟩

/-- A step's block. -/
def BoxS (w : World) (N : Nat) (a0 a1 a2 a3 a4 a5 : Int) : Prop := w.heap[N]? = some (.cells #[.int .i64 a0, .int .i64 a1, .int .i64 a2, .int .i64 a3, .int .i64 a4, .int .i64 a5] 64 (0, 0))
theorem BoxS.lt {w : World} {N : Nat} {a0 a1 a2 a3 a4 a5 : Int} (h : BoxS w N a0 a1 a2 a3 a4 a5) : N < w.heap.size := (Array.getElem?_eq_some_iff.1 h).1
theorem BoxS.below {w w' : World} {N : Nat} {a0 a1 a2 a3 a4 a5 : Int} (h : BoxS w N a0 a1 a2 a3 a4 a5) (hb : Below w.heap.size w w') : BoxS w' N a0 a1 a2 a3 a4 a5 := (hb.block N h.lt).trans h
theorem BoxS.grown {w w' : World} {N : Nat} {row : Option Nat} {a0 a1 a2 a3 a4 a5 : Int} (h : BoxS w N a0 a1 a2 a3 a4 a5) (hg : w.grownBy w' row) (hne : row ≠ some N) : BoxS w' N a0 a1 a2 a3 a4 a5 := (hg.block N h.lt fun e => hne e.symm).trans h
theorem BoxS.cells {w : World} {N : Nat} {a0 a1 a2 a3 a4 a5 : Int} (h : BoxS w N a0 a1 a2 a3 a4 a5) : (w.cell? ⟨N, 0, none⟩ = some (.int .i64 a0) ∧ w.cell? ⟨N, 1, none⟩ = some (.int .i64 a1) ∧ w.cell? ⟨N, 2, none⟩ = some (.int .i64 a2) ∧ w.cell? ⟨N, 3, none⟩ = some (.int .i64 a3) ∧ w.cell? ⟨N, 4, none⟩ = some (.int .i64 a4) ∧ w.cell? ⟨N, 5, none⟩ = some (.int .i64 a5)) ∧
    w.frozen? ⟨N, 0, none⟩ = false ∧ w.frozen? ⟨N, 1, none⟩ = false ∧ w.frozen? ⟨N, 2, none⟩ = false ∧ w.frozen? ⟨N, 3, none⟩ = false ∧ w.frozen? ⟨N, 4, none⟩ = false ∧ w.frozen? ⟨N, 5, none⟩ = false := by
  unfold BoxS at h
  refine ⟨⟨?_, ?_, ?_, ?_, ?_, ?_⟩, ?_, ?_, ?_, ?_, ?_, ?_⟩
  all_goals simp [World.cell?, World.frozen?, h]
theorem boxS_new (w : World) : BoxS (w.alloc (.cells #[.int .i64 0, .int .i64 0, .int .i64 0, .int .i64 0, .int .i64 0, .int .i64 0] 64)) w.heap.size 0 0 0 0 0 0 := heap_alloc_new w _
theorem boxS_store {w : World} {N : Nat} {z0 z1 z2 z3 z4 z5 : Int} (h : BoxS w N z0 z1 z2 z3 z4 z5) (a0 a1 a2 a3 a4 a5 : Int) :
    BoxS ((((((w.setCell ⟨N, 0, none⟩ (.int .i64 a0)).setCell ⟨N, 1, none⟩ (.int .i64 a1)).setCell ⟨N, 2, none⟩ (.int .i64 a2)).setCell ⟨N, 3, none⟩ (.int .i64 a3)).setCell ⟨N, 4, none⟩ (.int .i64 a4)).setCell ⟨N, 5, none⟩ (.int .i64 a5)) N a0 a1 a2 a3 a4 a5 := by
  unfold BoxS at h ⊢
  rw [setCell_block (setCell_block (setCell_block (setCell_block (setCell_block (setCell_block h _) _) _) _) _) _]
  rfl
theorem below_store6 {w0 w : World} {N B : Nat} (h : Below B w0 w) (hB : B ≤ N) (u0 u1 u2 u3 u4 u5 : Value) :
    Below B w0 ((((((w.setCell ⟨N, 0, none⟩ u0).setCell ⟨N, 1, none⟩ u1).setCell ⟨N, 2, none⟩ u2).setCell ⟨N, 3, none⟩ u3).setCell ⟨N, 4, none⟩ u4).setCell ⟨N, 5, none⟩ u5) :=
  (((((h.setCell (p := ⟨N, 0, none⟩) hB u0).setCell (p := ⟨N, 1, none⟩) hB u1).setCell (p := ⟨N, 2, none⟩) hB u2).setCell (p := ⟨N, 3, none⟩) hB u3).setCell (p := ⟨N, 4, none⟩) hB u4).setCell (p := ⟨N, 5, none⟩) hB u5

/-- What stands at a key, as the program sees it. -/
def stepZ : Value := .agg #[.int .i64 0, .int .i64 0, .int .i64 0, .int .i64 0, .int .i64 0, .int .i64 0]
theorem mapV_at (f : Nat × Nat → Option StepL) (p : Nat × Nat) : ∃ (a0 a1 a2 a3 a4 a5 : Int) (q : Bool), (mapV f p).getD stepZ = .agg #[.int .i64 a0, .int .i64 a1, .int .i64 a2, .int .i64 a3, .int .i64 a4, .int .i64 a5] ∧ (mapV f p).isSome = q ∧
    ((q = false ∧ f p = none ∧ a5 = 0) ∨ ∃ s, q = true ∧ f p = some s ∧ a0 = s.frm.1 ∧ a1 = s.frm.2 ∧ a2 = s.move.kind ∧ a3 = s.move.label ∧ a4 = s.move.tran ∧ a5 = s.cost) := by
  cases h : f p with
  | none => exact ⟨0, 0, 0, 0, 0, 0, false, by unfold mapV; rw [h]; rfl, by unfold mapV; rw [h]; rfl, .inl ⟨rfl, rfl, rfl⟩⟩
  | some s => exact ⟨_, _, _, _, _, _, true, by unfold mapV; rw [h]; rfl, by unfold mapV; rw [h]; rfl, .inr ⟨s, rfl, rfl, rfl, rfl, rfl, rfl, rfl, rfl⟩⟩

def sp1Goes (B L D mb n H C Sx S c : Nat) (here to_ : Nat × Nat) (m : MoveL) (st : SrchL) (lv dv v0 v1 v2 : Value) (w : World) : Prop :=
    Calls Try.prog 52 #[spotV to_, moveV m, .pointer (some ⟨H, 0, none⟩), .pointer (some ⟨C, 0, none⟩), .pointer (some ⟨Sx, 0, none⟩), .pointer (some ⟨L, 0, none⟩), .pointer (some ⟨D, 0, none⟩)] w fun e w' =>
      ∃ n' lv' dv', e = .returned (.tuple #[]) ∧ SpAt B w' L D mb n' (relaxS here c st (to_, m)) lv' dv' ∧ KeepsA w (mineA L D mb lv dv) w' (mineA L D mb lv' dv') ∧
        n' + st.level.length + st.dear.length = n + (relaxS here c st (to_, m)).level.length + (relaxS here c st (to_, m)).dear.length

set_option maxHeartbeats 4000000 in
theorem sp1_any {B L D mb n H C Sx S c : Nat} {here to_ : Nat × Nat} {m : MoveL} {st : SrchL} {lv dv v0 v1 v2 : Value} {w : World} (h : SpAt B w L D mb n st lv dv) (hF : FixA w H C Sx S mb here c v0 v1 v2 (mineA L D mb lv dv)) (hto : okS to_)
    (hn : n + 1 ≤ 1000000) (hll : st.level.length + 1 ≤ 1000000) (hdl : st.dear.length + 1 ≤ 1000000) (hc : c ≤ 1000000) : sp1Goes B L D mb n H C Sx S c here to_ m st lv dv v0 v1 v2 w := by
  obtain ⟨h1, h2⟩ := here
  obtain ⟨t1, t2⟩ := to_
  obtain ⟨mk, ml, mt⟩ := m
  unfold sp1Goes
  obtain ⟨st', Hst'⟩ : ∃ st', Hid (relaxS (h1, h2) c st ((t1, t2), ⟨mk, ml, mt⟩) = st') := ⟨_, rfl⟩
  rw [Hst'.out]
  show Calls _ _ #[.agg #[.int .i64 (t1 : Int), .int .i64 (t2 : Int)], .agg #[.int .i64 mk, .int .i64 ml, .int .i64 mt], _, _, _, _, _] _ _
  have hT := box2_new w (.int .i64 (t1 : Int)) (.int .i64 (t2 : Int)) 60
  have b1 := below_new w (.cells #[.int .i64 (t1 : Int), .int .i64 (t2 : Int)] 60)
  have z1 : (w.alloc (.cells #[.int .i64 (t1 : Int), .int .i64 (t2 : Int)] 60)).heap.size = w.heap.size + 1 := by simp
  obtain ⟨w1, H1⟩ : ∃ u, Hid (w.alloc (.cells #[.int .i64 (t1 : Int), .int .i64 (t2 : Int)] 60) = u) := ⟨_, rfl⟩
  rw [H1.out] at hT b1 z1
  have hM := box3_new w1 (.int .i64 mk) (.int .i64 ml) (.int .i64 mt) 35
  have b2 := below_new w1 (.cells #[.int .i64 mk, .int .i64 ml, .int .i64 mt] 35)
  have z2 : (w1.alloc (.cells #[.int .i64 mk, .int .i64 ml, .int .i64 mt] 35)).heap.size = w.heap.size + 1 + 1 := by simp [z1]
  obtain ⟨w2, H2⟩ : ∃ u, Hid (w1.alloc (.cells #[.int .i64 mk, .int .i64 ml, .int .i64 mt] 35) = u) := ⟨_, rfl⟩
  rw [H2.out] at hM b2 z2
  rw [z1] at hM
  replace hT := hT.below b2
  have b := below_then b1 b2
  have h2w := h.to b
  have hF2 := hF.below b
  have hnT : Hid (¬ mineA L D mb lv dv w.heap.size) := h.new (Nat.le_refl _)
  obtain ⟨x, HX⟩ : ∃ x, Hid (w.heap.size = x) := ⟨_, rfl⟩
  have HB : Hid (Below w.heap.size w w2) := b
  have HZ : Hid (w2.heap.size = x + 1 + 1) := by show _ = _; rw [z2, HX.out]
  rw [HX.out] at hT hM hnT
  obtain ⟨pr, Hpr⟩ : ∃ p, Hid (priceM ⟨mk, ml, mt⟩ = p) := ⟨_, rfl⟩
  have hpr1 : pr ≤ 1 := by rw [← Hpr.out]; exact price_le _
  obtain ⟨g, Hg⟩ : ∃ g, Hid (c + pr = g) := ⟨_, rfl⟩
  have hgb : g ≤ 1000001 := by have := Hg.out; omega
  have wG : IntKind.i64.wrap ((c : Int) + (pr : Int)) = (g : Int) := by rw [show ((c : Int) + (pr : Int)) = (g : Int) by have := Hg.out; omega]; exact Go.IntWalk.i64_in _ ⟨by omega, by omega⟩
  have HPC : Hid (∀ wx : World, Calls Try.prog 53 #[.agg #[.int .i64 mk, .int .i64 ml, .int .i64 mt]] wx fun e w' => e = .returned (.int .i64 (pr : Int)) ∧ Below wx.heap.size wx w') := fun wx => by
    have := price_any ⟨mk, ml, mt⟩ wx
    rw [Hpr.out] at this
    exact this
  clear b1 b2 z1 z2 b
  go_enter Try.func52, Try.ntmps52
  go_upto_region 1 with fail
  rw [H1.out, H2.out, HX.out]
  go_cut [9] (fun x9 wc => ∃ N : Nat, x9 = .pointer (some ⟨N, 0, none⟩) ∧ x + 1 + 1 ≤ N ∧ BoxS wc N (h1 : Int) (h2 : Int) mk ml mt (g : Int) ∧ Below w2.heap.size w2 wc)
  case first =>

    have HS : Hid (∀ w', Below w2.heap.size w2 w' →  w'.cell? ⟨H, 0, none⟩ = some (.int .i64 (h1 : Int)) ∧ w'.cell? ⟨H, 1, none⟩ = some (.int .i64 (h2 : Int)) ∧ w'.cell? ⟨(x + 1), 0, none⟩ = some (.int .i64 mk) ∧ w'.cell? ⟨(x + 1), 1, none⟩ = some (.int .i64 ml) ∧ w'.cell? ⟨(x + 1), 2, none⟩ = some (.int .i64 mt) ∧ w'.cell? ⟨C, 0, none⟩ = some (.int .i64 (c : Int))) := fun w' hb => by
      have q := hF2.below hb
      obtain ⟨_, q1, q2⟩ := q.hereB
      obtain ⟨_, q3⟩ := q.costB
      obtain ⟨_, q4, q5, q6⟩ := hM.below hb
      exact ⟨q1, q2, q4, q5, q6, q3⟩
    refine wp_region_held_drew (S := (fun w' => w'.cell? ⟨H, 0, none⟩ = some (.int .i64 (h1 : Int)) ∧ w'.cell? ⟨H, 1, none⟩ = some (.int .i64 (h2 : Int)) ∧ w'.cell? ⟨(x + 1), 0, none⟩ = some (.int .i64 mk) ∧ w'.cell? ⟨(x + 1), 1, none⟩ = some (.int .i64 ml) ∧ w'.cell? ⟨(x + 1), 2, none⟩ = some (.int .i64 mt) ∧ w'.cell? ⟨C, 0, none⟩ = some (.int .i64 (c : Int)))) (by kernel_rfl) (HS.out _ (Below.refl _ _).drew) (fun hH => ?_)
    have b : Below w2.heap.size w2 w2.drew := (Below.refl _ _).drew
    obtain ⟨v0', Hv0⟩ : ∃ v0', Hid (w2.drew = v0') := ⟨_, rfl⟩
    rw [Hv0.out] at hH b ⊢
    clear Hv0
    refine wpAnyH_take (i := 0) (v := .agg #[.int .i64 (h1 : Int), .int .i64 (h2 : Int)]) rfl (by kernel_rfl) (by kernel_rfl) (by kernel_rfl) (fun _ _ _ h => h) (.inl ⟨by rfl, fun w' hS' => by obtain ⟨s0, s1, s2, s3, s4, s5⟩ := hS'; go_simp⟩) hH ?_
    simp only [List.getElem_toArray, List.getElem_cons_succ, List.getElem_cons_zero, Act.put, List.setIfInBounds_toArray, List.set_cons_zero, List.set_cons_succ]
    refine wpAnyH_take (i := 1) (v := .agg #[.int .i64 mk, .int .i64 ml, .int .i64 mt]) rfl (by kernel_rfl) (by kernel_rfl) (by kernel_rfl) (fun _ _ _ h => h) (.inl ⟨by rfl, fun w' hS' => by obtain ⟨s0, s1, s2, s3, s4, s5⟩ := hS'; go_simp⟩) hH ?_
    simp only [List.getElem_toArray, List.getElem_cons_succ, List.getElem_cons_zero, Act.put, List.setIfInBounds_toArray, List.set_cons_zero, List.set_cons_succ]
    refine wpAnyH_take (i := 2) (v := .int .i64 (c : Int)) rfl (by kernel_rfl) (by kernel_rfl) (by kernel_rfl) (fun _ _ _ h => h) (.inl ⟨by rfl, fun w' hS' => by obtain ⟨s0, s1, s2, s3, s4, s5⟩ := hS'; go_simp⟩) hH ?_
    simp only [List.getElem_toArray, List.getElem_cons_succ, List.getElem_cons_zero, Act.put, List.setIfInBounds_toArray, List.set_cons_zero, List.set_cons_succ]
    refine wpAnyH_take (i := 3) (v := .agg #[.int .i64 mk, .int .i64 ml, .int .i64 mt]) rfl (by kernel_rfl) (by kernel_rfl) (by kernel_rfl) (fun _ _ _ h => h) (.inl ⟨by rfl, fun w' hS' => by obtain ⟨s0, s1, s2, s3, s4, s5⟩ := hS'; go_simp⟩) hH ?_
    simp only [List.getElem_toArray, List.getElem_cons_succ, List.getElem_cons_zero, Act.put, List.setIfInBounds_toArray, List.set_cons_zero, List.set_cons_succ]
    refine wpAnyH_ready (rs := [4, 7]) (by kernel_rfl) (by simp) ?_
    refine (AllReadyH.cons rfl (fun K hK => ?_) (AllReadyH.cons rfl (fun K hK => ?_) AllReadyH.nil))
    · simp only [List.getElem_toArray, List.getElem_cons_succ, List.getElem_cons_zero]
      rw [if_pos (by rfl)]
      go_wp2_with fail
      refine (HPC.out v0').mono ?_
      rintro e v1' ⟨rfl, bs⟩
      replace b := below_then b bs
      refine hK.out _ _ (HS.out _ b) (fun hH => ?_)
      clear hK
      refine wpAnyH_take (i := 5) (v := .int .i64 (g : Int)) rfl (by kernel_rfl) (by kernel_rfl) (by kernel_rfl) (fun _ _ _ h => h) (.inl ⟨by rfl, fun w' hS' => by first | (go_simp; done) | (go_simp; rfl) | (go_simp; intro h; omega) | (go_simp; omega)⟩) hH ?_
      simp only [List.getElem_toArray, List.getElem_cons_succ, List.getElem_cons_zero, Act.put, List.setIfInBounds_toArray, List.set_cons_zero, List.set_cons_succ]
      refine wpAnyH_take (i := 6) (v := .agg #[.int .i64 (h1 : Int), .int .i64 (h2 : Int), .int .i64 mk, .int .i64 ml, .int .i64 mt, .int .i64 (g : Int)]) rfl (by kernel_rfl) (by kernel_rfl) (by kernel_rfl) (fun _ _ _ h => h) (.inl ⟨by rfl, fun w' hS' => by first | (go_simp; done) | (go_simp; rfl) | (go_simp; intro h; omega) | (go_simp; omega)⟩) hH ?_
      simp only [List.getElem_toArray, List.getElem_cons_succ, List.getElem_cons_zero, Act.put, List.setIfInBounds_toArray, List.set_cons_zero, List.set_cons_succ]
      have ba := below_new v1' (.cells #[.int .i64 0, .int .i64 0, .int .i64 0, .int .i64 0, .int .i64 0, .int .i64 0] 64)
      have hR := boxS_new v1'
      obtain ⟨N, HN⟩ : ∃ N, Hid (v1'.heap.size = N) := ⟨_, rfl⟩
      have hN : x + 1 + 1 ≤ N := by rw [← HN.out, ← HZ.out]; exact b.size
      obtain ⟨v2', Hnew⟩ : ∃ v, Hid (v1'.alloc (.cells #[.int .i64 0, .int .i64 0, .int .i64 0, .int .i64 0, .int .i64 0, .int .i64 0] 64) = v) := ⟨_, rfl⟩
      rw [Hnew.out] at ba hR
      rw [HN.out] at hR
      refine wpAnyH_ready (rs := [7]) (by kernel_rfl) (by simp) ?_
      refine AllReadyH.cons rfl (fun K hK => ?_) AllReadyH.nil
      simp only [List.getElem_toArray, List.getElem_cons_succ, List.getElem_cons_zero]
      rw [if_pos (by rfl)]
      go_wp2_with fail
      rw [Hnew.out, HN.out]
      replace b := below_then b ba
      refine hK.out _ _ (HS.out _ b) (fun hH => ?_)
      clear hK
      obtain ⟨⟨c0, c1, c2, c3, c4, c5⟩, r0, r1, r2, r3, r4, r5⟩ := hR.cells
      have hR2 := boxS_store hR (h1 : Int) (h2 : Int) mk ml mt (g : Int)
      have bw := below_store6 b (N := N) (by rw [HZ.out]; exact hN) (.int .i64 (h1 : Int)) (.int .i64 (h2 : Int)) (.int .i64 mk) (.int .i64 ml) (.int .i64 mt) (.int .i64 (g : Int))
      obtain ⟨W2, HW2⟩ : ∃ W2, Hid (((((((v2'.setCell ⟨N, 0, none⟩ (.int .i64 (h1 : Int))).setCell ⟨N, 1, none⟩ (.int .i64 (h2 : Int))).setCell ⟨N, 2, none⟩ (.int .i64 mk)).setCell ⟨N, 3, none⟩ (.int .i64 ml)).setCell ⟨N, 4, none⟩ (.int .i64 mt)).setCell ⟨N, 5, none⟩ (.int .i64 (g : Int))) = W2) := ⟨_, rfl⟩
      rw [HW2.out] at hR2 bw
      refine wpAnyH_ready (rs := [8]) (by kernel_rfl) (by simp) ?_
      refine AllReadyH.cons rfl (fun K hK => ?_) AllReadyH.nil
      simp only [List.getElem_toArray, List.getElem_cons_succ, List.getElem_cons_zero]
      rw [if_pos (by rfl)]
      go_wp2_with fail
      rw [HW2.out]
      refine hK.out _ _ (HS.out _ bw) (fun hH => ?_)
      refine wpAnyH_done (by kernel_rfl) ?_ _
      go_wp2_with fail
      go_meet
      exact ⟨N, rfl, hN, hR2, bw⟩
    · simp only [List.getElem_toArray, List.getElem_cons_succ, List.getElem_cons_zero]
      rw [if_pos (by rfl)]
      have ba := below_new v0' (.cells #[.int .i64 0, .int .i64 0, .int .i64 0, .int .i64 0, .int .i64 0, .int .i64 0] 64)
      have hR := boxS_new v0'
      obtain ⟨N, HN⟩ : ∃ N, Hid (v0'.heap.size = N) := ⟨_, rfl⟩
      have hN : x + 1 + 1 ≤ N := by rw [← HN.out, ← HZ.out]; exact b.size
      obtain ⟨v1', Hnew⟩ : ∃ v, Hid (v0'.alloc (.cells #[.int .i64 0, .int .i64 0, .int .i64 0, .int .i64 0, .int .i64 0, .int .i64 0] 64) = v) := ⟨_, rfl⟩
      rw [Hnew.out] at ba hR
      rw [HN.out] at hR
      go_wp2_with fail
      rw [Hnew.out, HN.out]
      replace b := below_then b ba
      refine hK.out _ _ (HS.out _ b) (fun hH => ?_)
      clear hK
      refine wpAnyH_ready (rs := [4]) (by kernel_rfl) (by simp) ?_
      refine AllReadyH.cons rfl (fun K hK => ?_) AllReadyH.nil
      simp only [List.getElem_toArray, List.getElem_cons_succ, List.getElem_cons_zero]
      rw [if_pos (by rfl)]
      go_wp2_with fail
      refine (HPC.out v1').mono ?_
      rintro e v2' ⟨rfl, bs⟩
      replace b := below_then b bs
      refine hK.out _ _ (HS.out _ b) (fun hH => ?_)
      clear hK
      replace hR := hR.below bs
      refine wpAnyH_take (i := 5) (v := .int .i64 (g : Int)) rfl (by kernel_rfl) (by kernel_rfl) (by kernel_rfl) (fun _ _ _ h => h) (.inl ⟨by rfl, fun w' hS' => by first | (go_simp; done) | (go_simp; rfl) | (go_simp; intro h; omega) | (go_simp; omega)⟩) hH ?_
      simp only [List.getElem_toArray, List.getElem_cons_succ, List.getElem_cons_zero, Act.put, List.setIfInBounds_toArray, List.set_cons_zero, List.set_cons_succ]
      refine wpAnyH_take (i := 6) (v := .agg #[.int .i64 (h1 : Int), .int .i64 (h2 : Int), .int .i64 mk, .int .i64 ml, .int .i64 mt, .int .i64 (g : Int)]) rfl (by kernel_rfl) (by kernel_rfl) (by kernel_rfl) (fun _ _ _ h => h) (.inl ⟨by rfl, fun w' hS' => by first | (go_simp; done) | (go_simp; rfl) | (go_simp; intro h; omega) | (go_simp; omega)⟩) hH ?_
      simp only [List.getElem_toArray, List.getElem_cons_succ, List.getElem_cons_zero, Act.put, List.setIfInBounds_toArray, List.set_cons_zero, List.set_cons_succ]
      obtain ⟨⟨c0, c1, c2, c3, c4, c5⟩, r0, r1, r2, r3, r4, r5⟩ := hR.cells
      have hR2 := boxS_store hR (h1 : Int) (h2 : Int) mk ml mt (g : Int)
      have bw := below_store6 b (N := N) (by rw [HZ.out]; exact hN) (.int .i64 (h1 : Int)) (.int .i64 (h2 : Int)) (.int .i64 mk) (.int .i64 ml) (.int .i64 mt) (.int .i64 (g : Int))
      obtain ⟨W2, HW2⟩ : ∃ W2, Hid (((((((v2'.setCell ⟨N, 0, none⟩ (.int .i64 (h1 : Int))).setCell ⟨N, 1, none⟩ (.int .i64 (h2 : Int))).setCell ⟨N, 2, none⟩ (.int .i64 mk)).setCell ⟨N, 3, none⟩ (.int .i64 ml)).setCell ⟨N, 4, none⟩ (.int .i64 mt)).setCell ⟨N, 5, none⟩ (.int .i64 (g : Int))) = W2) := ⟨_, rfl⟩
      rw [HW2.out] at hR2 bw
      refine wpAnyH_ready (rs := [8]) (by kernel_rfl) (by simp) ?_
      refine AllReadyH.cons rfl (fun K hK => ?_) AllReadyH.nil
      simp only [List.getElem_toArray, List.getElem_cons_succ, List.getElem_cons_zero]
      rw [if_pos (by rfl)]
      go_wp2_with fail
      rw [HW2.out]
      refine hK.out _ _ (HS.out _ bw) (fun hH => ?_)
      refine wpAnyH_done (by kernel_rfl) ?_ _
      go_wp2_with fail
      go_meet
      exact ⟨N, rfl, hN, hR2, bw⟩

  case rest =>
    obtain ⟨N, rfl, hxN, hNb, bc⟩ := hcut
    obtain ⟨w3, rfl⟩ : ∃ w3, w3 = wc := ⟨_, rfl⟩
    have h3 := h2w.to bc
    have hF3 := hF2.below bc
    have hT3 := hT.below bc
    have HB3 : Hid (Below w.heap.size w w3) := below_then HB.out bc
    have HN3 : Hid (w.heap.size ≤ N) := by show _ ≤ _; rw [HX.out]; omega
    have HZ3 : Hid (x + 1 + 1 ≤ w3.heap.size) := by show _ ≤ _; rw [← HZ.out]; exact bc.size
    clear h2w hF2 hT hM HPC wG bc HZ
    obtain ⟨a0, a1, a2, a3, a4, a5, q, Hla, Hlq, Hs⟩ : ∃ a0 a1 a2 a3 a4 a5 q, Hid ((mapV st.by_ (t1, t2)).getD stepZ = .agg #[.int .i64 a0, .int .i64 a1, .int .i64 a2, .int .i64 a3, .int .i64 a4, .int .i64 a5]) ∧ Hid ((mapV st.by_ (t1, t2)).isSome = q) ∧ Hid ((q = false ∧ st.by_ (t1, t2) = none ∧ a5 = 0) ∨ ∃ s, q = true ∧ st.by_ (t1, t2) = some s ∧ a5 = s.cost) := by
      obtain ⟨a0, a1, a2, a3, a4, a5, q, e1, e2, e3⟩ := mapV_at st.by_ (t1, t2)
      refine ⟨a0, a1, a2, a3, a4, a5, q, e1, e2, ?_⟩
      rcases e3 with e3 | ⟨s, e3, e4, _, _, _, _, _, e5⟩
      · exact .inl e3
      · exact .inr ⟨s, e3, e4, e5⟩
    go_upto_region 2 with fail
    go_cut [10, 11] (fun x10 x11 wc => ∃ M : Nat, x10 = .pointer (some ⟨M, 0, none⟩) ∧ x11 = .bool q ∧ BoxS wc M a0 a1 a2 a3 a4 a5 ∧ Below w3.heap.size w3 wc)
    case first =>

      have HLK : Hid (∀ w' : World, MapA 60 spotLit okS w' mb n (mapV st.by_) → (Instr.lookup 56 (.map (some mb)) (.agg #[.int .i64 (t1 : Int), .int .i64 (t2 : Int)]) true).run Try.prog w' = .ok (.tuple #[.agg #[.int .i64 a0, .int .i64 a1, .int .i64 a2, .int .i64 a3, .int .i64 a4, .int .i64 a5], .bool q]) w') := fun w' hm => by
        have := hm.look_ok spot_key Try.underlying56 (e := 64) (z := stepZ) (by kernel_rfl) hto
        rw [Hla.out, Hlq.out] at this
        exact this
      have HS : Hid (∀ w', Below w3.heap.size w3 w' →  w'.cell? ⟨Sx, 0, none⟩ = some (.pointer (some ⟨S, 0, none⟩)) ∧ w'.cell? ⟨S, 3, none⟩ = some (.map (some mb)) ∧ w'.cell? ⟨x, 0, none⟩ = some (.int .i64 (t1 : Int)) ∧ w'.cell? ⟨x, 1, none⟩ = some (.int .i64 (t2 : Int)) ∧ MapA 60 spotLit okS w' mb n (mapV st.by_)) := fun w' hb => by
        have q := hF3.below hb
        obtain ⟨_, q1, q2, q3, q4⟩ := q.srch
        obtain ⟨_, q5⟩ := q.ptrB
        obtain ⟨_, q6, q7⟩ := hT3.below hb
        exact ⟨q5, q4, q6, q7, (h3.to hb).map⟩
      refine wp_region_held_drew (S := (fun w' => w'.cell? ⟨Sx, 0, none⟩ = some (.pointer (some ⟨S, 0, none⟩)) ∧ w'.cell? ⟨S, 3, none⟩ = some (.map (some mb)) ∧ w'.cell? ⟨x, 0, none⟩ = some (.int .i64 (t1 : Int)) ∧ w'.cell? ⟨x, 1, none⟩ = some (.int .i64 (t2 : Int)) ∧ MapA 60 spotLit okS w' mb n (mapV st.by_))) (by kernel_rfl) (HS.out _ (Below.refl _ _).drew) (fun hH => ?_)
      have b : Below w3.heap.size w3 w3.drew := (Below.refl _ _).drew
      obtain ⟨v0', Hv0⟩ : ∃ v0', Hid (w3.drew = v0') := ⟨_, rfl⟩
      rw [Hv0.out] at hH b ⊢
      clear Hv0
      refine wpAnyH_take (i := 0) (v := .pointer (some ⟨S, 0, none⟩)) rfl (by kernel_rfl) (by kernel_rfl) (by kernel_rfl) (fun _ _ _ h => h) (.inl ⟨by rfl, fun w' hS' => by obtain ⟨s0, s1, s2, s3, hm⟩ := hS'; go_simp⟩) hH ?_
      simp only [List.getElem_toArray, List.getElem_cons_succ, List.getElem_cons_zero, Act.put, List.setIfInBounds_toArray, List.set_cons_zero, List.set_cons_succ]
      refine wpAnyH_take (i := 1) (v := .pointer (some ⟨S, 0, none⟩)) rfl (by kernel_rfl) (by kernel_rfl) (by kernel_rfl) (fun _ _ _ h => h) (.inl ⟨by rfl, fun w' hS' => by first | (go_simp; done) | (go_simp; rfl) | (go_simp; intro h; omega) | (go_simp; omega)⟩) hH ?_
      simp only [List.getElem_toArray, List.getElem_cons_succ, List.getElem_cons_zero, Act.put, List.setIfInBounds_toArray, List.set_cons_zero, List.set_cons_succ]
      refine wpAnyH_take (i := 2) (v := .pointer (some ⟨S, 3, none⟩)) rfl (by kernel_rfl) (by kernel_rfl) (by kernel_rfl) (fun _ _ _ h => h) (.inl ⟨by rfl, fun w' hS' => by first | (go_simp; done) | (go_simp; rfl) | (go_simp; intro h; omega) | (go_simp; omega)⟩) hH ?_
      simp only [List.getElem_toArray, List.getElem_cons_succ, List.getElem_cons_zero, Act.put, List.setIfInBounds_toArray, List.set_cons_zero, List.set_cons_succ]
      refine wpAnyH_take (i := 3) (v := .map (some mb)) rfl (by kernel_rfl) (by kernel_rfl) (by kernel_rfl) (fun _ _ _ h => h) (.inl ⟨by rfl, fun w' hS' => by obtain ⟨s0, s1, s2, s3, hm⟩ := hS'; go_simp⟩) hH ?_
      simp only [List.getElem_toArray, List.getElem_cons_succ, List.getElem_cons_zero, Act.put, List.setIfInBounds_toArray, List.set_cons_zero, List.set_cons_succ]
      refine wpAnyH_take (i := 4) (v := .agg #[.int .i64 (t1 : Int), .int .i64 (t2 : Int)]) rfl (by kernel_rfl) (by kernel_rfl) (by kernel_rfl) (fun _ _ _ h => h) (.inl ⟨by rfl, fun w' hS' => by obtain ⟨s0, s1, s2, s3, hm⟩ := hS'; go_simp⟩) hH ?_
      simp only [List.getElem_toArray, List.getElem_cons_succ, List.getElem_cons_zero, Act.put, List.setIfInBounds_toArray, List.set_cons_zero, List.set_cons_succ]
      refine wpAnyH_take (i := 5) (v := .tuple #[.agg #[.int .i64 a0, .int .i64 a1, .int .i64 a2, .int .i64 a3, .int .i64 a4, .int .i64 a5], .bool q]) rfl (by kernel_rfl) (by kernel_rfl) (by kernel_rfl) (fun _ _ _ h => h) (.inl ⟨by rfl, fun w' hS' => by obtain ⟨s0, s1, s2, s3, hm⟩ := hS'; have hrun := HLK.out _ hm; go_simp⟩) hH ?_
      simp only [List.getElem_toArray, List.getElem_cons_succ, List.getElem_cons_zero, Act.put, List.setIfInBounds_toArray, List.set_cons_zero, List.set_cons_succ]
      refine wpAnyH_take (i := 6) (v := .tuple #[.agg #[.int .i64 a0, .int .i64 a1, .int .i64 a2, .int .i64 a3, .int .i64 a4, .int .i64 a5], .bool q]) rfl (by kernel_rfl) (by kernel_rfl) (by kernel_rfl) (fun _ _ _ h => h) (.inl ⟨by rfl, fun _ _ => rfl⟩) hH ?_
      simp only [List.getElem_toArray, List.getElem_cons_succ, List.getElem_cons_zero, Act.put, List.setIfInBounds_toArray, List.set_cons_zero, List.set_cons_succ]
      refine wpAnyH_take (i := 7) (v := .agg #[.int .i64 a0, .int .i64 a1, .int .i64 a2, .int .i64 a3, .int .i64 a4, .int .i64 a5]) rfl (by kernel_rfl) (by kernel_rfl) (by kernel_rfl) (fun _ _ _ h => h) (.inl ⟨by rfl, fun w' hS' => by first | (go_simp; done) | (go_simp; rfl) | (go_simp; intro h; omega) | (go_simp; omega)⟩) hH ?_
      simp only [List.getElem_toArray, List.getElem_cons_succ, List.getElem_cons_zero, Act.put, List.setIfInBounds_toArray, List.set_cons_zero, List.set_cons_succ]
      refine wpAnyH_take (i := 8) (v := .bool q) rfl (by kernel_rfl) (by kernel_rfl) (by kernel_rfl) (fun _ _ _ h => h) (.inl ⟨by rfl, fun w' hS' => by first | (go_simp; done) | (go_simp; rfl) | (go_simp; intro h; omega) | (go_simp; omega)⟩) hH ?_
      simp only [List.getElem_toArray, List.getElem_cons_succ, List.getElem_cons_zero, Act.put, List.setIfInBounds_toArray, List.set_cons_zero, List.set_cons_succ]
      have ba := below_new v0' (.cells #[.int .i64 0, .int .i64 0, .int .i64 0, .int .i64 0, .int .i64 0, .int .i64 0] 64)
      have hR := boxS_new v0'
      obtain ⟨M, HM⟩ : ∃ N, Hid (v0'.heap.size = N) := ⟨_, rfl⟩
      have hM2 : w3.heap.size ≤ M := by rw [← HM.out]; exact b.size
      obtain ⟨v1', Hnew⟩ : ∃ v, Hid (v0'.alloc (.cells #[.int .i64 0, .int .i64 0, .int .i64 0, .int .i64 0, .int .i64 0, .int .i64 0] 64) = v) := ⟨_, rfl⟩
      rw [Hnew.out] at ba hR
      rw [HM.out] at hR
      refine wpAnyH_ready (rs := [9]) (by kernel_rfl) (by simp) ?_
      refine AllReadyH.cons rfl (fun K hK => ?_) AllReadyH.nil
      simp only [List.getElem_toArray, List.getElem_cons_succ, List.getElem_cons_zero]
      rw [if_pos (by rfl)]
      go_wp2_with fail
      rw [Hnew.out, HM.out]
      replace b := below_then b ba
      refine hK.out _ _ (HS.out _ b) (fun hH => ?_)
      clear hK
      obtain ⟨⟨c0, c1, c2, c3, c4, c5⟩, r0, r1, r2, r3, r4, r5⟩ := hR.cells
      have hR2 := boxS_store hR a0 a1 a2 a3 a4 a5
      have bw := below_store6 b (N := M) hM2 (.int .i64 a0) (.int .i64 a1) (.int .i64 a2) (.int .i64 a3) (.int .i64 a4) (.int .i64 a5)
      obtain ⟨W2, HW2⟩ : ∃ W2, Hid (((((((v1'.setCell ⟨M, 0, none⟩ (.int .i64 a0)).setCell ⟨M, 1, none⟩ (.int .i64 a1)).setCell ⟨M, 2, none⟩ (.int .i64 a2)).setCell ⟨M, 3, none⟩ (.int .i64 a3)).setCell ⟨M, 4, none⟩ (.int .i64 a4)).setCell ⟨M, 5, none⟩ (.int .i64 a5)) = W2) := ⟨_, rfl⟩
      rw [HW2.out] at hR2 bw
      refine wpAnyH_ready (rs := [10]) (by kernel_rfl) (by simp) ?_
      refine AllReadyH.cons rfl (fun K hK => ?_) AllReadyH.nil
      simp only [List.getElem_toArray, List.getElem_cons_succ, List.getElem_cons_zero]
      rw [if_pos (by rfl)]
      go_wp2_with fail
      rw [HW2.out]
      refine hK.out _ _ (HS.out _ bw) (fun hH => ?_)
      refine wpAnyH_take (i := 11) (v := .bool q) rfl (by kernel_rfl) (by kernel_rfl) (by kernel_rfl) (fun _ _ _ h => h) (.inl ⟨by rfl, fun _ _ => rfl⟩) hH ?_
      simp only [List.getElem_toArray, List.getElem_cons_succ, List.getElem_cons_zero, Act.put, List.setIfInBounds_toArray, List.set_cons_zero, List.set_cons_succ]
      refine wpAnyH_done (by kernel_rfl) ?_ _
      go_wp2_with fail
      go_meet
      exact ⟨M, rfl, rfl, hR2, bw⟩

    case rest =>
      obtain ⟨M, rfl, rfl, hMb, bc⟩ := hcut
      obtain ⟨w4, rfl⟩ : ∃ w4, w4 = wc := ⟨_, rfl⟩
      have h4 := h3.to bc
      have hF4 := hF3.below bc
      have hT4 := hT3.below bc
      have hN4 := hNb.below bc
      have HB4 : Hid (Below w.heap.size w w4) := below_then HB3.out bc
      have HZ4 : Hid (x + 1 + 1 ≤ w4.heap.size) := Nat.le_trans HZ3.out bc.size
      clear h3 hF3 hT3 hNb bc Hla Hlq
      have H0 : Hid (takenS st (t1, t2) g = true ∨ (q = true ∧ a5 ≤ (g : Int) ∧ ¬ takenS st (t1, t2) g = true)) := by
        show _ ∨ _
        rcases Hs.out with ⟨_, e, _⟩ | ⟨s, e1, e2, e3⟩
        · left; unfold takenS; rw [e]
        · by_cases hlt : g < s.cost
          · left; unfold takenS; rw [e2]; exact decide_eq_true hlt
          · right; exact ⟨e1, by omega, by unfold takenS; rw [e2]; intro k; exact hlt (of_decide_eq_true k)⟩
      have H0' : Hid (takenS st (t1, t2) g = true → q = true → ¬ a5 ≤ (g : Int)) := fun ht hq => by
        rcases Hs.out with ⟨e, _⟩ | ⟨s, e1, e2, e3⟩
        · rw [e] at hq; cases hq
        · unfold takenS at ht; rw [e2] at ht; have := of_decide_eq_true ht; omega
      have HR : Hid (relaxS (h1, h2) c st ((t1, t2), ⟨mk, ml, mt⟩) = if takenS st (t1, t2) g = true then (if pr = 0 then ⟨putS st.by_ (t1, t2) ⟨(h1, h2), ⟨mk, ml, mt⟩, g⟩, st.level ++ [(t1, t2)], st.dear⟩ else ⟨putS st.by_ (t1, t2) ⟨(h1, h2), ⟨mk, ml, mt⟩, g⟩, st.level, st.dear ++ [(t1, t2)]⟩) else st) := by
        show _ = _
        unfold relaxS
        simp only
        rw [Hpr.out, Hg.out]
      obtain ⟨⟨_, _, _, _, _, n5⟩, _⟩ := hN4.cells
      obtain ⟨⟨_, _, _, _, _, m5⟩, _⟩ := hMb.cells
      by_cases ht : takenS st (t1, t2) g = true
      · have Hst2 : Hid (st' = if pr = 0 then ⟨putS st.by_ (t1, t2) ⟨(h1, h2), ⟨mk, ml, mt⟩, g⟩, st.level ++ [(t1, t2)], st.dear⟩ else ⟨putS st.by_ (t1, t2) ⟨(h1, h2), ⟨mk, ml, mt⟩, g⟩, st.level, st.dear ++ [(t1, t2)]⟩) := by show _ = _; rw [← Hst'.out, HR.out, if_pos ht]
        have Hq := H0'.out ht
        have HT : Hid (takenS st (t1, t2) g = true) := ht
        clear H0 H0' HR Hs ht
        go_upto_region 3 with fail
        go_cut [35] (fun x35 wc => x35 = .bool false ∧ wc = w4)
        case first =>
          cases q
          · go_wp2_with fail
            go_meet
            exact ⟨rfl, rfl⟩
          · have hq := Hq rfl
            go_wp2_with fail
            go_meet
            exact ⟨rfl, rfl⟩
        case rest =>
          obtain ⟨rfl, rfl⟩ := hcut
          obtain ⟨wq, rfl⟩ : ∃ z, z = wc := ⟨_, rfl⟩
          clear n5 m5 hMb Hq
          go_upto_region 4 with fail
          go_cut [] (fun wc => SpAt B wc L D mb (n + 1) ⟨putS st.by_ (t1, t2) ⟨(h1, h2), ⟨mk, ml, mt⟩, g⟩, st.level, st.dear⟩ lv dv ∧ KeepsA w (mineA L D mb lv dv) wc (mineA L D mb lv dv) ∧ BoxS wc N (h1 : Int) (h2 : Int) mk ml mt (g : Int) ∧ Box2 wc x (.int .i64 (t1 : Int)) (.int .i64 (t2 : Int)))
          case first =>

            have HS : Hid (∀ w', Below wq.heap.size wq w' →  w'.cell? ⟨Sx, 0, none⟩ = some (.pointer (some ⟨S, 0, none⟩)) ∧ w'.cell? ⟨S, 3, none⟩ = some (.map (some mb)) ∧ w'.cell? ⟨x, 0, none⟩ = some (.int .i64 (t1 : Int)) ∧ w'.cell? ⟨x, 1, none⟩ = some (.int .i64 (t2 : Int)) ∧ w'.cell? ⟨N, 0, none⟩ = some (.int .i64 (h1 : Int)) ∧ w'.cell? ⟨N, 1, none⟩ = some (.int .i64 (h2 : Int)) ∧ w'.cell? ⟨N, 2, none⟩ = some (.int .i64 mk) ∧ w'.cell? ⟨N, 3, none⟩ = some (.int .i64 ml) ∧ w'.cell? ⟨N, 4, none⟩ = some (.int .i64 mt) ∧ w'.cell? ⟨N, 5, none⟩ = some (.int .i64 (g : Int))) := fun w' hb => by
              have q := hF4.below hb
              obtain ⟨_, q1, q2, q3, q4⟩ := q.srch
              obtain ⟨_, q5⟩ := q.ptrB
              obtain ⟨_, q6, q7⟩ := hT4.below hb
              obtain ⟨⟨y0, y1, y2, y3, y4, y5⟩, _⟩ := (hN4.below hb).cells
              exact ⟨q5, q4, q6, q7, y0, y1, y2, y3, y4, y5⟩
            refine wp_region_held_drew (S := (fun w' => w'.cell? ⟨Sx, 0, none⟩ = some (.pointer (some ⟨S, 0, none⟩)) ∧ w'.cell? ⟨S, 3, none⟩ = some (.map (some mb)) ∧ w'.cell? ⟨x, 0, none⟩ = some (.int .i64 (t1 : Int)) ∧ w'.cell? ⟨x, 1, none⟩ = some (.int .i64 (t2 : Int)) ∧ w'.cell? ⟨N, 0, none⟩ = some (.int .i64 (h1 : Int)) ∧ w'.cell? ⟨N, 1, none⟩ = some (.int .i64 (h2 : Int)) ∧ w'.cell? ⟨N, 2, none⟩ = some (.int .i64 mk) ∧ w'.cell? ⟨N, 3, none⟩ = some (.int .i64 ml) ∧ w'.cell? ⟨N, 4, none⟩ = some (.int .i64 mt) ∧ w'.cell? ⟨N, 5, none⟩ = some (.int .i64 (g : Int)))) (by kernel_rfl) (HS.out _ (Below.refl _ _).drew) (fun hH => ?_)
            have b : Below wq.heap.size wq wq.drew := (Below.refl _ _).drew
            obtain ⟨v0', Hv0⟩ : ∃ v0', Hid (wq.drew = v0') := ⟨_, rfl⟩
            rw [Hv0.out] at hH b ⊢
            clear Hv0
            refine wpAnyH_take (i := 0) (v := .pointer (some ⟨S, 0, none⟩)) rfl (by kernel_rfl) (by kernel_rfl) (by kernel_rfl) (fun _ _ _ h => h) (.inl ⟨by rfl, fun w' hS' => by obtain ⟨s0, s1, s2, s3, s4, s5, s6, s7, s8, s9⟩ := hS'; go_simp⟩) hH ?_
            simp only [List.getElem_toArray, List.getElem_cons_succ, List.getElem_cons_zero, Act.put, List.setIfInBounds_toArray, List.set_cons_zero, List.set_cons_succ]
            refine wpAnyH_take (i := 1) (v := .pointer (some ⟨S, 0, none⟩)) rfl (by kernel_rfl) (by kernel_rfl) (by kernel_rfl) (fun _ _ _ h => h) (.inl ⟨by rfl, fun w' hS' => by first | (go_simp; done) | (go_simp; rfl) | (go_simp; intro h; omega) | (go_simp; omega)⟩) hH ?_
            simp only [List.getElem_toArray, List.getElem_cons_succ, List.getElem_cons_zero, Act.put, List.setIfInBounds_toArray, List.set_cons_zero, List.set_cons_succ]
            refine wpAnyH_take (i := 2) (v := .pointer (some ⟨S, 3, none⟩)) rfl (by kernel_rfl) (by kernel_rfl) (by kernel_rfl) (fun _ _ _ h => h) (.inl ⟨by rfl, fun w' hS' => by first | (go_simp; done) | (go_simp; rfl) | (go_simp; intro h; omega) | (go_simp; omega)⟩) hH ?_
            simp only [List.getElem_toArray, List.getElem_cons_succ, List.getElem_cons_zero, Act.put, List.setIfInBounds_toArray, List.set_cons_zero, List.set_cons_succ]
            refine wpAnyH_take (i := 3) (v := .map (some mb)) rfl (by kernel_rfl) (by kernel_rfl) (by kernel_rfl) (fun _ _ _ h => h) (.inl ⟨by rfl, fun w' hS' => by obtain ⟨s0, s1, s2, s3, s4, s5, s6, s7, s8, s9⟩ := hS'; go_simp⟩) hH ?_
            simp only [List.getElem_toArray, List.getElem_cons_succ, List.getElem_cons_zero, Act.put, List.setIfInBounds_toArray, List.set_cons_zero, List.set_cons_succ]
            refine wpAnyH_take (i := 4) (v := .agg #[.int .i64 (t1 : Int), .int .i64 (t2 : Int)]) rfl (by kernel_rfl) (by kernel_rfl) (by kernel_rfl) (fun _ _ _ h => h) (.inl ⟨by rfl, fun w' hS' => by obtain ⟨s0, s1, s2, s3, s4, s5, s6, s7, s8, s9⟩ := hS'; go_simp⟩) hH ?_
            simp only [List.getElem_toArray, List.getElem_cons_succ, List.getElem_cons_zero, Act.put, List.setIfInBounds_toArray, List.set_cons_zero, List.set_cons_succ]
            refine wpAnyH_take (i := 5) (v := .agg #[.int .i64 (h1 : Int), .int .i64 (h2 : Int), .int .i64 mk, .int .i64 ml, .int .i64 mt, .int .i64 (g : Int)]) rfl (by kernel_rfl) (by kernel_rfl) (by kernel_rfl) (fun _ _ _ h => h) (.inl ⟨by rfl, fun w' hS' => by obtain ⟨s0, s1, s2, s3, s4, s5, s6, s7, s8, s9⟩ := hS'; go_simp⟩) hH ?_
            simp only [List.getElem_toArray, List.getElem_cons_succ, List.getElem_cons_zero, Act.put, List.setIfInBounds_toArray, List.set_cons_zero, List.set_cons_succ]
            have h5 := h4.to b
            obtain ⟨w5, hrun, hput, hg5⟩ := h5.map.put spot_key Try.underlying56 (by unfold maxLen; omega) hto (stepV ⟨(h1, h2), ⟨mk, ml, mt⟩, g⟩)
            have hm5 := hput (mapV (putS st.by_ (t1, t2) ⟨(h1, h2), ⟨mk, ml, mt⟩, g⟩)) (by unfold mapV putS; simp) (fun y hy => by unfold mapV putS; rw [if_neg hy])
            obtain ⟨h6, hK6⟩ := h5.mapped hm5 hg5
            have hN6 := (hN4.below b).grown hg5 (fun e => by injection e with e; have e1 := h4.mine (k := mb) (.inr (.inr (.inl rfl))); have := HN3.out; have := h.map.lt; omega)
            have HK6 : Hid (KeepsA w (mineA L D mb lv dv) w5 (mineA L D mb lv dv)) := ((KeepsA.below (below_then HB4.out b) _).trans hK6)
            have hrun' : (Instr.mapUpdate 56 (.map (some mb)) (.agg #[.int .i64 (t1 : Int), .int .i64 (t2 : Int)]) (.agg #[.int .i64 (h1 : Int), .int .i64 (h2 : Int), .int .i64 mk, .int .i64 ml, .int .i64 mt, .int .i64 (g : Int)])).run Try.prog v0' = .ok () w5 := hrun
            clear hrun hput
            refine wpAnyH_ready (rs := [6]) (by kernel_rfl) (by simp) ?_
            refine AllReadyH.cons rfl (fun K hK => ?_) AllReadyH.nil
            simp only [List.getElem_toArray, List.getElem_cons_succ, List.getElem_cons_zero]
            rw [if_pos (by rfl)]
            go_wp2_with fail
            refine hK.out _ _ ?_ (fun hH => ?_)
            · obtain ⟨⟨y0, y1, y2, y3, y4, y5⟩, _⟩ := hN6.cells
              have hF6 := hF4.below b |>.keeps hK6
              obtain ⟨_, q1, q2, q3, q4⟩ := hF6.srch
              obtain ⟨_, q5⟩ := hF6.ptrB
              obtain ⟨_, q6, q7⟩ := (hK6.box2A (hT4.below b) hnT.out).1
              exact ⟨q5, q4, q6, q7, y0, y1, y2, y3, y4, y5⟩
            refine wpAnyH_done (by kernel_rfl) ?_ _
            go_wp2_with fail
            go_meet
            exact ⟨h6, HK6.out, hN6, (hK6.box2A (hT4.below b) hnT.out).1⟩

          case rest =>
            obtain ⟨h7, hK7, hN7, hT7⟩ := hcut
            obtain ⟨w5, rfl⟩ : ∃ z, z = wc := ⟨_, rfl⟩
            have HK7 : Hid (KeepsA w (mineA L D mb lv dv) w5 (mineA L D mb lv dv)) := hK7
            have hF7 := hF.keeps hK7
            have hT7 : Box2 w5 x (.int .i64 (t1 : Int)) (.int .i64 (t2 : Int)) := hT7
            obtain ⟨_, x1, x2⟩ := hT7
            obtain ⟨⟨_, _, _, _, _, n5⟩, _⟩ := hN7.cells
            obtain ⟨_, cc⟩ := hF7.costB
            clear hK7 hF4 hT4 hN4 hF
            rcases Nat.lt_or_ge 0 pr with hp | hp
            · have hgc : ((g : Int) == (c : Int)) = false := by have := Hg.out; rw [beq_eq_false_iff_ne]; omega
              have Hst3 : Hid (st' = ⟨putS st.by_ (t1, t2) ⟨(h1, h2), ⟨mk, ml, mt⟩, g⟩, st.level, st.dear ++ [(t1, t2)]⟩) := by show _ = _; rw [Hst2.out, if_neg (by omega)]
              go_upto_region 7 with fail
              have hown := h7.rowD
              have hcL := h7.cellD
              have hBs : B ≤ w5.heap.size := Nat.le_trans h7.baseD (Nat.le_of_lt h7.ltD)
              go_wp2_with (at_builtin; refine wp_append_spot_at rfl _ _ rfl B w5 dv st.dear t1 t2 hown rfl rfl (by omega) hBs ?_; intro v' w6 hO6 hg6 hat6; obtain ⟨a', l', c', rfl⟩ := ownsRow_slice hO6; have h8 := h7.to (below_new w5 (.cells #[.int .i64 (t1 : Int), .int .i64 (t2 : Int)] 60)); obtain ⟨u0, u1⟩ := h8.grownD hg6)
              obtain ⟨h9, hK9⟩ := h8.pushD (p := (t1, t2)) hO6 hg6 hat6
              have HK9 : Hid (KeepsA w (mineA L D mb lv dv) _ _) := (HK7.out.trans (KeepsA.below (below_new w5 (.cells #[.int .i64 (t1 : Int), .int .i64 (t2 : Int)] 60)) _)).trans hK9
              have H9 : Hid (SpAt B _ L D mb (n + 1) _ _ _) := h9
              clear h9 hK9 h8 u0 u1 hO6 hg6 hat6 hown hcL h7
              go_end0
              refine ⟨rfl, n + 1, _, _, ?_, HK9.out, ?_⟩
              · rw [Hst3.out]; exact H9.out
              · rw [Hst3.out]; simp; omega
            · have hgc : ((g : Int) == (c : Int)) = true := by have := Hg.out; rw [beq_iff_eq]; omega
              have Hst3 : Hid (st' = ⟨putS st.by_ (t1, t2) ⟨(h1, h2), ⟨mk, ml, mt⟩, g⟩, st.level ++ [(t1, t2)], st.dear⟩) := by show _ = _; rw [Hst2.out, if_pos (by omega)]
              go_upto_region 6 with fail
              have hown := h7.rowL
              have hcL := h7.cellL
              have hBs : B ≤ w5.heap.size := Nat.le_trans h7.baseL (Nat.le_of_lt h7.ltL)
              go_wp2_with (at_builtin; refine wp_append_spot_at rfl _ _ rfl B w5 lv st.level t1 t2 hown rfl rfl (by omega) hBs ?_; intro v' w6 hO6 hg6 hat6; obtain ⟨a', l', c', rfl⟩ := ownsRow_slice hO6; have h8 := h7.to (below_new w5 (.cells #[.int .i64 (t1 : Int), .int .i64 (t2 : Int)] 60)); obtain ⟨u0, u1⟩ := h8.grownL hg6)
              obtain ⟨h9, hK9⟩ := h8.pushL (p := (t1, t2)) hO6 hg6 hat6
              have HK9 : Hid (KeepsA w (mineA L D mb lv dv) _ _) := (HK7.out.trans (KeepsA.below (below_new w5 (.cells #[.int .i64 (t1 : Int), .int .i64 (t2 : Int)] 60)) _)).trans hK9
              have H9 : Hid (SpAt B _ L D mb (n + 1) _ _ _) := h9
              clear h9 hK9 h8 u0 u1 hO6 hg6 hat6 hown hcL h7
              go_end0
              refine ⟨rfl, n + 1, _, _, ?_, HK9.out, ?_⟩
              · rw [Hst3.out]; exact H9.out
              · rw [Hst3.out]; simp; omega

      · obtain ⟨hq, ha, _⟩ := H0.out.resolve_left ht
        have Hst2 : Hid (st' = st) := by show _ = _; rw [← Hst'.out, HR.out, if_neg ht]
        have HK4 : Hid (KeepsA w (mineA L D mb lv dv) w4 (mineA L D mb lv dv)) := KeepsA.below HB4.out _
        clear H0 H0' HR Hs Hst' ht
        subst hq
        go_wp2
        (try simp only [Exit.inBlock, Exit.then])
        refine bodyPost_ret (results_none rfl _ _ _) rfl ?_
        exact ⟨n, lv, dv, rfl, by rw [Hst2.out]; exact h4, HK4.out, by rw [Hst2.out]⟩

end Go.Proofs.Ytakgppoeikcepaa
/- each: what it reads. -/
namespace Go.Proofs.Ytakgppoeikcepaa
open Go.RowKit
set_option linter.unusedVariables false
set_option linter.unusedSimpArgs false
set_option maxRecDepth 4000

theorem nth_dropA (xs : List Int) (n j : Nat) : nth (xs.drop n) j = nth xs (n + j) := by simp [nth, List.getD]
theorem ints_drop {w : World} {b off len cap n : Nat} {xs : List Int} (h : Ints w (.slice (some ⟨b, off, none⟩) len cap) xs) (hn : n ≤ len) : Ints w (.slice (if cap = n then some ⟨b, off, none⟩ else some ⟨b, off + n, none⟩) (len - n) (cap - n)) (xs.drop n) := by
  obtain ⟨a', len', cap', e, hl, hmx, ⟨h1, h2, h3⟩, hr⟩ := h
  injection e with e1 e2 e3
  subst e1 e2 e3
  refine ⟨_, _, _, rfl, by rw [List.length_drop]; omega, by omega, ⟨by omega, by omega, fun h => by split at h <;> cases h⟩, fun j hj => ?_⟩
  rw [List.length_drop] at hj
  have hc : ¬ cap = n := by omega
  obtain ⟨b', off', e, hlt, hc'⟩ := hr (n + j) (by omega)
  injection e with e
  injection e with e1 e2
  subst e1 e2
  refine ⟨b, off + n, by rw [if_neg hc], hlt, ?_⟩
  rw [nth_dropA, Nat.add_assoc]; exact hc'
/-- Rows of arcs, one for each mark. -/
def RowsOn (Q : Nat → Prop) (v : Value) (N : Nat) (R : Nat → List ArcL) (w : World) : Prop :=
  ∃ (b : Nat) (rv : Nat → Value), v = .slice (some ⟨b, 0, none⟩) N N ∧ b < w.heap.size ∧ ∀ i, i < N → On Q w fun w' => w'.cell? ⟨b, i, none⟩ = some (rv i) ∧ Arcs w' (rv i) ((R i).map arcZ)
theorem RowsOn.below {Q : Nat → Prop} {v : Value} {N : Nat} {R : Nat → List ArcL} {w w' : World} (h : RowsOn Q v N R w) (hb : Below w.heap.size w w') : RowsOn Q v N R w' := by
  obtain ⟨b, rv, e, hlt, h⟩ := h
  exact ⟨b, rv, e, Nat.lt_of_lt_of_le hlt hb.size, fun i hi => (h i hi).below hb⟩

/-- What a search reads. -/
structure ReadA (mine : Nat → Prop) (w : World) (v0 v1 v2 : Value) (tr : List Int) (ts : List TranL) (N : Nat) (R : Nat → List ArcL) : Prop where
  trace : On (fun k => ¬ mine k) w fun w' => Ints w' v0 tr
  trans : On (fun k => ¬ mine k) w fun w' => Trans w' v1 ts
  rows : RowsOn (fun k => ¬ mine k) v2 N R w
theorem ReadA.below {mine : Nat → Prop} {w w' : World} {v0 v1 v2 : Value} {tr : List Int} {ts : List TranL} {N : Nat} {R : Nat → List ArcL} (h : ReadA mine w v0 v1 v2 tr ts N R) (hb : Below w.heap.size w w') : ReadA mine w' v0 v1 v2 tr ts N R :=
  ⟨h.trace.below hb, h.trans.below hb, h.rows.below hb⟩
theorem ReadA.keeps {mine mine' : Nat → Prop} {w w' : World} {v0 v1 v2 : Value} {tr : List Int} {ts : List TranL} {N : Nat} {R : Nat → List ArcL} (h : ReadA mine w v0 v1 v2 tr ts N R) (hk : KeepsA w mine w' mine') : ReadA mine' w' v0 v1 v2 tr ts N R :=
  ⟨hk.on h.trace, hk.on h.trans, by obtain ⟨b, rv, e, hlt, h⟩ := h.rows; exact ⟨b, rv, e, Nat.lt_of_lt_of_le hlt hk.size, fun i hi => hk.on (h i hi)⟩⟩

/-- What was pushed leaves room for more. -/
def RoomA (here : Nat × Nat) (c n : Nat) (st : SrchL) (l : List ((Nat × Nat) × MoveL)) : Prop :=
  ∀ l1 l2, l = l1 ++ l2 → (relaxAll here c st l1).level.length + (relaxAll here c st l1).dear.length + n + 1 ≤ 1000000
theorem relaxAll_append (here : Nat × Nat) (c : Nat) (st : SrchL) (l1 l2 : List ((Nat × Nat) × MoveL)) : relaxAll here c st (l1 ++ l2) = relaxAll here c (relaxAll here c st l1) l2 := by unfold relaxAll; rw [List.foldl_append]
theorem relaxAll_one (here : Nat × Nat) (c : Nat) (st : SrchL) (x : (Nat × Nat) × MoveL) : relaxAll here c st [x] = relaxS here c st x := rfl
theorem relaxAll_nil (here : Nat × Nat) (c : Nat) (st : SrchL) : relaxAll here c st [] = st := rfl

/-- How far each has come: what was looked at is l. -/
structure EachA (B L D mb n H C Sx S c : Nat) (here : Nat × Nat) (st : SrchL) (lv dv v0 v1 v2 : Value) (tr : List Int) (ts : List TranL) (N : Nat) (R : Nat → List ArcL) (w w' : World) (l : List ((Nat × Nat) × MoveL)) (n' : Nat) (lv' dv' : Value) : Prop where
  at_ : SpAt B w' L D mb n' (relaxAll here c st l) lv' dv'
  fix : FixA w' H C Sx S mb here c v0 v1 v2 (mineA L D mb lv' dv')
  read : ReadA (mineA L D mb lv' dv') w' v0 v1 v2 tr ts N R
  keeps : KeepsA w (mineA L D mb lv dv) w' (mineA L D mb lv' dv')
  count : n' + st.level.length + st.dear.length = n + (relaxAll here c st l).level.length + (relaxAll here c st l).dear.length
section
variable {B L D mb n H C Sx S c : Nat} {here : Nat × Nat} {st : SrchL} {lv dv v0 v1 v2 : Value} {tr : List Int} {ts : List TranL} {N : Nat} {R : Nat → List ArcL} {w w' : World} {l : List ((Nat × Nat) × MoveL)} {n' : Nat} {lv' dv' : Value}
theorem EachA.start (h : SpAt B w L D mb n st lv dv) (hF : FixA w H C Sx S mb here c v0 v1 v2 (mineA L D mb lv dv)) (hR : ReadA (mineA L D mb lv dv) w v0 v1 v2 tr ts N R) : EachA B L D mb n H C Sx S c here st lv dv v0 v1 v2 tr ts N R w w [] n lv dv :=
  ⟨h, hF, hR, KeepsA.refl _ _, rfl⟩
theorem EachA.below {w2 : World} (h : EachA B L D mb n H C Sx S c here st lv dv v0 v1 v2 tr ts N R w w' l n' lv' dv') (hb : Below w'.heap.size w' w2) : EachA B L D mb n H C Sx S c here st lv dv v0 v1 v2 tr ts N R w w2 l n' lv' dv' :=
  ⟨h.at_.to hb, h.fix.below hb, h.read.below hb, h.keeps.trans (KeepsA.below hb _), h.count⟩
/-- One more is looked at. -/
theorem EachA.call (h : EachA B L D mb n H C Sx S c here st lv dv v0 v1 v2 tr ts N R w w' l n' lv' dv') (to_ : Nat × Nat) (m : MoveL) (hto : okS to_) (hc : c ≤ 1000000) (hroom : (relaxAll here c st l).level.length + (relaxAll here c st l).dear.length + n + 1 ≤ 1000000) :
    Calls Try.prog 52 #[.agg #[.int .i64 (to_.1 : Int), .int .i64 (to_.2 : Int)], .agg #[.int .i64 m.kind, .int .i64 m.label, .int .i64 m.tran], .pointer (some ⟨H, 0, none⟩), .pointer (some ⟨C, 0, none⟩), .pointer (some ⟨Sx, 0, none⟩), .pointer (some ⟨L, 0, none⟩), .pointer (some ⟨D, 0, none⟩)] w' fun e w2 =>
      ∃ n2 lv2 dv2, e = .returned (.tuple #[]) ∧ EachA B L D mb n H C Sx S c here st lv dv v0 v1 v2 tr ts N R w w2 (l ++ [(to_, m)]) n2 lv2 dv2 ∧ KeepsA w' (mineA L D mb lv' dv') w2 (mineA L D mb lv2 dv2) := by
  have hcnt := h.count
  have := sp1_any (m := m) h.at_ h.fix hto (by omega) (by omega) (by omega) hc
  unfold sp1Goes at this
  refine this.mono ?_
  rintro e w2 ⟨n2, lv2, dv2, rfl, a1, a2, a3⟩
  have e1 : relaxAll here c st (l ++ [(to_, m)]) = relaxS here c (relaxAll here c st l) (to_, m) := by rw [relaxAll_append, relaxAll_one]
  refine ⟨n2, lv2, dv2, rfl, ⟨by rw [e1]; exact a1, h.fix.keeps a2, h.read.keeps a2, h.keeps.trans a2, ?_⟩, a2⟩
  rw [e1]
  omega
end

end Go.Proofs.Ytakgppoeikcepaa

/- Align: what it answers; the end's mark; that the end is reached. -/
namespace Go.Proofs.Ytakgppoeikcepaa
open Go.RowKit
set_option linter.unusedVariables false
set_option linter.unusedSimpArgs false
set_option maxRecDepth 4000

def AsksMk (w0 : World) (g : Nat) (q : Value) (p : List Int → Bool) : Prop :=
  ∀ (v : Value) (x : List Int) w, Below w0.heap.size w0 w → Ints w v x → Calls Try.prog g #[v, q] w fun e w' => e = .returned (.bool (p x)) ∧ Below w.heap.size w w'
def FirstMk (ls : List (List Int)) (p : List Int → Bool) (i : Int) : Prop := (i = -1 ∧ ∀ j, j < ls.length → p (markAt ls j) = false) ∨ ∃ k : Nat, i = k ∧ k < ls.length ∧ p (markAt ls k) = true ∧ ∀ j, j < k → p (markAt ls j) = false

set_option maxHeartbeats 1000000 in
theorem indexmarks_any (w0 : World) (g : Nat) (q : Value) (p : List Int → Bool) (hg : AsksMk w0 g q p) (eg : ∀ args w, (callFunc g args).run Try.prog w = .ok (.enter g args) w) (v : Value) (ls : List (List Int)) (w : World) (hw : Below w0.heap.size w0 w) (hv : Lists w v ls) :
    Calls Try.prog 16 #[v, .func (.func g) #[] #[q]] w fun e w' => ∃ i : Int, e = .returned (.int .i64 i) ∧ FirstMk ls p i ∧ Below w.heap.size w w' := by
  obtain ⟨a, cap, rfl, hmx, _⟩ := hv.slice
  obtain ⟨len, Hlen⟩ : ∃ len, Hid (ls.length = len) := ⟨_, rfl⟩
  rw [Hlen.out] at hv hmx ⊢
  have Hg : Hid _ := hg
  clear hg
  go_enter Try.func16, Try.ntmps16
  go_wp2_with fail
  go_loopg [8] len (fun g i wr => ∃ k : Nat, k + g = len ∧ i = .int .i64 k ∧ Below w.heap.size w wr ∧ Hid (∀ j, j < k → p (markAt ls j) = false))
  case atStart => exact ⟨0, by omega, rfl, Below.refl _ _, fun j hj => absurd hj (Nat.not_lt_zero _)⟩
  case round =>
    obtain ⟨k, hkg, rfl, hb, Hn⟩ := hrel
    by_cases hkn : k < len
    · obtain ⟨b1, o1, u1, rfl, _, c0, i1⟩ := (hv.below hb).at hkn
      have hw2 := below_then hw hb
      obtain ⟨z, Hz⟩ : ∃ z, Hid (markAt ls k = z) := ⟨_, rfl⟩
      rw [Hz.out] at i1
      obtain ⟨au, lu, cu, rfl, _⟩ := id i1
      go_wp2_with fail
      refine (Hg.out _ z _ (by exact hw2) (by exact i1)).mono ?_
      rintro e w2 ⟨rfl, b'⟩
      have R := below_then hb b'
      cases hp : p z
      · have Hn2 : Hid (∀ j, j < k + 1 → p (markAt ls j) = false) := fun j hj => by
          by_cases e : j = k
          · subst e; rw [Hz.out]; exact hp
          · exact Hn.out j (by omega)
        clear b' hb c0 hp hw2 i1
        go_wp2
        go_roundg (gk - 1)
        case measure => omega
        case rel => exact ⟨k + 1, by omega, by go_num, R, Hn2⟩
      · have F : Hid (FirstMk ls p k) := .inr ⟨k, rfl, by rw [Hlen.out]; exact hkn, by rw [Hz.out]; exact hp, Hn.out⟩
        clear b' hb c0 hp hw2 i1
        go_wp2
        go_ret
        exact ⟨_, rfl, F.out, R⟩
    · have F : Hid (FirstMk ls p (-1)) := .inl ⟨rfl, fun j hj => Hn.out j (by rw [Hlen.out] at hj; omega)⟩
      go_wp2
      go_ret
      exact ⟨_, rfl, F.out, hb⟩

theorem align1_asks (w0 : World) (x : Nat) (v : Value) (E : List Int) (hx : Box1 w0 x v) (hv : Ints w0 v E) : AsksMk w0 17 (.pointer (some ⟨x, 0, none⟩)) (fun m => m == E) := by
  intro u m w hb hu
  have hx1 := (hx.below hb).2
  have hv1 := hv.below hb
  obtain ⟨a, c, rfl⟩ : ∃ a c, v = .slice a E.length c := by obtain ⟨a, l, c, e, hl, _⟩ := hv; exact ⟨a, c, by rw [hl]; exact e⟩
  obtain ⟨a2, c2, rfl⟩ : ∃ a c, u = .slice a m.length c := by obtain ⟨a, l, c, e, hl, _⟩ := hu; exact ⟨a, c, by rw [hl]; exact e⟩
  have hc := equal_b _ _ m E w hu hv1
  obtain ⟨q, Hq⟩ : ∃ q, Hid ((m == E) = q) := ⟨_, rfl⟩
  rw [Hq.out] at hc
  show Calls _ _ _ _ fun e w' => e = .returned (.bool (m == E)) ∧ _
  rw [Hq.out]
  generalize m.length = lm at hc
  generalize E.length = le at hc hx1
  go_enter Try.func17, Try.ntmps17
  go_wp2_with (go_at_call 11; refine hc.mono ?_; rintro e w5 ⟨rfl, b⟩)
  go_ret
  exact ⟨rfl, b⟩
theorem align1_enters : ∀ args w, (callFunc 17 args).run Try.prog w = .ok (.enter 17 args) w := enters_of Try.func17 (by kernel_rfl) rfl

theorem mark_inj {ms : List (List Int)} (h : ms.Nodup) {i j : Nat} (hi : i < ms.length) (hj : j < ms.length) (e : markAt ms i = markAt ms j) : i = j := by
  unfold markAt at e
  simp only [List.getD, List.getElem?_eq_getElem hi, List.getElem?_eq_getElem hj, Option.getD_some] at e
  have hp := List.pairwise_iff_getElem.1 h
  rcases Nat.lt_trichotomy i j with q | q | q
  · exact absurd e (hp i j hi hj q)
  · exact q
  · exact absurd e.symm (hp j i hj hi q)
theorem reach_lay {n : NetL} {m : List Int} {s : SpaceL} (h : Whole n m s) (tr : List Int) {e : Nat} (he : e < s.marks.length) : ∃ ms, Lay s.arcs (labT n) tr (0, 0) ms (e, tr.length) := by
  obtain ⟨d, hd, hmk, k, hw⟩ := h.run_way (pathL s e) (f := 0) h.here.1 (by rw [h.here.2]; exact h.path e he)
  obtain rfl := mark_inj h.nodup hd he hmk
  obtain ⟨ms, h1, _⟩ := Lay.way (tr := tr) 0 hw (fun _ _ _ => trivial)
  obtain ⟨ns, h2, _⟩ := Lay.trace (A := s.arcs) (lb := labT n) (tr := tr) d tr.length 0 (by omega)
  exact ⟨ms ++ ns, h1.append h2⟩

end Go.Proofs.Ytakgppoeikcepaa

/- What Align answers, plainly. (As AlignNone has it.) -/
namespace Go.Proofs.Ytakgppoeikcepaa
set_option linter.unusedVariables false
set_option maxRecDepth 4000

/-! ### plainly -/
theorem costM_le : ∀ ms : List MoveL, costM ms ≤ ms.length
  | [] => Nat.le_refl _
  | m :: ms => by
    have h1 := costM_le ms
    have h2 := price_le m
    show priceM m + costM ms ≤ (m :: ms).length
    rw [List.length_cons]
    omega
theorem AlignAns.small {n : NetL} {i o : Int} {tr : List Int} {ms : List MoveL} {c d : Int} (h : AlignAns n i o tr ms c d) : ∃ k : Nat, c = k ∧ k ≤ ms.length := by
  obtain ⟨d0, _, h2, h3⟩ := h.ex
  by_cases hd : d0 = 0
  · rcases h3 hd with ⟨_, _, rfl, _⟩ | ⟨_, _, _, rfl, _⟩ | ⟨_, _, e, _, _, _, h, _⟩
    · exact ⟨0, rfl, Nat.zero_le _⟩
    · exact ⟨0, rfl, Nat.zero_le _⟩
    · exact ⟨costM ms, h.symm, costM_le ms⟩
  · obtain ⟨_, rfl, _⟩ := h2 hd
    exact ⟨0, rfl, Nat.zero_le _⟩
theorem TongErr.whole {n : NetL} {i o : Int} (h : TongErr n i o 0) : ShapeOk n i o ∧ ∃ s, graphL n (startL n.places i) 300 = (s, 0) ∧ Whole n (startL n.places i) s := by
  rcases h with ⟨h1, _⟩ | ⟨h1, h2⟩
  · exact absurd rfl h1
  · refine ⟨h1, (graphL n (startL n.places i) 300).1, Prod.ext rfl h2, graphL_whole (Prod.ext rfl h2)⟩
/-- Where it answers: the mark, the way, the cost. -/
theorem AlignAns.zero {n : NetL} {i o : Int} {tr : List Int} {ms : List MoveL} {c : Int} (h : AlignAns n i o tr ms c 0) : TongErr n i o 0 ∧ tr.length ≤ 60 ∧ ∃ s e, graphL n (startL n.places i) 300 = (s, 0) ∧ Whole n (startL n.places i) s ∧ e < s.marks.length ∧ markAt s.marks e = startL n.places o ∧
    Lay s.arcs (labT n) tr (0, 0) ms (e, tr.length) ∧ (costM ms : Int) = c ∧ Cheap s.arcs (labT n) tr (0, 0) (e, tr.length) (costM ms) := by
  obtain ⟨d0, h1, h2, h3⟩ := h.ex
  by_cases hd : d0 = 0
  · subst hd
    obtain ⟨_, s, hs, hw⟩ := h1.whole
    rcases h3 rfl with ⟨_, q, _⟩ | ⟨_, _, q, _⟩ | ⟨q0, _, e, q1, q2, q3, q4, q5⟩
    · omega
    · omega
    · rw [hs] at q1 q2 q3 q5
      exact ⟨h1, q0, s, e, hs, hw, q1, q2, q3, q4, q5⟩
  · exact absurd (h2 hd).1.symm hd
theorem word_end {n : NetL} {i o : Int} {s : SpaceL} {e : Nat} (hs : graphL n (startL n.places i) 300 = (s, 0)) (hw : Whole n (startL n.places i) s) (he : e < s.marks.length) (h2 : markAt s.marks e = startL n.places o) (w : List Int) : WordN n (startL n.places i) (startL n.places o) w ↔ Way s.arcs (labT n) 0 w e := by
  rw [hw.word]
  constructor
  · rintro ⟨e', h1, h3, h4⟩
    obtain rfl := mark_inj hw.nodup he h1 (h2.trans h3.symm)
    exact h4
  · intro h
    exact ⟨e, he, h2, h⟩

end Go.Proofs.Ytakgppoeikcepaa

/- each: where it stands. -/
namespace Go.Proofs.Ytakgppoeikcepaa
open Go.RowKit
set_option linter.unusedVariables false
set_option linter.unusedSimpArgs false
set_option maxRecDepth 4000

theorem drop_yes {w : World} {ta : Option Addr} {tl tc h2 : Nat} {tr : List Int} (h : Ints w (.slice ta tl tc) tr) (hn : h2 ≤ tl) (hc : h2 ≠ tc) : Ints w (.slice (ta.map fun x => x.add h2) (tl - h2) (tc - h2)) (tr.drop h2) := by
  obtain ⟨a', len', cap', e, hl, hmx, ⟨q1, q2, q3⟩, hr⟩ := id h
  injection e with e1 e2 e3
  subst e1 e2 e3
  cases ta with
  | none => exfalso; have := q3 rfl; omega
  | some ad =>
    have hb : ∃ b off, ad = ⟨b, off, none⟩ ∨ tl = 0 := by
      rcases Nat.eq_zero_or_pos tl with h0 | h0
      · exact ⟨0, 0, .inr h0⟩
      · obtain ⟨b, off, e, _⟩ := hr 0 (by omega); injection e with e; exact ⟨b, off, .inl e⟩
    obtain ⟨b, off, rfl | h0⟩ := hb
    · have := ints_drop (n := h2) h hn
      rw [if_neg fun e => hc e.symm] at this
      by_cases e0 : h2 = 0
      · subst e0; simpa [Addr.add] using this
      · simpa [Addr.add, e0] using this
    · have e2 : h2 = 0 := by omega
      subst h0 e2
      have e : tr = [] := List.length_eq_zero_iff.1 hl
      subst e
      exact ⟨_, _, _, rfl, rfl, by omega, ⟨by omega, by omega, fun h => by cases h⟩, fun j hj => absurd hj (Nat.not_lt_zero _)⟩
theorem drop_no {w : World} {ta : Option Addr} {tl tc : Nat} {tr : List Int} (h : Ints w (.slice ta tl tc) tr) (hn : tc ≤ tl) : Ints w (.slice ta (tl - tc) 0) (tr.drop tc) := by
  obtain ⟨a', len', cap', e, hl, hmx, ⟨q1, q2, q3⟩, hr⟩ := id h
  injection e with e1 e2 e3
  subst e1 e2 e3
  have e : tr.drop tc = [] := List.drop_of_length_le (by omega)
  rw [e]
  exact ⟨_, _, _, rfl, by simp; omega, by omega, ⟨by omega, by omega, fun _ => rfl⟩, fun j hj => absurd hj (Nat.not_lt_zero _)⟩

def lbT (ts : List TranL) (t : Nat) : Int := (tranAt ts t).label
def firstM (tr : List Int) (here : Nat × Nat) : List ((Nat × Nat) × MoveL) := if here.2 < tr.length then [((here.1, here.2 + 1), ⟨2, nth tr here.2, 0⟩)] else []
theorem movesS_eq (lb : Nat → Int) (tr : List Int) (p : Nat × Nat) (ars : List ArcL) : movesS lb tr p ars = firstM tr p ++ ars.flatMap (outM lb tr p) := rfl
theorem flat_take {lb : Nat → Int} {tr : List Int} {p : Nat × Nat} {ars : List ArcL} {k : Nat} {a : ArcL} (h : ars[k]? = some a) : (ars.take (k + 1)).flatMap (outM lb tr p) = (ars.take k).flatMap (outM lb tr p) ++ outM lb tr p a := by
  rw [List.take_add_one, h, List.flatMap_append]; simp
theorem flat_split {lb : Nat → Int} {tr : List Int} {p : Nat × Nat} {ars : List ArcL} (k : Nat) : ∃ r, ars.flatMap (outM lb tr p) = (ars.take k).flatMap (outM lb tr p) ++ r := by
  refine ⟨(ars.drop k).flatMap (outM lb tr p), ?_⟩
  rw [← List.flatMap_append, List.take_append_drop]
theorem outM_cons (lb : Nat → Int) (tr : List Int) (p : Nat × Nat) (a : ArcL) : ∃ r, outM lb tr p a = ((a.dst, p.2), ⟨3, lb a.tran, a.tran⟩) :: r := ⟨_, rfl⟩
theorem room_start {here : Nat × Nat} {c n : Nat} {st : SrchL} {lb : Nat → Int} {tr : List Int} {ars : List ArcL} (h : RoomA here c n st (movesS lb tr here ars)) : (relaxAll here c st []).level.length + (relaxAll here c st []).dear.length + n + 1 ≤ 1000000 := h [] _ rfl
theorem room_at {here : Nat × Nat} {c n : Nat} {st : SrchL} {lb : Nat → Int} {tr : List Int} {ars : List ArcL} (h : RoomA here c n st (movesS lb tr here ars)) (k : Nat) : (relaxAll here c st (firstM tr here ++ (ars.take k).flatMap (outM lb tr here))).level.length + (relaxAll here c st (firstM tr here ++ (ars.take k).flatMap (outM lb tr here))).dear.length + n + 1 ≤ 1000000 := by
  obtain ⟨r, hr⟩ := flat_split (lb := lb) (tr := tr) (p := here) (ars := ars) k
  exact h _ r (by rw [movesS_eq, hr, List.append_assoc])
theorem room_mid {here : Nat × Nat} {c n : Nat} {st : SrchL} {lb : Nat → Int} {tr : List Int} {ars : List ArcL} (h : RoomA here c n st (movesS lb tr here ars)) {k : Nat} {a : ArcL} (hk : ars[k]? = some a) :
    (relaxAll here c st ((firstM tr here ++ (ars.take k).flatMap (outM lb tr here)) ++ [((a.dst, here.2), ⟨3, lb a.tran, a.tran⟩)])).level.length + (relaxAll here c st ((firstM tr here ++ (ars.take k).flatMap (outM lb tr here)) ++ [((a.dst, here.2), ⟨3, lb a.tran, a.tran⟩)])).dear.length + n + 1 ≤ 1000000 := by
  obtain ⟨r, hr⟩ := flat_split (lb := lb) (tr := tr) (p := here) (ars := ars) (k + 1)
  obtain ⟨r2, hr2⟩ := outM_cons lb tr here a
  refine h _ (r2 ++ r) ?_
  rw [movesS_eq, hr, flat_take hk, hr2]
  simp [List.append_assoc]

/-- each at work: its box, what is left of the trace, the arcs. -/
structure EachB (B L D mb n H C Sx S c : Nat) (here : Nat × Nat) (st : SrchL) (lv dv v0 v1 v2 : Value) (tr : List Int) (ts : List TranL) (N : Nat) (R : Nat → List ArcL) (x rb : Nat) (lf rv : Value) (w w' : World) (l : List ((Nat × Nat) × MoveL)) (n' : Nat) (lv' dv' : Value) : Prop where
  each : EachA B L D mb n H C Sx S c here st lv dv v0 v1 v2 tr ts N R w w' l n' lv' dv'
  box : Box2 w' x (.int .i64 (here.1 : Int)) (.int .i64 (here.2 : Int))
  off : ¬ mineA L D mb lv' dv' x
  left : On (fun k => ¬ mineA L D mb lv' dv' k) w' fun w2 => Ints w2 lf (tr.drop here.2)
  arcs : On (fun k => ¬ mineA L D mb lv' dv' k) w' fun w2 => Arcs w2 rv ((R here.1).map arcZ)
  row : On (fun k => ¬ mineA L D mb lv' dv' k) w' fun w2 => w2.cell? ⟨rb, here.1, none⟩ = some rv
section
variable {B L D mb n H C Sx S c : Nat} {here : Nat × Nat} {st : SrchL} {lv dv v0 v1 v2 : Value} {tr : List Int} {ts : List TranL} {N : Nat} {R : Nat → List ArcL} {x rb : Nat} {lf rv : Value} {w w' : World} {l : List ((Nat × Nat) × MoveL)} {n' : Nat} {lv' dv' : Value}
theorem EachB.below {w2 : World} (h : EachB B L D mb n H C Sx S c here st lv dv v0 v1 v2 tr ts N R x rb lf rv w w' l n' lv' dv') (hb : Below w'.heap.size w' w2) : EachB B L D mb n H C Sx S c here st lv dv v0 v1 v2 tr ts N R x rb lf rv w w2 l n' lv' dv' :=
  ⟨h.each.below hb, h.box.below hb, h.off, h.left.below hb, h.arcs.below hb, h.row.below hb⟩
theorem EachB.call (h : EachB B L D mb n H C Sx S c here st lv dv v0 v1 v2 tr ts N R x rb lf rv w w' l n' lv' dv') (to_ : Nat × Nat) (m : MoveL) (hto : okS to_) (hc : c ≤ 1000000) (hroom : (relaxAll here c st l).level.length + (relaxAll here c st l).dear.length + n + 1 ≤ 1000000) :
    Calls Try.prog 52 #[.agg #[.int .i64 (to_.1 : Int), .int .i64 (to_.2 : Int)], .agg #[.int .i64 m.kind, .int .i64 m.label, .int .i64 m.tran], .pointer (some ⟨H, 0, none⟩), .pointer (some ⟨C, 0, none⟩), .pointer (some ⟨Sx, 0, none⟩), .pointer (some ⟨L, 0, none⟩), .pointer (some ⟨D, 0, none⟩)] w' fun e w2 =>
      ∃ n2 lv2 dv2, e = .returned (.tuple #[]) ∧ EachB B L D mb n H C Sx S c here st lv dv v0 v1 v2 tr ts N R x rb lf rv w w2 (l ++ [(to_, m)]) n2 lv2 dv2 ∧ KeepsA w' (mineA L D mb lv' dv') w2 (mineA L D mb lv2 dv2) := by
  refine (h.each.call to_ m hto hc hroom).mono ?_
  rintro e w2 ⟨n2, lv2, dv2, rfl, h2, hk⟩
  obtain ⟨b1, b2⟩ := hk.box2A h.box h.off
  exact ⟨n2, lv2, dv2, rfl, ⟨h2, b1, b2, hk.on h.left, hk.on h.arcs, hk.on h.row⟩, hk⟩
end

end Go.Proofs.Ytakgppoeikcepaa

/- each: all moves from a spot. (Made by tools/gen_aligneach.py.) -/
namespace Go.Proofs.Ytakgppoeikcepaa
open Go.RowKit
set_option linter.unusedVariables false
set_option linter.unusedSimpArgs false
set_option maxRecDepth 4000

theorem ints_first {w : World} {a : Option Addr} {n cap : Nat} {xs : List Int} (h : Ints w (.slice a n cap) xs) (hp : 0 < n) : ∃ b off, a = some ⟨b, off, none⟩ ∧ b < w.heap.size ∧ w.cell? ⟨b, off, none⟩ = some (.int .i64 (nth xs 0)) := by
  obtain ⟨b, off, rfl, hlt, hc⟩ := ints_atL h hp
  exact ⟨b, off, rfl, hlt, hc⟩
theorem arcZ_at {l : List ArcL} {k : Nat} {a : ArcL} (h : l[k]? = some a) (hk : k < (l.map arcZ).length) : (l.map arcZ)[k] = ((a.frm : Int), (a.tran : Int), (a.dst : Int)) := by
  have hk' : k < l.length := by simpa using hk
  rw [List.getElem_map]
  rw [List.getElem?_eq_getElem hk'] at h
  injection h with h
  rw [h]; rfl

set_option maxHeartbeats 8000000 in
theorem each_any {B L D mb n H C Sx S c : Nat} {here : Nat × Nat} {st : SrchL} {lv dv v0 v1 v2 : Value} {tr : List Int} {ts : List TranL} {N : Nat} {R : Nat → List ArcL} {w : World} (h : EachA B L D mb n H C Sx S c here st lv dv v0 v1 v2 tr ts N R w w [] n lv dv)
    (h1N : here.1 < N) (h2N : here.2 ≤ tr.length) (htr : tr.length ≤ 60) (hN : N ≤ 300) (hR : ∀ a ∈ R here.1, a.dst < N ∧ a.tran < ts.length) (hc : c ≤ 1000000) (hroom : RoomA here c n st (movesS (lbT ts) tr here (R here.1))) :
    Calls Try.prog 51 #[.pointer (some ⟨S, 0, none⟩), .agg #[.int .i64 (here.1 : Int), .int .i64 (here.2 : Int)], .func (.func 52) #[] #[.pointer (some ⟨H, 0, none⟩), .pointer (some ⟨C, 0, none⟩), .pointer (some ⟨Sx, 0, none⟩), .pointer (some ⟨L, 0, none⟩), .pointer (some ⟨D, 0, none⟩)]] w fun e w' =>
      ∃ n' lv' dv', e = .returned (.tuple #[]) ∧ EachA B L D mb n H C Sx S c here st lv dv v0 v1 v2 tr ts N R w w' (movesS (lbT ts) tr here (R here.1)) n' lv' dv' := by
  obtain ⟨h1, h2⟩ := here
  simp only at h1N h2N hR
  obtain ⟨ml, Hml⟩ : ∃ ml, Hid (movesS (lbT ts) tr (h1, h2) (R (h1, h2).1) = ml) := ⟨_, rfl⟩
  have HRoom : Hid (RoomA (h1, h2) c n st (movesS (lbT ts) tr (h1, h2) (R (h1, h2).1))) := hroom
  have HRR : Hid (∀ a ∈ R h1, a.dst < N ∧ a.tran < ts.length) := hR
  rw [Hml.out]
  clear hroom hR
  simp only
  have hT := box2_new w (.int .i64 (h1 : Int)) (.int .i64 (h2 : Int)) 60
  have b1 := below_new w (.cells #[.int .i64 (h1 : Int), .int .i64 (h2 : Int)] 60)
  obtain ⟨w1, H1⟩ : ∃ u, Hid (w.alloc (.cells #[.int .i64 (h1 : Int), .int .i64 (h2 : Int)] 60) = u) := ⟨_, rfl⟩
  rw [H1.out] at hT b1
  have hE := h.below b1
  have hnT : Hid (¬ mineA L D mb lv dv w.heap.size) := h.at_.new (Nat.le_refl _)
  obtain ⟨x, HX⟩ : ∃ x, Hid (w.heap.size = x) := ⟨_, rfl⟩
  rw [HX.out] at hT hnT
  have hI := hE.read.trace.now
  obtain ⟨ta, tl, tc, rfl, htl, htm, ⟨hs1, hs2, hs3⟩, htr'⟩ := id hI
  have Htl : Hid (tr.length = tl) := htl
  have htl60 : tl ≤ 60 := by omega
  have h2l : h2 ≤ tl := by omega
  clear htr' htl htr h2N hs3 b1 h
  obtain ⟨_, e0, e1, e2, e3⟩ := hE.fix.srch
  obtain ⟨_, x1, x2⟩ := id hT
  go_enter Try.func51, Try.ntmps51
  go_upto_region 1 with fail
  rw [H1.out, HX.out]
  go_cut [6] (fun x6 wc => ∃ a6 c6, x6 = .slice a6 (tl - h2) c6 ∧ On (fun k => ¬ mineA L D mb lv dv k) wc (fun w2 => Ints w2 (.slice a6 (tl - h2) c6) (tr.drop h2)) ∧ Below w1.heap.size w1 wc)
  case first =>
    have i1 : (0 : Int) ≤ (h2 : Int) := by omega
    have i2 : (h2 : Int) ≤ (tl : Int) := by omega
    have i3 : (h2 : Int) ≤ (tc : Int) := by omega
    have i4 : h2 ≤ tc := by omega
    have HT1 : Hid (∀ wx, Below w1.heap.size w1 wx → On (fun k => ¬ mineA L D mb lv dv k) wx fun w2 => Ints w2 (.slice ta tl tc) tr) := fun wx hb => hE.read.trace.below hb
    by_cases he : h2 = tc
    · have he2 : tl = tc := by omega
      subst he he2
      go_quiet (fail)
      go_wp2_with fail
      go_meet
      refine ⟨ta, 0, by rw [Nat.sub_self], ?_, below_drewN (Below.refl _ _) _⟩
      exact (HT1.out _ (below_drewN (Below.refl _ _) _)).mono fun w2 hi => drop_no hi (Nat.le_refl _)
    · have hne : tc - h2 ≠ 0 := by omega
      go_quiet (fail)
      go_wp2_with fail
      go_meet
      refine ⟨_, _, rfl, ?_, below_drewN (Below.refl _ _) _⟩
      exact (HT1.out _ (below_drewN (Below.refl _ _) _)).mono fun w2 hi => drop_yes hi h2l he
  case rest =>
    obtain ⟨a6, c6, rfl, hLf, bc⟩ := hcut
    obtain ⟨w2, rfl⟩ : ∃ z, z = wc := ⟨_, rfl⟩
    clear e0 e1 e2 e3 x1 x2 hI
    replace hE := hE.below bc
    replace hT := hT.below bc
    clear bc
    obtain ⟨rb, rvs, hv2, hrb, hrows⟩ := hE.read.rows
    have hRv := hrows h1 h1N
    subst hv2
    obtain ⟨rv, Hrv⟩ : ∃ rv, Hid (rvs h1 = rv) := ⟨_, rfl⟩
    rw [Hrv.out] at hRv
    clear hrows
    obtain ⟨ll, Hll⟩ : ∃ ll, Hid (tl - h2 = ll) := ⟨_, rfl⟩
    have hll : ll ≤ 60 := by have := Hll.out; omega
    rw [Hll.out] at hLf ⊢
    obtain ⟨va, vn, vc, rfl, _⟩ := id hE.read.trans.now
    obtain ⟨ra, rl, rc, rfl, hrl, hrm, _⟩ := id hRv.now.2
    have Hrl : Hid ((R h1).length = rl) := by show _ = _; simpa using hrl
    clear hrl
    have hB : EachB B L D mb n H C Sx S c (h1, h2) st lv dv (.slice ta tl tc) (.slice va vn vc) (.slice (some ⟨rb, 0, none⟩) N N) tr ts N R x rb (.slice a6 ll c6) (.slice ra rl rc) w w2 [] n lv dv := ⟨hE, hT, hnT.out, hLf, hRv.mono fun wx h => h.2, hRv.mono fun wx h => h.1⟩
    clear hE hT hLf hRv
    go_upto_if 19 with fail
    go_cut [] (fun wc => ∃ n' lv' dv', EachB B L D mb n H C Sx S c (h1, h2) st lv dv (.slice ta tl tc) (.slice va vn vc) (.slice (some ⟨rb, 0, none⟩) N N) tr ts N R x rb (.slice a6 ll c6) (.slice ra rl rc) w wc (firstM tr (h1, h2)) n' lv' dv')
    case first =>
      by_cases hlt : h2 < tl
      · have hl0 : 0 < ll := by have := Hll.out; omega
        obtain ⟨lb, lo, rfl, hlb, hl1⟩ := ints_first hB.left.now hl0
        obtain ⟨z0, Hz0⟩ : ∃ z, Hid (nth (tr.drop h2) 0 = z) := ⟨_, rfl⟩
        obtain ⟨hp, Hhp⟩ : ∃ hp, Hid (h2 + 1 = hp) := ⟨_, rfl⟩
        have HF : Hid (firstM tr (h1, h2) = [((h1, hp), ⟨2, z0, 0⟩)]) := by
          show _ = _
          unfold firstM
          rw [if_pos (by show h2 < tr.length; rw [Htl.out]; exact hlt)]
          simp only
          rw [Hhp.out, ← Hz0.out, nth_dropA, Nat.add_zero]
        have wH : IntKind.i64.wrap ((h2 : Int) + 1) = (hp : Int) := by have q := Hhp.out; rw [show ((h2 : Int) + 1) = (hp : Int) by omega]; exact Go.IntWalk.i64_in _ ⟨by omega, by omega⟩
        have HCC : Hid (∀ wx, Below w2.heap.size w2 wx → _) := fun wx hb => (hB.below hb).call (h1, hp) ⟨2, z0, 0⟩ ⟨by show h1 ≤ _; omega, by have := Hhp.out; show hp ≤ _; omega⟩ hc (room_start HRoom.out)
        have i0 : (0 : Int) < (ll : Int) := by omega
        clear hl1
        go_upto_region 3 with fail

        have HS : Hid (∀ wx l n' lv' dv', EachB B L D mb n H C Sx S c (h1, h2) st lv dv (.slice ta tl tc) (.slice va vn vc) (.slice (some ⟨rb, 0, none⟩) N N) tr ts N R x rb (.slice (some ⟨lb, lo, none⟩) ll c6) (.slice ra rl rc) w wx l n' lv' dv' →  wx.cell? ⟨x, 0, none⟩ = some (.int .i64 (h1 : Int)) ∧ wx.cell? ⟨x, 1, none⟩ = some (.int .i64 (h2 : Int)) ∧ wx.cell? ⟨lb, lo, none⟩ = some (.int .i64 z0)) := fun wx l n' lv' dv' hX => by
          obtain ⟨_, q1, q2⟩ := hX.box
          obtain ⟨b', o', e, _, q3⟩ := ints_first hX.left.now hl0
          injection e with e
          injection e with e1 e2
          subst e1 e2
          rw [Hz0.out] at q3
          exact ⟨q1, q2, q3⟩
        refine wp_region_held_drew (S := (fun w' => w'.cell? ⟨x, 0, none⟩ = some (.int .i64 (h1 : Int)) ∧ w'.cell? ⟨x, 1, none⟩ = some (.int .i64 (h2 : Int)) ∧ w'.cell? ⟨lb, lo, none⟩ = some (.int .i64 z0))) (by kernel_rfl) (HS.out _ _ _ _ _ (hB.below (Below.refl _ _).drew)) (fun hH => ?_)
        have b : Below w2.heap.size w2 w2.drew := (Below.refl _ _).drew
        obtain ⟨v0', Hv0⟩ : ∃ v0', Hid (w2.drew = v0') := ⟨_, rfl⟩
        rw [Hv0.out] at hH b ⊢
        clear Hv0
        refine wpAnyH_take (i := 0) (v := .func (.func 52) #[] #[.pointer (some ⟨H, 0, none⟩), .pointer (some ⟨C, 0, none⟩), .pointer (some ⟨Sx, 0, none⟩), .pointer (some ⟨L, 0, none⟩), .pointer (some ⟨D, 0, none⟩)]) rfl (by kernel_rfl) (by kernel_rfl) (by kernel_rfl) (fun _ _ _ h => h) (.inl ⟨by rfl, fun _ _ => rfl⟩) hH ?_
        simp only [List.getElem_toArray, List.getElem_cons_succ, List.getElem_cons_zero, Act.put, List.setIfInBounds_toArray, List.set_cons_zero, List.set_cons_succ]
        refine wpAnyH_take (i := 1) (v := .pointer (some ⟨x, 0, none⟩)) rfl (by kernel_rfl) (by kernel_rfl) (by kernel_rfl) (fun _ _ _ h => h) (.inl ⟨by rfl, fun w' hS' => by first | (go_simp; done) | (go_simp; rfl) | (go_simp; intro h; omega) | (go_simp; omega)⟩) hH ?_
        simp only [List.getElem_toArray, List.getElem_cons_succ, List.getElem_cons_zero, Act.put, List.setIfInBounds_toArray, List.set_cons_zero, List.set_cons_succ]
        refine wpAnyH_take (i := 2) (v := .int .i64 (h1 : Int)) rfl (by kernel_rfl) (by kernel_rfl) (by kernel_rfl) (fun _ _ _ h => h) (.inl ⟨by rfl, fun w' hS' => by obtain ⟨s0, s1, s2⟩ := hS'; go_simp⟩) hH ?_
        simp only [List.getElem_toArray, List.getElem_cons_succ, List.getElem_cons_zero, Act.put, List.setIfInBounds_toArray, List.set_cons_zero, List.set_cons_succ]
        refine wpAnyH_take (i := 3) (v := .pointer (some ⟨x, 1, none⟩)) rfl (by kernel_rfl) (by kernel_rfl) (by kernel_rfl) (fun _ _ _ h => h) (.inl ⟨by rfl, fun w' hS' => by first | (go_simp; done) | (go_simp; rfl) | (go_simp; intro h; omega) | (go_simp; omega)⟩) hH ?_
        simp only [List.getElem_toArray, List.getElem_cons_succ, List.getElem_cons_zero, Act.put, List.setIfInBounds_toArray, List.set_cons_zero, List.set_cons_succ]
        refine wpAnyH_take (i := 4) (v := .int .i64 (h2 : Int)) rfl (by kernel_rfl) (by kernel_rfl) (by kernel_rfl) (fun _ _ _ h => h) (.inl ⟨by rfl, fun w' hS' => by obtain ⟨s0, s1, s2⟩ := hS'; go_simp⟩) hH ?_
        simp only [List.getElem_toArray, List.getElem_cons_succ, List.getElem_cons_zero, Act.put, List.setIfInBounds_toArray, List.set_cons_zero, List.set_cons_succ]
        refine wpAnyH_take (i := 5) (v := .int .i64 (hp : Int)) rfl (by kernel_rfl) (by kernel_rfl) (by kernel_rfl) (fun _ _ _ h => h) (.inl ⟨by rfl, fun w' hS' => by first | (go_simp; done) | (go_simp; rfl) | (go_simp; intro h; omega) | (go_simp; omega)⟩) hH ?_
        simp only [List.getElem_toArray, List.getElem_cons_succ, List.getElem_cons_zero, Act.put, List.setIfInBounds_toArray, List.set_cons_zero, List.set_cons_succ]
        refine wpAnyH_take (i := 6) (v := .agg #[.int .i64 (h1 : Int), .int .i64 (hp : Int)]) rfl (by kernel_rfl) (by kernel_rfl) (by kernel_rfl) (fun _ _ _ h => h) (.inl ⟨by rfl, fun w' hS' => by first | (go_simp; done) | (go_simp; rfl) | (go_simp; intro h; omega) | (go_simp; omega)⟩) hH ?_
        simp only [List.getElem_toArray, List.getElem_cons_succ, List.getElem_cons_zero, Act.put, List.setIfInBounds_toArray, List.set_cons_zero, List.set_cons_succ]
        refine wpAnyH_take (i := 7) (v := .slice (some ⟨lb, lo, none⟩) ll c6) rfl (by kernel_rfl) (by kernel_rfl) (by kernel_rfl) (fun _ _ _ h => h) (.inl ⟨by rfl, fun _ _ => rfl⟩) hH ?_
        simp only [List.getElem_toArray, List.getElem_cons_succ, List.getElem_cons_zero, Act.put, List.setIfInBounds_toArray, List.set_cons_zero, List.set_cons_succ]
        refine wpAnyH_take (i := 8) (v := .pointer (some ⟨lb, lo, none⟩)) rfl (by kernel_rfl) (by kernel_rfl) (by kernel_rfl) (fun _ _ _ h => h) (.inl ⟨by rfl, fun w' hS' => by first | (go_simp; done) | (go_simp; rfl) | (go_simp; intro h; omega) | (go_simp; omega)⟩) hH ?_
        simp only [List.getElem_toArray, List.getElem_cons_succ, List.getElem_cons_zero, Act.put, List.setIfInBounds_toArray, List.set_cons_zero, List.set_cons_succ]
        refine wpAnyH_take (i := 9) (v := .int .i64 z0) rfl (by kernel_rfl) (by kernel_rfl) (by kernel_rfl) (fun _ _ _ h => h) (.inl ⟨by rfl, fun w' hS' => by obtain ⟨s0, s1, s2⟩ := hS'; go_simp⟩) hH ?_
        simp only [List.getElem_toArray, List.getElem_cons_succ, List.getElem_cons_zero, Act.put, List.setIfInBounds_toArray, List.set_cons_zero, List.set_cons_succ]
        refine wpAnyH_take (i := 10) (v := .agg #[.int .i64 2, .int .i64 z0, .int .i64 0]) rfl (by kernel_rfl) (by kernel_rfl) (by kernel_rfl) (fun _ _ _ h => h) (.inl ⟨by rfl, fun w' hS' => by first | (go_simp; done) | (go_simp; rfl) | (go_simp; intro h; omega) | (go_simp; omega)⟩) hH ?_
        simp only [List.getElem_toArray, List.getElem_cons_succ, List.getElem_cons_zero, Act.put, List.setIfInBounds_toArray, List.set_cons_zero, List.set_cons_succ]
        refine wpAnyH_ready (rs := [11]) (by kernel_rfl) (by simp) ?_
        refine AllReadyH.cons rfl (fun K hK => ?_) AllReadyH.nil
        simp only [List.getElem_toArray, List.getElem_cons_succ, List.getElem_cons_zero]
        rw [if_pos (by rfl)]
        go_wp2_with fail
        refine (HCC.out _ b).mono ?_
        rintro e v1' ⟨n2, lv2, dv2, rfl, hB2, _⟩
        refine hK.out _ _ (HS.out _ _ _ _ _ hB2) (fun hH => ?_)
        refine wpAnyH_done (by kernel_rfl) ?_ _
        go_wp2_with fail
        go_meet
        exact ⟨n2, lv2, dv2, by rw [HF.out]; exact hB2⟩

      · have HF : Hid (firstM tr (h1, h2) = []) := by
          show _ = _
          unfold firstM
          rw [if_neg (by show ¬ h2 < tr.length; rw [Htl.out]; exact hlt)]
        have i0 : ¬ (0 : Int) < (ll : Int) := by have := Hll.out; omega
        go_wp2_with fail
        go_meet
        exact ⟨n, lv, dv, by rw [HF.out]; exact hB⟩
    case rest =>
      clear hB
      obtain ⟨n3, lv3, dv3, hB⟩ := hcut
      obtain ⟨w3, rfl⟩ : ∃ z, z = wc := ⟨_, rfl⟩
      obtain ⟨_, e0, e1, e2, e3⟩ := hB.each.fix.srch
      obtain ⟨_, x1, x2⟩ := hB.box
      have er := hB.row.now
      have j1 : (0 : Int) ≤ (h1 : Int) := by omega
      have j2 : (h1 : Int) < (N : Int) := by omega
      simp only at er
      go_upto_region 4 with fail
      go_quiet (fail)
      have hB4 := hB.below (below_drewN (Below.refl _ _) nq)
      obtain ⟨w4, Hw4⟩ : ∃ z, Hid (w3.drewN nq = z) := ⟨_, rfl⟩
      rw [Hw4.out] at hB4 ⊢
      clear Hw4 hB e0 e1 e2 e3 x1 x2 er j1 j2
      have hB5 : EachB B L D mb n H C Sx S c (h1, h2) st lv dv (.slice ta tl tc) (.slice va vn vc) (.slice (some ⟨rb, 0, none⟩) N N) tr ts N R x rb (.slice a6 ll c6) (.slice ra rl rc) w w4 (firstM tr (h1, h2) ++ ((R h1).take 0).flatMap (outM (lbT ts) tr (h1, h2))) n3 lv3 dv3 := by simpa using hB4
      clear hB4
      go_wp2_with fail
      go_loopg [41] rl (fun gk i' wr => ∃ k n' lv' dv', k + gk = rl ∧ i' = .int .i64 (k : Int) ∧ EachB B L D mb n H C Sx S c (h1, h2) st lv dv (.slice ta tl tc) (.slice va vn vc) (.slice (some ⟨rb, 0, none⟩) N N) tr ts N R x rb (.slice a6 ll c6) (.slice ra rl rc) w wr (firstM tr (h1, h2) ++ ((R h1).take k).flatMap (outM (lbT ts) tr (h1, h2))) n' lv' dv')
      case atStart => exact ⟨0, n3, lv3, dv3, by omega, rfl, hB5⟩
      case round =>
        clear hB5
        obtain ⟨k, n', lv', dv', hkg, rfl, hB⟩ := hrel
        by_cases hk : k < rl
        · have hkR : k < (R h1).length := by rw [Hrl.out]; exact hk
          obtain ⟨a, Ha⟩ : ∃ a, Hid ((R h1)[k]? = some a) := ⟨_, List.getElem?_eq_getElem hkR⟩
          obtain ⟨had, hat⟩ := HRR.out a (List.mem_of_getElem? Ha.out)
          obtain ⟨ab, ao, rfl, hab, c0, c1, c2⟩ := hB.arcs.now.at (k := k) (by simpa using hkR)
          rw [arcZ_at Ha.out] at c0 c1 c2
          have HM1 : Hid _ := room_at HRoom.out k
          have HM2 : Hid _ := room_mid HRoom.out Ha.out
          have HFT : Hid (((R h1).take (k + 1)).flatMap (outM (lbT ts) tr (h1, h2)) = ((R h1).take k).flatMap (outM (lbT ts) tr (h1, h2)) ++ outM (lbT ts) tr (h1, h2) a) := flat_take Ha.out
          obtain ⟨af, at_, ad⟩ := a
          simp only at c0 c1 c2 had hat
          clear hkR
          have hy := box3_new wr (.int .i64 (af : Int)) (.int .i64 (at_ : Int)) (.int .i64 (ad : Int)) 69
          have hBy := hB.below (below_new wr (.cells #[.int .i64 (af : Int), .int .i64 (at_ : Int), .int .i64 (ad : Int)] 69))
          have Hny : Hid (¬ mineA L D mb lv' dv' wr.heap.size) := hB.each.at_.new (Nat.le_refl _)
          obtain ⟨wA, HA⟩ : ∃ z, Hid (wr.alloc (.cells #[.int .i64 (af : Int), .int .i64 (at_ : Int), .int .i64 (ad : Int)] 69) = z) := ⟨_, rfl⟩
          rw [HA.out] at hy hBy
          go_upto_region 7 with fail
          rw [HA.out]
          clear c0 c1 c2 hB HA
          obtain ⟨y, HY⟩ : ∃ y, Hid (wr.heap.size = y) := ⟨_, rfl⟩
          rw [HY.out] at hy Hny ⊢
          have hts := hBy.each.read.trans.now
          obtain ⟨vl, vm, e⟩ : ∃ vl : Nat, ts.length = vl ∧ vl = vn := by obtain ⟨_, _, _, e, hl, _⟩ := id hts; injection e with _ e2 _; exact ⟨_, rfl, by omega⟩
          have hvn : at_ < vn := by omega
          obtain ⟨tb, tf, _, _, rfl, _, c0, _⟩ := hts.at hvn
          obtain ⟨lam, HL⟩ : ∃ z, Hid ((tranAt ts at_).label = z) := ⟨_, rfl⟩
          rw [HL.out] at c0
          obtain ⟨_, e0, e1, e2, e3⟩ := hBy.each.fix.srch
          obtain ⟨_, y0, y1, y2⟩ := id hy
          have j1 : (0 : Int) ≤ (at_ : Int) := by omega
          have j2 : (at_ : Int) < (vn : Int) := by omega
          clear vm e hts
          go_quiet (fail)
          have hB4 := hBy.below (below_drewN (Below.refl _ _) nq)
          have hy4 := hy.below (below_drewN (Below.refl _ _) nq)
          obtain ⟨wB, HwB⟩ : ∃ z, Hid (wA.drewN nq = z) := ⟨_, rfl⟩
          rw [HwB.out] at hB4 hy4 ⊢
          clear HwB hBy hy e0 e1 e2 e3 y0 y1 y2 j1 j2 c0
          obtain ⟨_, y0, y1, y2⟩ := id hy4
          obtain ⟨_, x1, x2⟩ := hB4.box
          have HC1 := hB4.call (ad, h2) ⟨3, lam, at_⟩ ⟨by show ad ≤ _; omega, by show h2 ≤ _; omega⟩ hc HM1.out
          simp only at x1 x2 HC1
          have Hny2 : Hid _ := Hny
          go_upto_region 9 with (go_at_call 52; refine HC1.mono ?_; rintro e w5 ⟨n5, lv5, dv5, rfl, hB5, hk5⟩)
          have hy5 := (hk5.box3A hy4 Hny2.out).1
          clear hk5 HC1 hB4 hy4 y0 y1 y2 x1 x2 Hny2
          obtain ⟨_, y0, y1, y2⟩ := hy5
          obtain ⟨_, x1, x2⟩ := hB5.box
          simp only at x1 x2
          have HO : Hid (outM (lbT ts) tr (h1, h2) ⟨af, at_, ad⟩ = [((ad, h2), ⟨3, lam, at_⟩)] ++ (if lam ≠ 0 ∧ h2 < tl ∧ nth tr h2 = lam then [((ad, h2 + 1), ⟨1, lam, at_⟩)] else [])) := by
            show _ = _
            unfold outM lbT
            simp only
            rw [HL.out, Htl.out]
            rfl
          by_cases hl0 : lam = 0
          · have HB9 : Hid (EachB B L D mb n H C Sx S c (h1, h2) st lv dv (.slice ta tl tc) (.slice (some ⟨tb, tf, none⟩) vn vc) (.slice (some ⟨rb, 0, none⟩) N N) tr ts N R x rb (.slice a6 ll c6) (.slice (some ⟨ab, ao, none⟩) rl rc) w w5 (firstM tr (h1, h2) ++ ((R h1).take (k + 1)).flatMap (outM (lbT ts) tr (h1, h2))) n5 lv5 dv5) := by
              show EachB B L D mb n H C Sx S c (h1, h2) st lv dv (.slice ta tl tc) (.slice (some ⟨tb, tf, none⟩) vn vc) (.slice (some ⟨rb, 0, none⟩) N N) tr ts N R x rb (.slice a6 ll c6) (.slice (some ⟨ab, ao, none⟩) rl rc) w w5 _ n5 lv5 dv5
              rw [HFT.out, HO.out, if_neg (fun q => q.1 hl0), List.append_nil, ← List.append_assoc]
              exact hB5
            clear hB5 HM1 HM2 HFT HO
            go_wp2
            go_roundg (gk - 1)
            case measure => omega
            case rel => exact ⟨k + 1, n5, lv5, dv5, by omega, by go_num, HB9.out⟩
          · by_cases hlt : h2 < tl
            · have hlp : 0 < ll := by have := Hll.out; omega
              obtain ⟨lb, lo, rfl, hlb, hl1⟩ := ints_first hB5.left.now hlp
              have i0 : (0 : Int) < (ll : Int) := by omega
              obtain ⟨z0, Hz0⟩ : ∃ z, Hid (nth (tr.drop h2) 0 = z) := ⟨_, rfl⟩
              have Hz1 : Hid (nth tr h2 = z0) := by show _ = _; rw [← Hz0.out, nth_dropA, Nat.add_zero]
              rw [Hz0.out] at hl1
              by_cases he : z0 = lam
              · subst he
                obtain ⟨hp, Hhp⟩ : ∃ hp, Hid (h2 + 1 = hp) := ⟨_, rfl⟩
                have wH : IntKind.i64.wrap ((h2 : Int) + 1) = (hp : Int) := by have q := Hhp.out; rw [show ((h2 : Int) + 1) = (hp : Int) by omega]; exact Go.IntWalk.i64_in _ ⟨by omega, by omega⟩
                have HC2 := hB5.call (ad, hp) ⟨1, z0, at_⟩ ⟨by show ad ≤ _; omega, by have := Hhp.out; show hp ≤ _; omega⟩ hc (by have q : lbT ts at_ = z0 := HL.out; have := HM2.out; simp only [q] at this; exact this)
                simp only at HC2
                go_wp2_with (go_at_call 52; refine HC2.mono ?_; rintro e w6 ⟨n6, lv6, dv6, rfl, hB6, _⟩)
                have HB9 : Hid (EachB B L D mb n H C Sx S c (h1, h2) st lv dv (.slice ta tl tc) (.slice (some ⟨tb, tf, none⟩) vn vc) (.slice (some ⟨rb, 0, none⟩) N N) tr ts N R x rb (.slice (some ⟨lb, lo, none⟩) ll c6) (.slice (some ⟨ab, ao, none⟩) rl rc) w w6 (firstM tr (h1, h2) ++ ((R h1).take (k + 1)).flatMap (outM (lbT ts) tr (h1, h2))) n6 lv6 dv6) := by
                  show EachB B L D mb n H C Sx S c (h1, h2) st lv dv (.slice ta tl tc) (.slice (some ⟨tb, tf, none⟩) vn vc) (.slice (some ⟨rb, 0, none⟩) N N) tr ts N R x rb (.slice (some ⟨lb, lo, none⟩) ll c6) (.slice (some ⟨ab, ao, none⟩) rl rc) w w6 _ n6 lv6 dv6
                  rw [HFT.out, HO.out, if_pos ⟨hl0, hlt, Hz1.out⟩, Hhp.out, ← List.append_assoc, ← List.append_assoc]
                  exact hB6
                clear hB5 hB6 HM1 HM2 HFT HO
                go_roundg (gk - 1)
                case measure => omega
                case rel => exact ⟨k + 1, n6, lv6, dv6, by omega, by go_num, HB9.out⟩
              · have hbe : ((z0 : Int) == lam) = false := by rw [beq_eq_false_iff_ne]; exact he
                have HB9 : Hid (EachB B L D mb n H C Sx S c (h1, h2) st lv dv (.slice ta tl tc) (.slice (some ⟨tb, tf, none⟩) vn vc) (.slice (some ⟨rb, 0, none⟩) N N) tr ts N R x rb (.slice (some ⟨lb, lo, none⟩) ll c6) (.slice (some ⟨ab, ao, none⟩) rl rc) w w5 (firstM tr (h1, h2) ++ ((R h1).take (k + 1)).flatMap (outM (lbT ts) tr (h1, h2))) n5 lv5 dv5) := by
                  show EachB B L D mb n H C Sx S c (h1, h2) st lv dv (.slice ta tl tc) (.slice (some ⟨tb, tf, none⟩) vn vc) (.slice (some ⟨rb, 0, none⟩) N N) tr ts N R x rb (.slice (some ⟨lb, lo, none⟩) ll c6) (.slice (some ⟨ab, ao, none⟩) rl rc) w w5 _ n5 lv5 dv5
                  rw [HFT.out, HO.out, if_neg (fun q => he (Hz1.out.symm.trans q.2.2)), List.append_nil, ← List.append_assoc]
                  exact hB5
                clear hB5 HM1 HM2 HFT HO
                go_wp2
                go_roundg (gk - 1)
                case measure => omega
                case rel => exact ⟨k + 1, n5, lv5, dv5, by omega, by go_num, HB9.out⟩
            · have i0 : ¬ (0 : Int) < (ll : Int) := by have := Hll.out; omega
              have HB9 : Hid (EachB B L D mb n H C Sx S c (h1, h2) st lv dv (.slice ta tl tc) (.slice (some ⟨tb, tf, none⟩) vn vc) (.slice (some ⟨rb, 0, none⟩) N N) tr ts N R x rb (.slice a6 ll c6) (.slice (some ⟨ab, ao, none⟩) rl rc) w w5 (firstM tr (h1, h2) ++ ((R h1).take (k + 1)).flatMap (outM (lbT ts) tr (h1, h2))) n5 lv5 dv5) := by
                show EachB B L D mb n H C Sx S c (h1, h2) st lv dv (.slice ta tl tc) (.slice (some ⟨tb, tf, none⟩) vn vc) (.slice (some ⟨rb, 0, none⟩) N N) tr ts N R x rb (.slice a6 ll c6) (.slice (some ⟨ab, ao, none⟩) rl rc) w w5 _ n5 lv5 dv5
                rw [HFT.out, HO.out, if_neg (fun q => hlt q.2.1), List.append_nil, ← List.append_assoc]
                exact hB5
              clear hB5 HM1 HM2 HFT HO
              go_wp2
              go_roundg (gk - 1)
              case measure => omega
              case rel => exact ⟨k + 1, n5, lv5, dv5, by omega, by go_num, HB9.out⟩
        · obtain rfl : k = rl := by omega
          have HE : Hid (movesS (lbT ts) tr (h1, h2) (R (h1, h2).1) = firstM tr (h1, h2) ++ ((R h1).take k).flatMap (outM (lbT ts) tr (h1, h2))) := by
            show _ = _
            rw [movesS_eq, List.take_of_length_le (by rw [Hrl.out]; exact Nat.le_refl _)]
          have HF : Hid (EachA B L D mb n H C Sx S c (h1, h2) st lv dv (.slice ta tl tc) (.slice va vn vc) (.slice (some ⟨rb, 0, none⟩) N N) tr ts N R w wr ml n' lv' dv') := by show EachA B L D mb n H C Sx S c (h1, h2) st lv dv (.slice ta tl tc) (.slice va vn vc) (.slice (some ⟨rb, 0, none⟩) N N) tr ts N R w wr ml n' lv' dv'; rw [← Hml.out, HE.out]; exact hB.each
          clear hB
          go_wp2
          go_end0
          exact ⟨rfl, n', lv', dv', HF.out⟩

end Go.Proofs.Ytakgppoeikcepaa
/- Rows of arcs that each grow by append, in a slice. (After GrowRows.) -/
namespace Go.Proofs.Ytakgppoeikcepaa
open Go.RowKit
set_option linter.unusedVariables false
set_option maxRecDepth 4000

structure ArcsAt (X : Nat) (w wr : World) (n : Nat) (rv : Nat → Value) (R : Nat → List ArcL) : Prop where
  cells : ∀ i, i < n → wr.cell? ⟨X, i, none⟩ = some (rv i)
  frozen : ∀ i, i < n → wr.frozen? ⟨X, i, none⟩ = false
  own : ∀ i, i < n → wr.ownsRow (X + 1) 69 3 (rv i) (R i).length (arcCells (R i))
  apart : ∀ i j, i < n → j < n → i ≠ j → ∀ k, (rv i).ownBlock = some k → (rv j).ownBlock ≠ some k
  below : Below X w wr
  size : X < wr.heap.size
section
variable {X n : Nat} {w wr : World} {rv : Nat → Value} {R : Nat → List ArcL}
theorem ArcsAt.to {w2 : World} (h : ArcsAt X w wr n rv R) (hb : Below wr.heap.size wr w2) : ArcsAt X w w2 n rv R :=
  ⟨fun i hi => by rw [hb.cell (p := ⟨X, i, none⟩) h.size]; exact h.cells i hi, fun i hi => by rw [hb.frozen (p := ⟨X, i, none⟩) h.size]; exact h.frozen i hi,
   fun i hi => ((ownsRow_on (h.own i hi)).below hb).now, h.apart, h.below.trans (hb.mono (Nat.le_of_lt h.size)), Nat.lt_of_lt_of_le h.size hb.size⟩
theorem ArcsAt.grown {wC : World} (h : ArcsAt X w wr n rv R) {i : Nat} (hi : i < n) (hg : wr.grownBy wC (rv i).ownBlock) : wC.cell? ⟨X, i, none⟩ = some (rv i) ∧ wC.frozen? ⟨X, i, none⟩ = false := by
  have hx : wC.heap[X]? = wr.heap[X]? := hg.block X h.size (fun e => by have := (ownsRow_lt (h.own i hi) e.symm).1; omega)
  exact ⟨(World.cell?_of_block (a := ⟨X, i, none⟩) hx).trans (h.cells i hi), by have := h.frozen i hi; unfold World.frozen? at this ⊢; simp only [hx]; exact this⟩
/-- A row has grown, and its cell is written. -/
theorem ArcsAt.put {wC : World} {i : Nat} {v' : Value} {z : ArcL} {R' : Nat → List ArcL} (h : ArcsAt X w wr n rv R) (hi : i < n) (hown : wC.ownsRow (X + 1) 69 3 v' ((R i).length + 1) (arcCells (R i) ++ arcCells [z])) (hg : wr.grownBy wC (rv i).ownBlock)
    (hat : v'.ownBlock = (rv i).ownBlock ∨ v'.ownBlock = some wr.heap.size) (h1 : R' i = R i ++ [z]) (h2 : ∀ j, j ≠ i → R' j = R j) :
    ArcsAt X w (wC.setCell ⟨X, i, none⟩ v') n (fun j => if j = i then v' else rv j) R' := by
  have hlt : ∀ j, j < n → ∀ k, (rv j).ownBlock = some k → X + 1 ≤ k ∧ k < wr.heap.size := fun j hj k hk => ownsRow_lt (h.own j hj) hk
  have hbg : Below (X + 1) wr wC := (Below.refl _ _).grown hg (by have := h.size; omega) (fun k hk => (hlt i hi k hk).1)
  have hb2 : Below X wr (wC.setCell ⟨X, i, none⟩ v') := (hbg.mono (Nat.le_succ X)).setCell (p := ⟨X, i, none⟩) (Nat.le_refl _) _
  have hcC : ∀ j, j < n → wC.cell? ⟨X, j, none⟩ = some (rv j) := fun j hj => by rw [hbg.cell (p := ⟨X, j, none⟩) (Nat.lt_succ_self X)]; exact h.cells j hj
  refine ⟨fun j hj => ?_, fun j hj => ?_, fun j hj => ?_, fun a b ha hb hne k hk => ?_, h.below.trans hb2, Nat.lt_of_lt_of_le h.size hb2.size⟩
  · by_cases e : j = i
    · subst e
      rw [World.cell?_setCell_same _ _ _ (hcC j hj), if_pos rfl]
    · rw [World.cell?_setCell_other _ _ _ _ (by intro q; injection q with _ q2; omega), if_neg e]
      exact hcC j hj
  · rw [World.frozen?_setCell, hbg.frozen (p := ⟨X, j, none⟩) (Nat.lt_succ_self X)]
    exact h.frozen j hj
  · by_cases e : j = i
    · subst e
      simp only [if_true]
      rw [h1]
      have := ((ownsRow_on hown).set (a := ⟨X, j, none⟩) (fun e => by have := e.2; simp only at this; omega) v').now
      simpa [arcCells] using this
    · simp only [if_neg e]
      rw [h2 j e]
      refine ((ownsRow_on (h.own j hj)).to hb2.size fun k hk q => ?_).now
      rw [Below.heap_setCell wC ⟨X, i, none⟩ v' k (fun e => by have := q.2; simp only at e; omega)]
      exact hg.block k hk (fun e2 => h.apart j i hj hi e k q.1 e2.symm)
  · by_cases e1 : a = i
    · have e2 : b ≠ i := by omega
      simp only [if_pos e1] at hk
      simp only [if_neg e2]
      intro q
      rcases hat with r | r
      · rw [r] at hk; exact h.apart i b hi hb (fun e => e2 e.symm) k hk q
      · rw [r] at hk; injection hk with hk; have := (hlt b hb k q).2; omega
    · simp only [if_neg e1] at hk
      by_cases e2 : b = i
      · simp only [if_pos e2]
        intro q
        rcases hat with r | r
        · rw [r] at q; exact h.apart a i ha hi e1 k hk q
        · rw [r] at q; injection q with q; have := (hlt a ha k hk).2; omega
      · simp only [if_neg e2]
        exact h.apart a b ha hb hne k hk
theorem ArcsAt.slice (h : ArcsAt X w wr n rv R) {i : Nat} (hi : i < n) : ∃ a c, rv i = .slice a (R i).length c := by
  rcases (h.own i hi).2 with ⟨e, h0⟩ | ⟨g, cap, cur, e, _⟩
  · exact ⟨none, 0, by rw [h0]; exact e⟩
  · exact ⟨_, _, e⟩
end
theorem info_rowA : (Try.prog.info? 47).map (fun i => (i.zero, i.size, i.bytes)) = some (some (.slice none 0 0), 1, 24) := by kernel_rfl
theorem make_arcs (w : World) (n : Nat) (hn : n ≤ 5864062014805) :
    ∃ w1, (Instr.makeSlice 54 (.int .i64 (n : Int)) (.int .i64 (n : Int))).run Try.prog w = .ok (.slice (some ⟨w.heap.size, 0, none⟩) n n) w1 ∧ ArcsAt w.heap.size w w1 n (fun _ => .slice none 0 0) (fun _ => []) := by
  obtain ⟨i0, hi, hz0, hz1, hz2⟩ := info_parts info_rowA
  have h := run_make (P := Try.prog) w 54 47 i0 (.slice none 0 0) Try.underlying54 hi hz0 .i64 .i64 n n (by omega) (by omega) (by rw [hz2]; omega) (by omega)
  simp only [Int.toNat_natCast] at h
  refine ⟨_, h, fun j hj => ?_, fun j hj => World.frozen?_alloc_at _ _ _ _ rfl, fun j hj => World.ownsRow_nil _ _ _ _, fun i j _ _ _ k hk => by simp [Value.ownBlock] at hk, (Below.refl _ _).alloc (Nat.le_refl _) _, by simp⟩
  rw [World.cell?_alloc_at _ _ _ _ rfl]
  simp [madeCells, hz1, Value.cells, hj, Nat.mod_one]

end Go.Proofs.Ytakgppoeikcepaa
