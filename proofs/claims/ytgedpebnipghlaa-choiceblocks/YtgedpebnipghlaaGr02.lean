import Derived.Test.YtgedpebnipghlaaGr00
/- Plain facts on what grows of blocks: pieces of nets with one token in and one token out. -/
namespace Go.Proofs.Ytgedpebnipghlaa
set_option linter.unusedVariables false
set_option maxRecDepth 4000

/-- A transition by the places it takes from and puts at. -/
structure LinkL where
  label : Int
  src : List Nat
  dst : List Nat

abbrev MarkF := Nat → Int
/-- One token at each of these places. -/
def tok (l : List Nat) : MarkF := fun r => if r ∈ l then 1 else 0
def CanF (l : LinkL) (m : MarkF) : Prop := ∀ r, r ∈ l.src → 1 ≤ m r
def goF (l : LinkL) (m : MarkF) : MarkF := fun r => m r - tok l.src r + tok l.dst r
def plusF (a b : MarkF) : MarkF := fun r => a r + b r

/-- What is come to by these links. -/
def ReachF (L : List LinkL) (a b : MarkF) : Prop := ∀ P : MarkF → Prop, P a → (∀ x l, P x → l ∈ L → CanF l x → P (goF l x)) → P b
theorem ReachF.here (L : List LinkL) (a : MarkF) : ReachF L a a := fun P h _ => h
theorem ReachF.step {L : List LinkL} {a x : MarkF} {l : LinkL} (h : ReachF L a x) (hl : l ∈ L) (hc : CanF l x) : ReachF L a (goF l x) := fun P h0 h1 => h1 x l (h P h0 h1) hl hc
theorem ReachF.trans {L : List LinkL} {a b c : MarkF} (h : ReachF L a b) (k : ReachF L b c) : ReachF L a c := k (fun x => ReachF L a x) h fun x l hx hl hc => hx.step hl hc
theorem ReachF.mono {L K : List LinkL} {a b : MarkF} (h : ReachF L a b) (hs : ∀ l ∈ L, l ∈ K) : ReachF K a b := h (fun x => ReachF K a x) (ReachF.here _ _) fun x l hx hl hc => hx.step (hs l hl) hc
theorem ReachF.one {L : List LinkL} {a : MarkF} {l : LinkL} (hl : l ∈ L) (hc : CanF l a) : ReachF L a (goF l a) := (ReachF.here L a).step hl hc
/-- What stands beside does not matter. -/
theorem ReachF.beside {L : List LinkL} {a b : MarkF} (c : MarkF) (h0 : ∀ r, 0 ≤ c r) (h : ReachF L a b) : ReachF L (plusF a c) (plusF b c) := by
  refine h (fun x => ReachF L (plusF a c) (plusF x c)) (ReachF.here _ _) fun x l hx hl hc => ?_
  have h1 : CanF l (plusF x c) := fun r hr => by have := hc r hr; have := h0 r; simp only [plusF]; omega
  have h2 : goF l (plusF x c) = plusF (goF l x) c := by funext r; simp only [goF, plusF]; omega
  rw [← h2]
  exact hx.step hl h1
theorem ReachF.besideL {L : List LinkL} {a b : MarkF} (c : MarkF) (h0 : ∀ r, 0 ≤ c r) (h : ReachF L a b) : ReachF L (plusF c a) (plusF c b) := by
  have e : ∀ x : MarkF, plusF c x = plusF x c := fun x => by funext r; simp only [plusF]; omega
  rw [e, e]
  exact h.beside c h0

/-- Ways along links. -/
def WayF (L : List LinkL) (a b : Nat) : Prop := ∀ P : Nat → Prop, P a → (∀ x y l, P x → l ∈ L → x ∈ l.src → y ∈ l.dst → P y) → P b
theorem WayF.here (L : List LinkL) (a : Nat) : WayF L a a := fun P h _ => h
theorem WayF.step {L : List LinkL} {a x y : Nat} {l : LinkL} (h : WayF L a x) (hl : l ∈ L) (hx : x ∈ l.src) (hy : y ∈ l.dst) : WayF L a y := fun P h0 h1 => h1 x y l (h P h0 h1) hl hx hy
theorem WayF.trans {L : List LinkL} {a b c : Nat} (h : WayF L a b) (k : WayF L b c) : WayF L a c := k (fun x => WayF L a x) h fun x y l hx hl h1 h2 => hx.step hl h1 h2
theorem WayF.mono {L K : List LinkL} {a b : Nat} (h : WayF L a b) (hs : ∀ l ∈ L, l ∈ K) : WayF K a b := h (fun x => WayF K a x) (WayF.here _ _) fun x y l hx hl h1 h2 => hx.step (hs l hl) h1 h2
theorem WayF.one {L : List LinkL} {a b : Nat} {l : LinkL} (hl : l ∈ L) (ha : a ∈ l.src) (hb : b ∈ l.dst) : WayF L a b := (WayF.here L a).step hl ha hb

/-- A piece of a net: its links, the places within, where tokens come in, where they go out, the marks that it may have. -/
structure Core (L : List LinkL) (I : Nat → Prop) (S E : List Nat) (St : MarkF → Prop) : Prop where
  start : St (tok S)
  stop : St (tok E)
  closed : ∀ m l, St m → l ∈ L → CanF l m → St (goF l m)
  low : ∀ m r, St m → 0 ≤ m r ∧ m r ≤ 1
  supp : ∀ m r, St m → m r ≠ 0 → I r ∨ r ∈ S ∨ r ∈ E
  atS : ∀ m, St m → (∀ r, r ∈ S → 1 ≤ m r) → m = tok S
  atE : ∀ m, St m → (∀ r, r ∈ E → 1 ≤ m r) → m = tok E
  ends : ∀ m, St m → ReachF L m (tok E)
  alive : ∀ l, l ∈ L → ∃ m, ReachF L (tok S) m ∧ CanF l m
  some1 : ∀ l, l ∈ L → l.src ≠ []
  some2 : ∀ l, l ∈ L → l.dst ≠ []
  in1 : ∀ l r, l ∈ L → r ∈ l.src → I r ∨ r ∈ S ∨ r ∈ E
  in2 : ∀ l r, l ∈ L → r ∈ l.dst → I r ∨ r ∈ S ∨ r ∈ E
  way1 : ∀ r, I r ∨ r ∈ E → ∃ s, s ∈ S ∧ WayF L s r
  way2 : ∀ r, I r ∨ r ∈ S → ∃ e, e ∈ E ∧ WayF L r e
  same : ∀ l k r, l ∈ L → k ∈ L → r ∈ l.src → r ∈ k.src → l.src = k.src
  lastE : ∀ l r, l ∈ L → r ∈ l.src → r ∈ E → l.src = E
  named : ∀ l, l ∈ L → 0 ≤ l.label ∧ l.label ≤ 26

/-- One through which tokens go one way alone. -/
structure Piece (L : List LinkL) (I : Nat → Prop) (S E : List Nat) (St : MarkF → Prop) : Prop extends Core L I S E St where
  in1' : ∀ l r, l ∈ L → r ∈ l.src → I r ∨ r ∈ S
  in2' : ∀ l r, l ∈ L → r ∈ l.dst → I r ∨ r ∈ E
  firstS : ∀ l r, l ∈ L → r ∈ l.src → r ∈ S → l.src = [r]
  apart : ∀ r, r ∈ E → ¬ I r ∧ r ∉ S

theorem tok_one (p r : Nat) : tok [p] r = if r = p then 1 else 0 := by simp [tok]
theorem tok_mem {l : List Nat} {r : Nat} (h : r ∈ l) : tok l r = 1 := if_pos h
theorem tok_not {l : List Nat} {r : Nat} (h : r ∉ l) : tok l r = 0 := if_neg h
theorem tok_low (l : List Nat) (r : Nat) : 0 ≤ tok l r ∧ tok l r ≤ 1 := by unfold tok; split <;> omega
theorem tok_pos {l : List Nat} {r : Nat} (h : 1 ≤ tok l r) : r ∈ l := by
  by_cases q : r ∈ l
  · exact q
  · rw [tok_not q] at h; omega
theorem mem_ne_nil {l : List Nat} (h : l ≠ []) : ∃ r, r ∈ l := by
  cases l with
  | nil => exact absurd rfl h
  | cons x t => exact ⟨x, by simp⟩
theorem go_over (S E : List Nat) (lab : Int) : goF ⟨lab, S, E⟩ (tok S) = tok E := by funext r; simp only [goF]; omega

/-- One transition. -/
theorem Piece.leaf (lab : Int) (p q : Nat) (hne : p ≠ q) (h0 : 0 ≤ lab) (h1 : lab ≤ 26) : Piece [⟨lab, [p], [q]⟩] (fun _ => False) [p] [q] (fun m => m = tok [p] ∨ m = tok [q]) := by
  have hgo : goF ⟨lab, [p], [q]⟩ (tok [p]) = tok [q] := go_over _ _ _
  have hcan : CanF ⟨lab, [p], [q]⟩ (tok [p]) := fun r hr => by rw [tok_mem hr]; omega
  refine ⟨⟨.inl rfl, .inr rfl, ?_, ?_, ?_, ?_, ?_, ?_, ?_, ?_, ?_, ?_, ?_, ?_, ?_, ?_, ?_, ?_⟩, ?_, ?_, ?_, ?_⟩
  · rintro m l (rfl | rfl) hl hc
    · rw [List.mem_singleton] at hl; subst hl; exact .inr hgo
    · rw [List.mem_singleton] at hl; subst hl
      have := hc p (by simp)
      rw [tok_one, if_neg hne] at this
      omega
  · rintro m r (rfl | rfl)
    · exact tok_low _ _
    · exact tok_low _ _
  · rintro m r (rfl | rfl) hm
    · right; left
      by_cases q : r ∈ [p]
      · exact q
      · exact absurd (tok_not q) hm
    · right; right
      by_cases q : r ∈ [q]
      · exact q
      · exact absurd (tok_not q) hm
  · rintro m (rfl | rfl) h
    · rfl
    · have := h p (by simp); rw [tok_one, if_neg hne] at this; omega
  · rintro m (rfl | rfl) h
    · have := h q (by simp); rw [tok_one, if_neg (fun e => hne e.symm)] at this; omega
    · rfl
  · rintro m (rfl | rfl)
    · have := ReachF.one (L := [⟨lab, [p], [q]⟩]) (a := tok [p]) (l := ⟨lab, [p], [q]⟩) (by simp) hcan
      rwa [hgo] at this
    · exact ReachF.here _ _
  · intro l hl
    rw [List.mem_singleton] at hl; subst hl
    exact ⟨_, ReachF.here _ _, hcan⟩
  · intro l hl; rw [List.mem_singleton] at hl; subst hl; simp
  · intro l hl; rw [List.mem_singleton] at hl; subst hl; simp
  · intro l r hl hr; rw [List.mem_singleton] at hl; subst hl; exact .inr (.inl hr)
  · intro l r hl hr; rw [List.mem_singleton] at hl; subst hl; exact .inr (.inr hr)
  · rintro r (h | h)
    · exact h.elim
    · rw [List.mem_singleton] at h; subst h
      exact ⟨p, by simp, WayF.one (l := ⟨lab, [p], [r]⟩) (by simp) (by simp) (by simp)⟩
  · rintro r (h | h)
    · exact h.elim
    · rw [List.mem_singleton] at h; subst h
      exact ⟨q, by simp, WayF.one (l := ⟨lab, [r], [q]⟩) (by simp) (by simp) (by simp)⟩
  · intro l k r hl hk _ _; rw [List.mem_singleton] at hl hk; rw [hl, hk]
  · intro l r hl hr hE
    rw [List.mem_singleton] at hl; subst hl
    simp at hr hE; omega
  · intro l hl; rw [List.mem_singleton] at hl; subst hl; exact ⟨h0, h1⟩
  · intro l r hl hr; rw [List.mem_singleton] at hl; subst hl; exact .inr hr
  · intro l r hl hr; rw [List.mem_singleton] at hl; subst hl; exact .inr hr
  · intro l r hl hr hS; rw [List.mem_singleton] at hl; subst hl; simp at hr ⊢; exact hr.symm
  · intro r hr; simp at hr ⊢; omega

/-- A mark at one place. -/
theorem Core.single {L : List LinkL} {I : Nat → Prop} {S : List Nat} {q : Nat} {St : MarkF → Prop} (h : Core L I S [q] St) {m : MarkF} (hm : St m) (hq : 1 ≤ m q) : m = tok [q] :=
  h.atE m hm fun r hr => by rw [List.mem_singleton] at hr; subst hr; exact hq
theorem Core.singleS {L : List LinkL} {I : Nat → Prop} {E : List Nat} {p : Nat} {St : MarkF → Prop} (h : Core L I [p] E St) {m : MarkF} (hm : St m) (hp : 1 ≤ m p) : m = tok [p] :=
  h.atS m hm fun r hr => by rw [List.mem_singleton] at hr; subst hr; exact hp

section
variable {LA LB : List LinkL} {IA IB : Nat → Prop} {SA SB : MarkF → Prop}

/-- One behind the other. -/
theorem Piece.seq {p t q : Nat} (A : Piece LA IA [p] [t] SA) (B : Piece LB IB [t] [q] SB) (hd : ∀ r, IA r → ¬ IB r) (hpA : ¬ IA p) (hpB : ¬ IB p) (htA : ¬ IA t) (htB : ¬ IB t) (hqA : ¬ IA q) (hqB : ¬ IB q) (h1 : p ≠ t) (h2 : t ≠ q) (h3 : p ≠ q) :
    Piece (LA ++ LB) (fun r => IA r ∨ IB r ∨ r = t) [p] [q] (fun m => SA m ∨ SB m) := by
  have subA : ∀ l ∈ LA, l ∈ LA ++ LB := fun l h => List.mem_append_left _ h
  have subB : ∀ l ∈ LB, l ∈ LA ++ LB := fun l h => List.mem_append_right _ h
  have toB : ReachF (LA ++ LB) (tok [p]) (tok [t]) := (A.ends _ A.start).mono subA
  have wpt : WayF (LA ++ LB) p t := by
    obtain ⟨s, hs, hw⟩ := A.way1 t (.inr (by simp))
    rw [List.mem_singleton] at hs; subst hs
    exact hw.mono subA
  have wtq : WayF (LA ++ LB) t q := by
    obtain ⟨s, hs, hw⟩ := B.way1 q (.inr (by simp))
    rw [List.mem_singleton] at hs; subst hs
    exact hw.mono subB
  refine ⟨⟨.inl A.start, .inr B.stop, ?_, ?_, ?_, ?_, ?_, ?_, ?_, ?_, ?_, ?_, ?_, ?_, ?_, ?_, ?_, ?_⟩, ?_, ?_, ?_, ?_⟩
  · rintro m l (hm | hm) hl hc
    · rcases List.mem_append.1 hl with h | h
      · exact .inl (A.closed m l hm h hc)
      · obtain ⟨r, hr⟩ := mem_ne_nil (B.some1 l h)
        have hmr := hc r hr
        have ht : r = t := by
          rcases B.in1' l r h hr with q | q
          · rcases A.supp m r hm (by omega) with a | a | a
            · exact absurd q (hd r a)
            · simp at a; subst a; exact absurd q hpB
            · simpa using a
          · simpa using q
        subst ht
        have : m = tok [r] := A.toCore.single hm hmr
        subst this
        exact .inr (B.closed _ l B.start h hc)
    · rcases List.mem_append.1 hl with h | h
      · exfalso
        obtain ⟨r, hr⟩ := mem_ne_nil (A.some1 l h)
        have hmr := hc r hr
        rcases A.in1' l r h hr with q | q
        · rcases B.supp m r hm (by omega) with a | a | a
          · exact hd r q a
          · simp at a; subst a; exact htA q
          · simp at a; subst a; exact hqA q
        · simp at q; subst q
          rcases B.supp m r hm (by omega) with a | a | a
          · exact hpB a
          · simp at a; exact h1 a
          · simp at a; exact h3 a
      · exact .inr (B.closed m l hm h hc)
  · rintro m r (hm | hm)
    · exact A.low m r hm
    · exact B.low m r hm
  · rintro m r (hm | hm) h
    · rcases A.supp m r hm h with a | a | a
      · exact .inl (.inl a)
      · exact .inr (.inl a)
      · simp at a; exact .inl (.inr (.inr a))
    · rcases B.supp m r hm h with a | a | a
      · exact .inl (.inr (.inl a))
      · simp at a; exact .inl (.inr (.inr a))
      · exact .inr (.inr a)
  · rintro m (hm | hm) h
    · exact A.atS m hm h
    · exfalso
      have hp := h p (by simp)
      rcases B.supp m p hm (by omega) with a | a | a
      · exact hpB a
      · simp at a; exact h1 a
      · simp at a; exact h3 a
  · rintro m (hm | hm) h
    · exfalso
      have hq := h q (by simp)
      rcases A.supp m q hm (by omega) with a | a | a
      · exact hqA a
      · simp at a; exact h3 a.symm
      · simp at a; exact h2 a.symm
    · exact B.atE m hm h
  · rintro m (hm | hm)
    · exact ((A.ends m hm).mono subA).trans ((B.ends _ B.start).mono subB)
    · exact (B.ends m hm).mono subB
  · intro l hl
    rcases List.mem_append.1 hl with h | h
    · obtain ⟨m, h1, h2⟩ := A.alive l h; exact ⟨m, h1.mono subA, h2⟩
    · obtain ⟨m, h1, h2⟩ := B.alive l h; exact ⟨m, toB.trans (h1.mono subB), h2⟩
  · intro l hl; rcases List.mem_append.1 hl with h | h; exact A.some1 l h; exact B.some1 l h
  · intro l hl; rcases List.mem_append.1 hl with h | h; exact A.some2 l h; exact B.some2 l h
  · intro l r hl hr
    rcases List.mem_append.1 hl with h | h
    · rcases A.in1' l r h hr with q | q; exact .inl (.inl q); exact .inr (.inl q)
    · rcases B.in1' l r h hr with q | q; exact .inl (.inr (.inl q)); simp at q; exact .inl (.inr (.inr q))
  · intro l r hl hr
    rcases List.mem_append.1 hl with h | h
    · rcases A.in2' l r h hr with q | q; exact .inl (.inl q); simp at q; exact .inl (.inr (.inr q))
    · rcases B.in2' l r h hr with q | q; exact .inl (.inr (.inl q)); exact .inr (.inr q)
  · rintro r ((h | h | h) | h)
    · obtain ⟨s, hs, hw⟩ := A.way1 r (.inl h); exact ⟨s, hs, hw.mono subA⟩
    · obtain ⟨s, hs, hw⟩ := B.way1 r (.inl h)
      simp at hs; subst hs
      exact ⟨p, by simp, wpt.trans (hw.mono subB)⟩
    · subst h; exact ⟨p, by simp, wpt⟩
    · simp at h; subst h; exact ⟨p, by simp, wpt.trans wtq⟩
  · rintro r ((h | h | h) | h)
    · obtain ⟨s, hs, hw⟩ := A.way2 r (.inl h)
      simp at hs; subst hs
      exact ⟨q, by simp, (hw.mono subA).trans wtq⟩
    · obtain ⟨s, hs, hw⟩ := B.way2 r (.inl h); exact ⟨s, hs, hw.mono subB⟩
    · subst h; exact ⟨q, by simp, wtq⟩
    · simp at h; subst h; exact ⟨q, by simp, wpt.trans wtq⟩
  · have cross : ∀ l k r, l ∈ LA → k ∈ LB → r ∈ l.src → r ∈ k.src → False := by
      intro l k r hl hk h1' h2'
      rcases A.in1' l r hl h1' with a | a
      · rcases B.in1' k r hk h2' with b | b
        · exact hd r a b
        · simp at b; subst b; exact htA a
      · simp at a; subst a
        rcases B.in1' k r hk h2' with b | b
        · exact hpB b
        · simp at b; exact h1 b
    intro l k r hl hk h1' h2'
    rcases List.mem_append.1 hl with h | h
    · rcases List.mem_append.1 hk with g | g
      · exact A.same l k r h g h1' h2'
      · exact (cross l k r h g h1' h2').elim
    · rcases List.mem_append.1 hk with g | g
      · exact (cross k l r g h h2' h1').elim
      · exact B.same l k r h g h1' h2'
  · intro l r hl hr hE
    rcases List.mem_append.1 hl with h | h
    · exfalso
      simp at hE; subst hE
      rcases A.in1' l r h hr with a | a
      · exact hqA a
      · simp at a; exact h3 a.symm
    · exact B.lastE l r h hr hE
  · intro l hl; rcases List.mem_append.1 hl with h | h; exact A.named l h; exact B.named l h
  · intro l r hl hr
    rcases List.mem_append.1 hl with h | h
    · rcases A.in1' l r h hr with q | q; exact .inl (.inl q); exact .inr q
    · rcases B.in1' l r h hr with q | q; exact .inl (.inr (.inl q)); simp at q; exact .inl (.inr (.inr q))
  · intro l r hl hr
    rcases List.mem_append.1 hl with h | h
    · rcases A.in2' l r h hr with q | q; exact .inl (.inl q); simp at q; exact .inl (.inr (.inr q))
    · rcases B.in2' l r h hr with q | q; exact .inl (.inr (.inl q)); exact .inr q
  · intro l r hl hr hS
    rcases List.mem_append.1 hl with h | h
    · exact A.firstS l r h hr hS
    · exfalso
      simp at hS; subst hS
      rcases B.in1' l r h hr with a | a
      · exact hpB a
      · simp at a; exact h1 a
  · intro r hr
    simp at hr; subst hr
    refine ⟨?_, by simpa using fun e => h3 e.symm⟩
    rintro (a | a | a)
    · exact hqA a
    · exact hqB a
    · exact h2 a.symm

/-- One or the other. -/
theorem Piece.alt {p q : Nat} (A : Piece LA IA [p] [q] SA) (B : Piece LB IB [p] [q] SB) (hd : ∀ r, IA r → ¬ IB r) (hpA : ¬ IA p) (hpB : ¬ IB p) (hqA : ¬ IA q) (hqB : ¬ IB q) (h3 : p ≠ q) :
    Piece (LA ++ LB) (fun r => IA r ∨ IB r) [p] [q] (fun m => SA m ∨ SB m) := by
  have subA : ∀ l ∈ LA, l ∈ LA ++ LB := fun l h => List.mem_append_left _ h
  have subB : ∀ l ∈ LB, l ∈ LA ++ LB := fun l h => List.mem_append_right _ h
  have only : ∀ {L1 L2 : List LinkL} {I1 I2 : Nat → Prop} {S1 S2 : MarkF → Prop}, Piece L1 I1 [p] [q] S1 → Piece L2 I2 [p] [q] S2 → (∀ r, I1 r → ¬ I2 r) → ¬ I2 q → ∀ m l, S1 m → l ∈ L2 → CanF l m → m = tok [p] := by
    intro L1 L2 I1 I2 S1 S2 A1 A2 hd' hq m l hm hl hc
    obtain ⟨r, hr⟩ := mem_ne_nil (A2.some1 l hl)
    have hmr := hc r hr
    have hp : r = p := by
      rcases A2.in1' l r hl hr with a | a
      · rcases A1.supp m r hm (by omega) with b | b | b
        · exact absurd a (hd' r b)
        · simpa using b
        · simp at b; subst b; exact absurd a hq
      · simpa using a
    subst hp
    exact A1.toCore.singleS hm hmr
  refine ⟨⟨.inl A.start, .inr B.stop, ?_, ?_, ?_, ?_, ?_, ?_, ?_, ?_, ?_, ?_, ?_, ?_, ?_, ?_, ?_, ?_⟩, ?_, ?_, ?_, ?_⟩
  · rintro m l (hm | hm) hl hc
    · rcases List.mem_append.1 hl with h | h
      · exact .inl (A.closed m l hm h hc)
      · have := only A B hd hqB m l hm h hc
        subst this
        exact .inr (B.closed _ l B.start h hc)
    · rcases List.mem_append.1 hl with h | h
      · have := only B A (fun r a b => hd r b a) hqA m l hm h hc
        subst this
        exact .inl (A.closed _ l A.start h hc)
      · exact .inr (B.closed m l hm h hc)
  · rintro m r (hm | hm)
    · exact A.low m r hm
    · exact B.low m r hm
  · rintro m r (hm | hm) h
    · rcases A.supp m r hm h with a | a; exact .inl (.inl a); exact .inr a
    · rcases B.supp m r hm h with a | a; exact .inl (.inr a); exact .inr a
  · rintro m (hm | hm) h
    · exact A.atS m hm h
    · exact B.atS m hm h
  · rintro m (hm | hm) h
    · exact A.atE m hm h
    · exact B.atE m hm h
  · rintro m (hm | hm)
    · exact (A.ends m hm).mono subA
    · exact (B.ends m hm).mono subB
  · intro l hl
    rcases List.mem_append.1 hl with h | h
    · obtain ⟨m, h1, h2⟩ := A.alive l h; exact ⟨m, h1.mono subA, h2⟩
    · obtain ⟨m, h1, h2⟩ := B.alive l h; exact ⟨m, h1.mono subB, h2⟩
  · intro l hl; rcases List.mem_append.1 hl with h | h; exact A.some1 l h; exact B.some1 l h
  · intro l hl; rcases List.mem_append.1 hl with h | h; exact A.some2 l h; exact B.some2 l h
  · intro l r hl hr
    rcases List.mem_append.1 hl with h | h
    · rcases A.in1' l r h hr with q | q; exact .inl (.inl q); exact .inr (.inl q)
    · rcases B.in1' l r h hr with q | q; exact .inl (.inr q); exact .inr (.inl q)
  · intro l r hl hr
    rcases List.mem_append.1 hl with h | h
    · rcases A.in2' l r h hr with q | q; exact .inl (.inl q); exact .inr (.inr q)
    · rcases B.in2' l r h hr with q | q; exact .inl (.inr q); exact .inr (.inr q)
  · rintro r ((h | h) | h)
    · obtain ⟨s, hs, hw⟩ := A.way1 r (.inl h); exact ⟨s, hs, hw.mono subA⟩
    · obtain ⟨s, hs, hw⟩ := B.way1 r (.inl h); exact ⟨s, hs, hw.mono subB⟩
    · obtain ⟨s, hs, hw⟩ := A.way1 r (.inr h); exact ⟨s, hs, hw.mono subA⟩
  · rintro r ((h | h) | h)
    · obtain ⟨s, hs, hw⟩ := A.way2 r (.inl h); exact ⟨s, hs, hw.mono subA⟩
    · obtain ⟨s, hs, hw⟩ := B.way2 r (.inl h); exact ⟨s, hs, hw.mono subB⟩
    · obtain ⟨s, hs, hw⟩ := A.way2 r (.inr h); exact ⟨s, hs, hw.mono subA⟩
  · have cross : ∀ l k r, l ∈ LA → k ∈ LB → r ∈ l.src → r ∈ k.src → l.src = k.src := by
      intro l k r hl hk h1' h2'
      have hp : r ∈ [p] := by
        rcases A.in1' l r hl h1' with a | a
        · rcases B.in1' k r hk h2' with b | b
          · exact absurd b (hd r a)
          · exact b
        · exact a
      rw [A.firstS l r hl h1' hp, B.firstS k r hk h2' hp]
    intro l k r hl hk h1' h2'
    rcases List.mem_append.1 hl with h | h
    · rcases List.mem_append.1 hk with g | g
      · exact A.same l k r h g h1' h2'
      · exact cross l k r h g h1' h2'
    · rcases List.mem_append.1 hk with g | g
      · exact (cross k l r g h h2' h1').symm
      · exact B.same l k r h g h1' h2'
  · intro l r hl hr hE
    rcases List.mem_append.1 hl with h | h
    · exact A.lastE l r h hr hE
    · exact B.lastE l r h hr hE
  · intro l hl; rcases List.mem_append.1 hl with h | h; exact A.named l h; exact B.named l h
  · intro l r hl hr
    rcases List.mem_append.1 hl with h | h
    · rcases A.in1' l r h hr with q | q; exact .inl (.inl q); exact .inr q
    · rcases B.in1' l r h hr with q | q; exact .inl (.inr q); exact .inr q
  · intro l r hl hr
    rcases List.mem_append.1 hl with h | h
    · rcases A.in2' l r h hr with q | q; exact .inl (.inl q); exact .inr q
    · rcases B.in2' l r h hr with q | q; exact .inl (.inr q); exact .inr q
  · intro l r hl hr hS
    rcases List.mem_append.1 hl with h | h
    · exact A.firstS l r h hr hS
    · exact B.firstS l r h hr hS
  · intro r hr
    simp at hr; subst hr
    refine ⟨?_, by simpa using fun e => h3 e.symm⟩
    rintro (a | a)
    · exact hqA a
    · exact hqB a

/-- There, and back. -/
theorem Core.loop {x y : Nat} (A : Piece LA IA [x] [y] SA) (B : Piece LB IB [y] [x] SB) (hd : ∀ r, IA r → ¬ IB r) (hxA : ¬ IA x) (hxB : ¬ IB x) (hyA : ¬ IA y) (hyB : ¬ IB y) (h3 : x ≠ y) :
    Core (LA ++ LB) (fun r => IA r ∨ IB r) [x] [y] (fun m => SA m ∨ SB m) := by
  have subA : ∀ l ∈ LA, l ∈ LA ++ LB := fun l h => List.mem_append_left _ h
  have subB : ∀ l ∈ LB, l ∈ LA ++ LB := fun l h => List.mem_append_right _ h
  have only : ∀ {L1 L2 : List LinkL} {I1 I2 : Nat → Prop} {S1 S2 : MarkF → Prop} {u v : Nat}, Piece L1 I1 [u] [v] S1 → Piece L2 I2 [v] [u] S2 → (∀ r, I1 r → ¬ I2 r) → ¬ I2 u → ∀ m l, S1 m → l ∈ L2 → CanF l m → m = tok [v] := by
    intro L1 L2 I1 I2 S1 S2 u v A1 A2 hd' hq m l hm hl hc
    obtain ⟨r, hr⟩ := mem_ne_nil (A2.some1 l hl)
    have hmr := hc r hr
    have hp : r = v := by
      rcases A2.in1' l r hl hr with a | a
      · rcases A1.supp m r hm (by omega) with b | b | b
        · exact absurd a (hd' r b)
        · simp at b; subst b; exact absurd a hq
        · simpa using b
      · simpa using a
    subst hp
    exact A1.toCore.single hm hmr
  have wxy : WayF (LA ++ LB) x y := by
    obtain ⟨s, hs, hw⟩ := A.way1 y (.inr (by simp))
    rw [List.mem_singleton] at hs; subst hs
    exact hw.mono subA
  refine ⟨.inl A.start, .inl A.stop, ?_, ?_, ?_, ?_, ?_, ?_, ?_, ?_, ?_, ?_, ?_, ?_, ?_, ?_, ?_, ?_⟩
  · rintro m l (hm | hm) hl hc
    · rcases List.mem_append.1 hl with h | h
      · exact .inl (A.closed m l hm h hc)
      · have := only A B hd hxB m l hm h hc
        subst this
        exact .inr (B.closed _ l B.start h hc)
    · rcases List.mem_append.1 hl with h | h
      · have := only B A (fun r a b => hd r b a) hyA m l hm h hc
        subst this
        exact .inl (A.closed _ l A.start h hc)
      · exact .inr (B.closed m l hm h hc)
  · rintro m r (hm | hm)
    · exact A.low m r hm
    · exact B.low m r hm
  · rintro m r (hm | hm) h
    · rcases A.supp m r hm h with a | a; exact .inl (.inl a); exact .inr a
    · rcases B.supp m r hm h with a | a | a; exact .inl (.inr a); exact .inr (.inr a); exact .inr (.inl a)
  · rintro m (hm | hm) h
    · exact A.atS m hm h
    · exact B.atE m hm h
  · rintro m (hm | hm) h
    · exact A.atE m hm h
    · exact B.atS m hm h
  · rintro m (hm | hm)
    · exact (A.ends m hm).mono subA
    · exact ((B.ends m hm).mono subB).trans ((A.ends _ A.start).mono subA)
  · intro l hl
    rcases List.mem_append.1 hl with h | h
    · obtain ⟨m, h1, h2⟩ := A.alive l h; exact ⟨m, h1.mono subA, h2⟩
    · obtain ⟨m, h1, h2⟩ := B.alive l h; exact ⟨m, ((A.ends _ A.start).mono subA).trans (h1.mono subB), h2⟩
  · intro l hl; rcases List.mem_append.1 hl with h | h; exact A.some1 l h; exact B.some1 l h
  · intro l hl; rcases List.mem_append.1 hl with h | h; exact A.some2 l h; exact B.some2 l h
  · intro l r hl hr
    rcases List.mem_append.1 hl with h | h
    · rcases A.in1' l r h hr with q | q; exact .inl (.inl q); exact .inr (.inl q)
    · rcases B.in1' l r h hr with q | q; exact .inl (.inr q); exact .inr (.inr q)
  · intro l r hl hr
    rcases List.mem_append.1 hl with h | h
    · rcases A.in2' l r h hr with q | q; exact .inl (.inl q); exact .inr (.inr q)
    · rcases B.in2' l r h hr with q | q; exact .inl (.inr q); exact .inr (.inl q)
  · rintro r ((h | h) | h)
    · obtain ⟨s, hs, hw⟩ := A.way1 r (.inl h); exact ⟨s, hs, hw.mono subA⟩
    · obtain ⟨s, hs, hw⟩ := B.way1 r (.inl h)
      simp at hs; subst hs
      exact ⟨x, by simp, wxy.trans (hw.mono subB)⟩
    · obtain ⟨s, hs, hw⟩ := A.way1 r (.inr h); exact ⟨s, hs, hw.mono subA⟩
  · rintro r ((h | h) | h)
    · obtain ⟨s, hs, hw⟩ := A.way2 r (.inl h); exact ⟨s, hs, hw.mono subA⟩
    · obtain ⟨s, hs, hw⟩ := B.way2 r (.inl h)
      simp at hs; subst hs
      exact ⟨y, by simp, (hw.mono subB).trans wxy⟩
    · obtain ⟨s, hs, hw⟩ := A.way2 r (.inr h); exact ⟨s, hs, hw.mono subA⟩
  · have cross : ∀ l k r, l ∈ LA → k ∈ LB → r ∈ l.src → r ∈ k.src → False := by
      intro l k r hl hk h1' h2'
      rcases A.in1' l r hl h1' with a | a
      · rcases B.in1' k r hk h2' with b | b
        · exact hd r a b
        · simp at b; subst b; exact hyA a
      · simp at a; subst a
        rcases B.in1' k r hk h2' with b | b
        · exact hxB b
        · simp at b; exact h3 b
    intro l k r hl hk h1' h2'
    rcases List.mem_append.1 hl with h | h
    · rcases List.mem_append.1 hk with g | g
      · exact A.same l k r h g h1' h2'
      · exact (cross l k r h g h1' h2').elim
    · rcases List.mem_append.1 hk with g | g
      · exact (cross k l r g h h2' h1').elim
      · exact B.same l k r h g h1' h2'
  · intro l r hl hr hE
    rcases List.mem_append.1 hl with h | h
    · exact A.lastE l r h hr hE
    · rw [B.firstS l r h hr hE]; simp at hE; rw [hE]
  · intro l hl; rcases List.mem_append.1 hl with h | h; exact A.named l h; exact B.named l h

/-- Side by side. -/
theorem Piece.par {S1 S2 E1 E2 : List Nat} (A : Piece LA IA S1 E1 SA) (B : Piece LB IB S2 E2 SB) (hd : ∀ r, (IA r ∨ r ∈ S1 ∨ r ∈ E1) → ¬ (IB r ∨ r ∈ S2 ∨ r ∈ E2)) :
    Piece (LA ++ LB) (fun r => IA r ∨ IB r) (S1 ++ S2) (E1 ++ E2) (fun m => ∃ a b, SA a ∧ SB b ∧ m = plusF a b) := by
  have subA : ∀ l ∈ LA, l ∈ LA ++ LB := fun l h => List.mem_append_left _ h
  have subB : ∀ l ∈ LB, l ∈ LA ++ LB := fun l h => List.mem_append_right _ h
  have za : ∀ a r, SA a → (IB r ∨ r ∈ S2 ∨ r ∈ E2) → a r = 0 := by
    intro a r ha hr
    by_cases h : a r = 0
    · exact h
    · exact absurd hr (hd r (A.supp a r ha h))
  have zb : ∀ b r, SB b → (IA r ∨ r ∈ S1 ∨ r ∈ E1) → b r = 0 := by
    intro b r hb hr
    by_cases h : b r = 0
    · exact h
    · exact absurd (B.supp b r hb h) (hd r hr)
  have tS : tok (S1 ++ S2) = plusF (tok S1) (tok S2) := by
    funext r
    simp only [tok, plusF, List.mem_append]
    by_cases h1 : r ∈ S1
    · have h2 : r ∉ S2 := fun h2 => hd r (.inr (.inl h1)) (.inr (.inl h2))
      simp [h1, h2]
    · simp [h1]
  have tE : tok (E1 ++ E2) = plusF (tok E1) (tok E2) := by
    funext r
    simp only [tok, plusF, List.mem_append]
    by_cases h1 : r ∈ E1
    · have h2 : r ∉ E2 := fun h2 => hd r (.inr (.inr h1)) (.inr (.inr h2))
      simp [h1, h2]
    · simp [h1]
  refine ⟨⟨⟨_, _, A.start, B.start, tS⟩, ⟨_, _, A.stop, B.stop, tE⟩, ?_, ?_, ?_, ?_, ?_, ?_, ?_, ?_, ?_, ?_, ?_, ?_, ?_, ?_, ?_, ?_⟩, ?_, ?_, ?_, ?_⟩
  · rintro m l ⟨a, b, ha, hb, rfl⟩ hl hc
    rcases List.mem_append.1 hl with h | h
    · refine ⟨goF l a, b, A.closed a l ha h fun r hr => ?_, hb, ?_⟩
      · have h1 := hc r hr
        have h2 := zb b r hb (A.in1 l r h hr)
        simp only [plusF] at h1; omega
      · funext r; simp only [goF, plusF]; omega
    · refine ⟨a, goF l b, ha, B.closed b l hb h fun r hr => ?_, ?_⟩
      · have h1 := hc r hr
        have h2 := za a r ha (B.in1 l r h hr)
        simp only [plusF] at h1; omega
      · funext r; simp only [goF, plusF]; omega
  · rintro m r ⟨a, b, ha, hb, rfl⟩
    simp only [plusF]
    have h1 := A.low a r ha
    have h2 := B.low b r hb
    by_cases h : a r = 0
    · omega
    · have := zb b r hb (A.supp a r ha h); omega
  · rintro m r ⟨a, b, ha, hb, rfl⟩ h
    simp only [plusF] at h
    simp only [List.mem_append]
    by_cases h1 : a r = 0
    · rcases B.supp b r hb (by omega) with k | k | k
      · exact .inl (.inr k)
      · exact .inr (.inl (.inr k))
      · exact .inr (.inr (.inr k))
    · rcases A.supp a r ha h1 with k | k | k
      · exact .inl (.inl k)
      · exact .inr (.inl (.inl k))
      · exact .inr (.inr (.inl k))
  · rintro m ⟨a, b, ha, hb, rfl⟩ h
    rw [tS, A.atS a ha fun r hr => ?_, B.atS b hb fun r hr => ?_]
    · have h1 := h r (List.mem_append_right _ hr)
      have h2 := za a r ha (.inr (.inl hr))
      simp only [plusF] at h1; omega
    · have h1 := h r (List.mem_append_left _ hr)
      have h2 := zb b r hb (.inr (.inl hr))
      simp only [plusF] at h1; omega
  · rintro m ⟨a, b, ha, hb, rfl⟩ h
    rw [tE, A.atE a ha fun r hr => ?_, B.atE b hb fun r hr => ?_]
    · have h1 := h r (List.mem_append_right _ hr)
      have h2 := za a r ha (.inr (.inr hr))
      simp only [plusF] at h1; omega
    · have h1 := h r (List.mem_append_left _ hr)
      have h2 := zb b r hb (.inr (.inr hr))
      simp only [plusF] at h1; omega
  · rintro m ⟨a, b, ha, hb, rfl⟩
    rw [tE]
    exact (((A.ends a ha).mono subA).beside b fun r => (B.low b r hb).1).trans (((B.ends b hb).mono subB).besideL (tok E1) fun r => (tok_low _ _).1)
  · intro l hl
    rw [tS]
    rcases List.mem_append.1 hl with h | h
    · obtain ⟨m, h1, h2⟩ := A.alive l h
      refine ⟨_, (h1.mono subA).beside (tok S2) fun r => (tok_low _ _).1, fun r hr => ?_⟩
      have := h2 r hr; have := tok_low S2 r; simp only [plusF]; omega
    · obtain ⟨m, h1, h2⟩ := B.alive l h
      refine ⟨_, (h1.mono subB).besideL (tok S1) fun r => (tok_low _ _).1, fun r hr => ?_⟩
      have := h2 r hr; have := tok_low S1 r; simp only [plusF]; omega
  · intro l hl; rcases List.mem_append.1 hl with h | h; exact A.some1 l h; exact B.some1 l h
  · intro l hl; rcases List.mem_append.1 hl with h | h; exact A.some2 l h; exact B.some2 l h
  · intro l r hl hr
    simp only [List.mem_append]
    rcases List.mem_append.1 hl with h | h
    · rcases A.in1' l r h hr with q | q; exact .inl (.inl q); exact .inr (.inl (.inl q))
    · rcases B.in1' l r h hr with q | q; exact .inl (.inr q); exact .inr (.inl (.inr q))
  · intro l r hl hr
    simp only [List.mem_append]
    rcases List.mem_append.1 hl with h | h
    · rcases A.in2' l r h hr with q | q; exact .inl (.inl q); exact .inr (.inr (.inl q))
    · rcases B.in2' l r h hr with q | q; exact .inl (.inr q); exact .inr (.inr (.inr q))
  · simp only [List.mem_append]
    rintro r ((h | h) | (h | h))
    · obtain ⟨s, hs, hw⟩ := A.way1 r (.inl h); exact ⟨s, .inl hs, hw.mono subA⟩
    · obtain ⟨s, hs, hw⟩ := B.way1 r (.inl h); exact ⟨s, .inr hs, hw.mono subB⟩
    · obtain ⟨s, hs, hw⟩ := A.way1 r (.inr h); exact ⟨s, .inl hs, hw.mono subA⟩
    · obtain ⟨s, hs, hw⟩ := B.way1 r (.inr h); exact ⟨s, .inr hs, hw.mono subB⟩
  · simp only [List.mem_append]
    rintro r ((h | h) | (h | h))
    · obtain ⟨s, hs, hw⟩ := A.way2 r (.inl h); exact ⟨s, .inl hs, hw.mono subA⟩
    · obtain ⟨s, hs, hw⟩ := B.way2 r (.inl h); exact ⟨s, .inr hs, hw.mono subB⟩
    · obtain ⟨s, hs, hw⟩ := A.way2 r (.inr h); exact ⟨s, .inl hs, hw.mono subA⟩
    · obtain ⟨s, hs, hw⟩ := B.way2 r (.inr h); exact ⟨s, .inr hs, hw.mono subB⟩
  · intro l k r hl hk h1' h2'
    rcases List.mem_append.1 hl with h | h
    · rcases List.mem_append.1 hk with g | g
      · exact A.same l k r h g h1' h2'
      · exact absurd (B.in1 k r g h2') (hd r (A.in1 l r h h1'))
    · rcases List.mem_append.1 hk with g | g
      · exact absurd (B.in1 l r h h1') (hd r (A.in1 k r g h2'))
      · exact B.same l k r h g h1' h2'
  · intro l r hl hr hE
    rcases List.mem_append.1 hl with h | h
    · rcases List.mem_append.1 hE with g | g
      · obtain ⟨k1, k2⟩ := A.apart r g
        rcases A.in1' l r h hr with a | a
        · exact absurd a k1
        · exact absurd a k2
      · exact absurd (.inr (.inr g)) (hd r (A.in1 l r h hr))
    · rcases List.mem_append.1 hE with g | g
      · exact absurd (B.in1 l r h hr) (hd r (.inr (.inr g)))
      · obtain ⟨k1, k2⟩ := B.apart r g
        rcases B.in1' l r h hr with a | a
        · exact absurd a k1
        · exact absurd a k2
  · intro l hl; rcases List.mem_append.1 hl with h | h; exact A.named l h; exact B.named l h
  · intro l r hl hr
    simp only [List.mem_append]
    rcases List.mem_append.1 hl with h | h
    · rcases A.in1' l r h hr with q | q; exact .inl (.inl q); exact .inr (.inl q)
    · rcases B.in1' l r h hr with q | q; exact .inl (.inr q); exact .inr (.inr q)
  · intro l r hl hr
    simp only [List.mem_append]
    rcases List.mem_append.1 hl with h | h
    · rcases A.in2' l r h hr with q | q; exact .inl (.inl q); exact .inr (.inl q)
    · rcases B.in2' l r h hr with q | q; exact .inl (.inr q); exact .inr (.inr q)
  · intro l r hl hr hS
    rcases List.mem_append.1 hl with h | h
    · rcases List.mem_append.1 hS with g | g
      · exact A.firstS l r h hr g
      · exact absurd (.inr (.inl g)) (hd r (A.in1 l r h hr))
    · rcases List.mem_append.1 hS with g | g
      · exact absurd (B.in1 l r h hr) (hd r (.inr (.inl g)))
      · exact B.firstS l r h hr g
  · intro r hr
    simp only [List.mem_append, not_or]
    rcases List.mem_append.1 hr with g | g
    · obtain ⟨k1, k2⟩ := A.apart r g
      exact ⟨⟨k1, fun k => hd r (.inr (.inr g)) (.inl k)⟩, k2, fun k => hd r (.inr (.inr g)) (.inr (.inl k))⟩
    · obtain ⟨k1, k2⟩ := B.apart r g
      exact ⟨⟨fun k => hd r (.inl k) (.inr (.inr g)), k1⟩, fun k => hd r (.inr (.inl k)) (.inr (.inr g)), k2⟩

/-- Nothing at all. -/
theorem Piece.none : Piece [] (fun _ => False) [] [] (fun m => m = tok []) := by
  refine ⟨⟨rfl, rfl, ?_, ?_, ?_, ?_, ?_, ?_, ?_, ?_, ?_, ?_, ?_, ?_, ?_, ?_, ?_, ?_⟩, ?_, ?_, ?_, ?_⟩
  · intro m l _ h; cases h
  · rintro m r rfl; exact tok_low _ _
  · rintro m r rfl h; exact absurd (tok_not (by simp)) h
  · rintro m rfl _; rfl
  · rintro m rfl _; rfl
  · rintro m rfl; exact ReachF.here _ _
  · intro l h; cases h
  · intro l h; cases h
  · intro l h; cases h
  · intro l r h; cases h
  · intro l r h; cases h
  · rintro r (h | h); exact h.elim; cases h
  · rintro r (h | h); exact h.elim; cases h
  · intro l k r h; cases h
  · intro l r h; cases h
  · intro l h; cases h
  · intro l r h; cases h
  · intro l r h; cases h
  · intro l r h; cases h
  · intro r h; cases h

/-- One transition ahead of it, one behind it. -/
theorem Core.wrap {L : List LinkL} {I : Nat → Prop} {S E : List Nat} {St : MarkF → Prop} {p q : Nat} (C : Core L I S E St) (hS : S ≠ []) (hE : E ≠ []) (hpI : ¬ I p) (hqI : ¬ I q) (hpS : p ∉ S) (hqS : q ∉ S) (hpE : p ∉ E) (hqE : q ∉ E) (h3 : p ≠ q) :
    Piece (⟨0, [p], S⟩ :: (L ++ [⟨0, E, [q]⟩])) (fun r => I r ∨ r ∈ S ∨ r ∈ E) [p] [q] (fun m => m = tok [p] ∨ m = tok [q] ∨ St m) := by
  obtain ⟨K, HK⟩ : ∃ K, K = (⟨0, [p], S⟩ :: (L ++ [⟨0, E, [q]⟩]) : List LinkL) := ⟨_, rfl⟩
  have kin : ∀ l, l ∈ K ↔ l = ⟨0, [p], S⟩ ∨ l ∈ L ∨ l = ⟨0, E, [q]⟩ := by intro l; rw [HK]; simp
  rw [← HK]
  have subL : ∀ l ∈ L, l ∈ K := fun l h => (kin l).2 (.inr (.inl h))
  have g1 : goF ⟨0, [p], S⟩ (tok [p]) = tok S := go_over _ _ _
  have g2 : goF ⟨0, E, [q]⟩ (tok E) = tok [q] := go_over _ _ _
  have c1 : CanF ⟨0, [p], S⟩ (tok [p]) := fun r hr => by rw [tok_mem hr]; omega
  have c2 : CanF ⟨0, E, [q]⟩ (tok E) := fun r hr => by rw [tok_mem hr]; omega
  have pout : ∀ m, St m → m p = 0 := by
    intro m hm
    by_cases h : m p = 0
    · exact h
    · rcases C.supp m p hm h with a | a | a
      · exact absurd a hpI
      · exact absurd a hpS
      · exact absurd a hpE
  have qout : ∀ m, St m → m q = 0 := by
    intro m hm
    by_cases h : m q = 0
    · exact h
    · rcases C.supp m q hm h with a | a | a
      · exact absurd a hqI
      · exact absurd a hqS
      · exact absurd a hqE
  have r1 : ReachF K (tok [p]) (tok S) := by
    have := ReachF.one (L := K) (a := tok [p]) (l := ⟨0, [p], S⟩) ((kin _).2 (.inl rfl)) c1
    rwa [g1] at this
  have r2 : ReachF K (tok E) (tok [q]) := by
    have := ReachF.one (L := K) (a := tok E) (l := ⟨0, E, [q]⟩) ((kin _).2 (.inr (.inr rfl))) c2
    rwa [g2] at this
  have rS : ∀ m, St m → ReachF K m (tok [q]) := fun m hm => ((C.ends m hm).mono subL).trans r2
  have inL : ∀ l r, l ∈ L → r ∈ l.src → r ≠ p ∧ r ≠ q := by
    intro l r hl hr
    rcases C.in1 l r hl hr with a | a | a
    · exact ⟨fun e => hpI (e ▸ a), fun e => hqI (e ▸ a)⟩
    · exact ⟨fun e => hpS (e ▸ a), fun e => hqS (e ▸ a)⟩
    · exact ⟨fun e => hpE (e ▸ a), fun e => hqE (e ▸ a)⟩
  have noL : ∀ l, l ∈ L → ∀ z, (∀ r, r ≠ p ∧ r ≠ q → tok [z] r = 0) → ¬ CanF l (tok [z]) := by
    intro l hl z hz hc
    obtain ⟨r, hr⟩ := mem_ne_nil (C.some1 l hl)
    have h1 := hc r hr
    rw [hz r (inL l r hl hr)] at h1
    omega
  have zp : ∀ r, r ≠ p ∧ r ≠ q → tok [p] r = 0 := fun r h => tok_not (by simpa using h.1)
  have zq : ∀ r, r ≠ p ∧ r ≠ q → tok [q] r = 0 := fun r h => tok_not (by simpa using h.2)
  obtain ⟨e0, he0⟩ := mem_ne_nil hE
  obtain ⟨s0, hs0⟩ := mem_ne_nil hS
  have e0p : e0 ≠ p := fun e => hpE (e ▸ he0)
  have e0q : e0 ≠ q := fun e => hqE (e ▸ he0)
  have wS : ∀ s, s ∈ S → WayF K p s := fun s hs => WayF.one (l := ⟨0, [p], S⟩) ((kin _).2 (.inl rfl)) (by simp) hs
  have wE : ∀ e, e ∈ E → WayF K e q := fun e he => WayF.one (l := ⟨0, E, [q]⟩) ((kin _).2 (.inr (.inr rfl))) he (by simp)
  have w1 : ∀ r, I r ∨ r ∈ E → WayF K p r := by
    intro r hr
    obtain ⟨s, hs, hw⟩ := C.way1 r hr
    exact (wS s hs).trans (hw.mono subL)
  have w2 : ∀ r, I r ∨ r ∈ S → WayF K r q := by
    intro r hr
    obtain ⟨e, he, hw⟩ := C.way2 r hr
    exact (hw.mono subL).trans (wE e he)
  refine ⟨⟨.inl rfl, .inr (.inl rfl), ?_, ?_, ?_, ?_, ?_, ?_, ?_, ?_, ?_, ?_, ?_, ?_, ?_, ?_, ?_, ?_⟩, ?_, ?_, ?_, ?_⟩
  · rintro m l (rfl | rfl | hm) hl hc
    · rcases (kin l).1 hl with rfl | h | rfl
      · right; right; rw [g1]; exact C.start
      · exact absurd hc (noL l h p zp)
      · have := hc e0 he0; rw [tok_one, if_neg e0p] at this; omega
    · rcases (kin l).1 hl with rfl | h | rfl
      · have := hc p (by simp); rw [tok_one, if_neg h3] at this; omega
      · exact absurd hc (noL l h q zq)
      · have := hc e0 he0; rw [tok_one, if_neg e0q] at this; omega
    · rcases (kin l).1 hl with rfl | h | rfl
      · have := hc p (by simp); rw [pout m hm] at this; omega
      · exact .inr (.inr (C.closed m l hm h hc))
      · have := C.atE m hm hc; subst this; rw [g2]; exact .inr (.inl rfl)
  · rintro m r (rfl | rfl | hm)
    · exact tok_low _ _
    · exact tok_low _ _
    · exact C.low m r hm
  · rintro m r (rfl | rfl | hm) h
    · by_cases a : r ∈ [p]
      · exact .inr (.inl a)
      · exact absurd (tok_not a) h
    · by_cases a : r ∈ [q]
      · exact .inr (.inr a)
      · exact absurd (tok_not a) h
    · exact .inl (C.supp m r hm h)
  · rintro m (rfl | rfl | hm) h
    · rfl
    · have := h p (by simp); rw [tok_one, if_neg h3] at this; omega
    · have := h p (by simp); rw [pout m hm] at this; omega
  · rintro m (rfl | rfl | hm) h
    · have := h q (by simp); rw [tok_one, if_neg (fun e => h3 e.symm)] at this; omega
    · rfl
    · have := h q (by simp); rw [qout m hm] at this; omega
  · rintro m (rfl | rfl | hm)
    · exact r1.trans (rS _ C.start)
    · exact ReachF.here _ _
    · exact rS m hm
  · intro l hl
    rcases (kin l).1 hl with rfl | h | rfl
    · exact ⟨_, ReachF.here _ _, c1⟩
    · obtain ⟨m, a, b⟩ := C.alive l h; exact ⟨m, r1.trans (a.mono subL), b⟩
    · exact ⟨_, r1.trans ((C.ends _ C.start).mono subL), c2⟩
  · intro l hl
    rcases (kin l).1 hl with rfl | h | rfl
    · simp
    · exact C.some1 l h
    · exact hE
  · intro l hl
    rcases (kin l).1 hl with rfl | h | rfl
    · exact hS
    · exact C.some2 l h
    · simp
  · intro l r hl hr
    rcases (kin l).1 hl with rfl | h | rfl
    · exact .inr (.inl hr)
    · exact .inl (C.in1 l r h hr)
    · exact .inl (.inr (.inr hr))
  · intro l r hl hr
    rcases (kin l).1 hl with rfl | h | rfl
    · exact .inl (.inr (.inl hr))
    · exact .inl (C.in2 l r h hr)
    · exact .inr (.inr hr)
  · rintro r ((h | h | h) | h)
    · exact ⟨p, by simp, w1 r (.inl h)⟩
    · exact ⟨p, by simp, wS r h⟩
    · exact ⟨p, by simp, w1 r (.inr h)⟩
    · simp at h; subst h; exact ⟨p, by simp, (w1 e0 (.inr he0)).trans (wE e0 he0)⟩
  · rintro r ((h | h | h) | h)
    · exact ⟨q, by simp, w2 r (.inl h)⟩
    · exact ⟨q, by simp, w2 r (.inr h)⟩
    · exact ⟨q, by simp, wE r h⟩
    · simp at h; subst h; exact ⟨q, by simp, (wS s0 hs0).trans (w2 s0 (.inr hs0))⟩
  · intro l k r hl hk h1 h2
    rcases (kin l).1 hl with rfl | h | rfl
    · simp at h1; subst h1
      rcases (kin k).1 hk with rfl | g | rfl
      · rfl
      · exact absurd rfl (inL k r g h2).1
      · exact absurd h2 hpE
    · rcases (kin k).1 hk with rfl | g | rfl
      · simp at h2; subst h2; exact absurd rfl (inL l r h h1).1
      · exact C.same l k r h g h1 h2
      · exact C.lastE l r h h1 h2
    · rcases (kin k).1 hk with rfl | g | rfl
      · simp at h2; subst h2; exact absurd h1 hpE
      · exact (C.lastE k r g h2 h1).symm
      · rfl
  · intro l r hl h1 h2
    simp at h2; subst h2
    rcases (kin l).1 hl with rfl | h | rfl
    · simp at h1; exact absurd h1.symm h3
    · exact absurd rfl (inL l r h h1).2
    · exact absurd h1 hqE
  · intro l hl
    rcases (kin l).1 hl with rfl | h | rfl
    · simp
    · exact C.named l h
    · simp
  · intro l r hl hr
    rcases (kin l).1 hl with rfl | h | rfl
    · exact .inr hr
    · exact .inl (C.in1 l r h hr)
    · exact .inl (.inr (.inr hr))
  · intro l r hl hr
    rcases (kin l).1 hl with rfl | h | rfl
    · exact .inl (.inr (.inl hr))
    · exact .inl (C.in2 l r h hr)
    · exact .inr hr
  · intro l r hl h1 h2
    simp at h2; subst h2
    rcases (kin l).1 hl with rfl | h | rfl
    · rfl
    · exact absurd rfl (inL l r h h1).1
    · exact absurd h1 hpE
  · intro r hr
    simp at hr; subst hr
    refine ⟨?_, by simpa using fun e => h3 e.symm⟩
    rintro (a | a | a)
    · exact hqI a
    · exact hqS a
    · exact hqE a

end

end Go.Proofs.Ytgedpebnipghlaa

/- Plain words for what grows of blocks, and that it is a piece of a net. -/
namespace Go.Proofs.Ytgedpebnipghlaa
set_option linter.unusedVariables false
set_option maxRecDepth 4000

/-- What has grown: how many places, and the links. -/
structure GrowL where
  places : Nat
  links : List LinkL

def putG (g : GrowL) (label : Int) (a b : List Nat) : GrowL := ⟨g.places, g.links ++ [⟨label, a, b⟩]⟩
def insG (n x : Nat) : List Nat := (List.range n).map fun i => x + 2 * i
def outsG (n x : Nat) : List Nat := (List.range n).map fun i => x + 2 * i + 1
abbrev GrowT := BlockL → Nat → Nat → GrowL → GrowL
def growSeq (K : GrowT) : List BlockL → Nat → Nat → GrowL → GrowL
  | [], _, _, g => g
  | [k], p, q, g => K k p q g
  | k :: k2 :: ks, p, q, g => growSeq K (k2 :: ks) g.places q (K k p g.places ⟨g.places + 1, g.links⟩)
def growAlt (K : GrowT) : List BlockL → Nat → Nat → GrowL → GrowL
  | [], _, _, g => g
  | k :: ks, p, q, g => growAlt K ks p q (K k p q g)
def growBoth (K : GrowT) : List BlockL → Nat → GrowL → GrowL
  | [], _, g => g
  | k :: ks, x, g => growBoth K ks (x + 2) (K k x (x + 1) g)
def noBlock : BlockL := ⟨0, 0, []⟩
def kidB (b : BlockL) (j : Nat) : BlockL := b.kids.getD j noBlock
def growF (K : GrowT) (b : BlockL) (p q : Nat) (g : GrowL) : GrowL :=
  if b.kind = 1 then putG g 0 [p] [q] else if b.kind = 2 then putG g b.label [p] [q]
  else if b.kind = 3 then growSeq K b.kids p q g
  else if b.kind = 4 then growAlt K b.kids p q g
  else if b.kind = 5 then putG (growBoth K b.kids g.places (putG ⟨g.places + 2 * b.kids.length, g.links⟩ 0 [p] (insG b.kids.length g.places))) 0 (outsG b.kids.length g.places) [q]
  else putG (K (kidB b 1) (g.places + 1) g.places (K (kidB b 0) g.places (g.places + 1) (putG ⟨g.places + 2, g.links⟩ 0 [p] [g.places]))) 0 [g.places + 1] [q]
def growK : Nat → GrowT
  | 0, _, _, _, g => g
  | f + 1, b, p, q, g => growF (growK f) b p q g

theorem insG_succ (n x : Nat) : insG (n + 1) x = [x] ++ insG n (x + 2) := by
  simp only [insG, List.range_succ_eq_map, List.map_cons, List.map_map, List.singleton_append]
  congr 1
  apply List.map_congr_left
  intro i _
  simp only [Function.comp]
  omega
theorem outsG_succ (n x : Nat) : outsG (n + 1) x = [x + 1] ++ outsG n (x + 2) := by
  simp only [outsG, List.range_succ_eq_map, List.map_cons, List.map_map, List.singleton_append]
  congr 1
  apply List.map_congr_left
  intro i _
  simp only [Function.comp]
  omega
theorem mem_insG {n x r : Nat} : r ∈ insG n x → x ≤ r ∧ r < x + 2 * n := by
  simp only [insG, List.mem_map, List.mem_range]
  rintro ⟨i, h, rfl⟩
  omega
theorem mem_outsG {n x r : Nat} : r ∈ outsG n x → x ≤ r ∧ r < x + 2 * n := by
  simp only [outsG, List.mem_map, List.mem_range]
  rintro ⟨i, h, rfl⟩
  omega
theorem all_insG {n x r : Nat} (h : x ≤ r) (h2 : r < x + 2 * n) : r ∈ insG n x ∨ r ∈ outsG n x := by
  simp only [insG, outsG, List.mem_map, List.mem_range]
  rcases Nat.mod_two_eq_zero_or_one (r - x) with e | e
  · exact .inl ⟨(r - x) / 2, by omega, by omega⟩
  · exact .inr ⟨(r - x) / 2, by omega, by omega⟩
theorem insG_ne {n x : Nat} (h : n ≠ 0) : insG n x ≠ [] := by
  obtain ⟨m, rfl⟩ : ∃ m, n = m + 1 := ⟨n - 1, by omega⟩
  rw [insG_succ]; simp
theorem outsG_ne {n x : Nat} (h : n ≠ 0) : outsG n x ≠ [] := by
  obtain ⟨m, rfl⟩ : ∃ m, n = m + 1 := ⟨n - 1, by omega⟩
  rw [outsG_succ]; simp

theorem Piece.of {L : List LinkL} {I J : Nat → Prop} {S E : List Nat} {St : MarkF → Prop} (h : Piece L I S E St) (e : ∀ r, I r ↔ J r) : Piece L J S E St := by
  have : I = J := funext fun r => propext (e r)
  rw [← this]; exact h

def Span (x c r : Nat) : Prop := x ≤ r ∧ r < x + c

/-- A block that grows into a piece, between whatever places. -/
def GrowsOk (K : GrowT) (b : BlockL) : Prop := ∀ p q g, p < g.places → q < g.places → p ≠ q → ∃ c L St, K b p q g = ⟨g.places + c, g.links ++ L⟩ ∧ L ≠ [] ∧ Piece L (Span g.places c) [p] [q] St

theorem seq_grows {K : GrowT} : ∀ {l : List BlockL} {p q : Nat} {g : GrowL}, (∀ k ∈ l, GrowsOk K k) → l ≠ [] → p < g.places → q < g.places → p ≠ q →
    ∃ c L St, growSeq K l p q g = ⟨g.places + c, g.links ++ L⟩ ∧ L ≠ [] ∧ Piece L (Span g.places c) [p] [q] St
  | [], _, _, _, _, h, _, _, _ => absurd rfl h
  | [k], p, q, g, hk, _, h1, h2, h3 => hk k (by simp) p q g h1 h2 h3
  | k :: k2 :: ks, p, q, g, hk, _, h1, h2, h3 => by
    obtain ⟨c1, L1, S1, e1, n1, P1⟩ := hk k (by simp) p g.places ⟨g.places + 1, g.links⟩ (by simp; omega) (by simp) (by omega)
    obtain ⟨c2, L2, S2, e2, n2, P2⟩ := seq_grows (l := k2 :: ks) (p := g.places) (q := q) (g := K k p g.places ⟨g.places + 1, g.links⟩) (fun x hx => hk x (by simp at hx ⊢; right; exact hx)) (by simp) (by rw [e1]; simp; omega) (by rw [e1]; simp; omega) (by omega)
    rw [e1] at P2
    refine ⟨1 + c1 + c2, L1 ++ L2, _, ?_, by simp [n1], (P1.seq P2 (fun r a b => by simp only [Span] at a b; omega) (by first | omega | (simp only [Span]; omega)) (by first | omega | (simp only [Span]; omega)) (by first | omega | (simp only [Span]; omega)) (by first | omega | (simp only [Span]; omega)) (by first | omega | (simp only [Span]; omega)) (by first | omega | (simp only [Span]; omega)) (by first | omega | (simp only [Span]; omega)) (by first | omega | (simp only [Span]; omega)) h3).of fun r => ?_⟩
    · simp only [growSeq]; rw [e2, e1]; simp only [GrowL.mk.injEq, List.append_assoc, and_true]; omega
    · simp only [Span]; omega

theorem alt_grows {K : GrowT} : ∀ {l : List BlockL} {p q : Nat} {g : GrowL}, (∀ k ∈ l, GrowsOk K k) → l ≠ [] → p < g.places → q < g.places → p ≠ q →
    ∃ c L St, growAlt K l p q g = ⟨g.places + c, g.links ++ L⟩ ∧ L ≠ [] ∧ Piece L (Span g.places c) [p] [q] St
  | [], _, _, _, _, h, _, _, _ => absurd rfl h
  | [k], p, q, g, hk, _, h1, h2, h3 => hk k (by simp) p q g h1 h2 h3
  | k :: k2 :: ks, p, q, g, hk, _, h1, h2, h3 => by
    obtain ⟨c1, L1, S1, e1, n1, P1⟩ := hk k (by simp) p q g h1 h2 h3
    obtain ⟨c2, L2, S2, e2, n2, P2⟩ := alt_grows (l := k2 :: ks) (p := p) (q := q) (g := K k p q g) (fun x hx => hk x (by simp at hx ⊢; right; exact hx)) (by simp) (by rw [e1]; simp; omega) (by rw [e1]; simp; omega) h3
    rw [e1] at P2
    refine ⟨c1 + c2, L1 ++ L2, _, ?_, by simp [n1], (P1.alt P2 (fun r a b => by simp only [Span] at a b; omega) (by first | omega | (simp only [Span]; omega)) (by first | omega | (simp only [Span]; omega)) (by first | omega | (simp only [Span]; omega)) (by first | omega | (simp only [Span]; omega)) h3).of fun r => ?_⟩
    · rw [growAlt, e2, e1]; simp only [GrowL.mk.injEq, List.append_assoc, and_true]; omega
    · simp only [Span]; omega

theorem both_grows {K : GrowT} : ∀ {l : List BlockL} {x : Nat} {g : GrowL}, (∀ k ∈ l, GrowsOk K k) → x + 2 * l.length ≤ g.places →
    ∃ c L St, growBoth K l x g = ⟨g.places + c, g.links ++ L⟩ ∧ Piece L (Span g.places c) (insG l.length x) (outsG l.length x) St
  | [], x, g, _, _ => ⟨0, [], _, by simp [growBoth], Piece.none.of fun r => ⟨False.elim, fun h => by simp only [Span] at h; omega⟩⟩
  | k :: ks, x, g, hk, hx => by
    simp only [List.length_cons] at hx
    obtain ⟨c1, L1, S1, e1, n1, P1⟩ := hk k (by simp) x (x + 1) g (by omega) (by omega) (by omega)
    obtain ⟨c2, L2, S2, e2, P2⟩ := both_grows (l := ks) (x := x + 2) (g := K k x (x + 1) g) (fun y hy => hk y (by simp; right; exact hy)) (by rw [e1]; simp only; omega)
    rw [e1] at P2
    rw [List.length_cons, insG_succ, outsG_succ]
    refine ⟨c1 + c2, L1 ++ L2, _, ?_, (P1.par P2 ?_).of fun r => ?_⟩
    · simp only [growBoth]; rw [e2, e1]; simp only [GrowL.mk.injEq, List.append_assoc, and_true]; omega
    · intro r h1 h2
      simp only [List.mem_singleton, Span] at h1 h2
      have h2' : (g.places + c1 ≤ r ∧ r < g.places + c1 + c2) ∨ (x + 2 ≤ r ∧ r < x + 2 + 2 * ks.length) := by
        rcases h2 with h | h | h
        · exact .inl h
        · exact .inr (mem_insG h)
        · exact .inr (mem_outsG h)
      omega
    · simp only [Span]; omega

theorem kid_mem {b : BlockL} {j : Nat} (h : j < b.kids.length) : kidB b j ∈ b.kids := by
  have : kidB b j = b.kids[j] := by simp [kidB, List.getD, List.getElem?_eq_getElem h]
  rw [this]; exact List.getElem_mem h

theorem form_grows {K : GrowT} {b : BlockL} (hf : formB b) (hk : ∀ k ∈ b.kids, GrowsOk K k) : GrowsOk (growF K) b := by
  obtain ⟨f1, f2, f3, f4, f5, f6⟩ := hf
  intro p q g hp hq hne
  unfold growF
  by_cases k1 : b.kind = 1
  · rw [if_pos k1]
    exact ⟨0, _, _, rfl, by simp, (Piece.leaf 0 p q hne (by omega) (by omega)).of fun r => ⟨False.elim, fun h => by simp only [Span] at h; omega⟩⟩
  · rw [if_neg k1]
    by_cases k2 : b.kind = 2
    · rw [if_pos k2]
      exact ⟨0, _, _, rfl, by simp, (Piece.leaf b.label p q hne (by have := f3 k2; omega) (by have := f3 k2; omega)).of fun r => ⟨False.elim, fun h => by simp only [Span] at h; omega⟩⟩
    · rw [if_neg k2]
      have hl := f5 (by omega)
      have hnn : b.kids ≠ [] := fun e => hl (by rw [e]; rfl)
      by_cases k3 : b.kind = 3
      · rw [if_pos k3]; exact seq_grows hk hnn hp hq hne
      · rw [if_neg k3]
        by_cases k4 : b.kind = 4
        · rw [if_pos k4]; exact alt_grows hk hnn hp hq hne
        · rw [if_neg k4]
          by_cases k5 : b.kind = 5
          · rw [if_pos k5]
            obtain ⟨c, L, St, e, P⟩ := both_grows (l := b.kids) (x := g.places) (g := putG ⟨g.places + 2 * b.kids.length, g.links⟩ 0 [p] (insG b.kids.length g.places)) hk (by simp [putG])
            rw [e]
            simp only [putG] at P
            have no : ∀ r, r < g.places → r ∉ insG b.kids.length g.places ∧ r ∉ outsG b.kids.length g.places := fun r hr => ⟨fun h => by have := mem_insG h; omega, fun h => by have := mem_outsG h; omega⟩
            refine ⟨2 * b.kids.length + c, _, _, ?_, ?_, (P.toCore.wrap (p := p) (q := q) (insG_ne hl) (outsG_ne hl) (by first | omega | (simp only [Span]; omega)) (by first | omega | (simp only [Span]; omega)) (no p hp).1 (no q hq).1 (no p hp).2 (no q hq).2 hne).of fun r => ?_⟩
            · simp only [putG, GrowL.mk.injEq, List.append_assoc, List.cons_append, List.nil_append, and_true]; omega
            · simp
            · simp only [Span]
              constructor
              · rintro (h | h | h)
                · omega
                · have := mem_insG h; omega
                · have := mem_outsG h; omega
              · intro h
                by_cases h2 : r < g.places + 2 * b.kids.length
                · exact .inr (all_insG h.1 h2)
                · exact .inl (by omega)
          · rw [if_neg k5]
            have h6 := f6 (by omega)
            obtain ⟨c1, L1, S1, e1, n1, P1⟩ := hk _ (kid_mem (b := b) (j := 0) (by omega)) g.places (g.places + 1) (putG ⟨g.places + 2, g.links⟩ 0 [p] [g.places]) (by simp [putG]) (by simp [putG]) (by omega)
            rw [e1]
            obtain ⟨c2, L2, S2, e2, n2, P2⟩ := hk _ (kid_mem (b := b) (j := 1) (by omega)) (g.places + 1) g.places ⟨(putG ⟨g.places + 2, g.links⟩ 0 [p] [g.places]).places + c1, (putG ⟨g.places + 2, g.links⟩ 0 [p] [g.places]).links ++ L1⟩ (by simp [putG]; omega) (by simp [putG]; omega) (by omega)
            rw [e2]
            simp only [putG] at P1 P2
            have C := Core.loop P1 P2 (fun r a b => by simp only [Span] at a b; omega) (by first | omega | (simp only [Span]; omega)) (by first | omega | (simp only [Span]; omega)) (by first | omega | (simp only [Span]; omega)) (by first | omega | (simp only [Span]; omega)) (by first | omega | (simp only [Span]; omega))
            refine ⟨2 + c1 + c2, _, _, ?_, ?_, (C.wrap (p := p) (q := q) (by simp) (by simp) (by first | omega | (simp only [Span]; omega)) (by first | omega | (simp only [Span]; omega)) (by simp; omega) (by simp; omega) (by simp; omega) (by simp; omega) hne).of fun r => ?_⟩
            · simp only [putG, GrowL.mk.injEq, List.append_assoc, List.cons_append, List.nil_append, and_true]; omega
            · simp
            · simp only [Span, List.mem_singleton]; omega

theorem grows_fit : ∀ {f : Nat} {b : BlockL}, okB f b → Fit f b → GrowsOk (growK f) b
  | 0, _, _, h => h.elim
  | f + 1, b, h, k => form_grows h.1 fun x hx => grows_fit (h.2 x hx) (k x hx)

/-- What grows of a whole block. -/
def grownB (b : BlockL) : GrowL := growK 41 b 0 1 ⟨2, []⟩
def FitG (g : GrowL) : Prop := g.places ≤ 16 ∧ g.links.length ≤ 24
theorem grown_piece {b : BlockL} (h : RightB b) : ∃ c St, (grownB b).places = 2 + c ∧ (grownB b).links ≠ [] ∧ Piece (grownB b).links (Span 2 c) [0] [1] St := by
  obtain ⟨c, L, St, e, hn, P⟩ := grows_fit h.1 h.fit 0 1 ⟨2, []⟩ (by simp) (by simp) (by omega)
  unfold grownB
  rw [e]
  exact ⟨c, St, rfl, by simpa using hn, by simpa using P⟩

end Go.Proofs.Ytgedpebnipghlaa
