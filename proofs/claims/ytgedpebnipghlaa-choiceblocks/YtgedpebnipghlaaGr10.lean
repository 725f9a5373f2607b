import Derived.Test.YtgedpebnipghlaaGr02
import Derived.Test.YtgedpebnipghlaaGr07
import Derived.Test.YtgedpebnipghlaaGr06
import Derived.Test.YtgedpebnipghlaaGr00
/- What grows of blocks is a net that always comes to its end, safe, and of free choice. -/
namespace Go.Proofs.Ytgedpebnipghlaa
set_option linter.unusedVariables false
set_option maxRecDepth 4000

def weightG (n : Nat) (l : List Nat) : List Int := mapTo n fun p => tok l p
def tranG (n : Nat) (l : LinkL) : TranL := ⟨l.label, weightG n l.src, weightG n l.dst⟩
def netG (g : GrowL) : NetL := ⟨g.places, g.links.map (tranG g.places)⟩

theorem weight_length (n : Nat) (l : List Nat) : (weightG n l).length = n := mapTo_length _ _
theorem weight_at {n : Nat} {l : List Nat} (h : ∀ r ∈ l, r < n) (r : Nat) : nth (weightG n l) r = tok l r := by
  by_cases hr : r < n
  · exact mapTo_nth _ _ _ hr
  · rw [nth_past _ _ (by rw [weight_length]; omega), tok_not fun q => hr (h r q)]

/-- All places of all links are there. -/
def InG (g : GrowL) : Prop := ∀ l ∈ g.links, (∀ r ∈ l.src, r < g.places) ∧ ∀ r ∈ l.dst, r < g.places
/-- A net that is one piece. -/
structure OneG (g : GrowL) (St : MarkF → Prop) : Prop where
  piece : ∃ I, Piece g.links I [0] [1] St ∧ (∀ r, r < g.places ↔ I r ∨ r = 0 ∨ r = 1) ∧ ¬ I 0
  fit : FitG g

section
variable {g : GrowL} {St : MarkF → Prop}

theorem OneG.ins (h : OneG g St) : InG g := by
  obtain ⟨I, P, hI, h00⟩ := h.piece
  intro l hl
  constructor
  · intro r hr
    rcases P.in1' l r hl hr with a | a
    · exact (hI r).2 (.inl a)
    · simp at a; exact (hI r).2 (.inr (.inl a))
  · intro r hr
    rcases P.in2' l r hl hr with a | a
    · exact (hI r).2 (.inl a)
    · simp at a; exact (hI r).2 (.inr (.inr a))

theorem net_tran_at {k : Nat} (hk : k < g.links.length) : tranAt (netG g).trans k = tranG g.places g.links[k] := by
  simp [netG, tranAt, List.getD, List.getElem?_map, List.getElem?_eq_getElem hk]
theorem net_count : (netG g).trans.length = g.links.length := by simp [netG]

theorem pre_at (h : InG g) {k : Nat} (hk : k < g.links.length) (r : Nat) : nth (tranAt (netG g).trans k).pre r = tok g.links[k].src r := by
  rw [net_tran_at hk]; exact weight_at (h _ (List.getElem_mem hk)).1 r
theorem post_at (h : InG g) {k : Nat} (hk : k < g.links.length) (r : Nat) : nth (tranAt (netG g).trans k).post r = tok g.links[k].dst r := by
  rw [net_tran_at hk]; exact weight_at (h _ (List.getElem_mem hk)).2 r

theorem OneG.netOk (h : OneG g St) : netOk (netG g) = true := by
  obtain ⟨I, P, hI, h00⟩ := h.piece
  have hw : ∀ l : List Nat, (weightG g.places l).all weightOk = true := by
    intro l
    rw [List.all_eq_true]
    intro z hz
    obtain ⟨j, hj, rfl⟩ := List.getElem_of_mem hz
    have e : nth (weightG g.places l) j = tok l j := mapTo_nth _ _ _ (by rw [weight_length] at hj; exact hj)
    have e2 : nth (weightG g.places l) j = (weightG g.places l)[j] := by simp [nth, List.getD, List.getElem?_eq_getElem hj]
    rw [← e2, e]
    have := tok_low l j
    simp only [weightOk, Bool.and_eq_true, decide_eq_true_eq]
    omega
  have h1 := h.fit.1
  have h2 := h.fit.2
  simp only [Proofs.Ytgedpebnipghlaa.netOk, headOk, Bool.and_eq_true, decide_eq_true_eq, List.all_eq_true]
  refine ⟨⟨⟨by simp [netG], by simp [netG]; omega⟩, by simp [netG]; omega⟩, ?_⟩
  intro t ht
  simp only [netG, List.mem_map] at ht
  obtain ⟨l, hl, rfl⟩ := ht
  have hn := P.named l hl
  have a1 := hw l.src
  have a2 := hw l.dst
  simp only [tranOk, tranHead, tranG, Bool.and_eq_true, beq_iff_eq, List.all_append, weight_length, netG]
  exact ⟨⟨⟨⟨decide_eq_true hn.1, decide_eq_true hn.2⟩, trivial⟩, trivial⟩, a1, a2⟩

theorem step_go (h : InG g) {x y : List Int} {t : Nat} (hs : StepZ (netG g) x t y) : ∃ ht : t < g.links.length, CanF g.links[t] (nth x) ∧ nth y = goF g.links[t] (nth x) := by
  obtain ⟨h1, h2, rfl⟩ := hs
  rw [net_count] at h1
  refine ⟨h1, fun r hr => ?_, ?_⟩
  · have := h2 r
    rw [pre_at h h1, tok_mem hr] at this
    exact this
  · funext r
    rw [add_at, sub_at, pre_at h h1, post_at h h1]; rfl

theorem go_step (h : InG g) {x : List Int} {t : Nat} (ht : t < g.links.length) (h0 : ∀ r, 0 ≤ nth x r) (hc : CanF g.links[t] (nth x)) : ∃ y, StepZ (netG g) x t y ∧ nth y = goF g.links[t] (nth x) := by
  refine ⟨_, ⟨by rw [net_count]; exact ht, fun p => ?_, rfl⟩, ?_⟩
  · rw [pre_at h ht]
    by_cases q : p ∈ g.links[t].src
    · rw [tok_mem q]; exact hc p q
    · rw [tok_not q]; exact h0 p
  · funext r
    rw [add_at, sub_at, pre_at h ht, post_at h ht]; rfl

theorem OneG.start_is (h : OneG g St) {i : Nat} (hi : i < g.places) : nth (startL (netG g).places i) = tok [i] := by
  have h1 := h.fit.1
  funext r
  have e : (min ((netG g).places) 16).toNat = g.places := by simp only [netG]; omega
  by_cases hr : r < g.places
  · rw [start_at _ _ _ (by rw [e]; exact hr), tok_one]
    by_cases q : r = i
    · rw [if_pos q, if_pos (by omega)]
    · rw [if_neg q, if_neg (by omega)]
  · rw [nth_past _ _ (by rw [start_length, e]; omega), tok_one, if_neg (by omega)]
theorem OneG.start_len (h : OneG g St) (i : Int) : ((startL (netG g).places i).length : Int) = (netG g).places := by
  have h1 := h.fit.1
  rw [start_length]; simp only [netG]; omega
theorem OneG.two (h : OneG g St) : 0 < g.places ∧ 1 < g.places := by
  obtain ⟨I, P, hI, h00⟩ := h.piece
  exact ⟨(hI 0).2 (.inr (.inl rfl)), (hI 1).2 (.inr (.inr rfl))⟩

/-- Whatever is come to is one of its marks. -/
theorem OneG.kept (h : OneG g St) {x y : List Int} (hx : St (nth x)) (hr : ReachZ (netG g) x y) : St (nth y) := by
  obtain ⟨I, P, hI, h00⟩ := h.piece
  refine hr (fun y => St (nth y)) hx fun a b t ha hs => ?_
  obtain ⟨ht, hc, e⟩ := step_go h.ins hs
  show St (nth b)
  rw [e]
  exact P.closed _ _ ha (List.getElem_mem ht) hc
theorem OneG.reach (h : OneG g St) {x : List Int} {f : MarkF} (hx : St (nth x)) (hr : ReachF g.links (nth x) f) : ∃ y, ReachZ (netG g) x y ∧ nth y = f := by
  obtain ⟨I, P, hI, h00⟩ := h.piece
  have := hr (fun f => St f ∧ ∃ y, ReachZ (netG g) x y ∧ nth y = f) ⟨hx, x, ReachZ.here, rfl⟩ ?_
  · exact this.2
  · rintro f l ⟨hf, y, h1, rfl⟩ hl hc
    obtain ⟨t, ht, rfl⟩ := List.getElem_of_mem hl
    obtain ⟨z, h2, h3⟩ := go_step h.ins ht (fun r => (P.low _ r hf).1) hc
    exact ⟨P.closed _ _ hf hl hc, z, h1.step h2, h3⟩
theorem OneG.begins (h : OneG g St) : St (nth (startL (netG g).places 0)) := by
  obtain ⟨I, P, hI, h00⟩ := h.piece
  have := h.start_is h.two.1
  rw [show ((0 : Nat) : Int) = 0 from rfl] at this
  rw [this]; exact P.start

/-- No place ever has more than one token. -/
theorem OneG.safe (h : OneG g St) {x : List Int} (hr : ReachZ (netG g) (startL (netG g).places 0) x) (p : Nat) : nth x p ≤ 1 := by
  obtain ⟨I, P, hI, h00⟩ := h.piece
  exact (P.low _ p (h.kept h.begins hr)).2

theorem OneG.mark_eq (h : OneG g St) {x y : List Int} (hx : (x.length : Int) = (netG g).places) (hy : (y.length : Int) = (netG g).places) (e : nth x = nth y) : x = y :=
  eq_of_at (by omega) fun p => congrFun e p

theorem OneG.ends (h : OneG g St) {x : List Int} (hr : ReachZ (netG g) (startL (netG g).places 0) x) :
    ReachZ (netG g) x (startL (netG g).places 1) ∧ ¬ ExtraM (startL (netG g).places 1) x := by
  obtain ⟨I, P, hI, h00⟩ := h.piece
  have hs := h.kept h.begins hr
  have hl := hr.length h.netOk (h.start_len 0)
  have e1 := h.start_is h.two.2
  rw [show ((1 : Nat) : Int) = 1 from rfl] at e1
  constructor
  · obtain ⟨y, h1, h2⟩ := h.reach hs (P.ends _ hs)
    have : y = startL (netG g).places 1 := h.mark_eq (h1.length h.netOk hl) (h.start_len 1) (by rw [h2, e1])
    rw [← this]; exact h1
  · rintro ⟨hc, hne⟩
    have h2 := (coversL_iff _ _).1 hc 1
    rw [e1, tok_one, if_pos rfl] at h2
    have h3 : nth x = tok [1] := P.toCore.single hs h2
    exact hne (h.mark_eq hl (h.start_len 1) (by rw [h3, e1]))

theorem OneG.can (h : OneG g St) {t : Nat} (ht : t < (netG g).trans.length) : ∃ x, ReachZ (netG g) (startL (netG g).places 0) x ∧ ∀ p, nth (tranAt (netG g).trans t).pre p ≤ nth x p := by
  obtain ⟨I, P, hI, h00⟩ := h.piece
  rw [net_count] at ht
  have e0 := h.start_is h.two.1
  rw [show ((0 : Nat) : Int) = 0 from rfl] at e0
  obtain ⟨m, h1, h2⟩ := P.alive _ (List.getElem_mem ht)
  obtain ⟨y, h3, h4⟩ := h.reach (x := startL (netG g).places 0) h.begins (by rw [e0]; exact h1)
  refine ⟨y, h3, fun p => ?_⟩
  rw [pre_at h.ins ht, h4]
  by_cases q : p ∈ g.links[t].src
  · rw [tok_mem q]; exact h2 p q
  · rw [tok_not q]
    have := (P.low _ p (h.kept h.begins h3)).1
    rw [h4] at this; exact this

theorem way_z (h : InG g) {a b : Nat} (hw : WayF g.links a b) : WayP (netG g) a b := by
  refine hw (fun x => WayP (netG g) a x) (WayP.here _ _) fun x y l hx hl h1 h2 => ?_
  obtain ⟨t, ht, rfl⟩ := List.getElem_of_mem hl
  exact hx.step (k := t) (by rw [net_count]; exact ht) (by rw [pre_at h ht, tok_mem h1]; decide) (by rw [post_at h ht, tok_mem h2]; decide)
theorem turned_at (h : InG g) {k : Nat} (hk : k < g.links.length) (r : Nat) : nth (tranAt (turnL (netG g)).trans k).pre r = tok g.links[k].dst r ∧ nth (tranAt (turnL (netG g)).trans k).post r = tok g.links[k].src r := by
  rw [turn_tran _ (by rw [net_count]; exact hk)]
  exact ⟨post_at h hk r, pre_at h hk r⟩
theorem way_back (h : InG g) {a b : Nat} (hw : WayF g.links a b) : WayP (turnL (netG g)) b a := by
  have key : ∀ z, WayP (turnL (netG g)) b z → WayF g.links a z → WayP (turnL (netG g)) b a := by
    intro z hz hw
    refine hw (fun x => WayP (turnL (netG g)) b x → WayP (turnL (netG g)) b a) (fun q => q) (fun x y l hx hl h1 h2 q => hx ?_) hz
    obtain ⟨t, ht, rfl⟩ := List.getElem_of_mem hl
    exact q.step (k := t) (by rw [turn_count, net_count]; exact ht) (by rw [(turned_at h ht _).1, tok_mem h2]; decide) (by rw [(turned_at h ht _).2, tok_mem h1]; decide)
  exact key b (WayP.here _ _) hw

/-- It has a beginning and an end. -/
theorem OneG.shape (h : OneG g St) : ShapeOk (netG g) 0 1 := by
  obtain ⟨I, P, hI, h00⟩ := h.piece
  have hp1 : ∀ p, p < g.places → WayF g.links 0 p := by
    intro p hp
    rcases (hI p).1 hp with a | a | a
    · obtain ⟨s, hs, hw⟩ := P.way1 p (.inl a); simp at hs; subst hs; exact hw
    · subst a; exact WayF.here _ _
    · obtain ⟨s, hs, hw⟩ := P.way1 p (.inr (by simp [a])); simp at hs; subst hs; exact hw
  have hp2 : ∀ p, p < g.places → WayF g.links p 1 := by
    intro p hp
    rcases (hI p).1 hp with a | a | a
    · obtain ⟨s, hs, hw⟩ := P.way2 p (.inl a); simp at hs; subst hs; exact hw
    · obtain ⟨s, hs, hw⟩ := P.way2 p (.inr (by simp [a])); simp at hs; subst hs; exact hw
    · subst a; exact WayF.here _ _
  have htwo := h.two
  refine ⟨h.netOk, by decide, by decide, by simp only [netG]; omega, by decide, by simp only [netG]; omega, ?_, ?_, ?_, ?_, ?_, ?_⟩
  · intro p hp
    simp only [netG] at hp
    exact way_z h.ins (hp1 p (by omega))
  · intro p hp
    simp only [netG] at hp
    exact way_back h.ins (hp2 p (by omega))
  · intro k hk
    rw [net_count] at hk
    obtain ⟨r, hr⟩ := mem_ne_nil (P.some1 _ (List.getElem_mem hk))
    exact ⟨r, way_z h.ins (hp1 r ((h.ins _ (List.getElem_mem hk)).1 r hr)), by rw [pre_at h.ins hk, tok_mem hr]; decide⟩
  · intro k hk
    rw [net_count] at hk
    obtain ⟨r, hr⟩ := mem_ne_nil (P.some2 _ (List.getElem_mem hk))
    exact ⟨r, way_back h.ins (hp2 r ((h.ins _ (List.getElem_mem hk)).2 r hr)), by rw [(turned_at h.ins hk _).1, tok_mem hr]; decide⟩
  · intro k hk
    rw [net_count] at hk
    show nth _ 0 = 0
    rw [post_at h.ins hk, tok_not]
    intro hr
    rcases P.in2' _ _ (List.getElem_mem hk) hr with a | a
    · exact h00 a
    · simp at a
  · intro k hk
    rw [net_count] at hk
    show nth _ 1 = 0
    rw [pre_at h.ins hk, tok_not]
    intro hr
    rcases P.in1' _ _ (List.getElem_mem hk) hr with a | a
    · exact (P.apart 1 (by simp)).1 a
    · simp at a

/-- It is sound. -/
theorem OneG.sound (h : OneG g St) {most : Int} {s : SpaceL} (hg : graphL (netG g) (startL (netG g).places 0) most = (s, 0)) : SaysV (netG g) (startL (netG g).places 1) s ⟨1, [], 0⟩ := by
  have W := graphL_whole hg
  have hr : ∀ j, j < s.marks.length → ReachZ (netG g) (startL (netG g).places 0) (markAt s.marks j) := by
    obtain ⟨_, _, _, _, F⟩ := graphL_ok hg
    exact F.reachZ
  refine says_sound (fun j hj => (h.ends (hr j hj)).2) (fun j hj => (h.ends (hr j hj)).1) (up_none fun t ht => ?_)
  obtain ⟨h0, h1, h2⟩ := mem_dead.1 ht
  obtain ⟨k, rfl⟩ := Int.eq_ofNat_of_zero_le h0
  have hk : k < (netG g).trans.length := by omega
  obtain ⟨x, h3, h4⟩ := h.can hk
  obtain ⟨f, hf, rfl⟩ := W.has h3
  obtain ⟨a, ha, e, _⟩ := W.has_arc hf hk h4
  exact h2 a ha e

theorem OneG.free (h : OneG g St) {i j : Nat} (hi : i < g.links.length) (hj : j < g.links.length) {p : Nat} (h1 : 0 < nth (tranAt (netG g).trans i).pre p) (h2 : 0 < nth (tranAt (netG g).trans j).pre p) : (tranAt (netG g).trans i).pre = (tranAt (netG g).trans j).pre := by
  obtain ⟨I, P, hI, h00⟩ := h.piece
  rw [pre_at h.ins hi] at h1
  rw [pre_at h.ins hj] at h2
  rw [net_tran_at hi, net_tran_at hj]
  simp only [tranG]
  rw [P.same _ _ p (List.getElem_mem hi) (List.getElem_mem hj) (tok_pos (by omega)) (tok_pos (by omega))]

end

theorem grown_one {b : BlockL} (h : RightB b) (hf : FitG (grownB b)) : ∃ St, OneG (grownB b) St := by
  obtain ⟨c, St, e, hn, P⟩ := grown_piece h
  refine ⟨St, ⟨_, P, fun r => ?_, ?_⟩, hf⟩
  · rw [e]; simp only [Span]; omega
  · simp only [Span]; omega

end Go.Proofs.Ytgedpebnipghlaa

/- The answers of the document itself for shape: the mark at the beginning. -/
namespace Go.Proofs.Ytgedpebnipghlaa
open Go.RowKit
set_option linter.unusedVariables false
set_option maxRecDepth 4000

theorem start_succ (i : Int) (k : Nat) : mapTo (k + 1) (fun p => if (p : Int) = i then 1 else 0) = mapTo k (fun p => if (p : Int) = i then 1 else 0) ++ [if (k : Int) = i then 1 else 0] := mapTo_succ k _

end Go.Proofs.Ytgedpebnipghlaa
