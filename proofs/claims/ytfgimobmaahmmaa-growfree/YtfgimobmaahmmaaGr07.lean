import Derived.Test.YtfgimobmaahmmaaGr00
import Derived.Test.YtfgimobmaahmmaaGr06
import Derived.Test.YtfgimobmaahmmaaGr05
import Derived.Test.YtfgimobmaahmmaaGr03
import Derived.Test.YtfgimobmaahmmaaGr01
/- What grows of blocks is a net that always comes to its end, safe, and of free choice. -/
namespace Go.Proofs.Ytfgimobmaahmmaa
set_option linter.unusedVariables false
set_option maxRecDepth 4000

def weightG (n : Nat) (l : List Nat) : List Int := mapTo n fun p => tok l p
def tranG (n : Nat) (l : LinkL) : TranL := ⟨l.label, weightG n l.src, weightG n l.dst⟩
def netG (g : GrowL) : NetL := ⟨g.places, g.links.map (tranG g.places)⟩

theorem weight_length (n : Nat) (l : List Nat) : (weightG n l).length = n := mapTo_length _ _
theorem weight_at {n : Nat} {l : List Nat} (h : ∀ r ∈ l, r < n) (r : Nat) : nth (weightG n l) r = tok l r := by
  by_cases hr : r < n
  · exact mapTo_nth _ _ _ hr
  · rw [nth_past _ _ (by rw [weight_length]; omega), tok_not fun q => hr (h r q)]

/-- All places of all links are there. -/
def InG (g : GrowL) : Prop := ∀ l ∈ g.links, (∀ r ∈ l.src, r < g.places) ∧ ∀ r ∈ l.dst, r < g.places
/-- A net that is one piece. -/
structure OneG (g : GrowL) (St : MarkF → Prop) : Prop where
  piece : ∃ I, Piece g.links I [0] [1] St ∧ (∀ r, r < g.places ↔ I r ∨ r = 0 ∨ r = 1) ∧ ¬ I 0
  fit : FitG g

section
variable {g : GrowL} {St : MarkF → Prop}

theorem OneG.ins (h : OneG g St) : InG g := by
  obtain ⟨I, P, hI, h00⟩ := h.piece
  intro l hl
  constructor
  · intro r hr
    rcases P.in1' l r hl hr with a | a
    · exact (hI r).2 (.inl a)
    · simp at a; exact (hI r).2 (.inr (.inl a))
  · intro r hr
    rcases P.in2' l r hl hr with a | a
    · exact (hI r).2 (.inl a)
    · simp at a; exact (hI r).2 (.inr (.inr a))

theorem net_tran_at {k : Nat} (hk : k < g.links.length) : tranAt (netG g).trans k = tranG g.places g.links[k] := by
  simp [netG, tranAt, List.getD, List.getElem?_map, List.getElem?_eq_getElem hk]
theorem net_count : (netG g).trans.length = g.links.length := by simp [netG]

theorem pre_at (h : InG g) {k : Nat} (hk : k < g.links.length) (r : Nat) : nth (tranAt (netG g).trans k).pre r = tok g.links[k].src r := by
  rw [net_tran_at hk]; exact weight_at (h _ (List.getElem_mem hk)).1 r
theorem post_at (h : InG g) {k : Nat} (hk : k < g.links.length) (r : Nat) : nth (tranAt (netG g).trans k).post r = tok g.links[k].dst r := by
  rw [net_tran_at hk]; exact weight_at (h _ (List.getElem_mem hk)).2 r

theorem OneG.netOk (h : OneG g St) : netOk (netG g) = true := by
  obtain ⟨I, P, hI, h00⟩ := h.piece
  have hw : ∀ l : List Nat, (weightG g.places l).all weightOk = true := by
    intro l
    rw [List.all_eq_true]
    intro z hz
    obtain ⟨j, hj, rfl⟩ := List.getElem_of_mem hz
    have e : nth (weightG g.places l) j = tok l j := mapTo_nth _ _ _ (by rw [weight_length] at hj; exact hj)
    have e2 : nth (weightG g.places l) j = (weightG g.places l)[j] := by simp [nth, List.getD, List.getElem?_eq_getElem hj]
    rw [← e2, e]
    have := tok_low l j
    simp only [weightOk, Bool.and_eq_true, decide_eq_true_eq]
    omega
  have h1 := h.fit.1
  have h2 := h.fit.2
  simp only [Proofs.Ytfgimobmaahmmaa.netOk, headOk, Bool.and_eq_true, decide_eq_true_eq, List.all_eq_true]
  refine ⟨⟨⟨by simp [netG], by simp [netG]; omega⟩, by simp [netG]; omega⟩, ?_⟩
  intro t ht
  simp only [netG, List.mem_map] at ht
  obtain ⟨l, hl, rfl⟩ := ht
  have hn := P.named l hl
  have a1 := hw l.src
  have a2 := hw l.dst
  simp only [tranOk, tranHead, tranG, Bool.and_eq_true, beq_iff_eq, List.all_append, weight_length, netG]
  exact ⟨⟨⟨⟨decide_eq_true hn.1, decide_eq_true hn.2⟩, trivial⟩, trivial⟩, a1, a2⟩

theorem step_go (h : InG g) {x y : List Int} {t : Nat} (hs : StepZ (netG g) x t y) : ∃ ht : t < g.links.length, CanF g.links[t] (nth x) ∧ nth y = goF g.links[t] (nth x) := by
  obtain ⟨h1, h2, rfl⟩ := hs
  rw [net_count] at h1
  refine ⟨h1, fun r hr => ?_, ?_⟩
  · have := h2 r
    rw [pre_at h h1, tok_mem hr] at this
    exact this
  · funext r
    rw [add_at, sub_at, pre_at h h1, post_at h h1]; rfl

theorem go_step (h : InG g) {x : List Int} {t : Nat} (ht : t < g.links.length) (h0 : ∀ r, 0 ≤ nth x r) (hc : CanF g.links[t] (nth x)) : ∃ y, StepZ (netG g) x t y ∧ nth y = goF g.links[t] (nth x) := by
  refine ⟨_, ⟨by rw [net_count]; exact ht, fun p => ?_, rfl⟩, ?_⟩
  · rw [pre_at h ht]
    by_cases q : p ∈ g.links[t].src
    · rw [tok_mem q]; exact hc p q
    · rw [tok_not q]; exact h0 p
  · funext r
    rw [add_at, sub_at, pre_at h ht, post_at h ht]; rfl

theorem OneG.start_is (h : OneG g St) {i : Nat} (hi : i < g.places) : nth (startL (netG g).places i) = tok [i] := by
  have h1 := h.fit.1
  funext r
  have e : (min ((netG g).places) 16).toNat = g.places := by simp only [netG]; omega
  by_cases hr : r < g.places
  · rw [start_at _ _ _ (by rw [e]; exact hr), tok_one]
    by_cases q : r = i
    · rw [if_pos q, if_pos (by omega)]
    · rw [if_neg q, if_neg (by omega)]
  · rw [nth_past _ _ (by rw [start_length, e]; omega), tok_one, if_neg (by omega)]
theorem OneG.start_len (h : OneG g St) (i : Int) : ((startL (netG g).places i).length : Int) = (netG g).places := by
  have h1 := h.fit.1
  rw [start_length]; simp only [netG]; omega
theorem OneG.two (h : OneG g St) : 0 < g.places ∧ 1 < g.places := by
  obtain ⟨I, P, hI, h00⟩ := h.piece
  exact ⟨(hI 0).2 (.inr (.inl rfl)), (hI 1).2 (.inr (.inr rfl))⟩

/-- Whatever is come to is one of its marks. -/
theorem OneG.kept (h : OneG g St) {x y : List Int} (hx : St (nth x)) (hr : ReachZ (netG g) x y) : St (nth y) := by
  obtain ⟨I, P, hI, h00⟩ := h.piece
  refine hr (fun y => St (nth y)) hx fun a b t ha hs => ?_
  obtain ⟨ht, hc, e⟩ := step_go h.ins hs
  show St (nth b)
  rw [e]
  exact P.closed _ _ ha (List.getElem_mem ht) hc
theorem OneG.reach (h : OneG g St) {x : List Int} {f : MarkF} (hx : St (nth x)) (hr : ReachF g.links (nth x) f) : ∃ y, ReachZ (netG g) x y ∧ nth y = f := by
  obtain ⟨I, P, hI, h00⟩ := h.piece
  have := hr (fun f => St f ∧ ∃ y, ReachZ (netG g) x y ∧ nth y = f) ⟨hx, x, ReachZ.here, rfl⟩ ?_
  · exact this.2
  · rintro f l ⟨hf, y, h1, rfl⟩ hl hc
    obtain ⟨t, ht, rfl⟩ := List.getElem_of_mem hl
    obtain ⟨z, h2, h3⟩ := go_step h.ins ht (fun r => (P.low _ r hf).1) hc
    exact ⟨P.closed _ _ hf hl hc, z, h1.step h2, h3⟩
theorem OneG.begins (h : OneG g St) : St (nth (startL (netG g).places 0)) := by
  obtain ⟨I, P, hI, h00⟩ := h.piece
  have := h.start_is h.two.1
  rw [show ((0 : Nat) : Int) = 0 from rfl] at this
  rw [this]; exact P.start

/-- No place ever has more than one token. -/
theorem OneG.safe (h : OneG g St) {x : List Int} (hr : ReachZ (netG g) (startL (netG g).places 0) x) (p : Nat) : nth x p ≤ 1 := by
  obtain ⟨I, P, hI, h00⟩ := h.piece
  exact (P.low _ p (h.kept h.begins hr)).2

theorem OneG.mark_eq (h : OneG g St) {x y : List Int} (hx : (x.length : Int) = (netG g).places) (hy : (y.length : Int) = (netG g).places) (e : nth x = nth y) : x = y :=
  eq_of_at (by omega) fun p => congrFun e p

theorem OneG.ends (h : OneG g St) {x : List Int} (hr : ReachZ (netG g) (startL (netG g).places 0) x) :
    ReachZ (netG g) x (startL (netG g).places 1) ∧ ¬ ExtraM (startL (netG g).places 1) x := by
  obtain ⟨I, P, hI, h00⟩ := h.piece
  have hs := h.kept h.begins hr
  have hl := hr.length h.netOk (h.start_len 0)
  have e1 := h.start_is h.two.2
  rw [show ((1 : Nat) : Int) = 1 from rfl] at e1
  constructor
  · obtain ⟨y, h1, h2⟩ := h.reach hs (P.ends _ hs)
    have : y = startL (netG g).places 1 := h.mark_eq (h1.length h.netOk hl) (h.start_len 1) (by rw [h2, e1])
    rw [← this]; exact h1
  · rintro ⟨hc, hne⟩
    have h2 := (coversL_iff _ _).1 hc 1
    rw [e1, tok_one, if_pos rfl] at h2
    have h3 : nth x = tok [1] := P.toCore.single hs h2
    exact hne (h.mark_eq hl (h.start_len 1) (by rw [h3, e1]))

theorem OneG.can (h : OneG g St) {t : Nat} (ht : t < (netG g).trans.length) : ∃ x, ReachZ (netG g) (startL (netG g).places 0) x ∧ ∀ p, nth (tranAt (netG g).trans t).pre p ≤ nth x p := by
  obtain ⟨I, P, hI, h00⟩ := h.piece
  rw [net_count] at ht
  have e0 := h.start_is h.two.1
  rw [show ((0 : Nat) : Int) = 0 from rfl] at e0
  obtain ⟨m, h1, h2⟩ := P.alive _ (List.getElem_mem ht)
  obtain ⟨y, h3, h4⟩ := h.reach (x := startL (netG g).places 0) h.begins (by rw [e0]; exact h1)
  refine ⟨y, h3, fun p => ?_⟩
  rw [pre_at h.ins ht, h4]
  by_cases q : p ∈ g.links[t].src
  · rw [tok_mem q]; exact h2 p q
  · rw [tok_not q]
    have := (P.low _ p (h.kept h.begins h3)).1
    rw [h4] at this; exact this

theorem way_z (h : InG g) {a b : Nat} (hw : WayF g.links a b) : WayP (netG g) a b := by
  refine hw (fun x => WayP (netG g) a x) (WayP.here _ _) fun x y l hx hl h1 h2 => ?_
  obtain ⟨t, ht, rfl⟩ := List.getElem_of_mem hl
  exact hx.step (k := t) (by rw [net_count]; exact ht) (by rw [pre_at h ht, tok_mem h1]; decide) (by rw [post_at h ht, tok_mem h2]; decide)
theorem turned_at (h : InG g) {k : Nat} (hk : k < g.links.length) (r : Nat) : nth (tranAt (turnL (netG g)).trans k).pre r = tok g.links[k].dst r ∧ nth (tranAt (turnL (netG g)).trans k).post r = tok g.links[k].src r := by
  rw [turn_tran _ (by rw [net_count]; exact hk)]
  exact ⟨post_at h hk r, pre_at h hk r⟩
theorem way_back (h : InG g) {a b : Nat} (hw : WayF g.links a b) : WayP (turnL (netG g)) b a := by
  have key : ∀ z, WayP (turnL (netG g)) b z → WayF g.links a z → WayP (turnL (netG g)) b a := by
    intro z hz hw
    refine hw (fun x => WayP (turnL (netG g)) b x → WayP (turnL (netG g)) b a) (fun q => q) (fun x y l hx hl h1 h2 q => hx ?_) hz
    obtain ⟨t, ht, rfl⟩ := List.getElem_of_mem hl
    exact q.step (k := t) (by rw [turn_count, net_count]; exact ht) (by rw [(turned_at h ht _).1, tok_mem h2]; decide) (by rw [(turned_at h ht _).2, tok_mem h1]; decide)
  exact key b (WayP.here _ _) hw

/-- It has a beginning and an end. -/
theorem OneG.shape (h : OneG g St) : ShapeOk (netG g) 0 1 := by
  obtain ⟨I, P, hI, h00⟩ := h.piece
  have hp1 : ∀ p, p < g.places → WayF g.links 0 p := by
    intro p hp
    rcases (hI p).1 hp with a | a | a
    · obtain ⟨s, hs, hw⟩ := P.way1 p (.inl a); simp at hs; subst hs; exact hw
    · subst a; exact WayF.here _ _
    · obtain ⟨s, hs, hw⟩ := P.way1 p (.inr (by simp [a])); simp at hs; subst hs; exact hw
  have hp2 : ∀ p, p < g.places → WayF g.links p 1 := by
    intro p hp
    rcases (hI p).1 hp with a | a | a
    · obtain ⟨s, hs, hw⟩ := P.way2 p (.inl a); simp at hs; subst hs; exact hw
    · obtain ⟨s, hs, hw⟩ := P.way2 p (.inr (by simp [a])); simp at hs; subst hs; exact hw
    · subst a; exact WayF.here _ _
  have htwo := h.two
  refine ⟨h.netOk, by decide, by decide, by simp only [netG]; omega, by decide, by simp only [netG]; omega, ?_, ?_, ?_, ?_, ?_, ?_⟩
  · intro p hp
    simp only [netG] at hp
    exact way_z h.ins (hp1 p (by omega))
  · intro p hp
    simp only [netG] at hp
    exact way_back h.ins (hp2 p (by omega))
  · intro k hk
    rw [net_count] at hk
    obtain ⟨r, hr⟩ := mem_ne_nil (P.some1 _ (List.getElem_mem hk))
    exact ⟨r, way_z h.ins (hp1 r ((h.ins _ (List.getElem_mem hk)).1 r hr)), by rw [pre_at h.ins hk, tok_mem hr]; decide⟩
  · intro k hk
    rw [net_count] at hk
    obtain ⟨r, hr⟩ := mem_ne_nil (P.some2 _ (List.getElem_mem hk))
    exact ⟨r, way_back h.ins (hp2 r ((h.ins _ (List.getElem_mem hk)).2 r hr)), by rw [(turned_at h.ins hk _).1, tok_mem hr]; decide⟩
  · intro k hk
    rw [net_count] at hk
    show nth _ 0 = 0
    rw [post_at h.ins hk, tok_not]
    intro hr
    rcases P.in2' _ _ (List.getElem_mem hk) hr with a | a
    · exact h00 a
    · simp at a
  · intro k hk
    rw [net_count] at hk
    show nth _ 1 = 0
    rw [pre_at h.ins hk, tok_not]
    intro hr
    rcases P.in1' _ _ (List.getElem_mem hk) hr with a | a
    · exact (P.apart 1 (by simp)).1 a
    · simp at a

/-- It is sound. -/
theorem OneG.sound (h : OneG g St) {most : Int} {s : SpaceL} (hg : graphL (netG g) (startL (netG g).places 0) most = (s, 0)) : SaysV (netG g) (startL (netG g).places 1) s ⟨1, [], 0⟩ := by
  have W := graphL_whole hg
  have hr : ∀ j, j < s.marks.length → ReachZ (netG g) (startL (netG g).places 0) (markAt s.marks j) := by
    obtain ⟨_, _, _, _, F⟩ := graphL_ok hg
    exact F.reachZ
  refine says_sound (fun j hj => (h.ends (hr j hj)).2) (fun j hj => (h.ends (hr j hj)).1) (up_none fun t ht => ?_)
  obtain ⟨h0, h1, h2⟩ := mem_dead.1 ht
  obtain ⟨k, rfl⟩ := Int.eq_ofNat_of_zero_le h0
  have hk : k < (netG g).trans.length := by omega
  obtain ⟨x, h3, h4⟩ := h.can hk
  obtain ⟨f, hf, rfl⟩ := W.has h3
  obtain ⟨a, ha, e, _⟩ := W.has_arc hf hk h4
  exact h2 a ha e

theorem OneG.free (h : OneG g St) {i j : Nat} (hi : i < g.links.length) (hj : j < g.links.length) {p : Nat} (h1 : 0 < nth (tranAt (netG g).trans i).pre p) (h2 : 0 < nth (tranAt (netG g).trans j).pre p) : (tranAt (netG g).trans i).pre = (tranAt (netG g).trans j).pre := by
  obtain ⟨I, P, hI, h00⟩ := h.piece
  rw [pre_at h.ins hi] at h1
  rw [pre_at h.ins hj] at h2
  rw [net_tran_at hi, net_tran_at hj]
  simp only [tranG]
  rw [P.same _ _ p (List.getElem_mem hi) (List.getElem_mem hj) (tok_pos (by omega)) (tok_pos (by omega))]

end

theorem grown_one {b : BlockL} (h : RightB b) (hf : FitG (grownB b)) : ∃ St, OneG (grownB b) St := by
  obtain ⟨c, St, e, hn, P⟩ := grown_piece h
  refine ⟨St, ⟨_, P, fun r => ?_, ?_⟩, hf⟩
  · rw [e]; simp only [Span]; omega
  · simp only [Span]; omega

end Go.Proofs.Ytfgimobmaahmmaa

/- Package net, as it landed: what is wrong, and which marks fit. -/
namespace Go.Proofs.Ytfgimobmaahmmaa
open Go.RowKit
set_option linter.unusedVariables false
set_option maxRecDepth 4000

set_option maxHeartbeats 400000 in
theorem upTo_any (x y : Int) (w : World) :
    Calls Try.prog 54 #[.int .i64 x, .int .i64 y] w fun e w' => e = .returned (.bool (decide (0 ≤ x) && decide (x ≤ y))) ∧ w' = w := by
  by_cases h1 : 0 ≤ x <;> by_cases h2 : x ≤ y <;>
  · go_enter Try.func54, Try.ntmps54
    go_wp2
    go_ret
    exact ⟨by simp [h1, h2], rfl⟩

/-- What a transition may take or put. -/
def weighs (n : NetL) (xs : List Int) : Bool := ((xs.length : Int) == n.places) && xs.all weightOk

set_option maxHeartbeats 400000 in
theorem weights_any (v u : Value) (n : NetL) (xs : List Int) (w : World) (hv : Net w v n) (hu : Ints w u xs) :
    Calls Try.prog 55 #[v, u] w fun e w' => e = .returned (.bool (weighs n xs)) ∧ Below w.heap.size w w' := by
  obtain ⟨tv, rfl, hT⟩ := hv
  have b1 := below_new w (.cells #[.int .i64 n.places, tv] 27)
  have hu1 := hu.below b1
  have hbx := box2_new w (.int .i64 n.places) tv 27
  clear hT hu
  obtain ⟨a, len, cap, rfl, hlen, hmx, hsh, hr⟩ := hu1
  obtain ⟨x0, x1, x2⟩ := hbx
  cases hl : ((len : Int) == n.places)
  · have hl' : ((len : Int) != n.places) = true := by simpa using hl
    have F : Hid (weighs n xs = false) := by show _ = _; unfold weighs; rw [hlen, hl]; rfl
    clear hl
    go_enter Try.func55, Try.ntmps55
    go_wp2
    go_ret
    exact ⟨ret_bool F.out.symm, b1⟩
  · have hl' : ((len : Int) != n.places) = false := by simpa using hl
    have F : Hid (weighs n xs = xs.all weightOk) := by show _ = _; unfold weighs; rw [hlen, hl]; rfl
    clear hl
    go_enter Try.func55, Try.ntmps55
    go_wp2_with fail
    clear x0 x1 x2
    go_loop [14] (fun i => ∃ j : Nat, j ≤ len ∧ i = .int .i64 j ∧ Hid (weighTo xs j = true)) (fun i => len - (intOf i).toNat)
    case atStart => exact ⟨0, Nat.zero_le _, rfl, rfl⟩
    case round =>
      obtain ⟨j, hj, rfl, hw⟩ := hrel
      by_cases hjn : j < len
      · obtain ⟨b, off, rfl, hb, hc⟩ := hr j (by omega)
        have Hst : Hid _ := weighTo_succ xs j (by omega)
        have Hno : Hid (weightOk (nth xs j) = false → weighs n xs = false) := by
          intro h
          rw [F.out, List.all_eq_false]
          refine ⟨xs[j]'(by omega), List.getElem_mem _, ?_⟩
          have e : nth xs j = xs[j]'(by omega) := by simp [nth, List.getD, List.getElem?_eq_getElem (show j < xs.length by omega)]
          rw [← e, h]; simp
        clear hr
        go_wp2_with fail
        refine (upTo_any _ _ _).mono ?_
        rintro e w2 ⟨rfl, rfl⟩
        have Hwo : Hid ((decide (0 ≤ nth xs j) && decide (nth xs j ≤ 9)) = weightOk (nth xs j)) := rfl
        rw [Hwo.out]
        cases hk : weightOk (nth xs j)
        · have F2 : Hid _ := Hno.out hk
          clear Hno hk Hst
          go_wp2
          go_ret
          exact ⟨ret_bool F2.out.symm, b1⟩
        · have F2 : Hid (weighTo xs (j + 1) = true) := by show _ = _; rw [Hst.out, hw.out, hk]; rfl
          clear Hno hk Hst
          go_wp2
          go_round
          case rel => exact ⟨j + 1, by omega, by go_num, F2⟩
          case measure => simp [intOf]; omega
      · have F2 : Hid (weighs n xs = true) := by show _ = _; rw [F.out, ← weighTo_all xs j (by omega)]; exact hw.out
        go_wp2
        go_ret
        exact ⟨ret_bool F2.out.symm, b1⟩

theorem tranOk_weighs (n : NetL) (t : TranL) : tranOk n.places t = ((decide (0 ≤ t.label) && decide (t.label ≤ 26)) && weighs n t.pre && weighs n t.post) := by
  unfold tranOk tranHead weighs
  rw [List.all_append]
  cases decide (0 ≤ t.label) <;> cases decide (t.label ≤ 26) <;> cases ((t.pre.length : Int) == n.places) <;> cases ((t.post.length : Int) == n.places) <;> cases t.pre.all weightOk <;> cases t.post.all weightOk <;> rfl

theorem netOk_false_at {n : NetL} {k : Nat} (hk : k < n.trans.length) (h : tranOk n.places (tranAt n.trans k) = false) : netOk n = false := by
  unfold netOk
  rw [Bool.and_eq_false_iff]
  right
  rw [List.all_eq_false]
  refine ⟨n.trans[k], List.getElem_mem _, ?_⟩
  have e : tranAt n.trans k = n.trans[k] := by simp [tranAt, List.getD, List.getElem?_eq_getElem hk]
  rw [← e, h]; simp

set_option maxHeartbeats 1000000 in
theorem wrong_any (v : Value) (n : NetL) (w : World) (hv : Net w v n) :
    Calls Try.prog 32 #[v] w fun e w' => e = .returned (.int .i64 (wrongL n)) ∧ Below w.heap.size w w' := by
  obtain ⟨tv, rfl, hT⟩ := hv
  have b1 := below_new w (.cells #[.int .i64 n.places, tv] 27)
  have hbx := box2_new w (.int .i64 n.places) tv 27
  replace hT := hT.below b1
  obtain ⟨w0, Hw0⟩ : ∃ w0, Hid (w.alloc (.cells #[.int .i64 n.places, tv] 27) = w0) := ⟨_, rfl⟩
  rw [Hw0.out] at b1 hbx hT
  obtain ⟨a, len, cap, rfl, hlen, hmx, hsh, hr⟩ := id hT
  clear hr
  obtain ⟨x0, x1, x2⟩ := id hbx
  go_enter Try.func32, Try.ntmps32
  go_upto_region 1 with fail
  rw [Hw0.out]
  clear Hw0
  go_wp2_with fail
  refine (upTo_any _ _ _).mono ?_
  rintro e w2 ⟨rfl, rfl⟩
  cases hA : (decide (0 ≤ n.places) && decide (n.places ≤ 16))
  · have F : Hid (wrongL n = 2) := by show _ = _; simp only [wrongL, netOk, headOk, hA]; rfl
    clear hA
    go_wp2
    go_ret
    exact ⟨ret_int F.out.symm, b1⟩
  by_cases hB : len ≤ 24
  case neg =>
    have F : Hid (wrongL n = 2) := by show _ = _; simp only [wrongL, netOk, headOk, hA, hlen, decide_eq_false hB]; rfl
    clear hA
    go_wp2
    go_ret
    exact ⟨ret_int F.out.symm, b1⟩
  have F0 : Hid (okTo n 0 = true) := by show _ = _; simp only [okTo, headOk, hA, hlen, decide_eq_true hB]; rfl
  clear hA
  go_wp2_with fail
  go_loopg [18] len (fun g i wr => ∃ k : Nat, k + g = len ∧ i = .int .i64 k ∧ Hid (okTo n k = true) ∧ Below w2.heap.size w2 wr)
  case atStart => exact ⟨0, by omega, rfl, F0, Below.refl _ _⟩
  case round =>
    clear x0 x1 x2 F0
    obtain ⟨k, hkg, rfl, hok, hb⟩ := hrel
    have c := below_then b1 hb
    by_cases hkn : k < len
    · obtain ⟨b, off, c1, c2, rfl, hblt, h0, h1, h2, i1, i2⟩ := (hT.below hb).at hkn
      obtain ⟨x0, x1, x2⟩ := hbx.below hb
      have hv2 : Net wr (.agg #[.int .i64 n.places, .slice (some ⟨b, off, none⟩) len cap]) n := ⟨_, rfl, hT.below hb⟩
      obtain ⟨a1, l1, p1, rfl, _, _, _, _⟩ := id i1
      obtain ⟨a2, l2, p2, rfl, _, _, _, _⟩ := id i2
      have Hok : Hid _ := okTo_succ n k (by omega)
      have Hno : Hid (tranOk n.places (tranAt n.trans k) = false → wrongL n = 2) := fun h => wrongL_not (netOk_false_at (by omega) h)
      have Hto : Hid _ := tranOk_weighs n (tranAt n.trans k)
      have b2 := below_new wr (.cells #[.int .i64 (tranAt n.trans k).label, .slice a1 l1 p1, .slice a2 l2 p2] 48)
      generalize tranAt n.trans k = t at *
      replace hv2 := hv2.below b2
      replace i1 := i1.below b2
      replace i2 := i2.below b2
      go_wp2_with fail
      refine (upTo_any _ _ _).mono ?_
      rintro e w3 ⟨rfl, rfl⟩
      cases hA : (decide (0 ≤ t.label) && decide (t.label ≤ 26))
      · have F : Hid (wrongL n = 2) := Hno.out (by rw [Hto.out, hA]; rfl)
        clear Hno Hto Hok hA
        go_wp2
        go_ret
        exact ⟨ret_int F.out.symm, below_then c b2⟩
      go_wp2_with fail
      refine (weights_any _ _ n t.pre _ (by exact hv2) (by exact i1)).mono ?_
      rintro e w3 ⟨rfl, b3⟩
      cases hB : weighs n t.pre
      · have F : Hid (wrongL n = 2) := Hno.out (by rw [Hto.out, hA, hB]; rfl)
        clear Hno Hto Hok hA
        go_wp2
        go_ret
        exact ⟨ret_int F.out.symm, below_then c (below_then b2 b3)⟩
      have y0 : wr.heap.size < (wr.alloc (.cells #[.int .i64 t.label, .slice a1 l1 p1, .slice a2 l2 p2] 48)).heap.size := by simp
      have y2 : w3.cell? ⟨wr.heap.size, 2, none⟩ = some (.slice a2 l2 p2) := by rw [b3.cell (p := ⟨wr.heap.size, 2, none⟩) y0, World.cell?_alloc_at _ _ _ _ rfl]; rfl
      obtain ⟨z0, z1, z2⟩ := (hbx.below hb).below (below_then b2 b3)
      replace hv2 := hv2.below b3
      replace i2 := i2.below b3
      have b4 := below_then b2 b3
      clear b2 b3 x0 x1 x2 h0 h1 h2 i1 y0
      go_wp2_with fail
      refine (weights_any _ _ n t.post _ (by exact hv2) (by exact i2)).mono ?_
      rintro e w4 ⟨rfl, b3⟩
      replace b4 := below_then b4 b3
      clear y2 z0 z1 z2 hv2 i2 b3
      cases hC : weighs n t.post
      · have F : Hid (wrongL n = 2) := Hno.out (by rw [Hto.out, hA, hB, hC]; rfl)
        clear Hno Hto Hok hA
        go_wp2
        go_ret
        exact ⟨ret_int F.out.symm, below_then c b4⟩
      · have F : Hid (okTo n (k + 1) = true) := by show _ = _; rw [Hok.out, Hto.out, hok.out, hA, hB, hC]; rfl
        have R := below_then hb b4
        clear Hno Hto Hok hA b4
        go_wp2
        go_roundg (gk - 1)
        case measure => omega
        case rel => exact ⟨k + 1, by omega, by go_num, F, R⟩
    · have F : Hid (wrongL n = 0) := by show _ = _; rw [okTo_all n k (by omega)] at hok; exact wrongL_ok hok.out
      go_wp2
      go_ret
      exact ⟨ret_int F.out.symm, c⟩

set_option maxHeartbeats 400000 in
theorem marks_any (v u : Value) (n : NetL) (m : List Int) (w : World) (hv : Net w v n) (hu : Ints w u m) :
    Calls Try.prog 35 #[v, u] w fun e w' => e = .returned (.bool (fitsL n m)) ∧ Below w.heap.size w w' := by
  obtain ⟨tv, rfl, hT⟩ := hv
  have b1 := below_new w (.cells #[.int .i64 n.places, tv] 27)
  have hbx := box2_new w (.int .i64 n.places) tv 27
  have hu1 := hu.below b1
  have hv1 : Net _ _ n := ⟨tv, rfl, hT.below b1⟩
  go_enter Try.func35, Try.ntmps35
  go_wp2_with fail
  refine (wrong_any _ n _ (by exact hv1)).mono ?_
  rintro e w1 ⟨rfl, b2⟩
  have b3 := below_then b1 b2
  have hu2 := hu1.below b2
  obtain ⟨hx0, hx1, hx2⟩ := hbx.below b2
  clear b1 b2 hbx hu1 hv1
  have hu3 := hu2
  obtain ⟨a, len, cap, rfl, hlen, hmx, hsh, hr⟩ := hu2
  clear hr
  cases h1 : netOk n
  · rw [wrongL_not h1]
    have F : Hid (fitsL n m = false) := by show _ = _; simp [fitsL, h1]
    clear h1
    go_wp2
    go_ret
    exact ⟨ret_bool F.out.symm, b3⟩
  · rw [wrongL_ok h1]
    cases h2 : ((len : Int) == n.places)
    · have F : Hid (fitsL n m = false) := by show _ = _; unfold fitsL; rw [hlen, h2]; simp
      clear h1
      go_wp2
      go_ret
      exact ⟨ret_bool F.out.symm, b3⟩
    · have F : Hid (fitsL n m = rightL m) := by show _ = _; unfold fitsL; rw [h1, hlen, h2]; simp
      clear h1
      go_wp2_with fail
      refine (right_any _ m _ hu3).mono ?_
      rintro e w' ⟨rfl, rfl⟩
      go_wp2
      go_ret
      exact ⟨ret_bool F.out.symm, b3⟩

end Go.Proofs.Ytfgimobmaahmmaa

/- The answers of the document itself for shape: the mark at the beginning. -/
namespace Go.Proofs.Ytfgimobmaahmmaa
open Go.RowKit
set_option linter.unusedVariables false
set_option maxRecDepth 4000

theorem start_succ (i : Int) (k : Nat) : mapTo (k + 1) (fun p => if (p : Int) = i then 1 else 0) = mapTo k (fun p => if (p : Int) = i then 1 else 0) ++ [if (k : Int) = i then 1 else 0] := mapTo_succ k _

end Go.Proofs.Ytfgimobmaahmmaa

/- Which places and transitions are behind a place, reckoned round by round. -/
namespace Go.Proofs.Ytfgimobmaahmmaa
set_option linter.unusedVariables false
set_option maxRecDepth 4000

/-- What is known so far: of places, of transitions. -/
structure WayS where
  ps : Nat → Bool
  ts : Nat → Bool

/-- Does one of the first j places lead to a transition? -/
def leadTo (ps : Nat → Bool) (w : List Int) (b : Bool) : Nat → Bool
  | 0 => b
  | j + 1 => leadTo ps w b j || (ps j && decide (0 < nth w j))
/-- The first j places that a transition leads to. -/
def feedTo (ps : Nat → Bool) (w : List Int) (b : Bool) (j : Nat) : Nat → Bool := fun q => ps q || (decide (q < j) && (b && decide (0 < nth w q)))
def setAt (ts : Nat → Bool) (k : Nat) (b : Bool) : Nat → Bool := fun j => if j = k then b else ts j

def tranWay (n : NetL) (s : WayS) (k : Nat) : WayS :=
  ⟨feedTo s.ps (tranAt n.trans k).post (leadTo s.ps (tranAt n.trans k).pre (s.ts k) n.places.toNat) n.places.toNat, setAt s.ts k (leadTo s.ps (tranAt n.trans k).pre (s.ts k) n.places.toNat)⟩
def roundWay (n : NetL) (s : WayS) : Nat → WayS
  | 0 => s
  | k + 1 => tranWay n (roundWay n s k) k
def startWay (f : Nat) : WayS := ⟨fun q => decide (q = f), fun _ => false⟩
def waysTo (n : NetL) (f : Nat) : Nat → WayS
  | 0 => startWay f
  | r + 1 => roundWay n (waysTo n f r) n.trans.length
def waysL (n : NetL) (f : Nat) : WayS := waysTo n f (n.places.toNat + n.trans.length)

theorem lead_mono {ps : Nat → Bool} {w : List Int} {b : Bool} (h : b = true) (j : Nat) : leadTo ps w b j = true := by
  induction j with
  | zero => exact h
  | succ j ih => unfold leadTo; rw [ih]; rfl
theorem lead_iff {ps : Nat → Bool} {w : List Int} {b : Bool} (j : Nat) : leadTo ps w b j = true ↔ b = true ∨ ∃ q, q < j ∧ ps q = true ∧ 0 < nth w q := by
  induction j with
  | zero => simp [leadTo]
  | succ j ih =>
    unfold leadTo
    rw [Bool.or_eq_true, ih, Bool.and_eq_true, decide_eq_true_eq]
    constructor
    · rintro ((h | ⟨q, h1, h2⟩) | ⟨h1, h2⟩)
      · exact .inl h
      · exact .inr ⟨q, by omega, h2⟩
      · exact .inr ⟨j, by omega, h1, h2⟩
    · rintro (h | ⟨q, h1, h2⟩)
      · exact .inl (.inl h)
      · by_cases e : q = j
        · subst e; exact .inr h2
        · exact .inl (.inr ⟨q, by omega, h2⟩)
theorem feed_iff {ps : Nat → Bool} {w : List Int} {b : Bool} {j q : Nat} : feedTo ps w b j q = true ↔ ps q = true ∨ (q < j ∧ b = true ∧ 0 < nth w q) := by
  unfold feedTo
  rw [Bool.or_eq_true, Bool.and_eq_true, Bool.and_eq_true, decide_eq_true_eq, decide_eq_true_eq]

/-- Nothing that was known is lost. -/
structure WayLe (s u : WayS) : Prop where
  ps : ∀ q, s.ps q = true → u.ps q = true
  ts : ∀ k, s.ts k = true → u.ts k = true
theorem WayLe.refl (s : WayS) : WayLe s s := ⟨fun _ h => h, fun _ h => h⟩
theorem WayLe.trans {s u v : WayS} (h : WayLe s u) (k : WayLe u v) : WayLe s v := ⟨fun q h1 => k.ps q (h.ps q h1), fun q h1 => k.ts q (h.ts q h1)⟩
theorem WayLe.eq {s u : WayS} (h : WayLe s u) (k : WayLe u s) : s = u := by
  cases s with
  | mk p t =>
    cases u with
    | mk p2 t2 =>
      have e1 : p = p2 := by funext q; rw [Bool.eq_iff_iff]; exact ⟨h.ps q, k.ps q⟩
      have e2 : t = t2 := by funext q; rw [Bool.eq_iff_iff]; exact ⟨h.ts q, k.ts q⟩
      rw [e1, e2]
theorem tran_le (n : NetL) (s : WayS) (k : Nat) : WayLe s (tranWay n s k) := by
  refine ⟨fun q h => feed_iff.2 (.inl h), fun j h => ?_⟩
  show setAt s.ts k _ j = true
  unfold setAt
  split
  · rename_i e; subst e; exact lead_mono h _
  · exact h
theorem round_le (n : NetL) (s : WayS) : ∀ k, WayLe s (roundWay n s k)
  | 0 => WayLe.refl s
  | k + 1 => (round_le n s k).trans (tran_le n _ k)

/-- What is known is so. -/
structure WaySound (n : NetL) (f : Nat) (s : WayS) : Prop where
  ps : ∀ q, s.ps q = true → WayP n f q
  ts : ∀ k, k < n.trans.length → s.ts k = true → WayT n f k
theorem sound_start (n : NetL) (f : Nat) : WaySound n f (startWay f) := by
  refine ⟨fun q h => ?_, fun k _ h => by cases h⟩
  have : q = f := of_decide_eq_true h
  subst this; exact WayP.here n q
theorem sound_tran {n : NetL} {f : Nat} {s : WayS} (h : WaySound n f s) {k : Nat} (hk : k < n.trans.length) : WaySound n f (tranWay n s k) := by
  have hb : leadTo s.ps (tranAt n.trans k).pre (s.ts k) n.places.toNat = true → WayT n f k := fun q => by
    rcases (lead_iff _).1 q with q | ⟨a, h1, h2, h3⟩
    · exact h.ts k hk q
    · exact ⟨a, h.ps a h2, by omega⟩
  refine ⟨fun q hq => ?_, fun j hj hq => ?_⟩
  · rcases feed_iff.1 hq with q1 | ⟨h1, h2, h3⟩
    · exact h.ps q q1
    · obtain ⟨a, h4, h5⟩ := hb h2
      exact h4.step hk h5 (by omega)
  · have hq : setAt s.ts k _ j = true := hq
    unfold setAt at hq
    split at hq
    · rename_i e; subst e; exact hb hq
    · exact h.ts j hj hq
theorem sound_round {n : NetL} {f : Nat} {s : WayS} (h : WaySound n f s) : ∀ k, k ≤ n.trans.length → WaySound n f (roundWay n s k)
  | 0, _ => h
  | k + 1, hk => sound_tran (sound_round h k (by omega)) (by omega)
theorem sound_ways (n : NetL) (f : Nat) : ∀ r, WaySound n f (waysTo n f r)
  | 0 => sound_start n f
  | r + 1 => sound_round (sound_ways n f r) _ (Nat.le_refl _)

/-- How much is not known yet. -/
def gapOf (g : Nat → Bool) (k : Nat) : Nat := ((List.range k).filter fun j => !g j).length
theorem gap_zero (g : Nat → Bool) : gapOf g 0 = 0 := rfl
theorem gap_succ (g : Nat → Bool) (k : Nat) : gapOf g (k + 1) = gapOf g k + (if g k = true then 0 else 1) := by
  unfold gapOf
  rw [List.range_succ, List.filter_append, List.length_append]
  congr 1
  cases h : g k <;> simp [h]
theorem gap_le (g : Nat → Bool) (k : Nat) : gapOf g k ≤ k := by
  induction k with
  | zero => exact Nat.le_refl _
  | succ k ih => rw [gap_succ]; split <;> omega
theorem gap_some {g : Nat → Bool} {k j : Nat} (hj : j < k) (h : g j = true) : gapOf g k + 1 ≤ k := by
  induction k with
  | zero => omega
  | succ k ih =>
    rw [gap_succ]
    by_cases e : j = k
    · subst e; rw [if_pos h]; have := gap_le g j; omega
    · have := ih (by omega)
      split <;> omega
theorem gap_mono {g h : Nat → Bool} (hm : ∀ j, g j = true → h j = true) (k : Nat) : gapOf h k ≤ gapOf g k := by
  induction k with
  | zero => exact Nat.le_refl _
  | succ k ih =>
    rw [gap_succ, gap_succ]
    have := hm k
    by_cases e : g k = true
    · rw [if_pos e, if_pos (this e)]; exact ih
    · rw [if_neg e]; split <;> omega
theorem gap_same {g h : Nat → Bool} (hm : ∀ j, g j = true → h j = true) (k : Nat) (he : gapOf g k ≤ gapOf h k) : ∀ j, j < k → h j = true → g j = true := by
  induction k with
  | zero => intro j hj; omega
  | succ k ih =>
    rw [gap_succ, gap_succ] at he
    have hk := gap_mono hm k
    intro j hj hh
    by_cases e : j = k
    · subst e
      by_cases q : g j = true
      · exact q
      · rw [if_neg q, if_pos hh] at he; omega
    · refine ih ?_ j (by omega) hh
      by_cases q : g k = true
      · rw [if_pos q, if_pos (hm k q)] at he; omega
      · rw [if_neg q] at he; split at he <;> omega

theorem tran_out (n : NetL) (s : WayS) (k : Nat) : (∀ q, n.places.toNat ≤ q → (tranWay n s k).ps q = s.ps q) ∧ (∀ j, j ≠ k → (tranWay n s k).ts j = s.ts j) := by
  refine ⟨fun q hq => ?_, fun j hj => ?_⟩
  · show feedTo _ _ _ _ q = _
    unfold feedTo
    rw [decide_eq_false (by omega)]
    simp
  · show setAt _ _ _ j = _
    unfold setAt
    rw [if_neg hj]
theorem round_out (n : NetL) (s : WayS) : ∀ k, (∀ q, n.places.toNat ≤ q → (roundWay n s k).ps q = s.ps q) ∧ (∀ j, k ≤ j → (roundWay n s k).ts j = s.ts j)
  | 0 => ⟨fun _ _ => rfl, fun _ _ => rfl⟩
  | k + 1 => by
    obtain ⟨h1, h2⟩ := round_out n s k
    obtain ⟨h3, h4⟩ := tran_out n (roundWay n s k) k
    exact ⟨fun q hq => (h3 q hq).trans (h1 q hq), fun j hj => (h4 j (by omega)).trans (h2 j (by omega))⟩

def gapW (n : NetL) (s : WayS) : Nat := gapOf s.ps n.places.toNat + gapOf s.ts n.trans.length
/-- A round that tells nothing new changes nothing. -/
theorem round_same {n : NetL} {s : WayS} (h : gapW n s ≤ gapW n (roundWay n s n.trans.length)) : roundWay n s n.trans.length = s := by
  have hle := round_le n s n.trans.length
  have m1 := gap_mono hle.ps n.places.toNat
  have m2 := gap_mono hle.ts n.trans.length
  unfold gapW at h
  obtain ⟨o1, o2⟩ := round_out n s n.trans.length
  refine (hle.eq ⟨fun q hq => ?_, fun k hk => ?_⟩).symm
  · by_cases e : q < n.places.toNat
    · exact gap_same hle.ps n.places.toNat (by omega) q e hq
    · rw [← o1 q (by omega)]; exact hq
  · by_cases e : k < n.trans.length
    · exact gap_same hle.ts n.trans.length (by omega) k e hk
    · rw [← o2 k (by omega)]; exact hk
theorem round_end (n : NetL) (f : Nat) (hf : f < n.places.toNat) : ∀ r, roundWay n (waysTo n f r) n.trans.length = waysTo n f r ∨ gapW n (waysTo n f r) + r + 1 ≤ n.places.toNat + n.trans.length
  | 0 => by
    right
    have h1 := gap_some (g := (startWay f).ps) (k := n.places.toNat) (j := f) hf (decide_eq_true rfl)
    have h2 := gap_le (startWay f).ts n.trans.length
    show gapOf _ _ + gapOf _ _ + 0 + 1 ≤ _
    show gapOf (startWay f).ps n.places.toNat + gapOf (startWay f).ts n.trans.length + 0 + 1 ≤ _
    omega
  | r + 1 => by
    rcases round_end n f hf r with h | h
    · left
      show roundWay n (roundWay n (waysTo n f r) n.trans.length) n.trans.length = roundWay n (waysTo n f r) n.trans.length
      rw [h, h]
    · by_cases e : gapW n (waysTo n f r) ≤ gapW n (roundWay n (waysTo n f r) n.trans.length)
      · left
        have h1 := round_same e
        show roundWay n (roundWay n (waysTo n f r) n.trans.length) n.trans.length = roundWay n (waysTo n f r) n.trans.length
        rw [h1, h1]
      · right
        show gapW n (roundWay n (waysTo n f r) n.trans.length) + (r + 1) + 1 ≤ _
        omega
theorem ways_stable (n : NetL) (f : Nat) (hf : f < n.places.toNat) : roundWay n (waysL n f) n.trans.length = waysL n f := by
  rcases round_end n f hf (n.places.toNat + n.trans.length) with h | h
  · exact h
  · omega
/-- Where a round changes nothing, no transition does. -/
theorem stable_tran {n : NetL} {s : WayS} (h : roundWay n s n.trans.length = s) {k : Nat} (hk : k < n.trans.length) : tranWay n s k = s := by
  have up : ∀ j d, WayLe (roundWay n s j) (roundWay n s (j + d)) := by
    intro j d
    induction d with
    | zero => exact WayLe.refl _
    | succ d ih => exact ih.trans (tran_le n _ _)
  have at_ : ∀ j, j ≤ n.trans.length → roundWay n s j = s := by
    intro j hj
    have h1 := up j (n.trans.length - j)
    rw [show j + (n.trans.length - j) = n.trans.length by omega, h] at h1
    exact (h1.eq (round_le n s j))
  have h1 := at_ (k + 1) (by omega)
  have h2 := at_ k (by omega)
  have h3 : roundWay n s (k + 1) = tranWay n (roundWay n s k) k := rfl
  rw [h2] at h3
  rw [← h3, h1]
theorem ways_le (n : NetL) (f : Nat) : ∀ r, WayLe (startWay f) (waysTo n f r)
  | 0 => WayLe.refl _
  | r + 1 => (ways_le n f r).trans (round_le n _ _)

/-- All that is behind a place is known in the end. -/
theorem ways_iff {n : NetL} (hn : netOk n = true) {f : Nat} (hf : (f : Int) < n.places) : (∀ q, (waysL n f).ps q = true ↔ WayP n f q) ∧ (∀ k, k < n.trans.length → ((waysL n f).ts k = true ↔ WayT n f k)) := by
  have hs := ways_stable n f (by omega)
  have hsd := sound_ways n f (n.places.toNat + n.trans.length)
  have lead : ∀ k a, k < n.trans.length → (waysL n f).ps a = true → nth (tranAt n.trans k).pre a ≠ 0 → (waysL n f).ts k = true := by
    intro k a hk ha h0
    have e := congrArg WayS.ts (stable_tran hs hk)
    have e2 := congrFun e k
    have e3 : (tranWay n (waysL n f) k).ts k = leadTo (waysL n f).ps (tranAt n.trans k).pre ((waysL n f).ts k) n.places.toNat := by
      show setAt _ _ _ k = _
      unfold setAt
      rw [if_pos rfl]
    rw [← e2, e3, lead_iff]
    have hl := (tran_length hn hk).1
    have hb := (okTok_nth (tran_right (net_tran hn hk)).1 a).1
    refine .inr ⟨a, ?_, ha, by omega⟩
    rcases Nat.lt_or_ge a (tranAt n.trans k).pre.length with q | q
    · omega
    · exact absurd (nth_past _ _ q) h0
  have feed : ∀ k b, k < n.trans.length → (waysL n f).ts k = true → nth (tranAt n.trans k).post b ≠ 0 → (waysL n f).ps b = true := by
    intro k b hk ht h0
    have e := congrArg WayS.ps (stable_tran hs hk)
    have e2 := congrFun e b
    rw [← e2]
    have hl := (tran_length hn hk).2
    have hb := (okTok_nth (tran_right (net_tran hn hk)).2 b).1
    refine feed_iff.2 (.inr ⟨?_, lead_mono ht _, by omega⟩)
    rcases Nat.lt_or_ge b (tranAt n.trans k).post.length with q | q
    · omega
    · exact absurd (nth_past _ _ q) h0
  have full : ∀ q, WayP n f q → (waysL n f).ps q = true := fun q hq =>
    hq (fun q => (waysL n f).ps q = true) ((ways_le n f _).ps f (decide_eq_true rfl)) fun k a b hk ha h1 h2 => feed k b hk (lead k a hk ha h1) h2
  refine ⟨fun q => ⟨hsd.ps q, full q⟩, fun k hk => ⟨hsd.ts k hk, ?_⟩⟩
  rintro ⟨a, h1, h2⟩
  exact lead k a hk (full a h1) h2

end Go.Proofs.Ytfgimobmaahmmaa
