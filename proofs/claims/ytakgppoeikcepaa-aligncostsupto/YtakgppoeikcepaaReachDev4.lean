/- Package reach as it landed: a search, to its end. -/
import Derived.Test.YtakgppoeikcepaaReachDev3
import Derived.Test.YtakgppoeikcepaaGr10
namespace Go.Proofs.Ytakgppoeikcepaa
open Go.RowKit Go.Maps
set_option linter.unusedVariables false
set_option maxRecDepth 4000

theorem net_old {w : World} {v : Value} {n : NetL} (h : Net w v n) : On (fun k => k < w.heap.size) w (fun w' => Net w' v n) := by
  intro w' hs hk
  have hb : Below w.heap.size w { w with heap := w'.heap } := ⟨rfl, rfl, rfl, hs, fun k hlt => hk k hlt hlt⟩
  have h2 := h.below hb
  exact h2

theorem search_start (W : World) (M : Int) (A : Nat) (hA : A ≤ W.heap.size) :
    SearchAt A (W.heap.size + 1) W.heap.size W.heap.size M W ((W.alloc (.map #[] 0)).alloc (.cells #[.int .i64 M, .slice none 0 0, .slice none 0 0, .map (some W.heap.size), .slice none 0 0] 85)) [] [] [] 0 (.map []) (.slice none 0 0) (.slice none 0 0) (.slice none 0 0) [] := by
  have b1 := below_new W (.map #[] 0)
  have b2 := below_new (W.alloc (.map #[] 0)) (.cells #[.int .i64 M, .slice none 0 0, .slice none 0 0, .map (some W.heap.size), .slice none 0 0] 85)
  have e1 : (W.alloc (.map #[] 0)).heap.size = W.heap.size + 1 := by simp
  refine ⟨World.ownsRow_nil _ _ _ _, World.ownsRow_nil _ _ _ _, World.ownsRow_nil _ _ _ _, (World.ownsMap_made W Try.prog 133 _).alloc _, below_then b1 b2, hA, by omega, Nat.le_refl _, by simp, ?_, by omega, ⟨by simp [Value.ownBlock], by simp [Value.ownBlock]⟩, ⟨by simp [Value.ownBlock], by simp [Value.ownBlock]⟩, ⟨by simp [Value.ownBlock], by simp [Value.ownBlock]⟩, ?_, ?_, ?_, rfl, fun j hj => absurd hj (by simp)⟩
  · have := heap_alloc_new (W.alloc (.map #[] 0)) (.cells #[.int .i64 M, .slice none 0 0, .slice none 0 0, .map (some W.heap.size), .slice none 0 0] 85)
    rw [e1] at this
    exact this
  all_goals (intro k hk; simp [Value.ownBlock] at hk)

/-- The cells of a block of five. -/
theorem box5_block {w : World} {b : Nat} {t : TypeId} {u0 u1 u2 u3 u4 : Value} (h : w.heap[b]? = some (.cells #[u0, u1, u2, u3, u4] t (0, 0))) :
    w.cell? ⟨b, 0, none⟩ = some u0 ∧ w.cell? ⟨b, 1, none⟩ = some u1 ∧ w.cell? ⟨b, 2, none⟩ = some u2 ∧ w.cell? ⟨b, 3, none⟩ = some u3 ∧ w.cell? ⟨b, 4, none⟩ = some u4 ∧ ∀ j, w.frozen? ⟨b, j, none⟩ = false := by
  refine ⟨?_, ?_, ?_, ?_, ?_, fun j => ?_⟩
  all_goals simp [World.cell?, World.frozen?, h]

/-- Five cells of one block, written one by one. -/
theorem below_set5 {B b : Nat} {a w : World} (h : Below B a w) (hb : B ≤ b) (u0 u1 u2 u3 u4 : Value) :
    Below B a (((((w.setCell ⟨b, 0, none⟩ u0).setCell ⟨b, 1, none⟩ u1).setCell ⟨b, 2, none⟩ u2).setCell ⟨b, 3, none⟩ u3).setCell ⟨b, 4, none⟩ u4) :=
  ((((h.setCell (p := ⟨b, 0, none⟩) hb _).setCell (p := ⟨b, 1, none⟩) hb _).setCell (p := ⟨b, 2, none⟩) hb _).setCell (p := ⟨b, 3, none⟩) hb _).setCell (p := ⟨b, 4, none⟩) hb _
theorem on_set5 {D : Nat → Prop} {w : World} {R : World → Prop} {b : Nat} (h : On D w R) (hb : ¬ D b) (u0 u1 u2 u3 u4 : Value) :
    On D (((((w.setCell ⟨b, 0, none⟩ u0).setCell ⟨b, 1, none⟩ u1).setCell ⟨b, 2, none⟩ u2).setCell ⟨b, 3, none⟩ u3).setCell ⟨b, 4, none⟩ u4) R :=
  ((((h.set (a := ⟨b, 0, none⟩) hb u0).set (a := ⟨b, 1, none⟩) hb u1).set (a := ⟨b, 2, none⟩) hb u2).set (a := ⟨b, 3, none⟩) hb u3).set (a := ⟨b, 4, none⟩) hb u4

theorem lists_of {B : Nat} {w : World} {mv : Value} {ms : List (List Int)} {us : List Value} (hown : w.ownsRow B 25 1 mv us.length us) (hlen : us.length = ms.length) (hels : ∀ j (hj : j < us.length), Ints w us[j] (markAt ms j)) (hl : us.length ≤ 5864062014805) : Lists w mv ms := by
  have hown2 := hown
  obtain ⟨_, hcase⟩ := hown
  rcases hcase with ⟨e, h0⟩ | ⟨g, cap', cur, e, hg, hh, hn, hcap, hsz, htake⟩
  · exact ⟨none, us.length, 0, by rw [e, h0], hlen.symm, by omega, ⟨by omega, by omega, fun _ => rfl⟩, fun j hj => absurd hj (by omega)⟩
  · refine ⟨_, us.length, _, e, hlen.symm, by omega, ⟨hn, by unfold maxLen at hcap; omega, fun h => by cases h⟩, fun j hj => ?_⟩
    have hj' : j < us.length := by omega
    refine ⟨g, 0, us[j], rfl, ?_, ?_, hels j hj'⟩
    · rcases Nat.lt_or_ge g w.heap.size with q | q
      · exact q
      · rw [Array.getElem?_eq_none q] at hh; cases hh
    · rw [e] at hown2
      rw [Nat.zero_add, hown2.cellAt j (by omega), List.getElem?_eq_getElem hj']

theorem arcs_of {B : Nat} {w : World} {av : Value} {l : List ArcL} (hown : w.ownsRow B 69 3 av l.length (arcCells l)) (hl : l.length ≤ 5864062014805) : Arcs w av (l.map arcZ) := by
  have hown2 := hown
  obtain ⟨_, hcase⟩ := hown
  rcases hcase with ⟨e, h0⟩ | ⟨g, cap', cur, e, hg, hh, hn, hcap, hsz, htake⟩
  · exact ⟨none, l.length, 0, by rw [e, h0], by simp, by omega, ⟨by omega, by omega, fun _ => rfl⟩, fun j hj => absurd hj (by simp; omega)⟩
  · refine ⟨_, l.length, _, e, by simp, by omega, ⟨hn, by unfold maxLen at hcap; omega, fun h => by cases h⟩, fun j hj => ?_⟩
    have hj' : j < l.length := by simpa using hj
    obtain ⟨q1, q2, q3⟩ := arcCells_at l j hj'
    rw [e] at hown2
    refine ⟨g, 0, rfl, ?_, ?_, ?_, ?_⟩
    · rcases Nat.lt_or_ge g w.heap.size with q | q
      · exact q
      · rw [Array.getElem?_eq_none q] at hh; cases hh
    · rw [Nat.zero_add, hown2.cellAt (j * 3) (by omega), q1]; simp [arcZ]
    · rw [Nat.zero_add, hown2.cellAt (j * 3 + 1) (by omega), q2]; simp [arcZ]
    · rw [Nat.zero_add, hown2.cellAt (j * 3 + 2) (by omega), q3]; simp [arcZ]

/-- What is handed back hangs on nothing older than block A. -/
theorem SearchAt.out {A x mb B : Nat} {M : Int} {W wr : World} {ms : List (List Int)} {ar bys : List ArcL} {c : Nat} {D : DataW Unit} {mv av bv : Value} {us : List Value} (h : SearchAt A x mb B M W wr ms ar bys c D mv av bv us)
    (h1 : us.length ≤ 5864062014805) (h2 : ar.length ≤ 5864062014805) (h3 : bys.length ≤ 5864062014805) :
    On (fun k => A ≤ k) wr (fun w' => Lists w' mv ms ∧ Arcs w' av (ar.map arcZ) ∧ Arcs w' bv (bys.map arcZ) ∧ w'.ownsMap Try.prog 133 (plainElem Try.prog 3) mb c D) := by
  intro w' hs hk
  have hA := h.hA
  have r1 := ownsRow_on h.rowM w' hs fun k hlt q => hk k hlt (by have := q.2; omega)
  have r2 := ownsRow_on h.rowA w' hs fun k hlt q => hk k hlt (by have := q.2; omega)
  have r3 := ownsRow_on h.rowB w' hs fun k hlt q => hk k hlt (by have := q.2; omega)
  refine ⟨lists_of r1 h.len (fun j hj => (h.els j hj).2 w' hs fun k hlt q => hk k hlt q.1) h1, arcs_of r2 h2, arcs_of r3 h3, ?_⟩
  obtain ⟨es, cl, m1, m2⟩ := h.map
  exact ⟨es, cl, by rw [hk mb (Array.getElem?_eq_some_iff.1 m1).1 (by have := h.hmb; omega)]; exact m1, m2⟩

theorem run_none (n : NetL) (m : List Int) : runL n m [] = if fitsL n m then (m, 0) else ([], 2) := rfl

/-- What explored answers: all of it hangs on new blocks alone. -/
def GivesX (w : World) (n : NetL) (m : List Int) (most : Int) (P : Nat) (e : Ending) (w' : World) : Prop :=
  Below w.heap.size w w' ∧ ((∃ mv av bv mb bys c D, e = .returned (.tuple #[.agg #[.int .i64 most, mv, av, .map (some mb), bv], .int .i64 0]) ∧ (graphL n m most).2 = 0 ∧
      On (fun k => w.heap.size ≤ k) w' (fun w'' => Lists w'' mv (graphL n m most).1.marks ∧ Arcs w'' av ((graphL n m most).1.arcs.map arcZ) ∧ Arcs w'' bv (bys.map arcZ) ∧ w''.ownsMap Try.prog 133 (plainElem (H := Unit) Try.prog 3) mb c D) ∧
      Says P (graphL n m most).1.marks D ∧ Tied (graphL n m most).1 bys) ∨
    (e = .returned (.tuple #[.agg #[.int .i64 0, .slice none 0 0, .slice none 0 0, .map none, .slice none 0 0], .int .i64 (graphL n m most).2]) ∧ (graphL n m most).2 ≠ 0))

set_option maxHeartbeats 4000000 in
theorem explored_any (v u : Value) (n : NetL) (m : List Int) (most : Int) (w : World) (P : Nat) (hP : n.places = P ∨ fitsL n m = false) (hv : Net w v n) (hu : Ints w u m) :
    Calls Try.prog 29 #[v, u, .int .i64 most] w fun e w' => GivesX w n m most P e w' := by
  obtain ⟨tv, rfl, hT⟩ := hv
  have c1 := below_new w (.cells #[.int .i64 n.places, tv] 24)
  have c2 := below_new (w.alloc (.cells #[.int .i64 n.places, tv] 24)) (.cells #[.int .i64 0, .slice none 0 0, .slice none 0 0, .map none, .slice none 0 0] 85)
  have b0 := below_then c1 c2
  have hbx := (box2_new w (.int .i64 n.places) tv 24).below c2
  have hres := heap_alloc_new (w.alloc (.cells #[.int .i64 n.places, tv] 24)) (.cells #[.int .i64 0, .slice none 0 0, .slice none 0 0, .map none, .slice none 0 0] 85)
  have e1 : (w.alloc (.cells #[.int .i64 n.places, tv] 24)).heap.size = w.heap.size + 1 := by simp
  have e2 : ((w.alloc (.cells #[.int .i64 n.places, tv] 24)).alloc (.cells #[.int .i64 0, .slice none 0 0, .slice none 0 0, .map none, .slice none 0 0] 85)).heap.size = w.heap.size + 1 + 1 := by simp
  rw [e1] at hres
  obtain ⟨W0, HW0⟩ : ∃ W0, Hid (((w.alloc (.cells #[.int .i64 n.places, tv] 24)).alloc (.cells #[.int .i64 0, .slice none 0 0, .slice none 0 0, .map none, .slice none 0 0] 85)) = W0) := ⟨_, rfl⟩
  rw [HW0.out] at b0 hbx hres e2
  clear c1 c2 e1
  have hon : On (fun k => k < w.heap.size) W0 (fun w' => Net w' (.agg #[.int .i64 n.places, tv]) n) := (net_old ⟨tv, rfl, hT⟩).below b0
  replace hu := hu.below b0
  have HP : Hid _ := hP
  clear hT hP
  go_enter Try.func29, Try.ntmps29
  go_upto_region 1 with fail
  rw [HW0.out]
  clear HW0
  obtain ⟨z0, z1, z2, z3, z4, zf⟩ := box5_block hres
  have zf0 := zf 0
  have zf1 := zf 1
  have zf2 := zf 2
  have zf3 := zf 3
  have zf4 := zf 4
  clear zf
  by_cases hm1 : most < 1
  · have E : Hid (graphL n m most = (⟨[], []⟩, 2)) := by show _ = _; rw [graphL, graphOk, decide_eq_false (by omega)]; rfl
    go_wp2_with fail
    refine bodyPost_ret (v := .tuple #[.agg #[.int .i64 0, .slice none 0 0, .slice none 0 0, .map none, .slice none 0 0], .int .i64 2]) ?_ rfl ⟨below_set5 b0 (by omega) _ _ _ _ _, .inr ⟨by rw [E.out], by rw [E.out]; simp⟩⟩
    simp [results, Try.results29, go_sem, z0, z1, z2, z3, z4]
  by_cases hm2 : 300 < most
  · have E : Hid (graphL n m most = (⟨[], []⟩, 2)) := by show _ = _; rw [graphL, graphOk, decide_eq_false (show ¬ most ≤ 300 by omega)]; simp
    go_wp2_with fail
    refine bodyPost_ret (v := .tuple #[.agg #[.int .i64 0, .slice none 0 0, .slice none 0 0, .map none, .slice none 0 0], .int .i64 2]) ?_ rfl ⟨below_set5 b0 (by omega) _ _ _ _ _, .inr ⟨by rw [E.out], by rw [E.out]; simp⟩⟩
    simp [results, Try.results29, go_sem, z0, z1, z2, z3, z4]
  obtain ⟨x0, x1, x2⟩ := id hbx
  go_wp2_with fail
  refine (net_run_own n [] _ _ _ m _ (by exact hon.now) (by exact hu) (by exact Ints.nil _)).mono ?_
  rintro e W ⟨r1, rfl, hr1, b1⟩
  rw [run_none] at hr1 ⊢
  clear z0 z1 z2 z3 z4 zf0 zf1 zf2 zf3 zf4 x0 x1 x2
  replace hres := (b1.block (w.heap.size + 1) (by omega)).trans hres
  replace hbx := hbx.below b1
  replace hon := hon.below b1
  have hyW : w.heap.size + 1 < W.heap.size := by have := b1.size; omega
  replace b0 := below_then b0 b1
  obtain ⟨z0, z1, z2, z3, z4, zf⟩ := box5_block hres
  have zf0 := zf 0
  have zf1 := zf 1
  have zf2 := zf 2
  have zf3 := zf 3
  have zf4 := zf 4
  cases hf : fitsL n m
  · have E : Hid (graphL n m most = (⟨[], []⟩, 2)) := by show _ = _; rw [graphL, graphOk, hf]; simp
    rw [hf] at hr1
    simp only [Bool.false_eq_true, if_false] at hr1 ⊢
    clear hf zf
    go_wp2_with fail
    refine bodyPost_ret (v := .tuple #[.agg #[.int .i64 0, .slice none 0 0, .slice none 0 0, .map none, .slice none 0 0], .int .i64 2]) ?_ rfl ⟨below_set5 b0 (by omega) _ _ _ _ _, .inr ⟨by rw [E.out], by rw [E.out]; simp⟩⟩
    simp [results, Try.results29, go_sem, z0, z1, z2, z3, z4]
  rw [hf] at hr1
  simp only [if_true] at hr1 ⊢
  clear z0 z1 z2 z3 z4 zf0 zf1 zf2 zf3 zf4 zf
  obtain ⟨M, rfl⟩ := Int.eq_ofNat_of_zero_le (show 0 ≤ most by omega)
  have hP := HP.out.resolve_right (by rw [hf]; simp)
  have HG : Hid (∀ o, graphTo n m M M = o → graphL n m M = match o with | some s => (s, 0) | none => (⟨[], []⟩, 4)) := by
    intro o ho
    have hok : graphOk n m M = true := by simp only [graphOk, Bool.and_eq_true, decide_eq_true_eq]; exact ⟨⟨by omega, by omega⟩, hf⟩
    rw [graphL, hok]
    simp only [if_true, Int.toNat_natCast]
    rw [ho]
    cases o <;> rfl
  have hM1 : 1 ≤ M := by omega
  have hM3 : M ≤ 300 := by omega
  have HFd : Hid (∀ k s, graphTo n m M k = some s → Found n m M k 0 s) := fun k s h => graphTo_found (by omega) hf k h
  have HT24 : Hid (n.trans.length ≤ 24) := fits_trans hf
  have HP2 : Hid _ := hP
  have HP16 : Hid (P ≤ 16) := by
    show _ ≤ _
    have h1 := (fits_net hf).1
    simp only [netOk, headOk, Bool.and_eq_true, decide_eq_true_eq] at h1
    have := h1.1.1.2
    omega
  have Hmw : Hid _ := right_word (fits_net hf).2.2
  have Hml : Hid (m.length = P) := by show _ = _; have h1 := (fits_net hf).2.1; omega
  have hst := search_start W M (w.heap.size + 1 + 1) (by omega)
  have hr2 : On (fun k => w.heap.size + 1 + 1 ≤ k ∧ ¬ mineS (W.heap.size + 1) W.heap.size (.slice none 0 0) (.slice none 0 0) (.slice none 0 0) k) W (fun w' => Ints w' r1 m) :=
    hr1.weaken fun k hlt hk => ⟨by omega, hst.notMineOld hlt⟩
  have hr3 := (hr2.below (below_new W (.map #[] 0))).below (below_new (W.alloc (.map #[] 0)) (.cells #[.int .i64 (M : Int), .slice none 0 0, .slice none 0 0, .map (some W.heap.size), .slice none 0 0] 85))
  obtain ⟨Ws, HWs⟩ : ∃ Ws, Hid ((W.alloc (.map #[] 0)).alloc (.cells #[.int .i64 (M : Int), .slice none 0 0, .slice none 0 0, .map (some W.heap.size), .slice none 0 0] 85) = Ws) := ⟨_, rfl⟩
  rw [HWs.out] at hst hr3
  clear hP HP hr1 hr2 hm1 hm2 hf hu
  have hmm := @run_makeMap Try.prog
  go_upto_region 7 with fail
  rw [HWs.out]
  clear HWs hmm
  go_wp2_with fail
  refine (search_add hst _ m ⟨0, 0, 0⟩ hr3 Hmw.out (by unfold maxLen; omega) (by simp) (by simp)).mono ?_
  rintro e w1 ⟨rfl, mv1, bv1, hS1, _⟩
  have hQ1 : Srch (w.heap.size + 1 + 1) (W.heap.size + 1) W.heap.size W.heap.size P M W w1 ⟨[m], []⟩ [⟨0, 0, 0⟩] mv1 (.slice none 0 0) bv1 :=
    ⟨_, _, hS1, (says_nil P).put HP16.out isMap_empty Hml.out Hmw.out rfl, rfl⟩
  clear hst hS1 hr3 Hmw Hml
  go_wp2_with fail
  go_loopg [11] M (fun g i wq => ∃ (k : Nat) (s : SpaceL) (bys : List ArcL) (mv av bv : Value), k + g = M ∧ i = .int .i64 k ∧ Srch (w.heap.size + 1 + 1) (W.heap.size + 1) W.heap.size W.heap.size P M W wq s bys mv av bv ∧ Hid (graphTo n m M k = some s ∧ Tied s bys))
  case atStart => exact ⟨0, _, _, _, _, _, by omega, rfl, hQ1, rfl, tied_start _ _⟩
  case round =>
    clear hQ1
    obtain ⟨k, s, bys, mv, av, bv, hkg, rfl, hQ, Hst⟩ := hrel
    obtain ⟨G, hGk⟩ : ∃ G, G = gk := ⟨_, rfl⟩
    obtain ⟨WR, hWRk⟩ : ∃ WR, WR = wr := ⟨_, rfl⟩
    subst hGk hWRk
    obtain ⟨D, us, hS, hD, hlb⟩ := id hQ
    have HF : Hid (Found n m M k 0 s) := HFd.out k s Hst.out.1
    have hml : s.marks.length ≤ M := HF.out.most_le
    obtain ⟨am, cm, hmv⟩ := hS.sliceM
    subst hmv
    obtain ⟨d0, d1, d2, d3, d4, df⟩ := hS.at
    obtain ⟨lm, Hlm⟩ : ∃ lm, Hid (s.marks.length = lm) := ⟨_, rfl⟩
    rw [Hlm.out] at d1 hml
    have hbW := hS.below
    obtain ⟨x0, x1, x2⟩ := hbx.below hbW
    by_cases hkl : k < lm
    · have hvQ : On (fun k => ¬ mineS (W.heap.size + 1) W.heap.size (.slice am s.marks.length cm) av bv k) WR (fun w' => Net w' (.agg #[.int .i64 n.places, tv]) n) :=
        (hon.below hbW).weaken fun k hlt hk => hS.notMineOld (by omega)
      have HkL : Hid (k < s.marks.length) := by show _ < _; rw [Hlm.out]; exact hkl
      have Harc : Hid (s.arcs.length ≤ 1000000) := by show _ ≤ _; have := graphTo_arcs HT24.out _ Hst.out.1; omega
      clear df d0 d2 d3 d4
      go_wp2_with fail
      refine (search_leave hQ Hst.out.2 _ n k hvQ HkL.out (HF.out.fits _ (markAt_mem HkL.out)) HP2.out HP16.out hM3 HF.out.most_le Harc.out).mono ?_
      rintro e w5 ⟨cd, s2, bys2, mv2, av2, bv2, rfl, hQ2, hK2, hrow⟩
      have Hrow : Hid _ := hrow
      clear hrow hK2 hvQ d1 x0 x1 x2 hbW hS hD hlb hQ
      by_cases hc0 : cd = 0
      · subst hc0
        have HR : Hid (graphTo n m M (k + 1) = some s2 ∧ Tied s2 bys2) := by
          rcases Hrow.out with h | h
          · refine ⟨?_, h.2.2⟩
            rw [graphTo, Hst.out.1]
            simp only [Option.bind_some, if_pos HkL.out]
            exact h.2.1
          · exact absurd h.1 (by omega)
        clear Hrow HkL Harc Hst HF
        go_wp2
        go_roundg (G - 1)
        case measure => omega
        case rel => exact ⟨k + 1, s2, bys2, mv2, av2, bv2, by omega, by go_num, hQ2, HR⟩
      · have hno : cd = 4 ∧ rowTo n M k s n.trans.length = none := by
          rcases Hrow.out with h | h
          · exact absurd h.1 hc0
          · exact h
        have E : Hid (graphL n m M = (⟨[], []⟩, 4)) := by
          have h3 : graphTo n m M (k + 1) = none := by rw [graphTo, Hst.out.1]; simp only [Option.bind_some, if_pos HkL.out]; exact hno.2
          have h4 := graph_none h3 (M - (k + 1))
          rw [show k + 1 + (M - (k + 1)) = M by omega] at h4
          exact HG.out none h4
        obtain ⟨rfl, _⟩ := hno
        have hb5 : Below W.heap.size W w5 := by obtain ⟨D, us, hS, _⟩ := hQ2; exact hS.below
        obtain ⟨z0, z1, z2, z3, z4, zf⟩ := box5_block ((hb5.block (w.heap.size + 1) hyW).trans hres)
        have zf0 := zf 0
        have zf1 := zf 1
        have zf2 := zf 2
        have zf3 := zf 3
        have zf4 := zf 4
        replace b0 := below_then b0 hb5
        clear zf Hrow Hst HF HkL Harc hQ2 hb5
        go_wp2_with fail
        refine bodyPost_ret (v := .tuple #[.agg #[.int .i64 0, .slice none 0 0, .slice none 0 0, .map none, .slice none 0 0], .int .i64 4]) ?_ rfl ⟨below_set5 b0 (by omega) _ _ _ _ _, .inr ⟨by rw [E.out], by rw [E.out]; simp⟩⟩
        simp [results, Try.results29, go_sem, z0, z1, z2, z3, z4]
    · have hkM : s.marks.length ≤ k := by rw [Hlm.out]; omega
      have E : Hid (graphL n m M = (s, 0)) := by
        have h4 := graph_stable Hst.out.1 hkM (M - k)
        rw [show k + (M - k) = M by omega] at h4
        exact HG.out (some s) h4
      have Harc : Hid (s.arcs.length ≤ 1000000) := by show _ ≤ _; have := graphTo_arcs HT24.out _ Hst.out.1; omega
      have hout := hS.out (by rw [hS.len, Hlm.out]; omega) (by have := Harc.out; omega) (by rw [hlb, Hlm.out]; omega)
      obtain ⟨aa, ca, rfl⟩ := hS.sliceA
      obtain ⟨ab, cb, rfl⟩ := hS.sliceB
      obtain ⟨z0, z1, z2, z3, z4, zf⟩ := box5_block ((hbW.block (w.heap.size + 1) hyW).trans hres)
      have zf0 := zf 0
      have zf1 := zf 1
      have zf2 := zf 2
      have zf3 := zf 3
      have zf4 := zf 4
      have Hb : Hid (Below w.heap.size w WR) := below_then b0 hbW
      rw [Hlm.out] at hout
      obtain ⟨la, Hla⟩ : ∃ la, Hid (s.arcs.length = la) := ⟨_, rfl⟩
      obtain ⟨lb, Hlb2⟩ : ∃ lb, Hid (bys.length = lb) := ⟨_, rfl⟩
      rw [Hla.out] at d2
      rw [Hlb2.out] at d4
      rw [Hla.out, Hlb2.out] at hout
      have Hout : Hid (On _ _ _) := on_set5 hout (b := w.heap.size + 1) (fun h => by omega) (.int .i64 (M : Int)) (.slice am lm cm) (.slice aa la ca) (.map (some W.heap.size)) (.slice ab lb cb)
      have HD : Hid _ := hD
      have HT : Hid _ := Hst.out.2
      clear zf df hout hQ hS x0 x1 x2 hbW hD hlb HF hkM hml
      go_wp2_with fail
      refine bodyPost_ret (v := .tuple #[.agg #[.int .i64 (M : Int), .slice am lm cm, .slice aa la ca, .map (some W.heap.size), .slice ab lb cb], .int .i64 0]) ?_ rfl ⟨below_set5 Hb.out (by omega) _ _ _ _ _, .inl ⟨_, _, _, _, bys, lm, D, rfl, ?_⟩⟩
      · simp [results, Try.results29, go_sem, z0, z1, z2, z3, z4]
      · rw [E.out]
        exact ⟨rfl, Hout.out.weaken fun k _ hk => by omega, HD.out, HT.out⟩

end Go.Proofs.Ytakgppoeikcepaa
