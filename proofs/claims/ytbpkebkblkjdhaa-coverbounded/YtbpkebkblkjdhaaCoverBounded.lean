/- The law CoverBounded, walked: it answers true, and writes nothing that was there. -/
import Derived.Test.YtbpkebkblkjdhaaCoverBd3
import Derived.Test.YtbpkebkblkjdhaaCoverDevO
import Derived.Test.YtbpkebkblkjdhaaAliveAll
import Derived.Test.YtbpkebkblkjdhaaReachDev
namespace Go.Proofs.Ytbpkebkblkjdhaa
open Go.RowKit
set_option linter.unusedVariables false

theorem plain_of {s : List KnotX} (h : (s.map KnotX.knot).any (fun k => hasL k.mark (-1)) = false) : ∀ i, i < s.length → ∀ p, nth (knotAt s i).mark p ≠ -1 := by
  intro i hi p e
  rw [List.any_eq_false] at h
  have h1 := h (knotAt s i).knot (List.mem_map.2 ⟨knotAt s i, by rw [knotAt_get hi]; exact List.getElem_mem hi, rfl⟩)
  have hp : p < (knotAt s i).mark.length := by
    rcases Nat.lt_or_ge p (knotAt s i).mark.length with q | q
    · exact q
    · rw [nth_past _ p q] at e; omega
  exact h1 (contains_of_nth hp e)

set_option maxHeartbeats 4000000 in
theorem coverBounded_walk (v u : Value) (n : NetL) (m : List Int) (most : Int) (w : World) (hv : Net w v n) (hu : Ints w u m) :
    Calls Try.prog 5 #[v, u, .int .i64 most] w fun e w' => e = .returned (.bool true) ∧ Below w.heap.size w w' := by
  obtain ⟨tv, rfl, hT⟩ := hv
  have c := below_new w (.cells #[.int .i64 n.places, tv] 24)
  have hbx := box2_new w (.int .i64 n.places) tv 24
  have hv : Net _ (.agg #[.int .i64 n.places, tv]) n := ⟨_, rfl, hT.below c⟩
  replace hu := hu.below c
  clear hT
  go_enter Try.func5, Try.ntmps5
  go_wp2_with fail
  refine (alive5_any _).mono ?_
  rintro e w1 ⟨rfl, b⟩
  replace hv := hv.below b
  replace hu := hu.below b
  replace hbx := hbx.below b
  replace c := below_then c b
  clear b
  obtain ⟨x0, x1, x2⟩ := id hbx
  go_wp2_with fail
  refine (cover_tree_own _ _ n m most _ (by exact hv) (by exact hu)).mono ?_
  rintro e w2 ⟨r, ms, rfl, hr, b⟩
  replace hv := hv.below b
  replace hu := hu.below b
  replace hbx := hbx.below b
  have c1 := c
  replace c := below_then c b
  have hB1 := b
  clear b x0 x1 x2
  have HF : Hid (∀ l, treeL n m most = (l, 0) → l.any (fun k => hasL k.mark (-1)) = false → (graphL n m 300).2 ≠ 0 → l.any overK = true) := fun l h1 h2 h3 => by
    obtain ⟨s, rfl, hs⟩ := treeL_ok h1
    obtain ⟨k, p, hk, hp⟩ := hs.full (plain_of h2) h3
    exact over_of hk hp
  have HS : Hid (∀ l sp, treeL n m most = (l, 0) → l.any (fun k => hasL k.mark (-1)) = false → graphL n m 300 = (sp, 0) → (∀ g, g < sp.marks.length → l.any (fun k => k.mark == markAt sp.marks g) = true) ∧ ∀ j, j < l.length → sp.marks.any (fun y => (knotOf l j).mark == y) = true) := fun l sp h1 h2 h3 => by
    obtain ⟨s, rfl, hs⟩ := treeL_ok h1
    obtain ⟨q1, q2⟩ := hs.same (plain_of h2) h3
    refine ⟨fun g hg => ?_, fun j hj => ?_⟩
    · obtain ⟨k, hk, e⟩ := q1 g hg
      exact anyK_of (k := k) (by simpa using hk) (by rw [knotOf_map hk]; show ((knotAt s k).mark == _) = true; rw [e]; simp)
    · have hj' : j < s.length := by simpa using hj
      obtain ⟨g, hg, e⟩ := q2 j hj'
      exact anyTo_of hg (by rw [knotOf_map hj', e]; show ((knotAt s j).mark == (knotAt s j).mark) = true; simp)
  generalize treeL n m most = q at *
  obtain ⟨l, cd⟩ := q
  simp only at hr ⊢
  by_cases h0 : cd = 0
  case neg =>
    have n0 : (cd != 0) = true := by simpa using h0
    clear HF HS
    go_wp2
    go_ret
    exact ⟨rfl, c⟩
  subst h0
  go_wp2_with fail
  refine (containsknots0 w2 18 _ (bounded1_any w2) Try.call18 _ l _ (Below.refl _ _) (by exact hr.knots)).mono ?_
  rintro e w3 ⟨rfl, b⟩
  replace hv := hv.below b
  replace hu := hu.below b
  replace hbx := hbx.below b
  replace hr := hr.to b
  replace c := below_then c b
  replace hB1 := below_then hB1 b
  clear b
  cases ha : l.any (fun k => hasL k.mark (-1))
  case true =>
    clear HF HS
    go_wp2
    go_ret
    exact ⟨rfl, c⟩
  have HF2 : Hid _ := HF.out l rfl ha
  have HS2 : Hid (∀ sp, graphL n m 300 = (sp, 0) → (∀ g, g < sp.marks.length → l.any (fun k => k.mark == markAt sp.marks g) = true) ∧ ∀ j, j < l.length → sp.marks.any (fun y => (knotOf l j).mark == y) = true) := fun sp h => HS.out l sp rfl ha h
  clear HF HS ha
  obtain ⟨x0, x1, x2⟩ := id hbx
  go_wp2_with fail
  refine (reach_graph _ _ n m 300 _ (by exact hv) (by exact hu)).mono ?_
  rintro e w4 ⟨r4, rfl, hr4, b⟩
  replace hr := hr.to b
  replace c := below_then c b
  replace hB1 := below_then hB1 b
  clear b x0 x1 x2 hv hu hbx
  generalize graphL n m 300 = q at *
  obtain ⟨sp, ce⟩ := q
  simp only at hr4 HF2 ⊢
  obtain ⟨mv, av, rfl, hM, hA⟩ := hr4
  obtain ⟨am, cm, rfl, hm3, _⟩ := hM.slice
  obtain ⟨aa, ca, rfl, _⟩ := hA.slice
  clear hA
  obtain ⟨lm, Hlm⟩ : ∃ lm, Hid (sp.marks.length = lm) := ⟨_, rfl⟩
  obtain ⟨la, Hla⟩ : ∃ la, Hid ((List.map arcZ sp.arcs).length = la) := ⟨_, rfl⟩
  rw [Hlm.out] at hM hm3 ⊢
  rw [Hla.out]
  have bs := below_new w4 (.cells #[.slice am lm cm, .slice aa la ca] 47)
  have hbs := box2_new w4 (.slice am lm cm) (.slice aa la ca) 47
  obtain ⟨ws, Hws⟩ : ∃ ws, Hid (w4.alloc (.cells #[.slice am lm cm, .slice aa la ca] 47) = ws) := ⟨_, rfl⟩
  rw [Hws.out] at bs hbs
  replace hr := hr.to bs
  replace hM := hM.below bs
  replace c := below_then c bs
  replace hB1 := below_then hB1 bs
  clear bs
  by_cases h1 : ce = 0
  case neg =>
    have n1 : (ce != 0) = true := by simpa using h1
    have E : Hid _ := HF2.out h1
    clear HF2 HS2
    go_upto_region 7 with fail
    rw [Hws.out]
    clear Hws
    go_wp2_with fail
    refine (containsover_any w1.heap.size _ l ms _ (by exact hr)).mono ?_
    rintro e w5 ⟨rfl, b⟩
    rw [E.out]
    have R : Below w.heap.size w w5 := below_then c1 (hB1.trans b)
    go_wp2
    go_ret
    exact ⟨rfl, R⟩
  subst h1
  obtain ⟨q1, q2⟩ := HS2.out sp rfl
  have HQ1 : Hid _ := q1
  have HQ2 : Hid _ := q2
  clear HF2 HS2 q1 q2
  have hK := hr.knots
  obtain ⟨ak, ck, rfl, hk3, _⟩ := hK.slice
  obtain ⟨lk, Hlk⟩ : ∃ lk, Hid (l.length = lk) := ⟨_, rfl⟩
  rw [Hlk.out] at hK hk3 ⊢
  clear hr hB1 c1
  obtain ⟨y0, y1, y2⟩ := id hbs
  go_upto_region 7 with fail
  rw [Hws.out]
  clear Hws
  go_wp2_with fail
  clear y0 y1 y2
  go_loopg [43] lm (fun g i wr => ∃ k : Nat, k + g = lm ∧ i = .int .i64 k ∧ Below ws.heap.size ws wr)
  case atStart => exact ⟨0, by omega, rfl, Below.refl _ _⟩
  case round =>
    obtain ⟨i, hig, rfl, hb⟩ := hrel
    by_cases hin : i < lm
    · obtain ⟨b1, o1, u1, rfl, hb1, d1, i1⟩ := (hM.below hb).at hin
      have F : Hid _ := HQ1.out i (by have := Hlm.out; omega)
      obtain ⟨x, Hx⟩ : ∃ x, Hid (markAt sp.marks i = x) := ⟨_, rfl⟩
      rw [Hx.out] at i1 F
      obtain ⟨ax, lx, cx, rfl, _, _, _, _⟩ := id i1
      have bx := below_new wr (.cells #[.slice ax lx cx] 25)
      have hcx : (wr.alloc (.cells #[.slice ax lx cx] 25)).cell? ⟨wr.heap.size, 0, none⟩ = some (.slice ax lx cx) := by simp
      have hltx : wr.heap.size < (wr.alloc (.cells #[.slice ax lx cx] 25)).heap.size := by simp
      have hK2 := (hK.below hb).below bx
      replace i1 := i1.below bx
      obtain ⟨wx, Hwx⟩ : ∃ wx, Hid (wr.alloc (.cells #[.slice ax lx cx] 25) = wx) := ⟨_, rfl⟩
      rw [Hwx.out] at bx hcx hltx hK2 i1
      have HA : Hid _ := bounded3_any wx _ _ x hltx hcx i1
      clear hcx hltx
      go_upto_region 12 with fail
      rw [Hwx.out]
      clear Hwx d1
      go_wp2_with fail
      refine (containsknotsQ wx 23 _ _ HA.out Try.call23 _ l _ (Below.refl _ _) (by exact hK2)).mono ?_
      rintro e w8 ⟨rfl, b⟩
      rw [F.out]
      have R := below_then hb (below_then bx b)
      clear b bx hb hK2 i1 HA F
      go_wp2
      go_roundg (gk - 1)
      case measure => omega
      case rel => exact ⟨i + 1, by omega, by go_num, R⟩
    · replace hK := hK.below hb
      replace hM := hM.below hb
      replace hbs := hbs.below hb
      replace c := below_then c hb
      clear hb
      obtain ⟨wv, Hwv⟩ : ∃ wv, wv = wr := ⟨_, rfl⟩
      subst Hwv
      go_wp2_with fail
      go_loopg [54] lk (fun g i wr => ∃ k : Nat, k + g = lk ∧ i = .int .i64 k ∧ Below wv.heap.size wv wr)
      case atStart => exact ⟨0, by omega, rfl, Below.refl _ _⟩
      case round =>
        obtain ⟨j, hjg, rfl, hb⟩ := hrel
        by_cases hjn : j < lk
        · obtain ⟨g1, o1, u1, rfl, hg1, d0, d1, d2, i1⟩ := (hK.below hb).at hjn
          have F : Hid _ := HQ2.out j (by have := Hlk.out; omega)
          obtain ⟨kn, Hkn⟩ : ∃ kn, Hid (knotOf l j = kn) := ⟨_, rfl⟩
          rw [Hkn.out] at d0 d1 i1 F
          obtain ⟨ax, lx, cx, rfl, _, _, _, _⟩ := id i1
          have bx := below_new wr (.cells #[.int .i64 kn.up, .int .i64 kn.tran, .slice ax lx cx] 39)
          have hb3 := box3_new wr (.int .i64 kn.up) (.int .i64 kn.tran) (.slice ax lx cx) 39
          have hM2 := (hM.below hb).below bx
          have hbs2 := (hbs.below hb).below bx
          replace i1 := i1.below bx
          obtain ⟨wx, Hwx⟩ : ∃ wx, Hid (wr.alloc (.cells #[.int .i64 kn.up, .int .i64 kn.tran, .slice ax lx cx] 39) = wx) := ⟨_, rfl⟩
          rw [Hwx.out] at bx hb3 hM2 hbs2 i1
          have HA : Hid _ := bounded4_any wx _ kn _ hb3 i1
          obtain ⟨y0, y1, y2⟩ := hbs2
          clear hb3
          go_upto_region 18 with fail
          rw [Hwx.out]
          clear Hwx d0 d1 d2
          go_wp2_with fail
          refine (containslists_any wx 26 _ _ HA.out Try.call26 _ sp.marks _ (Below.refl _ _) (by exact hM2)).mono ?_
          rintro e w8 ⟨rfl, b⟩
          rw [F.out]
          have R := below_then hb (below_then bx b)
          clear b bx hb hM2 i1 HA F y0 y1 y2
          go_wp2
          go_roundg (gk - 1)
          case measure => omega
          case rel => exact ⟨j + 1, by omega, by go_num, R⟩
        · have R := below_then c hb
          go_wp2
          go_ret
          exact ⟨rfl, R⟩

end Go.Proofs.Ytbpkebkblkjdhaa
