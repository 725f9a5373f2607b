/- The answers of the document itself for siphon: FMost. -/
import Derived.Test.YtnklepfommakpaaSiph3
import Derived.Test.YtnklepfommakpaaSiphSort
namespace Go.Proofs.Ytnklepfommakpaa
open Go.RowKit
set_option linter.unusedVariables false

theorem box2_put {w : World} {b : Nat} {x y u : Value} {p : Addr} (h : Box2 w b x y) (hp : p.block ≠ b) : Box2 (w.setCell p u) b x y := by
  have ne : ∀ j, (⟨b, j, none⟩ : Addr) ≠ p := fun j e => hp (by rw [← e])
  refine ⟨by simpa [World.setCell] using h.1, ?_, ?_⟩
  · rw [World.cell?_setCell_other _ _ _ _ (Ne.symm (ne 0))]; exact h.2.1
  · rw [World.cell?_setCell_other _ _ _ _ (Ne.symm (ne 1))]; exact h.2.2
theorem core_start {n : NetL} {l ys : List Int} (hp : placesL n l = true) (hs : ys.Pairwise (· < ·)) (hm : ∀ t, t ∈ ys ↔ t ∈ l) : ys = coreTo n l 0 := by
  obtain ⟨_, h2⟩ := placesL_iff.1 hp
  refine up_unique hs (core_sorted n l 0) fun t => ?_
  rw [hm]
  unfold coreTo
  rw [List.mem_filter, mem_range]
  constructor
  · intro h
    have := h2 t h
    exact ⟨by omega, by simpa using h⟩
  · rintro ⟨_, h⟩
    simpa using h
theorem core_range {n : NetL} {l : List Int} {k : Nat} : ∀ j, j < (coreTo n l k).length → 0 ≤ nth (coreTo n l k) j ∧ nth (coreTo n l k) j < n.places := by
  intro j hj
  have e : nth (coreTo n l k) j = (coreTo n l k)[j] := by simp [nth, List.getD, List.getElem?_eq_getElem hj]
  have := mem_range.1 ((core_sub n l k).subset (List.getElem_mem hj))
  rw [e]
  omega
theorem core_len (n : NetL) (l : List Int) (k : Nat) : (coreTo n l k).length ≤ n.places.toNat := by
  have := (core_sub n l k).length_le
  simpa [rangeL] using this
theorem core_most {n : NetL} {l : List Int} {k : Nat} (hp : placesL n l = true) (hk : k ≤ n.places.toNat) (h : (coreTo n l (k + 1)).length = (coreTo n l k).length) : coreTo n l k = mostL n l := by
  have e := step_same (n := n) (l := coreTo n l k) h
  have := core_stable e (n.places.toNat - k)
  unfold mostL
  rw [hp]
  simp only [if_true]
  rw [← this]
  congr 1
  omega
theorem core_on {n : NetL} {l : List Int} {k : Nat} (h : ¬ (coreTo n l (k + 1)).length = (coreTo n l k).length) : k + 1 ≤ n.places.toNat := by
  rcases core_shrink n l k with q | q
  · exact absurd (by show (stepM n (coreTo n l k)).length = _; rw [q]) h
  · have : (coreTo n l (k + 1)).length ≤ (coreTo n l k).length := by show (stepM n (coreTo n l k)).length ≤ _; exact List.length_filter_le _ _
    omega

set_option maxHeartbeats 2000000 in
theorem fmost_any (v u : Value) (n : NetL) (l : List Int) (w : World) (hv : Net w v n) (hu : Ints w u l) (hsm : SmallNet n) :
    Calls Try.prog 15 #[v, u] w fun e w' => ∃ r, e = .returned r ∧ Ints w' r (mostL n l) ∧ Below w.heap.size w w' := by
  obtain ⟨tv, rfl, hT⟩ := hv
  have c := below_new w (.cells #[.int .i64 n.places, tv] 24)
  have hbx := box2_new w (.int .i64 n.places) tv 24
  have hv : Net _ (.agg #[.int .i64 n.places, tv]) n := ⟨_, rfl, hT.below c⟩
  replace hu := hu.below c
  have hT0 := hT
  clear hT
  obtain ⟨ms, Hms⟩ : ∃ ms, Hid (mostL n l = ms) := ⟨_, rfl⟩
  rw [Hms.out]
  go_enter Try.func15, Try.ntmps15
  go_wp2_with fail
  refine (fplaces_any _ _ n l _ (by exact hv) (by exact hu) hsm).mono ?_
  rintro e w1 ⟨rfl, b⟩
  replace hu := hu.below b
  replace hbx := hbx.below b
  replace c := below_then c b
  clear b hv
  cases hp : placesL n l
  · have E : Hid ([] = ms) := by show _ = _; rw [← Hms.out, most_none hp]
    clear hp
    go_wp2
    go_ret
    exact ⟨_, rfl, by rw [← E.out]; exact Ints.nil _, c⟩
  have HP : Hid _ := hp
  clear hp
  obtain ⟨au, lu, cu, rfl, hlu, hmu, _, _⟩ := id hu
  go_wp2_with fail
  refine (values_any _ _ _ _).mono ?_
  rintro e w2 ⟨rfl, rfl⟩
  have b2 := below_new w1 (.cells #[.slice au lu cu] 25)
  have hbu := box1_new w1 (.slice au lu cu) 25
  replace hu := hu.below b2
  replace hbx := hbx.below b2
  replace c := below_then c b2
  obtain ⟨w2, Hw2⟩ : ∃ w2, Hid (w1.alloc (.cells #[.slice au lu cu] 25) = w2) := ⟨_, rfl⟩
  rw [Hw2.out] at hu hbx c hbu ⊢
  clear Hw2 b2
  go_wp2_with fail
  refine (sorted_values w1.heap.size _ l _ hbu (by exact hu)).mono ?_
  rintro e w3 ⟨r3, ys, rfl, hO3, hs3, hl3, hm3⟩
  go_wp2_with fail
  refine (compact_own _ _ _ _ ys hO3 hs3 (by omega)).mono ?_
  rintro e w4 ⟨r4, zs, rfl, hz4, hs4, hm4, b4⟩
  have hz0 : zs = coreTo n l 0 := core_start HP.out hs4 fun t => (hm4 t).trans (hm3 t)
  subst hz0
  replace hbx := hbx.below b4
  replace c := below_then c b4
  clear hO3 hs3 hl3 hm3 hs4 hm4 b4 hu hbu hlu hmu
  obtain ⟨a4, l4, c4, rfl, _, _, _, _⟩ := id hz4
  have hbi : w.heap.size < w4.heap.size := (id hbx).1
  have b5 := below_new w4 (.cells #[.slice a4 l4 c4] 25)
  have hb5 := box1_new w4 (.slice a4 l4 c4) 25
  replace hz4 := hz4.below b5
  replace hbx := hbx.below b5
  replace c := below_then c b5
  obtain ⟨w5, Hw5⟩ : ∃ w5, Hid (w4.alloc (.cells #[.slice a4 l4 c4] 25) = w5) := ⟨_, rfl⟩
  rw [Hw5.out] at hz4 hbx c hb5
  obtain ⟨P, HPn⟩ : ∃ P, Hid (n.places.toNat = P) := ⟨_, rfl⟩
  obtain ⟨bi, Hbi⟩ : ∃ bi, Hid (w4.heap.size = bi) := ⟨_, rfl⟩
  have hfz : w5.frozen? ⟨bi, 0, none⟩ = false := by rw [← Hw5.out, ← Hbi.out]; exact World.frozen?_alloc_at _ _ _ _ rfl
  rw [Hbi.out] at hb5 hbi
  go_wp2_with fail
  rw [Hw5.out, Hbi.out]
  have hok := (placesL_iff.1 HP.out).1
  have hP16 : P ≤ 16 := by have h1 := hok; have h2 := HPn.out; simp only [netOk, headOk, Bool.and_eq_true, decide_eq_true_eq] at h1; omega
  have HOk : Hid (netOk n = true) := hok
  have Hlen : Hid (∀ k, (coreTo n l k).length ≤ P) := fun k => by have := core_len n l k; have := HPn.out; omega
  have Hmost : Hid (∀ k, k ≤ P → (coreTo n l (k + 1)).length = (coreTo n l k).length → coreTo n l k = ms) := fun k h1 h2 => by rw [← Hms.out]; exact core_most HP.out (by rw [HPn.out]; exact h1) h2
  have Hon : Hid (∀ k, ¬ (coreTo n l (k + 1)).length = (coreTo n l k).length → k + 1 ≤ P) := fun k h => by rw [← HPn.out]; exact core_on h
  clear hok Hw5
  go_loopg [6] (P + 1) (fun g o wr => ∃ (k : Nat) (iv : Value), k + g = P + 1 ∧ k ≤ P ∧ Box1 wr bi iv ∧ wr.frozen? ⟨bi, 0, none⟩ = false ∧ Ints wr iv (coreTo n l k) ∧ Box2 wr w.heap.size (.int .i64 n.places) tv ∧ Below w.heap.size w wr)
  case atStart => exact ⟨0, _, by omega, by omega, hb5, hfz, hz4, hbx, c⟩
  case round =>
    clear hb5 hfz hz4 hbx c
    obtain ⟨k, iv, hkg, hkP, hb5, hfz, hI, hbx, c⟩ := hrel
    have hT := hT0.below c
    have HA : Hid _ := most1_any wr w.heap.size bi tv iv n (coreTo n l k) hbx hT hb5 hI HOk.out
    have hlk := Hlen.out k
    obtain ⟨ai, li, ci, rfl, hli, hmi, _, _⟩ := id hI
    obtain ⟨y0, y1⟩ := id hb5
    go_wp2_with fail
    refine (clone_any _ (coreTo n l k) _ (by exact hI)).mono ?_
    rintro e w6 ⟨r6, rfl, hO⟩
    go_wp2_with fail
    refine (deletefuncC2 wr 39 _ _ _ _ HA.out Try.call39 _ (coreTo n l k) core_range _ hO (by omega)).mono ?_
    rintro e w7 ⟨u7, rfl, hU, hUb, b⟩
    have hU7 : Ints w7 u7 (coreTo n l (k + 1)) := hU
    replace hb5 := hb5.below b
    replace hI := hI.below b
    replace hbx := hbx.below b
    replace c := below_then c b
    have hfz7 : w7.frozen? ⟨bi, 0, none⟩ = false := by rw [b.frozen (p := ⟨bi, 0, none⟩) y0]; exact hfz
    have HUb : Hid (∀ a n c, u7 = .slice (some a) n c → a.block ≠ bi) := fun a n c e => by have := hUb a n c e; omega
    clear hU hO b HA hT hfz y0 y1 hUb
    obtain ⟨a7, l7, c7, rfl, hl7, _, _, _⟩ := id hU7
    obtain ⟨y0, y1⟩ := id hb5
    by_cases hEq : l7 = li
    · have E : Hid (coreTo n l k = ms) := Hmost.out k hkP (by omega)
      have hEq2 : ((l7 : Int) == (li : Int)) = true := by rw [hEq]; exact beq_self_eq_true _
      rw [E.out] at hI
      clear E Hmost Hon Hlen
      go_wp2
      go_ret
      exact ⟨_, rfl, hI, c⟩
    · have hk1 := Hon.out k (by omega)
      have hEq2 : ((l7 : Int) == (li : Int)) = false := by rw [beq_eq_false_iff_ne]; omega
      have R1 : Box1 (w7.setCell ⟨bi, 0, none⟩ (.slice a7 l7 c7)) bi (.slice a7 l7 c7) := ⟨by simpa [World.setCell] using y0, World.cell?_setCell_same _ _ _ y1⟩
      have R2 : (w7.setCell ⟨bi, 0, none⟩ (.slice a7 l7 c7)).frozen? ⟨bi, 0, none⟩ = false := by rw [World.frozen?_setCell]; exact hfz7
      have R3 := box2_put (u := .slice a7 l7 c7) (p := ⟨bi, 0, none⟩) hbx (show bi ≠ w.heap.size by omega)
      have R4 := c.setCell (p := ⟨bi, 0, none⟩) (show w.heap.size ≤ bi by omega) (.slice a7 l7 c7)
      have R5 : Ints (w7.setCell ⟨bi, 0, none⟩ (.slice a7 l7 c7)) (.slice a7 l7 c7) (coreTo n l (k + 1)) := hU7.set fun q e => HUb.out q _ _ (by rw [e])
      clear Hmost Hon Hlen hI hbx c hb5
      go_wp2
      go_roundg (gk - 1)
      case measure => omega
      case rel => exact ⟨k + 1, _, by omega, hk1, R1, R2, R5, R3, R4⟩

end Go.Proofs.Ytnklepfommakpaa
