/- Package tongue as it landed: leastTo, walked. -/
import Derived.Test.YteoofibhpifmlaaDoorTongLeastD
import Derived.Test.YteoofibhpifmlaaDoorPlain5
namespace Go.Proofs.YteoofibhpifmlaaDoor
open Go.RowKit Go.Shelf
set_option linter.unusedVariables false
set_option linter.unusedSimpArgs false
set_option maxRecDepth 4000

theorem same_len {x E : List Int} (hl : x.length = E.length) : (coversL x E && coversL E x) = true ↔ x = E := by
  rw [sameL_iff]
  constructor
  · intro h
    apply List.ext_getElem?
    intro j
    have := h j
    unfold nth at this
    by_cases hj : j < x.length
    · rw [List.getElem?_eq_getElem hj, List.getElem?_eq_getElem (by omega)]
      simp only [List.getD, List.getElem?_eq_getElem hj, List.getElem?_eq_getElem (show j < E.length by omega), Option.getD_some] at this
      rw [this]
    · rw [List.getElem?_eq_none (by omega), List.getElem?_eq_none (by omega)]
  · rintro rfl j; rfl

theorem make_introw (w : World) (n : Nat) (hn : n ≤ 300) :
    ∃ w1, (Instr.makeSlice 25 (.int .i64 (n : Int)) (.int .i64 (n : Int))).run Tryd.prog w = .ok (.slice (some ⟨w.heap.size, 0, none⟩) n n) w1 ∧
      Below w.heap.size w w1 ∧ w1.heap.size = w.heap.size + 1 ∧ IntRow w1 w.heap.size n (fun _ => 0) := by
  obtain ⟨i0, hi, hz0, hz1, hz2⟩ := info_parts info_int
  have h := run_make (P := Tryd.prog) w 25 3 i0 (.int .i64 0) Tryd.underlying25 hi hz0 .i64 .i64 n n (by omega) (by omega) (by rw [hz2]; omega) (by omega)
  simp only [Int.toNat_natCast] at h
  refine ⟨_, h, (Below.refl _ _).alloc (Nat.le_refl _) _, by simp, fun j hj => ?_, fun j hj => World.frozen?_alloc_at _ _ _ _ rfl, by simp⟩
  rw [World.cell?_alloc_at _ _ _ _ rfl]
  simp [madeCells, hz1, Value.cells, hj, Nat.mod_one]

/-- The first k marks have their first numbers. -/
def firstTo' (s : SpaceL) (E : List Int) (k : Nat) : Nat → Int := fun m => if m < k then (if markAt s.marks m = E then 0 else 300) else 0

set_option maxRecDepth 100000 in
set_option maxHeartbeats 4000000 in
theorem leastTo_any (n : NetL) (tv mv av u : Value) (s : SpaceL) (E : List Int) (Bn : Nat) (w : World) (hL : LabAt w Bn n tv) (hM : Lists w mv s.marks) (hA : Arcs w av (s.arcs.map arcZ)) (hu : Ints w u E) (hN : s.marks.length ≤ 300)
    (hml : ∀ m, m < s.marks.length → (markAt s.marks m).length = E.length)
    (hs : ∀ a ∈ s.arcs, a.frm < s.marks.length ∧ a.dst < s.marks.length ∧ a.tran < n.trans.length ∧ 0 ≤ labT n a.tran) :
    Calls Tryd.prog 33 #[.agg #[mv, av], u, .func (.func 31) #[] #[.pointer (some ⟨Bn, 0, none⟩)]] w fun e w' => ∃ (Bl : Nat) (f : Nat → Int), e = .returned (.slice (some ⟨Bl, 0, none⟩) s.marks.length s.marks.length) ∧ IntRow w' Bl s.marks.length f ∧
      LeastAll n s E f ∧ w.heap.size ≤ Bl ∧ Below w.heap.size w w' := by
  obtain ⟨am, cm, rfl, _, _⟩ := hM.slice
  obtain ⟨aa, ca, rfl, _⟩ := hA.slice
  obtain ⟨N, HN⟩ : ∃ N, Hid (s.marks.length = N) := ⟨_, rfl⟩
  obtain ⟨la, Hla⟩ : ∃ la, Hid ((s.arcs.map arcZ).length = la) := ⟨_, rfl⟩
  have hdone := @LeastOk.done n s E
  rw [HN.out] at hN hs hM hml hdone ⊢
  rw [Hla.out] at hA ⊢
  obtain ⟨w2, Hw2, b2, hs2, hX2, hF2⟩ := boxesS w (.slice am N cm) (.slice aa la ca) (.func (.func 31) #[] #[.pointer (some ⟨Bn, 0, none⟩)]) 79
  obtain ⟨w3, hmk, b3, hs3, hR3⟩ := make_introw w2 N hN
  rw [hs2] at hmk hs3 hR3
  obtain ⟨x0, x1⟩ := pair_cells hX2
  have b4 := below_new w3 (.cells #[.slice (some ⟨w.heap.size + 2, 0, none⟩) N N] 25)
  have hb4 := heap_alloc_at w3 (.cells #[.slice (some ⟨w.heap.size + 2, 0, none⟩) N N] 25)
  obtain ⟨w4, Hw4⟩ : ∃ w4, Hid (w3.alloc (.cells #[.slice (some ⟨w.heap.size + 2, 0, none⟩) N N] 25) = w4) := ⟨_, rfl⟩
  rw [Hw4.out] at b4 hb4
  rw [hs3] at hb4
  have hX4 := (b4.block _ (by omega)).trans ((b3.block _ (by omega)).trans hX2)
  have hJ4 : LeastJ w (w.heap.size + 2) (w.heap.size + 2 + 1) (w.heap.size + 1) Bn N (firstTo' s E 0) w4 :=
    ⟨(hR3.keep b4.size (b4.block _ (by omega))).same (fun m hm => by simp [firstTo']), hb4, (b4.block _ (by omega)).trans ((b3.block _ (by omega)).trans hF2), below_then (below_then b2 b3) b4⟩
  go_enter Tryd.func33, Tryd.ntmps33
  go_upto_region 1 with fail
  rw [Hw2.out]
  go_upto_region 2 with fail
  rw [Hw4.out]
  clear Hw2 Hw4 hmk x0 x1 hX2 hF2 hR3 b2 b3 b4 hb4 hs2 hs3
  obtain ⟨x0, x1⟩ := pair_cells hX4
  go_wp2_with fail
  clear x0 x1
  go_loopg [17] N (fun g i wr => ∃ k : Nat, k + g = N ∧ i = .int .i64 (k : Int) ∧ LeastJ w (w.heap.size + 2) (w.heap.size + 2 + 1) (w.heap.size + 1) Bn N (firstTo' s E k) wr ∧ wr.heap[w.heap.size]? = some (.cells #[.slice am N cm, .slice aa la ca] 56 (0, 0)))
  case atStart => exact ⟨0, by omega, rfl, hJ4, hX4⟩
  case round =>
    clear hJ4 hX4
    obtain ⟨k, hkg, rfl, hJ, hX⟩ := hrel
    by_cases hk : k < N
    · have hk' : decide ((k : Int) < (N : Int)) = true := by rw [decide_eq_true_eq]; omega
      obtain ⟨c7, _⟩ := box_cell hJ.box7
      have Hnext : Hid (∀ (t : Int) (W5 : World), (t = if markAt s.marks k = E then 0 else 300) → IntRow W5 (w.heap.size + 2) N (updI (firstTo' s E k) k t) → (∀ i, i ≠ w.heap.size + 2 → W5.heap[i]? = wr.heap[i]?) → Below (w.heap.size + 2) wr W5 → LeastJ w (w.heap.size + 2) (w.heap.size + 2 + 1) (w.heap.size + 1) Bn N (firstTo' s E (k + 1)) W5 ∧ W5.heap[w.heap.size]? = some (.cells #[.slice am N cm, .slice aa la ca] 56 (0, 0))) := by
        intro t W5 ht hR ho hB
        refine ⟨⟨hR.same (fun m hm => ?_), (ho _ (by omega)).trans hJ.box7, (ho _ (by omega)).trans hJ.box5, hJ.below.trans (hB.mono (by omega))⟩, (ho _ (by omega)).trans hX⟩
        by_cases e : m = k
        · subst e; rw [updI_same, ht]; simp [firstTo']
        · rw [updI_other _ _ e]
          have : (m < k + 1) ↔ (m < k) := by omega
          simp only [firstTo', this]
      obtain ⟨b1, o1, u1, rfl, _, e1, i1⟩ := (hM.below hJ.below).at hk
      have hu' := hu.below hJ.below
      have hsame := same_len (hml k hk)
      have ro := hJ.row.cells k hk
      have fo := hJ.row.frozen k hk
      have hk0 : firstTo' s E k k = 0 := by simp [firstTo']
      rw [hk0] at ro
      have HJ : Hid _ := hJ
      have HX : Hid _ := hX
      clear hJ hX
      cases hc : (coversL (markAt s.marks k) E && coversL E (markAt s.marks k))
      · have hne : ¬ markAt s.marks k = E := fun e => by rw [hsame.2 e] at hc; cases hc
        have hR5 := HJ.out.row.put (g := updI (firstTo' s E k) k 300) hk (updI_same _ k 300) (fun j hj hne => updI_other _ 300 hne)
        have R := Hnext.out 300 (wr.setCell ⟨w.heap.size + 2, k, none⟩ (.int .i64 300)) (by rw [if_neg hne]) hR5 (fun i hi => Below.heap_setCell _ _ _ _ (by exact hi)) ((Below.refl _ _).setCell (p := ⟨w.heap.size + 2, k, none⟩) (Nat.le_refl _) _)
        clear hsame hR5 hk0
        go_wp2_with fail
        refine (same_any _ _ _ _ _ i1 hu').mono ?_
        rintro e w5 ⟨rfl, rfl⟩
        rw [hc]
        go_wp2
        go_roundg (gk - 1)
        case measure => omega
        case rel => exact ⟨k + 1, by omega, by go_num, R.1, R.2⟩
      · have he : markAt s.marks k = E := hsame.1 hc
        have R := Hnext.out 0 wr (by rw [if_pos he]) (HJ.out.row.same (fun j hj => by
          by_cases e : j = k
          · subst e; rw [updI_same, hk0]
          · rw [updI_other _ _ e])) (fun _ _ => rfl) (Below.refl _ _)
        clear hsame hk0
        go_wp2_with fail
        refine (same_any _ _ _ _ _ i1 hu').mono ?_
        rintro e w5 ⟨rfl, rfl⟩
        rw [hc]
        go_wp2
        go_roundg (gk - 1)
        case measure => omega
        case rel => exact ⟨k + 1, by omega, by go_num, R.1, R.2⟩
    · obtain rfl : k = N := by omega
      obtain ⟨x0, x1⟩ := pair_cells hX
      have hJs : LeastOk n s E (firstTo' s E k) := LeastOk.start fun m hm => by rw [HN.out] at hm; simp [firstTo', hm]
      have hltF : w.heap.size + 2 + 1 < wr.heap.size := (Array.getElem?_eq_some_iff.1 hJ.box7).1
      go_wp2_with fail
      refine (settle_any (σ := Nat → Int) (.slice aa la ca) (s.arcs.map arcZ) 59 #[.pointer (some ⟨w.heap.size + 2 + 1, 0, none⟩), .pointer (some ⟨w.heap.size + 1, 0, none⟩)] (enters_of Tryd.func59 (by kernel_rfl) rfl) wr
        (fun f W => LeastJ w (w.heap.size + 2) (w.heap.size + 2 + 1) (w.heap.size + 1) Bn k f W ∧ LeastOk n s E f) (sumI k) (LeastShut n) (fun f W h => hA.below h.1.below)
        (fun f W W' h hb => ⟨h.1.to hb hJ.below.size (by omega) (by omega) (by omega), h.2⟩)
        (fun f W a ha h hw => by
          obtain ⟨b, hb, rfl⟩ := List.mem_map.1 ha
          obtain ⟨q1, q2, q3, q4⟩ := hs b hb
          exact least_step n tv s E k HN.out hN w (w.heap.size + 2) (w.heap.size + 2 + 1) (w.heap.size + 1) Bn wr.heap.size hL ⟨by omega, by omega⟩ ⟨by omega, by omega⟩ ⟨by omega, by omega⟩ (by omega) (by omega) f W b.frm b.tran b.dst hb q1 q2 q3 q4 h.1 h.2 hw)
        (firstTo' s E k) ⟨hJ, hJs⟩).mono ?_
      rintro e w5 ⟨⟨v, rfl⟩, f, ⟨hJf, hFf⟩, hsh, _⟩
      have R := hdone hFf hN (fun a ha => ⟨(hs a ha).1, (hs a ha).2.1, (hs a ha).2.2.2⟩) hsh
      obtain ⟨c7, _⟩ := box_cell hJf.box7
      clear hJ hX x0 x1 hJs
      go_wp2
      go_ret
      exact ⟨_, f, rfl, hJf.row, R, by omega, hJf.below⟩

end Go.Proofs.YteoofibhpifmlaaDoor
