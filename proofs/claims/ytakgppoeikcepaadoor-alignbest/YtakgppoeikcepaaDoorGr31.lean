import Derived.Test.YtakgppoeikcepaaDoorGr30
import Derived.Test.YtakgppoeikcepaaDoorGr00
import Derived.Test.YtakgppoeikcepaaDoorGr28
import Derived.Test.YtakgppoeikcepaaDoorGr10
/- The small trial of package align that the laws make first: it answers true. (Made by tools/gen_alive21.py.) -/
namespace Go.Proofs.YtakgppoeikcepaaDoor
open Go.RowKit
set_option linter.unusedVariables false
set_option linter.unusedSimpArgs false
set_option maxRecDepth 100000

def net21 : NetL := ⟨3, [⟨1, [1, 0, 0], [0, 1, 0]⟩, ⟨2, [0, 1, 0], [0, 0, 1]⟩]⟩

theorem lit_net21 (w W : World) (hW : W = (((((w.alloc (.cells #[.int .i64 1, .int .i64 0, .int .i64 0] 3)).alloc (.cells #[.int .i64 0, .int .i64 1, .int .i64 0] 3)).alloc (.cells #[.int .i64 0, .int .i64 1, .int .i64 0] 3)).alloc (.cells #[.int .i64 0, .int .i64 0, .int .i64 1] 3)).alloc (.cells #[.int .i64 1, .slice (some ⟨w.heap.size, 0, none⟩) 3 3, .slice (some ⟨w.heap.size + 1, 0, none⟩) 3 3, .int .i64 2, .slice (some ⟨w.heap.size + 1 + 1, 0, none⟩) 3 3, .slice (some ⟨w.heap.size + 1 + 1 + 1, 0, none⟩) 3 3] 39))) : Trans W (.slice (some ⟨w.heap.size + 1 + 1 + 1 + 1, 0, none⟩) 2 2) net21.trans ∧ Below w.heap.size w W ∧ W.heap.size = w.heap.size + 1 + 1 + 1 + 1 + 1 := by
  have b0 := below_new w (.cells #[.int .i64 1, .int .i64 0, .int .i64 0] 3)
  have i0 : Ints (w.alloc (.cells #[.int .i64 1, .int .i64 0, .int .i64 0] 3)) (.slice (some ⟨w.heap.size, 0, none⟩) 3 3) [1, 0, 0] := ints_lit w _ [1, 0, 0] 3 3 rfl (by omega) rfl
  generalize hw0 : w.alloc (.cells #[.int .i64 1, .int .i64 0, .int .i64 0] 3) = w0 at b0 i0 hW
  have s0 : w0.heap.size = w.heap.size + 1 := by rw [← hw0]; simp
  clear hw0
  have b1 := below_new w0 (.cells #[.int .i64 0, .int .i64 1, .int .i64 0] 3)
  have i1 : Ints (w0.alloc (.cells #[.int .i64 0, .int .i64 1, .int .i64 0] 3)) (.slice (some ⟨w.heap.size + 1, 0, none⟩) 3 3) [0, 1, 0] := ints_lit w0 _ [0, 1, 0] 3 3 rfl (by omega) s0.symm
  generalize hw1 : w0.alloc (.cells #[.int .i64 0, .int .i64 1, .int .i64 0] 3) = w1 at b1 i1 hW
  have s1 : w1.heap.size = w.heap.size + 1 + 1 := by rw [← hw1]; simp [s0]
  clear hw1
  replace i0 := i0.below b1
  have b2 := below_new w1 (.cells #[.int .i64 0, .int .i64 1, .int .i64 0] 3)
  have i2 : Ints (w1.alloc (.cells #[.int .i64 0, .int .i64 1, .int .i64 0] 3)) (.slice (some ⟨w.heap.size + 1 + 1, 0, none⟩) 3 3) [0, 1, 0] := ints_lit w1 _ [0, 1, 0] 3 3 rfl (by omega) s1.symm
  generalize hw2 : w1.alloc (.cells #[.int .i64 0, .int .i64 1, .int .i64 0] 3) = w2 at b2 i2 hW
  have s2 : w2.heap.size = w.heap.size + 1 + 1 + 1 := by rw [← hw2]; simp [s1]
  clear hw2
  replace i0 := i0.below b2
  replace i1 := i1.below b2
  have b3 := below_new w2 (.cells #[.int .i64 0, .int .i64 0, .int .i64 1] 3)
  have i3 : Ints (w2.alloc (.cells #[.int .i64 0, .int .i64 0, .int .i64 1] 3)) (.slice (some ⟨w.heap.size + 1 + 1 + 1, 0, none⟩) 3 3) [0, 0, 1] := ints_lit w2 _ [0, 0, 1] 3 3 rfl (by omega) s2.symm
  generalize hw3 : w2.alloc (.cells #[.int .i64 0, .int .i64 0, .int .i64 1] 3) = w3 at b3 i3 hW
  have s3 : w3.heap.size = w.heap.size + 1 + 1 + 1 + 1 := by rw [← hw3]; simp [s2]
  clear hw3
  replace i0 := i0.below b3
  replace i1 := i1.below b3
  replace i2 := i2.below b3
  have bz := below_new w3 (.cells #[.int .i64 1, .slice (some ⟨w.heap.size, 0, none⟩) 3 3, .slice (some ⟨w.heap.size + 1, 0, none⟩) 3 3, .int .i64 2, .slice (some ⟨w.heap.size + 1 + 1, 0, none⟩) 3 3, .slice (some ⟨w.heap.size + 1 + 1 + 1, 0, none⟩) 3 3] 39)
  replace i0 := i0.below bz
  replace i1 := i1.below bz
  replace i2 := i2.below bz
  replace i3 := i3.below bz
  have bb := below_then b0 (below_then b1 (below_then b2 (below_then b3 (bz))))
  rw [hW]
  refine ⟨⟨_, _, _, rfl, rfl, by omega, ⟨by omega, by omega, fun h => by cases h⟩, fun j hj => ?_⟩, bb, by simp [s3]⟩
  match j, hj with
  | 0, _ => exact ⟨_, 0, _, _, rfl, by simp [s3], by rw [World.cell?_alloc_at _ _ _ _ s3.symm]; rfl, by rw [World.cell?_alloc_at _ _ _ _ s3.symm]; rfl, by rw [World.cell?_alloc_at _ _ _ _ s3.symm]; rfl, i0, i1⟩
  | 1, _ => exact ⟨_, 0, _, _, rfl, by simp [s3], by rw [World.cell?_alloc_at _ _ _ _ s3.symm]; rfl, by rw [World.cell?_alloc_at _ _ _ _ s3.symm]; rfl, by rw [World.cell?_alloc_at _ _ _ _ s3.symm]; rfl, i2, i3⟩
  | j + 2, h => exact absurd (show j + 2 < 2 from h) (by omega)

theorem lit_net21_b (w W : World) (hT : Trans W (.slice (some ⟨w.heap.size + 1 + 1 + 1 + 1, 0, none⟩) 2 2) net21.trans) (hb : Below w.heap.size w W) (hs : W.heap.size = w.heap.size + 1 + 1 + 1 + 1 + 1) :
    ∃ b a, Value.pointer (some ⟨w.heap.size + 1 + 1 + 1 + 1 + 1, 0, none⟩) = .pointer (some ⟨b, 0, none⟩) ∧ Box2 (W.alloc (.cells #[.int .i64 3, .slice (some ⟨w.heap.size + 1 + 1 + 1 + 1, 0, none⟩) 2 2] 24)) b (.int .i64 3) (.slice a 2 2) ∧ Net (W.alloc (.cells #[.int .i64 3, .slice (some ⟨w.heap.size + 1 + 1 + 1 + 1, 0, none⟩) 2 2] 24)) (.agg #[.int .i64 3, .slice a 2 2]) net21 ∧ Below w.heap.size w (W.alloc (.cells #[.int .i64 3, .slice (some ⟨w.heap.size + 1 + 1 + 1 + 1, 0, none⟩) 2 2] 24)) := by
  have b1 := below_new W (.cells #[.int .i64 3, .slice (some ⟨w.heap.size + 1 + 1 + 1 + 1, 0, none⟩) 2 2] 24)
  have hx := box2_new W (.int .i64 3) (.slice (some ⟨w.heap.size + 1 + 1 + 1 + 1, 0, none⟩) 2 2) 24
  rw [hs] at hx
  exact ⟨_, _, rfl, hx, ⟨_, rfl, hT.below b1⟩, below_then hb b1⟩


theorem net21_shape : ShapeOk net21 0 2 := by
  have a1 : WayP net21 0 1 := (WayP.here net21 0).step (k := 0) (by decide) (by decide) (by decide)
  have a2 : WayP net21 0 2 := a1.step (k := 1) (by decide) (by decide) (by decide)
  have z1 : WayP (turnL net21) 2 1 := (WayP.here (turnL net21) 2).step (k := 1) (by decide) (by decide) (by decide)
  have z0 : WayP (turnL net21) 2 0 := z1.step (k := 0) (by decide) (by decide) (by decide)
  have three : ∀ p : Nat, (p : Int) < net21.places → p = 0 ∨ p = 1 ∨ p = 2 := fun p hp => by have : (p : Int) < 3 := hp; omega
  have two : ∀ k : Nat, k < net21.trans.length → k = 0 ∨ k = 1 := fun k hk => by have : k < 2 := hk; omega
  refine ⟨by decide, by decide, by decide, by decide, by decide, by decide, fun p hp => ?_, fun p hp => ?_, fun k hk => ?_, fun k hk => ?_, fun k hk => ?_, fun k hk => ?_⟩
  · rcases three p hp with rfl | rfl | rfl
    · exact WayP.here _ _
    · exact a1
    · exact a2
  · rcases three p hp with rfl | rfl | rfl
    · exact z0
    · exact z1
    · exact WayP.here _ _
  · rcases two k hk with rfl | rfl
    · exact ⟨0, WayP.here _ _, by decide⟩
    · exact ⟨1, a1, by decide⟩
  · rcases two k hk with rfl | rfl
    · exact ⟨1, z1, by decide⟩
    · exact ⟨2, WayP.here _ _, by decide⟩
  · rcases two k hk with rfl | rfl <;> decide
  · rcases two k hk with rfl | rfl <;> decide

def space21 : SpaceL := ⟨[[1, 0, 0], [0, 1, 0], [0, 0, 1]], [⟨0, 0, 1⟩, ⟨1, 1, 2⟩]⟩
theorem graph21 : graphL net21 (startL net21.places 0) 300 = (space21, 0) := by kernel_rfl
theorem err21 : TongErr net21 0 2 0 := .inr ⟨net21_shape, by rw [graph21]⟩
/-- Each move goes one on, and is paid for but where it sees what it does. -/
theorem lay21 {tr : List Int} : ∀ {ms : List MoveL} {p q : Nat × Nat}, Lay space21.arcs (labT net21) tr p ms q → p.1 + p.2 ≤ q.1 + q.2 ∧ 2 * ms.length + p.1 + p.2 = costM ms + q.1 + q.2
  | [], p, q, h => by obtain rfl : p = q := h; exact ⟨Nat.le_refl _, by show 2 * 0 + _ + _ = 0 + _ + _; omega⟩
  | m :: ms, p, q, h => by
    obtain ⟨r, h1, h2⟩ := h
    obtain ⟨g0, g⟩ := lay21 h2
    have e : costM (m :: ms) = priceM m + costM ms := rfl
    rw [e, List.length_cons]
    rcases h1 with ⟨_, rfl, rfl⟩ | ⟨a, ha, e, h⟩
    · have : priceM ⟨2, nth tr p.2, 0⟩ = 1 := by unfold priceM; simp
      simp only at g g0
      omega
    · have hl : a.dst = a.frm + 1 ∧ labT net21 a.tran ≠ 0 := by
        have ha' : a = ⟨0, 0, 1⟩ ∨ a = ⟨1, 1, 2⟩ := by simpa [space21] using ha
        rcases ha' with rfl | rfl <;> exact ⟨rfl, by decide⟩
      rcases h with ⟨rfl, rfl⟩ | ⟨_, _, _, rfl, rfl⟩
      · have : priceM ⟨3, labT net21 a.tran, a.tran⟩ = 1 := by unfold priceM; simp [hl.2]
        simp only at g g0
        omega
      · have : priceM ⟨1, labT net21 a.tran, a.tran⟩ = 0 := by unfold priceM; simp
        simp only at g g0
        omega
theorem arc21 {a : ArcL} (h : a ∈ space21.arcs) : a = ⟨0, 0, 1⟩ ∨ a = ⟨1, 1, 2⟩ := by simpa [space21] using h
theorem way21 : ∀ {k : Nat} {w : List Int}, WayN space21.arcs (labT net21) k 0 w 2 → w = [1, 2] := by
  have h2 : ∀ {k : Nat} {w : List Int}, WayN space21.arcs (labT net21) k 2 w 2 → w = [] := fun {k w} h => by
    cases k with
    | zero => exact h.2
    | succ k => obtain ⟨a, ha, e, _⟩ := h; rcases arc21 ha with rfl | rfl <;> simp at e
  have h1 : ∀ {k : Nat} {w : List Int}, WayN space21.arcs (labT net21) k 1 w 2 → w = [2] := fun {k w} h => by
    cases k with
    | zero => have := h.1; omega
    | succ k =>
      obtain ⟨a, ha, e, u, g1, rfl⟩ := h
      rcases arc21 ha with rfl | rfl
      · simp at e
      · rw [h2 g1]; rfl
  intro k w h
  cases k with
  | zero => have := h.1; omega
  | succ k =>
    obtain ⟨a, ha, e, u, g1, rfl⟩ := h
    rcases arc21 ha with rfl | rfl
    · rw [h1 g1]; rfl
    · simp at e
theorem end21 {e : Nat} (h : e < space21.marks.length) (h2 : markAt space21.marks e = startL net21.places 2) : e = 2 := by
  have h3 : e < 3 := h
  have : e = 0 ∨ e = 1 ∨ e = 2 := by omega
  rcases this with rfl | rfl | rfl
  · exact absurd h2 (by decide)
  · exact absurd h2 (by decide)
  · rfl
theorem find21 {tr : List Int} {ms : List MoveL} {c d : Int} (h : AlignAns net21 0 2 tr ms c d) (hl : tr.length ≤ 60) : d = 0 ∧ Lay space21.arcs (labT net21) tr (0, 0) ms (2, tr.length) ∧ (costM ms : Int) = c ∧ Cheap space21.arcs (labT net21) tr (0, 0) (2, tr.length) (costM ms) := by
  obtain ⟨d0, h1, h2, h3⟩ := h.ex
  obtain rfl := h1.unique err21
  rcases h3 rfl with ⟨q, _⟩ | ⟨_, q, _⟩ | ⟨_, q1, e, q2, q3, q4, q5, q6⟩
  · omega
  · exfalso
    refine q 2 ?_ ?_
    · rw [graph21]; decide
    · rw [graph21]; rfl
  · rw [graph21] at q2 q3 q4 q6
    obtain rfl := end21 q2 q3
    exact ⟨q1, q4, q5, q6⟩
theorem ans21a {ms : List MoveL} {c d : Int} (h : AlignAns net21 0 2 [2, 5] ms c d) : d = 0 ∧ c = 2 ∧ ms.length = 3 := by
  obtain ⟨h1, h2, h3, h4⟩ := find21 h (by decide)
  have h5 := (lay21 h2).2
  have h6 := h4.2 [⟨3, 1, 0⟩, ⟨1, 2, 1⟩, ⟨2, 5, 0⟩] ⟨(1, 0), .inr ⟨⟨0, 0, 1⟩, by simp [space21], rfl, .inl ⟨rfl, rfl⟩⟩, (2, 1), .inr ⟨⟨1, 1, 2⟩, by simp [space21], rfl, .inr ⟨by decide, by decide, rfl, rfl, rfl⟩⟩, (2, 2), .inl ⟨by decide, rfl, rfl⟩, rfl⟩
  have h7 : costM [⟨3, 1, 0⟩, ⟨1, 2, 1⟩, ⟨2, 5, 0⟩] = 2 := by decide
  have h8 : costM ms ≠ 0 := fun e => by
    obtain ⟨k, hw⟩ := lay_word.1 ⟨ms, h2, e⟩
    have := way21 hw
    simp at this
  have e2 : ([2, 5] : List Int).length = 2 := rfl
  rw [e2] at h5
  simp only at h5
  refine ⟨h1, ?_, ?_⟩ <;> omega
theorem ans21b {ms : List MoveL} {c d : Int} (h : AlignAns net21 0 2 [1, 2] ms c d) : d = 0 ∧ c = 0 := by
  obtain ⟨h1, h2, h3, h4⟩ := find21 h (by decide)
  have h6 := h4.2 [⟨1, 1, 0⟩, ⟨1, 2, 1⟩] ⟨(1, 1), .inr ⟨⟨0, 0, 1⟩, by simp [space21], rfl, .inr ⟨by decide, by decide, rfl, rfl, rfl⟩⟩, (2, 2), .inr ⟨⟨1, 1, 2⟩, by simp [space21], rfl, .inr ⟨by decide, by decide, rfl, rfl, rfl⟩⟩, rfl⟩
  have h7 : costM [⟨1, 1, 0⟩, ⟨1, 2, 1⟩] = 0 := by decide
  exact ⟨h1, by omega⟩
theorem MovesV.slice {w : World} {v : Value} {ms : List MoveL} (h : MovesV w v ms) : ∃ a c, v = .slice a ms.length c := by
  obtain ⟨a, c, e, _⟩ := CellsV.slice h
  exact ⟨a, c, e⟩

set_option maxHeartbeats 4000000 in
theorem alive21_any (w : World) :
    Calls Tryd.prog 5 #[] w fun e w' => e = .returned (.bool true) ∧ Below w.heap.size w w' := by
  obtain ⟨hT, hb, hs⟩ := lit_net21 w _ rfl
  go_enter Tryd.func5, Tryd.ntmps5
  go_upto_region 1 with fail
  go_cut [1] (fun p wc => ∃ b a, p = .pointer (some ⟨b, 0, none⟩) ∧ Box2 wc b (.int .i64 3) (.slice a 2 2) ∧ Net wc (.agg #[.int .i64 3, .slice a 2 2]) net21 ∧ Below w.heap.size w wc)
  case first =>
    have HT : Hid _ := hT
    have HB : Hid _ := hb
    have HS : Hid _ := hs
    clear hT hb hs
    go_wp2_with fail
    go_meet
    exact lit_net21_b w _ HT.out HB.out HS.out
  case rest =>
    clear hT hb hs
    obtain ⟨bk, a, rfl, hbx, hv, c⟩ := hcut
    obtain ⟨w0, rfl⟩ : ∃ w0, w0 = wc := ⟨_, rfl⟩
    have bt := below_new w0 (.cells #[.int .i64 2, .int .i64 5] 3)
    have ht : Ints (w0.alloc (.cells #[.int .i64 2, .int .i64 5] 3)) (.slice (some ⟨w0.heap.size, 0, none⟩) 2 2) [2, 5] := ints_lit w0 _ [2, 5] 3 2 rfl (by omega) rfl
    have hC := align_any (i := 0) (o := 2) (hv.below bt) ht
    unfold alignGoes at hC
    obtain ⟨x0, x1, x2⟩ := id hbx
    go_upto_region 3 with (go_at_call 6; refine hC.mono ?_; rintro e w1 ⟨r, ms, c1, d1, rfl, hA, hM, b⟩; obtain ⟨rfl, rfl, hml⟩ := ans21a hA; obtain ⟨ra, rc, rfl⟩ := hM.slice; rw [hml])
    replace b := below_then bt b
    replace hbx := hbx.below b
    replace hv := hv.below b
    replace c := below_then c b
    clear x0 x1 x2 b bt ht hA hC hM hml
    have bt := below_new w1 (.cells #[.int .i64 1, .int .i64 2] 3)
    have ht : Ints (w1.alloc (.cells #[.int .i64 1, .int .i64 2] 3)) (.slice (some ⟨w1.heap.size, 0, none⟩) 2 2) [1, 2] := ints_lit w1 _ [1, 2] 3 2 rfl (by omega) rfl
    have hC := align_any (i := 0) (o := 2) (hv.below bt) ht
    unfold alignGoes at hC
    obtain ⟨x0, x1, x2⟩ := id hbx
    go_upto_region 4 with (go_at_call 6; refine hC.mono ?_; rintro e w2 ⟨r, ms2, c2, d2, rfl, hA, hM, b⟩; obtain ⟨rfl, rfl⟩ := ans21b hA; obtain ⟨ra2, rc2, rfl⟩ := hM.slice)
    replace b := below_then bt b
    replace c := below_then c b
    clear x0 x1 x2 b bt ht hA hC hM hv hbx
    go_wp2
    go_ret
    exact ⟨rfl, c⟩

end Go.Proofs.YtakgppoeikcepaaDoor

/- Beginnings of words in memory. -/
namespace Go.Proofs.YtakgppoeikcepaaDoor
open Go.RowKit
set_option linter.unusedVariables false
set_option maxRecDepth 4000

/-- The cells of a beginning: where its word lies, and the marks. -/
def begCell (b : Value × List Int × SetL) : List Value := [b.1, .int .u64 (b.2.2.at_ 0 : Nat), .int .u64 (b.2.2.at_ 1 : Nat), .int .u64 (b.2.2.at_ 2 : Nat), .int .u64 (b.2.2.at_ 3 : Nat), .int .u64 (b.2.2.at_ 4 : Nat)]
def begCells (bs : List (Value × List Int × SetL)) : List Value := bs.flatMap begCell
theorem begCells_len : ∀ (bs : List (Value × List Int × SetL)), (begCells bs).length = bs.length * 6
  | [] => rfl
  | b :: bs => by simp only [begCells, List.flatMap_cons, List.length_append] at *; have := begCells_len bs; simp only [begCells] at this; rw [this]; simp [begCell]; omega
theorem begCells_append (bs cs : List (Value × List Int × SetL)) : begCells (bs ++ cs) = begCells bs ++ begCells cs := by simp [begCells]
theorem begCells_at : ∀ (bs : List (Value × List Int × SetL)) (j : Nat) (hj : j < bs.length) (i : Nat), i < 6 → (begCells bs)[j * 6 + i]? = (begCell bs[j])[i]?
  | b :: bs, 0, hj, i, hi => by
    simp only [begCells, List.flatMap_cons, Nat.zero_mul, Nat.zero_add, List.getElem_cons_zero]
    rw [List.getElem?_append_left (by simpa [begCell] using hi)]
  | b :: bs, j + 1, hj, i, hi => by
    have := begCells_at bs j (by simpa using hj) i hi
    simp only [begCells, List.flatMap_cons] at this ⊢
    rw [List.getElem?_append_right (by simp [begCell]; omega)]
    simp only [List.getElem_cons_succ]
    rw [← this]
    congr 1
    simp [begCell]; omega

/-- A value that is a slice of these beginnings. -/
def Begs (w : World) (v : Value) (L : List (List Int × SetL)) : Prop :=
  ∃ a len cap, v = .slice a len cap ∧ L.length = len ∧ Shape a len cap ∧ ∀ j (hj : j < L.length), ∃ b off u, a = some ⟨b, off, none⟩ ∧ b < w.heap.size ∧ w.cell? ⟨b, off + j * 6, none⟩ = some u ∧ Ints w u L[j].1 ∧ SetC w b (off + j * 6 + 1) L[j].2
theorem Begs.below {w w' : World} {v : Value} {L : List (List Int × SetL)} (h : Begs w v L) (hb : Below w.heap.size w w') : Begs w' v L := by
  obtain ⟨a, len, cap, e, hl, hs, hr⟩ := h
  refine ⟨a, len, cap, e, hl, hs, fun j hj => ?_⟩
  obtain ⟨b, off, u, h1, h2, h3, h4, h5⟩ := hr j hj
  exact ⟨b, off, u, h1, Nat.lt_of_lt_of_le h2 hb.size, (hb.cell (p := ⟨b, _, none⟩) h2).trans h3, h4.below hb, h5.below hb⟩
theorem Begs.at {w : World} {a : Option Addr} {len cap : Nat} {L : List (List Int × SetL)} (h : Begs w (.slice a len cap) L) {j : Nat} (hj : j < L.length) : ∃ b off u, a = some ⟨b, off, none⟩ ∧ b < w.heap.size ∧ w.cell? ⟨b, off + j * 6, none⟩ = some u ∧ Ints w u L[j].1 ∧ SetC w b (off + j * 6 + 1) L[j].2 := by
  obtain ⟨a', len', cap', e, hl, hs, hr⟩ := h
  injection e with e1 e2 e3
  subst e1 e2 e3
  exact hr j hj
theorem Begs.slice {w : World} {v : Value} {L : List (List Int × SetL)} (h : Begs w v L) : ∃ a cap, v = .slice a L.length cap := by
  obtain ⟨a, len, cap, e, hl, hs, hr⟩ := h
  exact ⟨a, cap, by rw [e, hl]⟩

/-- Beginnings that the call itself lists; their words lie elsewhere. -/
structure BegOut (B : Nat) (w0 wr : World) (v : Value) (bs : List (Value × List Int × SetL)) : Prop where
  own : wr.ownsRow B 101 6 v bs.length (begCells bs)
  below : Below B w0 wr
  size : B ≤ wr.heap.size
  row : ∀ j (hj : j < bs.length), On (fun k => B ≤ k ∧ some k ≠ v.ownBlock) wr (fun w' => Ints w' bs[j].1 bs[j].2.1)

theorem BegOut.start {w : World} (B : Nat) {w0 : World} (hb : Below B w0 w) (hB : B ≤ w.heap.size) : BegOut B w0 w (.slice none 0 0) [] := ⟨World.ownsRow_nil _ _ _ _, hb, hB, fun j hj => absurd hj (by simp)⟩
theorem BegOut.to {B : Nat} {w0 wr w' : World} {v : Value} {bs : List (Value × List Int × SetL)} (h : BegOut B w0 wr v bs) (hb : Below wr.heap.size wr w') : BegOut B w0 w' v bs :=
  ⟨((ownsRow_on h.own).below hb).now, h.below.trans (hb.mono h.size), Nat.le_trans h.size hb.size, fun j hj => (h.row j hj).below hb⟩
theorem BegOut.step {B : Nat} {w0 wr wB wC W : World} {v v' c : Value} {bs : List (Value × List Int × SetL)} {xs : List Int} {q : SetL} (h : BegOut B w0 wr v bs)
    (hb : Below wr.heap.size wr wB) (k1 : On (fun k => wr.heap.size ≤ k) wB (fun w' => Ints w' c xs)) (hW : Below wB.heap.size wB W)
    (hown : wC.ownsRow B 101 6 v' (bs.length + 1) (begCells bs ++ begCell (c, xs, q))) (hg : W.grownBy wC v.ownBlock)
    (hat : v'.ownBlock = v.ownBlock ∨ v'.ownBlock = some W.heap.size) : BegOut B w0 wC v' (bs ++ [(c, xs, q)]) := by
  have g := h.to (hb.trans (hW.mono hb.size))
  have hov : ∀ k, v.ownBlock = some k → B ≤ k ∧ k < wr.heap.size := fun k hk => ownsRow_lt h.own hk
  have s1 := hb.size
  have s2 := hW.size
  have keep : ∀ {R : World → Prop}, On (fun k => B ≤ k ∧ some k ≠ v.ownBlock) W R → On (fun k => B ≤ k ∧ some k ≠ v'.ownBlock) wC R := by
    intro R hR w2 hs hk
    refine hR w2 (Nat.le_trans hg.size hs) fun k hlt ⟨hkx, hkr⟩ => ?_
    have hk' : some k ≠ v'.ownBlock := by
      rcases hat with e | e <;> rw [e]
      · exact hkr
      · simp; omega
    rw [hk k (Nat.lt_of_lt_of_le hlt hg.size) ⟨hkx, hk'⟩]
    exact hg.block k hlt hkr
  have hB := h.size
  refine ⟨?_, ?_, Nat.le_trans g.size hg.size, fun j hj => ?_⟩
  · rw [begCells_append, List.length_append]
    simpa [begCells] using hown
  · exact g.below.grown hg g.size (fun k hk => (hov k hk).1)
  · by_cases hjl : j < bs.length
    · rw [List.getElem_append_left hjl]
      exact keep (g.row j hjl)
    · have e : j = bs.length := by simp at hj; omega
      subst e
      rw [List.getElem_append_right (Nat.le_refl _)]
      simp only [Nat.sub_self, List.getElem_cons_zero]
      refine keep ((k1.below hW).weaken fun k hlt hk => ⟨by omega, fun e => ?_⟩)
      have := hov k e.symm
      omega
/-- The same, with where the words lie. -/
def BegsV (w : World) (v : Value) (bs : List (Value × List Int × SetL)) : Prop :=
  ∃ a len cap, v = .slice a len cap ∧ bs.length = len ∧ Shape a len cap ∧ ∀ j (hj : j < bs.length), ∃ b off, a = some ⟨b, off, none⟩ ∧ b < w.heap.size ∧ w.cell? ⟨b, off + j * 6, none⟩ = some bs[j].1 ∧ Ints w bs[j].1 bs[j].2.1 ∧ SetC w b (off + j * 6 + 1) bs[j].2.2
theorem BegsV.begs {w : World} {v : Value} {bs : List (Value × List Int × SetL)} (h : BegsV w v bs) : Begs w v (bs.map (·.2)) := by
  obtain ⟨a, len, cap, e, hl, hs, hr⟩ := h
  refine ⟨a, len, cap, e, by simpa using hl, hs, fun j hj => ?_⟩
  obtain ⟨b, off, h1, h2, h3, h4, h5⟩ := hr j (by simpa using hj)
  exact ⟨b, off, _, h1, h2, h3, by simpa using h4, by simpa using h5⟩
theorem BegsV.at {w : World} {a : Option Addr} {len cap : Nat} {bs : List (Value × List Int × SetL)} (h : BegsV w (.slice a len cap) bs) {j : Nat} (hj : j < bs.length) : ∃ b off, a = some ⟨b, off, none⟩ ∧ b < w.heap.size ∧ w.cell? ⟨b, off + j * 6, none⟩ = some bs[j].1 ∧ Ints w bs[j].1 bs[j].2.1 ∧ SetC w b (off + j * 6 + 1) bs[j].2.2 := by
  obtain ⟨a', len', cap', e, hl, hs, hr⟩ := h
  injection e with e1 e2 e3
  subst e1 e2 e3
  exact hr j hj
theorem BegsV.slice {w : World} {v : Value} {bs : List (Value × List Int × SetL)} (h : BegsV w v bs) : ∃ a cap, v = .slice a bs.length cap := by
  obtain ⟨a, len, cap, e, hl, hs, hr⟩ := h
  exact ⟨a, cap, by rw [e, hl]⟩
theorem BegOut.begsV {B : Nat} {w0 wr : World} {v : Value} {bs : List (Value × List Int × SetL)} (h : BegOut B w0 wr v bs) : On (fun k => B ≤ k) wr (fun w' => BegsV w' v bs) := by
  intro w' hs hk
  have hown := ((ownsRow_on h.own) w' hs fun k hlt hD => hk k hlt hD.2)
  have hrow : ∀ j (hj : j < bs.length), Ints w' bs[j].1 bs[j].2.1 := fun j hj => (h.row j hj) w' hs fun k hlt hD => hk k hlt hD.1
  have hown0 := hown
  obtain ⟨_, hcase⟩ := hown
  rcases hcase with ⟨rfl, h0⟩ | ⟨g, cap', cur, rfl, hg, hh, hn, hcap, hsz, htake⟩
  · have e : bs = [] := List.length_eq_zero_iff.1 h0
    subst e
    exact ⟨none, 0, 0, rfl, rfl, ⟨by omega, by omega, fun _ => rfl⟩, fun j hj => absurd hj (by simp)⟩
  · refine ⟨_, _, _, rfl, by simp, ⟨hn, by unfold maxLen at hcap; omega, fun h => by cases h⟩, fun j hj => ?_⟩
    have hj' : j < bs.length := by simpa using hj
    have hlt : g < w'.heap.size := (Array.getElem?_eq_some_iff.1 hh).1
    have cell : ∀ i, i < 6 → w'.cell? ⟨g, j * 6 + i, none⟩ = (begCell bs[j])[i]? := fun i hi => by
      rw [hown0.cellAt (j * 6 + i) (by omega)]
      exact begCells_at bs j hj' i hi
    refine ⟨g, 0, rfl, hlt, ?_, ?_, ⟨hlt, ?_, ?_, ?_, ?_, ?_⟩⟩
    · have := cell 0 (by omega); simpa [begCell] using this
    · exact hrow j hj'
    · have := cell 1 (by omega); simpa [begCell] using this
    · have := cell 2 (by omega); simpa [begCell, Nat.add_assoc] using this
    · have := cell 3 (by omega); simpa [begCell, Nat.add_assoc] using this
    · have := cell 4 (by omega); simpa [begCell, Nat.add_assoc] using this
    · have := cell 5 (by omega); simpa [begCell, Nat.add_assoc] using this

theorem info_begun : (Tryd.prog.info? 101).map (fun i => (i.zero, i.size, i.bytes)) = some (some (.agg #[.slice none 0 0, .int .u64 0, .int .u64 0, .int .u64 0, .int .u64 0, .int .u64 0]), 6, 64) := by kernel_rfl

theorem wpr_append_beg {o : Oper} {a : Act} {K : Act → World → Prop} {Q : Exit → Act → World → Prop} {Y : Nat → Option Bool} (hwt : Region.wanted o Y = true) (s x : Operand)
    (ho : o.op = .call { callee := .builtin .append, args := #[s, x], argTypes := #[98, 98] }) (B : Nat) (wr : World) (v : Value) (bs : List (Value × List Int × SetL))
    (a1 : Option Addr) (l1 p1 : Nat) (xs : List Int) (q : SetL) (hown : wr.ownsRow B 101 6 v bs.length (begCells bs))
    (hs : a.eval s = v) (hx : a.eval x = .slice (some ⟨wr.heap.size, 0, none⟩) 1 1) (hl : bs.length + 1 ≤ 1000000) (hB : B ≤ wr.heap.size)
    (h : ∀ v' w', w'.ownsRow B 101 6 v' (bs.length + 1) (begCells bs ++ begCell (.slice a1 l1 p1, xs, q)) → (wr.alloc (.cells #[.slice a1 l1 p1, .int .u64 (q.at_ 0 : Nat), .int .u64 (q.at_ 1 : Nat), .int .u64 (q.at_ 2 : Nat), .int .u64 (q.at_ 3 : Nat), .int .u64 (q.at_ 4 : Nat)] 101)).grownBy w' v.ownBlock →
      (v'.ownBlock = v.ownBlock ∨ v'.ownBlock = some (wr.alloc (.cells #[.slice a1 l1 p1, .int .u64 (q.at_ 0 : Nat), .int .u64 (q.at_ 1 : Nat), .int .u64 (q.at_ 2 : Nat), .int .u64 (q.at_ 3 : Nat), .int .u64 (q.at_ 4 : Nat)] 101)).heap.size) → K (a.put o.dst v') w') :
    if Region.wanted o Y = true then Oper.wp Tryd.prog o a (wr.alloc (.cells #[.slice a1 l1 p1, .int .u64 (q.at_ 0 : Nat), .int .u64 (q.at_ 1 : Nat), .int .u64 (q.at_ 2 : Nat), .int .u64 (q.at_ 3 : Nat), .int .u64 (q.at_ 4 : Nat)] 101)) K Q else K (a.put o.dst undef) (wr.alloc (.cells #[.slice a1 l1 p1, .int .u64 (q.at_ 0 : Nat), .int .u64 (q.at_ 1 : Nat), .int .u64 (q.at_ 2 : Nat), .int .u64 (q.at_ 3 : Nat), .int .u64 (q.at_ 4 : Nat)] 101)) := by
  obtain ⟨i0, hi, hz0, hz1, hz2⟩ := info_parts info_begun
  refine wp_append_at _ hwt s x 98 ho B 101 i0 _ 6 64 Tryd.underlying98 hi hz0 hz1 hz2 rfl (by decide) v bs.length _ hs (hown.alloc _) ⟨wr.heap.size, 0, none⟩ 1 1 (begCell (.slice a1 l1 p1, xs, q)) hx rfl ?_ ?_ ?_ ?_ ?_ h
  · intro j u hj
    rw [addr_add, World.cell?_alloc_at _ _ _ _ rfl]
    match j, hj with
    | 0, hj => simpa [begCell] using hj
    | 1, hj => simpa [begCell] using hj
    | 2, hj => simpa [begCell] using hj
    | 3, hj => simpa [begCell] using hj
    | 4, hj => simpa [begCell] using hj
    | 5, hj => simpa [begCell] using hj
  · intro u hu
    simp only [begCell, List.mem_cons, List.not_mem_nil, or_false] at hu
    rcases hu with rfl | rfl | rfl | rfl | rfl | rfl <;> rfl
  · unfold maxLen; omega
  · omega
  · simp; omega

end Go.Proofs.YtakgppoeikcepaaDoor
