import Derived.Test.YtkdbkoogcndlgaaGr04
import Derived.Test.YtkdbkoogcndlgaaGr03
import Derived.Deep.RegionHeld3
/- A space while it is built: where it lies, and what it hangs on. -/
namespace Go.Proofs.Ytkdbkoogcndlgaa
open Go.RowKit
set_option linter.unusedVariables false
set_option maxRecDepth 4000

theorem Row.blocks {w w' : World} {a : Option Addr} {xs : List Int} (h : Row w a xs) (hs : w.heap.size ≤ w'.heap.size) (hk : ∀ k, k < w.heap.size → w'.heap[k]? = w.heap[k]?) : Row w' a xs := by
  intro j hj
  obtain ⟨b, off, ha, hlt, hc⟩ := h j hj
  exact ⟨b, off, ha, Nat.lt_of_lt_of_le hlt hs, by rw [World.cell?_of_block (a := ⟨b, off + j, none⟩) (hk b hlt)]; exact hc⟩
theorem ints_old {w : World} {v : Value} {xs : List Int} (h : Ints w v xs) : On (fun k => k < w.heap.size) w (fun w' => Ints w' v xs) := by
  intro w' hs hk
  obtain ⟨a, len, cap, e, hl, hm, hsh, hr⟩ := h
  exact ⟨a, len, cap, e, hl, hm, hsh, hr.blocks hs fun k hlt => hk k hlt hlt⟩

theorem info_ints : (Try.prog.info? 25).map (fun i => (i.zero, i.size, i.bytes)) = some (some (.slice none 0 0), 1, 24) := by kernel_rfl
theorem info_arc : (Try.prog.info? 79).map (fun i => (i.zero, i.size, i.bytes)) = some (some (.agg #[.int .i64 0, .int .i64 0, .int .i64 0]), 3, 24) := by kernel_rfl

/-- The cells of arcs. -/
def arcCells (l : List ArcL) : List Value := l.flatMap fun a => [.int .i64 (a.frm : Int), .int .i64 (a.tran : Int), .int .i64 (a.dst : Int)]
theorem arcCells_length (l : List ArcL) : (arcCells l).length = l.length * 3 := by
  unfold arcCells
  induction l with
  | nil => rfl
  | cons x r ih => simp only [List.flatMap_cons, List.length_append, ih, List.length_cons, List.length_nil]; omega
theorem arcCells_append (l : List ArcL) (a : ArcL) : arcCells (l ++ [a]) = arcCells l ++ [.int .i64 (a.frm : Int), .int .i64 (a.tran : Int), .int .i64 (a.dst : Int)] := by simp [arcCells]
theorem arcCells_at (l : List ArcL) (j : Nat) (h : j < l.length) :
    (arcCells l)[j * 3]? = some (.int .i64 (l[j].frm : Int)) ∧ (arcCells l)[j * 3 + 1]? = some (.int .i64 (l[j].tran : Int)) ∧ (arcCells l)[j * 3 + 2]? = some (.int .i64 (l[j].dst : Int)) := by
  induction l generalizing j with
  | nil => simp at h
  | cons x r ih =>
    have ec : arcCells (x :: r) = .int .i64 (x.frm : Int) :: .int .i64 (x.tran : Int) :: .int .i64 (x.dst : Int) :: arcCells r := rfl
    match j, h with
    | 0, _ => exact ⟨rfl, rfl, rfl⟩
    | j + 1, h =>
      obtain ⟨q1, q2, q3⟩ := ih j (by simpa using h)
      rw [ec, show (j + 1) * 3 = j * 3 + 3 by omega]
      exact ⟨q1, q2, q3⟩

/-- The space s lies at block x; its two rows are the call's own; the marks hang on none of these, nor on block y. -/
structure SpaceAt (x y B : Nat) (W wr : World) (s : SpaceL) (mv av : Value) (us : List Value) : Prop where
  rowM : wr.ownsRow B 25 1 mv us.length us
  rowA : wr.ownsRow B 79 3 av s.arcs.length (arcCells s.arcs)
  below : Below B W wr
  hx : B ≤ x
  hlt : x < wr.heap.size
  hy : y < B
  c0 : wr.cell? ⟨x, 0, none⟩ = some mv
  c1 : wr.cell? ⟨x, 1, none⟩ = some av
  f0 : wr.frozen? ⟨x, 0, none⟩ = false
  f1 : wr.frozen? ⟨x, 1, none⟩ = false
  apM : mv.ownBlock ≠ some x
  apA : av.ownBlock ≠ some x
  apMA : ∀ k, mv.ownBlock = some k → av.ownBlock ≠ some k
  len : us.length = s.marks.length
  els : ∀ j (hj : j < us.length), us[j].oneCell' = true ∧ On (fun k => k ≠ x ∧ k ≠ y ∧ mv.ownBlock ≠ some k ∧ av.ownBlock ≠ some k) wr (fun w' => Ints w' us[j] (markAt s.marks j))

theorem SpaceAt.to {x y B : Nat} {W wr w' : World} {s : SpaceL} {mv av : Value} {us : List Value} (h : SpaceAt x y B W wr s mv av us) (hb : Below wr.heap.size wr w') : SpaceAt x y B W w' s mv av us :=
  { h with
    rowM := ((ownsRow_on h.rowM).below hb).now
    rowA := ((ownsRow_on h.rowA).below hb).now
    below := h.below.trans (hb.mono (Nat.le_trans h.hx (Nat.le_of_lt h.hlt)))
    hlt := Nat.lt_of_lt_of_le h.hlt hb.size
    c0 := by rw [hb.cell (p := ⟨x, 0, none⟩) h.hlt]; exact h.c0
    c1 := by rw [hb.cell (p := ⟨x, 1, none⟩) h.hlt]; exact h.c1
    f0 := by rw [hb.frozen (p := ⟨x, 0, none⟩) h.hlt]; exact h.f0
    f1 := by rw [hb.frozen (p := ⟨x, 1, none⟩) h.hlt]; exact h.f1
    els := fun j hj => ⟨(h.els j hj).1, (h.els j hj).2.below hb⟩ }

/-- What a row grows by, and a store at block x, leave. -/
theorem grown_set {x : Nat} {w wC : World} {row : Option Nat} (hg : w.grownBy wC row) (a : Addr) (ha : a.block = x) (u : Value) {k : Nat} (hlt : k < w.heap.size) (hk : k ≠ x) (hr : row ≠ some k) :
    (wC.setCell a u).heap[k]? = w.heap[k]? := by
  rw [Below.heap_setCell wC a u k (by rw [ha]; exact hk)]
  exact hg.block k hlt (fun e => hr e.symm)

/-- One more mark. -/
theorem SpaceAt.mark {x y B : Nat} {W wr wC : World} {s : SpaceL} {mv av mv' r : Value} {us : List Value} {z : List Int} (h : SpaceAt x y B W wr s mv av us) (h1 : r.oneCell' = true)
    (hr : On (fun k => k ≠ x ∧ k ≠ y ∧ mv.ownBlock ≠ some k ∧ av.ownBlock ≠ some k) wr (fun w' => Ints w' r z))
    (hown : wC.ownsRow B 25 1 mv' (us.length + 1) (us ++ [r])) (hg : wr.grownBy wC mv.ownBlock) (hat : mv'.ownBlock = mv.ownBlock ∨ mv'.ownBlock = some wr.heap.size) :
    SpaceAt x y B W (wC.setCell ⟨x, 0, none⟩ mv') ⟨s.marks ++ [z], s.arcs⟩ mv' av (us ++ [r]) := by
  have hsz : wr.heap.size ≤ (wC.setCell ⟨x, 0, none⟩ mv').heap.size := Nat.le_trans hg.size (by simp [World.setCell])
  have hM : ∀ k, mv.ownBlock = some k → B ≤ k ∧ k < wr.heap.size := fun k hk => ownsRow_lt h.rowM hk
  have hA : ∀ k, av.ownBlock = some k → B ≤ k ∧ k < wr.heap.size := fun k hk => ownsRow_lt h.rowA hk
  have hcx : wC.heap[x]? = wr.heap[x]? := hg.block x h.hlt (fun e => h.apM e.symm)
  have apM' : mv'.ownBlock ≠ some x := by
    rcases hat with e | e <;> rw [e]
    · exact h.apM
    · have := h.hlt; simp; omega
  have keep : ∀ {R : World → Prop}, On (fun k => k ≠ x ∧ k ≠ y ∧ mv.ownBlock ≠ some k ∧ av.ownBlock ≠ some k) wr R → On (fun k => k ≠ x ∧ k ≠ y ∧ mv'.ownBlock ≠ some k ∧ av.ownBlock ≠ some k) (wC.setCell ⟨x, 0, none⟩ mv') R := by
    intro R hR w2 hs2 hk2
    refine hR w2 (Nat.le_trans hsz hs2) fun k hlt ⟨q1, q2, q3, q4⟩ => ?_
    have q5 : mv'.ownBlock ≠ some k := by
      rcases hat with e | e <;> rw [e]
      · exact q3
      · simp; omega
    rw [hk2 k (Nat.lt_of_lt_of_le hlt hsz) ⟨q1, q2, q5, q4⟩]
    exact grown_set hg ⟨x, 0, none⟩ rfl mv' hlt q1 q3
  refine ⟨?_, ?_, ?_, h.hx, Nat.lt_of_lt_of_le h.hlt hsz, h.hy, ?_, ?_, ?_, ?_, apM', h.apA, ?_, by simp [h.len], fun j hj => ?_⟩
  · have := (ownsRow_on hown).set (a := ⟨x, 0, none⟩) (fun e => apM' e.1) mv'
    simpa using this.now
  · have q := (ownsRow_on h.rowA).to (w' := wC.setCell ⟨x, 0, none⟩ mv') hsz (fun k hlt hk => grown_set hg ⟨x, 0, none⟩ rfl mv' hlt (fun (e : k = x) => h.apA (by rw [← e]; exact hk.1)) (fun e => h.apMA k e hk.1))
    exact q.now
  · exact (h.below.grown hg (Nat.le_trans h.hx (Nat.le_of_lt h.hlt)) (fun k hk => (hM k hk).1)).setCell (p := ⟨x, 0, none⟩) h.hx _
  · exact World.cell?_setCell_same _ _ _ ((World.cell?_of_block (a := ⟨x, 0, none⟩) hcx).trans h.c0)
  · rw [World.cell?_setCell_other _ _ _ _ (by intro q; injection q with _ q2; omega)]; exact (World.cell?_of_block (a := ⟨x, 1, none⟩) hcx).trans h.c1
  · rw [World.frozen?_setCell]; exact (World.frozen?_of_block (a := ⟨x, 0, none⟩) hcx).trans h.f0
  · rw [World.frozen?_setCell]; exact (World.frozen?_of_block (a := ⟨x, 1, none⟩) hcx).trans h.f1
  · intro k hk e
    rcases hat with q | q
    · rw [q] at hk; exact h.apMA k hk e
    · rw [q] at hk; injection hk with hk; have := (hA k e).2; omega
  · by_cases hjl : j < us.length
    · rw [List.getElem_append_left hjl]
      have e : markAt (s.marks ++ [z]) j = markAt s.marks j := markAt_append (by rw [← h.len]; exact hjl)
      exact ⟨(h.els j hjl).1, by show On _ _ (fun w' => Ints w' us[j] (markAt (s.marks ++ [z]) j)); rw [e]; exact keep (h.els j hjl).2⟩
    · have e : j = us.length := by simp at hj; omega
      subst e
      rw [List.getElem_append_right (Nat.le_refl _)]
      simp only [Nat.sub_self, List.getElem_cons_zero]
      refine ⟨h1, ?_⟩
      show On _ _ (fun w' => Ints w' r (markAt (s.marks ++ [z]) us.length))
      rw [h.len, markAt_last]
      exact keep hr

/-- One more arc. -/
theorem SpaceAt.arc {x y B : Nat} {W wr wC : World} {s : SpaceL} {mv av av' : Value} {us : List Value} {a : ArcL} (h : SpaceAt x y B W wr s mv av us)
    (hown : wC.ownsRow B 79 3 av' (s.arcs.length + 1) (arcCells s.arcs ++ [.int .i64 (a.frm : Int), .int .i64 (a.tran : Int), .int .i64 (a.dst : Int)])) (hg : wr.grownBy wC av.ownBlock) (hat : av'.ownBlock = av.ownBlock ∨ av'.ownBlock = some wr.heap.size) :
    SpaceAt x y B W (wC.setCell ⟨x, 1, none⟩ av') ⟨s.marks, s.arcs ++ [a]⟩ mv av' us := by
  have hsz : wr.heap.size ≤ (wC.setCell ⟨x, 1, none⟩ av').heap.size := Nat.le_trans hg.size (by simp [World.setCell])
  have hM : ∀ k, mv.ownBlock = some k → B ≤ k ∧ k < wr.heap.size := fun k hk => ownsRow_lt h.rowM hk
  have hA : ∀ k, av.ownBlock = some k → B ≤ k ∧ k < wr.heap.size := fun k hk => ownsRow_lt h.rowA hk
  have hcx : wC.heap[x]? = wr.heap[x]? := hg.block x h.hlt (fun e => h.apA e.symm)
  have apA' : av'.ownBlock ≠ some x := by
    rcases hat with e | e <;> rw [e]
    · exact h.apA
    · have := h.hlt; simp; omega
  refine ⟨?_, ?_, ?_, h.hx, Nat.lt_of_lt_of_le h.hlt hsz, h.hy, ?_, ?_, ?_, ?_, h.apM, apA', ?_, h.len, fun j hj => ⟨(h.els j hj).1, ?_⟩⟩
  · have q := (ownsRow_on h.rowM).to (w' := wC.setCell ⟨x, 1, none⟩ av') hsz (fun k hlt hk => grown_set hg ⟨x, 1, none⟩ rfl av' hlt (fun (e : k = x) => h.apM (by rw [← e]; exact hk.1)) (h.apMA k hk.1))
    exact q.now
  · have := (ownsRow_on hown).set (a := ⟨x, 1, none⟩) (fun e => apA' e.1) av'
    show World.ownsRow _ B 79 3 av' (s.arcs ++ [a]).length (arcCells (s.arcs ++ [a]))
    rw [arcCells_append]
    simpa using this.now
  · exact (h.below.grown hg (Nat.le_trans h.hx (Nat.le_of_lt h.hlt)) (fun k hk => (hA k hk).1)).setCell (p := ⟨x, 1, none⟩) h.hx _
  · rw [World.cell?_setCell_other _ _ _ _ (by intro q; injection q with _ q2; omega)]; exact (World.cell?_of_block (a := ⟨x, 0, none⟩) hcx).trans h.c0
  · exact World.cell?_setCell_same _ _ _ ((World.cell?_of_block (a := ⟨x, 1, none⟩) hcx).trans h.c1)
  · rw [World.frozen?_setCell]; exact (World.frozen?_of_block (a := ⟨x, 0, none⟩) hcx).trans h.f0
  · rw [World.frozen?_setCell]; exact (World.frozen?_of_block (a := ⟨x, 1, none⟩) hcx).trans h.f1
  · intro k hk e
    rcases hat with q | q
    · rw [q] at e; exact h.apMA k hk e
    · rw [q] at e; injection e with e; have := (hM k hk).2; omega
  · intro w2 hs2 hk2
    refine (h.els j hj).2 w2 (Nat.le_trans hsz hs2) fun k hlt ⟨q1, q2, q3, q4⟩ => ?_
    have q5 : av'.ownBlock ≠ some k := by
      rcases hat with e | e <;> rw [e]
      · exact q4
      · simp; omega
    rw [hk2 k (Nat.lt_of_lt_of_le hlt hsz) ⟨q1, q2, q3, q5⟩]
    exact grown_set hg ⟨x, 1, none⟩ rfl av' hlt q1 q4

/-- Its marks, read. -/
theorem SpaceAt.lists {x y B : Nat} {W wr : World} {s : SpaceL} {mv av : Value} {us : List Value} (h : SpaceAt x y B W wr s mv av us) (hl : us.length ≤ 5864062014805) : Lists wr mv s.marks := by
  have hown := h.rowM
  obtain ⟨_, hcase⟩ := hown
  rcases hcase with ⟨e, h0⟩ | ⟨g, cap', cur, e, hg, hh, hn, hcap, hsz, htake⟩
  · exact ⟨none, us.length, 0, by rw [e, h0], h.len.symm, by omega, ⟨by omega, by omega, fun _ => rfl⟩, fun j hj => absurd hj (by have := h.len; omega)⟩
  · refine ⟨_, us.length, _, e, h.len.symm, by omega, ⟨hn, by unfold maxLen at hcap; omega, fun h => by cases h⟩, fun j hj => ?_⟩
    have hj' : j < us.length := by have := h.len; omega
    refine ⟨g, 0, us[j], rfl, ?_, ?_, (h.els j hj').2.now⟩
    · rcases Nat.lt_or_ge g wr.heap.size with q | q
      · exact q
      · rw [Array.getElem?_eq_none q] at hh; cases hh
    · have hown2 := h.rowM
      rw [e] at hown2
      rw [Nat.zero_add, hown2.cellAt j (by omega), List.getElem?_eq_getElem hj']
theorem SpaceAt.arcsR {x y B : Nat} {W wr : World} {s : SpaceL} {mv av : Value} {us : List Value} (h : SpaceAt x y B W wr s mv av us) (hl : s.arcs.length ≤ 5864062014805) : Arcs wr av (s.arcs.map arcZ) := by
  have hown := h.rowA
  obtain ⟨_, hcase⟩ := hown
  rcases hcase with ⟨e, h0⟩ | ⟨g, cap', cur, e, hg, hh, hn, hcap, hsz, htake⟩
  · exact ⟨none, s.arcs.length, 0, by rw [e, h0], by simp, by omega, ⟨by omega, by omega, fun _ => rfl⟩, fun j hj => absurd hj (by simp; omega)⟩
  · refine ⟨_, s.arcs.length, _, e, by simp, by omega, ⟨hn, by unfold maxLen at hcap; omega, fun h => by cases h⟩, fun j hj => ?_⟩
    have hj' : j < s.arcs.length := by simpa using hj
    have hown2 := h.rowA
    rw [e] at hown2
    obtain ⟨q1, q2, q3⟩ := arcCells_at s.arcs j hj'
    refine ⟨g, 0, rfl, ?_, ?_, ?_, ?_⟩
    · rcases Nat.lt_or_ge g wr.heap.size with q | q
      · exact q
      · rw [Array.getElem?_eq_none q] at hh; cases hh
    · rw [Nat.zero_add, hown2.cellAt (j * 3) (by omega), q1, List.getElem_map]; rfl
    · rw [Nat.zero_add, hown2.cellAt (j * 3 + 1) (by omega), q2, List.getElem_map]; rfl
    · rw [Nat.zero_add, hown2.cellAt (j * 3 + 2) (by omega), q3, List.getElem_map]; rfl

end Go.Proofs.Ytkdbkoogcndlgaa

/- The answers of the document itself for nets, with what they hang on: one fires. -/
namespace Go.Proofs.Ytkdbkoogcndlgaa
open Go.RowKit
set_option linter.unusedVariables false
set_option maxRecDepth 4000

/-- What a call answers that makes a mark anew, or tells what is wrong: the mark hangs on new blocks alone. -/
def GivesO (w : World) (p : List Int × Int) (e : Ending) (w' : World) : Prop :=
  ∃ r, e = .returned (.tuple #[r, .int .i64 p.2]) ∧ On (fun k => w.heap.size ≤ k) w' (fun w'' => Ints w'' r p.1) ∧ Below w.heap.size w w'

theorem givesO_of {w w' : World} {r : Value} {p : List Int × Int} {zs : List Int} {c : Int} (hp : p = (zs, c)) (hr : On (fun k => w.heap.size ≤ k) w' (fun w'' => Ints w'' r zs)) (hb : Below w.heap.size w w') : GivesO w p (.returned (.tuple #[r, .int .i64 c])) w' := by
  subst hp; exact ⟨r, rfl, hr, hb⟩
theorem on_nil (D : Nat → Prop) (w : World) : On D w (fun w' => Ints w' (.slice none 0 0) []) := fun w' _ _ => Ints.nil w'

set_option maxHeartbeats 400000 in
theorem amix_own (t : Int) (ht : t = 1 ∨ t = -1) (v u : Value) (xs ys : List Int) (w : World) (hv : Ints w v xs) (hu : Ints w u ys) (rx : rightL xs = true) (ry : rightL ys = true) :
    Calls Try.prog 81 #[v, u, .int .i64 t] w fun e w' => ∃ r, e = .returned r ∧ Own w.heap.size w w' r (zipL (mixL t) xs ys) := by
  have hv' := hv
  have hu' := hu
  obtain ⟨a, la, ca, rfl, hla, hma, hsa, hra⟩ := hv
  obtain ⟨b, lb, cb, rfl, hlb, hmb, hsb, hrb⟩ := hu
  obtain ⟨n, Hn⟩ : ∃ n : Nat, max xs.length ys.length = n := ⟨_, rfl⟩
  have HZ : Hid (zipL (mixL t) xs ys = zipTo (mixL t) xs ys n) := by show _ = _; unfold zipL zipTo; rw [Hn]
  have HX := fun j => okTok_nth rx j
  have HY := fun j => okTok_nth ry j
  have ht1 : -1 ≤ t ∧ t ≤ 1 := by omega
  have HT : Hid (t = 1 ∨ t = -1) := ht
  clear hra hrb rx ry ht
  by_cases hlt : la < lb
  case' pos => obtain rfl : n = lb := by omega
  case' neg => obtain rfl : n = la := by omega
  all_goals
    clear Hn hla hlb
    go_enter Try.func81, Try.ntmps81
    go_wp2
    go_loopw [7, 14] (fun o i wr => ∃ k : Nat, k ≤ n ∧ i = .int .i64 k ∧ Own w.heap.size w wr o (zipTo (mixL t) xs ys k)) (fun _ i _ => n - (intOf i).toNat)
    case atStart => exact ⟨0, Nat.zero_le _, rfl, Own.nil _⟩
    case round =>
      obtain ⟨k, hk, rfl, hG⟩ := hrel
      obtain ⟨hx1, hx2⟩ := HX k
      obtain ⟨hy1, hy2⟩ := HY k
      clear HX HY
      by_cases hkn : k < n
      · have hm : Hid (mixL t (nth xs k) (nth ys k) = nth xs k + t * nth ys k) := rfl
        have ht2 : -1000000 ≤ t * nth ys k ∧ t * nth ys k ≤ 1000000 := by rcases HT.out with h | h <;> rw [h] <;> omega
        go_wp2_with fail
        refine (aat_any _ xs k _ (by exact hv'.below hG.2.1)).mono ?_
        rintro e w' ⟨rfl, rfl⟩
        go_wp2_with fail
        refine (aat_any _ ys k _ (by exact hu'.below hG.2.1)).mono ?_
        rintro e w' ⟨rfl, rfl⟩
        have hlen := zipTo_length (mixL t) xs ys k
        go_wp2_with (at_builtin; refine wp_append_int rfl _ _ rfl w.heap.size w _ _ _ (nth xs k + t * nth ys k) hG rfl rfl (by rw [hlen]; omega) ?_; intro v' w1 hG')
        have R : Own w.heap.size w w1 v' (zipTo (mixL t) xs ys (k + 1)) := by rw [zipTo_succ]; exact hG'
        clear hG hG'
        go_wp2
        go_roundw
        case rel => exact ⟨k + 1, by omega, by go_num, R⟩
        case measure => simp [intOf]; omega
      · obtain rfl : k = n := by omega
        go_wp2
        go_ret
        exact ⟨_, rfl, by rw [HZ.out]; exact hG⟩

set_option maxHeartbeats 1000000 in
theorem bfire_own (v u : Value) (n : NetL) (m : List Int) (t : Int) (w : World) (hv : Net w v n) (hu : Ints w u m) (hsm : SmallNet n) :
    Calls Try.prog 57 #[v, u, .int .i64 t] w fun e w' => GivesO w (fireL n m t) e w' := by
  obtain ⟨tv, rfl, hT⟩ := hv
  have b1 := below_new w (.cells #[.int .i64 n.places, tv] 24)
  have hbx := box2_new w (.int .i64 n.places) tv 24
  have hu1 := hu.below b1
  have hv1 : Net _ _ n := ⟨tv, rfl, hT.below b1⟩
  go_enter Try.func57, Try.ntmps57
  go_wp2_with fail
  refine (bfits_any _ _ n m _ (by exact hv1) (by exact hu1) hsm).mono ?_
  rintro e w1 ⟨rfl, b2⟩
  have b3 := below_then b1 b2
  have hu2 := hu1.below b2
  have hT2 := (hT.below b1).below b2
  have hbx2 := hbx.below b2
  clear b1 b2 hbx hu1 hv1 hT
  cases hf : fitsL n m
  · have E : fireL n m t = ([], 2) := by simp [fireL, hf]
    go_wp2
    go_ret2
    exact givesO_of E (on_nil _ _) b3
  · obtain ⟨hno, _, hrm⟩ := fits_net hf
    obtain ⟨hx0, hx1, hx2⟩ := hbx2
    have hT3 := hT2
    obtain ⟨a, len, cap, rfl, hlen, hmx, hsh, hr⟩ := hT2
    clear hr
    by_cases ht0 : t < 0
    · have E : Hid (fireL n m t = ([], 3)) := by show _ = _; rw [fireL, hf, decide_eq_false (show ¬ 0 ≤ t by omega)]; rfl
      clear hf hno hrm
      go_wp2
      go_ret2
      exact givesO_of E.out (on_nil _ _) b3
    by_cases ht1 : (len : Int) ≤ t
    · have E : Hid (fireL n m t = ([], 3)) := by show _ = _; rw [fireL, hf, decide_eq_false (show ¬ t < n.trans.length by omega)]; simp
      clear hf hno hrm
      go_wp2
      go_ret2
      exact givesO_of E.out (on_nil _ _) b3
    obtain ⟨k, rfl⟩ := Int.eq_ofNat_of_zero_le (show 0 ≤ t by omega)
    have hkn : k < len := by omega
    have E0 : fireL n m k = (if coversL m (tranAt n.trans k).pre then
      (if rightL (addL (subL m (tranAt n.trans k).pre) (tranAt n.trans k).post) then (addL (subL m (tranAt n.trans k).pre) (tranAt n.trans k).post, 0) else ([], 4)) else ([], 3)) := by
      rw [fireL, hf, decide_eq_true (show (0 : Int) ≤ k by omega), decide_eq_true (show (k : Int) < n.trans.length by omega), Int.toNat_natCast]; simp
    have E1 : Hid _ := E0
    obtain ⟨b, off, c1, c2, rfl, hblt, h0, h1, h2, i1, i2⟩ := hT3.at hkn
    obtain ⟨hr1, hr2⟩ := tran_right (net_tran hno (show k < n.trans.length by omega))
    have hge : ¬ ((len : Int) ≤ (k : Int)) := by omega
    have HLm : Hid (m.length ≤ 17592186044416) := by show _ ≤ _; obtain ⟨_, _, _, _, h1, h2, _⟩ := hu2; omega
    have HL1 : Hid ((tranAt n.trans k).pre.length ≤ 17592186044416) := by show _ ≤ _; obtain ⟨_, _, _, _, h1, h2, _⟩ := i1; omega
    have HL2 : Hid ((tranAt n.trans k).post.length ≤ 17592186044416) := by show _ ≤ _; obtain ⟨_, _, _, _, h1, h2, _⟩ := i2; omega
    have HLz : Hid (∀ {f : Int → Int → Int} (xs ys : List Int), xs.length ≤ 17592186044416 → ys.length ≤ 17592186044416 → (zipL f xs ys).length ≤ 17592186044416) := by intro f xs ys h1 h2; rw [zipL_length]; omega
    clear E0 hf hno ht0 ht1
    generalize tranAt n.trans k = t at *
    go_wp2_with fail
    refine (acovers_b _ _ m t.pre _ hu2 i1).mono ?_
    rintro e w2 ⟨rfl, hb2⟩
    have b4 := below_then b3 hb2
    have hu3 := hu2.below hb2
    have i1' := i1.below hb2
    have i2' := i2.below hb2
    have hx1' := (hb2.cell (p := ⟨w.heap.size, 1, none⟩) hx0).trans hx2
    have h1' := (hb2.cell (p := ⟨b, _, none⟩) hblt).trans h1
    have h2' := (hb2.cell (p := ⟨b, _, none⟩) hblt).trans h2
    have hy0 := Nat.lt_of_lt_of_le hx0 hb2.size
    have hy1 := Nat.lt_of_lt_of_le hblt hb2.size
    clear hb2 hu2 i1 i2 h0 h1 h2 hx0 hx1 hx2 hT3 b3
    cases hc : coversL m t.pre
    · have E : Hid (fireL n m k = ([], 3)) := by show _ = _; rw [E1.out, hc]; rfl
      clear E1 hc
      go_wp2
      go_ret2
      exact givesO_of E.out (on_nil _ _) b4
    · have hrs : rightL (subL m t.pre) = true := by rw [subL, right_minus hrm hr1]; exact hc
      have HLs : Hid ((subL m t.pre).length ≤ 17592186044416) := by show _ ≤ _; rw [subL, zipL_length]; have := HLm.out; have := HL1.out; omega
      go_wp2
      go_region_held3 (fun w' => w'.cell? ⟨w.heap.size, 1, none⟩ = some (.slice (some ⟨b, off, none⟩) len cap) ∧ w'.cell? ⟨b, off + k * 3 + 1, none⟩ = some c1 ∧ w'.cell? ⟨b, off + k * 3 + 2, none⟩ = some c2)
        (go_keep)
        (first | (go_at_call_of 81 c1; refine (amix_own (-1) (.inr rfl) _ _ m t.pre _ ?_ ?_ hrm hr1).mono ?_; exact hu3.drewN 1; exact i1'.drewN 1; rintro e w4 ⟨r, rfl, hO4⟩; have hR := hO4.ints (HLz.out _ _ HLm.out HL1.out); have hbR := hO4.2.1; have k1 := (hbR.cell (p := ⟨w.heap.size, 1, none⟩) hy0).trans hx1'; have k2 := (hbR.cell (p := ⟨b, _, none⟩) hy1).trans h1'; have k3 := (hbR.cell (p := ⟨b, _, none⟩) hy1).trans h2') | (go_at_call_of 81 c2; refine (amix_own 1 (.inl rfl) _ _ (subL m t.pre) t.post _ ?_ ?_ hrs hr2).mono ?_; (rw [mix_less] at hR; exact hR); exact (i2'.drewN 1).below hbR; rintro e w5 ⟨r2, rfl, hO5⟩; have hR2 := hO5.ints (HLz.out _ _ HLs.out HL2.out); have hbR2 := hO5.2.1; have k1 := (hbR2.cell (p := ⟨w.heap.size, 1, none⟩) (Nat.lt_of_lt_of_le hy0 hbR.size)).trans k1; have k2 := (hbR2.cell (p := ⟨b, _, none⟩) (Nat.lt_of_lt_of_le hy1 hbR.size)).trans k2; have k3 := (hbR2.cell (p := ⟨b, _, none⟩) (Nat.lt_of_lt_of_le hy1 hbR.size)).trans k3))
      have HOn : Hid (On (fun k => w.heap.size ≤ k) w5 (fun w' => Ints w' r2 (addL (subL m t.pre) t.post))) := by
        have q := (hO5.on (HLz.out _ _ HLs.out HL2.out)).weaken (D' := fun k => w.heap.size ≤ k) fun k _ hk => Nat.le_trans (Nat.le_trans b4.size (by simpa using hbR.size)) hk
        rw [mix_one] at q; exact q
      rw [mix_one] at hR2
      have b5 : Below w.heap.size w w5 := below_then b4 ((below_drewN (Below.refl _ _) 1).trans ((hbR.trans (hbR2.mono hbR.size))))
      clear k1 k2 k3 hbR hbR2 hR i1' i2' hx1' h1' h2' hy0 hy1 hO4 hO5
      go_wp2_with fail
      refine (aright_any _ _ _ hR2).mono ?_
      rintro e w' ⟨rfl, rfl⟩
      have E2 : Hid (fireL n m k = (if rightL (zipL (fun x1 x2 => x1 + x2) (subL m t.pre) t.post) then (addL (subL m t.pre) t.post, 0) else ([], 4))) := by
        show _ = _; rw [E1.out, hc]; rfl
      clear E1 hc
      cases hz : rightL (zipL (fun x1 x2 => x1 + x2) (subL m t.pre) t.post)
      · have E : Hid (fireL n m k = ([], 4)) := by show _ = _; rw [E2.out, hz]; rfl
        clear E2 hz
        go_wp2
        go_ret2
        exact givesO_of E.out (on_nil _ _) b5
      · have E : Hid (fireL n m k = (addL (subL m t.pre) t.post, 0)) := by show _ = _; rw [E2.out, hz]; rfl
        clear E2 hz
        go_wp2
        go_ret2
        exact givesO_of E.out HOn.out b5

end Go.Proofs.Ytkdbkoogcndlgaa

/- The answers of the document itself for reach: all marks. -/
namespace Go.Proofs.Ytkdbkoogcndlgaa
open Go.RowKit
set_option linter.unusedVariables false
set_option maxRecDepth 4000

theorem SpaceAt.sliceM {x y B : Nat} {W wr : World} {s : SpaceL} {mv av : Value} {us : List Value} (h : SpaceAt x y B W wr s mv av us) : ∃ a cap, mv = .slice a s.marks.length cap := by
  rcases h.rowM.2 with ⟨e, h0⟩ | ⟨g, cap', cur, e, _⟩
  · exact ⟨none, 0, by rw [e, ← h.len, h0]⟩
  · exact ⟨_, _, by rw [e, h.len]⟩
theorem SpaceAt.sliceA {x y B : Nat} {W wr : World} {s : SpaceL} {mv av : Value} {us : List Value} (h : SpaceAt x y B W wr s mv av us) : ∃ a cap, av = .slice a s.arcs.length cap := by
  rcases h.rowA.2 with ⟨e, h0⟩ | ⟨g, cap', cur, e, _⟩
  · exact ⟨none, 0, by rw [e, h0]⟩
  · exact ⟨_, _, e⟩

theorem space_start (W : World) (u : Value) (m : List Int) (y : Nat) (hy : y < W.heap.size) (h1 : u.oneCell' = true) (hu : On (fun k => k ≠ y ∧ k < W.heap.size) W (fun w' => Ints w' u m)) :
    SpaceAt (W.heap.size + 1) y W.heap.size W ((W.alloc (.cells #[u] 25)).alloc (.cells #[.slice (some ⟨W.heap.size, 0, none⟩) 1 1, .slice none 0 0] 46)) ⟨[m], []⟩ (.slice (some ⟨W.heap.size, 0, none⟩) 1 1) (.slice none 0 0) [u] := by
  have b1 := below_new W (.cells #[u] 25)
  have b2 := below_new (W.alloc (.cells #[u] 25)) (.cells #[.slice (some ⟨W.heap.size, 0, none⟩) 1 1, .slice none 0 0] 46)
  have e1 : (W.alloc (.cells #[u] 25)).heap.size = W.heap.size + 1 := by simp
  have hx := box2_new (W.alloc (.cells #[u] 25)) (.slice (some ⟨W.heap.size, 0, none⟩) 1 1) (.slice none 0 0) 46
  rw [e1] at hx
  refine ⟨⟨by simp, .inr ⟨W.heap.size, 1, #[u], rfl, Nat.le_refl _, ?_, by simp, by unfold maxLen; omega, by simp, by simp⟩⟩, World.ownsRow_nil _ _ _ _, below_then b1 b2, by omega, by simp, hy, hx.2.1, hx.2.2, ?_, ?_, ?_, ?_, ?_, by simp, ?_⟩
  · rw [b2.block W.heap.size (by simp)]
    exact heap_alloc_new W _
  · rw [World.frozen?_alloc_at _ _ _ _ (by simp)]
  · rw [World.frozen?_alloc_at _ _ _ _ (by simp)]
  · simp [Value.ownBlock]
  · simp [Value.ownBlock]
  · intro k _; simp [Value.ownBlock]
  · intro j hj
    have e : j = 0 := by simpa using hj
    subst e
    refine ⟨h1, ?_⟩
    have q := (hu.below b1).below b2
    refine q.weaken fun k hlt hk => ⟨by omega, hk.1, ?_, by simp [Value.ownBlock]⟩
    simp [Value.ownBlock]; omega

/-- What is handed back: the space, in the block of the answer. -/
theorem SpaceAt.out {x y B : Nat} {W wr : World} {s : SpaceL} {mv av : Value} {us : List Value} (h : SpaceAt x y B W wr s mv av us) (hl : us.length ≤ 5864062014805) (hl2 : s.arcs.length ≤ 5864062014805) :
    Lists ((wr.setCell ⟨y, 0, none⟩ mv).setCell ⟨y, 1, none⟩ av) mv s.marks ∧ Arcs ((wr.setCell ⟨y, 0, none⟩ mv).setCell ⟨y, 1, none⟩ av) av (s.arcs.map arcZ) := by
  have hy := h.hy
  have hxy : x ≠ y := by have := h.hx; omega
  have hM : ∀ k, mv.ownBlock = some k → B ≤ k := fun k hk => (ownsRow_lt h.rowM hk).1
  have hA : ∀ k, av.ownBlock = some k → B ≤ k := fun k hk => (ownsRow_lt h.rowA hk).1
  have key : ∀ (o : Nat) (u : Value) (w1 : World), SpaceAt x y B w1 w1 s mv av us → SpaceAt x y B (w1.setCell ⟨y, o, none⟩ u) (w1.setCell ⟨y, o, none⟩ u) s mv av us := by
    intro o u w1 g
    have hc : (w1.setCell ⟨y, o, none⟩ u).heap[x]? = w1.heap[x]? := Below.heap_setCell w1 ⟨y, o, none⟩ u x hxy
    exact { g with
      rowM := ((ownsRow_on g.rowM).set (a := ⟨y, o, none⟩) (fun e => by have := hM y e.1; omega) u).now
      rowA := ((ownsRow_on g.rowA).set (a := ⟨y, o, none⟩) (fun e => by have := hA y e.1; omega) u).now
      below := Below.refl _ _
      hlt := by have := g.hlt; simp [World.setCell]; omega
      c0 := (World.cell?_of_block (a := ⟨x, 0, none⟩) hc).trans g.c0
      c1 := (World.cell?_of_block (a := ⟨x, 1, none⟩) hc).trans g.c1
      f0 := (World.frozen?_of_block (a := ⟨x, 0, none⟩) hc).trans g.f0
      f1 := (World.frozen?_of_block (a := ⟨x, 1, none⟩) hc).trans g.f1
      els := fun j hj => ⟨(g.els j hj).1, (g.els j hj).2.set (a := ⟨y, o, none⟩) (fun e => e.2.1 rfl) u⟩ }
  have g0 : SpaceAt x y B wr wr s mv av us := { h with below := Below.refl _ _ }
  have g2 := key 1 av _ (key 0 mv _ g0)
  exact ⟨g2.lists hl, g2.arcsR hl2⟩

theorem wp_append_mark {ops : Array Oper} {rest : List Oper} {o : Oper} {a : Act} {Q : Exit → Act → World → Prop} (hgd : o.guard = none) (s x : Operand)
    (ho : o.op = .call { callee := .builtin .append, args := #[s, x], argTypes := #[43, 43] }) (B : Nat) (wr : World) (v : Value) (us : List Value) (ax : Option Addr) (lx cx : Nat)
    (hown : wr.ownsRow B 25 1 v us.length us) (hs : a.eval s = v) (hx : a.eval x = .slice (some ⟨wr.heap.size, 0, none⟩) 1 1) (hl : us.length + 1 ≤ 5864062014805) (hB : B ≤ wr.heap.size)
    (h : ∀ v' w', w'.ownsRow B 25 1 v' (us.length + 1) (us ++ [.slice ax lx cx]) → (wr.alloc (.cells #[.slice ax lx cx] 25)).grownBy w' v.ownBlock →
      (v'.ownBlock = v.ownBlock ∨ v'.ownBlock = some (wr.alloc (.cells #[.slice ax lx cx] 25)).heap.size) → wpList Try.prog ops Q rest (a.put o.dst v') w') :
    wpList Try.prog ops Q (o :: rest) a (wr.alloc (.cells #[.slice ax lx cx] 25)) := by
  obtain ⟨i0, hi, hz0, hz1, hz2⟩ := info_parts info_ints
  refine wpList_append_own_at _ hgd s x 43 ho B 25 i0 _ 1 24 Try.underlying43 hi hz0 hz1 hz2 rfl (by decide) v us.length _ hs (hown.alloc _) ⟨wr.heap.size, 0, none⟩ 1 1 [.slice ax lx cx] hx rfl (cell_one_new _ _ _) ?_ ?_ ?_ ?_ ?_
  · intro u hu; simp at hu; subst hu; rfl
  · unfold maxLen; omega
  · omega
  · simp; omega
  · intro v' w' h1 h2 _ h3
    exact h v' w' h1 h2 h3

theorem wp_append_arc {ops : Array Oper} {rest : List Oper} {o : Oper} {a : Act} {Q : Exit → Act → World → Prop} (hgd : o.guard = none) (s x : Operand)
    (ho : o.op = .call { callee := .builtin .append, args := #[s, x], argTypes := #[44, 44] }) (B : Nat) (wr : World) (v : Value) (l : List ArcL) (f t g : Int)
    (hown : wr.ownsRow B 79 3 v l.length (arcCells l)) (hs : a.eval s = v) (hx : a.eval x = .slice (some ⟨wr.heap.size, 0, none⟩) 1 1) (hl : l.length + 1 ≤ 5864062014805) (hB : B ≤ wr.heap.size)
    (h : ∀ v' w', w'.ownsRow B 79 3 v' (l.length + 1) (arcCells l ++ [.int .i64 f, .int .i64 t, .int .i64 g]) → (wr.alloc (.cells #[.int .i64 f, .int .i64 t, .int .i64 g] 79)).grownBy w' v.ownBlock →
      (v'.ownBlock = v.ownBlock ∨ v'.ownBlock = some (wr.alloc (.cells #[.int .i64 f, .int .i64 t, .int .i64 g] 79)).heap.size) → wpList Try.prog ops Q rest (a.put o.dst v') w') :
    wpList Try.prog ops Q (o :: rest) a (wr.alloc (.cells #[.int .i64 f, .int .i64 t, .int .i64 g] 79)) := by
  obtain ⟨i0, hi, hz0, hz1, hz2⟩ := info_parts info_arc
  refine wpList_append_own_at _ hgd s x 44 ho B 79 i0 _ 3 24 Try.underlying44 hi hz0 hz1 hz2 rfl (by decide) v l.length _ hs (hown.alloc _) ⟨wr.heap.size, 0, none⟩ 1 1 [.int .i64 f, .int .i64 t, .int .i64 g] hx rfl ?_ ?_ ?_ ?_ ?_ ?_
  · intro j u hj
    rw [addr_add, World.cell?_alloc_at _ _ _ _ rfl]
    match j, hj with
    | 0, hj => simpa using hj
    | 1, hj => simpa using hj
    | 2, hj => simpa using hj
  · intro u hu
    simp only [List.mem_cons, List.not_mem_nil, or_false] at hu
    rcases hu with rfl | rfl | rfl <;> rfl
  · unfold maxLen; omega
  · omega
  · simp; omega
  · intro v' w' h1 h2 _ h3
    exact h v' w' h1 h2 h3

theorem row_none {n : NetL} {most k : Nat} {s : SpaceL} {t : Nat} (h : rowTo n most k s t = none) : ∀ j, rowTo n most k s (t + j) = none := by
  intro j
  induction j with
  | zero => exact h
  | succ j ih => rw [← Nat.add_assoc, rowTo, ih]; rfl
theorem graph_none {n : NetL} {m : List Int} {most k : Nat} (h : graphTo n m most k = none) : ∀ j, graphTo n m most (k + j) = none := by
  intro j
  induction j with
  | zero => exact h
  | succ j ih => rw [← Nat.add_assoc, graphTo, ih]; rfl

/-- What the search among the first j marks has come to. -/
def SeekTo (ms : List (List Int)) (x : List Int) (j : Nat) (z : Int) : Prop := (z = -1 ∧ ∀ i, i < j → markAt ms i ≠ x) ∨ ∃ i, i < j ∧ z = i ∧ markAt ms i = x
theorem seek_done {ms : List (List Int)} {x : List Int} {z : Int} (hn : ms.Nodup) (h : SeekTo ms x ms.length z) : (z = -1 ∧ findM ms x = none) ∨ ∃ i : Nat, i < ms.length ∧ z = i ∧ findM ms x = some i := by
  rcases h with ⟨e, h⟩ | ⟨i, hi, e, h⟩
  · left
    refine ⟨e, ?_⟩
    cases hf : findM ms x with
    | none => rfl
    | some g => obtain ⟨h1, h2⟩ := findM_some hf; exact absurd h2 (h g h1)
  · right
    exact ⟨i, hi, e, by rw [← h]; exact findM_at hn hi⟩
theorem seek_yes {ms : List (List Int)} {x : List Int} {j : Nat} (h : markAt ms j = x) : SeekTo ms x (j + 1) j := .inr ⟨j, by omega, rfl, h⟩
theorem seek_no {ms : List (List Int)} {x : List Int} {j : Nat} {z : Int} (h : SeekTo ms x j z) (hn : markAt ms j ≠ x) : SeekTo ms x (j + 1) z := by
  rcases h with ⟨e, h⟩ | ⟨i, hi, e, h⟩
  · exact .inl ⟨e, fun i hi => by
      by_cases q : i = j
      · subst q; exact hn
      · exact h i (by omega)⟩
  · exact .inr ⟨i, by omega, e, h⟩

/-- What was made behind it hangs on none of its blocks. -/
theorem SpaceAt.fresh {x y B : Nat} {W wr w' : World} {s : SpaceL} {mv av : Value} {us : List Value} (h : SpaceAt x y B W wr s mv av us) {R : World → Prop} (hR : On (fun k => wr.heap.size ≤ k) w' R) :
    On (fun k => k ≠ x ∧ k ≠ y ∧ mv.ownBlock ≠ some k ∧ av.ownBlock ≠ some k) w' R := by
  have h1 := h.hlt
  have h2 := h.hx
  have h3 := h.hy
  refine hR.weaken fun k _ hk => ⟨by omega, by omega, fun e => ?_, fun e => ?_⟩
  · have := ownsRow_lt h.rowM e; omega
  · have := ownsRow_lt h.rowA e; omega

theorem tryT_arcs {n : NetL} {most k t : Nat} {s s' : SpaceL} (e : tryT n most k s t = some s') : s'.arcs.length ≤ s.arcs.length + 1 := by
  unfold tryT at e
  split at e
  · injection e with e; subst e; omega
  · split at e
    · split at e
      · injection e with e; subst e; simp
      · split at e
        · cases e
        · injection e with e; subst e; simp
    · cases e
theorem rowTo_arcs {n : NetL} {most k : Nat} {s : SpaceL} : ∀ (t : Nat) {s' : SpaceL}, rowTo n most k s t = some s' → s'.arcs.length ≤ s.arcs.length + t := by
  intro t
  induction t with
  | zero => intro s' e; injection e with e; subst e; omega
  | succ t ih =>
    intro s' e
    simp only [rowTo, Option.bind_eq_some_iff] at e
    obtain ⟨s1, e1, e2⟩ := e
    have := ih e1
    have := tryT_arcs e2
    omega
theorem graphTo_arcs {n : NetL} {m : List Int} {most : Nat} (hT : n.trans.length ≤ 24) : ∀ (k : Nat) {s : SpaceL}, graphTo n m most k = some s → s.arcs.length ≤ k * 24 := by
  intro k
  induction k with
  | zero => intro s e; injection e with e; subst e; simp
  | succ k ih =>
    intro s e
    simp only [graphTo, Option.bind_eq_some_iff] at e
    obtain ⟨s1, e1, e2⟩ := e
    have h1 := ih e1
    by_cases hk : k < s1.marks.length
    · rw [if_pos hk] at e2
      have := rowTo_arcs _ e2
      omega
    · rw [if_neg hk] at e2
      injection e2 with e2
      subst e2
      omega
theorem fits_trans {n : NetL} {m : List Int} (h : fitsL n m = true) : n.trans.length ≤ 24 := by
  have h1 := (fits_net h).1
  simp only [netOk, headOk, Bool.and_eq_true, decide_eq_true_eq] at h1
  exact h1.1.2

/-- One that fails fails all. -/
theorem graph_fails {n : NetL} {m : List Int} {M k t : Nat} {s s' : SpaceL} (hg : graphTo n m M k = some s) (hk : k < s.marks.length) (hkM : k < M) (hr : rowTo n M k s t = some s') (ht : t < n.trans.length) (hn : tryT n M k s' t = none) : graphTo n m M M = none := by
  have h1 : rowTo n M k s (t + 1) = none := by rw [rowTo, hr]; exact hn
  have h2 := row_none h1 (n.trans.length - (t + 1))
  rw [show t + 1 + (n.trans.length - (t + 1)) = n.trans.length by omega] at h2
  have h3 : graphTo n m M (k + 1) = none := by rw [graphTo, hg]; simp only [Option.bind_some, if_pos hk]; exact h2
  have h4 := graph_none h3 (M - (k + 1))
  rw [show k + 1 + (M - (k + 1)) = M by omega] at h4
  exact h4
theorem tryT_skip {n : NetL} {M k t : Nat} {s : SpaceL} {z : List Int} (h : fireL n (markAt s.marks k) t = (z, 3)) : tryT n M k s t = some s := by
  unfold tryT; rw [h]; rfl
theorem tryT_full {n : NetL} {M k t : Nat} {s : SpaceL} {z : List Int} {cd : Int} (h : fireL n (markAt s.marks k) t = (z, cd)) (h3 : cd ≠ 3) (h0 : cd ≠ 0) : tryT n M k s t = none := by
  unfold tryT; rw [h]; simp [h3, h0]
theorem tryT_old {n : NetL} {M k t g : Nat} {s : SpaceL} {z : List Int} (h : fireL n (markAt s.marks k) t = (z, 0)) (hf : findM s.marks z = some g) : tryT n M k s t = some ⟨s.marks, s.arcs ++ [⟨k, t, g⟩]⟩ := by
  unfold tryT; rw [h]; simp [hf]
theorem tryT_most {n : NetL} {M k t : Nat} {s : SpaceL} {z : List Int} (h : fireL n (markAt s.marks k) t = (z, 0)) (hf : findM s.marks z = none) (hl : s.marks.length = M) : tryT n M k s t = none := by
  unfold tryT; rw [h]; simp [hf, hl]
theorem tryT_new {n : NetL} {M k t : Nat} {s : SpaceL} {z : List Int} (h : fireL n (markAt s.marks k) t = (z, 0)) (hf : findM s.marks z = none) (hl : s.marks.length ≠ M) : tryT n M k s t = some ⟨s.marks ++ [z], s.arcs ++ [⟨k, t, s.marks.length⟩]⟩ := by
  unfold tryT; rw [h]; simp [hf, hl]
theorem row_step {n : NetL} {M k t : Nat} {s s' s2 : SpaceL} (hr : rowTo n M k s t = some s') (h : tryT n M k s' t = some s2) : rowTo n M k s (t + 1) = some s2 := by
  rw [rowTo, hr]; exact h

theorem SpaceAt.afterM {x y B : Nat} {W wr W' wC : World} {s : SpaceL} {mv av : Value} {us : List Value} (h : SpaceAt x y B W wr s mv av us) (hb : Below wr.heap.size wr W') (hg : W'.grownBy wC mv.ownBlock) :
    wC.cell? ⟨x, 0, none⟩ = some mv ∧ wC.frozen? ⟨x, 0, none⟩ = false := by
  have g := h.to hb
  have hc : wC.heap[x]? = W'.heap[x]? := hg.block x g.hlt (fun e => g.apM e.symm)
  exact ⟨(World.cell?_of_block (a := ⟨x, 0, none⟩) hc).trans g.c0, (World.frozen?_of_block (a := ⟨x, 0, none⟩) hc).trans g.f0⟩
theorem SpaceAt.afterA {x y B : Nat} {W wr W' wC : World} {s : SpaceL} {mv av : Value} {us : List Value} (h : SpaceAt x y B W wr s mv av us) (hb : Below wr.heap.size wr W') (hg : W'.grownBy wC av.ownBlock) :
    wC.cell? ⟨x, 1, none⟩ = some av ∧ wC.frozen? ⟨x, 1, none⟩ = false := by
  have g := h.to hb
  have hc : wC.heap[x]? = W'.heap[x]? := hg.block x g.hlt (fun e => g.apA e.symm)
  exact ⟨(World.cell?_of_block (a := ⟨x, 1, none⟩) hc).trans g.c1, (World.frozen?_of_block (a := ⟨x, 1, none⟩) hc).trans g.f1⟩

end Go.Proofs.Ytkdbkoogcndlgaa

/- Stops of ways, plainly: where a way goes on, and what is met on ways from a stop. -/
namespace Go.Proofs.Ytkdbkoogcndlgaa
set_option linter.unusedVariables false
set_option maxRecDepth 4000

/-- A transition (true), or a place. -/
abbrev Stop := Bool × Nat

/-- A stop of a net. -/
def FitS (n : NetL) (s : Stop) : Prop := if s.1 then s.2 < n.trans.length else (s.2 : Int) < n.places

/-- Those below k that q tells of. -/
def somes (b : Bool) (q : Nat → Bool) (k : Nat) : List Stop := ((List.range k).filter q).map fun j => (b, j)
theorem somes_yes (b : Bool) (q : Nat → Bool) (k : Nat) (h : q k = true) : somes b q (k + 1) = somes b q k ++ [(b, k)] := by
  simp [somes, List.range_succ, List.filter_append, h]
theorem somes_no (b : Bool) (q : Nat → Bool) (k : Nat) (h : q k = false) : somes b q (k + 1) = somes b q k := by
  simp [somes, List.range_succ, List.filter_append, h]
theorem somes_le (b : Bool) (q : Nat → Bool) (k : Nat) : (somes b q k).length ≤ k := by
  simp only [somes, List.length_map]
  exact Nat.le_trans (List.length_filter_le _ _) (by simp)
theorem mem_somes {b : Bool} {q : Nat → Bool} {k : Nat} {s : Stop} : s ∈ somes b q k ↔ s.1 = b ∧ s.2 < k ∧ q s.2 = true := by
  obtain ⟨c, j⟩ := s
  simp only [somes, List.mem_map, List.mem_filter, List.mem_range, Prod.mk.injEq]
  constructor
  · rintro ⟨x, ⟨h1, h2⟩, h3, h4⟩
    subst h4
    exact ⟨h3.symm, h1, h2⟩
  · rintro ⟨h1, h2, h3⟩
    exact ⟨j, ⟨h2, h3⟩, h1.symm, rfl⟩

def putsAt (n : NetL) (k p : Nat) : Bool := decide (0 < nth (tranAt n.trans k).post p)
def takesAt (n : NetL) (p k : Nat) : Bool := decide (0 < nth (tranAt n.trans k).pre p)

/-- Where a way can go on from a stop. -/
def behindL (n : NetL) (s : Stop) : List Stop :=
  if s.1 then somes false (putsAt n s.2) (tranAt n.trans s.2).post.length else somes true (takesAt n s.2) n.trans.length

theorem behind_fits {n : NetL} (hn : netOk n = true) {s t : Stop} (hs : FitS n s) (h : t ∈ behindL n s) : FitS n t := by
  obtain ⟨b, k⟩ := s
  cases b with
  | true =>
    have hk : k < n.trans.length := hs
    have h := mem_somes.1 (show t ∈ somes false _ _ from h)
    obtain ⟨c, j⟩ := t
    obtain ⟨rfl, h2, _⟩ := h
    have hl := (tran_length hn hk).2
    show (j : Int) < n.places
    have h2 : j < (tranAt n.trans k).post.length := h2
    omega
  | false =>
    have h := mem_somes.1 (show t ∈ somes true _ _ from h)
    obtain ⟨c, j⟩ := t
    obtain ⟨rfl, h2, _⟩ := h
    exact h2

theorem behind_le {n : NetL} (hn : netOk n = true) {s : Stop} (hs : FitS n s) : (behindL n s).length ≤ 24 := by
  obtain ⟨b, k⟩ := s
  obtain ⟨h0, h1, h2⟩ := head_of hn
  cases b with
  | true =>
    have hk : k < n.trans.length := hs
    have hl := (tran_length hn hk).2
    have := somes_le false (putsAt n k) (tranAt n.trans k).post.length
    show (somes false (putsAt n k) (tranAt n.trans k).post.length).length ≤ 24
    omega
  | false =>
    have := somes_le true (takesAt n k) n.trans.length
    show (somes true (takesAt n k) n.trans.length).length ≤ 24
    omega

/-- What is on ways from a stop. -/
def OnWay (n : NetL) (s t : Stop) : Prop := ∀ Q : Stop → Prop, Q s → (∀ a b, Q a → b ∈ behindL n a → Q b) → Q t
theorem OnWay.here (n : NetL) (s : Stop) : OnWay n s s := fun Q h _ => h
theorem OnWay.step {n : NetL} {s a b : Stop} (h : OnWay n s a) (hb : b ∈ behindL n a) : OnWay n s b := fun Q q1 q2 => q2 a b (h Q q1 q2) hb
theorem OnWay.first {n : NetL} {s a b : Stop} (hb : a ∈ behindL n s) (h : OnWay n a b) : OnWay n s b := h (fun x => OnWay n s x) ((OnWay.here n s).step hb) fun _ _ q e => q.step e
theorem OnWay.fits {n : NetL} (hn : netOk n = true) {s t : Stop} (hs : FitS n s) (h : OnWay n s t) : FitS n t := h (FitS n) hs fun _ _ q e => behind_fits hn q e

/-- What has been met has become more: what is new is on ways from stops of S, and all behind it has been met. -/
structure Went (n : NetL) (S : Stop → Prop) (vs vs' : List Stop) : Prop where
  sub : ∀ x ∈ vs, x ∈ vs'
  new : ∀ x ∈ vs', x ∈ vs ∨ S x
  shut : ∀ x ∈ vs', x ∉ vs → ∀ y ∈ behindL n x, y ∈ vs'

theorem Went.refl (n : NetL) (S : Stop → Prop) (vs : List Stop) : Went n S vs vs := ⟨fun _ h => h, fun _ h => .inl h, fun x h k => absurd h k⟩

theorem Went.trans {n : NetL} {S T : Stop → Prop} {vs us ws : List Stop} (h : Went n S vs us) (g : Went n T us ws) (hT : ∀ x, T x → S x) : Went n S vs ws where
  sub := fun x hx => g.sub x (h.sub x hx)
  new := fun x hx => by
    rcases g.new x hx with k | k
    · exact h.new x k
    · exact .inr (hT x k)
  shut := fun x hx hn y hy => by
    by_cases k : x ∈ us
    · exact g.sub y (h.shut x k hn y hy)
    · exact g.shut x hx k y hy

/-- One stop, and what is behind it. -/
theorem Went.stop {n : NetL} {s : Stop} {vs us : List Stop} (h : Went n (OnWay n s) (vs ++ [s]) us) (hall : ∀ y ∈ behindL n s, y ∈ us) : Went n (OnWay n s) vs us where
  sub := fun x hx => h.sub x (by simp [hx])
  new := fun x hx => by
    rcases h.new x hx with k | k
    · rcases List.mem_append.1 k with k | k
      · exact .inl k
      · have : x = s := by simpa using k
        subst this
        exact .inr (OnWay.here _ _)
    · exact .inr k
  shut := fun x hx hn y hy => by
    by_cases e : x = s
    · subst e; exact hall y hy
    · exact h.shut x hx (by simp [hn, e]) y hy

/-- From nothing: all that is on ways from a stop. -/
theorem Went.all {n : NetL} {s : Stop} {us : List Stop} (h : Went n (OnWay n s) [] us) (hs : s ∈ us) (x : Stop) : x ∈ us ↔ OnWay n s x := by
  constructor
  · intro hx
    rcases h.new x hx with k | k
    · cases k
    · exact k
  · exact fun hx => hx (fun y => y ∈ us) hs fun a b ha hb => h.shut a ha (by simp) b hb

/-- All stops of a net. -/
def allS (n : NetL) : List Stop := ((List.range n.places.toNat).map fun j => (false, j)) ++ (List.range n.trans.length).map fun j => (true, j)
theorem mem_allS {n : NetL} {s : Stop} : s ∈ allS n ↔ FitS n s := by
  obtain ⟨b, k⟩ := s
  cases b <;> simp [allS, FitS]
theorem allS_length {n : NetL} (h : 0 ≤ n.places) : ((allS n).length : Int) = n.places + n.trans.length := by
  simp only [allS, List.length_append, List.length_map, List.length_range]
  omega

theorem nodup_le : ∀ {l1 l2 : List Stop}, l1.Nodup → (∀ x ∈ l1, x ∈ l2) → l1.length ≤ l2.length := by
  intro l1
  induction l1 with
  | nil => intro l2 _ _; simp
  | cons a r ih =>
    intro l2 hn hs
    obtain ⟨h1, h2⟩ := List.nodup_cons.1 hn
    have ha : a ∈ l2 := hs a (by simp)
    have := ih (l2 := l2.erase a) h2 fun x hx => by
      have hne : x ≠ a := fun e => h1 (e ▸ hx)
      exact (List.mem_erase_of_ne hne).2 (hs x (by simp [hx]))
    rw [List.length_erase_of_mem ha] at this
    have := List.length_pos_of_mem ha
    simp only [List.length_cons]
    omega

theorem nodup_full {l1 l2 : List Stop} (hn : l1.Nodup) (hs : ∀ x ∈ l1, x ∈ l2) (hl : l1.length = l2.length) : ∀ x ∈ l2, x ∈ l1 := by
  intro x hx
  apply Classical.byContradiction
  intro hno
  have := nodup_le (l1 := x :: l1) (l2 := l2) (List.nodup_cons.2 ⟨hno, hn⟩) fun y hy => by
    rcases List.mem_cons.1 hy with rfl | hy
    · exact hx
    · exact hs y hy
  simp only [List.length_cons] at this
  omega

theorem allS_nodup (n : NetL) : (allS n).Nodup := by
  unfold allS
  have inj : ∀ b : Bool, ∀ l : List Nat, l.Nodup → (l.map fun j => (b, j)).Nodup := by
    intro b l h
    rw [List.nodup_iff_pairwise_ne] at h
    simp only [List.nodup_iff_pairwise_ne, List.pairwise_map, ne_eq, Prod.mk.injEq, true_and]
    exact h
  rw [List.nodup_append]
  refine ⟨inj _ _ List.nodup_range, inj _ _ List.nodup_range, ?_⟩
  intro a ha b hb e
  subst e
  simp only [List.mem_map] at ha hb
  obtain ⟨_, _, rfl⟩ := ha
  obtain ⟨_, _, e⟩ := hb
  injection e with e _
  cases e

/-- As many were met as there are: all were. -/
theorem met_all {n : NetL} (hn : netOk n = true) {s : Stop} (hs : FitS n s) {us : List Stop} (hd : us.Nodup) (hm : ∀ x, x ∈ us ↔ OnWay n s x) :
    ((us.length : Int) = n.places + n.trans.length) ↔ ∀ x, FitS n x → OnWay n s x := by
  have hl := allS_length (head_of hn).1
  constructor
  · intro e x hx
    refine (hm x).1 (nodup_full hd (fun y hy => mem_allS.2 ((hm y).1 hy |>.fits hn hs)) (by omega) x (mem_allS.2 hx))
  · intro h
    have h1 := nodup_le hd fun y hy => mem_allS.2 (((hm y).1 hy).fits hn hs)
    have h2 := nodup_le (allS_nodup n) fun y hy => (hm y).2 (h y (mem_allS.1 hy))
    omega

theorem nth_in {xs : List Int} {p : Nat} (h : nth xs p ≠ 0) : p < xs.length := by
  rcases Nat.lt_or_ge p xs.length with h1 | h1
  · exact h1
  · exact absurd (nth_past _ _ h1) h

/-- Ways by stops are ways by places. -/
theorem onWay_place {n : NetL} (hn : netOk n = true) {f p : Nat} : OnWay n (false, f) (false, p) ↔ WayP n f p := by
  constructor
  · intro h
    have := h (fun s => if s.1 then WayT n f s.2 ∧ s.2 < n.trans.length else WayP n f s.2) (WayP.here n f) fun a b ha hb => by
      obtain ⟨ba, ka⟩ := a
      obtain ⟨bb, kb⟩ := b
      cases ba with
      | true =>
        obtain ⟨e, h2, h3⟩ := mem_somes.1 (show (bb, kb) ∈ somes false _ _ from hb)
        simp only at e
        subst e
        obtain ⟨⟨q, hq, hq2⟩, hk⟩ := ha
        have h3 : 0 < nth (tranAt n.trans ka).post kb := of_decide_eq_true h3
        exact hq.step hk hq2 (Int.ne_of_gt h3)
      | false =>
        obtain ⟨e, h2, h3⟩ := mem_somes.1 (show (bb, kb) ∈ somes true _ _ from hb)
        simp only at e
        subst e
        have h3 : 0 < nth (tranAt n.trans kb).pre ka := of_decide_eq_true h3
        exact ⟨⟨ka, ha, Int.ne_of_gt h3⟩, h2⟩
    exact this
  · intro h
    refine h (fun p => OnWay n (false, f) (false, p)) (OnWay.here _ _) fun k a b hk ha h1 h2 => ?_
    have r := tran_right (net_tran hn hk)
    have p1 := (okTok_nth r.1 a).1
    have p2 := (okTok_nth r.2 b).1
    have e1 : 0 < nth (tranAt n.trans k).pre a := by omega
    have e2 : 0 < nth (tranAt n.trans k).post b := by omega
    exact (ha.step (b := (true, k)) (mem_somes.2 ⟨rfl, hk, decide_eq_true e1⟩)).step (mem_somes.2 ⟨rfl, nth_in h2, decide_eq_true e2⟩)

theorem onWay_tran {n : NetL} (hn : netOk n = true) {f k : Nat} (hk : k < n.trans.length) : OnWay n (false, f) (true, k) ↔ WayT n f k := by
  constructor
  · intro h
    have := h (fun s => if s.1 then WayT n f s.2 ∧ s.2 < n.trans.length else OnWay n (false, f) (false, s.2)) (OnWay.here _ _) fun a b ha hb => by
      obtain ⟨ba, ka⟩ := a
      obtain ⟨bb, kb⟩ := b
      cases ba with
      | true =>
        obtain ⟨e, h2, h3⟩ := mem_somes.1 (show (bb, kb) ∈ somes false _ _ from hb)
        simp only at e
        subst e
        obtain ⟨⟨q, hq, hq2⟩, hk2⟩ := ha
        have h3 : 0 < nth (tranAt n.trans ka).post kb := of_decide_eq_true h3
        exact (onWay_place hn).2 (hq.step hk2 hq2 (Int.ne_of_gt h3))
      | false =>
        obtain ⟨e, h2, h3⟩ := mem_somes.1 (show (bb, kb) ∈ somes true _ _ from hb)
        simp only at e
        subst e
        have h3 : 0 < nth (tranAt n.trans kb).pre ka := of_decide_eq_true h3
        exact ⟨⟨ka, (onWay_place hn).1 ha, Int.ne_of_gt h3⟩, h2⟩
    exact this.1
  · rintro ⟨p, hp, h1⟩
    have r := tran_right (net_tran hn hk)
    have p1 := (okTok_nth r.1 p).1
    have e1 : 0 < nth (tranAt n.trans k).pre p := by omega
    exact ((onWay_place hn).2 hp).step (mem_somes.2 ⟨rfl, hk, decide_eq_true e1⟩)

theorem onWay_all {n : NetL} (hn : netOk n = true) {f : Nat} : (∀ x, FitS n x → OnWay n (false, f) x) ↔ (∀ p : Nat, (p : Int) < n.places → WayP n f p) ∧ ∀ k, k < n.trans.length → WayT n f k := by
  constructor
  · intro h
    exact ⟨fun p hp => (onWay_place hn).1 (h (false, p) hp), fun k hk => (onWay_tran hn hk).1 (h (true, k) hk)⟩
  · rintro ⟨h1, h2⟩ ⟨b, k⟩ hx
    cases b with
    | true => exact (onWay_tran hn hx).2 (h2 k hx)
    | false => exact (onWay_place hn).2 (h1 k hx)

end Go.Proofs.Ytkdbkoogcndlgaa

/- A row of ints that the call itself made, written at any index. -/
namespace Go.Proofs.Ytkdbkoogcndlgaa
open Go.RowKit
set_option linter.unusedVariables false
set_option maxRecDepth 4000

/-- A row of n ints that the call itself made, at block B, that holds f; nothing older has turned. -/
structure RowAt (B : Nat) (w wr : World) (n : Nat) (f : Nat → Int) : Prop where
  cells : ∀ j, j < n → wr.cell? ⟨B, j, none⟩ = some (.int .i64 (f j))
  frozen : ∀ j, j < n → wr.frozen? ⟨B, j, none⟩ = false
  below : Below B w wr
  size : B < wr.heap.size

theorem RowAt.put {B : Nat} {w wr : World} {n k : Nat} {f g : Nat → Int} (h : RowAt B w wr n f) (hk : k < n) {x : Int} (hx : g k = x) (hg : ∀ j, j < n → j ≠ k → g j = f j) :
    RowAt B w (wr.setCell ⟨B, k, none⟩ (.int .i64 x)) n g := by
  refine ⟨fun j hj => ?_, fun j hj => by rw [World.frozen?_setCell]; exact h.frozen j hj, h.below.setCell (Nat.le_refl _) _, by simpa [World.setCell] using h.size⟩
  by_cases e : j = k
  · subst e
    rw [World.cell?_setCell_same _ _ _ (h.cells j hj), hx]
  · rw [World.cell?_setCell_other _ _ _ _ (by intro q; apply e; injection q with _ q2; exact q2.symm), h.cells j hj, hg j hj e]

theorem RowAt.same {B : Nat} {w wr : World} {n : Nat} {f g : Nat → Int} (h : RowAt B w wr n f) (hg : ∀ j, j < n → g j = f j) : RowAt B w wr n g :=
  ⟨fun j hj => by rw [h.cells j hj, hg j hj], h.frozen, h.below, h.size⟩

theorem RowAt.to {B : Nat} {w wr w2 : World} {n : Nat} {f : Nat → Int} (h : RowAt B w wr n f) (hb : Below wr.heap.size wr w2) : RowAt B w w2 n f :=
  ⟨fun j hj => by rw [hb.cell (p := ⟨B, j, none⟩) h.size]; exact h.cells j hj, fun j hj => by rw [hb.frozen (p := ⟨B, j, none⟩) h.size]; exact h.frozen j hj, h.below.trans (hb.mono (Nat.le_of_lt h.size)), Nat.lt_of_lt_of_le h.size hb.size⟩

theorem RowAt.ints {B : Nat} {w wr : World} {n : Nat} {f : Nat → Int} (h : RowAt B w wr n f) {zs : List Int} (hl : zs.length = n) (hz : ∀ j, j < n → nth zs j = f j) (hn : n ≤ 17592186044416) {cap : Nat} (hc : n ≤ cap) (hc2 : cap ≤ 9223372036854775807) :
    Ints wr (.slice (some ⟨B, 0, none⟩) n cap) zs :=
  ⟨_, _, _, rfl, hl, hn, ⟨hc, hc2, fun h => by cases h⟩, fun j hj => ⟨B, 0, rfl, h.size, by rw [Nat.zero_add, h.cells j (by omega), hz j (by omega)]⟩⟩

theorem rowAt_new {w w1 : World} {n : Nat} (hb : Below w.heap.size w w1) (hs : w.heap.size < w1.heap.size) (hc : ∀ j, j < n → w1.cell? ⟨w.heap.size, j, none⟩ = some (.int .i64 0) ∧ w1.frozen? ⟨w.heap.size, j, none⟩ = false)
    {f : Nat → Int} (hf : ∀ j, j < n → f j = 0) : RowAt w.heap.size w w1 n f :=
  ⟨fun j hj => by rw [hf j hj]; exact (hc j hj).1, fun j hj => (hc j hj).2, hb, hs⟩

theorem RowAt.on {B : Nat} {w wr : World} {n : Nat} {f : Nat → Int} (h : RowAt B w wr n f) {zs : List Int} (hl : zs.length = n) (hz : ∀ j, j < n → nth zs j = f j) (hn : n ≤ 17592186044416) {cap : Nat} (hc : n ≤ cap) (hc2 : cap ≤ 9223372036854775807) :
    On (fun k => B ≤ k) wr (fun w' => Ints w' (.slice (some ⟨B, 0, none⟩) n cap) zs) := by
  intro w' hs hk
  exact ⟨_, _, _, rfl, hl, hn, ⟨hc, hc2, fun h => by cases h⟩, fun j hj => ⟨B, 0, rfl, Nat.lt_of_lt_of_le h.size hs, by rw [Nat.zero_add, World.cell?_of_block (a := ⟨B, j, none⟩) (hk B h.size (Nat.le_refl _)), h.cells j (by omega), hz j (by omega)]⟩⟩

/-- A row of as many as a number says. -/
theorem make_intsZ (w : World) (n : Nat) (z : Int) (hz : z = n) (hn : n ≤ 17592186044416) :
    ∃ w1, (Instr.makeSlice 25 (.int .i64 z) (.int .i64 z)).run Try.prog w = .ok (.slice (some ⟨w.heap.size, 0, none⟩) n n) w1 ∧ RowAt w.heap.size w w1 n (fun _ => 0) := by
  subst hz
  obtain ⟨w1, h1, h2, h3, h4⟩ := make_ints w n hn
  exact ⟨w1, h1, rowAt_new h2 h3 h4 fun _ _ => rfl⟩

end Go.Proofs.Ytkdbkoogcndlgaa

/- Which places and transitions are behind a place, reckoned round by round. -/
namespace Go.Proofs.Ytkdbkoogcndlgaa
set_option linter.unusedVariables false
set_option maxRecDepth 4000

/-- What is known so far: of places, of transitions. -/
structure WayS where
  ps : Nat → Bool
  ts : Nat → Bool

/-- Does one of the first j places lead to a transition? -/
def leadTo (ps : Nat → Bool) (w : List Int) (b : Bool) : Nat → Bool
  | 0 => b
  | j + 1 => leadTo ps w b j || (ps j && decide (0 < nth w j))
/-- The first j places that a transition leads to. -/
def feedTo (ps : Nat → Bool) (w : List Int) (b : Bool) (j : Nat) : Nat → Bool := fun q => ps q || (decide (q < j) && (b && decide (0 < nth w q)))
def setAt (ts : Nat → Bool) (k : Nat) (b : Bool) : Nat → Bool := fun j => if j = k then b else ts j

def tranWay (n : NetL) (s : WayS) (k : Nat) : WayS :=
  ⟨feedTo s.ps (tranAt n.trans k).post (leadTo s.ps (tranAt n.trans k).pre (s.ts k) n.places.toNat) n.places.toNat, setAt s.ts k (leadTo s.ps (tranAt n.trans k).pre (s.ts k) n.places.toNat)⟩
def roundWay (n : NetL) (s : WayS) : Nat → WayS
  | 0 => s
  | k + 1 => tranWay n (roundWay n s k) k
def startWay (f : Nat) : WayS := ⟨fun q => decide (q = f), fun _ => false⟩
def waysTo (n : NetL) (f : Nat) : Nat → WayS
  | 0 => startWay f
  | r + 1 => roundWay n (waysTo n f r) n.trans.length
def waysL (n : NetL) (f : Nat) : WayS := waysTo n f (n.places.toNat + n.trans.length)

theorem lead_mono {ps : Nat → Bool} {w : List Int} {b : Bool} (h : b = true) (j : Nat) : leadTo ps w b j = true := by
  induction j with
  | zero => exact h
  | succ j ih => unfold leadTo; rw [ih]; rfl
theorem lead_iff {ps : Nat → Bool} {w : List Int} {b : Bool} (j : Nat) : leadTo ps w b j = true ↔ b = true ∨ ∃ q, q < j ∧ ps q = true ∧ 0 < nth w q := by
  induction j with
  | zero => simp [leadTo]
  | succ j ih =>
    unfold leadTo
    rw [Bool.or_eq_true, ih, Bool.and_eq_true, decide_eq_true_eq]
    constructor
    · rintro ((h | ⟨q, h1, h2⟩) | ⟨h1, h2⟩)
      · exact .inl h
      · exact .inr ⟨q, by omega, h2⟩
      · exact .inr ⟨j, by omega, h1, h2⟩
    · rintro (h | ⟨q, h1, h2⟩)
      · exact .inl (.inl h)
      · by_cases e : q = j
        · subst e; exact .inr h2
        · exact .inl (.inr ⟨q, by omega, h2⟩)
theorem feed_iff {ps : Nat → Bool} {w : List Int} {b : Bool} {j q : Nat} : feedTo ps w b j q = true ↔ ps q = true ∨ (q < j ∧ b = true ∧ 0 < nth w q) := by
  unfold feedTo
  rw [Bool.or_eq_true, Bool.and_eq_true, Bool.and_eq_true, decide_eq_true_eq, decide_eq_true_eq]

/-- Nothing that was known is lost. -/
structure WayLe (s u : WayS) : Prop where
  ps : ∀ q, s.ps q = true → u.ps q = true
  ts : ∀ k, s.ts k = true → u.ts k = true
theorem WayLe.refl (s : WayS) : WayLe s s := ⟨fun _ h => h, fun _ h => h⟩
theorem WayLe.trans {s u v : WayS} (h : WayLe s u) (k : WayLe u v) : WayLe s v := ⟨fun q h1 => k.ps q (h.ps q h1), fun q h1 => k.ts q (h.ts q h1)⟩
theorem WayLe.eq {s u : WayS} (h : WayLe s u) (k : WayLe u s) : s = u := by
  cases s with
  | mk p t =>
    cases u with
    | mk p2 t2 =>
      have e1 : p = p2 := by funext q; rw [Bool.eq_iff_iff]; exact ⟨h.ps q, k.ps q⟩
      have e2 : t = t2 := by funext q; rw [Bool.eq_iff_iff]; exact ⟨h.ts q, k.ts q⟩
      rw [e1, e2]
theorem tran_le (n : NetL) (s : WayS) (k : Nat) : WayLe s (tranWay n s k) := by
  refine ⟨fun q h => feed_iff.2 (.inl h), fun j h => ?_⟩
  show setAt s.ts k _ j = true
  unfold setAt
  split
  · rename_i e; subst e; exact lead_mono h _
  · exact h
theorem round_le (n : NetL) (s : WayS) : ∀ k, WayLe s (roundWay n s k)
  | 0 => WayLe.refl s
  | k + 1 => (round_le n s k).trans (tran_le n _ k)

/-- What is known is so. -/
structure WaySound (n : NetL) (f : Nat) (s : WayS) : Prop where
  ps : ∀ q, s.ps q = true → WayP n f q
  ts : ∀ k, k < n.trans.length → s.ts k = true → WayT n f k
theorem sound_start (n : NetL) (f : Nat) : WaySound n f (startWay f) := by
  refine ⟨fun q h => ?_, fun k _ h => by cases h⟩
  have : q = f := of_decide_eq_true h
  subst this; exact WayP.here n q
theorem sound_tran {n : NetL} {f : Nat} {s : WayS} (h : WaySound n f s) {k : Nat} (hk : k < n.trans.length) : WaySound n f (tranWay n s k) := by
  have hb : leadTo s.ps (tranAt n.trans k).pre (s.ts k) n.places.toNat = true → WayT n f k := fun q => by
    rcases (lead_iff _).1 q with q | ⟨a, h1, h2, h3⟩
    · exact h.ts k hk q
    · exact ⟨a, h.ps a h2, by omega⟩
  refine ⟨fun q hq => ?_, fun j hj hq => ?_⟩
  · rcases feed_iff.1 hq with q1 | ⟨h1, h2, h3⟩
    · exact h.ps q q1
    · obtain ⟨a, h4, h5⟩ := hb h2
      exact h4.step hk h5 (by omega)
  · have hq : setAt s.ts k _ j = true := hq
    unfold setAt at hq
    split at hq
    · rename_i e; subst e; exact hb hq
    · exact h.ts j hj hq
theorem sound_round {n : NetL} {f : Nat} {s : WayS} (h : WaySound n f s) : ∀ k, k ≤ n.trans.length → WaySound n f (roundWay n s k)
  | 0, _ => h
  | k + 1, hk => sound_tran (sound_round h k (by omega)) (by omega)
theorem sound_ways (n : NetL) (f : Nat) : ∀ r, WaySound n f (waysTo n f r)
  | 0 => sound_start n f
  | r + 1 => sound_round (sound_ways n f r) _ (Nat.le_refl _)

/-- How much is not known yet. -/
def gapOf (g : Nat → Bool) (k : Nat) : Nat := ((List.range k).filter fun j => !g j).length
theorem gap_zero (g : Nat → Bool) : gapOf g 0 = 0 := rfl
theorem gap_succ (g : Nat → Bool) (k : Nat) : gapOf g (k + 1) = gapOf g k + (if g k = true then 0 else 1) := by
  unfold gapOf
  rw [List.range_succ, List.filter_append, List.length_append]
  congr 1
  cases h : g k <;> simp [h]
theorem gap_le (g : Nat → Bool) (k : Nat) : gapOf g k ≤ k := by
  induction k with
  | zero => exact Nat.le_refl _
  | succ k ih => rw [gap_succ]; split <;> omega
theorem gap_some {g : Nat → Bool} {k j : Nat} (hj : j < k) (h : g j = true) : gapOf g k + 1 ≤ k := by
  induction k with
  | zero => omega
  | succ k ih =>
    rw [gap_succ]
    by_cases e : j = k
    · subst e; rw [if_pos h]; have := gap_le g j; omega
    · have := ih (by omega)
      split <;> omega
theorem gap_mono {g h : Nat → Bool} (hm : ∀ j, g j = true → h j = true) (k : Nat) : gapOf h k ≤ gapOf g k := by
  induction k with
  | zero => exact Nat.le_refl _
  | succ k ih =>
    rw [gap_succ, gap_succ]
    have := hm k
    by_cases e : g k = true
    · rw [if_pos e, if_pos (this e)]; exact ih
    · rw [if_neg e]; split <;> omega
theorem gap_same {g h : Nat → Bool} (hm : ∀ j, g j = true → h j = true) (k : Nat) (he : gapOf g k ≤ gapOf h k) : ∀ j, j < k → h j = true → g j = true := by
  induction k with
  | zero => intro j hj; omega
  | succ k ih =>
    rw [gap_succ, gap_succ] at he
    have hk := gap_mono hm k
    intro j hj hh
    by_cases e : j = k
    · subst e
      by_cases q : g j = true
      · exact q
      · rw [if_neg q, if_pos hh] at he; omega
    · refine ih ?_ j (by omega) hh
      by_cases q : g k = true
      · rw [if_pos q, if_pos (hm k q)] at he; omega
      · rw [if_neg q] at he; split at he <;> omega

theorem tran_out (n : NetL) (s : WayS) (k : Nat) : (∀ q, n.places.toNat ≤ q → (tranWay n s k).ps q = s.ps q) ∧ (∀ j, j ≠ k → (tranWay n s k).ts j = s.ts j) := by
  refine ⟨fun q hq => ?_, fun j hj => ?_⟩
  · show feedTo _ _ _ _ q = _
    unfold feedTo
    rw [decide_eq_false (by omega)]
    simp
  · show setAt _ _ _ j = _
    unfold setAt
    rw [if_neg hj]
theorem round_out (n : NetL) (s : WayS) : ∀ k, (∀ q, n.places.toNat ≤ q → (roundWay n s k).ps q = s.ps q) ∧ (∀ j, k ≤ j → (roundWay n s k).ts j = s.ts j)
  | 0 => ⟨fun _ _ => rfl, fun _ _ => rfl⟩
  | k + 1 => by
    obtain ⟨h1, h2⟩ := round_out n s k
    obtain ⟨h3, h4⟩ := tran_out n (roundWay n s k) k
    exact ⟨fun q hq => (h3 q hq).trans (h1 q hq), fun j hj => (h4 j (by omega)).trans (h2 j (by omega))⟩

def gapW (n : NetL) (s : WayS) : Nat := gapOf s.ps n.places.toNat + gapOf s.ts n.trans.length
/-- A round that tells nothing new changes nothing. -/
theorem round_same {n : NetL} {s : WayS} (h : gapW n s ≤ gapW n (roundWay n s n.trans.length)) : roundWay n s n.trans.length = s := by
  have hle := round_le n s n.trans.length
  have m1 := gap_mono hle.ps n.places.toNat
  have m2 := gap_mono hle.ts n.trans.length
  unfold gapW at h
  obtain ⟨o1, o2⟩ := round_out n s n.trans.length
  refine (hle.eq ⟨fun q hq => ?_, fun k hk => ?_⟩).symm
  · by_cases e : q < n.places.toNat
    · exact gap_same hle.ps n.places.toNat (by omega) q e hq
    · rw [← o1 q (by omega)]; exact hq
  · by_cases e : k < n.trans.length
    · exact gap_same hle.ts n.trans.length (by omega) k e hk
    · rw [← o2 k (by omega)]; exact hk
theorem round_end (n : NetL) (f : Nat) (hf : f < n.places.toNat) : ∀ r, roundWay n (waysTo n f r) n.trans.length = waysTo n f r ∨ gapW n (waysTo n f r) + r + 1 ≤ n.places.toNat + n.trans.length
  | 0 => by
    right
    have h1 := gap_some (g := (startWay f).ps) (k := n.places.toNat) (j := f) hf (decide_eq_true rfl)
    have h2 := gap_le (startWay f).ts n.trans.length
    show gapOf _ _ + gapOf _ _ + 0 + 1 ≤ _
    show gapOf (startWay f).ps n.places.toNat + gapOf (startWay f).ts n.trans.length + 0 + 1 ≤ _
    omega
  | r + 1 => by
    rcases round_end n f hf r with h | h
    · left
      show roundWay n (roundWay n (waysTo n f r) n.trans.length) n.trans.length = roundWay n (waysTo n f r) n.trans.length
      rw [h, h]
    · by_cases e : gapW n (waysTo n f r) ≤ gapW n (roundWay n (waysTo n f r) n.trans.length)
      · left
        have h1 := round_same e
        show roundWay n (roundWay n (waysTo n f r) n.trans.length) n.trans.length = roundWay n (waysTo n f r) n.trans.length
        rw [h1, h1]
      · right
        show gapW n (roundWay n (waysTo n f r) n.trans.length) + (r + 1) + 1 ≤ _
        omega
theorem ways_stable (n : NetL) (f : Nat) (hf : f < n.places.toNat) : roundWay n (waysL n f) n.trans.length = waysL n f := by
  rcases round_end n f hf (n.places.toNat + n.trans.length) with h | h
  · exact h
  · omega
/-- Where a round changes nothing, no transition does. -/
theorem stable_tran {n : NetL} {s : WayS} (h : roundWay n s n.trans.length = s) {k : Nat} (hk : k < n.trans.length) : tranWay n s k = s := by
  have up : ∀ j d, WayLe (roundWay n s j) (roundWay n s (j + d)) := by
    intro j d
    induction d with
    | zero => exact WayLe.refl _
    | succ d ih => exact ih.trans (tran_le n _ _)
  have at_ : ∀ j, j ≤ n.trans.length → roundWay n s j = s := by
    intro j hj
    have h1 := up j (n.trans.length - j)
    rw [show j + (n.trans.length - j) = n.trans.length by omega, h] at h1
    exact (h1.eq (round_le n s j))
  have h1 := at_ (k + 1) (by omega)
  have h2 := at_ k (by omega)
  have h3 : roundWay n s (k + 1) = tranWay n (roundWay n s k) k := rfl
  rw [h2] at h3
  rw [← h3, h1]
theorem ways_le (n : NetL) (f : Nat) : ∀ r, WayLe (startWay f) (waysTo n f r)
  | 0 => WayLe.refl _
  | r + 1 => (ways_le n f r).trans (round_le n _ _)

/-- All that is behind a place is known in the end. -/
theorem ways_iff {n : NetL} (hn : netOk n = true) {f : Nat} (hf : (f : Int) < n.places) : (∀ q, (waysL n f).ps q = true ↔ WayP n f q) ∧ (∀ k, k < n.trans.length → ((waysL n f).ts k = true ↔ WayT n f k)) := by
  have hs := ways_stable n f (by omega)
  have hsd := sound_ways n f (n.places.toNat + n.trans.length)
  have lead : ∀ k a, k < n.trans.length → (waysL n f).ps a = true → nth (tranAt n.trans k).pre a ≠ 0 → (waysL n f).ts k = true := by
    intro k a hk ha h0
    have e := congrArg WayS.ts (stable_tran hs hk)
    have e2 := congrFun e k
    have e3 : (tranWay n (waysL n f) k).ts k = leadTo (waysL n f).ps (tranAt n.trans k).pre ((waysL n f).ts k) n.places.toNat := by
      show setAt _ _ _ k = _
      unfold setAt
      rw [if_pos rfl]
    rw [← e2, e3, lead_iff]
    have hl := (tran_length hn hk).1
    have hb := (okTok_nth (tran_right (net_tran hn hk)).1 a).1
    refine .inr ⟨a, ?_, ha, by omega⟩
    rcases Nat.lt_or_ge a (tranAt n.trans k).pre.length with q | q
    · omega
    · exact absurd (nth_past _ _ q) h0
  have feed : ∀ k b, k < n.trans.length → (waysL n f).ts k = true → nth (tranAt n.trans k).post b ≠ 0 → (waysL n f).ps b = true := by
    intro k b hk ht h0
    have e := congrArg WayS.ps (stable_tran hs hk)
    have e2 := congrFun e b
    rw [← e2]
    have hl := (tran_length hn hk).2
    have hb := (okTok_nth (tran_right (net_tran hn hk)).2 b).1
    refine feed_iff.2 (.inr ⟨?_, lead_mono ht _, by omega⟩)
    rcases Nat.lt_or_ge b (tranAt n.trans k).post.length with q | q
    · omega
    · exact absurd (nth_past _ _ q) h0
  have full : ∀ q, WayP n f q → (waysL n f).ps q = true := fun q hq =>
    hq (fun q => (waysL n f).ps q = true) ((ways_le n f _).ps f (decide_eq_true rfl)) fun k a b hk ha h1 h2 => feed k b hk (lead k a hk ha h1) h2
  refine ⟨fun q => ⟨hsd.ps q, full q⟩, fun k hk => ⟨hsd.ts k hk, ?_⟩⟩
  rintro ⟨a, h1, h2⟩
  exact lead k a hk (full a h1) h2

end Go.Proofs.Ytkdbkoogcndlgaa

/- The marks that are come to from one mark, transition by transition: only those that can fire need be tried. -/
namespace Go.Proofs.Ytkdbkoogcndlgaa
set_option linter.unusedVariables false
set_option maxRecDepth 4000

/-- These transitions are tried at mark k. -/
def rowOn (n : NetL) (M k : Nat) (s : SpaceL) (ts : List Nat) : Option SpaceL := ts.foldlM (tryT n M k) s

theorem rowOn_nil (n : NetL) (M k : Nat) (s : SpaceL) : rowOn n M k s [] = some s := rfl
theorem rowOn_snoc (n : NetL) (M k : Nat) (s : SpaceL) (ts : List Nat) (t : Nat) : rowOn n M k s (ts ++ [t]) = (rowOn n M k s ts).bind fun s' => tryT n M k s' t := by
  unfold rowOn
  rw [List.foldlM_append]
  cases h : ts.foldlM (tryT n M k) s with
  | none => rfl
  | some s' =>
    show ([t].foldlM (tryT n M k) s') = tryT n M k s' t
    rw [List.foldlM_cons]
    cases tryT n M k s' t <;> rfl

theorem rowOn_none {n : NetL} {M k : Nat} {s : SpaceL} {ts : List Nat} {us : List Nat} (h : rowOn n M k s ts = none) : rowOn n M k s (ts ++ us) = none := by
  unfold rowOn at *
  rw [List.foldlM_append, h]
  rfl

theorem tryT_pre {n : NetL} {M k t : Nat} {s s' : SpaceL} (e : tryT n M k s t = some s') : ∃ r, s'.marks = s.marks ++ r := by
  unfold tryT at e
  split at e
  · injection e with e; subst e; exact ⟨[], by simp⟩
  · split at e
    · split at e
      · injection e with e; subst e; exact ⟨[], by simp⟩
      · split at e
        · cases e
        · injection e with e; subst e; exact ⟨_, rfl⟩
    · cases e

theorem rowTo_pre {n : NetL} {M k : Nat} {s : SpaceL} : ∀ (t : Nat) {s' : SpaceL}, rowTo n M k s t = some s' → ∃ r, s'.marks = s.marks ++ r := by
  intro t
  induction t with
  | zero => intro s' e; injection e with e; subst e; exact ⟨[], by simp⟩
  | succ t ih =>
    intro s' e
    simp only [rowTo, Option.bind_eq_some_iff] at e
    obtain ⟨s1, e1, e2⟩ := e
    obtain ⟨r1, h1⟩ := ih e1
    obtain ⟨r2, h2⟩ := tryT_pre e2
    exact ⟨r1 ++ r2, by rw [h2, h1, List.append_assoc]⟩

/-- Those that can fire at m, rising. -/
def canN (n : NetL) (m : List Int) (T : Nat) : List Nat := (List.range T).filter fun t => coversL m (tranAt n.trans t).pre
theorem canTo_canN (n : NetL) (m : List Int) (T : Nat) : canTo n m T = (canN n m T).map fun t => ((t : Nat) : Int) := rfl

theorem rowTo_on {n : NetL} {M k : Nat} {s : SpaceL} (hk : k < s.marks.length) (hf : fitsL n (markAt s.marks k) = true) : ∀ T, T ≤ n.trans.length → rowTo n M k s T = rowOn n M k s (canN n (markAt s.marks k) T) := by
  intro T
  induction T with
  | zero => intro _; rfl
  | succ T ih =>
    intro hT
    have h1 := ih (by omega)
    rw [rowTo]
    unfold canN
    rw [List.range_succ, List.filter_append]
    cases hc : coversL (markAt s.marks k) (tranAt n.trans T).pre with
    | true =>
      rw [show ([T].filter fun t => coversL (markAt s.marks k) (tranAt n.trans t).pre) = [T] by simp [hc]]
      rw [rowOn_snoc, h1]
      rfl
    | false =>
      rw [show ([T].filter fun t => coversL (markAt s.marks k) (tranAt n.trans t).pre) = [] by simp [hc], List.append_nil]
      cases hr : rowTo n M k s T with
      | none => rw [hr] at h1; show none = _; exact h1
      | some s' =>
        rw [hr] at h1
        show tryT n M k s' T = _
        obtain ⟨r, hm⟩ := rowTo_pre T hr
        have hmk : markAt s'.marks k = markAt s.marks k := by rw [hm]; exact markAt_append hk
        have h3 : fireL n (markAt s'.marks k) T = ([], 3) := by
          rw [hmk, fireL, hf]
          simp [hc]
        rw [tryT_skip h3]
        exact h1

/-- How each mark was found first. -/
structure Tied (s : SpaceL) (bys : List ArcL) : Prop where
  len : bys.length = s.marks.length
  dst : ∀ a ∈ s.arcs, a.dst < s.marks.length
  first : ∀ g, 0 < g → g < s.marks.length → firstTo s.arcs g = bys[g]?

theorem tied_start (m : List Int) (a : ArcL) : Tied ⟨[m], []⟩ [a] := ⟨rfl, by simp, fun g h1 h2 => by simp at h2; omega⟩

theorem Tied.old {s : SpaceL} {bys : List ArcL} (h : Tied s bys) {f t g : Nat} (hg : g < s.marks.length) : Tied ⟨s.marks, s.arcs ++ [⟨f, t, g⟩]⟩ bys := by
  refine ⟨h.len, fun a ha => ?_, fun g' h1 h2 => ?_⟩
  · rcases List.mem_append.1 ha with ha | ha
    · exact h.dst a ha
    · rw [List.mem_singleton] at ha; subst ha; exact hg
  · have e := h.first g' h1 h2
    have hb : g' < bys.length := by rw [h.len]; exact h2
    rw [List.getElem?_eq_getElem hb] at e ⊢
    exact firstTo_append e

theorem Tied.new {s : SpaceL} {bys : List ArcL} (h : Tied s bys) (z : List Int) {f t l : Nat} (hl : l = s.marks.length) : Tied ⟨s.marks ++ [z], s.arcs ++ [⟨f, t, l⟩]⟩ (bys ++ [⟨f, t, l⟩]) := by
  subst hl
  refine ⟨by simp [h.len], fun a ha => ?_, fun g' h1 h2 => ?_⟩
  · rcases List.mem_append.1 ha with ha | ha
    · have := h.dst a ha; simp; omega
    · rw [List.mem_singleton] at ha; subst ha; simp
  · by_cases hg : g' < s.marks.length
    · have e := h.first g' h1 hg
      have hb : g' < bys.length := by rw [h.len]; exact hg
      rw [List.getElem?_append_left hb]
      rw [List.getElem?_eq_getElem hb] at e ⊢
      exact firstTo_append e
    · have e : g' = s.marks.length := by simp at h2; omega
      subst e
      have hn : firstTo s.arcs s.marks.length = none := firstTo_none fun a ha => by have := h.dst a ha; omega
      rw [firstTo_new hn rfl, ← h.len, List.getElem?_append_right (Nat.le_refl _)]
      simp

end Go.Proofs.Ytkdbkoogcndlgaa

/- What is sound comes to its end; what is not is shown so; more room changes nothing. -/
namespace Go.Proofs.Ytkdbkoogcndlgaa
set_option linter.unusedVariables false
set_option maxRecDepth 4000

section
variable {n : NetL} {i o most : Int} {s : SpaceL} {v : VerdL}

/-- From whatever mark there is room enough. -/
theorem again_most {m : List Int} (hg : graphL n m most = (s, 0)) {x : List Int} (hr : ReachZ n m x) : ∃ u, graphL n x most = (u, 0) := by
  have hW := graphL_whole hg
  obtain ⟨m1, m2, _, _, hF⟩ := graphL_ok hg
  obtain ⟨k, rfl⟩ := Int.eq_ofNat_of_zero_le (show 0 ≤ most by omega)
  exact graph_within (L := s.marks) (by omega) (by omega) (hW.right_of hr) (by have := hF.most_le; rwa [Int.toNat_natCast] at this) (fun y hy => by
    obtain ⟨g, hgl, rfl⟩ := hW.has (hr.trans hy)
    exact markAt_mem hgl) (fun y hy => (fits_net (hW.right_of (hr.trans hy))).2.2)

theorem path_to {m x : List Int} (hg : graphL n m most = (s, 0)) (hr : ReachZ n m x) : ∃ p, reachL n m x most = (p, 0) ∧ runL n m p = (x, 0) := by
  obtain ⟨g, hgl, rfl⟩ := (graphL_whole hg).has hr
  obtain ⟨p, h1, h2, _⟩ := reach_true hg hgl
  exact ⟨p, h1, h2⟩
theorem path_none {m x : List Int} (hg : graphL n m most = (s, 0)) (hr : ¬ ReachZ n m x) : (reachL n m x most).2 = 3 := by
  have hW := graphL_whole hg
  unfold reachL
  rw [hg]
  simp only [BEq.rfl, if_true]
  cases hf : findM s.marks x with
  | none => rfl
  | some g =>
    obtain ⟨h1, h2⟩ := findM_some hf
    exact absurd (hW.iff.2 ⟨g, h1, h2⟩) hr

/-- What is sound always comes to its end. -/
theorem sound_means (hg : graphL n (startL n.places i) most = (s, 0)) (hv : SaysV n (startL n.places o) s v) (hk : v.kind = 1) (seq : List Int) :
    (runL n (startL n.places i) seq).2 = 3 ∨ ∃ x, runL n (startL n.places i) seq = (x, 0) ∧ (∃ p, reachL n x (startL n.places o) most = (p, 0) ∧ runL n x p = (startL n.places o, 0)) ∧ (coversL x (startL n.places o) = true → x = startL n.places o) := by
  obtain ⟨h1, h2, h3⟩ := hv.kind.1 hk
  have hW := graphL_whole hg
  have he := hW.here
  rcases hW.run seq (f := 0) he.1 with q | ⟨g, hgl, e⟩
  · rw [he.2] at q; exact .inl q
  · rw [he.2] at e
    refine .inr ⟨_, e, ?_, fun hc => ?_⟩
    · obtain ⟨u, hu⟩ := again_most hg (hW.iff.2 ⟨g, hgl, rfl⟩)
      exact path_to hu (h2 g hgl)
    · refine Classical.byContradiction fun q => h1 g hgl ⟨hc, q⟩

/-- What is not is shown so. -/
theorem sound_witness (hS : ShapeOk n i o) (hg : graphL n (startL n.places i) most = (s, 0)) (hv : SaysV n (startL n.places o) s v) :
    v.kind = 1 ∨ (v.kind = 2 ∧ (reachL n (startL n.places i) v.at_ most).2 = 0 ∧ coversL v.at_ (startL n.places o) = true ∧ v.at_ ≠ startL n.places o) ∨
    (v.kind = 3 ∧ (reachL n (startL n.places i) v.at_ most).2 = 0 ∧ (reachL n v.at_ (startL n.places o) most).2 = 3) ∨
    (v.kind = 4 ∧ 0 ≤ v.tran ∧ v.tran < n.trans.length ∧ ∀ seq, (runL n (startL n.places i) seq).2 = 0 → v.tran ∉ seq) := by
  have hW := graphL_whole hg
  rcases hv.cases with ⟨k, a1, a2, a3, rfl⟩ | ⟨a1, k, a2, a3, a4, rfl⟩ | ⟨a1, a2, t, ts, a3, rfl⟩ | ⟨a1, a2, a3, rfl⟩
  · obtain ⟨p, h1, _⟩ := path_to hg (hW.iff.2 ⟨k, a1, rfl⟩)
    exact .inr (.inl ⟨rfl, by rw [h1], a2.1, a2.2⟩)
  · obtain ⟨p, h1, _⟩ := path_to hg (hW.iff.2 ⟨k, a2, rfl⟩)
    obtain ⟨u, hu⟩ := again_most hg (hW.iff.2 ⟨k, a2, rfl⟩)
    exact .inr (.inr (.inl ⟨rfl, by rw [h1], path_none hu a3⟩))
  · have ht : t ∈ deadL (toZ s) n.trans.length := by rw [a3]; simp
    obtain ⟨q1, q2, q3⟩ := mem_dead.1 ht
    refine .inr (.inr (.inr ⟨rfl, q1, by show t < _; omega, fun seq hs hin => ?_⟩))
    have he := hW.here
    cases hr : runL n (startL n.places i) seq with
    | mk x cd =>
      rw [hr] at hs
      simp only at hs
      subst hs
      obtain ⟨_, h2⟩ := hW.run_comes seq (i := 0) (k := 0) (z := x) he.1 (Comes.here _) (by rw [he.2]; exact hr)
      obtain ⟨a, ha, e, _⟩ := h2 t hin
      exact q3 (arcZ a) (mem_arcZ.2 ⟨a, ha, rfl⟩) e
  · exact .inl rfl

/-- More room changes no verdict. -/
theorem sound_room {more f : Int} {u : VerdL} (h : Verd n i o most v 0) (k : Verd n i o more u f) (h1 : most ≤ more) (h2 : more ≤ 300) : f = 0 ∧ u = v := by
  obtain ⟨hS, s, hg, hs⟩ := h.zero
  obtain ⟨m1, _, _, _, hF⟩ := graphL_ok hg
  have hr := graph_room hg (more := more) (by omega) h2
  have hml := hF.most_le
  have : graphL n (startL n.places i) more = (s, 0) := by
    rw [hr, if_pos (by omega)]
  obtain ⟨k1, k2⟩ := k.right hS s this
  exact ⟨k1, k2.unique hs⟩

end

end Go.Proofs.Ytkdbkoogcndlgaa
