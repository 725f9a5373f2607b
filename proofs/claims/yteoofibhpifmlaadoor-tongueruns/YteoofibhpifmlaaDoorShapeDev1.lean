/- Package shape as it landed: where a way can go on. -/
import Derived.Test.YteoofibhpifmlaaDoorShapeStop
import Derived.Test.YteoofibhpifmlaaDoorFoot
import Derived.Test.YteoofibhpifmlaaDoorNetDevAll
namespace Go.Proofs.YteoofibhpifmlaaDoor
open Go.RowKit
set_option linter.unusedVariables false
set_option maxRecDepth 4000

/-- The cells of some stops. -/
def stopCells (l : List Stop) : List Value := l.flatMap fun s => [.bool s.1, .int .i64 (s.2 : Int)]
theorem stopCells_append (l m : List Stop) : stopCells (l ++ m) = stopCells l ++ stopCells m := by simp [stopCells]
theorem stopCells_at (l : List Stop) (j : Nat) (h : j < l.length) : (stopCells l)[j * 2]? = some (.bool l[j].1) ∧ (stopCells l)[j * 2 + 1]? = some (.int .i64 (l[j].2 : Int)) := by
  induction l generalizing j with
  | nil => simp at h
  | cons x r ih =>
    have ec : stopCells (x :: r) = .bool x.1 :: .int .i64 (x.2 : Int) :: stopCells r := rfl
    match j, h with
    | 0, _ => exact ⟨rfl, rfl⟩
    | j + 1, h =>
      obtain ⟨q1, q2⟩ := ih j (by simpa using h)
      rw [ec, show (j + 1) * 2 = j * 2 + 2 by omega]
      exact ⟨q1, q2⟩

/-- A slice of these stops. -/
def Stops (w : World) (v : Value) (l : List Stop) : Prop :=
  ∃ a cap, v = .slice a l.length cap ∧ ∀ j (hj : j < l.length), ∃ b off, a = some ⟨b, off, none⟩ ∧ w.cell? ⟨b, off + j * 2, none⟩ = some (.bool l[j].1) ∧ w.cell? ⟨b, off + j * 2 + 1, none⟩ = some (.int .i64 (l[j].2 : Int))

def OwnS (B : Nat) (w wr : World) (v : Value) (l : List Stop) : Prop :=
  wr.ownsRow B 146 2 v l.length (stopCells l) ∧ Below B w wr ∧ B ≤ wr.heap.size

theorem OwnS.nil (w : World) : OwnS w.heap.size w w (.slice none 0 0) [] := ⟨World.ownsRow_nil _ _ _ _, Below.refl _ _, Nat.le_refl _⟩

theorem OwnS.trans {B : Nat} {w wr w2 : World} {v : Value} {l : List Stop} (h : OwnS B w wr v l) (hb : Below wr.heap.size wr w2) : OwnS B w w2 v l := by
  obtain ⟨hown, hb0, hB⟩ := h
  refine ⟨hown.kept (row := none) ⟨hb.os, hb.tape, hb.output, hb.size, fun k hk _ => hb.block k hk⟩ ?_, hb0.trans (hb.mono hB), Nat.le_trans hB hb.size⟩
  cases hv : v.ownBlock with
  | none => exact .inl rfl
  | some k => exact .inr (by simp)

theorem stops_read {B : Nat} {wr : World} {v : Value} {l : List Stop} (hown : wr.ownsRow B 146 2 v l.length (stopCells l)) : Stops wr v l := by
  have hown0 := hown
  obtain ⟨_, hcase⟩ := hown
  rcases hcase with ⟨rfl, h0⟩ | ⟨g, cap', cur, rfl, hg, hh, hn, hcap, hsz, htake⟩
  · exact ⟨none, 0, by rw [h0], fun j hj => absurd hj (by omega)⟩
  · refine ⟨_, _, rfl, fun j hj => ?_⟩
    obtain ⟨q1, q2⟩ := stopCells_at l j hj
    refine ⟨g, 0, rfl, ?_, ?_⟩
    · rw [Nat.zero_add, hown0.cellAt (j * 2) (by omega), q1]
    · rw [Nat.zero_add, hown0.cellAt (j * 2 + 1) (by omega), q2]

theorem OwnS.on {B : Nat} {w wr : World} {v : Value} {l : List Stop} (h : OwnS B w wr v l) : On (fun k => B ≤ k) wr (fun w' => Stops w' v l) :=
  ((ownsRow_on h.1).weaken fun k _ hk => hk.2).mono fun w' h' => stops_read h'

theorem OwnS.slice {B : Nat} {w wr : World} {v : Value} {l : List Stop} (h : OwnS B w wr v l) : ∃ a c, v = .slice a l.length c := by
  rcases h.1.2 with ⟨rfl, e⟩ | ⟨g, cap', cur, rfl, _⟩
  · exact ⟨_, _, by rw [e]⟩
  · exact ⟨_, _, rfl⟩

theorem info_stop : (Tryd.prog.info? 146).map (fun i => (i.zero, i.size, i.bytes)) = some (some (.agg #[.bool false, .int .i64 0]), 2, 16) := by kernel_rfl

theorem wp_append_stop {ops : Array Oper} {rest : List Oper} {o : Oper} {a : Act} {Q : Exit → Act → World → Prop} (hgd : o.guard = none) (s x : Operand)
    (ho : o.op = .call { callee := .builtin .append, args := #[s, x], argTypes := #[148, 148] }) (B : Nat) (w wr : World) (v : Value) (l : List Stop) (t : Stop) (hG : OwnS B w wr v l)
    (hs : a.eval s = v) (hx : a.eval x = .slice (some ⟨wr.heap.size, 0, none⟩) 1 1) (hl : l.length + 1 ≤ 1000)
    (h : ∀ v' w', OwnS B w w' v' (l ++ [t]) → wpList Tryd.prog ops Q rest (a.put o.dst v') w') : wpList Tryd.prog ops Q (o :: rest) a (wr.alloc (.cells #[.bool t.1, .int .i64 (t.2 : Int)] 146)) := by
  obtain ⟨i0, hi, hz0, hz1, hz2⟩ := info_parts info_stop
  obtain ⟨hown, hb, hB⟩ := hG
  refine wpList_append_own _ hgd s x 148 ho B 146 i0 _ 2 16 Tryd.underlying148 hi hz0 hz1 hz2 rfl (by decide) v l.length _ hs (hown.alloc _) ⟨wr.heap.size, 0, none⟩ 1 1 [.bool t.1, .int .i64 (t.2 : Int)] hx rfl ?_ ?_ ?_ ?_ ?_ ?_
  · intro j u hj
    rw [addr_add, World.cell?_alloc_at _ _ _ _ rfl]
    match j, hj with
    | 0, hj => simpa using hj
    | 1, hj => simpa using hj
  · intro u hu
    simp only [List.mem_cons, List.not_mem_nil, or_false] at hu
    rcases hu with rfl | rfl <;> rfl
  · unfold maxLen; omega
  · omega
  · simp; omega
  · intro v' w' hown' hgrow _
    refine h v' w' ⟨by rw [stopCells_append]; simpa [stopCells] using hown', (hb.alloc hB _).grown hgrow (by simp; omega) (fun k hk => (hown.lt k hk).1), ?_⟩
    have := hgrow.size; simp at this; omega

theorem two_boxes (w W : World) (x y x' y' : Value) (t t' : TypeId) (h : (w.alloc (.cells #[x, y] t)).alloc (.cells #[x', y'] t') = W) :
    Below w.heap.size w W ∧ Box2 W w.heap.size x y ∧ Box2 W (w.heap.size + 1) x' y' := by
  obtain ⟨h1, h2, h3, _⟩ := two_new w W x y x' y' t t' h
  exact ⟨h1, h2, h3⟩

set_option maxHeartbeats 1000000 in
theorem behind_any (v : Value) (n : NetL) (hn : netOk n = true) (s : Stop) (hs : FitS n s) (w : World) (hv : Net w v n) :
    Calls Tryd.prog 98 #[v, .agg #[.bool s.1, .int .i64 (s.2 : Int)]] w fun e w' => ∃ r, e = .returned r ∧ On (fun k => w.heap.size ≤ k) w' (fun w'' => Stops w'' r (behindL n s)) ∧ Below w.heap.size w w' := by
  obtain ⟨tv, rfl, hT⟩ := hv
  obtain ⟨a, len, cap, rfl, hlen, hmx, hsh, hr⟩ := id hT
  clear hr
  obtain ⟨W0, HW0⟩ : ∃ W0, Hid (((w.alloc (.cells #[.int .i64 n.places, .slice a len cap] 24)).alloc (.cells #[.bool s.1, .int .i64 (s.2 : Int)] 146)) = W0) := ⟨_, rfl⟩
  obtain ⟨b1, hx, hy⟩ := two_boxes _ _ _ _ _ _ _ _ HW0.out
  replace hT := hT.below b1
  have Hhd : Hid _ := head_of hn
  obtain ⟨x0, x1, x2⟩ := id hx
  obtain ⟨y0, y1, y2⟩ := id hy
  obtain ⟨c, q⟩ := s
  simp only at HW0 hy y1 y2 ⊢
  have hT2 := hT
  go_enter Tryd.func98, Tryd.ntmps98
  go_upto_region 1 with fail
  rw [HW0.out]
  clear HW0
  cases c
  · -- a place
    have hq : (q : Int) < n.places := hs
    go_wp2_with fail
    go_loopg [5, 37] len (fun g o i wr => ∃ k : Nat, k + g = len ∧ i = .int .i64 k ∧ OwnS W0.heap.size W0 wr o (somes true (takesAt n q) k))
    case atStart => exact ⟨0, by omega, rfl, OwnS.nil _⟩
    case round =>
      obtain ⟨k, hkg, rfl, hG⟩ := hrel
      replace y0 := hy.below hG.2.1
      obtain ⟨y0, y1, y2⟩ := y0
      by_cases hkn : k < len
      · obtain ⟨b, off, c1, c2, rfl, hblt, h0, h1, h2, i1, i2⟩ := (hT2.below hG.2.1).at hkn
        have hle := somes_le true (takesAt n q) k
        have Hy : Hid _ := somes_yes true (takesAt n q) k
        have Hn : Hid _ := somes_no true (takesAt n q) k
        have hl := (tran_length hn (show k < n.trans.length by omega)).1
        have Ht : Hid (takesAt n q k = decide (0 < nth (tranAt n.trans k).pre q)) := rfl
        have h24 : len ≤ 24 := by have := Hhd.out.2.2; omega
        obtain ⟨a1, l1, p1, rfl, hl1, _, _, hr1⟩ := id i1
        obtain ⟨a2, l2, p2, rfl, _, _, _, _⟩ := id i2
        obtain ⟨bq, oq, rfl, hbq, hcq⟩ := hr1 q (by omega)
        have hbn := below_new wr (.cells #[.int .i64 (tranAt n.trans k).label, .slice (some ⟨bq, oq, none⟩) l1 p1, .slice a2 l2 p2] 37)
        have hql : q < l1 := by omega
        have hx3 := box3_new wr (.int .i64 (tranAt n.trans k).label) (.slice (some ⟨bq, oq, none⟩) l1 p1) (.slice a2 l2 p2) 37
        generalize tranAt n.trans k = t at *
        obtain ⟨wt, Hwt⟩ : ∃ wt, Hid (wr.alloc (.cells #[.int .i64 t.label, .slice (some ⟨bq, oq, none⟩) l1 p1, .slice a2 l2 p2] 37) = wt) := ⟨_, rfl⟩
        rw [Hwt.out] at hbn hx3
        have hG1 := hG.trans hbn
        go_upto_region 13 with fail
        rw [Hwt.out]
        clear Hwt h0 h1 h2
        obtain ⟨y0, y1, y2⟩ := hy.below hG1.2.1
        rw [← hbn.cell (p := ⟨bq, oq + q, none⟩) hbq] at hcq
        obtain ⟨z0, z1, z2, z3⟩ := hx3
        obtain ⟨z, Hz⟩ : ∃ z, Hid (nth t.pre q = z) := ⟨_, rfl⟩
        rw [Hz.out] at hcq Ht
        cases hc : decide (0 < z)
        · have R := hG1
          rw [← Hn.out (Ht.out.trans hc)] at R
          go_wp2
          go_roundg (gk - 1)
          case measure => omega
          case rel => exact ⟨k + 1, by omega, by go_num, R⟩
        · go_wp2_with (at_builtin; refine wp_append_stop rfl _ _ rfl W0.heap.size W0 _ _ _ (true, k) hG1 rfl rfl (by omega) ?_; intro v' w3 hG3)
          have R : OwnS W0.heap.size W0 w3 v' (somes true (takesAt n q) (k + 1)) := by rw [Hy.out (Ht.out.trans hc)]; exact hG3
          go_wp2
          go_roundg (gk - 1)
          case measure => omega
          case rel => exact ⟨k + 1, by omega, by go_num, R⟩
      · have hk : k = n.trans.length := by omega
        have R := hG.on.weaken (D' := fun k => w.heap.size ≤ k) fun k _ hk => Nat.le_trans b1.size hk
        have R2 := below_then b1 hG.2.1
        subst hk
        clear hG
        go_wp2
        go_ret
        exact ⟨_, rfl, R, R2⟩
  · -- a transition
    have hq : q < n.trans.length := hs
    obtain ⟨b, off, c1, c2, rfl, hblt, h0, h1, h2, i1, i2⟩ := hT2.at (show q < len by omega)
    have hl := (tran_length hn hq).2
    obtain ⟨a2, l2, p2, rfl, hl2, _, _, _⟩ := id i2
    have Hhq : Hid (l2 ≤ 24) := by have := Hhd.out; show l2 ≤ 24; omega
    go_wp2_with fail
    go_loopg [5, 20] l2 (fun g o i wr => ∃ k : Nat, k + g = l2 ∧ i = .int .i64 k ∧ OwnS W0.heap.size W0 wr o (somes false (putsAt n q) k))
    case atStart => exact ⟨0, by omega, rfl, OwnS.nil _⟩
    case round =>
      obtain ⟨k, hkg, rfl, hG⟩ := hrel
      by_cases hkn : k < l2
      · have hle := somes_le false (putsAt n q) k
        have Hy : Hid _ := somes_yes false (putsAt n q) k
        have Hn : Hid _ := somes_no false (putsAt n q) k
        have Ht : Hid (putsAt n q k = decide (0 < nth (tranAt n.trans q).post k)) := rfl
        have h24 := Hhq.out
        obtain ⟨_, _, _, e, _, _, _, hr2⟩ := i2.below hG.2.1
        injection e with e1 e2 e3
        subst e1 e2 e3
        obtain ⟨bq, oq, rfl, hbq, hcq⟩ := hr2 k (by omega)
        clear hr2
        obtain ⟨z, Hz⟩ : ∃ z, Hid (nth (tranAt n.trans q).post k = z) := ⟨_, rfl⟩
        rw [Hz.out] at hcq Ht
        cases hc : decide (0 < z)
        · have R := hG
          rw [← Hn.out (Ht.out.trans hc)] at R
          go_wp2
          go_roundg (gk - 1)
          case measure => omega
          case rel => exact ⟨k + 1, by omega, by go_num, R⟩
        · go_wp2_with (at_builtin; refine wp_append_stop rfl _ _ rfl W0.heap.size W0 _ _ _ (false, k) hG rfl rfl (by omega) ?_; intro v' w3 hG3)
          have R : OwnS W0.heap.size W0 w3 v' (somes false (putsAt n q) (k + 1)) := by rw [Hy.out (Ht.out.trans hc)]; exact hG3
          go_wp2
          go_roundg (gk - 1)
          case measure => omega
          case rel => exact ⟨k + 1, by omega, by go_num, R⟩
      · have hk : k = (tranAt n.trans q).post.length := by omega
        have R := hG.on.weaken (D' := fun k => w.heap.size ≤ k) fun k _ hk => Nat.le_trans b1.size hk
        have R2 := below_then b1 hG.2.1
        rw [hk] at R
        clear hG
        go_wp2
        go_ret
        exact ⟨_, rfl, R, R2⟩

end Go.Proofs.YteoofibhpifmlaaDoor
