import Derived.Test.YtaladbcocealnaaQPlay
import Derived.Test.YtaladbcocealnaaGr27
import Derived.Test.YtaladbcocealnaaGr10
import Derived.Test.YtaladbcocealnaaGr00
import Derived.Lib.MinMax
import Derived.Deep.RegionHeld3
import Derived.Test.YtaladbcocealnaaGr22
/- The document's own hall: the desks behind each thing that was written, in memory. -/
namespace Go.Proofs.Ytaladbcocealnaa
open Go.RowKit
set_option linter.unusedVariables false
set_option linter.unusedSimpArgs false
set_option maxRecDepth 4000

/-- A row of desks at block g: the j-th is f j; it lies beside the blocks Off. -/
structure DesksAt (w : World) (g cap m : Nat) (f : Nat → DeskL) (cs : List Value) (Off : Nat → Prop) : Prop where
  len : cs.length = m * 3
  cap : m ≤ cap ∧ cap ≤ 9223372036854775807 ∧ m ≤ 5864062014805
  lt : g < w.heap.size
  cells : ∀ (j : Nat) (u : Value), cs[j]? = some u → w.cell? ⟨g, j, none⟩ = some u
  one : ∀ u ∈ cs, u.oneCell' = true
  off : ¬ Off g
  desk : ∀ j, j < m → ∃ a l p a' l' p' ia il ic, cs[j * 3]? = some (.slice a l p) ∧ cs[j * 3 + 1]? = some (.slice a' l' p') ∧ cs[j * 3 + 2]? = some (.slice ia il ic) ∧ DeskV w (.agg #[.slice a l p, .slice a' l' p', .slice ia il ic]) (f j) ∧ ∀ b, Off b → DeskOff b (.agg #[.slice a l p, .slice a' l' p', .slice ia il ic])
theorem DesksAt.keep {w w' : World} {g cap m : Nat} {f : Nat → DeskL} {cs : List Value} {Off : Nat → Prop} (h : DesksAt w g cap m f cs Off) (hs : w.heap.size ≤ w'.heap.size) (hk : ∀ k, k < w.heap.size → ¬ Off k → w'.heap[k]? = w.heap[k]?) : DesksAt w' g cap m f cs Off := by
  refine ⟨h.len, h.cap, Nat.lt_of_lt_of_le h.lt hs, fun j u hj => ?_, h.one, h.off, fun j hj => ?_⟩
  · rw [cell_kept (p := ⟨g, j, none⟩) (hk g h.lt h.off)]; exact h.cells j u hj
  · obtain ⟨a, l, p, a', l', p', ia, il, ic, e0, e1, e2, hD, ho⟩ := h.desk j hj
    exact ⟨a, l, p, a', l', p', ia, il, ic, e0, e1, e2, hD.keepOff hs hk ho, ho⟩
theorem DesksAt.below {w w' : World} {g cap m : Nat} {f : Nat → DeskL} {cs : List Value} {Off : Nat → Prop} (h : DesksAt w g cap m f cs Off) (hb : Below w.heap.size w w') : DesksAt w' g cap m f cs Off := h.keep hb.size fun k hk _ => hb.block k hk
/-- Blocks made since lie beside it. -/
theorem DesksAt.high {w : World} {g cap m : Nat} {f : Nat → DeskL} {cs : List Value} {Off Off' : Nat → Prop} (h : DesksAt w g cap m f cs Off) (ho : ∀ b, Off' b → Off b ∨ w.heap.size ≤ b) : DesksAt w g cap m f cs Off' := by
  refine ⟨h.len, h.cap, h.lt, h.cells, h.one, fun q => ?_, fun j hj => ?_⟩
  · rcases ho g q with r | r
    · exact h.off r
    · have := h.lt; omega
  · obtain ⟨a, l, p, a', l', p', ia, il, ic, e0, e1, e2, hD, hof⟩ := h.desk j hj
    refine ⟨a, l, p, a', l', p', ia, il, ic, e0, e1, e2, hD, fun b hb => ?_⟩
    rcases ho b hb with r | r
    · exact hof b r
    · exact hD.offHigh r
theorem DesksAt.take {w : World} {g cap m m' : Nat} {f f' : Nat → DeskL} {cs : List Value} {Off : Nat → Prop} (h : DesksAt w g cap m f cs Off) (hm : m' ≤ m) (hf : ∀ j, j < m' → f' j = f j) : DesksAt w g cap m' f' (cs.take (m' * 3)) Off := by
  have h1 := h.cap
  have h2 := h.len
  have ht : ∀ j, j < m' * 3 → (cs.take (m' * 3))[j]? = cs[j]? := fun j hj => by rw [List.getElem?_take, if_pos hj]
  refine ⟨by rw [List.length_take]; omega, by omega, h.lt, fun j u hj => ?_, fun u hu => h.one u (List.mem_of_mem_take hu), h.off, fun j hj => ?_⟩
  · rcases Nat.lt_or_ge j (m' * 3) with q | q
    · rw [ht j q] at hj; exact h.cells j u hj
    · rw [List.getElem?_eq_none (by rw [List.length_take]; omega)] at hj; cases hj
  · obtain ⟨a, l, p, a', l', p', ia, il, ic, e0, e1, e2, hD, hof⟩ := h.desk j (by omega)
    exact ⟨a, l, p, a', l', p', ia, il, ic, by rw [ht _ (by omega)]; exact e0, by rw [ht _ (by omega)]; exact e1, by rw [ht _ (by omega)]; exact e2, by rw [hf j hj]; exact hD, hof⟩
/-- One desk more, in a row of the call's own. -/
theorem DesksAt.push {w : World} {B g g' cap cap' m : Nat} {f f' : Nat → DeskL} {cs : List Value} {Off : Nat → Prop} {a a' ia : Option Addr} {l p l' p' il ic : Nat} (h : DesksAt w g cap m f cs Off) (hrow : w.ownsRow B 32 3 (.slice (some ⟨g', 0, none⟩) (m + 1) cap') (m + 1) (cs ++ [.slice a l p, .slice a' l' p', .slice ia il ic])) (hm : m + 1 ≤ 5864062014805) (hf : ∀ j, j < m → f' j = f j)
    (hD : DeskV w (.agg #[.slice a l p, .slice a' l' p', .slice ia il ic]) (f' m)) (ho : ∀ b, Off b → b < B ∧ DeskOff b (.agg #[.slice a l p, .slice a' l' p', .slice ia il ic])) : DesksAt w g' cap' (m + 1) f' (cs ++ [.slice a l p, .slice a' l' p', .slice ia il ic]) Off := by
  have h1 := h.len
  have hl := hrow.lt g' rfl
  have hr0 := hrow
  obtain ⟨_, hc⟩ := hrow
  rcases hc with ⟨e, _⟩ | ⟨q, cap2, cur, e, hgb, hh, hn, hcap, hsz, htake⟩
  · cases e
  injection e with e1 _ e3
  subst e3
  refine ⟨by simp [h1]; omega, ⟨hn, by unfold maxLen at hcap; omega, hm⟩, hl.2, fun j u hj => ?_, fun u hu => ?_, fun q => by have := (ho g' q).1; omega, fun j hj => ?_⟩
  · have hjl : j < (m + 1) * 3 := by
      rcases Nat.lt_or_ge j ((m + 1) * 3) with q | q
      · exact q
      · rw [List.getElem?_eq_none (by simp [h1]; omega)] at hj; cases hj
    rw [hr0.cellAt j hjl]; exact hj
  · rcases List.mem_append.1 hu with q | q
    · exact h.one u q
    · simp only [List.mem_cons, List.not_mem_nil, or_false] at q
      rcases q with rfl | rfl | rfl <;> rfl
  · rcases Nat.lt_or_ge j m with q | q
    · obtain ⟨b, bl, bp, b', bl', bp', ja, jl, jc, e0, e1, e2, hE, hof⟩ := h.desk j q
      exact ⟨b, bl, bp, b', bl', bp', ja, jl, jc, by rw [List.getElem?_append_left (by omega)]; exact e0, by rw [List.getElem?_append_left (by omega)]; exact e1, by rw [List.getElem?_append_left (by omega)]; exact e2, by rw [hf j q]; exact hE, hof⟩
    · obtain rfl : j = m := by omega
      refine ⟨a, l, p, a', l', p', ia, il, ic, ?_, ?_, ?_, hD, fun b hb => (ho b hb).2⟩
      · rw [List.getElem?_append_right (by omega), show j * 3 - cs.length = 0 by omega]; rfl
      · rw [List.getElem?_append_right (by omega), show j * 3 + 1 - cs.length = 1 by omega]; rfl
      · rw [List.getElem?_append_right (by omega), show j * 3 + 2 - cs.length = 2 by omega]; rfl
/-- One desk alone. -/
theorem desks_one {w : World} {g : Nat} {f : Nat → DeskL} {Off : Nat → Prop} {a a' ia : Option Addr} {l p l' p' il ic : Nat} (h : CellsAt w g #[.slice a l p, .slice a' l' p', .slice ia il ic] 32) (hD : DeskV w (.agg #[.slice a l p, .slice a' l' p', .slice ia il ic]) (f 0)) (ho : ∀ b, ¬ Off b) : DesksAt w g 1 1 f [.slice a l p, .slice a' l' p', .slice ia il ic] Off := by
  refine ⟨rfl, by omega, h.lt, fun j u hj => by rw [h.cell]; simpa using hj, fun u hu => ?_, ho g, fun j hj => ?_⟩
  · simp only [List.mem_cons, List.not_mem_nil, or_false] at hu
    rcases hu with rfl | rfl | rfl <;> rfl
  · obtain rfl : j = 0 := by omega
    exact ⟨a, l, p, a', l', p', ia, il, ic, rfl, rfl, rfl, hD, fun b hb => absurd hb (ho b)⟩
theorem items_putS {w : World} {v : Value} {l : List ItemL} {p : Addr} {a : Option Addr} {m c : Nat} (h : ItemsV w v l) (hp : w.cell? p = some (.slice a m c)) (u : Value) : ItemsV (w.setCell p u) v l := by
  obtain ⟨a', len, cap, e, hl, hm, hs, hr⟩ := h
  refine ⟨a', len, cap, e, hl, hm, hs, fun j hj => ?_⟩
  obtain ⟨b, off, ha, hlt, h0, h1, h2⟩ := hr j hj
  have key : ∀ (q : Addr) (z : Value), w.cell? q = some z → (∀ a m c, z ≠ .slice a m c) → (w.setCell p u).cell? q = some z := fun q z hq hz => by
    rw [World.cell?_setCell_other _ _ _ _ (fun e => by rw [← e, hp] at hq; injection hq with hq; exact hz _ _ _ hq.symm)]
    exact hq
  exact ⟨b, off, ha, by simpa [World.setCell] using hlt, key _ _ h0 (fun _ _ _ q => by cases q), key _ _ h1 (fun _ _ _ q => by cases q), key _ _ h2 (fun _ _ _ q => by cases q)⟩
theorem desk_putS {w : World} {v : Value} {d : DeskL} {p : Addr} {a : Option Addr} {m c : Nat} (h : DeskV w v d) (hp : w.cell? p = some (.slice a m c)) (u : Value) : DeskV (w.setCell p u) v d := by
  obtain ⟨x, l, q, x', l', q', ia, ic, e, h1, h2, h3⟩ := h
  exact ⟨x, l, q, x', l', q', ia, ic, e, h1.putS hp u, h2.putS hp u, items_putS h3 hp u⟩
theorem elem_desk : ElemT 70 32 3 72 := ElemT.of Try.underlying70 (z := .agg #[.slice none 0 0, .slice none 0 0, .slice none 0 0]) (by kernel_rfl) rfl (by decide)
theorem lit_rowD (w : World) : OwnC w.heap.size w (w.alloc (.cells #[] 32)) 32 3 (.slice (some ⟨w.heap.size, 0, none⟩) 0 0) 0 [] :=
  ⟨⟨rfl, .inr ⟨w.heap.size, 0, #[], rfl, Nat.le_refl _, heap_alloc_new w _, Nat.le_refl _, by unfold maxLen; omega, rfl, rfl⟩⟩, below_new w _, by simp⟩

theorem hall_ws_le (n : NetL) (roles : List (List Int)) (first : DeskL) (h : HallL) (o : HOp) : (hallDo n roles first h o).1.ws.length ≤ h.ws.length + 1 := by
  unfold hallDo
  split
  · split
    · split
      · simp
      · simp
    · simp
  · split
    · simp
    · split
      · simp [List.length_take]; omega
      · simp
theorem hallAt_ws {n : NetL} {roles : List (List Int)} {first : DeskL} {h : HallL} {os : List HOp} (h0 : h.ws.length = 0) : ∀ k, k ≤ os.length → (hallAt n roles first h os k).ws.length ≤ k
  | 0, _ => by show h.ws.length ≤ 0; omega
  | k + 1, hk => by
    have := hallAt_ws (n := n) (roles := roles) (first := first) (os := os) h0 k (by omega)
    have := hall_ws_le n roles first (hallAt n roles first h os k) (hopAt os k)
    rw [hallAt_succ n roles first h (by omega)]
    omega

end Go.Proofs.Ytaladbcocealnaa

/- The document's own hall. (Made by tools/gen_splay.py.) -/
namespace Go.Proofs.Ytaladbcocealnaa
open Go.RowKit
set_option linter.unusedVariables false
set_option linter.unusedSimpArgs false
set_option maxRecDepth 4000

set_option maxHeartbeats 16000000 in
theorem splay_any (v r u : Value) (n : NetL) (i : Int) (roles : List (List Int)) (os : List HOp) (w : World) (hv : Net w v n) (hr : Lists w r roles) (hu : HOpsV w u os) (hsm : SmallNet n) (hbo : os.length ≤ 1048576) (hkw : ∀ k, k < os.length → -9223372036854775808 ≤ (hopAt os k).keep ∧ (hopAt os k).keep ≤ 9223372036854775807) : Calls Try.prog 8 #[v, .int .i64 i, r, u] w fun e w' => GivesD w (hallAll n i roles os) e w' := by
  obtain ⟨tv, rfl, hT⟩ := hv
  obtain ⟨ua, ucap, rfl, hmx, hsh⟩ := CellsV.slice hu
  obtain ⟨w0, Hw0, hbn, hR, c0, Hs0⟩ := play_boxes w (.int .i64 n.places) tv
  have x1 : w0.cell? ⟨w.heap.size, 0, none⟩ = some (.int .i64 n.places) := hbn.cell 0
  have x2 : w0.cell? ⟨w.heap.size, 1, none⟩ = some tv := hbn.cell 1
  have hnil : DOpsV w0 (.slice none 0 0) [] := ⟨none, 0, 0, rfl, rfl, by omega, ⟨by omega, by omega, fun _ => rfl⟩, fun j hj => absurd hj (Nat.not_lt_zero _)⟩
  go_enter Try.func8, Try.ntmps8
  go_upto_region 1 with fail
  rw [Hw0.out]
  clear Hw0
  go_wp2_with fail
  refine (qplay_any _ _ _ n i roles [] w0 (by exact ⟨_, rfl, hT.below c0⟩) (by exact hr.below c0) (by exact hnil) hsm).mono ?_
  rintro e w1 ⟨rv, la, lc, rfl, hD, _, b⟩
  obtain ⟨fa, fl, fc, ga, gl, gc, ia, il, ic, rfl⟩ := hD.slices
  replace c0 := below_then c0 b
  replace hR := hR.below b
  replace hbn := hbn.below b
  clear x1 x2 b hnil
  have bc := below_new w1 (.cells #[.slice fa fl fc, .slice ga gl gc, .slice ia il ic] 32)
  have hF := cellsAt_new w1 #[.slice fa fl fc, .slice ga gl gc, .slice ia il ic] 32
  obtain ⟨Bf, HBf⟩ : ∃ B, Hid (w1.heap.size = B) := ⟨_, rfl⟩
  rw [HBf.out] at hF
  obtain ⟨w2, Hw2⟩ : ∃ w2, Hid (w1.alloc (.cells #[.slice fa fl fc, .slice ga gl gc, .slice ia il ic] 32) = w2) := ⟨_, rfl⟩
  rw [Hw2.out] at bc hF
  go_upto_region 2 with fail
  rw [Hw2.out, HBf.out]
  clear Hw2 HBf
  replace c0 := below_then c0 bc
  replace hR := hR.below bc
  replace hbn := hbn.below bc
  replace hD := hD.below bc
  clear bc
  obtain ⟨d, Hd⟩ : ∃ d, Hid ((beginC n i).2 = d) := ⟨_, rfl⟩
  have Hde : Hid ((deskAll n i roles []).2.2 = d) := by
    show _ = _
    rw [← Hd.out]
    unfold deskAll
    split
    · rename_i q; exact q.symm
    · rfl
  rw [Hde.out]
  by_cases hd : d = 0
  · subst hd
    obtain ⟨d0, Hd0⟩ : ∃ d, Hid (deskBegin n i = d) := ⟨_, rfl⟩
    have Hall : Hid (hallAll n i roles os = ((hallPlay n roles d0 ⟨d0, [], 0⟩ os).1.desk, (hallPlay n roles d0 ⟨d0, [], 0⟩ os).2, 0)) := by show _ = _; unfold hallAll; rw [if_pos Hd.out, Hd0.out]
    have Hinv0 : Hid (DeskInv n roles d0) := by rw [← Hd0.out]; exact desk_begin roles Hd.out
    have Hd1 : Hid (d0.items = []) := by rw [← Hd0.out]; rfl
    have Hdd : Hid ((deskAll n i roles []).1 = d0) := by show _ = _; unfold deskAll; rw [if_pos Hd.out, Hd0.out]; rfl
    rw [Hdd.out] at hD
    have y0 : w2.cell? ⟨Bf, 0, none⟩ = some (.slice fa fl fc) := hF.cell 0
    have y1 : w2.cell? ⟨Bf, 1, none⟩ = some (.slice ga gl gc) := hF.cell 1
    have y2 : w2.cell? ⟨Bf, 2, none⟩ = some (.slice ia il ic) := hF.cell 2
    have bk := below_new w2 (.cells #[.slice fa fl fc, .slice ga gl gc, .slice ia il ic] 32)
    have hK := cellsAt_new w2 #[.slice fa fl fc, .slice ga gl gc, .slice ia il ic] 32
    obtain ⟨Bk, HBk⟩ : ∃ B, Hid (w2.heap.size = B) := ⟨_, rfl⟩
    rw [HBk.out] at hK
    obtain ⟨w3, Hw3⟩ : ∃ v, Hid (w2.alloc (.cells #[.slice fa fl fc, .slice ga gl gc, .slice ia il ic] 32) = v) := ⟨_, rfl⟩
    rw [Hw3.out] at bk hK
    obtain ⟨len, Hlen⟩ : ∃ l, Hid (os.length = l) := ⟨_, rfl⟩
    have hul := hu
    rw [Hlen.out] at hmx hsh hbo ⊢
    go_upto_region 8 with fail
    rw [Hw3.out, HBk.out]
    clear Hw3 y0 y1 y2 hF
    replace c0 := below_then c0 bk
    replace hR := hR.below bk
    replace hbn := hbn.below bk
    replace hD := hD.below bk
    clear bk HBk
    have hown : w3.ownsRow w.heap.size 40 2 (.slice none 0 0) 0 (ansC ((ansL (hallPlay n roles d0 ⟨d0, [], 0⟩ os).2).take 0)) := World.ownsRow_nil _ _ _ _
    have hDs : DesksAt w3 Bk 1 1 (fun j => deskAt n roles d0 (hallAt n roles d0 ⟨d0, [], 0⟩ os 0).ws j) [.slice fa fl fc, .slice ga gl gc, .slice ia il ic] (fun b => (Value.slice none 0 0).ownBlock = some b) := desks_one hK hD (fun b => by simp [Value.ownBlock])
    clear hD hK hul
    go_loopg [14, 15, 16, 40] len (fun gk dvs svs ovs i' wr => ∃ (k g cap N : Nat) (ov : Value) (cs : List Value), k + gk = len ∧ i' = .int .i64 (k : Int) ∧ dvs = .slice (some ⟨g, 0, none⟩) N cap ∧ svs = .int .i64 (((hallAt n roles d0 ⟨d0, [], 0⟩ os k).sure : Nat) : Int) ∧ ov = ovs ∧ Below w.heap.size w wr ∧ CellsAt wr w.heap.size #[.int .i64 n.places, tv] 24 ∧ CellsAt wr (w.heap.size + 1) #[.slice none 0 0, .slice none 0 0, .slice none 0 0] 32 ∧
      Hid (DesksAt wr g cap N (fun j => deskAt n roles d0 (hallAt n roles d0 ⟨d0, [], 0⟩ os k).ws j) cs (fun b => ov.ownBlock = some b)) ∧ Hid ((hallAt n roles d0 ⟨d0, [], 0⟩ os k).ws.length + 1 = N) ∧ wr.ownsRow w.heap.size 40 2 ov k (ansC ((ansL (hallPlay n roles d0 ⟨d0, [], 0⟩ os).2).take k)))
    case atStart => exact ⟨0, Bk, 1, 1, _, _, by omega, rfl, rfl, rfl, rfl, c0, hbn, hR, hDs, rfl, hown⟩
    case round =>
      clear c0 hbn hR hDs hown
      obtain ⟨k, g, cap, N, ov, cs, hkg, rfl, rfl, rfl, rfl, c0, hbn, hR, HDs, HN, hX⟩ := hrel
      have Hinv : Hid (HallInv n roles d0 (hallAt n roles d0 ⟨d0, [], 0⟩ os k)) := HallInv.play _ (inv_begin n roles d0)
      by_cases hk : k < len
      · have Hws : Hid ((hallAt n roles d0 ⟨d0, [], 0⟩ os k).ws.length ≤ k) := hallAt_ws rfl k (by rw [Hlen.out]; omega)
        have Hnx : Hid (hallAt n roles d0 ⟨d0, [], 0⟩ os (k + 1) = (hallDo n roles d0 (hallAt n roles d0 ⟨d0, [], 0⟩ os k) (hopAt os k)).1) := hallAt_succ n roles d0 _ (by rw [Hlen.out]; exact hk)
        have Han : Hid (opAt (ansL (hallPlay n roles d0 ⟨d0, [], 0⟩ os).2) k = ((hallDo n roles d0 (hallAt n roles d0 ⟨d0, [], 0⟩ os k) (hopAt os k)).2.err, (hallDo n roles d0 (hallAt n roles d0 ⟨d0, [], 0⟩ os k) (hopAt os k)).2.item)) := by
          show _ = _
          rw [ansL_at, hallAns_at n roles d0 _ (by rw [Hlen.out]; exact hk)]
        have HkA : Hid (k < (hallPlay n roles d0 ⟨d0, [], 0⟩ os).2.length) := by show _ < _; rw [hall_length, Hlen.out]; exact hk
        obtain ⟨ob, of, rfl, hol, c0', c1', c2', c3', c4', c5', c6'⟩ := HOpsV.at (hu.below c0) (show k < os.length by rw [Hlen.out]; exact hk)
        obtain ⟨ho, Hho⟩ : ∃ o, Hid (hopAt os k = o) := ⟨_, rfl⟩
        have Hkw : Hid (-9223372036854775808 ≤ ho.keep ∧ ho.keep ≤ 9223372036854775807) := by rw [← Hho.out]; exact hkw k (by rw [Hlen.out]; exact hk)
        rw [Hho.out] at c0' c1' c2' c3' c4' c5' c6' Hnx Han
        obtain ⟨kd, kp, op⟩ := ho
        simp only at c0' c1' c2' c3' c4' c5' c6'
        obtain ⟨h, Hh⟩ : ∃ h, Hid (hallAt n roles d0 ⟨d0, [], 0⟩ os k = h) := ⟨_, rfl⟩
        rw [Hh.out] at HDs HN Hws Hnx Han Hinv ⊢
        obtain ⟨M, HM⟩ : ∃ m, Hid (h.ws.length = m) := ⟨_, rfl⟩
        obtain ⟨SU, HSU⟩ : ∃ m, Hid (h.sure = m) := ⟨_, rfl⟩
        have hNM : M + 1 = N := by rw [← HM.out]; exact HN.out
        have hMk : M ≤ k := by rw [← HM.out]; exact Hws.out
        have hSU : SU ≤ M := by rw [← HSU.out, ← HM.out]; exact Hinv.out.sure
        rw [HSU.out]
        have hN1 : Go.IntKind.i64.wrap ((N : Int) - 1) = (M : Int) := by rw [← hNM]; rw [show (((M + 1 : Nat) : Int) - 1) = (M : Int) by omega]; exact Go.IntWalk.i64_in _ (by omega)
        have bo := below_new wr (.cells #[.int .i64 kd, .int .i64 kp, .int .i64 op.kind, .int .i64 op.user, .int .i64 op.tran, .int .i64 op.item, .int .i64 op.hand] 47)
        have hbx := cellsAt_new wr #[.int .i64 kd, .int .i64 kp, .int .i64 op.kind, .int .i64 op.user, .int .i64 op.tran, .int .i64 op.item, .int .i64 op.hand] 47
        obtain ⟨Bx, HBx⟩ : ∃ B, Hid (wr.heap.size = B) := ⟨_, rfl⟩
        rw [HBx.out] at hbx
        obtain ⟨wo, Hwo⟩ : ∃ v, Hid (wr.alloc (.cells #[.int .i64 kd, .int .i64 kp, .int .i64 op.kind, .int .i64 op.user, .int .i64 op.tran, .int .i64 op.item, .int .i64 op.hand] 47) = v) := ⟨_, rfl⟩
        have swo : wo.heap.size = Bx + 1 := by rw [← Hwo.out, ← HBx.out]; simp
        rw [Hwo.out] at bo hbx
        have ba := below_new wo (.cells #[.int .i64 0, .int .i64 0] 40)
        have hba := cellsAt_new wo #[.int .i64 0, .int .i64 0] 40
        rw [swo] at hba
        obtain ⟨wp, Hwp⟩ : ∃ v, Hid (wo.alloc (.cells #[.int .i64 0, .int .i64 0] 40) = v) := ⟨_, rfl⟩
        rw [Hwp.out] at ba hba
        have HXa : Hid (ov.ownBlock ≠ some (Bx + 1)) := fun e => by have := (hX.lt _ e).2; rw [HBx.out] at this; omega
        have HXlt : Hid (∀ b, ov.ownBlock = some b → b < Bx) := fun b e => by have := (hX.lt _ e).2; rw [HBx.out] at this; exact this
        have HRx : Hid (w.heap.size + 1 < Bx) := by have := hR.lt; rw [HBx.out] at this; exact this
        have HDa : Hid (DesksAt wr g cap N (fun j => deskAt n roles d0 h.ws j) cs (fun b => ov.ownBlock = some b ∨ b = Bx + 1)) := HDs.out.high (fun b hb => by rcases hb with q | q; exact .inl q; exact .inr (by rw [HBx.out]; omega))
        have bb := below_then bo ba
        go_upto_region 10 with fail
        rw [Hwo.out, HBx.out]
        go_upto_region 11 with fail
        first | rw [swo, Hwp.out] | rw [Hwp.out]
        clear Hwo Hwp c0' c1' c2' c3' c4' c5' c6' hol HDs
        replace c0 := below_then c0 bb
        replace hR := hR.below bb
        replace hbn := hbn.below bb
        replace hX := own_trans hX bb
        replace hbx := hbx.below ba
        replace HDa : Hid (DesksAt wp _ _ _ _ _ _) := HDa.out.below bb
        clear bo ba bb swo HBx
        have o0 : wp.cell? ⟨Bx, 0, none⟩ = some (.int .i64 kd) := hbx.cell 0
        have o1 : wp.cell? ⟨Bx, 1, none⟩ = some (.int .i64 kp) := hbx.cell 1
        have o2 : wp.cell? ⟨Bx, 2, none⟩ = some (.int .i64 op.kind) := hbx.cell 2
        have o3 : wp.cell? ⟨Bx, 3, none⟩ = some (.int .i64 op.user) := hbx.cell 3
        have o4 : wp.cell? ⟨Bx, 4, none⟩ = some (.int .i64 op.tran) := hbx.cell 4
        have o5 : wp.cell? ⟨Bx, 5, none⟩ = some (.int .i64 op.item) := hbx.cell 5
        have o6 : wp.cell? ⟨Bx, 6, none⟩ = some (.int .i64 op.hand) := hbx.cell 6
        have a0 : wp.cell? ⟨Bx + 1, 0, none⟩ = some (.int .i64 0) := hba.cell 0
        have a1 : wp.cell? ⟨Bx + 1, 1, none⟩ = some (.int .i64 0) := hba.cell 1
        have f0 := hba.frozen 0
        have f1 := hba.frozen 1
        by_cases h1 : kd = 1
        · subst h1
          go_wp2_with fail
          refine (rwrite_any op wp).mono ?_
          rintro e w4 ⟨rv, rfl, hU⟩
          have b := hU.2.1
          clear o0 o1 o2 o3 o4 o5 o6 a0 a1 f0 f1
          replace c0 := below_then c0 b
          replace hR := hR.below b
          replace hbn := hbn.below b
          replace hX := own_trans hX b
          replace hbx := hbx.below b
          replace hba := hba.below b
          replace HDa : Hid (DesksAt w4 _ _ _ _ _ _) := HDa.out.below b
          clear b hU
          have o0 : w4.cell? ⟨Bx, 0, none⟩ = some (.int .i64 1) := hbx.cell 0
          have o1 : w4.cell? ⟨Bx, 1, none⟩ = some (.int .i64 kp) := hbx.cell 1
          have o2 : w4.cell? ⟨Bx, 2, none⟩ = some (.int .i64 op.kind) := hbx.cell 2
          have o3 : w4.cell? ⟨Bx, 3, none⟩ = some (.int .i64 op.user) := hbx.cell 3
          have o4 : w4.cell? ⟨Bx, 4, none⟩ = some (.int .i64 op.tran) := hbx.cell 4
          have o5 : w4.cell? ⟨Bx, 5, none⟩ = some (.int .i64 op.item) := hbx.cell 5
          have o6 : w4.cell? ⟨Bx, 6, none⟩ = some (.int .i64 op.hand) := hbx.cell 6
          have a0 : w4.cell? ⟨Bx + 1, 0, none⟩ = some (.int .i64 0) := hba.cell 0
          have a1 : w4.cell? ⟨Bx + 1, 1, none⟩ = some (.int .i64 0) := hba.cell 1
          have f0 := hba.frozen 0
          have f1 := hba.frozen 1
          obtain ⟨WE, HWE⟩ : ∃ z, Hid ((writeJ op).2 = z) := ⟨_, rfl⟩
          rw [HWE.out]
          cases hf : fitsO op
          · have hWE : WE = 2 := by rw [← HWE.out]; unfold writeJ; rw [hf]; rfl
            subst hWE
            have ST : Hid (hallDo n roles d0 h ⟨1, kp, op⟩ = (h, ⟨2, 0⟩)) := hall_do1 hf
            have hba2 := hba.put 0 (.int .i64 2)
            have hX2 := row_put hX (p := ⟨Bx + 1, 0, none⟩) HXa.out (.int .i64 2)
            have hR2 := hR.set (p := ⟨Bx + 1, 0, none⟩) (by show Bx + 1 ≠ w.heap.size + 1; have := HRx.out; omega) (.int .i64 2)
            have hbn2 := hbn.set (p := ⟨Bx + 1, 0, none⟩) (by show Bx + 1 ≠ w.heap.size; have := HRx.out; omega) (.int .i64 2)
            have c2 := c0.setCell (p := ⟨Bx + 1, 0, none⟩) (by show w.heap.size ≤ Bx + 1; have := HRx.out; omega) (.int .i64 2)
            have hD2 := HDa.out.keep (w' := w4.setCell ⟨Bx + 1, 0, none⟩ (.int .i64 2)) (by simp [World.setCell]) (fun q _ hq => Below.heap_setCell _ ⟨Bx + 1, 0, none⟩ _ q (fun e => hq (.inr e)))
            obtain ⟨w5, Hw5⟩ : ∃ v, Hid (w4.setCell ⟨Bx + 1, 0, none⟩ (.int .i64 2) = v) := ⟨_, rfl⟩
            rw [Hw5.out] at hba2 hX2 hR2 hbn2 c2 hD2
            go_upto_region 27 with fail
            rw [Hw5.out]
            clear Hw5 o0 o1 o2 o3 o4 o5 o6 a0 a1 f0 f1 hba hX hR hbn c0 HDa
            obtain ⟨hba, hX, hR, hbn, c0⟩ : CellsAt w5 (Bx + 1) #[.int .i64 2, .int .i64 0] 40 ∧ _ ∧ _ ∧ _ ∧ _ := ⟨hba2, hX2, hR2, hbn2, c2⟩
            have HD2 : Hid (DesksAt w5 g cap N (fun j => deskAt n roles d0 h.ws j) cs (fun b => ov.ownBlock = some b)) := hD2.high (fun b hb => .inl (.inl hb))
            have HN2 : Hid (h.ws.length + 1 = N) := HN
            clear hba2 hX2 hR2 hbn2 c2 hD2
            rw [ST.out] at Hnx Han
            have hX5' := ansTake HkA.out Han.out
            have b0 : w5.cell? ⟨Bx + 1, 0, none⟩ = some (.int .i64 2) := hba.cell 0
            have b1 : w5.cell? ⟨Bx + 1, 1, none⟩ = some (.int .i64 0) := hba.cell 1
            have HL1 : Hid (k + 1 ≤ maxLen) := by show _ ≤ _; unfold maxLen; omega
            have HL2 : Hid ((k + 1) * 16 ≤ 140737488355328) := by show _ ≤ _; omega
            have HX1 : ∀ u ∈ (#[.int .i64 2, .int .i64 0] : Array Value).toList, u.oneCell' = true := (fun u hu => by simp at hu; rcases hu with rfl | rfl <;> rfl)
            have Hn1 : Hid (ov.ownBlock ≠ some w.heap.size) := row_block hX hbn (by decide)
            have Hn2 : Hid (ov.ownBlock ≠ some (w.heap.size + 1)) := row_block hX hR (by decide)
            go_wp2_with (at_builtin; refine wp_append_one elem_dans rfl _ _ rfl w.heap.size w5 ov k _ #[.int .i64 2, .int .i64 0] hX c0.size rfl HX1 rfl rfl HL1.out HL2.out ?_; intro v' w8 hX6 hs6 hk6 hB6 hat6)
            rw [show ansC ((ansL (hallPlay n roles d0 ⟨d0, [], 0⟩ os).2).take k) ++ (#[.int .i64 2, .int .i64 0] : Array Value).toList = ansC ((ansL (hallPlay n roles d0 ⟨d0, [], 0⟩ os).2).take (k + 1)) from hX5'.symm] at hX6
            have c6 := hB6 _ c0
            have hbn6 : CellsAt w8 w.heap.size #[.int .i64 n.places, tv] 24 := (hk6 _ hbn.lt Hn1.out).trans hbn
            have hR6 : CellsAt w8 (w.heap.size + 1) #[.slice none 0 0, .slice none 0 0, .slice none 0 0] 32 := (hk6 _ hR.lt Hn2.out).trans hR
            have HD6 : Hid (DesksAt w8 g cap N (fun j => deskAt n roles d0 (hallAt n roles d0 ⟨d0, [], 0⟩ os (k + 1)).ws j) cs (fun b => v'.ownBlock = some b)) := by
              have hq : DesksAt w5 g cap N (fun j => deskAt n roles d0 (hallAt n roles d0 ⟨d0, [], 0⟩ os (k + 1)).ws j) cs (fun b => ov.ownBlock = some b ∨ w5.heap.size ≤ b) := by rw [Hnx.out]; exact HD2.out.high (fun b hb => hb)
              have h3 : DesksAt w8 g cap N (fun j => deskAt n roles d0 (hallAt n roles d0 ⟨d0, [], 0⟩ os (k + 1)).ws j) cs (fun b => ov.ownBlock = some b ∨ w5.heap.size ≤ b) := hq.keep hs6 (fun q hq1 hb => hk6 q hq1 (fun e => hb (.inl e)))
              refine h3.high (fun b hb => .inl ?_)
              rcases hat6 with q | q
              · exact .inl (by rw [← q]; exact hb)
              · rw [q] at hb; injection hb with hb; exact .inr (by omega)
            have HN6 : Hid ((hallAt n roles d0 ⟨d0, [], 0⟩ os (k + 1)).ws.length + 1 = N) := by show _ = _; rw [Hnx.out]; exact HN2.out
            have HS6 : Hid ((hallAt n roles d0 ⟨d0, [], 0⟩ os (k + 1)).sure = (h).sure) := by show _ = _; rw [Hnx.out]
            clear hX hbn hR HD2 c0 hba b0 b1 hX5' hbx
            go_wp2
            go_roundg (gk - 1)
            case measure => omega
            case rel => exact ⟨k + 1, g, cap, N, _, _, by omega, by go_num, rfl, by rw [HS6.out]; rw [HSU.out], rfl, c6, hbn6, hR6, HD6, HN6, hX6⟩
          · have hWE : WE = 0 := by rw [← HWE.out]; unfold writeJ; rw [hf]; rfl
            subst hWE
            have Hf : Hid (fitsO op = true) := hf
            clear hf
            have bd := below_new w4 (.cells #[.slice none 0 0, .slice none 0 0, .slice none 0 0] 32)
            have hbd := cellsAt_new w4 #[.slice none 0 0, .slice none 0 0, .slice none 0 0] 32
            obtain ⟨Bd, HBd⟩ : ∃ B, Hid (w4.heap.size = B) := ⟨_, rfl⟩
            rw [HBd.out] at hbd
            have HBdx : Hid (Bx + 1 < Bd) := by have := hba.lt; rw [HBd.out] at this; exact this
            obtain ⟨w5, Hw5⟩ : ∃ v, Hid (w4.alloc (.cells #[.slice none 0 0, .slice none 0 0, .slice none 0 0] 32) = v) := ⟨_, rfl⟩
            rw [Hw5.out] at bd hbd
            have HDb : Hid (DesksAt w4 g cap N (fun j => deskAt n roles d0 h.ws j) cs (fun b => ov.ownBlock = some b ∨ b = Bx + 1 ∨ b = Bd)) := HDa.out.high (fun b hb => by rcases hb with q | q | q; exact .inl (.inl q); exact .inl (.inr q); exact .inr (by rw [HBd.out]; omega))
            go_upto_region 18 with fail
            rw [Hw5.out, HBd.out]
            clear Hw5 HDa
            clear o0 o1 o2 o3 o4 o5 o6 a0 a1 f0 f1
            have HXd : Hid (∀ b, ov.ownBlock = some b → b ≠ Bd) := fun b e => by have := HXlt.out b e; have := HBdx.out; omega
            replace c0 := below_then c0 bd
            replace hR := hR.below bd
            replace hbn := hbn.below bd
            replace hX := own_trans hX bd
            replace hbx := hbx.below bd
            replace hba := hba.below bd
            replace HDb : Hid (DesksAt w5 _ _ _ _ _ _) := HDb.out.below bd
            clear bd HBd
            have Hinvd : Hid (DeskInv n roles h.desk) := by rw [Hinv.out.desk]; exact DeskInv.play _ Hinv0.out
            have Hfew : Hid (h.desk.items.length + 1 ≤ 5864062014805) := by
              have := deskAt_few (n := n) (roles := roles) (d := d0) (os := h.ws) (by rw [Hd1.out]; rfl) h.ws.length (Nat.le_refl _)
              rw [deskAt_all n roles d0 (Nat.le_refl _), ← Hinv.out.desk, HM.out] at this
              show _ ≤ _
              omega
            obtain ⟨sa, sl, sc, ta, tl, tc, qa, ql, qc, e0, e1, e2, hDM, hoM⟩ := HDb.out.desk M (by omega)
            have k0 : w5.cell? ⟨g, M * 3, none⟩ = some (.slice sa sl sc) := HDb.out.cells _ _ e0
            have k1 : w5.cell? ⟨g, M * 3 + 1, none⟩ = some (.slice ta tl tc) := HDb.out.cells _ _ e1
            have k2 : w5.cell? ⟨g, M * 3 + 2, none⟩ = some (.slice qa ql qc) := HDb.out.cells _ _ e2
            have Hk : Hid (∀ w', Below w5.heap.size w5 w' → w'.cell? ⟨w.heap.size, 0, none⟩ = some (.int .i64 n.places) ∧ w'.cell? ⟨w.heap.size, 1, none⟩ = some tv ∧ w'.cell? ⟨g, M * 3, none⟩ = some (.slice sa sl sc) ∧ w'.cell? ⟨g, M * 3 + 1, none⟩ = some (.slice ta tl tc) ∧ w'.cell? ⟨g, M * 3 + 2, none⟩ = some (.slice qa ql qc) ∧
                w'.cell? ⟨Bx, 2, none⟩ = some (.int .i64 op.kind) ∧ w'.cell? ⟨Bx, 3, none⟩ = some (.int .i64 op.user) ∧ w'.cell? ⟨Bx, 4, none⟩ = some (.int .i64 op.tran) ∧ w'.cell? ⟨Bx, 5, none⟩ = some (.int .i64 op.item) ∧ w'.cell? ⟨Bx, 6, none⟩ = some (.int .i64 op.hand)) :=
              fun w' q => ⟨(hbn.below q).cell 0, (hbn.below q).cell 1, (q.cell (p := ⟨g, _, none⟩) HDb.out.lt).trans k0, (q.cell (p := ⟨g, _, none⟩) HDb.out.lt).trans k1, (q.cell (p := ⟨g, _, none⟩) HDb.out.lt).trans k2, (hbx.below q).cell 2, (hbx.below q).cell 3, (hbx.below q).cell 4, (hbx.below q).cell 5, (hbx.below q).cell 6⟩
            rw [show deskAt n roles d0 h.ws M = h.desk from by rw [deskAt_all n roles d0 (by rw [HM.out]; exact Nat.le_refl _), ← Hinv.out.desk]] at hDM
            clear k0 k1 k2
            obtain ⟨E, HE⟩ : ∃ z, Hid ((deskDo n roles h.desk op).2.err = z) := ⟨_, rfl⟩
            obtain ⟨I, HI⟩ : ∃ z, Hid ((deskDo n roles h.desk op).2.item = z) := ⟨_, rfl⟩
            obtain ⟨DN, HDN⟩ : ∃ z, Hid ((deskDo n roles h.desk op).1 = z) := ⟨_, rfl⟩
            have hMN : (M : Int) < (N : Int) := by omega
            have hM0 : (0 : Int) ≤ (M : Int) := by omega
            have hMN' : M < N := by omega
            go_cut [60] (fun x60 wc => ∃ (ya : Option Addr) (yl yc : Nat) (za : Option Addr) (zl zc : Nat) (ua : Option Addr) (ul uc : Nat), CellsAt wc Bd #[.slice ya yl yc, .slice za zl zc, .slice ua ul uc] 32 ∧ CellsAt wc (Bx + 1) #[.int .i64 E, .int .i64 I] 40 ∧ DeskV wc (.agg #[.slice ya yl yc, .slice za zl zc, .slice ua ul uc]) DN ∧ (∀ b, ov.ownBlock = some b → DeskOff b (.agg #[.slice ya yl yc, .slice za zl zc, .slice ua ul uc])) ∧
              Below w.heap.size w wc ∧ w5.heap.size ≤ wc.heap.size ∧ ∀ q, q < w5.heap.size → q ≠ Bd → q ≠ Bx + 1 → wc.heap[q]? = w5.heap[q]?)
            case first =>
              refine wp_region_held_drew (S := (fun w' => w'.cell? ⟨w.heap.size, 0, none⟩ = some (.int .i64 n.places) ∧ w'.cell? ⟨w.heap.size, 1, none⟩ = some (tv) ∧ w'.cell? ⟨g, M * 3, none⟩ = some (.slice sa sl sc) ∧ w'.cell? ⟨g, M * 3 + 1, none⟩ = some (.slice ta tl tc) ∧ w'.cell? ⟨g, M * 3 + 2, none⟩ = some (.slice qa ql qc) ∧ w'.cell? ⟨Bx, 2, none⟩ = some (.int .i64 op.kind) ∧ w'.cell? ⟨Bx, 3, none⟩ = some (.int .i64 op.user) ∧ w'.cell? ⟨Bx, 4, none⟩ = some (.int .i64 op.tran) ∧ w'.cell? ⟨Bx, 5, none⟩ = some (.int .i64 op.item) ∧ w'.cell? ⟨Bx, 6, none⟩ = some (.int .i64 op.hand))) (by kernel_rfl) (Hk.out _ (Below.refl _ _).drew) (fun hH => ?_)
              have b : Below w5.heap.size w5 w5.drew := (Below.refl _ _).drew
              obtain ⟨v0, Hv0⟩ : ∃ v0, Hid (w5.drew = v0) := ⟨_, rfl⟩
              rw [Hv0.out] at hH b ⊢
              clear Hv0
              refine wpAnyH_take (i := 0) (v := .agg #[.int .i64 n.places, tv]) rfl (by kernel_rfl) (by kernel_rfl) (by kernel_rfl) (fun _ _ _ h => h) (.inl ⟨by rfl, fun w' hS' => by obtain ⟨s0, s1, s2, s3, s4, s5, s6, s7, s8, s9⟩ := hS'; go_simp⟩) hH ?_
              simp only [List.getElem_toArray, List.getElem_cons_succ, List.getElem_cons_zero, Act.put, List.setIfInBounds_toArray, List.set_cons_zero, List.set_cons_succ]
              refine wpAnyH_take (i := 1) (v := r) rfl (by kernel_rfl) (by kernel_rfl) (by kernel_rfl) (fun _ _ _ h => h) (.inl ⟨by rfl, fun _ _ => rfl⟩) hH ?_
              simp only [List.getElem_toArray, List.getElem_cons_succ, List.getElem_cons_zero, Act.put, List.setIfInBounds_toArray, List.set_cons_zero, List.set_cons_succ]
              refine wpAnyH_take (i := 2) (v := .slice (some ⟨g, 0, none⟩) N cap) rfl (by kernel_rfl) (by kernel_rfl) (by kernel_rfl) (fun _ _ _ h => h) (.inl ⟨by rfl, fun _ _ => rfl⟩) hH ?_
              simp only [List.getElem_toArray, List.getElem_cons_succ, List.getElem_cons_zero, Act.put, List.setIfInBounds_toArray, List.set_cons_zero, List.set_cons_succ]
              refine wpAnyH_take (i := 3) (v := .slice (some ⟨g, 0, none⟩) N cap) rfl (by kernel_rfl) (by kernel_rfl) (by kernel_rfl) (fun _ _ _ h => h) (.inl ⟨by rfl, fun _ _ => rfl⟩) hH ?_
              simp only [List.getElem_toArray, List.getElem_cons_succ, List.getElem_cons_zero, Act.put, List.setIfInBounds_toArray, List.set_cons_zero, List.set_cons_succ]
              refine wpAnyH_take (i := 4) (v := .int .i64 N) rfl (by kernel_rfl) (by kernel_rfl) (by kernel_rfl) (fun _ _ _ h => h) (.inl ⟨by rfl, fun w' hS' => by first | (go_simp; done) | (go_simp; rfl) | (go_simp; intro h; omega) | (go_simp; omega)⟩) hH ?_
              simp only [List.getElem_toArray, List.getElem_cons_succ, List.getElem_cons_zero, Act.put, List.setIfInBounds_toArray, List.set_cons_zero, List.set_cons_succ]
              refine wpAnyH_take (i := 5) (v := .int .i64 (M : Int)) rfl (by kernel_rfl) (by kernel_rfl) (by kernel_rfl) (fun _ _ _ h => h) (.inl ⟨by rfl, fun w' hS' => by first | (go_simp; done) | (go_simp; rfl) | (go_simp; intro h; omega) | (go_simp; omega)⟩) hH ?_
              simp only [List.getElem_toArray, List.getElem_cons_succ, List.getElem_cons_zero, Act.put, List.setIfInBounds_toArray, List.set_cons_zero, List.set_cons_succ]
              refine wpAnyH_take (i := 6) (v := .pointer (some ⟨g, M * 3, none⟩)) rfl (by kernel_rfl) (by kernel_rfl) (by kernel_rfl) (fun _ _ _ h => h) (.inl ⟨by rfl, fun w' hS' => by first | (go_simp; done) | (go_simp; rfl) | (go_simp; intro h; omega) | (go_simp; omega)⟩) hH ?_
              simp only [List.getElem_toArray, List.getElem_cons_succ, List.getElem_cons_zero, Act.put, List.setIfInBounds_toArray, List.set_cons_zero, List.set_cons_succ]
              refine wpAnyH_take (i := 7) (v := .agg #[.slice sa sl sc, .slice ta tl tc, .slice qa ql qc]) rfl (by kernel_rfl) (by kernel_rfl) (by kernel_rfl) (fun _ _ _ h => h) (.inl ⟨by rfl, fun w' hS' => by obtain ⟨s0, s1, s2, s3, s4, s5, s6, s7, s8, s9⟩ := hS'; go_simp⟩) hH ?_
              simp only [List.getElem_toArray, List.getElem_cons_succ, List.getElem_cons_zero, Act.put, List.setIfInBounds_toArray, List.set_cons_zero, List.set_cons_succ]
              refine wpAnyH_take (i := 8) (v := .pointer (some ⟨Bx, 2, none⟩)) rfl (by kernel_rfl) (by kernel_rfl) (by kernel_rfl) (fun _ _ _ h => h) (.inl ⟨by rfl, fun w' hS' => by first | (go_simp; done) | (go_simp; rfl) | (go_simp; intro h; omega) | (go_simp; omega)⟩) hH ?_
              simp only [List.getElem_toArray, List.getElem_cons_succ, List.getElem_cons_zero, Act.put, List.setIfInBounds_toArray, List.set_cons_zero, List.set_cons_succ]
              refine wpAnyH_take (i := 9) (v := .agg #[.int .i64 op.kind, .int .i64 op.user, .int .i64 op.tran, .int .i64 op.item, .int .i64 op.hand]) rfl (by kernel_rfl) (by kernel_rfl) (by kernel_rfl) (fun _ _ _ h => h) (.inl ⟨by rfl, fun w' hS' => by obtain ⟨s0, s1, s2, s3, s4, s5, s6, s7, s8, s9⟩ := hS'; go_simp⟩) hH ?_
              simp only [List.getElem_toArray, List.getElem_cons_succ, List.getElem_cons_zero, Act.put, List.setIfInBounds_toArray, List.set_cons_zero, List.set_cons_succ]
              refine wpAnyH_ready (rs := [10]) (by kernel_rfl) (by simp) ?_
              refine AllReadyH.cons rfl (fun K hK => ?_) AllReadyH.nil
              simp only [List.getElem_toArray, List.getElem_cons_succ, List.getElem_cons_zero]
              rw [if_pos (by rfl)]
              go_wp2_with fail
              refine (qdo_any _ r _ n roles h.desk op v0 (by exact ⟨_, rfl, hT.below (below_then c0 b)⟩) (by exact hr.below (below_then c0 b)) (by exact hDM.below b) hsm Hinvd.out Hfew).mono ?_
              rintro e v1 ⟨rv, rfl, hD4, b4, hoff⟩
              rw [HDN.out] at hD4
              rw [HE.out, HI.out]
              have hDa := hoff (Bx + 1) (Nat.lt_of_lt_of_le hba.lt b.size) (hoM (Bx + 1) (.inr (.inl rfl)))
              have hDd := hoff Bd (Nat.lt_of_lt_of_le hbd.lt b.size) (hoM Bd (.inr (.inr rfl)))
              have hDo : ∀ q, ov.ownBlock = some q → DeskOff q rv := fun q e => hoff q (Nat.lt_of_lt_of_le (Nat.lt_trans (HXlt.out q e) (Nat.lt_of_lt_of_le (Nat.lt_succ_self Bx) (Nat.le_of_lt hba.lt))) b.size) (hoM q (.inl e))
              obtain ⟨ya, yl, yc, za, zl, zc, ua, ul, uc, rfl⟩ := hD4.slices
              replace b := below_then b b4
              clear hoff b4
              refine hK.out _ _ (Hk.out _ b) (fun hH => ?_)
              clear hK
              refine wpAnyH_take (i := 11) (v := .tuple #[.agg #[.slice ya yl yc, .slice za zl zc, .slice ua ul uc], .agg #[.int .i64 E, .int .i64 I]]) rfl (by kernel_rfl) (by kernel_rfl) (by kernel_rfl) (fun _ _ _ h => h) (.inl ⟨by rfl, fun _ _ => rfl⟩) hH ?_
              simp only [List.getElem_toArray, List.getElem_cons_succ, List.getElem_cons_zero, Act.put, List.setIfInBounds_toArray, List.set_cons_zero, List.set_cons_succ]
              refine wpAnyH_take (i := 12) (v := .agg #[.slice ya yl yc, .slice za zl zc, .slice ua ul uc]) rfl (by kernel_rfl) (by kernel_rfl) (by kernel_rfl) (fun _ _ _ h => h) (.inl ⟨by rfl, fun w' hS' => by first | (go_simp; done) | (go_simp; rfl) | (go_simp; intro h; omega) | (go_simp; omega)⟩) hH ?_
              simp only [List.getElem_toArray, List.getElem_cons_succ, List.getElem_cons_zero, Act.put, List.setIfInBounds_toArray, List.set_cons_zero, List.set_cons_succ]
              refine wpAnyH_take (i := 13) (v := .agg #[.int .i64 E, .int .i64 I]) rfl (by kernel_rfl) (by kernel_rfl) (by kernel_rfl) (fun _ _ _ h => h) (.inl ⟨by rfl, fun w' hS' => by first | (go_simp; done) | (go_simp; rfl) | (go_simp; intro h; omega) | (go_simp; omega)⟩) hH ?_
              simp only [List.getElem_toArray, List.getElem_cons_succ, List.getElem_cons_zero, Act.put, List.setIfInBounds_toArray, List.set_cons_zero, List.set_cons_succ]
              have hbd1 := hbd.below b
              have hba1 := hba.below b
              have m0 : v1.cell? ⟨Bd, 0, none⟩ = some (.slice none 0 0) := hbd1.cell 0
              have m1 : v1.cell? ⟨Bd, 1, none⟩ = some (.slice none 0 0) := hbd1.cell 1
              have m2 : v1.cell? ⟨Bd, 2, none⟩ = some (.slice none 0 0) := hbd1.cell 2
              have m3 := hbd1.frozen 0
              have m4 := hbd1.frozen 1
              have m5 := hbd1.frozen 2
              have m6 : v1.cell? ⟨Bx + 1, 0, none⟩ = some (.int .i64 0) := hba1.cell 0
              have m7 : v1.cell? ⟨Bx + 1, 1, none⟩ = some (.int .i64 0) := hba1.cell 1
              have m8 := hba1.frozen 0
              have m9 := hba1.frozen 1
              have Hk2 : Hid (∀ w' : World, (∀ q, q < w5.heap.size → q ≠ Bd → q ≠ Bx + 1 → w'.heap[q]? = v1.heap[q]?) → w'.cell? ⟨w.heap.size, 0, none⟩ = some (.int .i64 n.places) ∧ w'.cell? ⟨w.heap.size, 1, none⟩ = some tv ∧ w'.cell? ⟨g, M * 3, none⟩ = some (.slice sa sl sc) ∧ w'.cell? ⟨g, M * 3 + 1, none⟩ = some (.slice ta tl tc) ∧ w'.cell? ⟨g, M * 3 + 2, none⟩ = some (.slice qa ql qc) ∧
                    w'.cell? ⟨Bx, 2, none⟩ = some (.int .i64 op.kind) ∧ w'.cell? ⟨Bx, 3, none⟩ = some (.int .i64 op.user) ∧ w'.cell? ⟨Bx, 4, none⟩ = some (.int .i64 op.tran) ∧ w'.cell? ⟨Bx, 5, none⟩ = some (.int .i64 op.item) ∧ w'.cell? ⟨Bx, 6, none⟩ = some (.int .i64 op.hand)) := fun w' q => by
                have hx := HBdx.out
                have hrx := HRx.out
                have hgl := HDb.out.lt
                have hg1 : g ≠ Bd := fun e => HDb.out.off (.inr (.inr e))
                have hg2 : g ≠ Bx + 1 := fun e => HDb.out.off (.inr (.inl e))
                have qA := q w.heap.size hbn.lt (by omega) (by omega)
                have qg := q g hgl hg1 hg2
                have qx := q Bx hbx.lt (by omega) (by omega)
                obtain ⟨s0, s1, s2, s3, s4, s5, s6, s7, s8, s9⟩ := Hk.out _ b
                exact ⟨(World.cell?_of_block (a := ⟨_, _, none⟩) qA).trans s0, (World.cell?_of_block (a := ⟨_, _, none⟩) qA).trans s1, (World.cell?_of_block (a := ⟨_, _, none⟩) qg).trans s2, (World.cell?_of_block (a := ⟨_, _, none⟩) qg).trans s3, (World.cell?_of_block (a := ⟨_, _, none⟩) qg).trans s4,
                  (World.cell?_of_block (a := ⟨_, _, none⟩) qx).trans s5, (World.cell?_of_block (a := ⟨_, _, none⟩) qx).trans s6, (World.cell?_of_block (a := ⟨_, _, none⟩) qx).trans s7, (World.cell?_of_block (a := ⟨_, _, none⟩) qx).trans s8, (World.cell?_of_block (a := ⟨_, _, none⟩) qx).trans s9⟩
              have HneA : Hid (Bx + 1 ≠ Bd) := by show _ ≠ _; have := HBdx.out; omega
              have HbB : Hid (w.heap.size ≤ Bx + 1) := by show _ ≤ _; have := HRx.out; omega
              have HbD : Hid (w.heap.size ≤ Bd) := by show _ ≤ _; have := HRx.out; have := HBdx.out; omega
              have cb := below_then c0 b
              have HSD : Hid (∀ (x : World) q, q ≠ Bd → ((((x).setCell ⟨Bd, 0, none⟩ (.slice ya yl yc)).setCell ⟨Bd, 1, none⟩ (.slice za zl zc)).setCell ⟨Bd, 2, none⟩ (.slice ua ul uc)).heap[q]? = x.heap[q]?) := fun x q h => by rw [Below.heap_setCell _ ⟨Bd, 2, none⟩ _ q h, Below.heap_setCell _ ⟨Bd, 1, none⟩ _ q h, Below.heap_setCell _ ⟨Bd, 0, none⟩ _ q h]
              have HSA : Hid (∀ (x : World) q, q ≠ Bx + 1 → (((x).setCell ⟨Bx + 1, 0, none⟩ (.int .i64 E)).setCell ⟨Bx + 1, 1, none⟩ (.int .i64 I)).heap[q]? = x.heap[q]?) := fun x q h => by rw [Below.heap_setCell _ ⟨Bx + 1, 1, none⟩ _ q h, Below.heap_setCell _ ⟨Bx + 1, 0, none⟩ _ q h]
              have Hfin : Hid (∀ wc : World, CellsAt wc Bd #[.slice ya yl yc, .slice za zl zc, .slice ua ul uc] 32 → CellsAt wc (Bx + 1) #[.int .i64 E, .int .i64 I] 40 → Below w.heap.size w wc → wc.heap.size = v1.heap.size → (∀ q, q ≠ Bd → q ≠ Bx + 1 → wc.heap[q]? = v1.heap[q]?) →
                  CellsAt wc Bd #[.slice ya yl yc, .slice za zl zc, .slice ua ul uc] 32 ∧ CellsAt wc (Bx + 1) #[.int .i64 E, .int .i64 I] 40 ∧ DeskV wc (.agg #[.slice ya yl yc, .slice za zl zc, .slice ua ul uc]) DN ∧ (∀ b, ov.ownBlock = some b → DeskOff b (.agg #[.slice ya yl yc, .slice za zl zc, .slice ua ul uc])) ∧ Below w.heap.size w wc ∧ w5.heap.size ≤ wc.heap.size ∧ ∀ q, q < w5.heap.size → q ≠ Bd → q ≠ Bx + 1 → wc.heap[q]? = w5.heap[q]?) :=
                fun wc g1 g2 g3 g4 g5 => ⟨g1, g2, hD4.keepOff (Bad := fun q => q = Bd ∨ q = Bx + 1) (Nat.le_of_eq g4.symm) (fun q _ hq => g5 q (fun e => hq (.inl e)) (fun e => hq (.inr e))) (fun q hq => by rcases hq with rfl | rfl; exact hDd; exact hDa), hDo, g3, by rw [g4]; exact b.size, fun q h1 h2 h3 => (g5 q h2 h3).trans (b.block q h1)⟩
              obtain ⟨v2, Hv2⟩ : ∃ x, Hid ((((v1).setCell ⟨Bd, 0, none⟩ (.slice ya yl yc)).setCell ⟨Bd, 1, none⟩ (.slice za zl zc)).setCell ⟨Bd, 2, none⟩ (.slice ua ul uc) = x) := ⟨_, rfl⟩
              refine wpAnyH_ready (rs := [14]) (by kernel_rfl) (by simp) ?_
              refine AllReadyH.cons rfl (fun K hK => ?_) AllReadyH.nil
              simp only [List.getElem_toArray, List.getElem_cons_succ, List.getElem_cons_zero]
              rw [if_pos (by rfl)]
              go_wp2_with fail
              rw [Hv2.out]
              have d1 : CellsAt v2 Bd #[.slice ya yl yc, .slice za zl zc, .slice ua ul uc] 32 := by rw [← Hv2.out]; exact ((hbd1.put 0 (.slice ya yl yc)).put 1 (.slice za zl zc)).put 2 (.slice ua ul uc)
              have g1 : ∀ q, q ≠ Bd → v2.heap[q]? = v1.heap[q]? := fun q h => by rw [← Hv2.out]; exact HSD.out v1 q h
              have d2 : CellsAt v2 (Bx + 1) #[.int .i64 0, .int .i64 0] 40 := (g1 _ HneA.out).trans hba1
              have cb2 : Below w.heap.size w v2 := by rw [← Hv2.out]; exact ((cb.setCell (p := ⟨Bd, 0, none⟩) HbD.out _).setCell (p := ⟨Bd, 1, none⟩) HbD.out _).setCell (p := ⟨Bd, 2, none⟩) HbD.out _
              have z2 : v2.heap.size = v1.heap.size := by rw [← Hv2.out]; simp [World.setCell]
              refine hK.out _ _ (Hk2.out _ (fun q _ h2 h3 => g1 q h2)) (fun hH => ?_)
              clear hK m0 m1 m2 m3 m4 m5 m6 m7 m8 m9 Hv2
              have m6 : v2.cell? ⟨Bx + 1, 0, none⟩ = some (.int .i64 0) := d2.cell 0
              have m7 : v2.cell? ⟨Bx + 1, 1, none⟩ = some (.int .i64 0) := d2.cell 1
              have m8 := d2.frozen 0
              have m9 := d2.frozen 1
              obtain ⟨v3, Hv3⟩ : ∃ x, Hid (((v2).setCell ⟨Bx + 1, 0, none⟩ (.int .i64 E)).setCell ⟨Bx + 1, 1, none⟩ (.int .i64 I) = x) := ⟨_, rfl⟩
              refine wpAnyH_ready (rs := [15]) (by kernel_rfl) (by simp) ?_
              refine AllReadyH.cons rfl (fun K hK => ?_) AllReadyH.nil
              simp only [List.getElem_toArray, List.getElem_cons_succ, List.getElem_cons_zero]
              rw [if_pos (by rfl)]
              go_wp2_with fail
              rw [Hv3.out]
              have g2 : ∀ q, q ≠ Bx + 1 → v3.heap[q]? = v2.heap[q]? := fun q h => by rw [← Hv3.out]; exact HSA.out v2 q h
              have e2' : CellsAt v3 (Bx + 1) #[.int .i64 E, .int .i64 I] 40 := by rw [← Hv3.out]; exact (d2.put 0 (.int .i64 E)).put 1 (.int .i64 I)
              have e1' : CellsAt v3 Bd #[.slice ya yl yc, .slice za zl zc, .slice ua ul uc] 32 := (g2 _ (fun e => HneA.out e.symm)).trans d1
              have cb3 : Below w.heap.size w v3 := by rw [← Hv3.out]; exact (cb2.setCell (p := ⟨Bx + 1, 0, none⟩) HbB.out _).setCell (p := ⟨Bx + 1, 1, none⟩) HbB.out _
              have g3 : ∀ q, q ≠ Bd → q ≠ Bx + 1 → v3.heap[q]? = v1.heap[q]? := fun q h2 h3 => (g2 q h3).trans (g1 q h2)
              have z3 : v3.heap.size = v1.heap.size := by rw [← z2, ← Hv3.out]; simp [World.setCell]
              refine hK.out _ _ (Hk2.out _ (fun q _ h2 h3 => g3 q h2 h3)) (fun hH => ?_)
              clear hK
              refine wpAnyH_done (by kernel_rfl) ?_ _
              go_wp2_with fail
              go_meet
              exact ⟨ya, yl, yc, za, zl, zc, ua, ul, uc, Hfin.out v3 e1' e2' cb3 z3 g3⟩
            case rest =>
              obtain ⟨ya, yl, yc, za, zl, zc, ua, ul, uc, hbd2, hba2, hDN, hDNo, cb, hsz, hkeep⟩ := hcut
              obtain ⟨w6, rfl⟩ : ∃ w6, w6 = wc := ⟨_, rfl⟩
              clear Hk hDM hoM e0 e1 e2 hba hbd c0
              have HneA : Hid (Bx + 1 ≠ Bd) := by show _ ≠ _; have := HBdx.out; omega
              have hrx := HRx.out
              have hdx := HBdx.out
              replace hR : CellsAt w6 (w.heap.size + 1) #[.slice none 0 0, .slice none 0 0, .slice none 0 0] 32 := (hkeep _ hR.lt (by omega) (by omega)).trans hR
              replace hbn : CellsAt w6 w.heap.size #[.int .i64 n.places, tv] 24 := (hkeep _ hbn.lt (by omega) (by omega)).trans hbn
              replace hbx : CellsAt w6 Bx #[.int .i64 1, .int .i64 kp, .int .i64 op.kind, .int .i64 op.user, .int .i64 op.tran, .int .i64 op.item, .int .i64 op.hand] 47 := (hkeep _ hbx.lt (by omega) (by omega)).trans hbx
              replace hX : w6.ownsRow w.heap.size 40 2 ov k (ansC ((ansL (hallPlay n roles d0 ⟨d0, [], 0⟩ os).2).take k)) := ownsRow_on hX w6 hsz (fun q h1 hq => hkeep q h1 (HXd.out q hq.1) (fun e => by have := HXlt.out q hq.1; omega))
              have HD1 : Hid (DesksAt w6 g cap N (fun j => deskAt n roles d0 h.ws j) cs (fun b => ov.ownBlock = some b)) := (HDb.out.keep hsz (fun q h1 hq => hkeep q h1 (fun e => hq (.inr (.inr e))) (fun e => hq (.inr (.inl e))))).high (fun b hb => .inl (.inl hb))
              have c0 := cb
              have hba := hba2
              clear hkeep HDb cb hba2 hrx hdx
              have a0 : w6.cell? ⟨Bx + 1, 0, none⟩ = some (.int .i64 E) := hba.cell 0
              by_cases hE : E = 0
              · subst hE
                have ST : Hid (hallDo n roles d0 h ⟨1, kp, op⟩ = (⟨DN, h.ws ++ [op], h.sure⟩, ⟨0, I⟩)) := by show _ = _; rw [hall_do2 Hf.out HE.out, HDN.out]; rw [show (deskDo n roles h.desk op).2 = ⟨0, I⟩ from by rw [← HE.out, ← HI.out]]
                have m0 : w6.cell? ⟨Bd, 0, none⟩ = some (.slice ya yl yc) := hbd2.cell 0
                have m1 : w6.cell? ⟨Bd, 1, none⟩ = some (.slice za zl zc) := hbd2.cell 1
                have m2 : w6.cell? ⟨Bd, 2, none⟩ = some (.slice ua ul uc) := hbd2.cell 2
                go_upto_region 20 with fail
                clear a0 m0 m1 m2
                have HL1 : Hid (0 + N ≤ maxLen) := by show _ ≤ _; unfold maxLen; omega
                have HL2 : Hid ((0 + N) * 72 ≤ 140737488355328) := by show _ ≤ _; omega
                have HL3 : Hid (N + 1 ≤ maxLen) := by show _ ≤ _; unfold maxLen; omega
                have HL4 : Hid ((N + 1) * 72 ≤ 140737488355328) := by show _ ≤ _; omega
                have HDN' : Hid (DN = deskAt n roles d0 (h.ws ++ [op]) N) := by
                  show _ = _
                  rw [deskAt_all n roles d0 (by simp [HM.out]; omega), desk_snoc, ← Hinv.out.desk, HDN.out]
                have Hfj : Hid (∀ j, j < N → deskAt n roles d0 (h.ws ++ [op]) j = deskAt n roles d0 h.ws j) := fun j hj => by
                  unfold deskAt
                  rw [List.take_append_of_le_length (by rw [HM.out]; omega)]
                have Hk : Hid (∀ w', Below w6.heap.size w6 w' → w'.cell? ⟨Bd, 0, none⟩ = some (.slice ya yl yc) ∧ w'.cell? ⟨Bd, 1, none⟩ = some (.slice za zl zc) ∧ w'.cell? ⟨Bd, 2, none⟩ = some (.slice ua ul uc)) := fun w' q => ⟨(hbd2.below q).cell 0, (hbd2.below q).cell 1, (hbd2.below q).cell 2⟩
                refine wp_region_held_drew (S := (fun w' => w'.cell? ⟨Bd, 0, none⟩ = some (.slice ya yl yc) ∧ w'.cell? ⟨Bd, 1, none⟩ = some (.slice za zl zc) ∧ w'.cell? ⟨Bd, 2, none⟩ = some (.slice ua ul uc))) (by kernel_rfl) (Hk.out _ (Below.refl _ _).drew) (fun hH => ?_)
                have b : Below w6.heap.size w6 w6.drew := (Below.refl _ _).drew
                obtain ⟨v0, Hv0⟩ : ∃ v0, Hid (w6.drew = v0) := ⟨_, rfl⟩
                rw [Hv0.out] at hH b ⊢
                clear Hv0
                have Hfin : Hid (∀ (wc : World) (B g' cap' : Nat), Below w6.heap.size w6 wc → w6.heap.size ≤ B → wc.ownsRow B 32 3 (.slice (some ⟨g', 0, none⟩) (N + 1) cap') (N + 1) (cs ++ [.slice ya yl yc, .slice za zl zc, .slice ua ul uc]) → DesksAt wc g' cap' (N + 1) (fun j => deskAt n roles d0 (h.ws ++ [op]) j) (cs ++ [.slice ya yl yc, .slice za zl zc, .slice ua ul uc]) (fun b => ov.ownBlock = some b)) :=
                  fun wc B g' cap' q1 q2 q3 => (HD1.out.below q1).push (B := B) q3 (by omega) Hfj.out (by rw [← HDN'.out]; exact hDN.below q1) (fun b hb => ⟨Nat.lt_of_lt_of_le (hX.lt b hb).2 q2, hDNo b hb⟩)
                have Hcs : Hid (∀ (x : World), Below w6.heap.size w6 x → ∀ (j : Nat) (u : Value), cs[j]? = some u → x.cell? ((⟨g, 0, none⟩ : Addr).add j) = some u) := fun x q j u hj => by
                  rw [addr_add, Nat.zero_add]; exact (HD1.out.below q).cells j u hj
                refine wpAnyH_take (i := 1) (v := .slice (some ⟨g, 0, none⟩) N cap) rfl (by kernel_rfl) (by kernel_rfl) (by kernel_rfl) (fun _ _ _ h => h) (.inl ⟨by rfl, fun _ _ => rfl⟩) hH ?_
                simp only [List.getElem_toArray, List.getElem_cons_succ, List.getElem_cons_zero, Act.put, List.setIfInBounds_toArray, List.set_cons_zero, List.set_cons_succ]
                refine wpAnyH_take (i := 3) (v := .agg #[.slice ya yl yc, .slice za zl zc, .slice ua ul uc]) rfl (by kernel_rfl) (by kernel_rfl) (by kernel_rfl) (fun _ _ _ h => h) (.inl ⟨by rfl, fun w' hS' => by obtain ⟨s0, s1, s2⟩ := hS'; go_simp⟩) hH ?_
                simp only [List.getElem_toArray, List.getElem_cons_succ, List.getElem_cons_zero, Act.put, List.setIfInBounds_toArray, List.set_cons_zero, List.set_cons_succ]
                refine wpAnyH_ready (rs := [0, 4]) (by kernel_rfl) (by simp) ?_
                refine (AllReadyH.cons rfl (fun K hK => ?_) (AllReadyH.cons rfl (fun K hK => ?_) AllReadyH.nil))
                · simp only [List.getElem_toArray, List.getElem_cons_succ, List.getElem_cons_zero]
                  rw [if_pos (by rfl)]
                  have bs0 := below_new v0 (.cells #[] 32)
                  have hO := lit_rowD v0
                  have HoB : Hid (w6.heap.size ≤ v0.heap.size) := b.size
                  obtain ⟨Bl0, HBl0⟩ : ∃ B, Hid (v0.heap.size = B) := ⟨_, rfl⟩
                  obtain ⟨v1, Hv1⟩ : ∃ x, Hid (v0.alloc (.cells #[] 32) = x) := ⟨_, rfl⟩
                  rw [Hv1.out] at bs0 hO
                  go_wp2_with fail
                  rw [Hv1.out]
                  replace b := below_then b bs0
                  refine hK.out _ _ (Hk.out _ b) (fun hH => ?_)
                  clear hK
                  clear bs0 Hv1
                  refine wpAnyH_ready (rs := [2, 4]) (by kernel_rfl) (by simp) ?_
                  refine (AllReadyH.cons rfl (fun K hK => ?_) (AllReadyH.cons rfl (fun K hK => ?_) AllReadyH.nil))
                  · simp only [List.getElem_toArray, List.getElem_cons_succ, List.getElem_cons_zero]
                    refine wpr_append_cells elem_desk (by rfl) _ _ rfl v0.heap.size v0 v1 (.slice (some ⟨v0.heap.size, 0, none⟩) 0 0) 0 N cap ⟨g, 0, none⟩ [] cs hO rfl rfl HD1.out.len (Hcs.out _ b) HD1.out.one HL1.out HL2.out ?_
                    intro nv v2 hO2 hg
                    rw [Nat.zero_add, List.nil_append] at hO2
                    obtain ⟨na, nc, rfl⟩ := hO2.slice
                    have b8 := b
                    replace b : Below w6.heap.size w6 v2 := b.grown hg b.size (fun q e => by have e : some v0.heap.size = some q := e; injection e with e; rw [← e]; exact HoB.out)
                    refine hK.out _ _ (Hk.out _ b) (fun hH => ?_)
                    clear hK
                    clear hO hg b8
                    have hO := hO2
                    clear hO2
                    have bs2 := below_new v2 (.cells #[.slice ya yl yc, .slice za zl zc, .slice ua ul uc] 32)
                    have hL := cellsAt_new v2 #[.slice ya yl yc, .slice za zl zc, .slice ua ul uc] 32
                    obtain ⟨Bl, HBl⟩ : ∃ B, Hid (v2.heap.size = B) := ⟨_, rfl⟩
                    obtain ⟨v3, Hv3⟩ : ∃ x, Hid (v2.alloc (.cells #[.slice ya yl yc, .slice za zl zc, .slice ua ul uc] 32) = x) := ⟨_, rfl⟩
                    rw [Hv3.out] at bs2 hL
                    rw [HBl.out] at hL
                    refine wpAnyH_ready (rs := [4]) (by kernel_rfl) (by simp) ?_
                    refine AllReadyH.cons rfl (fun K hK => ?_) AllReadyH.nil
                    simp only [List.getElem_toArray, List.getElem_cons_succ, List.getElem_cons_zero]
                    rw [if_pos (by rfl)]
                    go_wp2_with fail
                    rw [Hv3.out, HBl.out]
                    replace hO := hO.trans bs2
                    replace b := below_then b bs2
                    refine hK.out _ _ (Hk.out _ b) (fun hH => ?_)
                    clear hK
                    clear bs2 Hv3
                    refine wpAnyH_ready (rs := [5]) (by kernel_rfl) (by simp) ?_
                    refine AllReadyH.cons rfl (fun K hK => ?_) AllReadyH.nil
                    simp only [List.getElem_toArray, List.getElem_cons_succ, List.getElem_cons_zero]
                    refine wpr_append_cells elem_desk (by rfl) _ _ rfl v0.heap.size v0 v3 (.slice na N nc) N 1 1 ⟨Bl, 0, none⟩ cs [.slice ya yl yc, .slice za zl zc, .slice ua ul uc] hO rfl rfl rfl (fun j u hj => by rw [addr_add, Nat.zero_add, hL.cell]; simpa using hj) (fun u hu => by simp only [List.mem_cons, List.not_mem_nil, or_false] at hu; rcases hu with rfl | rfl | rfl <;> rfl) HL3.out HL4.out ?_
                    intro nv2 v4 hO2 hg
                    obtain ⟨nb, nd, rfl⟩ := hO2.slice
                    have HcB : Hid (∀ q, (Value.slice na N nc).ownBlock = some q → w6.heap.size ≤ q) := fun q e => Nat.le_trans HoB.out (hO.1.lt q e).1
                    have b8 := b
                    replace b : Below w6.heap.size w6 v4 := b.grown hg b.size (fun q e => HcB.out q e)
                    refine hK.out _ _ (Hk.out _ b) (fun hH => ?_)
                    clear hK
                    obtain ⟨gN, rfl, _, _⟩ := row_form hO2.1 (by omega)
                    have R := Hfin.out _ v0.heap.size gN nd b HoB.out hO2.1
                    clear hO hg b8 hO2 hL
                    refine wpAnyH_take (i := 6) (v := .slice (some ⟨gN, 0, none⟩) (N + 1) nd) rfl (by kernel_rfl) (by kernel_rfl) (by kernel_rfl) (fun _ _ _ h => h) (.inl ⟨by rfl, fun _ _ => rfl⟩) hH ?_
                    simp only [List.getElem_toArray, List.getElem_cons_succ, List.getElem_cons_zero, Act.put, List.setIfInBounds_toArray, List.set_cons_zero, List.set_cons_succ]
                    refine wpAnyH_done (by kernel_rfl) ?_ _
                    have HD2 : Hid (DesksAt v4 gN nd (N + 1) (fun j => deskAt n roles d0 (h.ws ++ [op]) j) (cs ++ [.slice ya yl yc, .slice za zl zc, .slice ua ul uc]) (fun b => ov.ownBlock = some b)) := R
                    replace c0 := below_then c0 b
                    replace hR := hR.below b
                    replace hbn := hbn.below b
                    replace hX := own_trans hX b
                    replace hbx := hbx.below b
                    replace hba := hba.below b
                    clear b HD1 hDN hDNo hbd2 R Hfin Hcs Hk
                    have HN2 : Hid ((h.ws ++ [op]).length + 1 = N + 1) := by show _ = _; simp [HM.out]; omega
                    rw [ST.out] at Hnx Han
                    have hX5' := ansTake HkA.out Han.out
                    have b0 : v4.cell? ⟨Bx + 1, 0, none⟩ = some (.int .i64 0) := hba.cell 0
                    have b1 : v4.cell? ⟨Bx + 1, 1, none⟩ = some (.int .i64 I) := hba.cell 1
                    have HL1 : Hid (k + 1 ≤ maxLen) := by show _ ≤ _; unfold maxLen; omega
                    have HL2 : Hid ((k + 1) * 16 ≤ 140737488355328) := by show _ ≤ _; omega
                    have HX1 : ∀ u ∈ (#[.int .i64 0, .int .i64 I] : Array Value).toList, u.oneCell' = true := (fun u hu => by simp at hu; rcases hu with rfl | rfl <;> rfl)
                    have Hn1 : Hid (ov.ownBlock ≠ some w.heap.size) := row_block hX hbn (by decide)
                    have Hn2 : Hid (ov.ownBlock ≠ some (w.heap.size + 1)) := row_block hX hR (by decide)
                    go_wp2_with (at_builtin; refine wp_append_one elem_dans rfl _ _ rfl w.heap.size v4 ov k _ #[.int .i64 0, .int .i64 I] hX c0.size rfl HX1 rfl rfl HL1.out HL2.out ?_; intro v' w8 hX6 hs6 hk6 hB6 hat6)
                    rw [show ansC ((ansL (hallPlay n roles d0 ⟨d0, [], 0⟩ os).2).take k) ++ (#[.int .i64 0, .int .i64 I] : Array Value).toList = ansC ((ansL (hallPlay n roles d0 ⟨d0, [], 0⟩ os).2).take (k + 1)) from hX5'.symm] at hX6
                    have c6 := hB6 _ c0
                    have hbn6 : CellsAt w8 w.heap.size #[.int .i64 n.places, tv] 24 := (hk6 _ hbn.lt Hn1.out).trans hbn
                    have hR6 : CellsAt w8 (w.heap.size + 1) #[.slice none 0 0, .slice none 0 0, .slice none 0 0] 32 := (hk6 _ hR.lt Hn2.out).trans hR
                    have HD6 : Hid (DesksAt w8 gN nd (N + 1) (fun j => deskAt n roles d0 (hallAt n roles d0 ⟨d0, [], 0⟩ os (k + 1)).ws j) (cs ++ [.slice ya yl yc, .slice za zl zc, .slice ua ul uc]) (fun b => v'.ownBlock = some b)) := by
                      have hq : DesksAt v4 gN nd (N + 1) (fun j => deskAt n roles d0 (hallAt n roles d0 ⟨d0, [], 0⟩ os (k + 1)).ws j) (cs ++ [.slice ya yl yc, .slice za zl zc, .slice ua ul uc]) (fun b => ov.ownBlock = some b ∨ v4.heap.size ≤ b) := by rw [Hnx.out]; exact HD2.out.high (fun b hb => hb)
                      have h3 : DesksAt w8 gN nd (N + 1) (fun j => deskAt n roles d0 (hallAt n roles d0 ⟨d0, [], 0⟩ os (k + 1)).ws j) (cs ++ [.slice ya yl yc, .slice za zl zc, .slice ua ul uc]) (fun b => ov.ownBlock = some b ∨ v4.heap.size ≤ b) := hq.keep hs6 (fun q hq1 hb => hk6 q hq1 (fun e => hb (.inl e)))
                      refine h3.high (fun b hb => .inl ?_)
                      rcases hat6 with q | q
                      · exact .inl (by rw [← q]; exact hb)
                      · rw [q] at hb; injection hb with hb; exact .inr (by omega)
                    have HN6 : Hid ((hallAt n roles d0 ⟨d0, [], 0⟩ os (k + 1)).ws.length + 1 = (N + 1)) := by show _ = _; rw [Hnx.out]; exact HN2.out
                    have HS6 : Hid ((hallAt n roles d0 ⟨d0, [], 0⟩ os (k + 1)).sure = ((⟨DN, h.ws ++ [op], h.sure⟩ : HallL)).sure) := by show _ = _; rw [Hnx.out]
                    clear hX hbn hR HD2 c0 hba b0 b1 hX5' hbx
                    go_wp2
                    go_roundg (gk - 1)
                    case measure => omega
                    case rel => exact ⟨k + 1, gN, nd, (N + 1), _, _, by omega, by go_num, rfl, by rw [HS6.out]; show _ = Value.int _ ((h.sure : Nat) : Int); rw [HSU.out], rfl, c6, hbn6, hR6, HD6, HN6, hX6⟩
                  · simp only [List.getElem_toArray, List.getElem_cons_succ, List.getElem_cons_zero]
                    rw [if_pos (by rfl)]
                    have bs1 := below_new v1 (.cells #[.slice ya yl yc, .slice za zl zc, .slice ua ul uc] 32)
                    have hL := cellsAt_new v1 #[.slice ya yl yc, .slice za zl zc, .slice ua ul uc] 32
                    obtain ⟨Bl, HBl⟩ : ∃ B, Hid (v1.heap.size = B) := ⟨_, rfl⟩
                    obtain ⟨v2, Hv2⟩ : ∃ x, Hid (v1.alloc (.cells #[.slice ya yl yc, .slice za zl zc, .slice ua ul uc] 32) = x) := ⟨_, rfl⟩
                    rw [Hv2.out] at bs1 hL
                    rw [HBl.out] at hL
                    go_wp2_with fail
                    rw [Hv2.out, HBl.out]
                    have HneL : Hid (∀ q, (Value.slice (some ⟨v0.heap.size, 0, none⟩) 0 0).ownBlock = some q → q ≠ Bl) := fun q e => by have := (hO.1.lt q e).2; rw [← HBl.out]; omega
                    replace hO := hO.trans bs1
                    replace b := below_then b bs1
                    refine hK.out _ _ (Hk.out _ b) (fun hH => ?_)
                    clear hK
                    clear bs1 Hv2
                    refine wpAnyH_ready (rs := [2]) (by kernel_rfl) (by simp) ?_
                    refine AllReadyH.cons rfl (fun K hK => ?_) AllReadyH.nil
                    simp only [List.getElem_toArray, List.getElem_cons_succ, List.getElem_cons_zero]
                    refine wpr_append_cells elem_desk (by rfl) _ _ rfl v0.heap.size v0 v2 (.slice (some ⟨v0.heap.size, 0, none⟩) 0 0) 0 N cap ⟨g, 0, none⟩ [] cs hO rfl rfl HD1.out.len (Hcs.out _ b) HD1.out.one HL1.out HL2.out ?_
                    intro nv v3 hO2 hg
                    rw [Nat.zero_add, List.nil_append] at hO2
                    obtain ⟨na, nc, rfl⟩ := hO2.slice
                    have b8 := b
                    replace b : Below w6.heap.size w6 v3 := b.grown hg b.size (fun q e => by have e : some v0.heap.size = some q := e; injection e with e; rw [← e]; exact HoB.out)
                    replace hL : CellsAt v3 Bl #[.slice ya yl yc, .slice za zl zc, .slice ua ul uc] 32 := (hg.block Bl hL.lt (fun e => HneL.out _ e.symm rfl)).trans hL
                    refine hK.out _ _ (Hk.out _ b) (fun hH => ?_)
                    clear hK
                    clear hO hg b8
                    have hO := hO2
                    clear hO2
                    refine wpAnyH_ready (rs := [5]) (by kernel_rfl) (by simp) ?_
                    refine AllReadyH.cons rfl (fun K hK => ?_) AllReadyH.nil
                    simp only [List.getElem_toArray, List.getElem_cons_succ, List.getElem_cons_zero]
                    refine wpr_append_cells elem_desk (by rfl) _ _ rfl v0.heap.size v0 v3 (.slice na N nc) N 1 1 ⟨Bl, 0, none⟩ cs [.slice ya yl yc, .slice za zl zc, .slice ua ul uc] hO rfl rfl rfl (fun j u hj => by rw [addr_add, Nat.zero_add, hL.cell]; simpa using hj) (fun u hu => by simp only [List.mem_cons, List.not_mem_nil, or_false] at hu; rcases hu with rfl | rfl | rfl <;> rfl) HL3.out HL4.out ?_
                    intro nv2 v4 hO2 hg
                    obtain ⟨nb, nd, rfl⟩ := hO2.slice
                    have HcB : Hid (∀ q, (Value.slice na N nc).ownBlock = some q → w6.heap.size ≤ q) := fun q e => Nat.le_trans HoB.out (hO.1.lt q e).1
                    have b8 := b
                    replace b : Below w6.heap.size w6 v4 := b.grown hg b.size (fun q e => HcB.out q e)
                    refine hK.out _ _ (Hk.out _ b) (fun hH => ?_)
                    clear hK
                    obtain ⟨gN, rfl, _, _⟩ := row_form hO2.1 (by omega)
                    have R := Hfin.out _ v0.heap.size gN nd b HoB.out hO2.1
                    clear hO hg b8 hO2 hL
                    refine wpAnyH_take (i := 6) (v := .slice (some ⟨gN, 0, none⟩) (N + 1) nd) rfl (by kernel_rfl) (by kernel_rfl) (by kernel_rfl) (fun _ _ _ h => h) (.inl ⟨by rfl, fun _ _ => rfl⟩) hH ?_
                    simp only [List.getElem_toArray, List.getElem_cons_succ, List.getElem_cons_zero, Act.put, List.setIfInBounds_toArray, List.set_cons_zero, List.set_cons_succ]
                    refine wpAnyH_done (by kernel_rfl) ?_ _
                    have HD2 : Hid (DesksAt v4 gN nd (N + 1) (fun j => deskAt n roles d0 (h.ws ++ [op]) j) (cs ++ [.slice ya yl yc, .slice za zl zc, .slice ua ul uc]) (fun b => ov.ownBlock = some b)) := R
                    replace c0 := below_then c0 b
                    replace hR := hR.below b
                    replace hbn := hbn.below b
                    replace hX := own_trans hX b
                    replace hbx := hbx.below b
                    replace hba := hba.below b
                    clear b HD1 hDN hDNo hbd2 R Hfin Hcs Hk
                    have HN2 : Hid ((h.ws ++ [op]).length + 1 = N + 1) := by show _ = _; simp [HM.out]; omega
                    rw [ST.out] at Hnx Han
                    have hX5' := ansTake HkA.out Han.out
                    have b0 : v4.cell? ⟨Bx + 1, 0, none⟩ = some (.int .i64 0) := hba.cell 0
                    have b1 : v4.cell? ⟨Bx + 1, 1, none⟩ = some (.int .i64 I) := hba.cell 1
                    have HL1 : Hid (k + 1 ≤ maxLen) := by show _ ≤ _; unfold maxLen; omega
                    have HL2 : Hid ((k + 1) * 16 ≤ 140737488355328) := by show _ ≤ _; omega
                    have HX1 : ∀ u ∈ (#[.int .i64 0, .int .i64 I] : Array Value).toList, u.oneCell' = true := (fun u hu => by simp at hu; rcases hu with rfl | rfl <;> rfl)
                    have Hn1 : Hid (ov.ownBlock ≠ some w.heap.size) := row_block hX hbn (by decide)
                    have Hn2 : Hid (ov.ownBlock ≠ some (w.heap.size + 1)) := row_block hX hR (by decide)
                    go_wp2_with (at_builtin; refine wp_append_one elem_dans rfl _ _ rfl w.heap.size v4 ov k _ #[.int .i64 0, .int .i64 I] hX c0.size rfl HX1 rfl rfl HL1.out HL2.out ?_; intro v' w8 hX6 hs6 hk6 hB6 hat6)
                    rw [show ansC ((ansL (hallPlay n roles d0 ⟨d0, [], 0⟩ os).2).take k) ++ (#[.int .i64 0, .int .i64 I] : Array Value).toList = ansC ((ansL (hallPlay n roles d0 ⟨d0, [], 0⟩ os).2).take (k + 1)) from hX5'.symm] at hX6
                    have c6 := hB6 _ c0
                    have hbn6 : CellsAt w8 w.heap.size #[.int .i64 n.places, tv] 24 := (hk6 _ hbn.lt Hn1.out).trans hbn
                    have hR6 : CellsAt w8 (w.heap.size + 1) #[.slice none 0 0, .slice none 0 0, .slice none 0 0] 32 := (hk6 _ hR.lt Hn2.out).trans hR
                    have HD6 : Hid (DesksAt w8 gN nd (N + 1) (fun j => deskAt n roles d0 (hallAt n roles d0 ⟨d0, [], 0⟩ os (k + 1)).ws j) (cs ++ [.slice ya yl yc, .slice za zl zc, .slice ua ul uc]) (fun b => v'.ownBlock = some b)) := by
                      have hq : DesksAt v4 gN nd (N + 1) (fun j => deskAt n roles d0 (hallAt n roles d0 ⟨d0, [], 0⟩ os (k + 1)).ws j) (cs ++ [.slice ya yl yc, .slice za zl zc, .slice ua ul uc]) (fun b => ov.ownBlock = some b ∨ v4.heap.size ≤ b) := by rw [Hnx.out]; exact HD2.out.high (fun b hb => hb)
                      have h3 : DesksAt w8 gN nd (N + 1) (fun j => deskAt n roles d0 (hallAt n roles d0 ⟨d0, [], 0⟩ os (k + 1)).ws j) (cs ++ [.slice ya yl yc, .slice za zl zc, .slice ua ul uc]) (fun b => ov.ownBlock = some b ∨ v4.heap.size ≤ b) := hq.keep hs6 (fun q hq1 hb => hk6 q hq1 (fun e => hb (.inl e)))
                      refine h3.high (fun b hb => .inl ?_)
                      rcases hat6 with q | q
                      · exact .inl (by rw [← q]; exact hb)
                      · rw [q] at hb; injection hb with hb; exact .inr (by omega)
                    have HN6 : Hid ((hallAt n roles d0 ⟨d0, [], 0⟩ os (k + 1)).ws.length + 1 = (N + 1)) := by show _ = _; rw [Hnx.out]; exact HN2.out
                    have HS6 : Hid ((hallAt n roles d0 ⟨d0, [], 0⟩ os (k + 1)).sure = ((⟨DN, h.ws ++ [op], h.sure⟩ : HallL)).sure) := by show _ = _; rw [Hnx.out]
                    clear hX hbn hR HD2 c0 hba b0 b1 hX5' hbx
                    go_wp2
                    go_roundg (gk - 1)
                    case measure => omega
                    case rel => exact ⟨k + 1, gN, nd, (N + 1), _, _, by omega, by go_num, rfl, by rw [HS6.out]; show _ = Value.int _ ((h.sure : Nat) : Int); rw [HSU.out], rfl, c6, hbn6, hR6, HD6, HN6, hX6⟩
                · simp only [List.getElem_toArray, List.getElem_cons_succ, List.getElem_cons_zero]
                  rw [if_pos (by rfl)]
                  have bs0 := below_new v0 (.cells #[.slice ya yl yc, .slice za zl zc, .slice ua ul uc] 32)
                  have hL := cellsAt_new v0 #[.slice ya yl yc, .slice za zl zc, .slice ua ul uc] 32
                  obtain ⟨Bl, HBl⟩ : ∃ B, Hid (v0.heap.size = B) := ⟨_, rfl⟩
                  obtain ⟨v1, Hv1⟩ : ∃ x, Hid (v0.alloc (.cells #[.slice ya yl yc, .slice za zl zc, .slice ua ul uc] 32) = x) := ⟨_, rfl⟩
                  rw [Hv1.out] at bs0 hL
                  rw [HBl.out] at hL
                  go_wp2_with fail
                  rw [Hv1.out, HBl.out]
                  replace b := below_then b bs0
                  refine hK.out _ _ (Hk.out _ b) (fun hH => ?_)
                  clear hK
                  clear bs0 Hv1
                  have bs1 := below_new v1 (.cells #[] 32)
                  have hO := lit_rowD v1
                  have HoB : Hid (w6.heap.size ≤ v1.heap.size) := b.size
                  obtain ⟨Bl0, HBl0⟩ : ∃ B, Hid (v1.heap.size = B) := ⟨_, rfl⟩
                  obtain ⟨v2, Hv2⟩ : ∃ x, Hid (v1.alloc (.cells #[] 32) = x) := ⟨_, rfl⟩
                  rw [Hv2.out] at bs1 hO
                  refine wpAnyH_ready (rs := [0]) (by kernel_rfl) (by simp) ?_
                  refine AllReadyH.cons rfl (fun K hK => ?_) AllReadyH.nil
                  simp only [List.getElem_toArray, List.getElem_cons_succ, List.getElem_cons_zero]
                  rw [if_pos (by rfl)]
                  go_wp2_with fail
                  have HneL : Hid (∀ q, (Value.slice (some ⟨v1.heap.size, 0, none⟩) 0 0).ownBlock = some q → q ≠ Bl) := fun q e => by have e : some v1.heap.size = some q := e; injection e with e; have := hL.lt; omega
                  rw [Hv2.out]
                  replace b := below_then b bs1
                  replace hL := hL.below bs1
                  refine hK.out _ _ (Hk.out _ b) (fun hH => ?_)
                  clear hK
                  clear bs1 Hv2
                  refine wpAnyH_ready (rs := [2]) (by kernel_rfl) (by simp) ?_
                  refine AllReadyH.cons rfl (fun K hK => ?_) AllReadyH.nil
                  simp only [List.getElem_toArray, List.getElem_cons_succ, List.getElem_cons_zero]
                  refine wpr_append_cells elem_desk (by rfl) _ _ rfl v1.heap.size v1 v2 (.slice (some ⟨v1.heap.size, 0, none⟩) 0 0) 0 N cap ⟨g, 0, none⟩ [] cs hO rfl rfl HD1.out.len (Hcs.out _ b) HD1.out.one HL1.out HL2.out ?_
                  intro nv v3 hO2 hg
                  rw [Nat.zero_add, List.nil_append] at hO2
                  obtain ⟨na, nc, rfl⟩ := hO2.slice
                  have b8 := b
                  replace b : Below w6.heap.size w6 v3 := b.grown hg b.size (fun q e => by have e : some v1.heap.size = some q := e; injection e with e; rw [← e]; exact HoB.out)
                  replace hL : CellsAt v3 Bl #[.slice ya yl yc, .slice za zl zc, .slice ua ul uc] 32 := (hg.block Bl hL.lt (fun e => HneL.out _ e.symm rfl)).trans hL
                  refine hK.out _ _ (Hk.out _ b) (fun hH => ?_)
                  clear hK
                  clear hO hg b8
                  have hO := hO2
                  clear hO2
                  refine wpAnyH_ready (rs := [5]) (by kernel_rfl) (by simp) ?_
                  refine AllReadyH.cons rfl (fun K hK => ?_) AllReadyH.nil
                  simp only [List.getElem_toArray, List.getElem_cons_succ, List.getElem_cons_zero]
                  refine wpr_append_cells elem_desk (by rfl) _ _ rfl v1.heap.size v1 v3 (.slice na N nc) N 1 1 ⟨Bl, 0, none⟩ cs [.slice ya yl yc, .slice za zl zc, .slice ua ul uc] hO rfl rfl rfl (fun j u hj => by rw [addr_add, Nat.zero_add, hL.cell]; simpa using hj) (fun u hu => by simp only [List.mem_cons, List.not_mem_nil, or_false] at hu; rcases hu with rfl | rfl | rfl <;> rfl) HL3.out HL4.out ?_
                  intro nv2 v4 hO2 hg
                  obtain ⟨nb, nd, rfl⟩ := hO2.slice
                  have HcB : Hid (∀ q, (Value.slice na N nc).ownBlock = some q → w6.heap.size ≤ q) := fun q e => Nat.le_trans HoB.out (hO.1.lt q e).1
                  have b8 := b
                  replace b : Below w6.heap.size w6 v4 := b.grown hg b.size (fun q e => HcB.out q e)
                  refine hK.out _ _ (Hk.out _ b) (fun hH => ?_)
                  clear hK
                  obtain ⟨gN, rfl, _, _⟩ := row_form hO2.1 (by omega)
                  have R := Hfin.out _ v1.heap.size gN nd b HoB.out hO2.1
                  clear hO hg b8 hO2 hL
                  refine wpAnyH_take (i := 6) (v := .slice (some ⟨gN, 0, none⟩) (N + 1) nd) rfl (by kernel_rfl) (by kernel_rfl) (by kernel_rfl) (fun _ _ _ h => h) (.inl ⟨by rfl, fun _ _ => rfl⟩) hH ?_
                  simp only [List.getElem_toArray, List.getElem_cons_succ, List.getElem_cons_zero, Act.put, List.setIfInBounds_toArray, List.set_cons_zero, List.set_cons_succ]
                  refine wpAnyH_done (by kernel_rfl) ?_ _
                  have HD2 : Hid (DesksAt v4 gN nd (N + 1) (fun j => deskAt n roles d0 (h.ws ++ [op]) j) (cs ++ [.slice ya yl yc, .slice za zl zc, .slice ua ul uc]) (fun b => ov.ownBlock = some b)) := R
                  replace c0 := below_then c0 b
                  replace hR := hR.below b
                  replace hbn := hbn.below b
                  replace hX := own_trans hX b
                  replace hbx := hbx.below b
                  replace hba := hba.below b
                  clear b HD1 hDN hDNo hbd2 R Hfin Hcs Hk
                  have HN2 : Hid ((h.ws ++ [op]).length + 1 = N + 1) := by show _ = _; simp [HM.out]; omega
                  rw [ST.out] at Hnx Han
                  have hX5' := ansTake HkA.out Han.out
                  have b0 : v4.cell? ⟨Bx + 1, 0, none⟩ = some (.int .i64 0) := hba.cell 0
                  have b1 : v4.cell? ⟨Bx + 1, 1, none⟩ = some (.int .i64 I) := hba.cell 1
                  have HL1 : Hid (k + 1 ≤ maxLen) := by show _ ≤ _; unfold maxLen; omega
                  have HL2 : Hid ((k + 1) * 16 ≤ 140737488355328) := by show _ ≤ _; omega
                  have HX1 : ∀ u ∈ (#[.int .i64 0, .int .i64 I] : Array Value).toList, u.oneCell' = true := (fun u hu => by simp at hu; rcases hu with rfl | rfl <;> rfl)
                  have Hn1 : Hid (ov.ownBlock ≠ some w.heap.size) := row_block hX hbn (by decide)
                  have Hn2 : Hid (ov.ownBlock ≠ some (w.heap.size + 1)) := row_block hX hR (by decide)
                  go_wp2_with (at_builtin; refine wp_append_one elem_dans rfl _ _ rfl w.heap.size v4 ov k _ #[.int .i64 0, .int .i64 I] hX c0.size rfl HX1 rfl rfl HL1.out HL2.out ?_; intro v' w8 hX6 hs6 hk6 hB6 hat6)
                  rw [show ansC ((ansL (hallPlay n roles d0 ⟨d0, [], 0⟩ os).2).take k) ++ (#[.int .i64 0, .int .i64 I] : Array Value).toList = ansC ((ansL (hallPlay n roles d0 ⟨d0, [], 0⟩ os).2).take (k + 1)) from hX5'.symm] at hX6
                  have c6 := hB6 _ c0
                  have hbn6 : CellsAt w8 w.heap.size #[.int .i64 n.places, tv] 24 := (hk6 _ hbn.lt Hn1.out).trans hbn
                  have hR6 : CellsAt w8 (w.heap.size + 1) #[.slice none 0 0, .slice none 0 0, .slice none 0 0] 32 := (hk6 _ hR.lt Hn2.out).trans hR
                  have HD6 : Hid (DesksAt w8 gN nd (N + 1) (fun j => deskAt n roles d0 (hallAt n roles d0 ⟨d0, [], 0⟩ os (k + 1)).ws j) (cs ++ [.slice ya yl yc, .slice za zl zc, .slice ua ul uc]) (fun b => v'.ownBlock = some b)) := by
                    have hq : DesksAt v4 gN nd (N + 1) (fun j => deskAt n roles d0 (hallAt n roles d0 ⟨d0, [], 0⟩ os (k + 1)).ws j) (cs ++ [.slice ya yl yc, .slice za zl zc, .slice ua ul uc]) (fun b => ov.ownBlock = some b ∨ v4.heap.size ≤ b) := by rw [Hnx.out]; exact HD2.out.high (fun b hb => hb)
                    have h3 : DesksAt w8 gN nd (N + 1) (fun j => deskAt n roles d0 (hallAt n roles d0 ⟨d0, [], 0⟩ os (k + 1)).ws j) (cs ++ [.slice ya yl yc, .slice za zl zc, .slice ua ul uc]) (fun b => ov.ownBlock = some b ∨ v4.heap.size ≤ b) := hq.keep hs6 (fun q hq1 hb => hk6 q hq1 (fun e => hb (.inl e)))
                    refine h3.high (fun b hb => .inl ?_)
                    rcases hat6 with q | q
                    · exact .inl (by rw [← q]; exact hb)
                    · rw [q] at hb; injection hb with hb; exact .inr (by omega)
                  have HN6 : Hid ((hallAt n roles d0 ⟨d0, [], 0⟩ os (k + 1)).ws.length + 1 = (N + 1)) := by show _ = _; rw [Hnx.out]; exact HN2.out
                  have HS6 : Hid ((hallAt n roles d0 ⟨d0, [], 0⟩ os (k + 1)).sure = ((⟨DN, h.ws ++ [op], h.sure⟩ : HallL)).sure) := by show _ = _; rw [Hnx.out]
                  clear hX hbn hR HD2 c0 hba b0 b1 hX5' hbx
                  go_wp2
                  go_roundg (gk - 1)
                  case measure => omega
                  case rel => exact ⟨k + 1, gN, nd, (N + 1), _, _, by omega, by go_num, rfl, by rw [HS6.out]; show _ = Value.int _ ((h.sure : Nat) : Int); rw [HSU.out], rfl, c6, hbn6, hR6, HD6, HN6, hX6⟩
              · have hE' : (E == 0) = false := by simpa using hE
                have ST : Hid (hallDo n roles d0 h ⟨1, kp, op⟩ = (h, ⟨E, I⟩)) := by show _ = _; rw [hall_do3 Hf.out (by rw [HE.out]; exact hE)]; rw [show (deskDo n roles h.desk op).2 = ⟨E, I⟩ from by rw [← HE.out, ← HI.out]]
                have HD2 := HD1
                have HN2 : Hid (h.ws.length + 1 = N) := HN
                clear HD1 hDN hDNo hbd2
                go_upto_region 27 with fail
                clear a0
                rw [ST.out] at Hnx Han
                have hX5' := ansTake HkA.out Han.out
                have b0 : w6.cell? ⟨Bx + 1, 0, none⟩ = some (.int .i64 E) := hba.cell 0
                have b1 : w6.cell? ⟨Bx + 1, 1, none⟩ = some (.int .i64 I) := hba.cell 1
                have HL1 : Hid (k + 1 ≤ maxLen) := by show _ ≤ _; unfold maxLen; omega
                have HL2 : Hid ((k + 1) * 16 ≤ 140737488355328) := by show _ ≤ _; omega
                have HX1 : ∀ u ∈ (#[.int .i64 E, .int .i64 I] : Array Value).toList, u.oneCell' = true := (fun u hu => by simp at hu; rcases hu with rfl | rfl <;> rfl)
                have Hn1 : Hid (ov.ownBlock ≠ some w.heap.size) := row_block hX hbn (by decide)
                have Hn2 : Hid (ov.ownBlock ≠ some (w.heap.size + 1)) := row_block hX hR (by decide)
                go_wp2_with (at_builtin; refine wp_append_one elem_dans rfl _ _ rfl w.heap.size w6 ov k _ #[.int .i64 E, .int .i64 I] hX c0.size rfl HX1 rfl rfl HL1.out HL2.out ?_; intro v' w8 hX6 hs6 hk6 hB6 hat6)
                rw [show ansC ((ansL (hallPlay n roles d0 ⟨d0, [], 0⟩ os).2).take k) ++ (#[.int .i64 E, .int .i64 I] : Array Value).toList = ansC ((ansL (hallPlay n roles d0 ⟨d0, [], 0⟩ os).2).take (k + 1)) from hX5'.symm] at hX6
                have c6 := hB6 _ c0
                have hbn6 : CellsAt w8 w.heap.size #[.int .i64 n.places, tv] 24 := (hk6 _ hbn.lt Hn1.out).trans hbn
                have hR6 : CellsAt w8 (w.heap.size + 1) #[.slice none 0 0, .slice none 0 0, .slice none 0 0] 32 := (hk6 _ hR.lt Hn2.out).trans hR
                have HD6 : Hid (DesksAt w8 g cap N (fun j => deskAt n roles d0 (hallAt n roles d0 ⟨d0, [], 0⟩ os (k + 1)).ws j) cs (fun b => v'.ownBlock = some b)) := by
                  have hq : DesksAt w6 g cap N (fun j => deskAt n roles d0 (hallAt n roles d0 ⟨d0, [], 0⟩ os (k + 1)).ws j) cs (fun b => ov.ownBlock = some b ∨ w6.heap.size ≤ b) := by rw [Hnx.out]; exact HD2.out.high (fun b hb => hb)
                  have h3 : DesksAt w8 g cap N (fun j => deskAt n roles d0 (hallAt n roles d0 ⟨d0, [], 0⟩ os (k + 1)).ws j) cs (fun b => ov.ownBlock = some b ∨ w6.heap.size ≤ b) := hq.keep hs6 (fun q hq1 hb => hk6 q hq1 (fun e => hb (.inl e)))
                  refine h3.high (fun b hb => .inl ?_)
                  rcases hat6 with q | q
                  · exact .inl (by rw [← q]; exact hb)
                  · rw [q] at hb; injection hb with hb; exact .inr (by omega)
                have HN6 : Hid ((hallAt n roles d0 ⟨d0, [], 0⟩ os (k + 1)).ws.length + 1 = N) := by show _ = _; rw [Hnx.out]; exact HN2.out
                have HS6 : Hid ((hallAt n roles d0 ⟨d0, [], 0⟩ os (k + 1)).sure = (h).sure) := by show _ = _; rw [Hnx.out]
                clear hX hbn hR HD2 c0 hba b0 b1 hX5' hbx
                go_wp2
                go_roundg (gk - 1)
                case measure => omega
                case rel => exact ⟨k + 1, g, cap, N, _, _, by omega, by go_num, rfl, by rw [HS6.out]; rw [HSU.out], rfl, c6, hbn6, hR6, HD6, HN6, hX6⟩
        · have k1 : (kd == 1) = false := by simpa using h1
          by_cases h2 : kd = 2
          · subst h2
            have ST : Hid (hallDo n roles d0 h ⟨2, kp, op⟩ = (⟨h.desk, h.ws, h.ws.length⟩, ⟨0, 0⟩)) := rfl
            have HD2 : Hid (DesksAt wp g cap N (fun j => deskAt n roles d0 h.ws j) cs (fun b => ov.ownBlock = some b)) := HDa.out.high (fun b hb => .inl (.inl hb))
            have HN2 : Hid (h.ws.length + 1 = N) := HN
            go_upto_region 27 with fail
            clear o0 o1 o2 o3 o4 o5 o6 a0 a1 f0 f1 HDa
            rw [ST.out] at Hnx Han
            have hX5' := ansTake HkA.out Han.out
            have b0 : wp.cell? ⟨Bx + 1, 0, none⟩ = some (.int .i64 0) := hba.cell 0
            have b1 : wp.cell? ⟨Bx + 1, 1, none⟩ = some (.int .i64 0) := hba.cell 1
            have HL1 : Hid (k + 1 ≤ maxLen) := by show _ ≤ _; unfold maxLen; omega
            have HL2 : Hid ((k + 1) * 16 ≤ 140737488355328) := by show _ ≤ _; omega
            have HX1 : ∀ u ∈ (#[.int .i64 0, .int .i64 0] : Array Value).toList, u.oneCell' = true := (fun u hu => by simp at hu; rcases hu with rfl | rfl <;> rfl)
            have Hn1 : Hid (ov.ownBlock ≠ some w.heap.size) := row_block hX hbn (by decide)
            have Hn2 : Hid (ov.ownBlock ≠ some (w.heap.size + 1)) := row_block hX hR (by decide)
            go_wp2_with (at_builtin; refine wp_append_one elem_dans rfl _ _ rfl w.heap.size wp ov k _ #[.int .i64 0, .int .i64 0] hX c0.size rfl HX1 rfl rfl HL1.out HL2.out ?_; intro v' w8 hX6 hs6 hk6 hB6 hat6)
            rw [show ansC ((ansL (hallPlay n roles d0 ⟨d0, [], 0⟩ os).2).take k) ++ (#[.int .i64 0, .int .i64 0] : Array Value).toList = ansC ((ansL (hallPlay n roles d0 ⟨d0, [], 0⟩ os).2).take (k + 1)) from hX5'.symm] at hX6
            have c6 := hB6 _ c0
            have hbn6 : CellsAt w8 w.heap.size #[.int .i64 n.places, tv] 24 := (hk6 _ hbn.lt Hn1.out).trans hbn
            have hR6 : CellsAt w8 (w.heap.size + 1) #[.slice none 0 0, .slice none 0 0, .slice none 0 0] 32 := (hk6 _ hR.lt Hn2.out).trans hR
            have HD6 : Hid (DesksAt w8 g cap N (fun j => deskAt n roles d0 (hallAt n roles d0 ⟨d0, [], 0⟩ os (k + 1)).ws j) cs (fun b => v'.ownBlock = some b)) := by
              have hq : DesksAt wp g cap N (fun j => deskAt n roles d0 (hallAt n roles d0 ⟨d0, [], 0⟩ os (k + 1)).ws j) cs (fun b => ov.ownBlock = some b ∨ wp.heap.size ≤ b) := by rw [Hnx.out]; exact HD2.out.high (fun b hb => hb)
              have h3 : DesksAt w8 g cap N (fun j => deskAt n roles d0 (hallAt n roles d0 ⟨d0, [], 0⟩ os (k + 1)).ws j) cs (fun b => ov.ownBlock = some b ∨ wp.heap.size ≤ b) := hq.keep hs6 (fun q hq1 hb => hk6 q hq1 (fun e => hb (.inl e)))
              refine h3.high (fun b hb => .inl ?_)
              rcases hat6 with q | q
              · exact .inl (by rw [← q]; exact hb)
              · rw [q] at hb; injection hb with hb; exact .inr (by omega)
            have HN6 : Hid ((hallAt n roles d0 ⟨d0, [], 0⟩ os (k + 1)).ws.length + 1 = N) := by show _ = _; rw [Hnx.out]; exact HN2.out
            have HS6 : Hid ((hallAt n roles d0 ⟨d0, [], 0⟩ os (k + 1)).sure = ((⟨h.desk, h.ws, h.ws.length⟩ : HallL)).sure) := by show _ = _; rw [Hnx.out]
            clear hX hbn hR HD2 c0 hba b0 b1 hX5' hbx
            go_wp2
            go_roundg (gk - 1)
            case measure => omega
            case rel => exact ⟨k + 1, g, cap, N, _, _, by omega, by go_num, rfl, by rw [HS6.out]; show _ = Value.int _ ((h.ws.length : Nat) : Int); rw [HM.out], rfl, c6, hbn6, hR6, HD6, HN6, hX6⟩
          · have k2 : (kd == 2) = false := by simpa using h2
            by_cases h3 : kd = 3
            · subst h3
              obtain ⟨LF, HLF⟩ : ∃ x, Hid (leftH h kp = x) := ⟨_, rfl⟩
              have hLF := left_le Hinv.out.sure kp
              rw [HLF.out, HSU.out, HM.out] at hLF
              have HLFe : Hid ((SU : Int) + min (max kp 0 / 7) ((M : Int) - (SU : Int)) = (LF : Int)) := by
                show _ = _
                rw [← HLF.out]; unfold leftH; rw [HSU.out, HM.out]; omega
              have ST : Hid (hallDo n roles d0 h ⟨3, kp, op⟩ = (⟨(deskPlay n roles d0 (h.ws.take LF)).1, h.ws.take LF, LF⟩, ⟨0, 0⟩)) := by
                show _ = _
                rw [← HLF.out]; rfl
              have HD2 : Hid (DesksAt wp g cap (LF + 1) (fun j => deskAt n roles d0 (h.ws.take LF) j) (cs.take ((LF + 1) * 3)) (fun b => ov.ownBlock = some b)) := (HDa.out.high (Off' := fun b => ov.ownBlock = some b) (fun b hb => .inl (.inl hb))).take (by omega) (fun j hj => by unfold deskAt; rw [List.take_take, Nat.min_eq_left (by omega)])
              have HN2 : Hid ((h.ws.take LF).length + 1 = LF + 1) := by show _ = _; rw [List.length_take, HM.out]; omega
              obtain ⟨TT, HTT⟩ : ∃ t, Hid (min ((max kp 0).toNat / 7) (M - SU) = t) := ⟨_, rfl⟩
              have hTT : TT ≤ M - SU := by have := HTT.out; omega
              have hLFT : (SU : Int) + (TT : Int) = (LF : Int) := by have h1 := HLFe.out; have h2 := HTT.out; omega
              have HTe : Hid (min (wrap64 ((max kp 0).tdiv 7)) ((M : Int) - (SU : Int)) = (TT : Int)) := by
                have hk2 : -9223372036854775808 ≤ kp ∧ kp ≤ 9223372036854775807 := Hkw.out
                have hq := Go.IntWalk.i64_in (max kp 0 / 7) (by omega)
                rw [show IntKind.i64.wrap (max kp 0 / 7) = wrap64 (max kp 0 / 7) from by rw [IntKind.wrap_i64]; unfold wrap64; omega] at hq
                have h2 := HTT.out
                show _ = _
                rw [Int.tdiv_eq_ediv_of_nonneg (by omega)]
                rw [hq]
                omega
              have hcap := HDa.out.cap
              have hcap1 : N ≤ cap := hcap.1
              have hcap2 : cap ≤ 9223372036854775807 := hcap.2.1
              clear hcap
              have hi1 : ((LF : Int) + 1) ≤ (N : Int) := by omega
              have hi2 : ((LF : Int) + 1) ≤ (cap : Int) := by omega
              have hLFw : Go.IntKind.i64.wrap ((LF : Int) + 1) = (LF : Int) + 1 := Go.IntWalk.i64_in _ (by omega)
              go_upto_region 25 with fail
              rw [HTe.out]
              go_upto_region 26 with fail
              first | rw [hLFT] | skip
              clear hLFT HTe
              go_upto_region 27 with fail
              clear o0 o1 o2 o3 o4 o5 o6 a0 a1 f0 f1 HDa
              rw [ST.out] at Hnx Han
              have hX5' := ansTake HkA.out Han.out
              have b0 : wp.cell? ⟨Bx + 1, 0, none⟩ = some (.int .i64 0) := hba.cell 0
              have b1 : wp.cell? ⟨Bx + 1, 1, none⟩ = some (.int .i64 0) := hba.cell 1
              have HL1 : Hid (k + 1 ≤ maxLen) := by show _ ≤ _; unfold maxLen; omega
              have HL2 : Hid ((k + 1) * 16 ≤ 140737488355328) := by show _ ≤ _; omega
              have HX1 : ∀ u ∈ (#[.int .i64 0, .int .i64 0] : Array Value).toList, u.oneCell' = true := (fun u hu => by simp at hu; rcases hu with rfl | rfl <;> rfl)
              have Hn1 : Hid (ov.ownBlock ≠ some w.heap.size) := row_block hX hbn (by decide)
              have Hn2 : Hid (ov.ownBlock ≠ some (w.heap.size + 1)) := row_block hX hR (by decide)
              go_wp2_with (at_builtin; refine wp_append_one elem_dans rfl _ _ rfl w.heap.size wp ov k _ #[.int .i64 0, .int .i64 0] hX c0.size rfl HX1 rfl rfl HL1.out HL2.out ?_; intro v' w8 hX6 hs6 hk6 hB6 hat6)
              rw [show ansC ((ansL (hallPlay n roles d0 ⟨d0, [], 0⟩ os).2).take k) ++ (#[.int .i64 0, .int .i64 0] : Array Value).toList = ansC ((ansL (hallPlay n roles d0 ⟨d0, [], 0⟩ os).2).take (k + 1)) from hX5'.symm] at hX6
              have c6 := hB6 _ c0
              have hbn6 : CellsAt w8 w.heap.size #[.int .i64 n.places, tv] 24 := (hk6 _ hbn.lt Hn1.out).trans hbn
              have hR6 : CellsAt w8 (w.heap.size + 1) #[.slice none 0 0, .slice none 0 0, .slice none 0 0] 32 := (hk6 _ hR.lt Hn2.out).trans hR
              have HD6 : Hid (DesksAt w8 g cap (LF + 1) (fun j => deskAt n roles d0 (hallAt n roles d0 ⟨d0, [], 0⟩ os (k + 1)).ws j) (cs.take ((LF + 1) * 3)) (fun b => v'.ownBlock = some b)) := by
                have hq : DesksAt wp g cap (LF + 1) (fun j => deskAt n roles d0 (hallAt n roles d0 ⟨d0, [], 0⟩ os (k + 1)).ws j) (cs.take ((LF + 1) * 3)) (fun b => ov.ownBlock = some b ∨ wp.heap.size ≤ b) := by rw [Hnx.out]; exact HD2.out.high (fun b hb => hb)
                have h3 : DesksAt w8 g cap (LF + 1) (fun j => deskAt n roles d0 (hallAt n roles d0 ⟨d0, [], 0⟩ os (k + 1)).ws j) (cs.take ((LF + 1) * 3)) (fun b => ov.ownBlock = some b ∨ wp.heap.size ≤ b) := hq.keep hs6 (fun q hq1 hb => hk6 q hq1 (fun e => hb (.inl e)))
                refine h3.high (fun b hb => .inl ?_)
                rcases hat6 with q | q
                · exact .inl (by rw [← q]; exact hb)
                · rw [q] at hb; injection hb with hb; exact .inr (by omega)
              have HN6 : Hid ((hallAt n roles d0 ⟨d0, [], 0⟩ os (k + 1)).ws.length + 1 = (LF + 1)) := by show _ = _; rw [Hnx.out]; exact HN2.out
              have HS6 : Hid ((hallAt n roles d0 ⟨d0, [], 0⟩ os (k + 1)).sure = ((⟨(deskPlay n roles d0 (h.ws.take LF)).1, h.ws.take LF, LF⟩ : HallL)).sure) := by show _ = _; rw [Hnx.out]
              clear hX hbn hR HD2 c0 hba b0 b1 hX5' hbx
              go_wp2
              go_roundg (gk - 1)
              case measure => omega
              case rel => exact ⟨k + 1, g, cap, (LF + 1), _, _, by omega, by go_num, rfl, by rw [HS6.out]; all_goals rfl, rfl, c6, hbn6, hR6, HD6, HN6, hX6⟩
            · have k3 : (kd == 3) = false := by simpa using h3
              have ST : Hid (hallDo n roles d0 h ⟨kd, kp, op⟩ = (h, ⟨5, 0⟩)) := by show _ = _; simp [hallDo, h1, h2, h3]
              have hba2 := hba.put 0 (.int .i64 5)
              have hX2 := row_put hX (p := ⟨Bx + 1, 0, none⟩) HXa.out (.int .i64 5)
              have hR2 := hR.set (p := ⟨Bx + 1, 0, none⟩) (by show Bx + 1 ≠ w.heap.size + 1; have := HRx.out; omega) (.int .i64 5)
              have hbn2 := hbn.set (p := ⟨Bx + 1, 0, none⟩) (by show Bx + 1 ≠ w.heap.size; have := HRx.out; omega) (.int .i64 5)
              have c2 := c0.setCell (p := ⟨Bx + 1, 0, none⟩) (by show w.heap.size ≤ Bx + 1; have := HRx.out; omega) (.int .i64 5)
              have hD2 := HDa.out.keep (w' := wp.setCell ⟨Bx + 1, 0, none⟩ (.int .i64 5)) (by simp [World.setCell]) (fun q _ hq => Below.heap_setCell _ ⟨Bx + 1, 0, none⟩ _ q (fun e => hq (.inr e)))
              obtain ⟨w5, Hw5⟩ : ∃ v, Hid (wp.setCell ⟨Bx + 1, 0, none⟩ (.int .i64 5) = v) := ⟨_, rfl⟩
              rw [Hw5.out] at hba2 hX2 hR2 hbn2 c2 hD2
              go_upto_region 27 with fail
              rw [Hw5.out]
              clear Hw5 o0 o1 o2 o3 o4 o5 o6 a0 a1 f0 f1 hba hX hR hbn c0 HDa
              obtain ⟨hba, hX, hR, hbn, c0⟩ : CellsAt w5 (Bx + 1) #[.int .i64 5, .int .i64 0] 40 ∧ _ ∧ _ ∧ _ ∧ _ := ⟨hba2, hX2, hR2, hbn2, c2⟩
              have HD2 : Hid (DesksAt w5 g cap N (fun j => deskAt n roles d0 h.ws j) cs (fun b => ov.ownBlock = some b)) := hD2.high (fun b hb => .inl (.inl hb))
              have HN2 : Hid (h.ws.length + 1 = N) := HN
              clear hba2 hX2 hR2 hbn2 c2 hD2
              rw [ST.out] at Hnx Han
              have hX5' := ansTake HkA.out Han.out
              have b0 : w5.cell? ⟨Bx + 1, 0, none⟩ = some (.int .i64 5) := hba.cell 0
              have b1 : w5.cell? ⟨Bx + 1, 1, none⟩ = some (.int .i64 0) := hba.cell 1
              have HL1 : Hid (k + 1 ≤ maxLen) := by show _ ≤ _; unfold maxLen; omega
              have HL2 : Hid ((k + 1) * 16 ≤ 140737488355328) := by show _ ≤ _; omega
              have HX1 : ∀ u ∈ (#[.int .i64 5, .int .i64 0] : Array Value).toList, u.oneCell' = true := (fun u hu => by simp at hu; rcases hu with rfl | rfl <;> rfl)
              have Hn1 : Hid (ov.ownBlock ≠ some w.heap.size) := row_block hX hbn (by decide)
              have Hn2 : Hid (ov.ownBlock ≠ some (w.heap.size + 1)) := row_block hX hR (by decide)
              go_wp2_with (at_builtin; refine wp_append_one elem_dans rfl _ _ rfl w.heap.size w5 ov k _ #[.int .i64 5, .int .i64 0] hX c0.size rfl HX1 rfl rfl HL1.out HL2.out ?_; intro v' w8 hX6 hs6 hk6 hB6 hat6)
              rw [show ansC ((ansL (hallPlay n roles d0 ⟨d0, [], 0⟩ os).2).take k) ++ (#[.int .i64 5, .int .i64 0] : Array Value).toList = ansC ((ansL (hallPlay n roles d0 ⟨d0, [], 0⟩ os).2).take (k + 1)) from hX5'.symm] at hX6
              have c6 := hB6 _ c0
              have hbn6 : CellsAt w8 w.heap.size #[.int .i64 n.places, tv] 24 := (hk6 _ hbn.lt Hn1.out).trans hbn
              have hR6 : CellsAt w8 (w.heap.size + 1) #[.slice none 0 0, .slice none 0 0, .slice none 0 0] 32 := (hk6 _ hR.lt Hn2.out).trans hR
              have HD6 : Hid (DesksAt w8 g cap N (fun j => deskAt n roles d0 (hallAt n roles d0 ⟨d0, [], 0⟩ os (k + 1)).ws j) cs (fun b => v'.ownBlock = some b)) := by
                have hq : DesksAt w5 g cap N (fun j => deskAt n roles d0 (hallAt n roles d0 ⟨d0, [], 0⟩ os (k + 1)).ws j) cs (fun b => ov.ownBlock = some b ∨ w5.heap.size ≤ b) := by rw [Hnx.out]; exact HD2.out.high (fun b hb => hb)
                have h3 : DesksAt w8 g cap N (fun j => deskAt n roles d0 (hallAt n roles d0 ⟨d0, [], 0⟩ os (k + 1)).ws j) cs (fun b => ov.ownBlock = some b ∨ w5.heap.size ≤ b) := hq.keep hs6 (fun q hq1 hb => hk6 q hq1 (fun e => hb (.inl e)))
                refine h3.high (fun b hb => .inl ?_)
                rcases hat6 with q | q
                · exact .inl (by rw [← q]; exact hb)
                · rw [q] at hb; injection hb with hb; exact .inr (by omega)
              have HN6 : Hid ((hallAt n roles d0 ⟨d0, [], 0⟩ os (k + 1)).ws.length + 1 = N) := by show _ = _; rw [Hnx.out]; exact HN2.out
              have HS6 : Hid ((hallAt n roles d0 ⟨d0, [], 0⟩ os (k + 1)).sure = (h).sure) := by show _ = _; rw [Hnx.out]
              clear hX hbn hR HD2 c0 hba b0 b1 hX5' hbx
              go_wp2
              go_roundg (gk - 1)
              case measure => omega
              case rel => exact ⟨k + 1, g, cap, N, _, _, by omega, by go_num, rfl, by rw [HS6.out]; rw [HSU.out], rfl, c6, hbn6, hR6, HD6, HN6, hX6⟩
      · obtain rfl : k = len := by omega
        have e0 : Hid (hallAt n roles d0 ⟨d0, [], 0⟩ os k = (hallPlay n roles d0 ⟨d0, [], 0⟩ os).1) := hallAt_all n roles d0 _ (by rw [Hlen.out]; exact Nat.le_refl _)
        rw [e0.out] at HDs HN Hinv ⊢
        have Hal : Hid ((hallPlay n roles d0 ⟨d0, [], 0⟩ os).2.length = k) := by show _ = _; rw [hall_length, Hlen.out]
        have Hws : Hid ((hallPlay n roles d0 ⟨d0, [], 0⟩ os).1.ws.length ≤ k) := by rw [← e0.out]; exact hallAt_ws rfl k (by rw [Hlen.out]; omega)
        obtain ⟨h, Hh⟩ : ∃ h, Hid ((hallPlay n roles d0 ⟨d0, [], 0⟩ os).1 = h) := ⟨_, rfl⟩
        rw [Hh.out] at HDs HN Hinv Hws Hall ⊢
        rw [List.take_of_length_le (by rw [ansL_length, Hal.out]; exact Nat.le_refl _)] at hX
        obtain ⟨la, ll, lc, rfl⟩ := ownsRow_slice hX
        obtain rfl : ll = k := row_len hX
        obtain ⟨M, HM⟩ : ∃ m, Hid (h.ws.length = m) := ⟨_, rfl⟩
        have hNM : M + 1 = N := by rw [← HM.out]; exact HN.out
        have hMk : M ≤ ll := by rw [← HM.out]; exact Hws.out
        have hN1 : Go.IntKind.i64.wrap ((N : Int) - 1) = (M : Int) := by rw [← hNM]; rw [show (((M + 1 : Nat) : Int) - 1) = (M : Int) by omega]; exact Go.IntWalk.i64_in _ (by omega)
        have hMN : (M : Int) < (N : Int) := by omega
        have hMN' : M < N := by omega
        obtain ⟨sa, sl, sc, ta, tl, tc, qa, ql, qc, e0', e1', e2', hDM, hoM⟩ := HDs.out.desk M (by omega)
        have k0 : wr.cell? ⟨g, M * 3, none⟩ = some (.slice sa sl sc) := HDs.out.cells _ _ e0'
        have k1 : wr.cell? ⟨g, M * 3 + 1, none⟩ = some (.slice ta tl tc) := HDs.out.cells _ _ e1'
        have k2 : wr.cell? ⟨g, M * 3 + 2, none⟩ = some (.slice qa ql qc) := HDs.out.cells _ _ e2'
        rw [show deskAt n roles d0 h.ws M = h.desk from by rw [deskAt_all n roles d0 (by rw [HM.out]; exact Nat.le_refl _), ← Hinv.out.desk]] at hDM
        have r0 : wr.cell? ⟨w.heap.size + 1, 0, none⟩ = some (.slice none 0 0) := hR.cell 0
        have r1 : wr.cell? ⟨w.heap.size + 1, 1, none⟩ = some (.slice none 0 0) := hR.cell 1
        have r2 : wr.cell? ⟨w.heap.size + 1, 2, none⟩ = some (.slice none 0 0) := hR.cell 2
        have f0 := hR.frozen 0
        have f1 := hR.frozen 1
        have f2 := hR.frozen 2
        obtain ⟨W, HW⟩ : ∃ W, Hid (((wr.setCell ⟨w.heap.size + 1, 0, none⟩ (.slice sa sl sc)).setCell ⟨w.heap.size + 1, 1, none⟩ (.slice ta tl tc)).setCell ⟨w.heap.size + 1, 2, none⟩ (.slice qa ql qc) = W) := ⟨_, rfl⟩
        obtain ⟨z1, z2, z3, z4⟩ := desk_fill hR c0 (by omega) HW.out
        have hnR : (Value.slice la ll lc).ownBlock ≠ some (w.heap.size + 1) := row_block hX hR (by decide)
        have hX' := row_put (row_put (row_put hX (p := ⟨w.heap.size + 1, 0, none⟩) hnR (.slice sa sl sc)) (p := ⟨w.heap.size + 1, 1, none⟩) hnR (.slice ta tl tc)) (p := ⟨w.heap.size + 1, 2, none⟩) hnR (.slice qa ql qc)
        rw [HW.out] at hX'
        have hD' : DeskV W (.agg #[.slice sa sl sc, .slice ta tl tc, .slice qa ql qc]) h.desk := by rw [← HW.out]; exact desk_putS (p := ⟨w.heap.size + 1, 2, none⟩) (desk_putS (p := ⟨w.heap.size + 1, 1, none⟩) (desk_putS hDM r0 (.slice sa sl sc)) (by rw [World.cell?_setCell_other _ _ _ _ (by simp)]; exact r1) (.slice ta tl tc)) (by rw [World.cell?_setCell_other _ _ _ _ (by simp), World.cell?_setCell_other _ _ _ _ (by simp)]; exact r2) (.slice qa ql qc)
        have hA := answers_of (l := ansL (hallPlay n roles d0 ⟨d0, [], 0⟩ os).2) (by rw [ansL_length, Hal.out]; exact hX') (by rw [ansL_length, Hal.out]; omega)
        clear hX hR hbn c0 hX' HDs hDM hoM e0' e1' e2'
        go_wp2
        rw [HW.out]
        exact bodyPost_ret (v := .tuple #[.agg #[.slice sa sl sc, .slice ta tl tc, .slice qa ql qc], .slice la ll lc, .int .i64 0]) (results_desk3 rfl rfl rfl rfl (z1.cell 0) (z1.cell 1) (z1.cell 2)) rfl ⟨.agg #[.slice sa sl sc, .slice ta tl tc, .slice qa ql qc], la, lc, by rw [Hall.out]; simp only [Hal.out], by rw [Hall.out]; exact hD', by rw [Hall.out]; simp only [Hal.out]; exact hA, z2⟩
  · have E : Hid (hallAll n i roles os = (noDesk, [], d)) := by show _ = _; unfold hallAll; rw [if_neg (by rw [Hd.out]; exact hd), Hd.out]
    have hd' : (d == 0) = false := by simpa using hd
    have hd2 : (d != 0) = true := by simpa using hd
    have r0 : w2.cell? ⟨w.heap.size + 1, 0, none⟩ = some (.slice none 0 0) := hR.cell 0
    have r1 : w2.cell? ⟨w.heap.size + 1, 1, none⟩ = some (.slice none 0 0) := hR.cell 1
    have r2 : w2.cell? ⟨w.heap.size + 1, 2, none⟩ = some (.slice none 0 0) := hR.cell 2
    have f0 := hR.frozen 0
    have f1 := hR.frozen 1
    have f2 := hR.frozen 2
    obtain ⟨W, HW⟩ : ∃ W, Hid (((w2.setCell ⟨w.heap.size + 1, 0, none⟩ (.slice none 0 0)).setCell ⟨w.heap.size + 1, 1, none⟩ (.slice none 0 0)).setCell ⟨w.heap.size + 1, 2, none⟩ (.slice none 0 0) = W) := ⟨_, rfl⟩
    obtain ⟨z1, z2, z3, z4⟩ := desk_fill hR c0 (by omega) HW.out
    have hno : DeskV W (.agg #[.slice none 0 0, .slice none 0 0, .slice none 0 0]) noDesk := ⟨none, 0, 0, none, 0, 0, none, 0, rfl, Ints.nil _, Ints.nil _, none, 0, 0, rfl, rfl, by omega, ⟨by omega, by omega, fun _ => rfl⟩, fun j hj => absurd hj (Nat.not_lt_zero _)⟩
    have hA : OpsV W (.slice none 0 0) (ansL []) := ⟨none, 0, 0, rfl, rfl, by omega, ⟨by omega, by omega, fun _ => rfl⟩, fun j hj => absurd hj (Nat.not_lt_zero _)⟩
    clear hD hF hbn Hd hR c0
    go_wp2
    rw [HW.out]
    exact bodyPost_ret (v := .tuple #[.agg #[.slice none 0 0, .slice none 0 0, .slice none 0 0], .slice none 0 0, .int .i64 d]) (results_desk3 rfl rfl rfl rfl (z1.cell 0) (z1.cell 1) (z1.cell 2)) rfl ⟨.agg #[.slice none 0 0, .slice none 0 0, .slice none 0 0], none, 0, by rw [E.out]; rfl, by rw [E.out]; exact hno, by rw [E.out]; exact hA, z2⟩
  
  end Go.Proofs.Ytaladbcocealnaa

/- The law HallPlays, walked. (Made by tools/gen_plays.py.) -/
namespace Go.Proofs.Ytaladbcocealnaa
open Go.RowKit
set_option linter.unusedVariables false
set_option linter.unusedSimpArgs false
set_option maxRecDepth 4000

set_option maxHeartbeats 2000000 in
theorem hallPlays_walk (v r u : Value) (n : NetL) (i : Int) (roles : List (List Int)) (os : List HOp) (w : World) (hv : Net w v n) (hr : Lists w r roles) (hu : HOpsV w u os) (hbk : BulkNet n) (hbo : os.length ≤ 1048576) (hkw : ∀ k, k < os.length → -9223372036854775808 ≤ (hopAt os k).keep ∧ (hopAt os k).keep ≤ 9223372036854775807) :
    Calls Try.prog 3 #[v, .int .i64 i, r, u] w fun e w' => e = .returned (.bool true) ∧ Below w.heap.size w w' := by
  have hsm := hbk.small
  obtain ⟨tv, rfl, hT⟩ := hv
  have c0 := below_new w (.cells #[.int .i64 n.places, tv] 24)
  have hbn := box2_new w (.int .i64 n.places) tv 24
  obtain ⟨w0, Hw0⟩ : ∃ w0, Hid (w.alloc (.cells #[.int .i64 n.places, tv] 24) = w0) := ⟨_, rfl⟩
  rw [Hw0.out] at c0 hbn
  have hv : Net w0 (.agg #[.int .i64 n.places, tv]) n := ⟨_, rfl, hT.below c0⟩
  replace hu := hu.below c0
  replace hr := hr.below c0
  clear hT
  obtain ⟨x0, x1, x2⟩ := id hbn
  go_enter Try.func3, Try.ntmps3
  go_upto_region 1 with fail
  rw [Hw0.out]
  clear Hw0
  go_wp2_with fail
  refine (hall_play _ _ _ n i roles os w0 (by exact hv) (by exact hr) (by exact hu)).mono ?_
  rintro e w1 ⟨rv, la, lc, rfl, hD, hL, b⟩
  obtain ⟨sa, sl, sc, ta, tl, tc, qa, ql, qc, rfl⟩ := hD.slices
  replace c0 := below_then c0 b
  replace hv := hv.below b
  replace hu := hu.below b
  replace hr := hr.below b
  replace hbn := hbn.below b
  clear b x0 x1 x2
  obtain ⟨es, Hes⟩ : ∃ d, Hid ((hallAll n i roles os).2.1 = d) := ⟨_, rfl⟩
  obtain ⟨ds, Hds⟩ : ∃ d, Hid ((hallAll n i roles os).1 = d) := ⟨_, rfl⟩
  obtain ⟨E, HE⟩ : ∃ d, Hid ((hallAll n i roles os).2.2 = d) := ⟨_, rfl⟩
  rw [Hes.out] at hL
  rw [Hds.out] at hD
  rw [HE.out, Hes.out]
  obtain ⟨M, HM⟩ : ∃ n, Hid (es.length = n) := ⟨_, rfl⟩
  rw [HM.out] at hL ⊢
  have bn := below_new w1 (.cells #[.slice sa sl sc, .slice ta tl tc, .slice qa ql qc] 32)
  have hbx := box3_new w1 (.slice sa sl sc) (.slice ta tl tc) (.slice qa ql qc) 32
  obtain ⟨B1, HB1⟩ : ∃ B, Hid (w1.heap.size = B) := ⟨_, rfl⟩
  rw [HB1.out] at hbx
  obtain ⟨w2, Hw2⟩ : ∃ v, Hid (w1.alloc (.cells #[.slice sa sl sc, .slice ta tl tc, .slice qa ql qc] 32) = v) := ⟨_, rfl⟩
  rw [Hw2.out] at bn hbx
  go_upto_region 2 with fail
  rw [Hw2.out, HB1.out]
  clear Hw2 HB1
  replace c0 := below_then c0 bn
  replace hv := hv.below bn
  replace hu := hu.below bn
  replace hr := hr.below bn
  replace hbn := hbn.below bn
  replace hD := hD.below bn
  replace hL := hL.below bn
  clear bn
  obtain ⟨x0, x1, x2⟩ := id hbn
  go_wp2_with fail
  refine (splay_any _ _ _ n i roles os w2 (by exact hv) (by exact hr) (by exact hu) hsm hbo hkw).mono ?_
  rintro e w3 ⟨rv, ma, mc, rfl, hD2, hL2, b⟩
  obtain ⟨sa2, sl2, sc2, ta2, tl2, tc2, qa2, ql2, qc2, rfl⟩ := hD2.slices
  rw [Hes.out] at hL2
  rw [Hds.out] at hD2
  rw [HE.out, Hes.out]
  rw [HM.out] at hL2 ⊢
  replace c0 := below_then c0 b
  replace hbx := hbx.below b
  replace hD := hD.below b
  replace hL := hL.below b
  clear b x0 x1 x2 hv hu hr hbn
  have bn := below_new w3 (.cells #[.slice sa2 sl2 sc2, .slice ta2 tl2 tc2, .slice qa2 ql2 qc2] 32)
  have hby := box3_new w3 (.slice sa2 sl2 sc2) (.slice ta2 tl2 tc2) (.slice qa2 ql2 qc2) 32
  obtain ⟨B2, HB2⟩ : ∃ B, Hid (w3.heap.size = B) := ⟨_, rfl⟩
  rw [HB2.out] at hby
  obtain ⟨w4, Hw4⟩ : ∃ v, Hid (w3.alloc (.cells #[.slice sa2 sl2 sc2, .slice ta2 tl2 tc2, .slice qa2 ql2 qc2] 32) = v) := ⟨_, rfl⟩
  rw [Hw4.out] at bn hby
  go_upto_region 3 with fail
  rw [Hw4.out, HB2.out]
  clear Hw4 HB2
  replace c0 := below_then c0 bn
  replace hbx := hbx.below bn
  replace hD := hD.below bn
  replace hL := hL.below bn
  replace hD2 := hD2.below bn
  replace hL2 := hL2.below bn
  clear bn
  obtain ⟨x0, x1, x2, x3⟩ := id hbx
  obtain ⟨y0, y1, y2, y3⟩ := id hby
  go_wp2_with fail
  refine (samedesk_same _ _ ds w4 (by exact hD) (by exact hD2)).mono ?_
  rintro e w5 ⟨rfl, b⟩
  replace c0 := below_then c0 b
  replace hL := hL.below b
  replace hL2 := hL2.below b
  clear b x0 x1 x2 x3 y0 y1 y2 y3 hbx hby hD hD2
  go_wp2_with fail
  refine (eqans_same _ _ _ w5 (by exact hL) (by exact hL2)).mono ?_
  rintro e w6 ⟨rfl, b⟩
  replace c0 := below_then c0 b
  go_wp2
  go_ret
  exact ⟨rfl, c0⟩

end Go.Proofs.Ytaladbcocealnaa
