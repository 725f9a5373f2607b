/- The document's own desk: one thing behind the other. -/
import Derived.Test.YtaladbcocealnaaGr25
import Derived.Test.YtaladbcocealnaaGr01
import Derived.Test.YtaladbcocealnaaGr22
namespace Go.Proofs.Ytaladbcocealnaa
open Go.RowKit
set_option linter.unusedVariables false
set_option linter.unusedSimpArgs false
set_option maxRecDepth 4000

theorem elem_dans : ElemT 33 40 2 16 := ElemT.of Try.underlying33 info_dans rfl (by decide)
theorem ansTake {l : List DAns} {k : Nat} {e i : Int} (h : k < l.length) (ha : opAt (ansL l) k = (e, i)) : ansC ((ansL l).take (k + 1)) = ansC ((ansL l).take k) ++ [.int .i64 e, .int .i64 i] := by
  have h' : k < (ansL l).length := by rw [ansL_length]; exact h
  have e1 : (ansL l)[k] = (e, i) := by
    rw [← ha]; unfold opAt; rw [List.getD_eq_getElem?_getD, List.getElem?_eq_getElem h']; rfl
  rw [List.take_add_one, List.getElem?_eq_getElem h', ansC_append, e1]
  rfl

/-- The boxes of a net and of a desk. -/
theorem play_boxes (w : World) (x y : Value) : ∃ w0, Hid ((w.alloc (.cells #[x, y] 24)).alloc (.cells #[.slice none 0 0, .slice none 0 0, .slice none 0 0] 32) = w0) ∧ CellsAt w0 w.heap.size #[x, y] 24 ∧ CellsAt w0 (w.heap.size + 1) #[.slice none 0 0, .slice none 0 0, .slice none 0 0] 32 ∧ Below w.heap.size w w0 ∧ Hid (w0.heap.size = w.heap.size + 1 + 1) := by
  have b1 := below_new w (.cells #[x, y] 24)
  have h1 := cellsAt_new w #[x, y] 24
  obtain ⟨w1, H1⟩ : ∃ w1, w.alloc (.cells #[x, y] 24) = w1 := ⟨_, rfl⟩
  have s1 : w1.heap.size = w.heap.size + 1 := by rw [← H1]; simp
  rw [H1] at b1 h1 ⊢
  have b2 := below_new w1 (.cells #[.slice none 0 0, .slice none 0 0, .slice none 0 0] 32)
  have h2 := cellsAt_new w1 #[.slice none 0 0, .slice none 0 0, .slice none 0 0] 32
  rw [s1] at h2
  exact ⟨_, rfl, h1.below b2, h2, below_then b1 b2, by show _ = _; simp [s1]⟩
/-- A desk's box filled. -/
theorem desk_fill {w w1 W : World} {R : Nat} {x y z x' y' z' : Value} (h : CellsAt w1 R #[x, y, z] 32) (c0 : Below w.heap.size w w1) (hR : w.heap.size ≤ R) (hW : ((w1.setCell ⟨R, 0, none⟩ x').setCell ⟨R, 1, none⟩ y').setCell ⟨R, 2, none⟩ z' = W) :
    CellsAt W R #[x', y', z'] 32 ∧ Below w.heap.size w W ∧ W.heap.size = w1.heap.size ∧ ∀ k, k ≠ R → W.heap[k]? = w1.heap[k]? := by
  have r1 := ((h.put 0 x').put 1 y').put 2 z'
  have c1 := ((c0.setCell (p := ⟨R, 0, none⟩) hR x').setCell (p := ⟨R, 1, none⟩) hR y').setCell (p := ⟨R, 2, none⟩) hR z'
  subst hW
  refine ⟨r1, c1, by simp [World.setCell], fun k hk => ?_⟩
  rw [Below.heap_setCell _ ⟨R, 2, none⟩ _ k hk, Below.heap_setCell _ ⟨R, 1, none⟩ _ k hk, Below.heap_setCell _ ⟨R, 0, none⟩ _ k hk]
theorem row_len {w : World} {B : Nat} {e : TypeId} {size : Nat} {a : Option Addr} {l c n : Nat} {xs : List Value} (h : w.ownsRow B e size (.slice a l c) n xs) : l = n := by
  rcases h.2 with ⟨e1, h0⟩ | ⟨g, cap, cur, e1, _⟩
  · injection e1 with _ e2 _; omega
  · injection e1
theorem DeskV.slices {w : World} {v : Value} {d : DeskL} (h : DeskV w v d) : ∃ a l p a' l' p' ia il ic, v = .agg #[.slice a l p, .slice a' l' p', .slice ia il ic] := by
  obtain ⟨a, l, p, a', l', p', ia, ic, e, _⟩ := h
  exact ⟨a, l, p, a', l', p', ia, _, ic, e⟩

set_option maxHeartbeats 8000000 in
theorem qplay_any (v r u : Value) (n : NetL) (i : Int) (roles : List (List Int)) (os : List DOp) (w : World) (hv : Net w v n) (hr : Lists w r roles) (hu : DOpsV w u os) (hsm : SmallNet n) : Calls Try.prog 22 #[v, .int .i64 i, r, u] w fun e w' => GivesD w (deskAll n i roles os) e w' := by
  obtain ⟨tv, rfl, hT⟩ := hv
  obtain ⟨ua, ucap, rfl, hmx, hsh⟩ := hu.slice
  obtain ⟨w0, Hw0, hbn, hR, c0, Hs0⟩ := play_boxes w (.int .i64 n.places) tv
  have x1 : w0.cell? ⟨w.heap.size, 0, none⟩ = some (.int .i64 n.places) := hbn.cell 0
  have x2 : w0.cell? ⟨w.heap.size, 1, none⟩ = some tv := hbn.cell 1
  go_enter Try.func22, Try.ntmps22
  go_upto_region 1 with fail
  rw [Hw0.out]
  clear Hw0
  go_wp2_with fail
  refine (pbegin_own _ n i w0 (by exact ⟨_, rfl, hT.below c0⟩) hsm).mono ?_
  rintro e w1 ⟨r1, rfl, hC, hCF, b⟩
  obtain ⟨ra, rl, rc, ra2, rl2, rc2, rfl, hI, hI2⟩ := hC
  replace c0 := below_then c0 b
  replace hR := hR.below b
  replace hbn := hbn.below b
  clear x1 x2 b
  have bc := below_new w1 (.cells #[.slice ra rl rc, .slice ra2 rl2 rc2] 29)
  have hc := caseBox_new w1 ra ra2 rl rc rl2 rc2
  obtain ⟨Bc, HBc⟩ : ∃ B, Hid (w1.heap.size = B) := ⟨_, rfl⟩
  rw [HBc.out] at hc
  obtain ⟨w2, Hw2⟩ : ∃ w2, Hid (w1.alloc (.cells #[.slice ra rl rc, .slice ra2 rl2 rc2] 29) = w2) := ⟨_, rfl⟩
  rw [Hw2.out] at bc hc
  go_upto_region 2 with fail
  rw [Hw2.out, HBc.out]
  clear Hw2 HBc
  replace c0 := below_then c0 bc
  replace hR := hR.below bc
  replace hbn := hbn.below bc
  replace hI := hI.below bc
  replace hI2 := hI2.below bc
  obtain ⟨hf1, hf2⟩ := hCF.parts
  have hs0 := Hs0.out
  have hDr : DeskOff (w.heap.size + 1) (.agg #[.slice ra rl rc, .slice ra2 rl2 rc2, .slice none 0 0]) := ⟨_, _, _, rfl, hf1.off (by omega), hf2.off (by omega), fun _ _ _ _ e => by cases e⟩
  clear bc hCF hf1 hf2 hs0
  obtain ⟨d, Hd⟩ : ∃ d, Hid ((beginC n i).2 = d) := ⟨_, rfl⟩
  rw [Hd.out]
  by_cases hd : d = 0
  · subst hd
    obtain ⟨d0, Hd0⟩ : ∃ d, Hid (deskBegin n i = d) := ⟨_, rfl⟩
    have Hall : Hid (deskAll n i roles os = ((deskPlay n roles d0 os).1, (deskPlay n roles d0 os).2, 0)) := by show _ = _; unfold deskAll; rw [if_pos Hd.out, Hd0.out]
    have Hinv0 : Hid (DeskInv n roles d0) := by rw [← Hd0.out]; exact desk_begin roles Hd.out
    have Hd1 : Hid (d0.items = [] ∧ d0.case = (beginC n i).1) := by rw [← Hd0.out]; exact ⟨rfl, rfl⟩
    have hD : DeskV w2 (.agg #[.slice ra rl rc, .slice ra2 rl2 rc2, .slice none 0 0]) d0 := by
      rw [← Hd1.out.2] at hI hI2
      refine ⟨ra, rl, rc, ra2, rl2, rc2, none, 0, by rw [Hd1.out.1]; rfl, hI, hI2, ?_⟩
      rw [Hd1.out.1]
      exact ⟨none, 0, 0, rfl, rfl, by omega, ⟨by omega, by omega, fun _ => rfl⟩, fun j hj => absurd hj (Nat.not_lt_zero _)⟩
    clear hI hI2 Hd Hd0
    obtain ⟨y1, y2, _, _, _⟩ := hc.facts
    have bk := below_new w2 (.cells #[.slice ra rl rc, .slice ra2 rl2 rc2, .slice none 0 0] 32)
    have hK := cellsAt_new w2 #[.slice ra rl rc, .slice ra2 rl2 rc2, .slice none 0 0] 32
    have hDo := fun g (hg : w2.heap.size ≤ g) => hD.offHigh hg
    obtain ⟨Bk, HBk⟩ : ∃ B, Hid (w2.heap.size = B) := ⟨_, rfl⟩
    have HBkw : Hid (w.heap.size + 1 < Bk) := by have := hR.lt; rw [HBk.out] at this; exact this
    rw [HBk.out] at hK hDo
    obtain ⟨w3, Hw3⟩ : ∃ v, Hid (w2.alloc (.cells #[.slice ra rl rc, .slice ra2 rl2 rc2, .slice none 0 0] 32) = v) := ⟨_, rfl⟩
    rw [Hw3.out] at bk hK
    obtain ⟨len, Hlen⟩ : ∃ l, Hid (os.length = l) := ⟨_, rfl⟩
    rw [Hlen.out] at hmx hsh hu ⊢
    go_upto_region 7 with fail
    rw [Hw3.out, HBk.out]
    clear Hw3 y1 y2 hc
    replace c0 := below_then c0 bk
    replace hR := hR.below bk
    replace hbn := hbn.below bk
    replace hD := hD.below bk
    have hDk := hDo Bk (Nat.le_refl _)
    clear bk hDo HBk
    have hown : w3.ownsRow w.heap.size 40 2 (.slice none 0 0) 0 (ansC ((ansL (deskPlay n roles d0 os).2).take 0)) := World.ownsRow_nil _ _ _ _
    have HX0 : Hid (DeskV w3 (.agg #[.slice ra rl rc, .slice ra2 rl2 rc2, .slice none 0 0]) (deskAt n roles d0 os 0)) := hD
    clear hD
    go_loopg [14, 32] len (fun gk ovs i' wr => ∃ (k : Nat) (ov : Value) (xa ya za : Option Addr) (xl xc yl yc zl zc : Nat), k + gk = len ∧ i' = .int .i64 (k : Int) ∧ ov = ovs ∧ Below w.heap.size w wr ∧ CellsAt wr w.heap.size #[.int .i64 n.places, tv] 24 ∧ CellsAt wr (w.heap.size + 1) #[.slice none 0 0, .slice none 0 0, .slice none 0 0] 32 ∧ CellsAt wr Bk #[.slice xa xl xc, .slice ya yl yc, .slice za zl zc] 32 ∧
      Hid (DeskV wr (.agg #[.slice xa xl xc, .slice ya yl yc, .slice za zl zc]) (deskAt n roles d0 os k)) ∧ DeskOff Bk (.agg #[.slice xa xl xc, .slice ya yl yc, .slice za zl zc]) ∧ DeskOff (w.heap.size + 1) (.agg #[.slice xa xl xc, .slice ya yl yc, .slice za zl zc]) ∧ (∀ g, ov.ownBlock = some g → DeskOff g (.agg #[.slice xa xl xc, .slice ya yl yc, .slice za zl zc])) ∧ wr.ownsRow w.heap.size 40 2 ov k (ansC ((ansL (deskPlay n roles d0 os).2).take k)))
    case atStart => exact ⟨0, _, _, _, _, _, _, _, _, _, _, by omega, rfl, rfl, c0, hbn, hR, hK, HX0, hDk, hDr, (fun g e => by simp [Value.ownBlock] at e), hown⟩
    case round =>
      clear c0 hbn hR hK HX0 hDk hDr hown
      obtain ⟨k, ov, xa, ya, za, xl, xc, yl, yc, zl, zc, hkg, rfl, rfl, c0, hbn, hR, hK, HD, hDk, hDr, hDo, hX⟩ := hrel
      have HBw : Hid (w.heap.size ≤ wr.heap.size) := c0.size
      by_cases hk : k < len
      · obtain ⟨ob, of, rfl, hol, p0, p1, p2, p3, p4⟩ := (hu.below c0).at hk
        have Hinv : Hid (DeskInv n roles (deskAt n roles d0 os k)) := DeskInv.play _ Hinv0.out
        have Hfew : Hid ((deskAt n roles d0 os k).items.length + 1 ≤ 5864062014805) := by
          have := deskAt_few (n := n) (roles := roles) (d := d0) (os := os) (by rw [Hd1.out.1]; rfl) k (by rw [Hlen.out]; omega)
          show _ ≤ _
          omega
        have Hnx : Hid (deskAt n roles d0 os (k + 1) = (deskDo n roles (deskAt n roles d0 os k) (dopAt os k)).1) := deskAt_succ n roles d0 (by rw [Hlen.out]; exact hk)
        have Han : Hid (opAt (ansL (deskPlay n roles d0 os).2) k = ((deskDo n roles (deskAt n roles d0 os k) (dopAt os k)).2.err, (deskDo n roles (deskAt n roles d0 os k) (dopAt os k)).2.item)) := by
          show _ = _
          rw [ansL_at, ans_at n roles d0 (by rw [Hlen.out]; exact hk)]
        have HkA : Hid (k < (deskPlay n roles d0 os).2.length) := by show _ < _; rw [desk_length, Hlen.out]; exact hk
        obtain ⟨dk, Hdk⟩ : ∃ d, Hid (deskAt n roles d0 os k = d) := ⟨_, rfl⟩
        obtain ⟨op, Hop⟩ : ∃ o, Hid (dopAt os k = o) := ⟨_, rfl⟩
        rw [Hdk.out] at HD Hinv Hfew Hnx Han
        rw [Hop.out] at p0 p1 p2 p3 p4 Hnx Han
        have bo := below_new wr (.cells #[.int .i64 op.kind, .int .i64 op.user, .int .i64 op.tran, .int .i64 op.item, .int .i64 op.hand] 45)
        have hbx := cellsAt_new wr #[.int .i64 op.kind, .int .i64 op.user, .int .i64 op.tran, .int .i64 op.item, .int .i64 op.hand] 45
        obtain ⟨Bx, HBx⟩ : ∃ B, Hid (wr.heap.size = B) := ⟨_, rfl⟩
        rw [HBx.out] at hbx
        obtain ⟨wo, Hwo⟩ : ∃ v, Hid (wr.alloc (.cells #[.int .i64 op.kind, .int .i64 op.user, .int .i64 op.tran, .int .i64 op.item, .int .i64 op.hand] 45) = v) := ⟨_, rfl⟩
        have swo : wo.heap.size = Bx + 1 := by rw [← Hwo.out, ← HBx.out]; simp
        rw [Hwo.out] at bo hbx
        have ba := below_new wo (.cells #[.int .i64 0, .int .i64 0] 40)
        have hba := cellsAt_new wo #[.int .i64 0, .int .i64 0] 40
        rw [swo] at hba
        obtain ⟨wp, Hwp⟩ : ∃ v, Hid (wo.alloc (.cells #[.int .i64 0, .int .i64 0] 40) = v) := ⟨_, rfl⟩
        rw [Hwp.out] at ba hba
        have hDa : DeskOff (Bx + 1) (.agg #[.slice xa xl xc, .slice ya yl yc, .slice za zl zc]) := HD.out.offHigh (by rw [HBx.out]; omega)
        have HXa : Hid (ov.ownBlock ≠ some (Bx + 1)) := fun e => by have := (hX.lt _ e).2; rw [HBx.out] at this; omega
        have HXk : Hid (ov.ownBlock ≠ some Bk) := row_block hX hK (by decide)
        have bb := below_then bo ba
        go_upto_region 9 with fail
        rw [Hwo.out, HBx.out]
        go_upto_region 10 with fail
        first | rw [swo, Hwp.out] | rw [Hwp.out]
        clear Hwo Hwp p0 p1 p2 p3 p4 hol
        replace c0 := below_then c0 bb
        replace hR := hR.below bb
        replace hbn := hbn.below bb
        have HBkx : Hid (Bk < Bx) := by have := hK.lt; rw [HBx.out] at this; exact this
        replace hK := hK.below bb
        replace HD : Hid (DeskV wp _ dk) := HD.out.below bb
        replace hX := own_trans hX bb
        replace hbx := hbx.below ba
        clear bo ba bb swo
        have x1 : wp.cell? ⟨w.heap.size, 0, none⟩ = some (.int .i64 n.places) := hbn.cell 0
        have x2 : wp.cell? ⟨w.heap.size, 1, none⟩ = some tv := hbn.cell 1
        have o0 : wp.cell? ⟨Bx, 0, none⟩ = some (.int .i64 op.kind) := hbx.cell 0
        have o1 : wp.cell? ⟨Bx, 1, none⟩ = some (.int .i64 op.user) := hbx.cell 1
        have o2 : wp.cell? ⟨Bx, 2, none⟩ = some (.int .i64 op.tran) := hbx.cell 2
        have o3 : wp.cell? ⟨Bx, 3, none⟩ = some (.int .i64 op.item) := hbx.cell 3
        have o4 : wp.cell? ⟨Bx, 4, none⟩ = some (.int .i64 op.hand) := hbx.cell 4
        have k0 : wp.cell? ⟨Bk, 0, none⟩ = some (.slice xa xl xc) := hK.cell 0
        have k1 : wp.cell? ⟨Bk, 1, none⟩ = some (.slice ya yl yc) := hK.cell 1
        have k2 : wp.cell? ⟨Bk, 2, none⟩ = some (.slice za zl zc) := hK.cell 2
        go_wp2_with fail
        refine (qdo_any _ r _ n roles dk op wp (by exact ⟨_, rfl, hT.below c0⟩) (by exact hr.below c0) (by exact HD.out) hsm Hinv.out Hfew).mono ?_
        rintro e w4 ⟨rv, rfl, hD4, b, hoff⟩
        have hwp : Bx + 1 < wp.heap.size := hba.lt
        have hD4a := hoff (Bx + 1) hwp hDa
        have hD4k := hoff Bk hK.lt hDk
        have hD4r := hoff (w.heap.size + 1) hR.lt hDr
        have hD4o : ∀ g, ov.ownBlock = some g → DeskOff g rv := fun g e => hoff g (hX.lt g e).2 (hDo g e)
        obtain ⟨sa, sl, sc, ta, tl, tc, qa, ql, qc, rfl⟩ := hD4.slices
        replace c0 := below_then c0 b
        replace hR := hR.below b
        replace hbn := hbn.below b
        replace hK := hK.below b
        replace hba := hba.below b
        replace hX := own_trans hX b
        clear x1 x2 o0 o1 o2 o3 o4 k0 k1 k2 hbx hDo hDa hDk hDr HD hoff b
        obtain ⟨E, HE⟩ : ∃ z, Hid ((deskDo n roles dk op).2.err = z) := ⟨_, rfl⟩
        obtain ⟨I, HI⟩ : ∃ z, Hid ((deskDo n roles dk op).2.item = z) := ⟨_, rfl⟩
        rw [HE.out, HI.out] at Han
        rw [HE.out, HI.out]
        rw [← Hnx.out] at hD4
        have k0 : w4.cell? ⟨Bk, 0, none⟩ = some (.slice xa xl xc) := hK.cell 0
        have k1 : w4.cell? ⟨Bk, 1, none⟩ = some (.slice ya yl yc) := hK.cell 1
        have k2 : w4.cell? ⟨Bk, 2, none⟩ = some (.slice za zl zc) := hK.cell 2
        have f0 := hK.frozen 0
        have f1 := hK.frozen 1
        have f2 := hK.frozen 2
        have a0 : w4.cell? ⟨Bx + 1, 0, none⟩ = some (.int .i64 0) := hba.cell 0
        have a1 : w4.cell? ⟨Bx + 1, 1, none⟩ = some (.int .i64 0) := hba.cell 1
        have g0 := hba.frozen 0
        have g1 := hba.frozen 1
        obtain ⟨W3, HW3⟩ : ∃ W, ((w4.setCell ⟨Bk, 0, none⟩ (.slice sa sl sc)).setCell ⟨Bk, 1, none⟩ (.slice ta tl tc)).setCell ⟨Bk, 2, none⟩ (.slice qa ql qc) = W := ⟨_, rfl⟩
        obtain ⟨hK3, c3, hs3, hk3⟩ := desk_fill hK c0 (by have := HBkw.out; omega) HW3
        obtain ⟨W5, HW5⟩ : ∃ W, Hid (((((w4.setCell ⟨Bk, 0, none⟩ (.slice sa sl sc)).setCell ⟨Bk, 1, none⟩ (.slice ta tl tc)).setCell ⟨Bk, 2, none⟩ (.slice qa ql qc)).setCell ⟨Bx + 1, 0, none⟩ (.int .i64 E)).setCell ⟨Bx + 1, 1, none⟩ (.int .i64 I) = W) := ⟨_, rfl⟩
        have e5 : (W3.setCell ⟨Bx + 1, 0, none⟩ (.int .i64 E)).setCell ⟨Bx + 1, 1, none⟩ (.int .i64 I) = W5 := by rw [← HW3]; exact HW5.out
        have hne1 : Bx + 1 ≠ Bk := by have := HBkx.out; omega
        have hX3 := row_put (row_put (row_put hX (p := ⟨Bk, 0, none⟩) HXk.out (.slice sa sl sc)) (p := ⟨Bk, 1, none⟩) HXk.out (.slice ta tl tc)) (p := ⟨Bk, 2, none⟩) HXk.out (.slice qa ql qc)
        rw [HW3] at hX3
        have hX5 := row_put (row_put hX3 (p := ⟨Bx + 1, 0, none⟩) HXa.out (.int .i64 E)) (p := ⟨Bx + 1, 1, none⟩) HXa.out (.int .i64 I)
        have hK5 := (hK3.set (p := ⟨Bx + 1, 0, none⟩) hne1 (.int .i64 E)).set (p := ⟨Bx + 1, 1, none⟩) hne1 (.int .i64 I)
        have hBa3 : CellsAt W3 (Bx + 1) #[.int .i64 0, .int .i64 0] 40 := (hk3 _ hne1).trans hba
        have hBa5 := (hBa3.put 0 (.int .i64 E)).put 1 (.int .i64 I)
        have c5 := (c3.setCell (p := ⟨Bx + 1, 0, none⟩) (by show w.heap.size ≤ Bx + 1; have := HBkw.out; have := HBkx.out; omega) (.int .i64 E)).setCell (p := ⟨Bx + 1, 1, none⟩) (by show w.heap.size ≤ Bx + 1; have := HBkw.out; have := HBkx.out; omega) (.int .i64 I)
        have hk5 : ∀ k, k ≠ Bk → k ≠ Bx + 1 → W5.heap[k]? = w4.heap[k]? := fun k h1 h2 => by
          rw [← e5, Below.heap_setCell _ ⟨Bx + 1, 1, none⟩ _ k h2, Below.heap_setCell _ ⟨Bx + 1, 0, none⟩ _ k h2]
          exact hk3 k h1
        have hs5 : W5.heap.size = w4.heap.size := by rw [← e5]; simp [World.setCell]; exact hs3
        rw [e5] at hX5 hK5 hBa5 c5
        have hBa5 : CellsAt W5 (Bx + 1) #[.int .i64 E, .int .i64 I] 40 := hBa5
        have hR5 : CellsAt W5 (w.heap.size + 1) #[.slice none 0 0, .slice none 0 0, .slice none 0 0] 32 := (hk5 _ (by have := HBkw.out; omega) (by have := HBkw.out; have := HBkx.out; omega)).trans hR
        have hbn5 : CellsAt W5 w.heap.size #[.int .i64 n.places, tv] 24 := (hk5 _ (by have := HBkw.out; omega) (by have := HBkw.out; have := HBkx.out; omega)).trans hbn
        have hD5 : DeskV W5 (.agg #[.slice sa sl sc, .slice ta tl tc, .slice qa ql qc]) (deskAt n roles d0 os (k + 1)) := hD4.keepOff (Bad := fun g => g = Bk ∨ g = Bx + 1) (Nat.le_of_eq hs5.symm) (fun k _ hb => hk5 k (fun q => hb (.inl q)) (fun q => hb (.inr q))) (fun g hb => by rcases hb with rfl | rfl; exact hD4k; exact hD4a)
        clear hX3 hK3 hBa3 c3 hk3 hs3 HW3 e5 hR hbn hK hba hX hD4 c0 hk5 hs5
        have hX5' := ansTake HkA.out Han.out
        go_upto_region 11 with fail
        rw [HW5.out]
        clear HW5 k0 k1 k2 f0 f1 f2 a0 a1 g0 g1
        have b0 : W5.cell? ⟨Bx + 1, 0, none⟩ = some (.int .i64 E) := hBa5.cell 0
        have b1 : W5.cell? ⟨Bx + 1, 1, none⟩ = some (.int .i64 I) := hBa5.cell 1
        have HL1 : Hid (k + 1 ≤ maxLen) := by show _ ≤ _; unfold maxLen; omega
        have HL2 : Hid ((k + 1) * 16 ≤ 140737488355328) := by show _ ≤ _; omega
        have HX1 : ∀ u ∈ (#[.int .i64 E, .int .i64 I] : Array Value).toList, u.oneCell' = true := (fun u hu => by simp at hu; rcases hu with rfl | rfl <;> rfl)
        have Hn1 : Hid (ov.ownBlock ≠ some w.heap.size) := row_block hX5 hbn5 (by decide)
        have Hn2 : Hid (ov.ownBlock ≠ some (w.heap.size + 1)) := row_block hX5 hR5 (by decide)
        go_wp2_with (at_builtin; refine wp_append_one elem_dans rfl _ _ rfl w.heap.size W5 ov k _ #[.int .i64 E, .int .i64 I] hX5 c5.size rfl HX1 rfl rfl HL1.out HL2.out ?_; intro v' w6 hX6 hs6 hk6 hB6 hat6)
        rw [show ansC ((ansL (deskPlay n roles d0 os).2).take k) ++ (#[.int .i64 E, .int .i64 I] : Array Value).toList = ansC ((ansL (deskPlay n roles d0 os).2).take (k + 1)) from hX5'.symm] at hX6
        have c6 := hB6 _ c5
        have hbn6 : CellsAt w6 w.heap.size #[.int .i64 n.places, tv] 24 := (hk6 _ hbn5.lt Hn1.out).trans hbn5
        have hR6 : CellsAt w6 (w.heap.size + 1) #[.slice none 0 0, .slice none 0 0, .slice none 0 0] 32 := (hk6 _ hR5.lt Hn2.out).trans hR5
        have hK6 : CellsAt w6 Bk #[.slice sa sl sc, .slice ta tl tc, .slice qa ql qc] 32 := (hk6 _ hK5.lt HXk.out).trans hK5
        have HD6 : Hid (DeskV w6 (.agg #[.slice sa sl sc, .slice ta tl tc, .slice qa ql qc]) (deskAt n roles d0 os (k + 1))) := hD5.keepOff (Bad := fun g => ov.ownBlock = some g) hs6 (fun k hk hb => hk6 k hk hb) hD4o
        have hDo6 : ∀ g, v'.ownBlock = some g → DeskOff g (.agg #[.slice sa sl sc, .slice ta tl tc, .slice qa ql qc]) := fun g e => by
          rcases hat6 with q | q
          · exact hD4o g (by rw [← q]; exact e)
          · rw [q] at e; injection e with e; exact hD5.offHigh (by omega)
        clear hX5 hbn5 hR5 hK5 hD5 c5 hBa5 b0 b1 hX5'
        go_wp2
        go_roundg (gk - 1)
        case measure => omega
        case rel => exact ⟨k + 1, _, _, _, _, _, _, _, _, _, _, by omega, by go_num, rfl, c6, hbn6, hR6, hK6, HD6, hD4k, hD4r, hDo6, hX6⟩
      · obtain rfl : k = len := by omega
        have e0 : Hid (deskAt n roles d0 os k = (deskPlay n roles d0 os).1) := deskAt_all n roles d0 (by rw [Hlen.out]; exact Nat.le_refl _)
        rw [e0.out] at HD
        have Hal : Hid ((deskPlay n roles d0 os).2.length = k) := by show _ = _; rw [desk_length, Hlen.out]
        rw [List.take_of_length_le (by rw [ansL_length, Hal.out]; exact Nat.le_refl _)] at hX
        obtain ⟨la, ll, lc, rfl⟩ := ownsRow_slice hX
        obtain rfl : ll = k := row_len hX
        have k0 : wr.cell? ⟨Bk, 0, none⟩ = some (.slice xa xl xc) := hK.cell 0
        have k1 : wr.cell? ⟨Bk, 1, none⟩ = some (.slice ya yl yc) := hK.cell 1
        have k2 : wr.cell? ⟨Bk, 2, none⟩ = some (.slice za zl zc) := hK.cell 2
        have r0 : wr.cell? ⟨w.heap.size + 1, 0, none⟩ = some (.slice none 0 0) := hR.cell 0
        have r1 : wr.cell? ⟨w.heap.size + 1, 1, none⟩ = some (.slice none 0 0) := hR.cell 1
        have r2 : wr.cell? ⟨w.heap.size + 1, 2, none⟩ = some (.slice none 0 0) := hR.cell 2
        have f0 := hR.frozen 0
        have f1 := hR.frozen 1
        have f2 := hR.frozen 2
        obtain ⟨W, HW⟩ : ∃ W, Hid (((wr.setCell ⟨w.heap.size + 1, 0, none⟩ (.slice xa xl xc)).setCell ⟨w.heap.size + 1, 1, none⟩ (.slice ya yl yc)).setCell ⟨w.heap.size + 1, 2, none⟩ (.slice za zl zc) = W) := ⟨_, rfl⟩
        obtain ⟨z1, z2, z3, z4⟩ := desk_fill hR c0 (by omega) HW.out
        have hnR : (Value.slice la ll lc).ownBlock ≠ some (w.heap.size + 1) := row_block hX hR (by decide)
        have hX' := row_put (row_put (row_put hX (p := ⟨w.heap.size + 1, 0, none⟩) hnR (.slice xa xl xc)) (p := ⟨w.heap.size + 1, 1, none⟩) hnR (.slice ya yl yc)) (p := ⟨w.heap.size + 1, 2, none⟩) hnR (.slice za zl zc)
        rw [HW.out] at hX'
        have hD' : DeskV W (.agg #[.slice xa xl xc, .slice ya yl yc, .slice za zl zc]) (deskPlay n roles d0 os).1 := HD.out.keepOff (Bad := fun g => g = w.heap.size + 1) (Nat.le_of_eq z3.symm) (fun k _ hb => z4 k hb) (fun g hb => by subst hb; exact hDr)
        have hA := answers_of (l := ansL (deskPlay n roles d0 os).2) (by rw [ansL_length, Hal.out]; exact hX') (by rw [ansL_length, Hal.out]; omega)
        clear hX hR hK hbn c0 hX' HD
        go_wp2
        rw [HW.out]
        exact bodyPost_ret (v := .tuple #[.agg #[.slice xa xl xc, .slice ya yl yc, .slice za zl zc], .slice la ll lc, .int .i64 0]) (results_desk3 rfl rfl rfl rfl (z1.cell 0) (z1.cell 1) (z1.cell 2)) rfl ⟨.agg #[.slice xa xl xc, .slice ya yl yc, .slice za zl zc], la, lc, by rw [Hall.out]; simp only [Hal.out], by rw [Hall.out]; exact hD', by rw [Hall.out]; simp only [Hal.out]; exact hA, z2⟩
  · have E : Hid (deskAll n i roles os = (noDesk, [], d)) := by show _ = _; unfold deskAll; rw [if_neg (by rw [Hd.out]; exact hd), Hd.out]
    have hd' : (d == 0) = false := by simpa using hd
    have hd2 : (d != 0) = true := by simpa using hd
    have r0 : w2.cell? ⟨w.heap.size + 1, 0, none⟩ = some (.slice none 0 0) := hR.cell 0
    have r1 : w2.cell? ⟨w.heap.size + 1, 1, none⟩ = some (.slice none 0 0) := hR.cell 1
    have r2 : w2.cell? ⟨w.heap.size + 1, 2, none⟩ = some (.slice none 0 0) := hR.cell 2
    have f0 := hR.frozen 0
    have f1 := hR.frozen 1
    have f2 := hR.frozen 2
    obtain ⟨W, HW⟩ : ∃ W, Hid (((w2.setCell ⟨w.heap.size + 1, 0, none⟩ (.slice none 0 0)).setCell ⟨w.heap.size + 1, 1, none⟩ (.slice none 0 0)).setCell ⟨w.heap.size + 1, 2, none⟩ (.slice none 0 0) = W) := ⟨_, rfl⟩
    obtain ⟨z1, z2, z3, z4⟩ := desk_fill hR c0 (by omega) HW.out
    have hno : DeskV W (.agg #[.slice none 0 0, .slice none 0 0, .slice none 0 0]) noDesk := ⟨none, 0, 0, none, 0, 0, none, 0, rfl, Ints.nil _, Ints.nil _, none, 0, 0, rfl, rfl, by omega, ⟨by omega, by omega, fun _ => rfl⟩, fun j hj => absurd hj (Nat.not_lt_zero _)⟩
    have hA : OpsV W (.slice none 0 0) (ansL []) := ⟨none, 0, 0, rfl, rfl, by omega, ⟨by omega, by omega, fun _ => rfl⟩, fun j hj => absurd hj (Nat.not_lt_zero _)⟩
    clear hI hI2 hc hbn Hd hR c0
    go_wp2
    rw [HW.out]
    exact bodyPost_ret (v := .tuple #[.agg #[.slice none 0 0, .slice none 0 0, .slice none 0 0], .slice none 0 0, .int .i64 d]) (results_desk3 rfl rfl rfl rfl (z1.cell 0) (z1.cell 1) (z1.cell 2)) rfl ⟨.agg #[.slice none 0 0, .slice none 0 0, .slice none 0 0], none, 0, by rw [E.out]; rfl, by rw [E.out]; exact hno, by rw [E.out]; exact hA, z2⟩

end Go.Proofs.Ytaladbcocealnaa
