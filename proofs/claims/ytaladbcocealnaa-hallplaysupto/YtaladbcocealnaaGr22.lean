import Derived.Test.YtaladbcocealnaaGr21
import Derived.Test.YtaladbcocealnaaGr02
import Derived.BigQuiet
import Derived.Test.YtaladbcocealnaaGr01
import Derived.Test.YtaladbcocealnaaGr07
import Derived.Maps.AppendAt
/- Package desk as it landed: what is ended, given back, handed on. (Made by tools/spot.py.) -/
namespace Go.Proofs.Ytaladbcocealnaa
open Go.RowKit
set_option linter.unusedVariables false
set_option linter.unusedSimpArgs false
set_option maxRecDepth 4000

section
variable {w : World} {Bo B : Nat} {P : Spot} {n : NetL} {roles : List (List Int)} {d : DeskL} {ma ba : Option Addr} {ml mc bl bc g cap : Nat} {tv : Value}
theorem OffRec.putItem (h : OffRec w Bo P B n roles d ma ba ml mc bl bc (.slice (some ⟨g, 0, none⟩) d.items.length cap) tv) {l : List ItemL} {j : Nat} {u : Value} (hl : l.length = d.items.length) (hc : (itemCells d.items).set j u = itemCells l) :
    OffRec (w.setCell ⟨g, j, none⟩ u) Bo P B n roles ⟨d.case, l⟩ ma ba ml mc bl bc (.slice (some ⟨g, 0, none⟩) d.items.length cap) tv := by
  have hne : g ≠ Bo := fun e => h.ne (by show some g = some Bo; rw [e])
  have hg := (h.row.lt g rfl).1
  have hlo := h.lo
  refine ⟨h.cells.set (p := ⟨g, j, none⟩) hne u, h.mark.setOff (h.offM g rfl) (p := ⟨g, j, none⟩) rfl u, h.busy.setOff (h.offB g rfl) (p := ⟨g, j, none⟩) rfl u, h.trans.set (a := ⟨g, j, none⟩) (by show ¬ g < Bo; omega) u, ?_, h.offM, h.offB, hlo⟩
  have := ownsRow_put h.row j u
  rw [hc] at this
  show World.ownsRow _ B 78 3 _ l.length _
  rw [hl]
  exact this
theorem OffRec.itemCell (h : OffRec w Bo P B n roles d ma ba ml mc bl bc (.slice (some ⟨g, 0, none⟩) d.items.length cap) tv) {k : Nat} (hk : k < d.items.length) :
    w.cell? ⟨g, k * 3, none⟩ = some (.int .i64 (itemAt d.items k).user) ∧ w.cell? ⟨g, k * 3 + 1, none⟩ = some (.int .i64 (itemAt d.items k).tran) ∧ w.cell? ⟨g, k * 3 + 2, none⟩ = some (.bool (itemAt d.items k).opn) ∧ (∀ j, w.frozen? ⟨g, j, none⟩ = false) ∧ g < w.heap.size := by
  obtain ⟨s1, s2, s3⟩ := itemCells_at d.items k hk
  refine ⟨(h.row.cellAt (k * 3) (by omega)).trans s1, (h.row.cellAt (k * 3 + 1) (by omega)).trans s2, (h.row.cellAt (k * 3 + 2) (by omega)).trans s3, fun j => ?_, (h.row.lt g rfl).2⟩
  rcases h.row.2 with ⟨e, _⟩ | ⟨g', cap', cur, e, _, hh, _⟩
  · cases e
  · injection e with e _ _
    injection e with e
    injection e with e
    subst e
    simp [World.frozen?, hh]
end
theorem KeepO.putG {Bo : Nat} {iv : Value} {w w1 : World} (h : KeepO Bo iv w w1) {g : Nat} (hg : iv.ownBlock = some g) (j : Nat) (u : Value) : KeepO Bo iv w (w1.setCell ⟨g, j, none⟩ u) :=
  ⟨h.rest.setCell (p := ⟨g, j, none⟩) (Nat.zero_le _) u, fun k hk h1 h2 => (Below.heap_setCell w1 ⟨g, j, none⟩ u k (by show k ≠ g; intro e; apply h2; rw [e]; exact hg)).trans (h.block k hk h1 h2)⟩

theorem do_heldE {n : NetL} {roles : List (List Int)} {d : DeskL} {o : DOp} (h : o.kind = 2 ∨ o.kind = 3 ∨ o.kind = 4) (he : heldE d o ≠ 0) : deskDo n roles d o = (d, ⟨heldE d o, 0⟩) := by
  have e : deskErr n roles d o = heldE d o := by
    unfold deskErr
    rw [if_neg (by omega), if_neg (by omega), if_neg (by omega)]
    unfold heldE at he ⊢
    by_cases h1 : o.item < 0 ∨ (d.items.length : Int) ≤ o.item ∨ (itemAt d.items o.item.toNat).opn = false
    · rw [if_pos h1, if_pos h1]
    · rw [if_neg h1] at he ⊢
      rw [if_neg h1]
      by_cases h2 : (itemAt d.items o.item.toNat).user ≠ o.user
      · rw [if_pos h2, if_pos h2]
      · rw [if_neg h2] at he; exact absurd rfl he
  unfold deskDo; rw [e, if_pos he]
theorem err_held {n : NetL} {roles : List (List Int)} {d : DeskL} {o : DOp} (h : o.kind = 2 ∨ o.kind = 3 ∨ o.kind = 4) (he : heldE d o = 0) :
    deskErr n roles d o = if o.kind = 4 ∧ mayL roles o.hand (tranAt n.trans (itemAt d.items o.item.toNat).tran.toNat).label = false then 6 else 0 := by
  unfold deskErr
  rw [if_neg (by omega), if_neg (by omega), if_neg (by omega)]
  unfold heldE at he
  by_cases h1 : o.item < 0 ∨ (d.items.length : Int) ≤ o.item ∨ (itemAt d.items o.item.toNat).opn = false
  · rw [if_pos h1] at he; cases he
  · rw [if_neg h1] at he
    rw [if_neg h1]
    by_cases h2 : (itemAt d.items o.item.toNat).user ≠ o.user
    · rw [if_pos h2] at he; cases he
    · rw [if_neg h2]
theorem do_leave0 {n : NetL} {roles : List (List Int)} {d : DeskL} {o : DOp} {kd : Int} {k : Nat} (h : (o.kind = 2 ∧ kd = 3) ∨ (o.kind = 3 ∧ kd = 4)) (he : heldE d o = 0) (hi : o.item = (k : Int)) :
    deskDo n roles d o = if (doC n d.case kd (itemAt d.items k).tran).2 = 0 then (⟨(doC n d.case kd (itemAt d.items k).tran).1, d.items.set k ⟨(itemAt d.items k).user, (itemAt d.items k).tran, false⟩⟩, ⟨0, (k : Int)⟩) else (d, ⟨(doC n d.case kd (itemAt d.items k).tran).2, 0⟩) := by
  have e : deskErr n roles d o = 0 := by rw [err_held (by omega) he, if_neg (by omega)]
  have ec : caseOp d o = (kd, (itemAt d.items k).tran) := by
    unfold caseOp
    rw [hi, Int.toNat_natCast]
    rcases h with ⟨h1, rfl⟩ | ⟨h1, rfl⟩
    · rw [if_neg (by omega), if_pos h1]
    · rw [if_neg (by omega), if_neg (by omega), if_pos h1]
  unfold deskDo
  rw [e, if_neg (by decide), if_neg (by omega), ec]
  by_cases hz : (doC n d.case kd (itemAt d.items k).tran).2 = 0
  · rw [if_neg (fun q => q hz), if_pos hz]
    unfold newItems toldItem
    rw [if_neg (by omega), if_pos (by omega), if_neg (by omega), if_neg (by omega), hi, Int.toNat_natCast]
  · rw [if_pos hz, if_neg hz]
theorem do_give6 {n : NetL} {roles : List (List Int)} {d : DeskL} {o : DOp} {k t : Nat} (h : o.kind = 4) (he : heldE d o = 0) (hi : o.item = (k : Int)) (ht : (itemAt d.items k).tran = (t : Int)) (hm : mayL roles o.hand (tranAt n.trans t).label = false) : deskDo n roles d o = (d, ⟨6, 0⟩) := by
  have e : deskErr n roles d o = 6 := by rw [err_held (by omega) he, hi, Int.toNat_natCast, ht, Int.toNat_natCast, if_pos ⟨h, hm⟩]
  unfold deskDo; rw [e, if_pos (by decide)]
theorem do_give0 {n : NetL} {roles : List (List Int)} {d : DeskL} {o : DOp} {k t : Nat} (h : o.kind = 4) (he : heldE d o = 0) (hi : o.item = (k : Int)) (ht : (itemAt d.items k).tran = (t : Int)) (hm : mayL roles o.hand (tranAt n.trans t).label = true) :
    deskDo n roles d o = (⟨d.case, d.items.set k ⟨o.hand, (itemAt d.items k).tran, true⟩⟩, ⟨0, (k : Int)⟩) := by
  have e : deskErr n roles d o = 0 := by rw [err_held (by omega) he, hi, Int.toNat_natCast, ht, Int.toNat_natCast, if_neg (fun q => by rw [hm] at q; cases q.2)]
  unfold deskDo
  rw [e, if_neg (by decide), if_pos h]
  unfold newItems toldItem
  rw [if_neg (by omega), if_neg (by omega), if_pos h, if_neg (by omega), if_neg (by omega), hi, Int.toNat_natCast]

set_option maxHeartbeats 8000000 in
theorem leave_any {Bo B : Nat} {P : Spot} {n : NetL} {roles : List (List Int)} {d : DeskL} {iv : Value} {Far : Nat → Prop} (o : DOp) (kd : Int) (w : World) (h : Office w Bo P B n roles d iv Far) (hkd : (o.kind = 2 ∧ kd = 3) ∨ (o.kind = 3 ∧ kd = 4)) :
    Calls Try.prog 56 #[.pointer (some ⟨Bo, P.off, none⟩), dopV o, .int .i64 kd] w fun e w' => e = .returned (.tuple #[.int .i64 (deskDo n roles d o).2.item, .int .i64 (deskDo n roles d o).2.err]) ∧ OffAns w Bo P B n roles iv Far (deskDo n roles d o) w' := by
  obtain ⟨ma, ba, ml, mc, bl, bc, tv, h, hfar⟩ := h
  obtain ⟨kd0, us, tr, it, hd⟩ := o
  have c0 := below_new w (.cells (dopArr ⟨kd0, us, tr, it, hd⟩) 45)
  have hop := cellsAt_new w (dopArr ⟨kd0, us, tr, it, hd⟩) 45
  obtain ⟨w0, Hw0⟩ : ∃ v, Hid (w.alloc (.cells #[.int .i64 kd0, .int .i64 us, .int .i64 tr, .int .i64 it, .int .i64 hd] 45) = v) := ⟨_, rfl⟩
  have hw0 : w.alloc (.cells (dopArr ⟨kd0, us, tr, it, hd⟩) 45) = w0 := Hw0.out
  rw [hw0] at c0 hop
  have h0 := h.below c0
  have HNop : Hid (iv.ownBlock ≠ some w.heap.size) := fun e => by have := (h.row.lt _ e).2; omega
  have hopn : w.heap.size ≠ Bo := fun e => by have := h.cells.lt; omega
  have o0 : w0.cell? ⟨w.heap.size, 0, none⟩ = some (.int .i64 kd0) := hop.cell 0
  have o1 : w0.cell? ⟨w.heap.size, 1, none⟩ = some (.int .i64 us) := hop.cell 1
  have o2 : w0.cell? ⟨w.heap.size, 2, none⟩ = some (.int .i64 tr) := hop.cell 2
  have o3 : w0.cell? ⟨w.heap.size, 3, none⟩ = some (.int .i64 it) := hop.cell 3
  have o4 : w0.cell? ⟨w.heap.size, 4, none⟩ = some (.int .i64 hd) := hop.cell 4
  clear hw0
  have Hkd : Hid ((kd0 = 2 ∧ kd = 3) ∨ (kd0 = 3 ∧ kd = 4)) := hkd
  clear hkd
  show Calls _ _ #[_, .agg #[.int .i64 kd0, .int .i64 us, .int .i64 tr, .int .i64 it, .int .i64 hd], _] _ _
  go_enter Try.func56, Try.ntmps56
  go_upto_region 1 with fail
  rw [Hw0.out]
  clear Hw0
  go_wp2_with fail
  refine (held_any ⟨kd0, us, tr, it, hd⟩ w0 h0).mono ?_
  rintro e w1 ⟨p, rfl, b, hH⟩
  replace c0 := below_then c0 b
  have h1 := h0.below b
  replace hop := hop.below b
  clear b o0 o1 o2 o3 o4 h0
  obtain ⟨E, HE⟩ : ∃ E, Hid (heldE d ⟨kd0, us, tr, it, hd⟩ = E) := ⟨_, rfl⟩
  rw [HE.out] at hH ⊢
  by_cases hE : E = 0
  · subst hE
    obtain ⟨k, g, cap, hi, hk, hiv, rfl, _, _⟩ := hH rfl
    have hi : it = (k : Int) := hi
    subst hi hiv
    have E0 : Hid _ := do_leave0 (n := n) (roles := roles) (d := d) (o := ⟨kd0, us, tr, (k : Int), hd⟩) Hkd.out HE.out rfl
    obtain ⟨c0', c1', c2', cf, hgl⟩ := h1.itemCell hk
    obtain ⟨T, HT⟩ : ∃ T, Hid ((itemAt d.items k).tran = T) := ⟨_, rfl⟩
    rw [HT.out] at c1' E0
    clear c0' c2' cf
    go_wp2_with fail
    refine (work_any (Far := Far) kd T w1 h1 (hfar.up c0.size)).mono ?_
    rintro e w3 ⟨rfl, hOf, K3, hg3⟩
    obtain ⟨E, HE2⟩ : ∃ E, Hid ((doC n d.case kd T).2 = E) := ⟨_, rfl⟩
    have Hwd : Hid (workD n d kd T = if E = 0 then ⟨(doC n d.case kd T).1, d.items⟩ else d) := by show _ = _; unfold workD; rw [HE2.out]
    rw [HE2.out] at E0 ⊢
    have KO := (KeepO.of (Bo := Bo) (iv := .slice (some ⟨g, 0, none⟩) d.items.length cap) c0).then K3
    replace hop : CellsAt w3 w.heap.size (dopArr ⟨kd0, us, tr, (k : Int), hd⟩) 45 := (K3.block _ hop.lt hopn HNop.out).trans hop
    by_cases hE2 : E = 0
    · subst hE2
      rw [if_pos rfl] at E0 Hwd
      rw [Hwd.out] at hOf
      obtain ⟨ma3, ba3, ml3, mc3, bl3, bc3, tv3, h3, hfar3⟩ := hOf
      obtain ⟨c', Hc'⟩ : ∃ c', Hid ((doC n d.case kd T).1 = c') := ⟨_, rfl⟩
      rw [Hc'.out] at h3 E0
      obtain ⟨e0, e1, e2, ef, egl⟩ := h3.itemCell (k := k) hk
      have ef2 := ef (k * 3 + 2)
      have R := h3.putItem (l := d.items.set k ⟨(itemAt d.items k).user, T, false⟩) (j := k * 3 + 2) (u := .bool false) (by simp) (by
        have := itemCells_open d.items k false hk
        rw [HT.out] at this
        exact this)
      have K4 := KO.putG (g := g) rfl (k * 3 + 2) (.bool false)
      have o3 : (w3.setCell ⟨g, k * 3 + 2, none⟩ (.bool false)).cell? ⟨w.heap.size, 3, none⟩ = some (.int .i64 (k : Int)) := by
        rw [World.cell?_setCell_other _ _ _ _ (by intro q; injection q with q _ _; exact HNop.out (by show some g = some w.heap.size; rw [q]))]
        exact hop.cell 3
      obtain ⟨W9, HW9⟩ : ∃ v, Hid (w3.setCell ⟨g, k * 3 + 2, none⟩ (.bool false) = v) := ⟨_, rfl⟩
      rw [HW9.out] at R K4 o3
      have hsz9 : w3.heap.size ≤ W9.heap.size := by rw [← HW9.out]; simp [World.setCell]
      have Hfin : Hid (OffAns w Bo P B n roles (.slice (some ⟨g, 0, none⟩) d.items.length cap) Far (deskDo n roles d ⟨kd0, us, tr, (k : Int), hd⟩) W9) := by
        rw [E0.out]
        exact ⟨_, ⟨_, _, _, _, _, _, _, R, hfar3.up hsz9⟩, K4, .inl rfl⟩
      have E1 : Hid ((deskDo n roles d ⟨kd0, us, tr, (k : Int), hd⟩).2.item = (k : Int) ∧ (deskDo n roles d ⟨kd0, us, tr, (k : Int), hd⟩).2.err = 0) := by rw [E0.out]; exact ⟨rfl, rfl⟩
      clear R K4 KO h3 hop h h1 K3 hg3 c0 e0 e1 ef c1'
      go_upto_region 8 with fail
      rw [HW9.out]
      go_wp2
      go_ret2
      exact ⟨by rw [E1.out.1, E1.out.2]; rfl, Hfin.out⟩
    · rw [if_neg hE2] at E0 Hwd
      rw [Hwd.out] at hOf
      have hE1 : (E == 0) = false := by simpa using hE2
      have hE3 : (E != 0) = true := by simpa using hE2
      go_wp2
      go_ret2
      rw [E0.out]
      exact ⟨rfl, _, hOf, KO, .inl rfl⟩
  · have E0 : Hid (deskDo n roles d ⟨kd0, us, tr, it, hd⟩ = (d, ⟨E, 0⟩)) := by
      have := do_heldE (n := n) (roles := roles) (d := d) (o := ⟨kd0, us, tr, it, hd⟩) (by have := Hkd.out; show kd0 = 2 ∨ kd0 = 3 ∨ kd0 = 4; omega) (by rw [HE.out]; exact hE)
      rw [HE.out] at this
      exact this
    have hE1 : (E == 0) = false := by simpa using hE
    have hE3 : (E != 0) = true := by simpa using hE
    clear hH
    go_wp2
    go_ret2
    rw [E0.out]
    exact ⟨rfl, iv, ⟨_, _, _, _, _, _, _, h1, hfar.up c0.size⟩, KeepO.of c0, .inl rfl⟩

set_option maxHeartbeats 8000000 in
theorem give_any {Bo B : Nat} {P : Spot} {n : NetL} {roles : List (List Int)} {d : DeskL} {iv : Value} {Far : Nat → Prop} (o : DOp) (w : World) (h : Office w Bo P B n roles d iv Far) (hinv : DeskInv n roles d) (hn : netOk n = true) (hkd : o.kind = 4) :
    Calls Try.prog 57 #[.pointer (some ⟨Bo, P.off, none⟩), dopV o] w fun e w' => e = .returned (.tuple #[.int .i64 (deskDo n roles d o).2.item, .int .i64 (deskDo n roles d o).2.err]) ∧ OffAns w Bo P B n roles iv Far (deskDo n roles d o) w' := by
  obtain ⟨ma, ba, ml, mc, bl, bc, tv, h, hfar⟩ := h
  obtain ⟨kd0, us, tr, it, hd⟩ := o
  have c0 := below_new w (.cells (dopArr ⟨kd0, us, tr, it, hd⟩) 45)
  have hop := cellsAt_new w (dopArr ⟨kd0, us, tr, it, hd⟩) 45
  obtain ⟨w0, Hw0⟩ : ∃ v, Hid (w.alloc (.cells #[.int .i64 kd0, .int .i64 us, .int .i64 tr, .int .i64 it, .int .i64 hd] 45) = v) := ⟨_, rfl⟩
  have hw0 : w.alloc (.cells (dopArr ⟨kd0, us, tr, it, hd⟩) 45) = w0 := Hw0.out
  rw [hw0] at c0 hop
  have h0 := h.below c0
  have HNop : Hid (iv.ownBlock ≠ some w.heap.size) := fun e => by have := (h.row.lt _ e).2; omega
  have hopn : w.heap.size ≠ Bo := fun e => by have := h.cells.lt; omega
  have o0 : w0.cell? ⟨w.heap.size, 0, none⟩ = some (.int .i64 kd0) := hop.cell 0
  have o1 : w0.cell? ⟨w.heap.size, 1, none⟩ = some (.int .i64 us) := hop.cell 1
  have o2 : w0.cell? ⟨w.heap.size, 2, none⟩ = some (.int .i64 tr) := hop.cell 2
  have o3 : w0.cell? ⟨w.heap.size, 3, none⟩ = some (.int .i64 it) := hop.cell 3
  have o4 : w0.cell? ⟨w.heap.size, 4, none⟩ = some (.int .i64 hd) := hop.cell 4
  clear hw0
  have hkd : kd0 = 4 := hkd
  subst hkd
  have Hn : Hid (netOk n = true) := hn
  have Hinv : Hid (DeskInv n roles d) := hinv
  clear hinv hn
  show Calls _ _ #[_, .agg #[.int .i64 4, .int .i64 us, .int .i64 tr, .int .i64 it, .int .i64 hd]] _ _
  go_enter Try.func57, Try.ntmps57
  go_upto_region 1 with fail
  rw [Hw0.out]
  clear Hw0
  go_wp2_with fail
  refine (held_any ⟨4, us, tr, it, hd⟩ w0 h0).mono ?_
  rintro e w1 ⟨p, rfl, b, hHd⟩
  replace c0 := below_then c0 b
  have h1 := h0.below b
  replace hop := hop.below b
  clear b o0 o1 o2 o3 o4 h0
  obtain ⟨E, HE⟩ : ∃ E, Hid (heldE d ⟨4, us, tr, it, hd⟩ = E) := ⟨_, rfl⟩
  rw [HE.out] at hHd ⊢
  by_cases hE : E = 0
  · subst hE
    obtain ⟨k, g, cap, hi, hk, hiv, rfl, hopn', _⟩ := hHd rfl
    have hi : it = (k : Int) := hi
    subst hi hiv
    clear hHd
    obtain ⟨t, hT, htl, _⟩ := Hinv.out.may k hk
    have Ht : Hid (t < n.trans.length) := htl
    have HT : Hid ((itemAt d.items k).tran = (t : Int)) := hT
    obtain ⟨c0', c1, c2', cf, hgl⟩ := h1.itemCell hk
    rw [hT] at c1
    obtain ⟨M, HM⟩ : ∃ M, Hid (mayL roles hd (tranAt n.trans t).label = M) := ⟨_, rfl⟩
    clear c0' c2' cf hT htl
    go_upto_region 4 with fail
    go_cut [25] (fun x wc => x = .bool (!M) ∧ Below w1.heap.size w1 wc)
    case first =>
      have HS : Hid (∀ w', Below w1.heap.size w1 w' → w'.cell? ⟨w.heap.size, 4, none⟩ = some (.int .i64 hd) ∧ w'.cell? ⟨g, k * 3 + 1, none⟩ = some (.int .i64 (t : Int))) := fun w' hb => ⟨(hop.below hb).cell 4, (hb.cell (p := ⟨g, _, none⟩) hgl).trans c1⟩
      refine wp_region_held_drew (S := (fun w' => w'.cell? ⟨w.heap.size, 4, none⟩ = some (.int .i64 hd) ∧ w'.cell? ⟨g, k * 3 + 1, none⟩ = some (.int .i64 (t : Int)))) (by kernel_rfl) (HS.out _ (Below.refl _ _).drew) (fun hH => ?_)
      have b : Below w1.heap.size w1 w1.drew := (Below.refl _ _).drew
      obtain ⟨v0, Hv0⟩ : ∃ v0, Hid (w1.drew = v0) := ⟨_, rfl⟩
      rw [Hv0.out] at hH b ⊢
      clear Hv0
      refine wpAnyH_take (i := 0) (v := .pointer (some ⟨Bo, P.off, none⟩)) rfl (by kernel_rfl) (by kernel_rfl) (by kernel_rfl) (fun _ _ _ h => h) (.inl ⟨by rfl, fun _ _ => rfl⟩) hH ?_
      simp only [List.getElem_toArray, List.getElem_cons_succ, List.getElem_cons_zero, Act.put, List.setIfInBounds_toArray, List.set_cons_zero, List.set_cons_succ]
      refine wpAnyH_take (i := 1) (v := .pointer (some ⟨w.heap.size, 4, none⟩)) rfl (by kernel_rfl) (by kernel_rfl) (by kernel_rfl) (fun _ _ _ h => h) (.inl ⟨by rfl, fun w' hS' => by first | (go_simp; done) | (go_simp; rfl) | (go_simp; intro h; omega) | (go_simp; omega)⟩) hH ?_
      simp only [List.getElem_toArray, List.getElem_cons_succ, List.getElem_cons_zero, Act.put, List.setIfInBounds_toArray, List.set_cons_zero, List.set_cons_succ]
      refine wpAnyH_take (i := 2) (v := .int .i64 hd) rfl (by kernel_rfl) (by kernel_rfl) (by kernel_rfl) (fun _ _ _ h => h) (.inl ⟨by rfl, fun w' hS' => by obtain ⟨s0, s1⟩ := hS'; go_simp⟩) hH ?_
      simp only [List.getElem_toArray, List.getElem_cons_succ, List.getElem_cons_zero, Act.put, List.setIfInBounds_toArray, List.set_cons_zero, List.set_cons_succ]
      refine wpAnyH_take (i := 3) (v := .pointer (some ⟨g, k * 3, none⟩)) rfl (by kernel_rfl) (by kernel_rfl) (by kernel_rfl) (fun _ _ _ h => h) (.inl ⟨by rfl, fun _ _ => rfl⟩) hH ?_
      simp only [List.getElem_toArray, List.getElem_cons_succ, List.getElem_cons_zero, Act.put, List.setIfInBounds_toArray, List.set_cons_zero, List.set_cons_succ]
      refine wpAnyH_take (i := 4) (v := .pointer (some ⟨g, k * 3, none⟩)) rfl (by kernel_rfl) (by kernel_rfl) (by kernel_rfl) (fun _ _ _ h => h) (.inl ⟨by rfl, fun w' hS' => by first | (go_simp; done) | (go_simp; rfl) | (go_simp; intro h; omega) | (go_simp; omega)⟩) hH ?_
      simp only [List.getElem_toArray, List.getElem_cons_succ, List.getElem_cons_zero, Act.put, List.setIfInBounds_toArray, List.set_cons_zero, List.set_cons_succ]
      refine wpAnyH_take (i := 5) (v := .pointer (some ⟨g, k * 3 + 1, none⟩)) rfl (by kernel_rfl) (by kernel_rfl) (by kernel_rfl) (fun _ _ _ h => h) (.inl ⟨by rfl, fun w' hS' => by first | (go_simp; done) | (go_simp; rfl) | (go_simp; intro h; omega) | (go_simp; omega)⟩) hH ?_
      simp only [List.getElem_toArray, List.getElem_cons_succ, List.getElem_cons_zero, Act.put, List.setIfInBounds_toArray, List.set_cons_zero, List.set_cons_succ]
      refine wpAnyH_take (i := 6) (v := .int .i64 (t : Int)) rfl (by kernel_rfl) (by kernel_rfl) (by kernel_rfl) (fun _ _ _ h => h) (.inl ⟨by rfl, fun w' hS' => by obtain ⟨s0, s1⟩ := hS'; go_simp⟩) hH ?_
      simp only [List.getElem_toArray, List.getElem_cons_succ, List.getElem_cons_zero, Act.put, List.setIfInBounds_toArray, List.set_cons_zero, List.set_cons_succ]
      refine wpAnyH_ready (rs := [7]) (by kernel_rfl) (by simp) ?_
      refine AllReadyH.cons rfl (fun K hK => ?_) AllReadyH.nil
      simp only [List.getElem_toArray, List.getElem_cons_succ, List.getElem_cons_zero]
      rw [if_pos (by rfl)]
      go_wp2_with fail
      refine (allowed_any hd t v0 (h1.below b) Hn.out Ht.out).mono ?_
      rintro e v1 ⟨rfl, hd2⟩
      have bs := below_of_drewN hd2
      clear hd2
      replace b := below_then b bs
      clear bs
      refine hK.out _ _ (HS.out _ b) (fun hH => ?_)
      rw [HM.out]
      clear hK
      refine wpAnyH_take (i := 8) (v := .bool (!M)) rfl (by kernel_rfl) (by kernel_rfl) (by kernel_rfl) (fun _ _ _ h => h) (.inl ⟨by rfl, fun w' hS' => by first | (go_simp; done) | (go_simp; rfl) | (go_simp; intro h; omega) | (go_simp; omega)⟩) hH ?_
      simp only [List.getElem_toArray, List.getElem_cons_succ, List.getElem_cons_zero, Act.put, List.setIfInBounds_toArray, List.set_cons_zero, List.set_cons_succ]
      refine wpAnyH_done (by kernel_rfl) ?_ _
      go_wp2_with fail
      go_meet
      exact ⟨rfl, b⟩
    case rest =>
      obtain ⟨rfl, b⟩ := hcut
      obtain ⟨w2, rfl⟩ : ∃ w2, w2 = wc := ⟨_, rfl⟩
      replace c0 := below_then c0 b
      have h2 := h1.below b
      replace hop := hop.below b
      clear b h1 c1 hgl
      cases M with
      | false =>
        have E0 : Hid (deskDo n roles d ⟨4, us, tr, (k : Int), hd⟩ = (d, ⟨6, 0⟩)) := do_give6 rfl HE.out rfl HT.out HM.out
        go_wp2
        go_ret2
        rw [E0.out]
        exact ⟨rfl, _, ⟨_, _, _, _, _, _, _, h2, hfar.up c0.size⟩, KeepO.of c0, .inl rfl⟩
      | true =>
        have E0 : Hid (deskDo n roles d ⟨4, us, tr, (k : Int), hd⟩ = _) := do_give0 rfl HE.out rfl HT.out HM.out
        obtain ⟨e0, e1, e2, ef, egl⟩ := h2.itemCell (k := k) hk
        have ef2 := ef (k * 3)
        have R := h2.putItem (l := d.items.set k ⟨hd, (itemAt d.items k).tran, true⟩) (j := k * 3) (u := .int .i64 hd) (by simp) (by
          have := itemCells_user d.items k hd hk
          rw [hopn'] at this
          exact this)
        have K4 := (KeepO.of (Bo := Bo) (iv := .slice (some ⟨g, 0, none⟩) d.items.length cap) c0).putG (g := g) rfl (k * 3) (.int .i64 hd)
        have o4 : w2.cell? ⟨w.heap.size, 4, none⟩ = some (.int .i64 hd) := hop.cell 4
        have o3 : (w2.setCell ⟨g, k * 3, none⟩ (.int .i64 hd)).cell? ⟨w.heap.size, 3, none⟩ = some (.int .i64 (k : Int)) := by
          rw [World.cell?_setCell_other _ _ _ _ (by intro q; injection q with q _ _; exact HNop.out (by show some g = some w.heap.size; rw [q]))]
          exact hop.cell 3
        obtain ⟨W9, HW9⟩ : ∃ v, Hid (w2.setCell ⟨g, k * 3, none⟩ (.int .i64 hd) = v) := ⟨_, rfl⟩
        rw [HW9.out] at R K4 o3
        have hsz9 : w2.heap.size ≤ W9.heap.size := by rw [← HW9.out]; simp [World.setCell]
        have Hfin : Hid (OffAns w Bo P B n roles (.slice (some ⟨g, 0, none⟩) d.items.length cap) Far (deskDo n roles d ⟨4, us, tr, (k : Int), hd⟩) W9) := by
          rw [E0.out]
          exact ⟨_, ⟨_, _, _, _, _, _, _, R, (hfar.up c0.size).up hsz9⟩, K4, .inl rfl⟩
        have E1 : Hid ((deskDo n roles d ⟨4, us, tr, (k : Int), hd⟩).2.item = (k : Int) ∧ (deskDo n roles d ⟨4, us, tr, (k : Int), hd⟩).2.err = 0) := by rw [E0.out]; exact ⟨rfl, rfl⟩
        clear R K4 h2 hop h c0 e1 e2 ef
        go_upto_region 7 with fail
        rw [HW9.out]
        go_wp2
        go_ret2
        exact ⟨by rw [E1.out.1, E1.out.2]; rfl, Hfin.out⟩
  · have E0 : Hid (deskDo n roles d ⟨4, us, tr, it, hd⟩ = (d, ⟨E, 0⟩)) := by
      have := do_heldE (n := n) (roles := roles) (d := d) (o := ⟨4, us, tr, it, hd⟩) (by show (4 : Int) = 2 ∨ (4 : Int) = 3 ∨ (4 : Int) = 4; omega) (by rw [HE.out]; exact hE)
      rw [HE.out] at this
      exact this
    have hE1 : (E == 0) = false := by simpa using hE
    have hE3 : (E != 0) = true := by simpa using hE
    clear hHd
    go_wp2
    go_ret2
    rw [E0.out]
    exact ⟨rfl, iv, ⟨_, _, _, _, _, _, _, h1, hfar.up c0.size⟩, KeepO.of c0, .inl rfl⟩

end Go.Proofs.Ytaladbcocealnaa

/- Package desk as it landed: one thing at a desk. -/
namespace Go.Proofs.Ytaladbcocealnaa
open Go.RowKit
set_option linter.unusedVariables false
set_option linter.unusedSimpArgs false
set_option maxRecDepth 4000

theorem do_skip5 {n : NetL} {roles : List (List Int)} {d : DeskL} {o : DOp} (h : o.kind = 5) :
    deskDo n roles d o = if (doC n d.case 1 o.tran).2 = 0 then (⟨(doC n d.case 1 o.tran).1, d.items⟩, ⟨0, 0⟩) else (d, ⟨(doC n d.case 1 o.tran).2, 0⟩) := by
  have e : deskErr n roles d o = 0 := by unfold deskErr; rw [if_neg (by omega), if_pos h]
  have ec : caseOp d o = (1, o.tran) := by unfold caseOp; rw [if_neg (by omega), if_neg (by omega), if_neg (by omega)]
  unfold deskDo
  rw [e, if_neg (by decide), if_neg (by omega), ec]
  by_cases hz : (doC n d.case 1 o.tran).2 = 0
  · rw [if_neg (fun q => q hz), if_pos hz]
    unfold newItems toldItem
    rw [if_neg (by omega), if_neg (by omega), if_neg (by omega), if_neg (by omega), if_pos h]
  · rw [if_pos hz, if_neg hz]
theorem do_kind5 {n : NetL} {roles : List (List Int)} {d : DeskL} {o : DOp} (h : o.kind < 1 ∨ 5 < o.kind) : deskDo n roles d o = (d, ⟨5, 0⟩) := by
  have e : deskErr n roles d o = 5 := by unfold deskErr; rw [if_pos h]
  unfold deskDo; rw [e, if_pos (by decide)]

theorem OffRec.aside {w : World} {Bo B : Nat} {P : Spot} {n : NetL} {roles : List (List Int)} {d : DeskL} {ma ba : Option Addr} {ml mc bl bc : Nat} {iv tv : Value} (h : OffRec w Bo P B n roles d ma ba ml mc bl bc iv tv) {p : Addr} (s1 : SlOff p.block (.slice ma ml mc)) (s2 : SlOff p.block (.slice ba bl bc)) (hn : iv.ownBlock ≠ some p.block) (hp : p.block > Bo) (u : Value) :
    OffRec (w.setCell p u) Bo P B n roles d ma ba ml mc bl bc iv tv :=
  ⟨h.cells.set (by omega) u, h.mark.setOff s1 rfl u, h.busy.setOff s2 rfl u, h.trans.set (a := p) (by show ¬ p.block < Bo; omega) u, ownsRow_aside h.row hn u, h.offM, h.offB, h.lo⟩
theorem OffAns.from {w w0 w' : World} {Bo B : Nat} {P : Spot} {n : NetL} {roles : List (List Int)} {iv : Value} {Far : Nat → Prop} {p : DeskL × DAns} (h : OffAns w0 Bo P B n roles iv Far p w') (b : Below w.heap.size w w0) : OffAns w Bo P B n roles iv Far p w' := by
  obtain ⟨iv', h1, h2, h3⟩ := h
  refine ⟨iv', h1, (KeepO.of b).then h2, ?_⟩
  rcases h3 with q | ⟨g, q1, q2⟩
  · exact .inl q
  · exact .inr ⟨g, q1, Nat.le_trans b.size q2⟩

set_option maxHeartbeats 8000000 in
theorem doO_any {Bo B : Nat} {P : Spot} {n : NetL} {roles : List (List Int)} {d : DeskL} {iv : Value} {Far : Nat → Prop} (o : DOp) (w : World) (h : Office w Bo P B n roles d iv Far) (hinv : DeskInv n roles d) (hB : B ≤ w.heap.size) (hl : d.items.length + 1 ≤ 5864062014805) :
    Calls Try.prog 43 #[.pointer (some ⟨Bo, P.off, none⟩), dopV o] w fun e w' => e = .returned (.tuple #[.int .i64 (deskDo n roles d o).2.item, .int .i64 (deskDo n roles d o).2.err]) ∧ OffAns w Bo P B n roles iv Far (deskDo n roles d o) w' := by
  have Hn : Hid (netOk n = true) := (fits_net (rightC_iff.1 hinv.right).1).1
  have Hinv : Hid (DeskInv n roles d) := hinv
  clear hinv
  obtain ⟨kd, us, tr, it, hd⟩ := o
  have c0 := below_new w (.cells (dopArr ⟨kd, us, tr, it, hd⟩) 45)
  have hop := cellsAt_new w (dopArr ⟨kd, us, tr, it, hd⟩) 45
  obtain ⟨w0, Hw0⟩ : ∃ v, Hid (w.alloc (.cells #[.int .i64 kd, .int .i64 us, .int .i64 tr, .int .i64 it, .int .i64 hd] 45) = v) := ⟨_, rfl⟩
  have hw0 : w.alloc (.cells (dopArr ⟨kd, us, tr, it, hd⟩) 45) = w0 := Hw0.out
  rw [hw0] at c0 hop
  have h0 : Office w0 Bo P B n roles d iv Far := by obtain ⟨_, _, _, _, _, _, _, h, hf⟩ := h; exact ⟨_, _, _, _, _, _, _, h.below c0, hf.up c0.size⟩
  have o0 : w0.cell? ⟨w.heap.size, 0, none⟩ = some (.int .i64 kd) := hop.cell 0
  have o1 : w0.cell? ⟨w.heap.size, 1, none⟩ = some (.int .i64 us) := hop.cell 1
  have o2 : w0.cell? ⟨w.heap.size, 2, none⟩ = some (.int .i64 tr) := hop.cell 2
  have o3 : w0.cell? ⟨w.heap.size, 3, none⟩ = some (.int .i64 it) := hop.cell 3
  have o4 : w0.cell? ⟨w.heap.size, 4, none⟩ = some (.int .i64 hd) := hop.cell 4
  have HB : Hid (B ≤ w0.heap.size) := Nat.le_trans hB c0.size
  have Hc0 : Hid (Below w.heap.size w w0) := c0
  clear hw0 hB c0 hop h
  show Calls _ _ #[_, .agg #[.int .i64 kd, .int .i64 us, .int .i64 tr, .int .i64 it, .int .i64 hd]] _ _
  go_enter Try.func43, Try.ntmps43
  go_upto_region 1 with fail
  rw [Hw0.out]
  clear Hw0
  by_cases k1 : kd = 1
  · subst k1
    go_wp2_with fail
    refine (begin_any ⟨1, us, tr, it, hd⟩ w0 h0 Hn.out rfl HB.out hl).mono ?_
    rintro e w1 ⟨rfl, hA⟩
    have R : Hid _ := hA.from Hc0.out
    clear hA h0 o0 o1 o2 o3 o4
    go_wp2
    go_ret2
    exact ⟨rfl, R.out⟩
  by_cases k2 : kd = 2
  · subst k2
    go_wp2_with fail
    refine (leave_any ⟨2, us, tr, it, hd⟩ 3 w0 h0 (.inl ⟨rfl, rfl⟩)).mono ?_
    rintro e w1 ⟨rfl, hA⟩
    have R : Hid _ := hA.from Hc0.out
    clear hA h0 o0 o1 o2 o3 o4
    go_wp2
    go_ret2
    exact ⟨rfl, R.out⟩
  by_cases k3 : kd = 3
  · subst k3
    go_wp2_with fail
    refine (leave_any ⟨3, us, tr, it, hd⟩ 4 w0 h0 (.inr ⟨rfl, rfl⟩)).mono ?_
    rintro e w1 ⟨rfl, hA⟩
    have R : Hid _ := hA.from Hc0.out
    clear hA h0 o0 o1 o2 o3 o4
    go_wp2
    go_ret2
    exact ⟨rfl, R.out⟩
  by_cases k4 : kd = 4
  · subst k4
    go_wp2_with fail
    refine (give_any ⟨4, us, tr, it, hd⟩ w0 h0 Hinv.out Hn.out rfl).mono ?_
    rintro e w1 ⟨rfl, hA⟩
    have R : Hid _ := hA.from Hc0.out
    clear hA h0 o0 o1 o2 o3 o4
    go_wp2
    go_ret2
    exact ⟨rfl, R.out⟩
  by_cases k5 : kd = 5
  · subst k5
    have E0 : Hid _ := do_skip5 (n := n) (roles := roles) (d := d) (o := ⟨5, us, tr, it, hd⟩) rfl
    have E0' : Hid (deskDo n roles d ⟨5, us, tr, it, hd⟩ = if (doC n d.case 1 tr).2 = 0 then (⟨(doC n d.case 1 tr).1, d.items⟩, ⟨0, 0⟩) else (d, ⟨(doC n d.case 1 tr).2, 0⟩)) := E0.out
    clear E0
    obtain ⟨ma, ba, ml, mc, bl, bc, tv, h0, hfar⟩ := h0
    go_wp2_with fail
    refine (work_any (Far := Far) 1 tr w0 h0 hfar).mono ?_
    rintro e w1 ⟨rfl, hOf, K3, _⟩
    have KO := (KeepO.of (Bo := Bo) (iv := iv) Hc0.out).then K3
    obtain ⟨E, HE⟩ : ∃ E, Hid ((doC n d.case 1 tr).2 = E) := ⟨_, rfl⟩
    unfold workD at hOf
    rw [HE.out] at E0' hOf ⊢
    have R : Hid (OffAns w Bo P B n roles iv Far (deskDo n roles d ⟨5, us, tr, it, hd⟩) w1 ∧ (deskDo n roles d ⟨5, us, tr, it, hd⟩).2.item = 0 ∧ (deskDo n roles d ⟨5, us, tr, it, hd⟩).2.err = E) := by
      rw [E0'.out]
      by_cases hE : E = 0
      · rw [if_pos hE] at hOf ⊢
        exact ⟨⟨iv, hOf, KO, .inl rfl⟩, rfl, hE.symm⟩
      · rw [if_neg hE] at hOf ⊢
        exact ⟨⟨iv, hOf, KO, .inl rfl⟩, rfl, rfl⟩
    clear hOf K3 KO h0 o0 o1 o2 o3 o4
    go_wp2
    go_ret2
    exact ⟨by rw [R.out.2.1, R.out.2.2]; rfl, R.out.1⟩
  · have E0 : Hid (deskDo n roles d ⟨kd, us, tr, it, hd⟩ = (d, ⟨5, 0⟩)) := do_kind5 (by show kd < 1 ∨ 5 < kd; omega)
    have e1 : (kd == 1) = false := by simpa using k1
    have e2 : (kd == 2) = false := by simpa using k2
    have e3 : (kd == 3) = false := by simpa using k3
    have e4 : (kd == 4) = false := by simpa using k4
    have e5 : (kd == 5) = false := by simpa using k5
    clear k1 k2 k3 k4 k5
    go_wp2
    go_ret2
    rw [E0.out]
    exact ⟨rfl, iv, h0, KeepO.of Hc0.out, .inl rfl⟩

set_option maxHeartbeats 4000000 in
theorem office_do {Bo B : Nat} {P : Spot} {n : NetL} {roles : List (List Int)} {d : DeskL} {iv : Value} {Far : Nat → Prop} (o : DOp) (w : World) (h : Office w Bo P B n roles d iv Far) (hinv : DeskInv n roles d) (hB : B ≤ w.heap.size) (hl : d.items.length + 1 ≤ 5864062014805) :
    Calls Try.prog 30 #[.pointer (some ⟨Bo, P.off, none⟩), dopV o] w fun e w' => e = .returned (.agg #[.int .i64 (deskDo n roles d o).2.err, .int .i64 (deskDo n roles d o).2.item]) ∧ OffAns w Bo P B n roles iv Far (deskDo n roles d o) w' := by
  obtain ⟨kd, us, tr, it, hd⟩ := o
  have b1 := below_new w (.cells (dopArr ⟨kd, us, tr, it, hd⟩) 45)
  have hop := cellsAt_new w (dopArr ⟨kd, us, tr, it, hd⟩) 45
  obtain ⟨wa, Hwa⟩ : ∃ v, Hid (w.alloc (.cells (dopArr ⟨kd, us, tr, it, hd⟩) 45) = v) := ⟨_, rfl⟩
  rw [Hwa.out] at b1 hop
  have s1 : wa.heap.size = w.heap.size + 1 := by rw [← Hwa.out]; simp
  have b2 := below_new wa (.cells #[.int .i64 0, .int .i64 0] 40)
  have hr := cellsAt_new wa #[.int .i64 0, .int .i64 0] 40
  rw [s1] at hr
  obtain ⟨w0, Hw0⟩ : ∃ v, Hid ((w.alloc (.cells #[.int .i64 kd, .int .i64 us, .int .i64 tr, .int .i64 it, .int .i64 hd] 45)).alloc (.cells #[.int .i64 0, .int .i64 0] 40) = v) := ⟨_, rfl⟩
  have hw0 : wa.alloc (.cells #[.int .i64 0, .int .i64 0] 40) = w0 := by rw [← Hwa.out]; exact Hw0.out
  rw [hw0] at b2 hr
  replace hop := hop.below b2
  have c0 := below_then b1 b2
  have h0 : Office w0 Bo P B n roles d iv (fun R => Far R ∨ R = w.heap.size + 1) := by
    obtain ⟨ma, ba, ml, mc, bl, bc, tv, h, hf⟩ := h
    refine ⟨ma, ba, ml, mc, bl, bc, tv, h.below c0, fun R hR => ?_⟩
    rcases hR with hR | rfl
    · exact (hf.up c0.size) R hR
    · exact ⟨hr.lt, h.mark.offHigh (by omega), h.busy.offHigh (by omega)⟩
  have hBo : Bo < w.heap.size := by obtain ⟨_, _, _, _, _, _, _, h, _⟩ := h; exact h.cells.lt
  have HNr : Hid (iv.ownBlock ≠ some (w.heap.size + 1)) := fun e => by obtain ⟨_, _, _, _, _, _, _, h, _⟩ := h; have := (h.row.lt _ e).2; omega
  have o0 : w0.cell? ⟨w.heap.size, 0, none⟩ = some (.int .i64 kd) := hop.cell 0
  have o1 : w0.cell? ⟨w.heap.size, 1, none⟩ = some (.int .i64 us) := hop.cell 1
  have o2 : w0.cell? ⟨w.heap.size, 2, none⟩ = some (.int .i64 tr) := hop.cell 2
  have o3 : w0.cell? ⟨w.heap.size, 3, none⟩ = some (.int .i64 it) := hop.cell 3
  have o4 : w0.cell? ⟨w.heap.size, 4, none⟩ = some (.int .i64 hd) := hop.cell 4
  have Hc0 : Hid (Below w.heap.size w w0) := c0
  clear hw0 hop b1 b2 Hwa s1
  show Calls _ _ #[_, .agg #[.int .i64 kd, .int .i64 us, .int .i64 tr, .int .i64 it, .int .i64 hd]] _ _
  go_enter Try.func30, Try.ntmps30
  go_upto_region 1 with fail
  rw [Hw0.out]
  clear Hw0
  go_wp2_with fail
  refine (doO_any ⟨kd, us, tr, it, hd⟩ w0 h0 hinv (Nat.le_trans hB c0.size) hl).mono ?_
  rintro e w1 ⟨rfl, hA⟩
  obtain ⟨iv', hOf, K1, hat⟩ := hA
  have hr0 := hr.lt
  replace hr : CellsAt w1 (w.heap.size + 1) #[.int .i64 0, .int .i64 0] 40 := (K1.block _ hr.lt (by omega) HNr.out).trans hr
  obtain ⟨E, HE⟩ : ∃ E, Hid ((deskDo n roles d ⟨kd, us, tr, it, hd⟩).2.err = E) := ⟨_, rfl⟩
  obtain ⟨I, HI⟩ : ∃ E, Hid ((deskDo n roles d ⟨kd, us, tr, it, hd⟩).2.item = E) := ⟨_, rfl⟩
  rw [HE.out, HI.out]
  have r0 : w1.cell? ⟨w.heap.size + 1, 0, none⟩ = some (.int .i64 0) := hr.cell 0
  have r1 : w1.cell? ⟨w.heap.size + 1, 1, none⟩ = some (.int .i64 0) := hr.cell 1
  have f0 := hr.frozen 0
  have f1 := hr.frozen 1
  obtain ⟨W2, HW2⟩ : ∃ v, Hid ((w1.setCell ⟨w.heap.size + 1, 0, none⟩ (.int .i64 E)).setCell ⟨w.heap.size + 1, 1, none⟩ (.int .i64 I) = v) := ⟨_, rfl⟩
  have hr2 := (hr.put 0 (.int .i64 E)).put 1 (.int .i64 I)
  rw [HW2.out] at hr2
  have hr2 : CellsAt W2 (w.heap.size + 1) #[.int .i64 E, .int .i64 I] 40 := hr2
  have R : Hid (OffAns w Bo P B n roles iv Far (deskDo n roles d ⟨kd, us, tr, it, hd⟩) W2) := by
    have K2 : KeepO Bo iv w W2 := by
      refine ⟨?_, fun k hk h1 h2 => ?_⟩
      · rw [← HW2.out]; exact (((KeepO.of (Bo := Bo) (iv := iv) Hc0.out).then K1).rest.setCell (p := ⟨w.heap.size + 1, 0, none⟩) (Nat.zero_le _) _).setCell (p := ⟨w.heap.size + 1, 1, none⟩) (Nat.zero_le _) _
      · rw [← HW2.out, Below.heap_setCell _ ⟨w.heap.size + 1, 1, none⟩ _ k (by show k ≠ w.heap.size + 1; omega), Below.heap_setCell _ ⟨w.heap.size + 1, 0, none⟩ _ k (by show k ≠ w.heap.size + 1; omega)]
        exact ((KeepO.of (Bo := Bo) (iv := iv) Hc0.out).then K1).block k hk h1 h2
    obtain ⟨ma, ba, ml, mc, bl, bc, tv, hO, hf⟩ := hOf
    have hiv' : iv'.ownBlock ≠ some (w.heap.size + 1) := by
      rcases hat with q | ⟨g, q1, q2⟩
      · rw [q]; exact HNr.out
      · rw [q1]; intro e; injection e with e; have := Hc0.out.size; have := hr0; omega
    obtain ⟨_, s1, s2⟩ := hf (w.heap.size + 1) (.inr rfl)
    have hO2 : OffRec W2 Bo P B n roles (deskDo n roles d ⟨kd, us, tr, it, hd⟩).1 ma ba ml mc bl bc iv' tv := by
      rw [← HW2.out]
      exact (hO.aside (p := ⟨w.heap.size + 1, 0, none⟩) s1 s2 hiv' (by show w.heap.size + 1 > Bo; omega) _).aside (p := ⟨w.heap.size + 1, 1, none⟩) s1 s2 hiv' (by show w.heap.size + 1 > Bo; omega) _
    have hsz9 : w1.heap.size ≤ W2.heap.size := by rw [← HW2.out]; simp [World.setCell]
    refine ⟨iv', ⟨_, _, _, _, _, _, _, hO2, fun R hR => (hf.up hsz9) R (.inl hR)⟩, K2, ?_⟩
    rcases hat with q | ⟨g, q1, q2⟩
    · exact .inl q
    · exact .inr ⟨g, q1, Nat.le_trans c0.size q2⟩
  clear hOf K1 hat h0 hr o0 o1 o2 o3 o4
  go_wp2
  rw [HW2.out]
  have z0 : W2.cell? ⟨w.heap.size + 1, 0, none⟩ = some (.int .i64 E) := hr2.cell 0
  have z1 : W2.cell? ⟨w.heap.size + 1, 1, none⟩ = some (.int .i64 I) := hr2.cell 1
  refine bodyPost_ret (v := .agg #[.int .i64 E, .int .i64 I]) ?_ rfl ⟨by rw [HE.out, HI.out], R.out⟩
  simp [results, Try.results30, go_sem, z0, z1]

end Go.Proofs.Ytaladbcocealnaa

/- Package desk as it landed: an office is opened. (Made by tools/spot.py.) -/
namespace Go.Proofs.Ytaladbcocealnaa
open Go.RowKit
set_option linter.unusedVariables false
set_option linter.unusedSimpArgs false
set_option maxRecDepth 4000

abbrev offZ (w : World) : (sizeOf 63).run Try.prog w = .ok 221 w := run_sizeOf_big info_office w
theorem offA_one {c0 c1 c2 c3 c4 : Value} {g : Nat → Bool} (h0 : c0.oneCell' = true) (h1 : c1.oneCell' = true) (h2 : c2.oneCell' = true) (h3 : c3.oneCell' = true) (h4 : c4.oneCell' = true) (v : Value) (hv : v ∈ (offA c0 c1 c2 c3 c4 g).toList) : v.oneCell' = true := by
  unfold offA at hv
  rw [Array.toList_append, List.mem_append] at hv
  rcases hv with hv | hv
  · simp only [List.mem_cons, List.not_mem_nil, or_false] at hv
    rcases hv with rfl | rfl | rfl | rfl | rfl <;> assumption
  · exact mayA_one g v hv
theorem exec_build_office {ρ : Operand → Value} {o : Oper} {x y z : Operand} {c0 c1 c2 c3 c4 : Value} {g : Nat → Bool} (ho : o.op = .build 63 #[(0, x), (1, y), (2, z)]) (hx : ρ x = .agg #[c0, c1, c2]) (hy : ρ y = .agg #[c3, c4]) (hz : ρ z = .agg (mayA g)) (w : World) :
    (execOp ρ o).run Try.prog w = .ok (.value (.agg (offA c0 c1 c2 c3 c4 g))) w := by
  have e : (#[(0, x), (1, y), (2, z)] : Array (Nat × Operand)).map (fun (i, x) => (i, ρ x)) = #[(0, .agg #[c0, c1, c2]), (1, .agg #[c3, c4]), (2, .agg (mayA g))] := by
    simp [hx, hy, hz]
  unfold execOp
  simp only [ho, e, Sem.run_bind, build_office, Result.andThen_ok, Sem.run_pure]
theorem build_zero (w : World) : (Instr.build 63 #[]).run Try.prog w = .ok (.agg (offA (.slice none 0 0) (.slice none 0 0) (.slice none 0 0) (.int .i64 0) (.slice none 0 0) fun _ => false)) w := by
  obtain ⟨i0, h0, h1, h2, h3⟩ := info_parts info_office
  have hu := Try.underlying63
  have hz : (zeroValue 63).run Try.prog w = .ok (.agg (offA (.slice none 0 0) (.slice none 0 0) (.slice none 0 0) (.int .i64 0) (.slice none 0 0) fun _ => false)) w := by
    simp [zeroValue, typeInfo, h0, h1]
  have s1 := run_sizeOf_big info_desk w
  have s2 := run_sizeOf_big info_netB w
  have s3 := run_sizeOf_big info_may w
  simp only [Instr.build, Sem.run_bind, hz, Result.andThen, run_underlying hu]
  have hm : Sem.run Try.prog (Array.mapM (fun f : Field => do
            let n ← sizeOf f.type
            pure (f.offset, n))
          #[{ name := "Desk", type := 32, offset := 0, embedded := false, tag := "", pkgPath := "", byteOffset := 0 },
            { name := "net", type := 24, offset := 3, embedded := false, tag := "", pkgPath := "tokenhall/desk", byteOffset := 72 },
            { name := "may", type := 61, offset := 5, embedded := false, tag := "", pkgPath := "tokenhall/desk", byteOffset := 104 }]) w = .ok #[(0, 3), (3, 2), (5, 216)] w := by
    simp [Sem.run_bind, s1, s2, s3, Result.andThen]
  rw [hm]
  rfl
theorem wpList_build_zero {ops : Array Oper} {rest : List Oper} {o : Oper} {a : Act} {w : World} {Q : Exit → Act → World → Prop} (hgd : o.guard = none) (ho : o.op = .build 63 #[])
    (h : wpList Try.prog ops Q rest (a.put o.dst (.agg (offA (.slice none 0 0) (.slice none 0 0) (.slice none 0 0) (.int .i64 0) (.slice none 0 0) fun _ => false))) w) : wpList Try.prog ops Q (o :: rest) a w :=
  wpList_plain hgd fun _ hK => by
    unfold Oper.wp execOp
    simp only [ho, Array.map_empty, List.map_toArray, List.map_nil, Sem.run_bind, build_zero, Result.andThen_ok, Sem.run_pure]
    exact hK _ _ h
theorem trans_one {w : World} {tv : Value} {ts : List TranL} (h : Trans w tv ts) : tv.oneCell' = true := by
  obtain ⟨a, l, c, rfl, _⟩ := h
  rfl

/-- What Open answers. -/
def OpenV (w' : World) (n : NetL) (i : Int) (roles : List (List Int)) (cs : Array Value) : Prop :=
  (¬ (beginC n i).2 = 0 ∧ cs = offA (.slice none 0 0) (.slice none 0 0) (.slice none 0 0) (.int .i64 0) (.slice none 0 0) fun _ => false) ∨
  ((beginC n i).2 = 0 ∧ ∃ ma ba ml mc bl bc tv, cs = offA (.slice ma ml mc) (.slice ba bl bc) (.slice none 0 0) (.int .i64 n.places) tv (mayG roles) ∧ Ints w' (.slice ma ml mc) (beginC n i).1.mark ∧ Ints w' (.slice ba bl bc) (beginC n i).1.busy ∧ Net w' (.agg #[.int .i64 n.places, tv]) n)

/-- The case of an office lies in blocks from B on. -/
def OpenFrom (B : Nat) (cs : Array Value) : Prop := ∀ x y, cs[0]? = some x → cs[1]? = some y → SlFrom B x ∧ SlFrom B y
theorem openFrom_of {B : Nat} {x y z p t : Value} {g : Nat → Bool} (hx : SlFrom B x) (hy : SlFrom B y) : OpenFrom B (offA x y z p t g) := fun x' y' h0 h1 => by
  unfold offA at h0 h1
  rw [Array.getElem?_append_left (by simp)] at h0 h1
  injection h0 with h0
  injection h1 with h1
  rw [← h0, ← h1]
  exact ⟨hx, hy⟩

set_option maxHeartbeats 8000000 in
theorem open_own (v rv : Value) (n : NetL) (i : Int) (roles : List (List Int)) (w : World) (hv : Net w v n) (hr : Lists w rv roles) :
    Calls Try.prog 20 #[v, .int .i64 i, rv] w fun e w' => ∃ cs, e = .returned (.tuple #[.agg cs, .int .i64 (beginC n i).2]) ∧ OpenV w' n i roles cs ∧ Below w.heap.size w w' ∧ OpenFrom w.heap.size cs := by
  obtain ⟨tv0, rfl, hT⟩ := hv
  have b1 := below_new w (.cells #[.int .i64 n.places, tv0] 24)
  have hbn := box2_new w (.int .i64 n.places) tv0 24
  obtain ⟨wa, Hwa⟩ : ∃ v, Hid (w.alloc (.cells #[.int .i64 n.places, tv0] 24) = v) := ⟨_, rfl⟩
  rw [Hwa.out] at b1 hbn
  have s1 : wa.heap.size = w.heap.size + 1 := by rw [← Hwa.out]; simp
  have b2 := below_new wa (.cells (offA (.slice none 0 0) (.slice none 0 0) (.slice none 0 0) (.int .i64 0) (.slice none 0 0) fun _ => false) 63)
  have hR := cellsAt_new wa (offA (.slice none 0 0) (.slice none 0 0) (.slice none 0 0) (.int .i64 0) (.slice none 0 0) fun _ => false) 63
  rw [s1] at hR
  obtain ⟨w0, Hw0⟩ : ∃ v, Hid (wa.alloc (.cells (offA (.slice none 0 0) (.slice none 0 0) (.slice none 0 0) (.int .i64 0) (.slice none 0 0) fun _ => false) 63) = v) := ⟨_, rfl⟩
  rw [Hw0.out] at b2 hR
  replace hbn := hbn.below b2
  have c0 := below_then b1 b2
  have hv : Net w0 (.agg #[.int .i64 n.places, tv0]) n := ⟨_, rfl, hT.below c0⟩
  go_enter Try.func20, Try.ntmps20
  go_upto_region 1 with (rw [Hwa.out]; refine wpList_alloc_big rfl info_office rfl ?_)
  first | rw [s1, Hw0.out] | rw [Hw0.out]
  try simp only [Act.put, List.setIfInBounds_toArray, List.set_cons_zero, List.set_cons_succ]
  clear Hwa Hw0 s1 b1 b2
  obtain ⟨x0, x1, x2⟩ := id hbn
  have hRl := hR.lt
  go_wp2_with fail
  refine (cases_begin_own _ n i w0 (by exact hv)).mono ?_
  rintro e w1 ⟨r, rfl, hC, hCF, b⟩
  obtain ⟨ra, rl, rc, ra2, rl2, rc2, rfl, hI, hI2'⟩ := hC
  obtain ⟨hf1, hf2⟩ := hCF.parts
  have HRl : Hid (w.heap.size + 1 < w0.heap.size) := hRl
  replace c0 := below_then c0 b
  replace hR := hR.below b
  replace hbn := hbn.below b
  clear x0 x1 x2 hv hCF
  have bc := below_new w1 (.cells #[.slice ra rl rc, .slice ra2 rl2 rc2] 29)
  have hc := caseBox_new w1 ra ra2 rl rc rl2 rc2
  obtain ⟨Bc, HBc⟩ : ∃ B, Hid (w1.heap.size = B) := ⟨_, rfl⟩
  have hBc : w0.heap.size ≤ Bc := by rw [← HBc.out]; exact b.size
  rw [HBc.out] at hc
  obtain ⟨w2, Hw2⟩ : ∃ v, Hid (w1.alloc (.cells #[.slice ra rl rc, .slice ra2 rl2 rc2] 29) = v) := ⟨_, rfl⟩
  rw [Hw2.out] at bc hc
  go_upto_region 2 with fail
  rw [Hw2.out, HBc.out]
  have hw02 : w0.heap.size ≤ w2.heap.size := Nat.le_trans b.size bc.size
  clear Hw2 HBc b
  replace c0 := below_then c0 bc
  replace hR := hR.below bc
  replace hbn := hbn.below bc
  replace hI := hI.below bc
  replace hI2' := hI2'.below bc
  clear bc
  obtain ⟨E, HE⟩ : ∃ d, Hid ((beginC n i).2 = d) := ⟨_, rfl⟩
  rw [HE.out]
  by_cases hE : E = 0
  · subst hE
    have Hn : Hid (netOk n = true) := (begin_right HE.out).2.1
    go_upto_region 4 with fail
    have HS : Hid (∀ w', Below w2.heap.size w2 w' → w'.cell? ⟨w.heap.size, 0, none⟩ = some (.int .i64 n.places) ∧ w'.cell? ⟨w.heap.size, 1, none⟩ = some (tv0) ∧ w'.cell? ⟨Bc, 0, none⟩ = some (.slice ra rl rc) ∧ w'.cell? ⟨Bc, 1, none⟩ = some (.slice ra2 rl2 rc2)) := fun w' hb => ⟨(hbn.below hb).2.1, (hbn.below hb).2.2, (hc.below hb).facts.1, (hc.below hb).facts.2.1⟩
    refine wp_region_held_drew (S := (fun w' => w'.cell? ⟨w.heap.size, 0, none⟩ = some (.int .i64 n.places) ∧ w'.cell? ⟨w.heap.size, 1, none⟩ = some (tv0) ∧ w'.cell? ⟨Bc, 0, none⟩ = some (.slice ra rl rc) ∧ w'.cell? ⟨Bc, 1, none⟩ = some (.slice ra2 rl2 rc2))) (by kernel_rfl) (HS.out _ (Below.refl _ _).drew) (fun hH => ?_)
    have b : Below w2.heap.size w2 w2.drew := (Below.refl _ _).drew
    obtain ⟨v0, Hv0⟩ : ∃ v0, Hid (w2.drew = v0) := ⟨_, rfl⟩
    rw [Hv0.out] at hH b ⊢
    clear Hv0
    refine wpAnyH_take (i := 0) (v := .agg #[.slice ra rl rc, .slice ra2 rl2 rc2]) rfl (by kernel_rfl) (by kernel_rfl) (by kernel_rfl) (fun _ _ _ h => h) (.inl ⟨by rfl, fun w' hS' => by obtain ⟨s0, s1, s2, s3⟩ := hS'; go_simp⟩) hH ?_
    simp only [List.getElem_toArray, List.getElem_cons_succ, List.getElem_cons_zero, Act.put, List.setIfInBounds_toArray, List.set_cons_zero, List.set_cons_succ]
    refine wpAnyH_take (i := 1) (v := .agg #[.slice ra rl rc, .slice ra2 rl2 rc2, .slice none 0 0]) rfl (by kernel_rfl) (by kernel_rfl) (by kernel_rfl) (fun _ _ _ h => h) (.inl ⟨by rfl, fun w' hS' => by first | (go_simp; done) | (go_simp; rfl) | (go_simp; intro h; omega) | (go_simp; omega)⟩) hH ?_
    simp only [List.getElem_toArray, List.getElem_cons_succ, List.getElem_cons_zero, Act.put, List.setIfInBounds_toArray, List.set_cons_zero, List.set_cons_succ]
    refine wpAnyH_take (i := 2) (v := .agg #[.int .i64 n.places, tv0]) rfl (by kernel_rfl) (by kernel_rfl) (by kernel_rfl) (fun _ _ _ h => h) (.inl ⟨by rfl, fun w' hS' => by obtain ⟨s0, s1, s2, s3⟩ := hS'; go_simp⟩) hH ?_
    simp only [List.getElem_toArray, List.getElem_cons_succ, List.getElem_cons_zero, Act.put, List.setIfInBounds_toArray, List.set_cons_zero, List.set_cons_succ]
    refine wpAnyH_take (i := 4) (v := rv) rfl (by kernel_rfl) (by kernel_rfl) (by kernel_rfl) (fun _ _ _ h => h) (.inl ⟨by rfl, fun _ _ => rfl⟩) hH ?_
    simp only [List.getElem_toArray, List.getElem_cons_succ, List.getElem_cons_zero, Act.put, List.setIfInBounds_toArray, List.set_cons_zero, List.set_cons_succ]
    refine wpAnyH_ready (rs := [3]) (by kernel_rfl) (by simp) ?_
    refine AllReadyH.cons rfl (fun K hK => ?_) AllReadyH.nil
    simp only [List.getElem_toArray, List.getElem_cons_succ, List.getElem_cons_zero]
    rw [if_pos (by rfl)]
    go_wp2_with fail
    refine (copied_any _ n v0 (by exact ⟨_, rfl, hT.below (below_then c0 b)⟩) Hn.out).mono ?_
    rintro e v1 ⟨r1, rfl, O1, bs1⟩
    obtain ⟨tvv, rfl, hTv⟩ := id O1.now
    have htvo := trans_one hTv
    clear hTv
    replace O1 := O1.weaken (D' := fun k => w2.heap.size ≤ k) fun k _ hk => Nat.le_trans b.size hk
    replace b := below_then b bs1
    refine hK.out _ _ (HS.out _ b) (fun hH => ?_)
    clear hK
    refine wpAnyH_ready (rs := [5]) (by kernel_rfl) (by simp) ?_
    refine AllReadyH.cons rfl (fun K hK => ?_) AllReadyH.nil
    simp only [List.getElem_toArray, List.getElem_cons_succ, List.getElem_cons_zero]
    rw [if_pos (by rfl)]
    go_wp2_with fail
    refine (rightsOf_any _ roles v1 (by exact hr.below (below_then c0 b))).mono ?_
    rintro e v2 ⟨rfl, bs2⟩
    replace O1 := O1.below bs2
    replace b := below_then b bs2
    refine hK.out _ _ (HS.out _ b) (fun hH => ?_)
    clear hK
    refine wpAnyH_take (i := 6) (v := .agg (offA (.slice ra rl rc) (.slice ra2 rl2 rc2) (.slice none 0 0) (.int .i64 n.places) tvv (mayG roles))) rfl (by kernel_rfl) (by kernel_rfl) (by kernel_rfl) (fun _ _ _ h => h) (.inl ⟨by rfl, fun w' _ => exec_build_office rfl rfl rfl rfl w'⟩) hH ?_
    simp only [List.getElem_toArray, List.getElem_cons_succ, List.getElem_cons_zero, Act.put, List.setIfInBounds_toArray, List.set_cons_zero, List.set_cons_succ]
    obtain ⟨cs, Hcs⟩ : ∃ cs, Hid (offA (.slice ra rl rc) (.slice ra2 rl2 rc2) (.slice none 0 0) (.int .i64 n.places) tvv (mayG roles) = cs) := ⟨_, rfl⟩
    have hcs : cs.size = 221 := by rw [← Hcs.out]; exact offA_size _ _ _ _ _ _
    have hone : ∀ v ∈ cs.toList, v.oneCell' = true := by rw [← Hcs.out]; exact offA_one rfl rfl rfl rfl htvo
    obtain ⟨ms, Hms⟩ : ∃ ms, Hid (mayA (mayG roles) = ms) := ⟨_, rfl⟩
    rw [Hcs.out, Hms.out]
    clear Hms
    have hR2 := (hR.below b).over cs
    have O2 : On (fun k => w2.heap.size ≤ k) (v2.setRow (w.heap.size + 1) cs) (fun w' => Net w' (.agg #[.int .i64 n.places, tvv]) n) := O1.to (by simp) (fun k _ hD => setRow_other _ _ _ _ (by have := HRl.out; have hD : w2.heap.size ≤ k := hD; omega))
    have hI2 := ((hI.below b).toLow hf1 (w' := v2.setRow (w.heap.size + 1) cs) (by simp) (fun k _ hD => setRow_other _ _ _ _ (by have := HRl.out; omega)))
    have hJ2 := ((hI2'.below b).toLow hf2 (w' := v2.setRow (w.heap.size + 1) cs) (by simp) (fun k _ hD => setRow_other _ _ _ _ (by have := HRl.out; omega)))
    have c9 := below_setRow (below_then c0 b) (g := w.heap.size + 1) (by omega) cs
    have hHS9 : (v2.setRow (w.heap.size + 1) cs).cell? ⟨w.heap.size, 0, none⟩ = some (.int .i64 n.places) ∧ (v2.setRow (w.heap.size + 1) cs).cell? ⟨w.heap.size, 1, none⟩ = some tv0 ∧ (v2.setRow (w.heap.size + 1) cs).cell? ⟨Bc, 0, none⟩ = some (.slice ra rl rc) ∧ (v2.setRow (w.heap.size + 1) cs).cell? ⟨Bc, 1, none⟩ = some (.slice ra2 rl2 rc2) := by
      obtain ⟨y0, y1, y2, y3⟩ := HS.out _ b
      refine ⟨?_, ?_, ?_, ?_⟩
      · rw [cell_setRow_other _ _ _ _ (by show w.heap.size ≠ w.heap.size + 1; omega)]; exact y0
      · rw [cell_setRow_other _ _ _ _ (by show w.heap.size ≠ w.heap.size + 1; omega)]; exact y1
      · rw [cell_setRow_other _ _ _ _ (by show Bc ≠ w.heap.size + 1; omega)]; exact y2
      · rw [cell_setRow_other _ _ _ _ (by show Bc ≠ w.heap.size + 1; omega)]; exact y3
    refine wpAnyH_ready (rs := [7]) (by kernel_rfl) (by simp) ?_
    refine AllReadyH.cons rfl (fun K hK => ?_) AllReadyH.nil
    simp only [List.getElem_toArray, List.getElem_cons_succ, List.getElem_cons_zero]
    rw [if_pos (by rfl)]
    refine wp_store_big offZ _ _ rfl (w.heap.size + 1) _ cs _ rfl rfl (hR.below b) (offA_size _ _ _ _ _ _) hcs hone ?_
    refine hK.out _ _ hHS9 (fun hH => ?_)
    clear hK
    refine wpAnyH_take (i := 8) (v := .int .i64 0) rfl (by kernel_rfl) (by kernel_rfl) (by kernel_rfl) (fun _ _ _ h => h) (.inl ⟨by rfl, fun _ _ => rfl⟩) hH ?_
    simp only [List.getElem_toArray, List.getElem_cons_succ, List.getElem_cons_zero, Act.put, List.setIfInBounds_toArray, List.set_cons_zero, List.set_cons_succ]
    refine wpAnyH_done (by kernel_rfl) ?_ _
    go_wp2_with fail
    exact bodyPost_ret (v := .tuple #[.agg cs, .int .i64 0]) (results_big1 Try.isAgg63 offZ rfl rfl rfl hR2 hcs) rfl ⟨cs, by rw [HE.out], .inr ⟨HE.out, _, _, _, _, _, _, _, Hcs.out.symm, hI2, hJ2, O2.now⟩, c9, by rw [← Hcs.out]; exact openFrom_of (hf1.mono (by have := HRl.out; omega)) (hf2.mono (by have := HRl.out; omega))⟩
  · have hE1 : (E == 0) = false := by simpa using hE
    have hE2 : (E != 0) = true := by simpa using hE
    have hR2 := hR.over (offA (.slice none 0 0) (.slice none 0 0) (.slice none 0 0) (.int .i64 0) (.slice none 0 0) fun _ => false)
    have c9 := below_setRow c0 (g := w.heap.size + 1) (by omega) (offA (.slice none 0 0) (.slice none 0 0) (.slice none 0 0) (.int .i64 0) (.slice none 0 0) fun _ => false)
    go_wp2_with (first | (refine wpList_build_zero rfl rfl ?_) | (refine wpList_store_big rfl offZ _ _ rfl (w.heap.size + 1) _ (offA (.slice none 0 0) (.slice none 0 0) (.slice none 0 0) (.int .i64 0) (.slice none 0 0) fun _ => false) _ rfl rfl hR (offA_size _ _ _ _ _ _) (offA_size _ _ _ _ _ _) (offA_one rfl rfl rfl rfl rfl) ?_))
    exact bodyPost_ret (v := .tuple #[.agg (offA (.slice none 0 0) (.slice none 0 0) (.slice none 0 0) (.int .i64 0) (.slice none 0 0) fun _ => false), .int .i64 E]) (results_big1 Try.isAgg63 offZ rfl rfl rfl hR2 (offA_size _ _ _ _ _ _)) rfl ⟨_, by rw [HE.out], .inl ⟨by rw [HE.out]; exact hE, rfl⟩, c9, openFrom_of (SlFrom.nil _) (SlFrom.nil _)⟩

theorem open_any (v rv : Value) (n : NetL) (i : Int) (roles : List (List Int)) (w : World) (hv : Net w v n) (hr : Lists w rv roles) :
    Calls Try.prog 20 #[v, .int .i64 i, rv] w fun e w' => ∃ cs, e = .returned (.tuple #[.agg cs, .int .i64 (beginC n i).2]) ∧ OpenV w' n i roles cs ∧ Below w.heap.size w w' :=
  (open_own v rv n i roles w hv hr).mono fun _ _ ⟨cs, h1, h2, h3, _⟩ => ⟨cs, h1, h2, h3⟩

end Go.Proofs.Ytaladbcocealnaa

/- Package desk as it landed: Play. -/
namespace Go.Proofs.Ytaladbcocealnaa
open Go.RowKit
set_option linter.unusedVariables false
set_option linter.unusedSimpArgs false
set_option maxRecDepth 4000

theorem items_few {n : NetL} {roles : List (List Int)} {d : DeskL} (o : DOp) : (deskDo n roles d o).1.items.length ≤ d.items.length + 1 := by
  by_cases e : (deskDo n roles d o).2.err = 0
  · rw [(desk_ok e).1.items]
    unfold newItems
    repeat' split
    all_goals simp
  · rw [desk_err e]; omega
theorem deskAt_few {n : NetL} {roles : List (List Int)} {d : DeskL} {os : List DOp} (h : d.items.length = 0) : ∀ k, k ≤ os.length → (deskAt n roles d os k).items.length ≤ k
  | 0, _ => by show d.items.length ≤ 0; omega
  | k + 1, hk => by
    have := deskAt_few (n := n) (roles := roles) (os := os) h k (by omega)
    have := items_few (n := n) (roles := roles) (d := deskAt n roles d os k) (dopAt os k)
    rw [deskAt_succ n roles d (by omega)]
    omega

/-- Answers, two cells each, at block Ba. -/
structure AnsAt (w : World) (Ba m : Nat) (l : List (Int × Int)) : Prop where
  len : l.length = m
  lt : Ba < w.heap.size
  cells : ∀ j, j < m → w.cell? ⟨Ba, j * 2, none⟩ = some (.int .i64 (opAt l j).1) ∧ w.cell? ⟨Ba, j * 2 + 1, none⟩ = some (.int .i64 (opAt l j).2)
  frozen : ∀ j, w.frozen? ⟨Ba, j, none⟩ = false
theorem AnsAt.keep {w w' : World} {Ba len : Nat} {l : List (Int × Int)} (h : AnsAt w Ba len l) (hs : w.heap.size ≤ w'.heap.size) (hb : w'.heap[Ba]? = w.heap[Ba]?) : AnsAt w' Ba len l :=
  ⟨h.len, Nat.lt_of_lt_of_le h.lt hs, fun j hj => ⟨(World.cell?_of_block (a := ⟨Ba, _, none⟩) hb).trans (h.cells j hj).1, (World.cell?_of_block (a := ⟨Ba, _, none⟩) hb).trans (h.cells j hj).2⟩, fun j => (World.frozen?_of_block (a := ⟨Ba, j, none⟩) hb).trans (h.frozen j)⟩
theorem op_set {l : List (Int × Int)} {k j : Nat} {x : Int × Int} (h : k < l.length) : opAt (l.set k x) j = if j = k then x else opAt l j := by
  unfold opAt
  rw [List.getD_eq_getElem?_getD, List.getD_eq_getElem?_getD, List.getElem?_set]
  by_cases e : k = j
  · subst e; simp [h]
  · rw [if_neg e, if_neg (fun q => e q.symm)]
theorem AnsAt.put {w W : World} {Ba len k : Nat} {l : List (Int × Int)} (h : AnsAt w Ba len l) (hk : k < len) (x y : Int) (hW : (w.setCell ⟨Ba, k * 2, none⟩ (.int .i64 x)).setCell ⟨Ba, k * 2 + 1, none⟩ (.int .i64 y) = W) : AnsAt W Ba len (l.set k (x, y)) := by
  subst hW
  refine ⟨by simpa using h.len, by simpa [World.setCell] using h.lt, fun j hj => ?_, fun j => by rw [World.frozen?_setCell, World.frozen?_setCell]; exact h.frozen j⟩
  obtain ⟨c1, c2⟩ := h.cells j hj
  rw [op_set (by rw [h.len]; exact hk)]
  by_cases e : j = k
  · subst e
    rw [if_pos rfl]
    refine ⟨?_, ?_⟩
    · rw [World.cell?_setCell_other _ _ _ _ (by intro q; injection q with _ q; omega)]
      exact World.cell?_setCell_same _ _ _ c1
    · exact World.cell?_setCell_same _ _ _ (by rw [World.cell?_setCell_other _ _ _ _ (by intro q; injection q with _ q; omega)]; exact c2)
  · rw [if_neg e]
    refine ⟨?_, ?_⟩
    · rw [World.cell?_setCell_other _ _ _ _ (by intro q; injection q with _ q; omega), World.cell?_setCell_other _ _ _ _ (by intro q; injection q with _ q; omega)]; exact c1
    · rw [World.cell?_setCell_other _ _ _ _ (by intro q; injection q with _ q; omega), World.cell?_setCell_other _ _ _ _ (by intro q; injection q with _ q; omega)]; exact c2
theorem AnsAt.ops {w : World} {Ba len : Nat} {l : List (Int × Int)} (h : AnsAt w Ba len l) (hl : len ≤ 8796093022208) : OpsV w (.slice (some ⟨Ba, 0, none⟩) len len) l :=
  ⟨_, _, _, rfl, h.len, hl, ⟨Nat.le_refl _, by omega, fun q => by cases q⟩, fun j hj => ⟨Ba, 0, rfl, h.lt, by rw [Nat.zero_add]; exact (h.cells j (by rw [← h.len]; exact hj)).1, by rw [Nat.zero_add]; exact (h.cells j (by rw [← h.len]; exact hj)).2⟩⟩
theorem info_ans : (Try.prog.info? 40).map (fun i => (i.zero, i.size, i.bytes)) = some (some (.agg #[.int .i64 0, .int .i64 0]), 2, 16) := by kernel_rfl
theorem make_ans (w : World) (n : Nat) (hn : n ≤ 8796093022000) :
    ∃ w1, (Instr.makeSlice 33 (.int .i64 (n : Int)) (.int .i64 (n : Int))).run Try.prog w = .ok (.slice (some ⟨w.heap.size, 0, none⟩) n n) w1 ∧ Below w.heap.size w w1 ∧ AnsAt w1 w.heap.size n (List.replicate n (0, 0)) := by
  obtain ⟨i0, hi, hz0, hz1, hz2⟩ := info_parts info_ans
  have h := run_make (P := Try.prog) w 33 40 i0 _ Try.underlying33 hi hz0 .i64 .i64 n n (by omega) (by omega) (by rw [hz2]; omega) (by omega)
  simp only [Int.toNat_natCast] at h
  have hat : ∀ j, opAt (List.replicate n ((0, 0) : Int × Int)) j = (0, 0) := fun j => by
    unfold opAt
    rw [List.getD_eq_getElem?_getD, List.getElem?_replicate]
    split <;> rfl
  refine ⟨_, h, (Below.refl _ _).alloc (Nat.le_refl _) _, ⟨by simp, by simp, fun j hj => ⟨?_, ?_⟩, fun j => World.frozen?_alloc_at _ _ _ _ rfl⟩⟩
  · rw [World.cell?_alloc_at _ _ _ _ rfl, hat]
    simp [madeCells, hz1, Value.cells, show j * 2 < n * 2 by omega, Nat.mul_mod_left]
  · rw [World.cell?_alloc_at _ _ _ _ rfl, hat]
    simp [madeCells, hz1, Value.cells, show j * 2 + 1 < n * 2 by omega, show (j * 2 + 1) % 2 = 1 by omega]
theorem results_desk3 {fn : Func} {p u t : Tmp} {tmps : Array Value} {w : World} {b : Nat} {x y q v z : Value} (h : fn.results = #[.cell p 32, .tmp u, .tmp t]) (hp : tmps.getD p undef = .pointer (some ⟨b, 0, none⟩)) (hu : tmps.getD u undef = v) (ht : tmps.getD t undef = z) (h1 : w.cell? ⟨b, 0, none⟩ = some x) (h2 : w.cell? ⟨b, 1, none⟩ = some y) (h3 : w.cell? ⟨b, 2, none⟩ = some q) :
    (results fn tmps).run Try.prog w = .ok (.tuple #[.agg #[x, y, q], v, z]) w := by
  have e : (results fn tmps).run Try.prog w = ((asAddr (tmps.getD p undef)).run Try.prog w).andThen fun a w₁ => ((loadVar 32 a).run Try.prog w₁).andThen fun v w₂ => .ok (.tuple #[v, tmps.getD u undef, tmps.getD t undef]) w₂ := by
    simp only [results, h]
    simp [Sem.run_bind, Result.andThen]
  rw [e, hp, hu, ht]
  simp [asAddr, go_sem, h1, h2, h3]
theorem OffRec.items {w : World} {Bo B : Nat} {P : Spot} {n : NetL} {roles : List (List Int)} {d : DeskL} {ma ba : Option Addr} {ml mc bl bc : Nat} {iv tv : Value} (h : OffRec w Bo P B n roles d ma ba ml mc bl bc iv tv) (hl : d.items.length ≤ 5864062014805) : ∃ ia ic, iv = .slice ia d.items.length ic ∧ ItemsV w (.slice ia d.items.length ic) d.items := by
  have hrow := h.row
  rcases h.row.2 with ⟨rfl, h0⟩ | ⟨g, cap, cur, rfl, hb, hh, hn, hcap, _⟩
  · exact ⟨none, 0, by rw [h0], none, d.items.length, 0, rfl, rfl, hl, ⟨by omega, by omega, fun _ => rfl⟩, fun j hj => absurd hj (by omega)⟩
  · refine ⟨some ⟨g, 0, none⟩, cap, rfl, _, _, _, rfl, rfl, hl, ⟨hn, by unfold maxLen at hcap; omega, fun q => by cases q⟩, fun j hj => ?_⟩
    obtain ⟨s1, s2, s3⟩ := itemCells_at d.items j hj
    refine ⟨g, 0, rfl, (hrow.lt g rfl).2, ?_, ?_, ?_⟩
    · rw [Nat.zero_add]; exact (hrow.cellAt (j * 3) (by omega)).trans s1
    · rw [Nat.zero_add]; exact (hrow.cellAt (j * 3 + 1) (by omega)).trans s2
    · rw [Nat.zero_add]; exact (hrow.cellAt (j * 3 + 2) (by omega)).trans s3

end Go.Proofs.Ytaladbcocealnaa

/- What package desk promises, as it landed: Play. -/
namespace Go.Proofs.Ytaladbcocealnaa
open Go.RowKit
set_option linter.unusedVariables false
set_option linter.unusedSimpArgs false
set_option maxRecDepth 4000

theorem OpenV.size {w' : World} {n : NetL} {i : Int} {roles : List (List Int)} {cs : Array Value} (h : OpenV w' n i roles cs) : cs.size = 221 := by
  rcases h with ⟨_, e⟩ | ⟨_, _, _, _, _, _, _, _, e, _⟩
  · rw [e]; exact offA_size _ _ _ _ _ _
  · rw [e]; exact offA_size _ _ _ _ _ _
theorem OpenV.one {w' : World} {n : NetL} {i : Int} {roles : List (List Int)} {cs : Array Value} (h : OpenV w' n i roles cs) (v : Value) (hv : v ∈ cs.toList) : v.oneCell' = true := by
  rcases h with ⟨_, e⟩ | ⟨_, _, _, _, _, _, _, tv, e, _, _, hN⟩
  · rw [e] at hv; exact offA_one rfl rfl rfl rfl rfl v hv
  · rw [e] at hv
    have ht : tv.oneCell' = true := by
      obtain ⟨t', e2, hTt⟩ := hN
      injection e2 with e2
      injection e2 with e2
      injection e2 with _ e2
      injection e2 with e2 _
      rw [e2]
      exact trans_one hTt
    exact offA_one rfl rfl rfl rfl ht v hv

theorem Ints.blocks {w w' : World} {v : Value} {xs : List Int} (h : Ints w v xs) (hs : w.heap.size ≤ w'.heap.size) (hk : ∀ k, k < w.heap.size → w'.heap[k]? = w.heap[k]?) : Ints w' v xs := by
  obtain ⟨a, len, cap, e, hl, hm, hsh, hr⟩ := h
  refine ⟨a, len, cap, e, hl, hm, hsh, fun j hj => ?_⟩
  obtain ⟨b, off, ha, hlt, hc⟩ := hr j hj
  exact ⟨b, off, ha, Nat.lt_of_lt_of_le hlt hs, (World.cell?_of_block (a := ⟨b, off + j, none⟩) (hk b hlt)).trans hc⟩
theorem Trans.blocks {w w' : World} {v : Value} {ts : List TranL} (h : Trans w v ts) (hs : w.heap.size ≤ w'.heap.size) (hk : ∀ k, k < w.heap.size → w'.heap[k]? = w.heap[k]?) : Trans w' v ts := by
  obtain ⟨a, len, cap, e, hl, hm, hsh, hr⟩ := h
  refine ⟨a, len, cap, e, hl, hm, hsh, fun j hj => ?_⟩
  obtain ⟨b, off, c1, c2, ha, hlt, h0, h1, h2, i1, i2⟩ := hr j hj
  exact ⟨b, off, c1, c2, ha, Nat.lt_of_lt_of_le hlt hs, (World.cell?_of_block (a := ⟨b, _, none⟩) (hk b hlt)).trans h0, (World.cell?_of_block (a := ⟨b, _, none⟩) (hk b hlt)).trans h1, (World.cell?_of_block (a := ⟨b, _, none⟩) (hk b hlt)).trans h2, i1.blocks hs hk, i2.blocks hs hk⟩
theorem Net.trans1 {w : World} {p : Int} {tv : Value} {n : NetL} (h : Net w (.agg #[.int .i64 p, tv]) n) : Trans w tv n.trans := by
  obtain ⟨t', e2, hTt⟩ := h
  injection e2 with e2
  injection e2 with e2
  injection e2 with _ e2
  injection e2 with e2 _
  rw [e2]
  exact hTt

theorem items_of_row {w : World} {B : Nat} {iv : Value} {l : List ItemL} (hrow : w.ownsRow B 78 3 iv l.length (itemCells l)) (hl : l.length ≤ 5864062014805) : ∃ ia ic, iv = .slice ia l.length ic ∧ ItemsV w (.slice ia l.length ic) l := by
  rcases hrow.2 with ⟨rfl, h0⟩ | ⟨g, cap, cur, rfl, hb, hh, hn, hcap, _⟩
  · exact ⟨none, 0, by rw [h0], none, l.length, 0, rfl, rfl, hl, ⟨by omega, by omega, fun _ => rfl⟩, fun j hj => absurd hj (by omega)⟩
  · refine ⟨some ⟨g, 0, none⟩, cap, rfl, _, _, _, rfl, rfl, hl, ⟨hn, by unfold maxLen at hcap; omega, fun q => by cases q⟩, fun j hj => ?_⟩
    obtain ⟨s1, s2, s3⟩ := itemCells_at l j hj
    refine ⟨g, 0, rfl, (hrow.lt g rfl).2, ?_, ?_, ?_⟩
    · rw [Nat.zero_add]; exact (hrow.cellAt (j * 3) (by omega)).trans s1
    · rw [Nat.zero_add]; exact (hrow.cellAt (j * 3 + 1) (by omega)).trans s2
    · rw [Nat.zero_add]; exact (hrow.cellAt (j * 3 + 2) (by omega)).trans s3

abbrev zeroO : Array Value := offA (.slice none 0 0) (.slice none 0 0) (.slice none 0 0) (.int .i64 0) (.slice none 0 0) fun _ => false

set_option maxHeartbeats 8000000 in
theorem desk_play (v r u : Value) (n : NetL) (i : Int) (roles : List (List Int)) (os : List DOp) (w : World) (hv : Net w v n) (hr : Lists w r roles) (hu : DOpsV w u os) : Calls Try.prog 18 #[v, .int .i64 i, r, u] w fun e w' => GivesD w (deskAll n i roles os) e w' := by
  obtain ⟨tv0, rfl, hT⟩ := hv
  obtain ⟨ua, ucap, rfl, hmx, hsh⟩ := hu.slice
  have b1 := below_new w (.cells #[.int .i64 n.places, tv0] 24)
  have hbn := box2_new w (.int .i64 n.places) tv0 24
  obtain ⟨wa, Hwa⟩ : ∃ v, Hid (w.alloc (.cells #[.int .i64 n.places, tv0] 24) = v) := ⟨_, rfl⟩
  rw [Hwa.out] at b1 hbn
  have s1 : wa.heap.size = w.heap.size + 1 := by rw [← Hwa.out]; simp
  have b2 := below_new wa (.cells #[.slice none 0 0, .slice none 0 0, .slice none 0 0] 32)
  have hR := cellsAt_new wa #[.slice none 0 0, .slice none 0 0, .slice none 0 0] 32
  rw [s1] at hR
  obtain ⟨w0, Hw0⟩ : ∃ v, Hid ((w.alloc (.cells #[.int .i64 n.places, tv0] 24)).alloc (.cells #[.slice none 0 0, .slice none 0 0, .slice none 0 0] 32) = v) := ⟨_, rfl⟩
  have hw0 : wa.alloc (.cells #[.slice none 0 0, .slice none 0 0, .slice none 0 0] 32) = w0 := by rw [← Hwa.out]; exact Hw0.out
  rw [hw0] at b2 hR
  replace hbn := hbn.below b2
  have c0 := below_then b1 b2
  have hv : Net w0 (.agg #[.int .i64 n.places, tv0]) n := ⟨_, rfl, hT.below c0⟩
  clear hw0 Hwa s1 b1 b2
  obtain ⟨x0, x1, x2⟩ := id hbn
  go_enter Try.func18, Try.ntmps18
  go_upto_region 1 with fail
  rw [Hw0.out]
  clear Hw0
  go_wp2_with fail
  refine (open_any _ _ n i roles w0 (by exact hv) (by exact hr.below c0)).mono ?_
  rintro e w1 ⟨cs, rfl, hOp, b⟩
  replace c0 := below_then c0 b
  replace hR := hR.below b
  clear x0 x1 x2 hv hbn b
  have hcs : cs.size = 221 := hOp.size
  have hone : ∀ v ∈ cs.toList, v.oneCell' = true := hOp.one
  obtain ⟨zs, Hzs⟩ : ∃ zs, Hid (zeroO = zs) := ⟨_, rfl⟩
  have hzs : zs.size = 221 := by rw [← Hzs.out]; exact offA_size _ _ _ _ _ _
  have hinfo : (Try.prog.info? 63).map (fun i => (i.zero, i.size, i.bytes)) = some (some (.agg zs), 221, 320) := by rw [← Hzs.out]; exact info_office
  have hz := cellsAt_new w1 zs 63
  have bz := below_new w1 (.cells zs 63)
  obtain ⟨Bo, HBo⟩ : ∃ B, Hid (w1.heap.size = B) := ⟨_, rfl⟩
  obtain ⟨wz, Hwz⟩ : ∃ v, Hid (w1.alloc (.cells zs 63) = v) := ⟨_, rfl⟩
  rw [Hwz.out] at hz bz
  have b2 := below_setRow bz (Nat.le_refl _) cs
  rw [HBo.out] at hz b2
  have hB2 := hz.over cs
  obtain ⟨W2, HW2⟩ : ∃ v, Hid (wz.setRow Bo cs = v) := ⟨_, rfl⟩
  rw [HW2.out] at hB2 b2
  go_upto_region 2 with (first | (refine wpList_alloc_big rfl hinfo rfl ?_; rw [Hwz.out, HBo.out]) | (refine wpList_store_big rfl offZ _ _ rfl Bo _ cs _ rfl rfl hz hzs hcs hone ?_; rw [HW2.out]))
  clear Hwz hz bz
  replace c0 := below_then c0 (by rw [HBo.out]; exact b2)
  have hRlt := hR.lt
  rw [HBo.out] at hRlt
  replace hR : CellsAt W2 (w.heap.size + 1) #[.slice none 0 0, .slice none 0 0, .slice none 0 0] 32 := (b2.block _ hRlt).trans hR
  obtain ⟨E, HE⟩ : ∃ d, Hid ((beginC n i).2 = d) := ⟨_, rfl⟩
  rw [HE.out]
  have q0 : W2.cell? ⟨w.heap.size + 1, 0, none⟩ = some (.slice none 0 0) := hR.cell 0
  have q1 : W2.cell? ⟨w.heap.size + 1, 1, none⟩ = some (.slice none 0 0) := hR.cell 1
  have q2 : W2.cell? ⟨w.heap.size + 1, 2, none⟩ = some (.slice none 0 0) := hR.cell 2
  by_cases hE : E = 0
  · subst hE
    rcases hOp with ⟨hq, _⟩ | ⟨_, ma, ba, ml, mc, bl, bc, tv, ecs, hM, hBu, hN⟩
    · exact absurd HE.out hq
    have hNt := hN.trans1
    obtain ⟨d0, Hd0⟩ : ∃ d, Hid (deskBegin n i = d) := ⟨_, rfl⟩
    have Hall : Hid (deskAll n i roles os = ((deskPlay n roles d0 os).1, (deskPlay n roles d0 os).2, 0)) := by show _ = _; unfold deskAll; rw [if_pos HE.out, Hd0.out]
    have Hinv0 : Hid (DeskInv n roles d0) := by rw [← Hd0.out]; exact desk_begin roles HE.out
    have Hd1 : Hid (d0.items = [] ∧ d0.case = (beginC n i).1) := by rw [← Hd0.out]; exact ⟨rfl, rfl⟩
    have hO : OffRec W2 Bo Spot.own (W2.heap.size + 1) n roles d0 ma ba ml mc bl bc (.slice none 0 0) tv := by
      refine ⟨by rw [Spot.own_all, ← ecs]; exact hB2, ?_, ?_, ?_, ?_, (fun g e => by simp [Value.ownBlock] at e), (fun g e => by simp [Value.ownBlock] at e), by have := hB2.lt; omega⟩
      · rw [Hd1.out.2]; exact hM.below (by rw [HBo.out]; exact b2)
      · rw [Hd1.out.2]; exact hBu.below (by rw [HBo.out]; exact b2)
      · intro w' hs hk
        exact hNt.blocks (Nat.le_trans (Nat.le_trans (by rw [HBo.out]; exact Nat.le_of_lt hB2.lt) (Nat.le_refl _)) hs) (fun k hlt => by rw [HBo.out] at hlt; rw [hk k (Nat.lt_trans hlt hB2.lt) hlt]; exact b2.block k hlt)
      · rw [Hd1.out.1]; exact World.ownsRow_nil _ _ _ _
    have hoM := (hM.below (by rw [HBo.out]; exact b2)).offHigh (Nat.le_refl W2.heap.size)
    have hoB := (hBu.below (by rw [HBo.out]; exact b2)).offHigh (Nat.le_refl W2.heap.size)
    clear hM hBu hN hNt hB2 ecs hcs hone
    obtain ⟨len, Hlen⟩ : ∃ l, Hid (os.length = l) := ⟨_, rfl⟩
    rw [Hlen.out] at hmx hsh hu ⊢
    obtain ⟨w3, hmk, be, hX⟩ := make_ans W2 len (by omega)
    obtain ⟨Ba, HBa⟩ : ∃ B, Hid (W2.heap.size = B) := ⟨_, rfl⟩
    rw [HBa.out] at hmk hX hO hoM hoB
    have hBoBa : Bo < Ba := by have := hO.lo; have := hO.cells.lt; rw [HBa.out] at this; exact this
    have hRB : w.heap.size + 1 < Bo := hRlt
    have hOf : Office w3 Bo Spot.own (Ba + 1) n roles d0 (.slice none 0 0) (fun R => R = Ba) := ⟨_, _, _, _, _, _, _, hO.below be, fun R e => by subst e; exact ⟨hX.lt, hoM, hoB⟩⟩
    replace c0 := below_then c0 be
    replace hR := hR.below be
    clear be HBa hO hoM hoB q0 q1 q2 b2
    go_wp2_with fail
    go_loopg [32] len (fun gk i' wr => ∃ (k : Nat) (iv : Value) (l : List (Int × Int)), k + gk = len ∧ i' = .int .i64 (k : Int) ∧ Below w.heap.size w wr ∧ CellsAt wr (w.heap.size + 1) #[.slice none 0 0, .slice none 0 0, .slice none 0 0] 32 ∧ Office wr Bo Spot.own (Ba + 1) n roles (deskAt n roles d0 os k) iv (fun R => R = Ba) ∧ AnsAt wr Ba len l ∧ Hid (∀ j, j < k → opAt l j = opAt (ansL (deskPlay n roles d0 os).2) j))
    case atStart => exact ⟨0, _, _, by omega, rfl, c0, hR, hOf, hX, fun j hj => absurd hj (Nat.not_lt_zero _)⟩
    case round =>
      clear c0 hR hOf hX hmk
      obtain ⟨k, iv, l, hkg, rfl, c0, hR, hOf, hX, HX⟩ := hrel
      by_cases hk : k < len
      · obtain ⟨ob, of, rfl, hol, p0, p1, p2, p3, p4⟩ := (hu.below c0).at hk
        have Hinv : Hid (DeskInv n roles (deskAt n roles d0 os k)) := DeskInv.play _ Hinv0.out
        have Hfew : Hid ((deskAt n roles d0 os k).items.length + 1 ≤ 5864062014805) := by
          have := deskAt_few (n := n) (roles := roles) (d := d0) (os := os) (by rw [Hd1.out.1]; rfl) k (by rw [Hlen.out]; omega)
          show _ ≤ _
          omega
        have Hnx : Hid (deskAt n roles d0 os (k + 1) = (deskDo n roles (deskAt n roles d0 os k) (dopAt os k)).1) := deskAt_succ n roles d0 (by rw [Hlen.out]; exact hk)
        have Han : Hid (opAt (ansL (deskPlay n roles d0 os).2) k = ((deskDo n roles (deskAt n roles d0 os k) (dopAt os k)).2.err, (deskDo n roles (deskAt n roles d0 os k) (dopAt os k)).2.item)) := by
          show _ = _
          rw [ansL_at, ans_at n roles d0 (by rw [Hlen.out]; exact hk)]
        obtain ⟨dk, Hdk⟩ : ∃ d, Hid (deskAt n roles d0 os k = d) := ⟨_, rfl⟩
        obtain ⟨op, Hop⟩ : ∃ o, Hid (dopAt os k = o) := ⟨_, rfl⟩
        rw [Hdk.out] at hOf Hinv Hfew Hnx Han
        rw [Hop.out] at p0 p1 p2 p3 p4 Hnx Han
        have HIv : Hid (∀ g, iv.ownBlock = some g → Ba + 1 ≤ g) := fun g e => by obtain ⟨_, _, _, _, _, _, _, h, _⟩ := hOf; exact (h.row.lt g e).1
        have hBowr : Bo < wr.heap.size := by obtain ⟨_, _, _, _, _, _, _, h, _⟩ := hOf; exact h.cells.lt
        have bo := below_new wr (.cells #[.int .i64 op.kind, .int .i64 op.user, .int .i64 op.tran, .int .i64 op.item, .int .i64 op.hand] 45)
        have hbx := cellsAt_new wr #[.int .i64 op.kind, .int .i64 op.user, .int .i64 op.tran, .int .i64 op.item, .int .i64 op.hand] 45
        obtain ⟨Bx, HBx⟩ : ∃ B, Hid (wr.heap.size = B) := ⟨_, rfl⟩
        rw [HBx.out] at hbx
        obtain ⟨wo, Hwo⟩ : ∃ v, Hid (wr.alloc (.cells #[.int .i64 op.kind, .int .i64 op.user, .int .i64 op.tran, .int .i64 op.item, .int .i64 op.hand] 45) = v) := ⟨_, rfl⟩
        rw [Hwo.out] at bo hbx
        go_upto_region 8 with fail
        rw [Hwo.out, HBx.out]
        clear Hwo HBx p0 p1 p2 p3 p4 hol
        have hOfo : Office wo Bo Spot.own (Ba + 1) n roles dk iv (fun R => R = Ba) := by obtain ⟨_, _, _, _, _, _, _, h, hf⟩ := hOf; exact ⟨_, _, _, _, _, _, _, h.below bo, hf.up bo.size⟩
        replace c0 := below_then c0 bo
        replace hR := hR.below bo
        replace hX := hX.keep bo.size (bo.block Ba hX.lt)
        have hBowo : Bo < wo.heap.size := Nat.lt_of_lt_of_le hBowr bo.size
        clear hOf bo
        have o0 : wo.cell? ⟨Bx, 0, none⟩ = some (.int .i64 op.kind) := hbx.cell 0
        have o1 : wo.cell? ⟨Bx, 1, none⟩ = some (.int .i64 op.user) := hbx.cell 1
        have o2 : wo.cell? ⟨Bx, 2, none⟩ = some (.int .i64 op.tran) := hbx.cell 2
        have o3 : wo.cell? ⟨Bx, 3, none⟩ = some (.int .i64 op.item) := hbx.cell 3
        have o4 : wo.cell? ⟨Bx, 4, none⟩ = some (.int .i64 op.hand) := hbx.cell 4
        go_wp2_with fail
        refine (office_do op wo hOfo Hinv.out hX.lt Hfew.out).mono ?_
        rintro e w4 ⟨rfl, hA⟩
        obtain ⟨iv', hOf2, K1, hat⟩ := hA
        have hnA : iv.ownBlock ≠ some Ba := fun e => by have := HIv.out _ e; omega
        have hnR : iv.ownBlock ≠ some (w.heap.size + 1) := fun e => by have := HIv.out _ e; omega
        replace hX := hX.keep K1.size (K1.block Ba hX.lt (by omega) hnA)
        replace hR : CellsAt w4 (w.heap.size + 1) #[.slice none 0 0, .slice none 0 0, .slice none 0 0] 32 := (K1.block _ hR.lt (by omega) hnR).trans hR
        replace c0 : Below w.heap.size w w4 := by
          have hr := K1.rest
          refine ⟨hr.os.trans c0.os, hr.tape.trans c0.tape, hr.output.trans c0.output, Nat.le_trans c0.size hr.size, fun j hj => ?_⟩
          rw [K1.block j (Nat.lt_of_lt_of_le hj c0.size) (by omega) (fun e => by have := HIv.out _ e; omega)]
          exact c0.block j hj
        clear o0 o1 o2 o3 o4 hbx hOfo K1
        obtain ⟨x, Hx⟩ : ∃ z, Hid ((deskDo n roles dk op).2.err = z) := ⟨_, rfl⟩
        obtain ⟨y, Hy⟩ : ∃ z, Hid ((deskDo n roles dk op).2.item = z) := ⟨_, rfl⟩
        rw [Hx.out, Hy.out] at Han ⊢
        obtain ⟨W5, HW5⟩ : ∃ v, Hid ((w4.setCell ⟨Ba, k * 2, none⟩ (.int .i64 x)).setCell ⟨Ba, k * 2 + 1, none⟩ (.int .i64 y) = v) := ⟨_, rfl⟩
        obtain ⟨c1, c2⟩ := hX.cells k hk
        have f1 := hX.frozen (k * 2)
        have f2 := hX.frozen (k * 2 + 1)
        have hX5 := hX.put hk x y HW5.out
        have hR5 := (hR.set (p := ⟨Ba, k * 2, none⟩) (by show Ba ≠ w.heap.size + 1; omega) (.int .i64 x)).set (p := ⟨Ba, k * 2 + 1, none⟩) (by show Ba ≠ w.heap.size + 1; omega) (.int .i64 y)
        have c5 := (c0.setCell (p := ⟨Ba, k * 2, none⟩) (by show w.heap.size ≤ Ba; omega) (.int .i64 x)).setCell (p := ⟨Ba, k * 2 + 1, none⟩) (by show w.heap.size ≤ Ba; omega) (.int .i64 y)
        rw [HW5.out] at hR5 c5
        have hOf5 : Office W5 Bo Spot.own (Ba + 1) n roles (deskAt n roles d0 os (k + 1)) iv' (fun R => R = Ba) := by
          rw [Hnx.out]
          obtain ⟨_, _, _, _, _, _, _, h, hf⟩ := hOf2
          obtain ⟨_, t1, t2⟩ := hf Ba rfl
          have hnA' : iv'.ownBlock ≠ some Ba := fun e => by have := (h.row.lt _ e).1; omega
          rw [← HW5.out]
          exact ⟨_, _, _, _, _, _, _, (h.aside (p := ⟨Ba, k * 2, none⟩) t1 t2 hnA' (by show Ba > Bo; omega) _).aside (p := ⟨Ba, k * 2 + 1, none⟩) t1 t2 hnA' (by show Ba > Bo; omega) _, hf.up (by simp [World.setCell])⟩
        have HX5 : Hid (∀ j, j < k + 1 → opAt (l.set k (x, y)) j = opAt (ansL (deskPlay n roles d0 os).2) j) := fun j hj => by
          rw [op_set (by rw [hX.len]; exact hk)]
          split
          · rename_i e; rw [e, Han.out]
          · exact HX.out j (by omega)
        clear hX hR c0 hOf2 hat
        go_upto_region 9 with fail
        rw [HW5.out]
        go_wp2
        go_roundg (gk - 1)
        case measure => omega
        case rel => exact ⟨k + 1, _, _, by omega, by go_num, c5, hR5, hOf5, hX5, HX5⟩
      · obtain rfl : k = len := by omega
        have Hfew : Hid ((deskPlay n roles d0 os).1.items.length ≤ 5864062014805) := by
          have h1 := deskAt_few (n := n) (roles := roles) (d := d0) (os := os) (by rw [Hd1.out.1]; rfl) k (by rw [Hlen.out]; omega)
          rw [deskAt_all n roles d0 (by rw [Hlen.out]; exact Nat.le_refl _)] at h1
          show _ ≤ _
          omega
        rw [deskAt_all n roles d0 (by rw [Hlen.out]; exact Nat.le_refl _)] at hOf
        obtain ⟨ma9, ba9, ml9, mc9, bl9, bc9, tv9, h, hf⟩ := hOf
        obtain ⟨f0, f1, f2, _, _, _, _⟩ := h.facts0
        have hnR : iv.ownBlock ≠ some (w.heap.size + 1) := fun e => by have := (h.row.lt _ e).1; omega
        obtain ⟨ia, ic, rfl, _⟩ := h.items Hfew.out
        have q0 : wr.cell? ⟨w.heap.size + 1, 0, none⟩ = some (.slice none 0 0) := hR.cell 0
        have q1 : wr.cell? ⟨w.heap.size + 1, 1, none⟩ = some (.slice none 0 0) := hR.cell 1
        have q2 : wr.cell? ⟨w.heap.size + 1, 2, none⟩ = some (.slice none 0 0) := hR.cell 2
        have g0 := hR.frozen 0
        have g1 := hR.frozen 1
        have g2 := hR.frozen 2
        obtain ⟨N, HN⟩ : ∃ N, Hid ((deskPlay n roles d0 os).1.items.length = N) := ⟨_, rfl⟩
        obtain ⟨W6, HW6⟩ : ∃ v, Hid (((wr.setCell ⟨w.heap.size + 1, 0, none⟩ (.slice ma9 ml9 mc9)).setCell ⟨w.heap.size + 1, 1, none⟩ (.slice ba9 bl9 bc9)).setCell ⟨w.heap.size + 1, 2, none⟩ (.slice ia N ic) = v) := ⟨_, rfl⟩
        rw [HN.out] at f2 h hnR
        have e1 : (wr.setCell ⟨w.heap.size + 1, 0, none⟩ (.slice ma9 ml9 mc9)).cell? ⟨w.heap.size + 1, 1, none⟩ = some (.slice none 0 0) := by rw [World.cell?_setCell_other _ _ _ _ (by simp)]; exact q1
        have e2 : ((wr.setCell ⟨w.heap.size + 1, 0, none⟩ (.slice ma9 ml9 mc9)).setCell ⟨w.heap.size + 1, 1, none⟩ (.slice ba9 bl9 bc9)).cell? ⟨w.heap.size + 1, 2, none⟩ = some (.slice none 0 0) := by rw [World.cell?_setCell_other _ _ _ _ (by simp), World.cell?_setCell_other _ _ _ _ (by simp)]; exact q2
        have hM6 := ((h.mark.putS q0 (.slice ma9 ml9 mc9)).putS e1 (.slice ba9 bl9 bc9)).putS e2 (.slice ia N ic)
        have hB6 := ((h.busy.putS q0 (.slice ma9 ml9 mc9)).putS e1 (.slice ba9 bl9 bc9)).putS e2 (.slice ia N ic)
        have hrow6 := ownsRow_aside (ownsRow_aside (ownsRow_aside h.row (p := ⟨w.heap.size + 1, 0, none⟩) hnR (.slice ma9 ml9 mc9)) (p := ⟨w.heap.size + 1, 1, none⟩) hnR (.slice ba9 bl9 bc9)) (p := ⟨w.heap.size + 1, 2, none⟩) hnR (.slice ia N ic)
        have hX6 := hX.keep (w' := ((wr.setCell ⟨w.heap.size + 1, 0, none⟩ (.slice ma9 ml9 mc9)).setCell ⟨w.heap.size + 1, 1, none⟩ (.slice ba9 bl9 bc9)).setCell ⟨w.heap.size + 1, 2, none⟩ (.slice ia N ic)) (by simp [World.setCell]) (by rw [Below.heap_setCell _ ⟨w.heap.size + 1, 2, none⟩ _ Ba (by show Ba ≠ w.heap.size + 1; omega), Below.heap_setCell _ ⟨w.heap.size + 1, 1, none⟩ _ Ba (by show Ba ≠ w.heap.size + 1; omega), Below.heap_setCell _ ⟨w.heap.size + 1, 0, none⟩ _ Ba (by show Ba ≠ w.heap.size + 1; omega)])
        have hR6 := ((hR.put 0 (.slice ma9 ml9 mc9)).put 1 (.slice ba9 bl9 bc9)).put 2 (.slice ia N ic)
        have c6 := ((c0.setCell (p := ⟨w.heap.size + 1, 0, none⟩) (by show _ ≤ w.heap.size + 1; omega) (.slice ma9 ml9 mc9)).setCell (p := ⟨w.heap.size + 1, 1, none⟩) (by show _ ≤ w.heap.size + 1; omega) (.slice ba9 bl9 bc9)).setCell (p := ⟨w.heap.size + 1, 2, none⟩) (by show _ ≤ w.heap.size + 1; omega) (.slice ia N ic)
        rw [HW6.out] at hM6 hB6 hrow6 hX6 hR6 c6
        have hR6 : CellsAt W6 (w.heap.size + 1) #[.slice ma9 ml9 mc9, .slice ba9 bl9 bc9, .slice ia N ic] 32 := hR6
        have el : l = ansL (deskPlay n roles d0 os).2 := by
          apply List.ext_getElem?
          intro j
          have hll : (ansL (deskPlay n roles d0 os).2).length = k := by rw [ansL_length, desk_length, Hlen.out]
          rcases Nat.lt_or_ge j k with hj | hj
          · have := HX.out j hj
            unfold opAt at this
            rw [List.getD_eq_getElem?_getD, List.getD_eq_getElem?_getD, List.getElem?_eq_getElem (by rw [hX.len]; exact hj), List.getElem?_eq_getElem (by rw [hll]; exact hj)] at this
            rw [List.getElem?_eq_getElem (by rw [hX.len]; exact hj), List.getElem?_eq_getElem (by rw [hll]; exact hj)]
            simpa using this
          · rw [List.getElem?_eq_none (by rw [hX.len]; exact hj), List.getElem?_eq_none (by rw [hll]; exact hj)]
        have Hal : Hid ((deskPlay n roles d0 os).2.length = k) := by show _ = _; rw [desk_length, Hlen.out]
        have Hfin : Hid (GivesD w (deskAll n i roles os) (.returned (.tuple #[.agg #[.slice ma9 ml9 mc9, .slice ba9 bl9 bc9, .slice ia N ic], .slice (some ⟨Ba, 0, none⟩) k k, .int .i64 0])) W6) := by
          rw [Hall.out]
          obtain ⟨ia2, ic2, ei, hIt⟩ := items_of_row (l := (deskPlay n roles d0 os).1.items) (iv := .slice ia N ic) (by rw [HN.out]; rw [HN.out] at hrow6; exact hrow6) Hfew.out
          rw [HN.out] at ei hIt
          injection ei with ei1 _ ei3
          subst ei1 ei3
          refine ⟨_, some ⟨Ba, 0, none⟩, k, by rw [Hal.out], ⟨ma9, ml9, mc9, ba9, bl9, bc9, ia, ic, by rw [HN.out], hM6, hB6, by rw [HN.out]; exact hIt⟩, ?_, c6⟩
          rw [Hal.out, ← el]
          exact hX6.ops (by omega)
        clear hM6 hB6 hrow6 hX6 c6 hX hR c0 h hf HX el
        go_wp2
        rw [HW6.out]
        exact bodyPost_ret (results_desk3 rfl rfl rfl rfl (hR6.cell 0) (hR6.cell 1) (hR6.cell 2)) rfl Hfin.out
  · have A : Hid (deskAll n i roles os = (noDesk, [], E)) := by show _ = _; unfold deskAll; rw [if_neg (by rw [HE.out]; exact hE), HE.out]
    have hE1 : (E == 0) = false := by simpa using hE
    have hE2 : (E != 0) = true := by simpa using hE
    have f0 := hR.frozen 0
    have f1 := hR.frozen 1
    have f2 := hR.frozen 2
    obtain ⟨W3, HW3⟩ : ∃ v, Hid (((W2.setCell ⟨w.heap.size + 1, 0, none⟩ (.slice none 0 0)).setCell ⟨w.heap.size + 1, 1, none⟩ (.slice none 0 0)).setCell ⟨w.heap.size + 1, 2, none⟩ (.slice none 0 0) = v) := ⟨_, rfl⟩
    have hR3 := ((hR.put 0 (.slice none 0 0)).put 1 (.slice none 0 0)).put 2 (.slice none 0 0)
    have c3 := ((c0.setCell (p := ⟨w.heap.size + 1, 0, none⟩) (by show _ ≤ w.heap.size + 1; omega) (.slice none 0 0)).setCell (p := ⟨w.heap.size + 1, 1, none⟩) (by show _ ≤ w.heap.size + 1; omega) (.slice none 0 0)).setCell (p := ⟨w.heap.size + 1, 2, none⟩) (by show _ ≤ w.heap.size + 1; omega) (.slice none 0 0)
    rw [HW3.out] at hR3 c3
    have hR3 : CellsAt W3 (w.heap.size + 1) #[.slice none 0 0, .slice none 0 0, .slice none 0 0] 32 := hR3
    clear hOp hB2 hR
    go_wp2
    rw [HW3.out]
    refine bodyPost_ret (v := .tuple #[.agg #[.slice none 0 0, .slice none 0 0, .slice none 0 0], .slice none 0 0, .int .i64 E]) (results_desk3 rfl rfl rfl rfl (hR3.cell 0) (hR3.cell 1) (hR3.cell 2)) rfl ?_
    rw [A.out]
    exact ⟨_, none, 0, rfl, ⟨none, 0, 0, none, 0, 0, none, 0, rfl, Ints.nil _, Ints.nil _, none, 0, 0, rfl, rfl, by omega, ⟨Nat.le_refl _, by omega, fun _ => rfl⟩, fun j hj => absurd hj (Nat.not_lt_zero _)⟩, ⟨none, 0, 0, rfl, rfl, by omega, ⟨Nat.le_refl _, by omega, fun _ => rfl⟩, fun j hj => absurd hj (Nat.not_lt_zero _)⟩, c3⟩

end Go.Proofs.Ytaladbcocealnaa

/- The small trial of package desk that the laws make first: it answers true. -/
namespace Go.Proofs.Ytaladbcocealnaa
open Go.RowKit
set_option linter.unusedVariables false
set_option linter.unusedSimpArgs false
set_option maxRecDepth 4000

def net17 : NetL := ⟨2, [⟨3, [1, 0], [0, 1]⟩]⟩

theorem lit_net17 (w W : World) (hW : W = (((w.alloc (.cells #[.int .i64 1, .int .i64 0] 3)).alloc (.cells #[.int .i64 0, .int .i64 1] 3)).alloc (.cells #[.int .i64 3, .slice (some ⟨w.heap.size, 0, none⟩) 2 2, .slice (some ⟨w.heap.size + 1, 0, none⟩) 2 2] 80))) : Trans W (.slice (some ⟨w.heap.size + 1 + 1, 0, none⟩) 1 1) net17.trans ∧ Below w.heap.size w W ∧ W.heap.size = w.heap.size + 1 + 1 + 1 := by
  have b0 := below_new w (.cells #[.int .i64 1, .int .i64 0] 3)
  have i0 : Ints (w.alloc (.cells #[.int .i64 1, .int .i64 0] 3)) (.slice (some ⟨w.heap.size, 0, none⟩) 2 2) [1, 0] := ints_lit w _ [1, 0] 3 2 rfl (by omega) rfl
  generalize hw0 : w.alloc (.cells #[.int .i64 1, .int .i64 0] 3) = w0 at b0 i0 hW
  have s0 : w0.heap.size = w.heap.size + 1 := by rw [← hw0]; simp
  clear hw0
  have b1 := below_new w0 (.cells #[.int .i64 0, .int .i64 1] 3)
  have i1 : Ints (w0.alloc (.cells #[.int .i64 0, .int .i64 1] 3)) (.slice (some ⟨w.heap.size + 1, 0, none⟩) 2 2) [0, 1] := ints_lit w0 _ [0, 1] 3 2 rfl (by omega) s0.symm
  generalize hw1 : w0.alloc (.cells #[.int .i64 0, .int .i64 1] 3) = w1 at b1 i1 hW
  have s1 : w1.heap.size = w.heap.size + 1 + 1 := by rw [← hw1]; simp [s0]
  clear hw1
  replace i0 := i0.below b1
  have bz := below_new w1 (.cells #[.int .i64 3, .slice (some ⟨w.heap.size, 0, none⟩) 2 2, .slice (some ⟨w.heap.size + 1, 0, none⟩) 2 2] 80)
  replace i0 := i0.below bz
  replace i1 := i1.below bz
  have bb := below_then b0 (below_then b1 (bz))
  rw [hW]
  refine ⟨⟨_, _, _, rfl, rfl, by omega, ⟨by omega, by omega, fun h => by cases h⟩, fun j hj => ?_⟩, bb, by simp [s1]⟩
  match j, hj with
  | 0, _ => exact ⟨_, 0, _, _, rfl, by simp [s1], by rw [World.cell?_alloc_at _ _ _ _ s1.symm]; rfl, by rw [World.cell?_alloc_at _ _ _ _ s1.symm]; rfl, by rw [World.cell?_alloc_at _ _ _ _ s1.symm]; rfl, i0, i1⟩
  | j + 1, h => exact absurd (show j + 1 < 1 from h) (by omega)

theorem lit_net17_b (w W : World) (hT : Trans W (.slice (some ⟨w.heap.size + 1 + 1, 0, none⟩) 1 1) net17.trans) (hb : Below w.heap.size w W) (hs : W.heap.size = w.heap.size + 1 + 1 + 1) :
    ∃ b a, Value.pointer (some ⟨w.heap.size + 1 + 1 + 1, 0, none⟩) = .pointer (some ⟨b, 0, none⟩) ∧ Box2 (W.alloc (.cells #[.int .i64 2, .slice (some ⟨w.heap.size + 1 + 1, 0, none⟩) 1 1] 24)) b (.int .i64 2) (.slice a 1 1) ∧ Net (W.alloc (.cells #[.int .i64 2, .slice (some ⟨w.heap.size + 1 + 1, 0, none⟩) 1 1] 24)) (.agg #[.int .i64 2, .slice a 1 1]) net17 ∧ Below w.heap.size w (W.alloc (.cells #[.int .i64 2, .slice (some ⟨w.heap.size + 1 + 1, 0, none⟩) 1 1] 24)) := by
  have b1 := below_new W (.cells #[.int .i64 2, .slice (some ⟨w.heap.size + 1 + 1, 0, none⟩) 1 1] 24)
  have hx := box2_new W (.int .i64 2) (.slice (some ⟨w.heap.size + 1 + 1, 0, none⟩) 1 1) 24
  rw [hs] at hx
  exact ⟨_, _, rfl, hx, ⟨_, rfl, hT.below b1⟩, below_then hb b1⟩

def ops17 : List DOp := [⟨1, 2, 0, 0, 0⟩, ⟨1, 0, 0, 0, 0⟩, ⟨4, 0, 0, 0, 2⟩, ⟨4, 0, 0, 0, 1⟩, ⟨2, 0, 0, 0, 0⟩, ⟨2, 1, 0, 0, 0⟩]
theorem net17_play : deskAll net17 0 [[3], [3], []] ops17 = (⟨⟨[0, 1], [0]⟩, [⟨1, 0, false⟩]⟩, [⟨6, 0⟩, ⟨0, 0⟩, ⟨6, 0⟩, ⟨0, 0⟩, ⟨7, 0⟩, ⟨0, 0⟩], 0) := by rfl

/-- Two lists of items that are the same are told so. -/
theorem item_eq (x y : ItemL) (h1 : x.user = y.user) (h2 : x.tran = y.tran) (h3 : x.opn = y.opn) : x = y := by cases x; cases y; simp_all

set_option maxHeartbeats 1000000 in
theorem eqitems_same (v u : Value) (l : List ItemL) (w : World) (hv : ItemsV w v l) (hu : ItemsV w u l) :
    Calls Try.prog 26 #[v, u] w fun e w' => e = .returned (.bool true) ∧ Below w.heap.size w w' := by
  obtain ⟨a, ca, rfl, hla, _⟩ := hv.slice
  obtain ⟨b, cb, rfl, hlb, _⟩ := hu.slice
  obtain ⟨len, hlen⟩ : ∃ len, len = l.length := ⟨_, rfl⟩
  rw [← hlen] at hv hu hla hlb ⊢
  have e1 : (((len : Nat) : Int) != (len : Int)) = false := by simp
  go_enter Try.func26, Try.ntmps26
  go_wp2_with fail
  go_loopg [13] len (fun g i wr => ∃ k : Nat, k + g = len ∧ i = .int .i64 k ∧ Below w.heap.size w wr)
  case atStart => exact ⟨0, by omega, rfl, Below.refl _ _⟩
  case round =>
    obtain ⟨k, hkg, rfl, hb⟩ := hrel
    by_cases hkn : k < len
    · obtain ⟨b1, o1, rfl, _, c0, c1, c2⟩ := (hv.below hb).at hkn
      obtain ⟨b2, o2, rfl, _, d0, d1, d2⟩ := (hu.below hb).at hkn
      generalize itemAt l k = x at *
      obtain ⟨xu, xt, xo⟩ := x
      simp only at c0 c1 c2 d0 d1 d2
      have f1 : (xu == xu) = true := by simp
      have f2 : (xt == xt) = true := by simp
      have f3 : (xo == xo) = true := by simp
      go_wp2_with fail
      go_quiet (fail)
      have R := below_drewN hb nq
      clear c0 c1 c2 d0 d1 d2
      go_wp2
      go_roundg (gk - 1)
      case measure => omega
      case rel => exact ⟨k + 1, by omega, by go_num, R⟩
    · go_wp2
      go_ret
      exact ⟨rfl, hb⟩

end Go.Proofs.Ytaladbcocealnaa

/- Rows of things to do at a desk, and of answers, that the call itself gathers; two desks that are the same. -/
namespace Go.Proofs.Ytaladbcocealnaa
open Go.RowKit
set_option linter.unusedVariables false
set_option linter.unusedSimpArgs false
set_option maxRecDepth 4000

def dopC (o : DOp) : List Value := [.int .i64 o.kind, .int .i64 o.user, .int .i64 o.tran, .int .i64 o.item, .int .i64 o.hand]
def dopCells (l : List DOp) : List Value := l.flatMap dopC
theorem dopCells_append (l m : List DOp) : dopCells (l ++ m) = dopCells l ++ dopCells m := by simp [dopCells]
theorem dopCells_at : ∀ (l : List DOp) (j : Nat), j < l.length → (dopCells l)[j * 5]? = some (.int .i64 (dopAt l j).kind) ∧ (dopCells l)[j * 5 + 1]? = some (.int .i64 (dopAt l j).user) ∧ (dopCells l)[j * 5 + 2]? = some (.int .i64 (dopAt l j).tran) ∧ (dopCells l)[j * 5 + 3]? = some (.int .i64 (dopAt l j).item) ∧ (dopCells l)[j * 5 + 4]? = some (.int .i64 (dopAt l j).hand)
  | [], j, h => absurd h (Nat.not_lt_zero _)
  | x :: l, 0, h => ⟨rfl, rfl, rfl, rfl, rfl⟩
  | x :: l, j + 1, h => by
    have ec : dopCells (x :: l) = .int .i64 x.kind :: .int .i64 x.user :: .int .i64 x.tran :: .int .i64 x.item :: .int .i64 x.hand :: dopCells l := rfl
    have := dopCells_at l j (by simpa using h)
    rw [ec, show (j + 1) * 5 = j * 5 + 5 by omega]
    exact this
def ansC (l : List (Int × Int)) : List Value := l.flatMap fun x => [.int .i64 x.1, .int .i64 x.2]
theorem ansC_append (l m : List (Int × Int)) : ansC (l ++ m) = ansC l ++ ansC m := by simp [ansC]
theorem ansL_append (l m : List DAns) : ansL (l ++ m) = ansL l ++ ansL m := by simp [ansL]
theorem ansC_at : ∀ (l : List (Int × Int)) (j : Nat), j < l.length → (ansC l)[j * 2]? = some (.int .i64 (opAt l j).1) ∧ (ansC l)[j * 2 + 1]? = some (.int .i64 (opAt l j).2)
  | [], j, h => absurd h (Nat.not_lt_zero _)
  | x :: l, 0, h => ⟨rfl, rfl⟩
  | x :: l, j + 1, h => by
    have ec : ansC (x :: l) = .int .i64 x.1 :: .int .i64 x.2 :: ansC l := rfl
    have := ansC_at l j (by simpa using h)
    rw [ec, show (j + 1) * 2 = j * 2 + 2 by omega]
    exact this

theorem dops_of {B : Nat} {w : World} {v : Value} {l : List DOp} (h : w.ownsRow B 45 5 v l.length (dopCells l)) (hl : l.length ≤ 3518437208883) : DOpsV w v l := by
  have h0 := h
  obtain ⟨_, hc⟩ := h
  rcases hc with ⟨rfl, h1⟩ | ⟨g, cap, cur, rfl, hg, hh, hn, hcap, hsz, htake⟩
  · exact ⟨none, 0, 0, rfl, h1, by omega, ⟨by omega, by omega, fun _ => rfl⟩, fun j hj => absurd hj (by omega)⟩
  · refine ⟨_, _, _, rfl, rfl, hl, ⟨hn, by unfold maxLen at hcap; omega, fun h => by cases h⟩, fun j hj => ?_⟩
    obtain ⟨q0, q1, q2, q3, q4⟩ := dopCells_at l j hj
    exact ⟨g, 0, rfl, (Array.getElem?_eq_some_iff.1 hh).1, by rw [Nat.zero_add, h0.cellAt _ (by omega), q0], by rw [Nat.zero_add, h0.cellAt _ (by omega), q1], by rw [Nat.zero_add, h0.cellAt _ (by omega), q2], by rw [Nat.zero_add, h0.cellAt _ (by omega), q3], by rw [Nat.zero_add, h0.cellAt _ (by omega), q4]⟩
theorem answers_of {B : Nat} {w : World} {v : Value} {l : List (Int × Int)} (h : w.ownsRow B 40 2 v l.length (ansC l)) (hl : l.length ≤ 8796093022208) : OpsV w v l := by
  have h0 := h
  obtain ⟨_, hc⟩ := h
  rcases hc with ⟨rfl, h1⟩ | ⟨g, cap, cur, rfl, hg, hh, hn, hcap, hsz, htake⟩
  · exact ⟨none, 0, 0, rfl, h1, by omega, ⟨by omega, by omega, fun _ => rfl⟩, fun j hj => absurd hj (by omega)⟩
  · refine ⟨_, _, _, rfl, rfl, hl, ⟨hn, by unfold maxLen at hcap; omega, fun h => by cases h⟩, fun j hj => ?_⟩
    obtain ⟨q0, q1⟩ := ansC_at l j hj
    exact ⟨g, 0, rfl, (Array.getElem?_eq_some_iff.1 hh).1, by rw [Nat.zero_add, h0.cellAt _ (by omega), q0], by rw [Nat.zero_add, h0.cellAt _ (by omega), q1]⟩

theorem info_dopR : (Try.prog.info? 45).map (fun i => (i.zero, i.size, i.bytes)) = some (some (.agg #[.int .i64 0, .int .i64 0, .int .i64 0, .int .i64 0, .int .i64 0]), 5, 40) := by kernel_rfl
theorem info_dans : (Try.prog.info? 40).map (fun i => (i.zero, i.size, i.bytes)) = some (some (.agg #[.int .i64 0, .int .i64 0]), 2, 16) := by kernel_rfl

set_option maxHeartbeats 1000000 in
theorem eqans_same (v u : Value) (l : List (Int × Int)) (w : World) (hv : OpsV w v l) (hu : OpsV w u l) :
    Calls Try.prog 10 #[v, u] w fun e w' => e = .returned (.bool true) ∧ Below w.heap.size w w' := by
  obtain ⟨a, ca, rfl, hla, _⟩ := hv.slice
  obtain ⟨b, cb, rfl, hlb, _⟩ := hu.slice
  obtain ⟨len, hlen⟩ : ∃ len, len = l.length := ⟨_, rfl⟩
  rw [← hlen] at hv hu hla hlb ⊢
  have e1 : (((len : Nat) : Int) != (len : Int)) = false := by simp
  go_enter Try.func10, Try.ntmps10
  go_wp2_with fail
  go_loopg [13] len (fun g i wr => ∃ k : Nat, k + g = len ∧ i = .int .i64 k ∧ Below w.heap.size w wr)
  case atStart => exact ⟨0, by omega, rfl, Below.refl _ _⟩
  case round =>
    obtain ⟨k, hkg, rfl, hb⟩ := hrel
    by_cases hkn : k < len
    · obtain ⟨b1, o1, rfl, _, c0, c1⟩ := (hv.below hb).at hkn
      obtain ⟨b2, o2, rfl, _, d0, d1⟩ := (hu.below hb).at hkn
      generalize opAt l k = x at *
      obtain ⟨xu, xt⟩ := x
      simp only at c0 c1 d0 d1
      have f1 : (xu == xu) = true := by simp
      have f2 : (xt == xt) = true := by simp
      go_wp2_with fail
      go_quiet (fail)
      have R := below_drewN hb nq
      clear c0 c1 d0 d1
      go_wp2
      go_roundg (gk - 1)
      case measure => omega
      case rel => exact ⟨k + 1, by omega, by go_num, R⟩
    · go_wp2
      go_ret
      exact ⟨rfl, hb⟩

theorem three_boxes (w : World) (x y z x' y' z' : Value) (t : TypeId) : ∃ w0, Hid ((w.alloc (.cells #[x, y, z] t)).alloc (.cells #[x', y', z'] t) = w0) ∧ Box3 w0 w.heap.size x y z ∧ Box3 w0 (w.heap.size + 1) x' y' z' ∧ Below w.heap.size w w0 := by
  have b1 := below_new w (.cells #[x, y, z] t)
  have b2 := below_new (w.alloc (.cells #[x, y, z] t)) (.cells #[x', y', z'] t)
  have h2 := box3_new (w.alloc (.cells #[x, y, z] t)) x' y' z' t
  rw [show (w.alloc (.cells #[x, y, z] t)).heap.size = w.heap.size + 1 by simp] at h2
  exact ⟨_, rfl, (box3_new w x y z t).below b2, h2, below_then b1 b2⟩

set_option maxHeartbeats 1000000 in
theorem samedesk_same (v u : Value) (d : DeskL) (w : World) (hv : DeskV w v d) (hu : DeskV w u d) :
    Calls Try.prog 9 #[v, u] w fun e w' => e = .returned (.bool true) ∧ Below w.heap.size w w' := by
  obtain ⟨a, l, p, a', l', p', ia, ic, rfl, h1, h2, h3⟩ := hv
  obtain ⟨b, m, q, b', m', q', ja, jc, rfl, k1, k2, k3⟩ := hu
  obtain ⟨il, Hil⟩ : ∃ il, Hid (d.items.length = il) := ⟨_, rfl⟩
  rw [Hil.out] at h3 k3 ⊢
  obtain ⟨w0, Hw0, hbx, hby, c⟩ := three_boxes w (.slice a l p) (.slice a' l' p') (.slice ia il ic) (.slice b m q) (.slice b' m' q') (.slice ja il jc) 32
  have hc1 : CaseV w0 (.agg #[.slice a l p, .slice a' l' p']) d.case := ⟨a, l, p, a', l', p', rfl, h1.below c, h2.below c⟩
  have hc2 : CaseV w0 (.agg #[.slice b m q, .slice b' m' q']) d.case := ⟨b, m, q, b', m', q', rfl, k1.below c, k2.below c⟩
  replace h3 := h3.below c
  replace k3 := k3.below c
  obtain ⟨x0, x1, x2, x3⟩ := id hbx
  obtain ⟨y0, y1, y2, y3⟩ := id hby
  clear h1 h2 k1 k2
  go_enter Try.func9, Try.ntmps9
  go_upto_region 1 with fail
  rw [Hw0.out]
  clear Hw0
  go_wp2_with fail
  refine (samecase_any _ _ d.case d.case w0 (by exact hc1) (by exact hc2)).mono ?_
  rintro e w1 ⟨rfl, b1⟩
  rw [sameC_self]
  replace c := below_then c b1
  replace h3 := h3.below b1
  replace k3 := k3.below b1
  replace hbx := hbx.below b1
  replace hby := hby.below b1
  clear b1 x0 x1 x2 x3 y0 y1 y2 y3 hc1 hc2
  obtain ⟨x0, x1, x2, x3⟩ := id hbx
  obtain ⟨y0, y1, y2, y3⟩ := id hby
  go_wp2_with fail
  refine (eqitems_same _ _ d.items w1 (by exact h3) (by exact k3)).mono ?_
  rintro e w2 ⟨rfl, b1⟩
  replace c := below_then c b1
  go_wp2
  go_ret
  exact ⟨rfl, c⟩

end Go.Proofs.Ytaladbcocealnaa

/- A hall in memory: the office it began with, the office as it is, what is written, how much of it is sure: 444 cells of one block. -/
namespace Go.Proofs.Ytaladbcocealnaa
open Go.RowKit
set_option linter.unusedVariables false
set_option linter.unusedSimpArgs false
set_option maxRecDepth 4000

/-- The office as it is, within the hall. -/
def nowS (fs : Array Value) (hf : fs.size = 221) (wv sv : Value) : Spot := ⟨221, fs, #[wv, sv], 68, hf⟩

section
variable {w w' : World} {Bo B : Nat} {fs : Array Value} {hf : fs.size = 221} {wv sv : Value} {n : NetL} {roles : List (List Int)} {d : DeskL} {ma ba : Option Addr} {ml mc bl bc : Nat} {iv tv : Value}
theorem Spot.all_suf (P : Spot) (cs : Array Value) (j : Nat) : (P.all cs)[P.off + cs.size + j]? = P.suf[j]? := by
  unfold Spot.all
  rw [← P.size, Array.getElem?_append_right (by omega), Array.getElem?_append_right (by omega)]
  congr 1
  omega
theorem Spot.all_pre (P : Spot) (cs : Array Value) {j : Nat} (h : j < P.off) : (P.all cs)[j]? = P.pre[j]? := by
  unfold Spot.all
  rw [Array.getElem?_append_left (by rw [P.size]; exact h)]
theorem OffRec.written (h : OffRec w Bo (nowS fs hf wv sv) B n roles d ma ba ml mc bl bc iv tv) : w.cell? ⟨Bo, 442, none⟩ = some wv := by
  have e := (nowS fs hf wv sv).all_suf (offA (.slice ma ml mc) (.slice ba bl bc) iv (.int .i64 n.places) tv (mayG roles)) 0
  rw [offA_size] at e
  rw [h.cells.cell]
  exact e
theorem OffRec.sure (h : OffRec w Bo (nowS fs hf wv sv) B n roles d ma ba ml mc bl bc iv tv) : w.cell? ⟨Bo, 443, none⟩ = some sv := by
  have e := (nowS fs hf wv sv).all_suf (offA (.slice ma ml mc) (.slice ba bl bc) iv (.int .i64 n.places) tv (mayG roles)) 1
  rw [offA_size] at e
  rw [h.cells.cell]
  exact e
theorem OffRec.first (h : OffRec w Bo (nowS fs hf wv sv) B n roles d ma ba ml mc bl bc iv tv) {j : Nat} (hj : j < 221) : w.cell? ⟨Bo, j, none⟩ = fs[j]? := by
  rw [h.cells.cell]
  exact (nowS fs hf wv sv).all_pre _ hj
theorem nowS_written (cs : Array Value) (hc : cs.size = 221) (x : Value) : ((nowS fs hf wv sv).all cs).setIfInBounds 442 x = (nowS fs hf x sv).all cs := by
  show (fs ++ (cs ++ #[wv, sv])).setIfInBounds 442 x = fs ++ (cs ++ #[x, sv])
  rw [Array.setIfInBounds_append_right (by omega), Array.setIfInBounds_append_right (by omega), hf, hc]
  rfl
theorem nowS_sure (cs : Array Value) (hc : cs.size = 221) (x : Value) : ((nowS fs hf wv sv).all cs).setIfInBounds 443 x = (nowS fs hf wv x).all cs := by
  show (fs ++ (cs ++ #[wv, sv])).setIfInBounds 443 x = fs ++ (cs ++ #[wv, x])
  rw [Array.setIfInBounds_append_right (by omega), Array.setIfInBounds_append_right (by omega), hf, hc]
  rfl
/-- More is sure. -/
theorem OffRec.putSure {s : Int} (h : OffRec w Bo (nowS fs hf wv (.int .i64 s)) B n roles d ma ba ml mc bl bc iv tv) (x : Value) (hm : Ints (w.setCell ⟨Bo, 443, none⟩ x) (.slice ma ml mc) d.case.mark) (hb : Ints (w.setCell ⟨Bo, 443, none⟩ x) (.slice ba bl bc) d.case.busy) :
    OffRec (w.setCell ⟨Bo, 443, none⟩ x) Bo (nowS fs hf wv x) B n roles d ma ba ml mc bl bc iv tv := by
  refine ⟨?_, hm, hb, h.trans.set (a := ⟨Bo, 443, none⟩) (by show ¬ Bo < Bo; omega) _, ownsRow_aside h.row (p := ⟨Bo, 443, none⟩) h.ne _, h.offM, h.offB, h.lo⟩
  have := h.cells.put 443 x
  rw [nowS_sure _ (offA_size _ _ _ _ _ _)] at this
  exact this
/-- More, or less, is written. -/
theorem OffRec.putWritten {a : Option Addr} {l c : Nat} (h : OffRec w Bo (nowS fs hf (.slice a l c) sv) B n roles d ma ba ml mc bl bc iv tv) (x : Value) :
    OffRec (w.setCell ⟨Bo, 442, none⟩ x) Bo (nowS fs hf x sv) B n roles d ma ba ml mc bl bc iv tv := by
  refine ⟨?_, h.mark.putS h.written _, h.busy.putS h.written _, h.trans.set (a := ⟨Bo, 442, none⟩) (by show ¬ Bo < Bo; omega) _, ownsRow_aside h.row (p := ⟨Bo, 442, none⟩) h.ne _, h.offM, h.offB, h.lo⟩
  have := h.cells.put 442 x
  rw [nowS_written _ (offA_size _ _ _ _ _ _)] at this
  exact this
end

end Go.Proofs.Ytaladbcocealnaa

/- A row of its own, cut short; bytes appended to one while older blocks are written to. -/
namespace Go.Proofs.Ytaladbcocealnaa
open Go.RowKit
set_option linter.unusedVariables false
set_option linter.unusedSimpArgs false
set_option maxRecDepth 4000

theorem ownsRow_short {B : Nat} {w : World} {e : TypeId} {size g n cap : Nat} {xs : List Value} (h : w.ownsRow B e size (.slice (some ⟨g, 0, none⟩) n cap) n xs) {k : Nat} (hk : k ≤ n) :
    w.ownsRow B e size (.slice (some ⟨g, 0, none⟩) k cap) k (xs.take (k * size)) := by
  obtain ⟨h1, h2⟩ := h
  have hks : k * size ≤ n * size := Nat.mul_le_mul_right _ hk
  refine ⟨by rw [List.length_take]; omega, ?_⟩
  rcases h2 with ⟨e1, _⟩ | ⟨g', cap', cur, e1, hg, hh, r1, r2, r3, r4⟩
  · cases e1
  · injection e1 with e2 e3 e4
    injection e2 with e2
    injection e2 with e2
    subst e2 e4
    refine .inr ⟨g, cap, cur, rfl, hg, hh, Nat.le_trans hk r1, r2, r3, ?_⟩
    rw [← r4, List.take_take, Nat.min_eq_left hks]

/-- append of all of another slice of bytes, to a row of its own. -/
theorem wp_append_row8 {ops : Array Oper} {rest : List Oper} {o : Oper} {a : Act} {Q : Exit → Act → World → Prop} (hgd : o.guard = none) (s x : Operand)
    (ho : o.op = .call { callee := .builtin .append, args := #[s, x], argTypes := #[66, 66] }) (B : Nat) (wr : World) (v : Value) (ad : Addr) (m c : Nat) (zs ys : List Int) (hown : wr.ownsRow B 5 1 v zs.length (zs.map (Value.int .u8))) (hB : B ≤ wr.heap.size)
    (hs : a.eval s = v) (hx : a.eval x = .slice (some ad) m c) (hu : BytesV wr (.slice (some ad) m c) ys) (hl : zs.length + ys.length ≤ 24629060462187)
    (h : ∀ v' w', w'.ownsRow B 5 1 v' (zs ++ ys).length ((zs ++ ys).map (Value.int .u8)) → wr.grownBy w' v.ownBlock → (v'.ownBlock = v.ownBlock ∨ v'.ownBlock = some wr.heap.size) → wpList Try.prog ops Q rest (a.put o.dst v') w') : wpList Try.prog ops Q (o :: rest) a wr := by
  obtain ⟨i0, hi, hz0, hz1, hz2⟩ := info_parts info_u8
  obtain ⟨ax, len, cap, e, hlen, hmx, hsh, hy, hr⟩ := hu
  injection e with e1 e2 e3
  subst e1 e2 e3
  refine wpList_append_own_at _ hgd s x 66 ho B 5 i0 (.int .u8 0) 1 1 Try.underlying66 hi hz0 hz1 hz2 rfl (by decide) v zs.length _ hs hown ad m c (ys.map (Value.int .u8)) hx (by simp [hlen]) ?_ ?_ ?_ ?_ hB ?_
  · intro j u hj
    by_cases hjl : j < ys.length
    · obtain ⟨b, off, e, _, hc⟩ := hr j hjl
      injection e with e
      subst e
      rw [addr_add, hc]
      simp [nth, List.getD, List.getElem?_eq_getElem hjl] at hj ⊢
      exact hj
    · rw [List.getElem?_eq_none (by simp; omega)] at hj; cases hj
  · intro u hu
    obtain ⟨x, _, rfl⟩ := List.mem_map.1 hu
    rfl
  · unfold maxLen; omega
  · omega
  · intro v' w' hown' hgrow _ hat
    exact h v' w' (by rw [List.map_append, List.length_append, hlen]; exact hown') hgrow hat

end Go.Proofs.Ytaladbcocealnaa

/- An office within a larger block, loaded and stored whole; a hall built of two offices. -/
namespace Go.Proofs.Ytaladbcocealnaa
open Go.RowKit
set_option linter.unusedVariables false
set_option linter.unusedSimpArgs false
set_option maxRecDepth 4000

theorem Spot.all_list (P : Spot) (cs : Array Value) : (P.all cs).toList = P.pre.toList ++ (cs.toList ++ P.suf.toList) := by simp [Spot.all]
theorem loadVar_spot {t : TypeId} {n : Nat} (hA : ∀ w, (isAgg t).run Try.prog w = .ok true w) (hZ : ∀ w, (sizeOf t).run Try.prog w = .ok n w) (w : World) (b : Nat) (P : Spot) (cs : Array Value) (t' : TypeId) (hb : CellsAt w b (P.all cs) t') (hs : cs.size = n) : (loadVar t ⟨b, P.off, none⟩).run Try.prog w = .ok (.agg cs) w := by
  have h1 : (loadCells ⟨b, P.off, none⟩ n).run Try.prog w = .ok cs w := by
    have := run_loadCells_list (P := Try.prog) w ⟨b, P.off, none⟩ cs.toList (fun j v hj => by
      have hj' : cs[j]? = some v := by simpa using hj
      have hlt : j < cs.size := (Array.getElem?_eq_some_iff.1 hj').1
      rw [addr_add, hb.cell, P.all_at _ hlt]
      exact hj')
    simpa [hs] using this
  simp only [loadVar, Sem.run_bind, hA, hZ, Result.andThen, h1, if_true, Sem.run_pure]
theorem storeVar_spot {t : TypeId} {n : Nat} (hZ : ∀ w, (sizeOf t).run Try.prog w = .ok n w) (w : World) (b : Nat) (P : Spot) (cs ds : Array Value) (t' : TypeId) (hb : CellsAt w b (P.all cs) t') (hs : cs.size = n) (hd : ds.size = n) (h1 : ∀ v ∈ ds.toList, v.oneCell' = true) : (storeVar t ⟨b, P.off, none⟩ (.agg ds)).run Try.prog w = .ok () (w.setRow b (P.all ds)) := by
  have hsz : (P.all cs).size = P.off + (n + P.suf.size) := by unfold Spot.all; rw [Array.size_append, Array.size_append, P.size, hs]
  have h2 := run_storeCells_at Try.prog b P.off t' ds.toList 0 (P.all cs) w hb (by rw [hsz, Array.length_toList, hd]; omega) h1
  have e : ((P.all cs).toList.take (P.off + 0) ++ ds.toList ++ (P.all cs).toList.drop (P.off + 0 + ds.toList.length)).toArray = P.all ds := by
    have ep : P.pre.toList.length = P.off := by rw [Array.length_toList]; exact P.size
    have e1 : (P.all cs).toList.take (P.off + 0) = P.pre.toList := by
      rw [P.all_list, Nat.add_zero, ← ep, List.take_left']
      rfl
    have e2 : (P.all cs).toList.drop (P.off + 0 + ds.toList.length) = P.suf.toList := by
      rw [P.all_list, Nat.add_zero, Array.length_toList, hd, ← hs, ← Array.length_toList (xs := cs), ← ep, ← List.append_assoc, ← List.length_append, List.drop_left']
      rfl
    rw [e1, e2]
    apply Array.ext'
    rw [P.all_list]
    simp
  rw [e] at h2
  simp only [storeVar, Sem.run_bind, hZ, Result.andThen, Value.cells, hd, ne_eq, not_true_eq_false, if_false, h2]

theorem wp_load_spot {o : Oper} {a : Act} {w : World} {K : Act → World → Prop} {Q : Exit → Act → World → Prop} {t : TypeId} {n : Nat} (hA : ∀ w, (isAgg t).run Try.prog w = .ok true w) (hZ : ∀ w, (sizeOf t).run Try.prog w = .ok n w) (x : Operand) (ho : o.op = .load t x) (b : Nat) (P : Spot) (off : Nat) (hoff : off = P.off) (cs : Array Value) (t' : TypeId) (hx : a.eval x = .pointer (some ⟨b, off, none⟩)) (hG : CellsAt w b (P.all cs) t') (hs : cs.size = n)
    (h : K (a.put o.dst (.agg cs)) w) : o.wp Try.prog a w K Q := by
  subst hoff
  unfold Oper.wp execOp
  simp only [ho, hx, Instr.loadAt, Instr.sureAddr, Sem.run_bind, Sem.run_pure, Result.andThen_ok, loadVar_spot hA hZ w b P cs t' hG hs]
  exact h
theorem wpList_load_spot {ops : Array Oper} {rest : List Oper} {o : Oper} {a : Act} {w : World} {Q : Exit → Act → World → Prop} {t : TypeId} {n : Nat} (hgd : o.guard = none) (hA : ∀ w, (isAgg t).run Try.prog w = .ok true w) (hZ : ∀ w, (sizeOf t).run Try.prog w = .ok n w) (x : Operand) (ho : o.op = .load t x) (b : Nat) (P : Spot) (off : Nat) (hoff : off = P.off) (cs : Array Value) (t' : TypeId) (hx : a.eval x = .pointer (some ⟨b, off, none⟩)) (hG : CellsAt w b (P.all cs) t') (hs : cs.size = n)
    (h : wpList Try.prog ops Q rest (a.put o.dst (.agg cs)) w) : wpList Try.prog ops Q (o :: rest) a w :=
  wpList_plain hgd fun _ hK => wp_load_spot hA hZ x ho b P off hoff cs t' hx hG hs (hK _ _ h)
theorem wp_store_spot {o : Oper} {a : Act} {w : World} {K : Act → World → Prop} {Q : Exit → Act → World → Prop} {t : TypeId} {n : Nat} (hZ : ∀ w, (sizeOf t).run Try.prog w = .ok n w) (x y : Operand) (ho : o.op = .store t x y) (b : Nat) (P : Spot) (off : Nat) (hoff : off = P.off) (cs ds : Array Value) (t' : TypeId) (hx : a.eval x = .pointer (some ⟨b, off, none⟩)) (hy : a.eval y = .agg ds) (hG : CellsAt w b (P.all cs) t') (hs : cs.size = n) (hd : ds.size = n) (h1 : ∀ v ∈ ds.toList, v.oneCell' = true)
    (h : K (a.put o.dst undef) (w.setRow b (P.all ds))) : o.wp Try.prog a w K Q := by
  subst hoff
  unfold Oper.wp execOp
  simp only [ho, hx, hy, Instr.storeAt, Instr.sureAddr, Sem.run_bind, Sem.run_pure, Result.andThen_ok, storeVar_spot hZ w b P cs ds t' hG hs hd h1]
  exact h
theorem wpList_store_spot {ops : Array Oper} {rest : List Oper} {o : Oper} {a : Act} {w : World} {Q : Exit → Act → World → Prop} {t : TypeId} {n : Nat} (hgd : o.guard = none) (hZ : ∀ w, (sizeOf t).run Try.prog w = .ok n w) (x y : Operand) (ho : o.op = .store t x y) (b : Nat) (P : Spot) (off : Nat) (hoff : off = P.off) (cs ds : Array Value) (t' : TypeId) (hx : a.eval x = .pointer (some ⟨b, off, none⟩)) (hy : a.eval y = .agg ds) (hG : CellsAt w b (P.all cs) t') (hs : cs.size = n) (hd : ds.size = n) (h1 : ∀ v ∈ ds.toList, v.oneCell' = true)
    (h : wpList Try.prog ops Q rest (a.put o.dst undef) (w.setRow b (P.all ds))) : wpList Try.prog ops Q (o :: rest) a w :=
  wpList_plain hgd fun _ hK => wp_store_spot hZ x y ho b P off hoff cs ds t' hx hy hG hs hd h1 (hK _ _ h)
theorem CellsAt.overAny {w : World} {b : Nat} {cs : Array Value} {t : TypeId} (h : CellsAt w b cs t) (ds : Array Value) : CellsAt (w.setRow b ds) b ds t := h.over ds

end Go.Proofs.Ytaladbcocealnaa
