import Derived.Test.YtaladbcocealnaaGr22
import Derived.Test.YtaladbcocealnaaGr05
import Derived.Test.YtaladbcocealnaaGr09
/- A hall at work, in memory: its office, its journal, and the office it began with. -/
namespace Go.Proofs.Ytaladbcocealnaa
open Go.RowKit
set_option linter.unusedVariables false
set_option linter.unusedSimpArgs false
set_option maxRecDepth 4000

/-- What hangs on blocks ahead of B does not lie in one from B on. -/
theorem on_off {B g : Nat} {w : World} {v : Value} {xs : List Int} (h : On (fun k => k < B) w (fun w' => Ints w' v xs)) (hg : B ≤ g) : SlOff g v := by
  intro b off l c e hl q
  subst e q
  have h1 := h { w with heap := w.heap.setIfInBounds b (.cells #[] 0 (0, 0)) } (by simp) (fun k hk hD => by
    show (w.heap.setIfInBounds b _)[k]? = _
    rw [Array.getElem?_setIfInBounds_ne (by omega)])
  obtain ⟨a', len', cap', e, hl', _, _, hr⟩ := h1
  injection e with e1 e2 _
  subst e2
  obtain ⟨b', off', ha, hlt', hc⟩ := hr 0 (by omega)
  rw [← e1] at ha
  injection ha with ha
  injection ha with ha1 ha2
  subst ha1
  have hb : b < (w.heap.setIfInBounds b (.cells #[] 0 (0, 0))).size := hlt'
  have hcell : (w.heap.setIfInBounds b (.cells #[] 0 (0, 0)))[b]? = some (.cells #[] 0 (0, 0)) := by
    rw [Array.getElem?_setIfInBounds_self_of_lt (by simpa using hb)]
  simp [World.cell?, hcell] at hc

/-- The office a hall began with, as cells. -/
def firstA (fm fb ftv : Value) (n : NetL) (roles : List (List Int)) : Array Value := offA fm fb (.slice none 0 0) (.int .i64 n.places) ftv (mayG roles)
theorem firstA_size (fm fb ftv : Value) (n : NetL) (roles : List (List Int)) : (firstA fm fb ftv n roles).size = 221 := offA_size _ _ _ _ _ _
def hallS (fm fb ftv : Value) (n : NetL) (roles : List (List Int)) (wv : Value) (s : Nat) : Spot := nowS (firstA fm fb ftv n roles) (firstA_size _ _ _ _ _) wv (.int .i64 ((7 * s : Nat) : Int))

structure HallRest (L : Nat) (w : World) (Bh B : Nat) (n : NetL) (first : DeskL) (ws : List DOp) (iv wv fm fb ftv : Value) : Prop where
  kept : On (fun k => k < Bh) w (fun w' => Ints w' fm first.case.mark ∧ Ints w' fb first.case.busy ∧ Trans w' ftv n.trans)
  row : w.ownsRow B 5 1 wv (writtenL ws).length ((writtenL ws).map (Value.int .u8))
  ne : ∀ g, wv.ownBlock = some g → iv.ownBlock ≠ some g
  lt : Bh < B
  old : SlFrom L fm ∧ SlFrom L fb ∧ L ≤ Bh

section
variable {w w' : World} {L Bh B : Nat} {n : NetL} {first : DeskL} {ws : List DOp} {iv iv' wv fm fb ftv : Value}
theorem HallRest.below (h : HallRest L w Bh B n first ws iv wv fm fb ftv) (hb : Below w.heap.size w w') : HallRest L w' Bh B n first ws iv wv fm fb ftv :=
  ⟨h.kept.below hb, ((ownsRow_on h.row).below hb).now, h.ne, h.lt, h.old⟩
theorem HallRest.keepO (h : HallRest L w Bh B n first ws iv wv fm fb ftv) (K : KeepO Bh iv w w') (hiv : ∀ g, iv.ownBlock = some g → B ≤ g) (hat : iv'.ownBlock = iv.ownBlock ∨ ∃ g, iv'.ownBlock = some g ∧ w.heap.size ≤ g) : HallRest L w' Bh B n first ws iv' wv fm fb ftv := by
  refine ⟨h.kept.to K.size (fun k hk hD => K.block k hk (by omega) (fun e => by have := hiv _ e; have := h.lt; omega)), ((ownsRow_on h.row).to K.size (fun k hk hD => K.block k hk (by have := h.lt; omega) (fun e => h.ne k hD.1 e))).now, ?_, h.lt, h.old⟩
  intro g hg e
  rcases hat with q | ⟨g', q1, q2⟩
  · exact h.ne g hg (by rw [← q]; exact e)
  · rw [q1] at e; injection e with e; have := (h.row.lt g hg).2; omega
theorem HallRest.set (h : HallRest L w Bh B n first ws iv wv fm fb ftv) {p : Addr} (hp : Bh ≤ p.block) (hn : wv.ownBlock ≠ some p.block) (u : Value) : HallRest L (w.setCell p u) Bh B n first ws iv wv fm fb ftv :=
  ⟨h.kept.set (a := p) (by show ¬ p.block < Bh; omega) u, ownsRow_aside h.row hn u, h.ne, h.lt, h.old⟩
end

/-- Blocks that the case does not lie in: the journal's, the hall's own, and some of others. -/
def farH (L Bh : Nat) (F : Nat → Prop) (wv : Value) : Nat → Prop := fun R => (wv.ownBlock = some R ∨ R = Bh ∨ R < L) ∨ F R
def HallAt (L : Nat) (w : World) (Bh B : Nat) (n : NetL) (roles : List (List Int)) (first : DeskL) (h : HallL) (F : Nat → Prop) : Prop :=
  ∃ iv wv fm fb ftv, Office w Bh (hallS fm fb ftv n roles wv h.sure) B n roles h.desk iv (farH L Bh F wv) ∧ HallRest L w Bh B n first h.ws iv wv fm fb ftv ∧ ∀ R, F R → Bh < R ∧ iv.ownBlock ≠ some R ∧ wv.ownBlock ≠ some R

/-- All blocks ahead of B stand, and those of F, but the hall's own. -/
structure KeepH (Bh B : Nat) (F : Nat → Prop) (w w' : World) : Prop where
  rest : Below 0 w w'
  block : ∀ k, k < w.heap.size → k < B ∨ F k → k ≠ Bh → w'.heap[k]? = w.heap[k]?
theorem KeepH.refl (Bh B : Nat) (F : Nat → Prop) (w : World) : KeepH Bh B F w w := ⟨(Below.refl 0 w), fun _ _ _ _ => rfl⟩
theorem KeepH.then {Bh B : Nat} {F : Nat → Prop} {w w1 w2 : World} (h : KeepH Bh B F w w1) (g : KeepH Bh B F w1 w2) : KeepH Bh B F w w2 :=
  ⟨h.rest.trans g.rest, fun k hk hk2 h1 => (g.block k (Nat.lt_of_lt_of_le hk h.rest.size) hk2 h1).trans (h.block k hk hk2 h1)⟩
theorem KeepH.of {Bh B : Nat} {F : Nat → Prop} {w w' : World} (h : Below w.heap.size w w') : KeepH Bh B F w w' := ⟨h.mono (Nat.zero_le _), fun k hk _ _ => h.block k hk⟩
theorem KeepH.keepO {Bh B : Nat} {F : Nat → Prop} {iv : Value} {w w' : World} (K : KeepO Bh iv w w') (hiv : ∀ g, iv.ownBlock = some g → B ≤ g ∧ ¬ F g) : KeepH Bh B F w w' :=
  ⟨K.rest, fun k hk hk2 h1 => K.block k hk h1 (fun e => by
    rcases hk2 with q | q
    · have := (hiv _ e).1; omega
    · exact (hiv _ e).2 q)⟩
theorem KeepH.set {Bh B : Nat} {F : Nat → Prop} {w w' : World} (h : KeepH Bh B F w w') {p : Addr} (hp : p.block = Bh ∨ B ≤ p.block ∧ ¬ F p.block) (u : Value) : KeepH Bh B F w (w'.setCell p u) :=
  ⟨h.rest.setCell (p := p) (Nat.zero_le _) u, fun k hk hk2 h1 => (Below.heap_setCell w' p u k (fun e => by
    rcases hp with q | ⟨q, q2⟩
    · exact h1 (e.trans q)
    · rcases hk2 with r | r
      · omega
      · exact q2 (by rw [← e]; exact r))).trans (h.block k hk hk2 h1)⟩

theorem hall_do1 {n : NetL} {roles : List (List Int)} {first : DeskL} {h : HallL} {kp : Int} {o : DOp} (hf : fitsO o = false) : hallDo n roles first h ⟨1, kp, o⟩ = (h, ⟨2, 0⟩) := by simp [hallDo, hf]
theorem hall_do2 {n : NetL} {roles : List (List Int)} {first : DeskL} {h : HallL} {kp : Int} {o : DOp} (hf : fitsO o = true) (he : (deskDo n roles h.desk o).2.err = 0) :
    hallDo n roles first h ⟨1, kp, o⟩ = (⟨(deskDo n roles h.desk o).1, h.ws ++ [o], h.sure⟩, (deskDo n roles h.desk o).2) := by simp [hallDo, hf, he]
theorem hall_do3 {n : NetL} {roles : List (List Int)} {first : DeskL} {h : HallL} {kp : Int} {o : DOp} (hf : fitsO o = true) (he : ¬ (deskDo n roles h.desk o).2.err = 0) :
    hallDo n roles first h ⟨1, kp, o⟩ = (h, (deskDo n roles h.desk o).2) := by simp [hallDo, hf, he]

/-- What was told is laid into a box of the call's own. -/
theorem hall_box {w5 W2 : World} {L Bh B R0 : Nat} {n : NetL} {roles : List (List Int)} {first : DeskL} {h' : HallL} {F F' : Nat → Prop} {iv wv fm fb ftv : Value} (hOf : Office w5 Bh (hallS fm fb ftv n roles wv h'.sure) B n roles h'.desk iv (farH L Bh F' wv)) (hRest : HallRest L w5 Bh B n first h'.ws iv wv fm fb ftv)
    (HF : ∀ R, F R → Bh < R ∧ iv.ownBlock ≠ some R ∧ wv.ownBlock ≠ some R) (hF' : F' = fun R => F R ∨ R = R0) (hBh : Bh < R0) (hni : iv.ownBlock ≠ some R0) (hnw : wv.ownBlock ≠ some R0) (x y : Value) (hW : (w5.setCell ⟨R0, 0, none⟩ x).setCell ⟨R0, 1, none⟩ y = W2) : HallAt L W2 Bh B n roles first h' F := by
  subst hW
  refine ⟨iv, wv, fm, fb, ftv, ?_, (hRest.set (p := ⟨R0, 0, none⟩) (Nat.le_of_lt hBh) hnw x).set (p := ⟨R0, 1, none⟩) (Nat.le_of_lt hBh) hnw y, HF⟩
  obtain ⟨_, _, _, _, _, _, _, h, hf⟩ := hOf
  obtain ⟨_, t1, t2⟩ := hf R0 (.inr (by rw [hF']; exact .inr rfl))
  refine ⟨_, _, _, _, _, _, _, (h.aside (p := ⟨R0, 0, none⟩) t1 t2 hni hBh _).aside (p := ⟨R0, 1, none⟩) t1 t2 hni hBh _, fun R hRR => (hf.up (by simp [World.setCell])) R ?_⟩
  rcases hRR with q | q
  · exact .inl q
  · exact .inr (by rw [hF']; exact .inl q)

theorem OffRec.grownW {w w6 : World} {Bo B : Nat} {P : Spot} {n : NetL} {roles : List (List Int)} {d : DeskL} {ma ba : Option Addr} {ml mc bl bc : Nat} {iv tv wv : Value} (h : OffRec w Bo P B n roles d ma ba ml mc bl bc iv tv) (hg : w.grownBy w6 wv.ownBlock)
    (hlt : ∀ g, wv.ownBlock = some g → Bo < g ∧ iv.ownBlock ≠ some g ∧ SlOff g (.slice ma ml mc) ∧ SlOff g (.slice ba bl bc)) : OffRec w6 Bo P B n roles d ma ba ml mc bl bc iv tv := by
  have hk : ∀ k, k < w.heap.size → wv.ownBlock ≠ some k → w6.heap[k]? = w.heap[k]? := fun k hk hn => hg.block k hk (fun e => hn e.symm)
  refine ⟨(hk _ h.cells.lt (fun e => by have := (hlt _ e).1; omega)).trans h.cells, h.mark.keep hg.size hk (fun g e => (hlt g e).2.2.1), h.busy.keep hg.size hk (fun g e => (hlt g e).2.2.2), h.trans.to hg.size (fun k hk1 hD => hk k hk1 (fun e => by have := (hlt _ e).1; omega)), ((ownsRow_on h.row).to hg.size (fun k hk1 hD => hk k hk1 (fun e => (hlt _ e).2.1 hD.1))).now, h.offM, h.offB, h.lo⟩

/-- One more was written. -/
theorem hall_wrote {w w6 : World} {L Bh B s : Nat} {n : NetL} {roles : List (List Int)} {first d : DeskL} {ws ws' : List DOp} {F : Nat → Prop} {iv wv v' fm fb ftv : Value} (hO : Office w Bh (hallS fm fb ftv n roles wv s) B n roles d iv (farH L Bh F wv)) (hR : HallRest L w Bh B n first ws iv wv fm fb ftv)
    (hrow : w6.ownsRow B 5 1 v' (writtenL ws').length ((writtenL ws').map (Value.int .u8))) (hg : w.grownBy w6 wv.ownBlock) (hat : v'.ownBlock = wv.ownBlock ∨ v'.ownBlock = some w.heap.size) :
    Office (w6.setCell ⟨Bh, 442, none⟩ v') Bh (hallS fm fb ftv n roles v' s) B n roles d iv (farH L Bh F v') ∧ HallRest L (w6.setCell ⟨Bh, 442, none⟩ v') Bh B n first ws' iv v' fm fb ftv := by
  obtain ⟨ma, ba, ml, mc, bl, bc, tv, h, hf⟩ := hO
  have hwB : ∀ g, wv.ownBlock = some g → B ≤ g := fun g e => (hR.row.lt g e).1
  have hvB : ∀ g, v'.ownBlock = some g → B ≤ g := fun g e => (hrow.lt g e).1
  have h6 : OffRec w6 Bh (hallS fm fb ftv n roles wv s) B n roles d ma ba ml mc bl bc iv tv := h.grownW hg (fun g e => ⟨by have := hwB g e; have := hR.lt; omega, hR.ne g e, (hf g (.inl (.inl e))).2.1, (hf g (.inl (.inl e))).2.2⟩)
  have hBh6 : v'.ownBlock ≠ some Bh := fun e => by have := hvB _ e; have := hR.lt; omega
  have hnv : ∀ g, v'.ownBlock = some g → iv.ownBlock ≠ some g := fun g e => by
    rcases hat with q | q
    · exact hR.ne g (by rw [← q]; exact e)
    · intro e2; rw [q] at e; injection e with e; have := (h.row.lt g e2).2; omega
  refine ⟨⟨ma, ba, ml, mc, bl, bc, tv, ?_, ?_⟩, ?_⟩
  · obtain ⟨a, l, c, hw⟩ := ownsRow_slice hR.row
    subst hw
    exact h6.putWritten v'
  · intro R hRR
    have hs6 : w.heap.size ≤ (w6.setCell ⟨Bh, 442, none⟩ v').heap.size := by have := hg.size; simpa [World.setCell] using this
    rcases hRR with (q | q) | q
    · rcases hat with q2 | q2
      · exact (hf.up hs6) R (.inl (.inl (by rw [← q2]; exact q)))
      · have := (hrow.lt R q).2
        rw [q2] at q; injection q with q
        exact ⟨by simpa [World.setCell] using this, h.mark.offHigh (by omega), h.busy.offHigh (by omega)⟩
    · exact (hf.up hs6) R (.inl (.inr q))
    · exact (hf.up hs6) R (.inr q)
  · refine ⟨(hR.kept.to hg.size (fun k hk hD => hg.block k hk (fun e => by have := hwB _ e.symm; have := hR.lt; omega))).set (a := ⟨Bh, 442, none⟩) (by show ¬ Bh < Bh; omega) _, ownsRow_aside hrow (p := ⟨Bh, 442, none⟩) hBh6 _, hnv, hR.lt, hR.old⟩

end Go.Proofs.Ytaladbcocealnaa

/- Package hall as it landed: what is done. (Made by tools/gen_halldev2.py.) -/
namespace Go.Proofs.Ytaladbcocealnaa
open Go.RowKit
set_option linter.unusedVariables false
set_option linter.unusedSimpArgs false
set_option maxRecDepth 4000

theorem results_ans {fn : Func} {p : Tmp} {tmps : Array Value} {w : World} {b : Nat} {x y : Int} (h : fn.results = #[.cell p 40]) (hp : tmps.getD p undef = .pointer (some ⟨b, 0, none⟩)) (hB : CellsAt w b #[.int .i64 x, .int .i64 y] 40) :
    (results fn tmps).run Try.prog w = .ok (.agg #[.int .i64 x, .int .i64 y]) w := by
  have h1 : w.cell? ⟨b, 0, none⟩ = some (.int .i64 x) := hB.cell 0
  have h2 : w.cell? ⟨b, 1, none⟩ = some (.int .i64 y) := hB.cell 1
  have e : (results fn tmps).run Try.prog w = ((asAddr (tmps.getD p undef)).run Try.prog w).andThen fun a w₁ => (loadVar 40 a).run Try.prog w₁ := by
    simp only [results, h]
    simp [Sem.run_bind, Result.andThen]
  rw [e, hp]
  simp [asAddr, go_sem, h1, h2]

set_option maxHeartbeats 8000000 in
theorem hdo_any {L Bh B : Nat} {n : NetL} {roles : List (List Int)} {first : DeskL} {h : HallL} {F : Nat → Prop} (kp : Int) (o : DOp) (w : World) (H : HallAt L w Bh B n roles first h F) (hinv : DeskInv n roles h.desk) (hfit : AllFit h.ws) (hB : B ≤ w.heap.size) (hl : h.desk.items.length + 1 ≤ 5864062014805) (hw : 7 * (h.ws.length + 1) ≤ 24629060462187) :
    Calls Try.prog 35 #[.pointer (some ⟨Bh, 0, none⟩), dopV o] w fun e w' => e = .returned (.agg #[.int .i64 (hallDo n roles first h ⟨1, kp, o⟩).2.err, .int .i64 (hallDo n roles first h ⟨1, kp, o⟩).2.item]) ∧ HallAt L w' Bh B n roles first (hallDo n roles first h ⟨1, kp, o⟩).1 F ∧ KeepH Bh B F w w' := by
  obtain ⟨iv, wv, fm, fb, ftv, hOf, hRest, hF⟩ := H
  obtain ⟨kd, us, tr, it, hd⟩ := o
  have b1 := below_new w (.cells (dopArr ⟨kd, us, tr, it, hd⟩) 45)
  have hop := cellsAt_new w (dopArr ⟨kd, us, tr, it, hd⟩) 45
  obtain ⟨wa, Hwa⟩ : ∃ v, Hid (w.alloc (.cells (dopArr ⟨kd, us, tr, it, hd⟩) 45) = v) := ⟨_, rfl⟩
  rw [Hwa.out] at b1 hop
  have s1 : wa.heap.size = w.heap.size + 1 := by rw [← Hwa.out]; simp
  have b2 := below_new wa (.cells #[.int .i64 0, .int .i64 0] 40)
  have hR := cellsAt_new wa #[.int .i64 0, .int .i64 0] 40
  rw [s1] at hR
  obtain ⟨w0, Hw0⟩ : ∃ v, Hid ((w.alloc (.cells #[.int .i64 kd, .int .i64 us, .int .i64 tr, .int .i64 it, .int .i64 hd] 45)).alloc (.cells #[.int .i64 0, .int .i64 0] 40) = v) := ⟨_, rfl⟩
  have hw0 : wa.alloc (.cells #[.int .i64 0, .int .i64 0] 40) = w0 := by rw [← Hwa.out]; exact Hw0.out
  rw [hw0] at b2 hR
  replace hop := hop.below b2
  have c0 := below_then b1 b2
  have HS0 : Hid (w0.heap.size = w.heap.size + 2) := by show _ = _; rw [← hw0]; simp [s1]
  obtain ⟨F', HF'⟩ : ∃ F' : Nat → Prop, Hid (F' = fun R => F R ∨ R = w.heap.size + 1) := ⟨_, rfl⟩
  have HFlt : Hid (∀ R, F R → R < w.heap.size) := fun R hR => by obtain ⟨_, _, _, _, _, _, _, _, hf⟩ := hOf; exact (hf R (.inr hR)).1
  have HBh : Hid (Bh < w.heap.size) := by obtain ⟨_, _, _, _, _, _, _, h, _⟩ := hOf; exact h.cells.lt
  have HIv : Hid (∀ g, iv.ownBlock = some g → B ≤ g) := fun g e => by obtain ⟨_, _, _, _, _, _, _, h, _⟩ := hOf; exact (h.row.lt g e).1
  have HIvlt : Hid (∀ g, iv.ownBlock = some g → g < w.heap.size) := fun g e => by obtain ⟨_, _, _, _, _, _, _, h, _⟩ := hOf; exact (h.row.lt g e).2
  have HWv : Hid (∀ g, wv.ownBlock = some g → g < w.heap.size) := fun g e => (hRest.row.lt g e).2
  have HnBh : Hid (w.heap.size ≠ Bh) := by have := HBh.out; show _ ≠ _; omega
  have HnBh1 : Hid (w.heap.size + 1 ≠ Bh) := by have := HBh.out; show _ ≠ _; omega
  have HnIv : Hid (iv.ownBlock ≠ some w.heap.size) := fun e => by have := HIvlt.out _ e; omega
  have HnIv1 : Hid (iv.ownBlock ≠ some (w.heap.size + 1)) := fun e => by have := HIvlt.out _ e; omega
  have hOf0 : Office w0 Bh (hallS fm fb ftv n roles wv h.sure) B n roles h.desk iv (farH L Bh F' wv) := by
    obtain ⟨_, _, _, _, _, _, _, h, hf⟩ := hOf
    refine ⟨_, _, _, _, _, _, _, h.below c0, fun R hRR => ?_⟩
    rw [HF'.out] at hRR
    rcases hRR with hRR | hRR | rfl
    · exact (hf.up c0.size) R (.inl hRR)
    · exact (hf.up c0.size) R (.inr hRR)
    · exact ⟨hR.lt, h.mark.offHigh (by omega), h.busy.offHigh (by omega)⟩
  have HB : Hid (B ≤ w.heap.size) := hB
  have Hinv : Hid (DeskInv n roles h.desk) := hinv
  have Hfit : Hid (AllFit h.ws) := hfit
  have Hfew : Hid (h.desk.items.length + 1 ≤ 5864062014805) := hl
  have Hwl : Hid (7 * (h.ws.length + 1) ≤ 24629060462187) := hw
  have HF : Hid (∀ R, F R → Bh < R ∧ iv.ownBlock ≠ some R ∧ wv.ownBlock ≠ some R) := hF
  clear hOf hw0 b1 b2 Hwa s1 hB hinv hfit hl hw hF
  have hRest0 := hRest.below c0
  clear hRest
  have o0 : w0.cell? ⟨w.heap.size, 0, none⟩ = some (.int .i64 kd) := hop.cell 0
  have o1 : w0.cell? ⟨w.heap.size, 1, none⟩ = some (.int .i64 us) := hop.cell 1
  have o2 : w0.cell? ⟨w.heap.size, 2, none⟩ = some (.int .i64 tr) := hop.cell 2
  have o3 : w0.cell? ⟨w.heap.size, 3, none⟩ = some (.int .i64 it) := hop.cell 3
  have o4 : w0.cell? ⟨w.heap.size, 4, none⟩ = some (.int .i64 hd) := hop.cell 4
  show Calls _ _ #[_, .agg #[.int .i64 kd, .int .i64 us, .int .i64 tr, .int .i64 it, .int .i64 hd]] _ _
  go_enter Try.func35, Try.ntmps35
  go_upto_region 1 with fail
  rw [Hw0.out]
  clear Hw0
  go_wp2_with fail
  refine (journal_write ⟨kd, us, tr, it, hd⟩ w0).mono ?_
  rintro e w1 ⟨r, rfl, hOU⟩
  have bj := hOU.2.1
  clear o0 o1 o2 o3 o4
  replace hop := hop.below bj
  replace hR := hR.below bj
  have hRest := hRest0.below bj
  have hOf : Office w1 Bh (hallS fm fb ftv n roles wv h.sure) B n roles h.desk iv (farH L Bh F' wv) := by obtain ⟨_, _, _, _, _, _, _, h, hf⟩ := hOf0; exact ⟨_, _, _, _, _, _, _, h.below bj, hf.up bj.size⟩
  replace c0 := below_then c0 bj
  clear hOf0 hRest0 bj
  cases hf : fitsO ⟨kd, us, tr, it, hd⟩ with
  | false =>
    have E : Hid (hallDo n roles first h ⟨1, kp, ⟨kd, us, tr, it, hd⟩⟩ = (h, ⟨2, 0⟩)) := hall_do1 hf
    have Ew : Hid ((writeJ ⟨kd, us, tr, it, hd⟩).2 = 2) := by show _ = _; simp [writeJ, hf]
    clear hOU hf hop
    rw [Ew.out]
    have f0 := hR.frozen 0
    have f1 := hR.frozen 1
    have r0 : w1.cell? ⟨w.heap.size + 1, 0, none⟩ = some (.int .i64 0) := hR.cell 0
    have r1 : w1.cell? ⟨w.heap.size + 1, 1, none⟩ = some (.int .i64 0) := hR.cell 1
    have hR2 := (hR.put 0 (.int .i64 2)).put 1 (.int .i64 0)
    have c2 := (c0.setCell (p := ⟨w.heap.size + 1, 0, none⟩) (by show w.heap.size ≤ w.heap.size + 1; omega) (.int .i64 2)).setCell (p := ⟨w.heap.size + 1, 1, none⟩) (by show w.heap.size ≤ w.heap.size + 1; omega) (.int .i64 0)
    have hnw : wv.ownBlock ≠ some (w.heap.size + 1) := fun e => by have := HWv.out _ e; omega
    obtain ⟨W2, HW2⟩ : ∃ v, Hid ((w1.setCell ⟨w.heap.size + 1, 0, none⟩ (.int .i64 2)).setCell ⟨w.heap.size + 1, 1, none⟩ (.int .i64 0) = v) := ⟨_, rfl⟩
    have hAt := hall_box hOf hRest HF.out HF'.out (by have := HBh.out; omega) HnIv1.out hnw (.int .i64 2) (.int .i64 0) HW2.out
    rw [HW2.out] at hR2 c2
    have hR2 : CellsAt W2 (w.heap.size + 1) #[.int .i64 2, .int .i64 0] 40 := hR2
    have Hfin : Hid (HallAt L W2 Bh B n roles first h F ∧ KeepH Bh B F w W2) := ⟨hAt, KeepH.of c2⟩
    clear hR hOf hRest hAt c0 c2
    go_wp2
    rw [HW2.out]
    refine bodyPost_ret (v := .agg #[.int .i64 2, .int .i64 0]) (results_ans rfl rfl hR2) rfl ?_
    rw [E.out]
    exact ⟨rfl, Hfin.out⟩
  | true =>
    have Ew : Hid (writeJ ⟨kd, us, tr, it, hd⟩ = (seven ⟨kd, us, tr, it, hd⟩, 0)) := by show _ = _; simp [writeJ, hf]
    have Hf : Hid (fitsO ⟨kd, us, tr, it, hd⟩ = true) := hf
    rw [Ew.out] at hOU ⊢
    have Hsz : Hid (w.heap.size ≤ w1.heap.size) := c0.size
    obtain ⟨d1, Hd1⟩ : ∃ d1, Hid ((deskDo n roles h.desk ⟨kd, us, tr, it, hd⟩).1 = d1) := ⟨_, rfl⟩
    obtain ⟨er, He1⟩ : ∃ d1, Hid ((deskDo n roles h.desk ⟨kd, us, tr, it, hd⟩).2.err = d1) := ⟨_, rfl⟩
    obtain ⟨im, Hi1⟩ : ∃ d1, Hid ((deskDo n roles h.desk ⟨kd, us, tr, it, hd⟩).2.item = d1) := ⟨_, rfl⟩
    obtain ⟨ra, rc, rfl⟩ := hOU.slice
    have hJ : w1.ownsRow (w.heap.size + 2) 5 1 (.slice ra 7 rc) 7 ((seven ⟨kd, us, tr, it, hd⟩).map (Value.int .u8)) := by rw [← HS0.out]; exact hOU.1
    rw [show (seven ⟨kd, us, tr, it, hd⟩).length = 7 from rfl]
    clear hOU hf Ew
    go_upto_region 4 with fail
    go_cut [7] (fun x7 wc => ∃ (BA : Nat) (iv' : Value), x7 = .pointer (some ⟨BA, 0, none⟩) ∧ w.heap.size + 2 ≤ BA ∧ CellsAt wc BA #[.int .i64 er, .int .i64 im] 40 ∧ CellsAt wc (w.heap.size + 1) #[.int .i64 0, .int .i64 0] 40 ∧ Office wc Bh (hallS fm fb ftv n roles wv h.sure) B n roles d1 iv' (farH L Bh F' wv) ∧ HallRest L wc Bh B n first h.ws iv' wv fm fb ftv ∧ KeepH Bh B F w wc ∧ wc.ownsRow (w.heap.size + 2) 5 1 (.slice ra 7 rc) 7 ((seven ⟨kd, us, tr, it, hd⟩).map (Value.int .u8)) ∧ iv'.ownBlock ≠ some (w.heap.size + 1) ∧ ∀ R, F R → iv'.ownBlock ≠ some R)
    case first =>
        have HS : Hid (∀ w', CellsAt w' w.heap.size (dopArr ⟨kd, us, tr, it, hd⟩) 45 → w'.cell? ⟨w.heap.size, 0, none⟩ = some (.int .i64 kd) ∧ w'.cell? ⟨w.heap.size, 1, none⟩ = some (.int .i64 us) ∧ w'.cell? ⟨w.heap.size, 2, none⟩ = some (.int .i64 tr) ∧ w'.cell? ⟨w.heap.size, 3, none⟩ = some (.int .i64 it) ∧ w'.cell? ⟨w.heap.size, 4, none⟩ = some (.int .i64 hd)) := fun w' h => ⟨h.cell 0, h.cell 1, h.cell 2, h.cell 3, h.cell 4⟩
        refine wp_region_held_drew (S := (fun w' => w'.cell? ⟨w.heap.size, 0, none⟩ = some (.int .i64 kd) ∧ w'.cell? ⟨w.heap.size, 1, none⟩ = some (.int .i64 us) ∧ w'.cell? ⟨w.heap.size, 2, none⟩ = some (.int .i64 tr) ∧ w'.cell? ⟨w.heap.size, 3, none⟩ = some (.int .i64 it) ∧ w'.cell? ⟨w.heap.size, 4, none⟩ = some (.int .i64 hd))) (by kernel_rfl) (HS.out _ (hop.below (Below.refl _ _).drew)) (fun hH => ?_)
        have b : Below w1.heap.size w1 w1.drew := (Below.refl _ _).drew
        obtain ⟨v0, Hv0⟩ : ∃ v0, Hid (w1.drew = v0) := ⟨_, rfl⟩
        rw [Hv0.out] at hH b ⊢
        clear Hv0
        refine wpAnyH_take (i := 0) (v := .pointer (some ⟨Bh, 0, none⟩)) rfl (by kernel_rfl) (by kernel_rfl) (by kernel_rfl) (fun _ _ _ h => h) (.inl ⟨by rfl, fun _ _ => rfl⟩) hH ?_
        simp only [List.getElem_toArray, List.getElem_cons_succ, List.getElem_cons_zero, Act.put, List.setIfInBounds_toArray, List.set_cons_zero, List.set_cons_succ]
        refine wpAnyH_take (i := 1) (v := .pointer (some ⟨Bh, 0, none⟩)) rfl (by kernel_rfl) (by kernel_rfl) (by kernel_rfl) (fun _ _ _ h => h) (.inl ⟨by rfl, fun w' hS' => by first | (go_simp; done) | (go_simp; rfl) | (go_simp; intro h; omega) | (go_simp; omega)⟩) hH ?_
        simp only [List.getElem_toArray, List.getElem_cons_succ, List.getElem_cons_zero, Act.put, List.setIfInBounds_toArray, List.set_cons_zero, List.set_cons_succ]
        refine wpAnyH_take (i := 2) (v := .pointer (some ⟨Bh, 221, none⟩)) rfl (by kernel_rfl) (by kernel_rfl) (by kernel_rfl) (fun _ _ _ h => h) (.inl ⟨by rfl, fun w' hS' => by first | (go_simp; done) | (go_simp; rfl) | (go_simp; intro h; omega) | (go_simp; omega)⟩) hH ?_
        simp only [List.getElem_toArray, List.getElem_cons_succ, List.getElem_cons_zero, Act.put, List.setIfInBounds_toArray, List.set_cons_zero, List.set_cons_succ]
        refine wpAnyH_take (i := 3) (v := .agg #[.int .i64 kd, .int .i64 us, .int .i64 tr, .int .i64 it, .int .i64 hd]) rfl (by kernel_rfl) (by kernel_rfl) (by kernel_rfl) (fun _ _ _ h => h) (.inl ⟨by rfl, fun w' hS' => by obtain ⟨s0, s1, s2, s3, s4⟩ := hS'; go_simp⟩) hH ?_
        simp only [List.getElem_toArray, List.getElem_cons_succ, List.getElem_cons_zero, Act.put, List.setIfInBounds_toArray, List.set_cons_zero, List.set_cons_succ]
        refine wpAnyH_ready (rs := [4, 5]) (by kernel_rfl) (by simp) ?_
        refine (AllReadyH.cons rfl (fun K hK => ?_) (AllReadyH.cons rfl (fun K hK => ?_) AllReadyH.nil))
        · simp only [List.getElem_toArray, List.getElem_cons_succ, List.getElem_cons_zero]
          rw [if_pos (by rfl)]
          go_wp2_with fail
          have hOfc : Office v0 Bh (hallS fm fb ftv n roles wv h.sure) B n roles h.desk iv (farH L Bh F' wv) := by obtain ⟨_, _, _, _, _, _, _, h, hf⟩ := hOf; exact ⟨_, _, _, _, _, _, _, h.below b, hf.up b.size⟩
          refine (office_do ⟨kd, us, tr, it, hd⟩ v0 hOfc Hinv.out (Nat.le_trans HB.out (Nat.le_trans Hsz.out b.size)) Hfew.out).mono ?_
          rintro e v1 ⟨rfl, hA⟩
          obtain ⟨iv', hOf2, K1, hat⟩ := hA
          rw [Hd1.out] at hOf2
          rw [He1.out, Hi1.out]
          have hop2 : CellsAt v1 w.heap.size (dopArr ⟨kd, us, tr, it, hd⟩) 45 := (K1.block _ (hop.below b).lt HnBh.out HnIv.out).trans (hop.below b)
          have hR2 : CellsAt v1 (w.heap.size + 1) #[.int .i64 0, .int .i64 0] 40 := (K1.block _ (hR.below b).lt HnBh1.out HnIv1.out).trans (hR.below b)
          have hRest2 := (hRest.below b).keepO K1 HIv.out hat
          have hJ2 := ((ownsRow_on ((ownsRow_on hJ).below b).now).to K1.size (fun k hk hD => K1.block k hk (by have := HBh.out; omega) (fun e => by have := HIvlt.out _ e; omega))).now
          have hiR : iv'.ownBlock ≠ some (w.heap.size + 1) := by
            rcases hat with q | ⟨g, q1, q2⟩
            · rw [q]; exact HnIv1.out
            · rw [q1]; intro e; injection e with e; have := (hR.below b).lt; omega
          have KH : KeepH Bh B F w v1 := ((KeepH.of c0).then (KeepH.of b)).then (KeepH.keepO K1 (fun g e => ⟨HIv.out g e, fun q => (HF.out g q).2.1 e⟩))
          have hFi : ∀ R, F R → iv'.ownBlock ≠ some R := fun R hR => by
            rcases hat with q | ⟨g, q1, q2⟩
            · rw [q]; exact (HF.out R hR).2.1
            · rw [q1]; intro e; injection e with e; have := HFlt.out R hR; have := b.size; have := Hsz.out; omega
          refine hK.out _ _ (HS.out _ hop2) (fun hH => ?_)
          clear hK
          have bs := below_new v1 (.cells #[.int .i64 0, .int .i64 0] 40)
          have hX := cellsAt_new v1 #[.int .i64 0, .int .i64 0] 40
          obtain ⟨BA, HBA⟩ : ∃ B, Hid (v1.heap.size = B) := ⟨_, rfl⟩
          have hBA : w.heap.size + 2 ≤ BA := by rw [← HBA.out]; have := hR2.lt; omega
          obtain ⟨v2, Hv2⟩ : ∃ v, Hid (v1.alloc (.cells #[.int .i64 0, .int .i64 0] 40) = v) := ⟨_, rfl⟩
          rw [Hv2.out] at bs hX
          rw [HBA.out] at hX
          refine wpAnyH_ready (rs := [5]) (by kernel_rfl) (by simp) ?_
          refine AllReadyH.cons rfl (fun K hK => ?_) AllReadyH.nil
          simp only [List.getElem_toArray, List.getElem_cons_succ, List.getElem_cons_zero]
          rw [if_pos (by rfl)]
          go_wp2_with fail
          rw [Hv2.out, HBA.out]
          refine hK.out _ _ (HS.out _ (hop2.below bs)) (fun hH => ?_)
          clear hK
          have b4 : Below v1.heap.size v1 ((v2.setCell ⟨BA, 0, none⟩ (.int .i64 er)).setCell ⟨BA, 1, none⟩ (.int .i64 im)) := (bs.setCell (p := ⟨BA, 0, none⟩) (by show v1.heap.size ≤ BA; rw [HBA.out]; exact Nat.le_refl _) _).setCell (p := ⟨BA, 1, none⟩) (by show v1.heap.size ≤ BA; rw [HBA.out]; exact Nat.le_refl _) _
          have f0 := hX.frozen 0
          have f1 := hX.frozen 1
          have c0' : v2.cell? ⟨BA, 0, none⟩ = some (.int .i64 0) := hX.cell 0
          have c1' : v2.cell? ⟨BA, 1, none⟩ = some (.int .i64 0) := hX.cell 1
          have hX4 := (hX.put 0 (.int .i64 er)).put 1 (.int .i64 im)
          obtain ⟨W2, HW2⟩ : ∃ v, Hid ((v2.setCell ⟨BA, 0, none⟩ (.int .i64 er)).setCell ⟨BA, 1, none⟩ (.int .i64 im) = v) := ⟨_, rfl⟩
          rw [HW2.out] at b4 hX4
          have hX4 : CellsAt W2 BA #[.int .i64 er, .int .i64 im] 40 := hX4
          have hop4 := hop2.below b4
          have hR4 := hR2.below b4
          have hOf4 : Office W2 Bh (hallS fm fb ftv n roles wv h.sure) B n roles d1 iv' (farH L Bh F' wv) := by obtain ⟨_, _, _, _, _, _, _, h, hf⟩ := hOf2; exact ⟨_, _, _, _, _, _, _, h.below b4, hf.up b4.size⟩
          have hRest4 := hRest2.below b4
          have hJ4 := ((ownsRow_on hJ2).below b4).now
          have KH4 := KH.then (KeepH.of b4)
          refine wpAnyH_ready (rs := [6]) (by kernel_rfl) (by simp) ?_
          refine AllReadyH.cons rfl (fun K hK => ?_) AllReadyH.nil
          simp only [List.getElem_toArray, List.getElem_cons_succ, List.getElem_cons_zero]
          rw [if_pos (by rfl)]
          go_wp2_with fail
          rw [HW2.out]
          refine hK.out _ _ (HS.out _ hop4) (fun hH => ?_)
          clear hK
          refine wpAnyH_done (by kernel_rfl) ?_ _
          go_wp2_with fail
          go_meet
          exact ⟨BA, iv', rfl, hBA, hX4, hR4, hOf4, hRest4, KH4, hJ4, hiR, hFi⟩
        · simp only [List.getElem_toArray, List.getElem_cons_succ, List.getElem_cons_zero]
          rw [if_pos (by rfl)]
          have bs := below_new v0 (.cells #[.int .i64 0, .int .i64 0] 40)
          have hX := cellsAt_new v0 #[.int .i64 0, .int .i64 0] 40
          obtain ⟨BA, HBA⟩ : ∃ B, Hid (v0.heap.size = B) := ⟨_, rfl⟩
          have hBA : w.heap.size + 2 ≤ BA := by rw [← HBA.out]; have := (hR.below b).lt; omega
          have hBh : Bh < BA := by have := HBh.out; omega
          have hBAw : wv.ownBlock ≠ some BA := fun e => by have := HWv.out _ e; omega
          have hBAi : iv.ownBlock ≠ some BA := fun e => by have := HIvlt.out _ e; omega
          have hBAj : (Value.slice ra 7 rc).ownBlock ≠ some BA := fun e => by have := (hJ.lt _ e).2; have := b.size; rw [← HBA.out] at *; omega
          have hOfx : Office v0 Bh (hallS fm fb ftv n roles wv h.sure) B n roles h.desk iv (farH L Bh F' wv) := by obtain ⟨_, _, _, _, _, _, _, h, hf⟩ := hOf; exact ⟨_, _, _, _, _, _, _, h.below b, hf.up b.size⟩
          obtain ⟨v1, Hv1⟩ : ∃ v, Hid (v0.alloc (.cells #[.int .i64 0, .int .i64 0] 40) = v) := ⟨_, rfl⟩
          rw [Hv1.out] at bs hX
          rw [HBA.out] at hX
          have hOfy : Office v1 Bh (hallS fm fb ftv n roles wv h.sure) B n roles h.desk iv (fun R => farH L Bh F' wv R ∨ R = BA) := by
            obtain ⟨_, _, _, _, _, _, _, h, hf⟩ := hOfx
            refine ⟨_, _, _, _, _, _, _, h.below bs, fun R hR => ?_⟩
            rcases hR with hR | rfl
            · exact (hf.up bs.size) R hR
            · exact ⟨hX.lt, h.mark.offHigh (by rw [HBA.out]; exact Nat.le_refl _), h.busy.offHigh (by rw [HBA.out]; exact Nat.le_refl _)⟩
          go_wp2_with fail
          rw [Hv1.out, HBA.out]
          replace b := below_then b bs
          refine hK.out _ _ (HS.out _ (hop.below b)) (fun hH => ?_)
          clear hK bs hOfx
          refine wpAnyH_ready (rs := [4]) (by kernel_rfl) (by simp) ?_
          refine AllReadyH.cons rfl (fun K hK => ?_) AllReadyH.nil
          simp only [List.getElem_toArray, List.getElem_cons_succ, List.getElem_cons_zero]
          rw [if_pos (by rfl)]
          go_wp2_with fail
          have hX0 := hX.lt
          have hOfc : Office v1 Bh (hallS fm fb ftv n roles wv h.sure) B n roles h.desk iv (fun R => farH L Bh F' wv R ∨ R = BA) := hOfy
          refine (office_do ⟨kd, us, tr, it, hd⟩ v1 hOfc Hinv.out (Nat.le_trans HB.out (Nat.le_trans Hsz.out b.size)) Hfew.out).mono ?_
          rintro e v2 ⟨rfl, hA⟩
          obtain ⟨iv', hOf2, K1, hat⟩ := hA
          rw [Hd1.out] at hOf2
          rw [He1.out, Hi1.out]
          have hop2 : CellsAt v2 w.heap.size (dopArr ⟨kd, us, tr, it, hd⟩) 45 := (K1.block _ (hop.below b).lt HnBh.out HnIv.out).trans (hop.below b)
          have hR2 : CellsAt v2 (w.heap.size + 1) #[.int .i64 0, .int .i64 0] 40 := (K1.block _ (hR.below b).lt HnBh1.out HnIv1.out).trans (hR.below b)
          have hRest2 := (hRest.below b).keepO K1 HIv.out hat
          have hJ2 := ((ownsRow_on ((ownsRow_on hJ).below b).now).to K1.size (fun k hk hD => K1.block k hk (by have := HBh.out; omega) (fun e => by have := HIvlt.out _ e; omega))).now
          have hiR : iv'.ownBlock ≠ some (w.heap.size + 1) := by
            rcases hat with q | ⟨g, q1, q2⟩
            · rw [q]; exact HnIv1.out
            · rw [q1]; intro e; injection e with e; have := (hR.below b).lt; omega
          have KH : KeepH Bh B F w v2 := ((KeepH.of c0).then (KeepH.of b)).then (KeepH.keepO K1 (fun g e => ⟨HIv.out g e, fun q => (HF.out g q).2.1 e⟩))
          have hFi : ∀ R, F R → iv'.ownBlock ≠ some R := fun R hR => by
            rcases hat with q | ⟨g, q1, q2⟩
            · rw [q]; exact (HF.out R hR).2.1
            · rw [q1]; intro e; injection e with e; have := HFlt.out R hR; have := b.size; have := Hsz.out; omega
          refine hK.out _ _ (HS.out _ hop2) (fun hH => ?_)
          clear hK
          replace hX : CellsAt v2 BA #[.int .i64 0, .int .i64 0] 40 := (K1.block _ hX.lt (by omega) hBAi).trans hX
          have f0 := hX.frozen 0
          have f1 := hX.frozen 1
          have c0' : v2.cell? ⟨BA, 0, none⟩ = some (.int .i64 0) := hX.cell 0
          have c1' : v2.cell? ⟨BA, 1, none⟩ = some (.int .i64 0) := hX.cell 1
          have hX4 := (hX.put 0 (.int .i64 er)).put 1 (.int .i64 im)
          have hop4 := (hop2.set (p := ⟨BA, 0, none⟩) (by show BA ≠ w.heap.size; omega) (.int .i64 er)).set (p := ⟨BA, 1, none⟩) (by show BA ≠ w.heap.size; omega) (.int .i64 im)
          have hR4 := (hR2.set (p := ⟨BA, 0, none⟩) (by show BA ≠ w.heap.size + 1; omega) (.int .i64 er)).set (p := ⟨BA, 1, none⟩) (by show BA ≠ w.heap.size + 1; omega) (.int .i64 im)
          have hRest4 := (hRest2.set (p := ⟨BA, 0, none⟩) (by show Bh ≤ BA; omega) hBAw (.int .i64 er)).set (p := ⟨BA, 1, none⟩) (by show Bh ≤ BA; omega) hBAw (.int .i64 im)
          have hBB : B ≤ BA := by have := HB.out; omega
          have hJ4 := ownsRow_aside (ownsRow_aside hJ2 (p := ⟨BA, 0, none⟩) hBAj (.int .i64 er)) (p := ⟨BA, 1, none⟩) hBAj (.int .i64 im)
          have KH4 := (KH.set (p := ⟨BA, 0, none⟩) (.inr ⟨hBB, fun q => by have := HFlt.out BA q; omega⟩) (.int .i64 er)).set (p := ⟨BA, 1, none⟩) (.inr ⟨hBB, fun q => by have := HFlt.out BA q; omega⟩) (.int .i64 im)
          have hiv' : iv'.ownBlock ≠ some BA := by
            rcases hat with q | ⟨g, q1, q2⟩
            · rw [q]; exact hBAi
            · rw [q1]; intro e; injection e with e; have := hX0; omega
          have hOf4 : Office ((v2.setCell ⟨BA, 0, none⟩ (.int .i64 er)).setCell ⟨BA, 1, none⟩ (.int .i64 im)) Bh (hallS fm fb ftv n roles wv h.sure) B n roles d1 iv' (farH L Bh F' wv) := by
            obtain ⟨_, _, _, _, _, _, _, h, hf⟩ := hOf2
            obtain ⟨_, t1, t2⟩ := hf BA (.inr rfl)
            exact ⟨_, _, _, _, _, _, _, (h.aside (p := ⟨BA, 0, none⟩) t1 t2 hiv' (by show BA > Bh; omega) _).aside (p := ⟨BA, 1, none⟩) t1 t2 hiv' (by show BA > Bh; omega) _, fun R hR => (hf.up (by simp [World.setCell])) R (.inl hR)⟩
          obtain ⟨W2, HW2⟩ : ∃ v, Hid ((v2.setCell ⟨BA, 0, none⟩ (.int .i64 er)).setCell ⟨BA, 1, none⟩ (.int .i64 im) = v) := ⟨_, rfl⟩
          rw [HW2.out] at hX4 hop4 hR4 hRest4 KH4 hOf4 hJ4
          have hX4 : CellsAt W2 BA #[.int .i64 er, .int .i64 im] 40 := hX4
          refine wpAnyH_ready (rs := [6]) (by kernel_rfl) (by simp) ?_
          refine AllReadyH.cons rfl (fun K hK => ?_) AllReadyH.nil
          simp only [List.getElem_toArray, List.getElem_cons_succ, List.getElem_cons_zero]
          rw [if_pos (by rfl)]
          go_wp2_with fail
          rw [HW2.out]
          refine hK.out _ _ (HS.out _ hop4) (fun hH => ?_)
          clear hK
          refine wpAnyH_done (by kernel_rfl) ?_ _
          go_wp2_with fail
          go_meet
          exact ⟨BA, iv', rfl, hBA, hX4, hR4, hOf4, hRest4, KH4, hJ4, hiR, hFi⟩
    case rest =>
      obtain ⟨BA, iv', rfl, hBA, hX, hR4, hOf4, hRest4, KH, hJ4, hiR, hFi⟩ := hcut
      obtain ⟨w4, rfl⟩ : ∃ w4, w4 = wc := ⟨_, rfl⟩
      clear hR hOf hRest hop hJ c0
      have HBA : Hid (w.heap.size + 2 ≤ BA) := hBA
      have hnw : wv.ownBlock ≠ some (w.heap.size + 1) := fun e => by have := HWv.out _ e; omega
      have x0 : w4.cell? ⟨BA, 0, none⟩ = some (.int .i64 er) := hX.cell 0
      have x1 : w4.cell? ⟨BA, 1, none⟩ = some (.int .i64 im) := hX.cell 1
      by_cases hE : er = 0
      · subst hE
        have E : Hid (hallDo n roles first h ⟨1, kp, ⟨kd, us, tr, it, hd⟩⟩ = (⟨d1, h.ws ++ [⟨kd, us, tr, it, hd⟩], h.sure⟩, ⟨0, im⟩)) := by
          show _ = _
          rw [hall_do2 Hf.out He1.out, Hd1.out]
          congr 1
          rw [← He1.out, ← Hi1.out]
        obtain ⟨ma4, ba4, ml4, mc4, bl4, bc4, tv4, hO4, hf4⟩ := id hOf4
        have q442 : w4.cell? ⟨Bh, 442, none⟩ = some wv := hO4.written
        have f442 : w4.frozen? ⟨Bh, 442, none⟩ = false := hO4.cells.frozen 442
        have hBy : BytesV w4 (.slice ra 7 rc) (seven ⟨kd, us, tr, it, hd⟩) := OwnU.bytes (w := w4) (B := w.heap.size + 2) ⟨hJ4, ⟨rfl, rfl, rfl, Nat.le_refl _, fun _ _ => rfl⟩, by have := hX.lt; omega⟩ (by show 7 ≤ _; omega) (seven_byte Hf.out)
        obtain ⟨jb, rfl⟩ : ∃ jb, ra = some ⟨jb, 0, none⟩ := by
          rcases hJ4.2 with ⟨e, e2⟩ | ⟨g, cap, cur, e, _⟩
          · exact absurd e2 (by decide)
          · injection e with e _ _; exact ⟨_, e⟩
        have hrow4 := hRest4.row
        have Hlb : Hid ((writtenL h.ws).length + (seven ⟨kd, us, tr, it, hd⟩).length ≤ 24629060462187) := by
          have := Hwl.out
          show _ ≤ _
          rw [written_length]
          show _ + 7 ≤ _
          omega
        have HB4 : Hid (B ≤ w4.heap.size) := by show _ ≤ _; have := HB.out; have := hX.lt; omega
        have HnWB : Hid (wv.ownBlock ≠ some Bh) := fun e => by have := (hrow4.lt _ e).1; have := hRest4.lt; omega
        have HnWA : Hid (wv.ownBlock ≠ some BA) := fun e => by have := HWv.out _ e; have := HBA.out; omega
        have HltB : Hid (Bh < w4.heap.size) := hO4.cells.lt
        clear hO4
        go_upto_region 7 with (at_builtin; refine wp_append_row8 rfl _ _ rfl B w4 wv ⟨jb, 0, none⟩ 7 rc (writtenL h.ws) (seven ⟨kd, us, tr, it, hd⟩) hrow4 HB4.out rfl rfl hBy Hlb.out ?_; intro v' w6 hrow6 hg6 hat6; obtain ⟨na, nl, nc, rfl⟩ := ownsRow_slice hrow6; have q6 := (World.cell?_of_block (a := ⟨Bh, 442, none⟩) (hg6.block Bh HltB.out (fun e => HnWB.out e.symm))).trans q442; have f6 := (World.frozen?_of_block (a := ⟨Bh, 442, none⟩) (hg6.block Bh HltB.out (fun e => HnWB.out e.symm))).trans f442)
        have hX6 : CellsAt w6 BA #[.int .i64 0, .int .i64 im] 40 := (hg6.block BA hX.lt (fun e => HnWA.out e.symm)).trans hX
        have hR6 : CellsAt w6 (w.heap.size + 1) #[.int .i64 0, .int .i64 0] 40 := (hg6.block _ hR4.lt (fun e => hnw e.symm)).trans hR4
        rw [show (writtenL h.ws ++ seven ⟨kd, us, tr, it, hd⟩) = writtenL (h.ws ++ [⟨kd, us, tr, it, hd⟩]) from (written_snoc _ _).symm] at hrow6
        obtain ⟨hO7, hR7⟩ := hall_wrote hOf4 hRest4 hrow6 hg6 hat6
        have hX7 := hX6.set (p := ⟨Bh, 442, none⟩) (by show Bh ≠ BA; have := HBA.out; have := HBh.out; omega) (.slice na nl nc)
        have hB7 := hR6.set (p := ⟨Bh, 442, none⟩) (by show Bh ≠ w.heap.size + 1; have := HBh.out; omega) (.slice na nl nc)
        have K7 : KeepH Bh B F w (w6.setCell ⟨Bh, 442, none⟩ (.slice na nl nc)) := (KH.then ⟨⟨hg6.os, hg6.tape, hg6.output, hg6.size, fun k hk => absurd hk (Nat.not_lt_zero _)⟩, fun k hk hk2 hk3 => hg6.block k hk (fun e => by
          rcases hk2 with q | q
          · have := (hrow4.lt _ e.symm).1; omega
          · exact (HF.out k q).2.2 e.symm)⟩).set (p := ⟨Bh, 442, none⟩) (.inl rfl) (.slice na nl nc)
        have hv' : (Value.slice na nl nc).ownBlock ≠ some (w.heap.size + 1) := by
          rcases hat6 with q | q
          · rw [q]; exact hnw
          · rw [q]; intro e; injection e with e; have := hR4.lt; omega
        have hFv : ∀ R, F R → Bh < R ∧ iv'.ownBlock ≠ some R ∧ (Value.slice na nl nc).ownBlock ≠ some R := fun R hR => ⟨(HF.out R hR).1, hFi R hR, by
          rcases hat6 with q | q
          · rw [q]; exact (HF.out R hR).2.2
          · rw [q]; intro e; injection e with e; have := HFlt.out R hR; have := hR4.lt; omega⟩
        obtain ⟨w7, HW7⟩ : ∃ v, Hid (w6.setCell ⟨Bh, 442, none⟩ (.slice na nl nc) = v) := ⟨_, rfl⟩
        rw [HW7.out] at hO7 hR7 hX7 hB7 K7 ⊢
        clear hrow6 hg6 hat6 q6 f6 hX6 hR6 q442 f442 hBy hX hR4 hOf4 hRest4 KH hJ4 x0 x1 hrow4 HW7
        have x0 : w7.cell? ⟨BA, 0, none⟩ = some (.int .i64 0) := hX7.cell 0
        have x1 : w7.cell? ⟨BA, 1, none⟩ = some (.int .i64 im) := hX7.cell 1
        have f0 := hB7.frozen 0
        have f1 := hB7.frozen 1
        have r0 : w7.cell? ⟨w.heap.size + 1, 0, none⟩ = some (.int .i64 0) := hB7.cell 0
        have r1 : w7.cell? ⟨w.heap.size + 1, 1, none⟩ = some (.int .i64 0) := hB7.cell 1
        have hR8 := (hB7.put 0 (.int .i64 0)).put 1 (.int .i64 im)
        have K8 := (K7.set (p := ⟨w.heap.size + 1, 0, none⟩) (.inr ⟨by show B ≤ w.heap.size + 1; have := HB.out; omega, fun q => by have := HFlt.out (w.heap.size + 1) q; omega⟩) (.int .i64 0)).set (p := ⟨w.heap.size + 1, 1, none⟩) (.inr ⟨by show B ≤ w.heap.size + 1; have := HB.out; omega, fun q => by have := HFlt.out (w.heap.size + 1) q; omega⟩) (.int .i64 im)
        obtain ⟨W2, HW2⟩ : ∃ v, Hid ((w7.setCell ⟨w.heap.size + 1, 0, none⟩ (.int .i64 0)).setCell ⟨w.heap.size + 1, 1, none⟩ (.int .i64 im) = v) := ⟨_, rfl⟩
        have hAt := hall_box (h' := ⟨d1, h.ws ++ [⟨kd, us, tr, it, hd⟩], h.sure⟩) hO7 hR7 hFv HF'.out (by have := HBh.out; omega) hiR hv' (.int .i64 0) (.int .i64 im) HW2.out
        rw [HW2.out] at hR8 K8
        have hR8 : CellsAt W2 (w.heap.size + 1) #[.int .i64 0, .int .i64 im] 40 := hR8
        have Hfin : Hid (HallAt L W2 Bh B n roles first ⟨d1, h.ws ++ [⟨kd, us, tr, it, hd⟩], h.sure⟩ F ∧ KeepH Bh B F w W2) := ⟨hAt, K8⟩
        clear hO7 hR7 hX7 hB7 K7 hAt K8 hv'
        go_wp2
        rw [HW2.out]
        refine bodyPost_ret (v := .agg #[.int .i64 0, .int .i64 im]) (results_ans rfl rfl hR8) rfl ?_
        rw [E.out]
        exact ⟨rfl, Hfin.out⟩
      · have E : Hid (hallDo n roles first h ⟨1, kp, ⟨kd, us, tr, it, hd⟩⟩ = (h, ⟨er, im⟩)) := by
          show _ = _
          rw [hall_do3 Hf.out (by rw [He1.out]; exact hE)]
          congr 1
          rw [← He1.out, ← Hi1.out]
        have Ed : Hid (d1 = h.desk) := by show _ = _; rw [← Hd1.out]; exact desk_err (by rw [He1.out]; exact hE)
        rw [Ed.out] at hOf4
        have hE1 : (er == 0) = false := by simpa using hE
        have hE2 : (er != 0) = true := by simpa using hE
        have f0 := hR4.frozen 0
        have f1 := hR4.frozen 1
        have r0 : w4.cell? ⟨w.heap.size + 1, 0, none⟩ = some (.int .i64 0) := hR4.cell 0
        have r1 : w4.cell? ⟨w.heap.size + 1, 1, none⟩ = some (.int .i64 0) := hR4.cell 1
        have hR8 := (hR4.put 0 (.int .i64 er)).put 1 (.int .i64 im)
        have K8 := (KH.set (p := ⟨w.heap.size + 1, 0, none⟩) (.inr ⟨by show B ≤ w.heap.size + 1; have := HB.out; omega, fun q => by have := HFlt.out (w.heap.size + 1) q; omega⟩) (.int .i64 er)).set (p := ⟨w.heap.size + 1, 1, none⟩) (.inr ⟨by show B ≤ w.heap.size + 1; have := HB.out; omega, fun q => by have := HFlt.out (w.heap.size + 1) q; omega⟩) (.int .i64 im)
        obtain ⟨W2, HW2⟩ : ∃ v, Hid ((w4.setCell ⟨w.heap.size + 1, 0, none⟩ (.int .i64 er)).setCell ⟨w.heap.size + 1, 1, none⟩ (.int .i64 im) = v) := ⟨_, rfl⟩
        have hAt := hall_box (h' := h) hOf4 hRest4 (fun R hR => ⟨(HF.out R hR).1, hFi R hR, (HF.out R hR).2.2⟩) HF'.out (by have := HBh.out; omega) hiR hnw (.int .i64 er) (.int .i64 im) HW2.out
        rw [HW2.out] at hR8 K8
        have hR8 : CellsAt W2 (w.heap.size + 1) #[.int .i64 er, .int .i64 im] 40 := hR8
        have Hfin : Hid (HallAt L W2 Bh B n roles first h F ∧ KeepH Bh B F w W2) := ⟨hAt, K8⟩
        clear hX hR4 hOf4 hRest4 KH hJ4 hAt K8
        go_wp2
        rw [HW2.out]
        refine bodyPost_ret (v := .agg #[.int .i64 er, .int .i64 im]) (results_ans rfl rfl hR8) rfl ?_
        rw [E.out]
        exact ⟨rfl, Hfin.out⟩

end Go.Proofs.Ytaladbcocealnaa
