/- Package text: a line, and the first one. -/
import Derived.Test.YteeogdihaajicaaDoorTextDev2
import Derived.Test.YteeogdihaajicaaDoorNetOut
import Derived.Laws.ResultCell
namespace Go.Proofs.YteeogdihaajicaaDoor
open Go.RowKit
set_option linter.unusedVariables false
set_option linter.unusedSimpArgs false
set_option maxRecDepth 4000

abbrev lettersT : Bytes := [45, 97, 98, 99, 100, 101, 102, 103, 104, 105, 106, 107, 108, 109, 110, 111, 112, 113, 114, 115, 116, 117, 118, 119, 120, 121, 122]
theorem letter_index_fin : ∀ i : Fin 27, Lib.index lettersT [letterT (i.val : Int)] = (i.val : Int) := by decide +kernel
theorem letter_index {a : Int} (h : 0 ≤ a ∧ a ≤ 26) : Lib.index lettersT [letterT a] = a := by
  have := letter_index_fin ⟨a.toNat, by omega⟩
  rwa [show (((⟨a.toNat, by omega⟩ : Fin 27).val : Nat) : Int) = a by show ((a.toNat : Nat) : Int) = a; omega] at this
theorem letters_at_fin : ∀ i : Fin 27, lettersT[i.val]? = some (letterT (i.val : Int)) := by decide +kernel
theorem index_letter {c : UInt8} (h : 0 ≤ Lib.index lettersT [c]) : Lib.index lettersT [c] ≤ 26 ∧ c = letterT (Lib.index lettersT [c]) := by
  rcases Lib.index_spec lettersT [c] with ⟨h1, _⟩ | ⟨i, h1, h2, h3, _⟩
  · omega
  · have hr := Lib.index_room lettersT [c] h
    rw [h1] at hr ⊢
    have hi : i < 27 := by simp at hr; omega
    refine ⟨by omega, ?_⟩
    have e := Lib.occAt_head (t := []) rfl h3
    rw [letters_at_fin ⟨i, hi⟩] at e
    injection e with e
    exact e.symm
/-- What the cuts of a line tell. -/
structure CutsT (s hd ls bf bh : Bytes) (f1 f2 : Bool) : Prop where
  one : Lib.cut s [32, 58] = (hd, ls, f1)
  two : Lib.cut ls [32, 62] = (bf, bh, f2)
section
variable {s hd ls bf bh : Bytes} {f1 f2 : Bool}
theorem CutsT.line (h : CutsT s hd ls bf bh f1 f2) {P : Nat} {t : TranL} (ht : TranOk P t) (e : s = lineT t) : hd = [letterT t.label] ∧ bf = sideT 0 t.pre ∧ bh = sideT 0 t.post ∧ f2 = true := by
  have h1 := h.one
  rw [e, line_cut ht] at h1
  injection h1 with e1 e2
  injection e2 with e2 _
  have h2 := h.two
  rw [← e2, sides_cut ht.pre] at h2
  injection h2 with e3 e4
  injection e4 with e4 e5
  exact ⟨e1.symm, e3.symm, e4.symm, e5.symm⟩
theorem CutsT.no (h : CutsT s hd ls bf bh f1 f2) {P : Nat} (hn : hd.length ≠ 1 ∨ Lib.index lettersT hd < 0 ∨ f2 = false) : LineIs P s noTran false := by
  refine .inr ⟨rfl, fun t ht e => ?_⟩
  obtain ⟨e1, _, _, e4⟩ := h.line ht e
  rcases hn with hn | hn | hn
  · rw [e1] at hn; exact hn rfl
  · rw [e1, letter_index ht.lab] at hn; have := ht.lab.1; omega
  · rw [hn] at e4; cases e4
theorem CutsT.no1 (h : CutsT s hd ls bf bh f1 f2) {P : Nat} {l : List Int} (hn : SideIs P bf l false) : LineIs P s noTran false := by
  refine .inr ⟨rfl, fun t ht e => ?_⟩
  obtain ⟨_, e2, _, _⟩ := h.line ht e
  rcases hn with ⟨q, _⟩ | ⟨_, q⟩
  · cases q
  · exact q _ ht.pre e2
theorem CutsT.no2 (h : CutsT s hd ls bf bh f1 f2) {P : Nat} {l : List Int} (hn : SideIs P bh l false) : LineIs P s noTran false := by
  refine .inr ⟨rfl, fun t ht e => ?_⟩
  obtain ⟨_, _, e3, _⟩ := h.line ht e
  rcases hn with ⟨q, _⟩ | ⟨_, q⟩
  · cases q
  · exact q _ ht.post e3
theorem CutsT.yes (h : CutsT s hd ls bf bh f1 true) {P : Nat} {l m : List Int} (h1 : hd.length = 1) (h2 : ¬ Lib.index lettersT hd < 0) (h3 : SideIs P bf l true) (h4 : SideIs P bh m true) : LineIs P s ⟨Lib.index lettersT hd, l, m⟩ true := by
  rcases h3 with ⟨_, g1, g2⟩ | ⟨q, _⟩
  · rcases h4 with ⟨_, g3, g4⟩ | ⟨q, _⟩
    · obtain ⟨c, rfl⟩ : ∃ c, hd = [c] := by
        match hd, h1 with
        | [c], _ => exact ⟨c, rfl⟩
      obtain ⟨i1, i2⟩ := index_letter (c := c) (by omega)
      refine .inl ⟨rfl, ⟨⟨by simp only; omega, i1⟩, g1, g3⟩, ?_⟩
      have c1 := h.one
      have c2 := h.two
      rcases cut_two (s := ls) (c := 32) (d := 62) (by decide) with ⟨a, r, e1, e2⟩ | e2
      · rw [e2] at c2
        injection c2 with q1 q2
        injection q2 with q2 _
        subst q1 q2
        rcases cut_two (s := s) (c := 32) (d := 58) (by decide) with ⟨a', r', e3, e4⟩ | e4
        · rw [e4] at c1
          injection c1 with q3 q4
          injection q4 with q4 _
          subst q3 q4
          rw [e3, e1, g2, g4]
          unfold lineT
          simp only
          rw [← i2]
          rfl
        · rw [e4] at c1
          injection c1 with q3 q4
          injection q4 with q4 _
          subst q4
          cases a <;> simp at e1
      · rw [e2] at c2
        injection c2 with _ q2
        injection q2 with _ q2
        cases q2
    · cases q
  · cases q
end

theorem box3_set {w : World} {b : Nat} {x y z : Value} (h : Box3 w b x y z) (x' y' z' : Value) : Box3 (((w.setCell ⟨b, 0, none⟩ x').setCell ⟨b, 1, none⟩ y').setCell ⟨b, 2, none⟩ z') b x' y' z' := by
  obtain ⟨h0, h1, h2, h3⟩ := h
  refine ⟨by simpa [World.setCell] using h0, ?_, ?_, ?_⟩
  · rw [World.cell?_setCell_other _ _ _ _ (by intro q; injection q with _ q; omega), World.cell?_setCell_other _ _ _ _ (by intro q; injection q with _ q; omega)]
    exact World.cell?_setCell_same _ _ _ h1
  · rw [World.cell?_setCell_other _ _ _ _ (by intro q; injection q with _ q; omega)]
    exact World.cell?_setCell_same _ _ _ (by rw [World.cell?_setCell_other _ _ _ _ (by intro q; injection q with _ q; omega)]; exact h2)
  · exact World.cell?_setCell_same _ _ _ (by rw [World.cell?_setCell_other _ _ _ _ (by intro q; injection q with _ q; omega), World.cell?_setCell_other _ _ _ _ (by intro q; injection q with _ q; omega)]; exact h3)
theorem results_tran {fn : Func} {p u : Tmp} {tmps : Array Value} {w : World} {b : Nat} {x y z v : Value} (h : fn.results = #[.cell p 43, .tmp u]) (hp : tmps.getD p undef = .pointer (some ⟨b, 0, none⟩)) (hu : tmps.getD u undef = v) (h1 : w.cell? ⟨b, 0, none⟩ = some x) (h2 : w.cell? ⟨b, 1, none⟩ = some y) (h3 : w.cell? ⟨b, 2, none⟩ = some z) :
    (results fn tmps).run Tryd.prog w = .ok (.tuple #[.agg #[x, y, z], v]) w := by
  rw [results_cell_tmp h, hp, hu]
  simp [asAddr, go_sem, h1, h2, h3]

def TranOut (s : Bytes) (P : Nat) (w w' : World) (e : Ending) : Prop :=
  (∃ a n c a2 n2 c2 t, e = .returned (.tuple #[.agg #[.int .i64 t.label, .slice a n c, .slice a2 n2 c2], .bool true]) ∧ LineIs P s t true ∧ On (fun k => w.heap.size ≤ k) w' (fun w2 => Ints w2 (.slice a n c) t.pre) ∧ On (fun k => w.heap.size ≤ k) w' (fun w2 => Ints w2 (.slice a2 n2 c2) t.post)) ∨
    (e = .returned (.tuple #[.agg #[.int .i64 0, .slice none 0 0, .slice none 0 0], .bool false]) ∧ LineIs P s noTran false)

set_option maxHeartbeats 4000000 in
theorem tran_any (s : Bytes) (P : Nat) (w : World) (hv : VarM w) (hs : s.length < 4294967281) (hP : P ≤ 16) :
    Calls Tryd.prog 23 #[.string (bs s), .int .i64 P] w fun e w' => TranOut s P w w' e ∧ Below w.heap.size w w' := by
  have b0 := below_new w (.cells #[.int .i64 0, .slice none 0 0, .slice none 0 0] 43)
  have hbx := box3_new w (.int .i64 0) (.slice none 0 0) (.slice none 0 0) 43
  have hfz : ∀ j, (w.alloc (.cells #[.int .i64 0, .slice none 0 0, .slice none 0 0] 43)).frozen? ⟨w.heap.size, j, none⟩ = false := fun j => World.frozen?_alloc_at _ _ _ _ rfl
  obtain ⟨w0, H0⟩ : ∃ u, Hid (w.alloc (.cells #[.int .i64 0, .slice none 0 0, .slice none 0 0] 43) = u) := ⟨_, rfl⟩
  obtain ⟨B, HB⟩ : ∃ z, Hid (w.heap.size = z) := ⟨_, rfl⟩
  rw [H0.out, HB.out] at hbx hfz
  rw [H0.out] at b0
  obtain ⟨hd, ls, f1, C1⟩ : ∃ a b c, Hid (Lib.cut s [32, 58] = (a, b, c)) := ⟨_, _, _, rfl⟩
  obtain ⟨bf, bh, f2, C2⟩ : ∃ a b c, Hid (Lib.cut ls [32, 62] = (a, b, c)) := ⟨_, _, _, rfl⟩
  have HC : Hid (CutsT s hd ls bf bh f1 f2) := ⟨C1.out, C2.out⟩
  have hls : hd.length ≤ s.length ∧ ls.length ≤ s.length := by
    rcases cut_two (s := s) (c := 32) (d := 58) (by decide) with ⟨a, r, e1, e2⟩ | e2
    · have := C1.out
      rw [e2] at this
      injection this with q1 q2
      injection q2 with q2 _
      subst q1 q2
      rw [e1]; simp; omega
    · have := C1.out
      rw [e2] at this
      injection this with q1 q2
      injection q2 with q2 _
      subst q1 q2
      simp
  have hbs : bf.length ≤ ls.length ∧ bh.length ≤ ls.length := by
    rcases cut_two (s := ls) (c := 32) (d := 62) (by decide) with ⟨a, r, e1, e2⟩ | e2
    · have := C2.out
      rw [e2] at this
      injection this with q1 q2
      injection q2 with q2 _
      subst q1 q2
      rw [e1]; simp; omega
    · have := C2.out
      rw [e2] at this
      injection this with q1 q2
      injection q2 with q2 _
      subst q1 q2
      simp
  have hA := fun w' (hb : Below w0.heap.size w0 w') => cut_any s [32, 58] ⟨#[32, 58]⟩ w' rfl ((hv.below b0).below hb) hs
  have hB := fun w' (hb : Below w0.heap.size w0 w') => cut_any ls [32, 62] ⟨#[32, 62]⟩ w' rfl ((hv.below b0).below hb) (by omega)
  have hI := fun w' (hb : Below w0.heap.size w0 w') => strIndex_any lettersT hd ⟨#[45, 97, 98, 99, 100, 101, 102, 103, 104, 105, 106, 107, 108, 109, 110, 111, 112, 113, 114, 115, 116, 117, 118, 119, 120, 121, 122]⟩ w' rfl ((hv.below b0).below hb) (by decide)
  have hW1 := fun w' (hb : Below w0.heap.size w0 w') => textWts_any bf P w' ((hv.below b0).below hb) (by omega) hP
  have hW2 := fun w' (hb : Below w0.heap.size w0 w') => textWts_any bh P w' ((hv.below b0).below hb) (by omega) hP
  rw [C1.out] at hA
  rw [C2.out] at hB
  simp only at hA hB
  clear C1 C2 hls hbs
  have hszz : w0.heap.size = B + 1 := by rw [← H0.out, ← HB.out]; simp
  have Hsz : Hid (w0.heap.size = B + 1) := hszz
  clear hszz
  go_enter Tryd.func23, Tryd.ntmps23
  go_upto_region 1 with fail
  rw [H0.out, HB.out]
  go_upto_region 2 with (go_at_call 21; refine (hA _ (Below.refl _ _)).mono ?_; rintro e w1 ⟨rfl, b1⟩)
  clear hA
  go_upto_region 3 with (go_at_call 21; refine (hB _ b1).mono ?_; rintro e w2 ⟨rfl, b2⟩)
  clear hB
  replace b1 := below_then b1 b2
  clear b2
  go_upto_region 4 with (go_at_call 34; refine (hI _ b1).mono ?_; rintro e w3 ⟨rfl, rfl⟩)
  clear hI
  obtain ⟨li, HL⟩ : ∃ z, Hid (Lib.index lettersT hd = z) := ⟨_, rfl⟩
  rw [HL.out]
  have hbx1 := hbx.below b1
  have hfz1 : ∀ j, w3.frozen? ⟨B, j, none⟩ = false := fun j => by rw [b1.frozen (p := ⟨B, j, none⟩) hbx.1]; exact hfz j
  obtain ⟨lh, HLh⟩ : ∃ z, Hid (hd.length = z) := ⟨_, rfl⟩
  have z1 : (bs hd).size = lh := (bs_size hd).trans HLh.out
  clear H0
  by_cases hbad : lh ≠ 1 ∨ li < 0 ∨ f2 = false
  · have R : Hid (LineIs P s noTran false) := HC.out.no (by rw [HLh.out, HL.out]; exact hbad)
    have b9 := below_then b0 b1
    have hB9 : w.heap.size ≤ B := Nat.le_of_eq HB.out
    obtain ⟨W, HW⟩ : ∃ u, Hid (((w3.setCell ⟨B, 0, none⟩ (.int .i64 0)).setCell ⟨B, 1, none⟩ (.slice none 0 0)).setCell ⟨B, 2, none⟩ (.slice none 0 0) = u) := ⟨_, rfl⟩
    have hbW := box3_set hbx1 (.int .i64 0) (.slice none 0 0) (.slice none 0 0)
    have bW := ((b9.setCell (p := ⟨B, 0, none⟩) hB9 (.int .i64 0)).setCell (p := ⟨B, 1, none⟩) hB9 (.slice none 0 0)).setCell (p := ⟨B, 2, none⟩) hB9 (.slice none 0 0)
    rw [HW.out] at hbW bW
    obtain ⟨_, x0, x1, x2⟩ := id hbx1
    have g0 := hfz1 0
    have g1 := hfz1 1
    have g2 := hfz1 2
    clear hbx hfz hbx1 hfz1 hW1 hW2 HC b9
    by_cases q1 : lh = 1
    · have n1 : ((lh : Int) != 1) = false := by rw [q1]; rfl
      by_cases q2 : li < 0
      · have n2 : decide (li < 0) = true := by rw [decide_eq_true_eq]; exact q2
        go_wp2
        rw [HW.out]
        exact bodyPost_ret (v := .tuple #[.agg #[.int .i64 0, .slice none 0 0, .slice none 0 0], .bool false]) (results_tran rfl rfl rfl hbW.2.1 hbW.2.2.1 hbW.2.2.2) rfl ⟨.inr ⟨rfl, R.out⟩, bW⟩
      · obtain rfl : f2 = false := by
          rcases hbad with q | q | q
          · exact absurd q1 q
          · exact absurd q q2
          · exact q
        have n2 : decide (li < 0) = false := by rw [decide_eq_false_iff_not]; exact q2
        go_wp2
        rw [HW.out]
        exact bodyPost_ret (v := .tuple #[.agg #[.int .i64 0, .slice none 0 0, .slice none 0 0], .bool false]) (results_tran rfl rfl rfl hbW.2.1 hbW.2.2.1 hbW.2.2.2) rfl ⟨.inr ⟨rfl, R.out⟩, bW⟩
    · have n1 : ((lh : Int) != 1) = true := by rw [bne_iff_ne]; omega
      go_wp2
      rw [HW.out]
      exact bodyPost_ret (v := .tuple #[.agg #[.int .i64 0, .slice none 0 0, .slice none 0 0], .bool false]) (results_tran rfl rfl rfl hbW.2.1 hbW.2.2.1 hbW.2.2.2) rfl ⟨.inr ⟨rfl, R.out⟩, bW⟩
  · have q1 : lh = 1 := Classical.byContradiction fun q => hbad (.inl q)
    have q2 : ¬ li < 0 := fun q => hbad (.inr (.inl q))
    obtain rfl : f2 = true := by
      cases f2
      · exact absurd (.inr (.inr rfl)) hbad
      · rfl
    have H1 : Hid (hd.length = 1) := HLh.out.trans q1
    have H2 : Hid (¬ Lib.index lettersT hd < 0) := by show ¬ _; rw [HL.out]; exact q2
    have n1 : ((lh : Int) != 1) = false := by rw [q1]; rfl
    have n2 : decide (li < 0) = false := by rw [decide_eq_false_iff_not]; exact q2
    clear hbad
    go_upto_region 7 with (go_at_call 44; refine (hW1 _ b1).mono ?_; rintro e w4 ⟨hO1, b4⟩; rcases hO1 with ⟨a1, m1, c1, l1, rfl, hS1, hOn1⟩ | ⟨rfl, hN1⟩)
    · have HS1 : Hid (SideIs P bf l1 true) := hS1
      have b5 := below_then b1 b4
      clear hW1 hS1
      go_upto_region 10 with (go_at_call 44; refine (hW2 _ b5).mono ?_; rintro e w6 ⟨hO2, b6⟩; rcases hO2 with ⟨a2, m2, c2, l2, rfl, hS2, hOn2⟩ | ⟨rfl, hN2⟩)
      · have HS2 : Hid (SideIs P bh l2 true) := hS2
        have b7 := below_then b5 b6
        have hbx6 := hbx.below b7
        obtain ⟨_, x0, x1, x2⟩ := id hbx6
        have g0 : w6.frozen? ⟨B, 0, none⟩ = false := by rw [b7.frozen (p := ⟨B, 0, none⟩) hbx.1]; exact hfz 0
        have g1 : w6.frozen? ⟨B, 1, none⟩ = false := by rw [b7.frozen (p := ⟨B, 1, none⟩) hbx.1]; exact hfz 1
        have g2 : w6.frozen? ⟨B, 2, none⟩ = false := by rw [b7.frozen (p := ⟨B, 2, none⟩) hbx.1]; exact hfz 2
        have hB9 : w.heap.size ≤ B := Nat.le_of_eq HB.out
        have hB3 : B < w3.heap.size := hbx1.1
        have b9 := below_then b0 b7
        have hO1' := hOn1.below b6
        obtain ⟨W, HW⟩ : ∃ u, Hid (((w6.setCell ⟨B, 0, none⟩ (.int .i64 li)).setCell ⟨B, 1, none⟩ (.slice a1 m1 c1)).setCell ⟨B, 2, none⟩ (.slice a2 m2 c2) = u) := ⟨_, rfl⟩
        have hbW := box3_set hbx6 (.int .i64 li) (.slice a1 m1 c1) (.slice a2 m2 c2)
        have bW := ((b9.setCell (p := ⟨B, 0, none⟩) hB9 (.int .i64 li)).setCell (p := ⟨B, 1, none⟩) hB9 (.slice a1 m1 c1)).setCell (p := ⟨B, 2, none⟩) hB9 (.slice a2 m2 c2)
        have hs3 : w.heap.size ≤ w3.heap.size := by omega
        have hs4 : w.heap.size ≤ w4.heap.size := Nat.le_trans hs3 b4.size
        have hB4 : B < w4.heap.size := Nat.lt_of_lt_of_le hB3 b4.size
        have F1 : Hid (On (fun k => w.heap.size ≤ k) (((w6.setCell ⟨B, 0, none⟩ (.int .i64 li)).setCell ⟨B, 1, none⟩ (.slice a1 m1 c1)).setCell ⟨B, 2, none⟩ (.slice a2 m2 c2)) (fun w2 => Ints w2 (.slice a1 m1 c1) l1)) :=
          (((hO1'.set (a := ⟨B, 0, none⟩) (by show ¬ (w3.heap.size ≤ B); omega) _).set (a := ⟨B, 1, none⟩) (by show ¬ (w3.heap.size ≤ B); omega) _).set (a := ⟨B, 2, none⟩) (by show ¬ (w3.heap.size ≤ B); omega) _).weaken fun k _ hk => Nat.le_trans hs3 hk
        have F2 : Hid (On (fun k => w.heap.size ≤ k) (((w6.setCell ⟨B, 0, none⟩ (.int .i64 li)).setCell ⟨B, 1, none⟩ (.slice a1 m1 c1)).setCell ⟨B, 2, none⟩ (.slice a2 m2 c2)) (fun w2 => Ints w2 (.slice a2 m2 c2) l2)) :=
          (((hOn2.set (a := ⟨B, 0, none⟩) (by show ¬ (w4.heap.size ≤ B); omega) _).set (a := ⟨B, 1, none⟩) (by show ¬ (w4.heap.size ≤ B); omega) _).set (a := ⟨B, 2, none⟩) (by show ¬ (w4.heap.size ≤ B); omega) _).weaken fun k _ hk => Nat.le_trans hs4 hk
        rw [HW.out] at hbW bW F1 F2
        have R : Hid (LineIs P s ⟨li, l1, l2⟩ true) := by have := HC.out.yes H1.out (by have := H2.out; omega) HS1.out HS2.out; rw [HL.out] at this; exact this
        clear hbx hfz hbx1 hfz1 HC b9 hOn1 hOn2 hO1' hbx6 hS2 hW2
        go_wp2
        rw [HW.out]
        exact bodyPost_ret (v := .tuple #[.agg #[.int .i64 li, .slice a1 m1 c1, .slice a2 m2 c2], .bool true]) (results_tran rfl rfl rfl hbW.2.1 hbW.2.2.1 hbW.2.2.2) rfl ⟨.inl ⟨a1, m1, c1, a2, m2, c2, ⟨li, l1, l2⟩, rfl, R.out, F1.out, F2.out⟩, bW⟩
      · have R : Hid (LineIs P s noTran false) := HC.out.no2 hN2
        have b7 := below_then b5 b6
        have hbx6 := hbx.below b7
        obtain ⟨_, x0, x1, x2⟩ := id hbx6
        have g0 : w6.frozen? ⟨B, 0, none⟩ = false := by rw [b7.frozen (p := ⟨B, 0, none⟩) hbx.1]; exact hfz 0
        have g1 : w6.frozen? ⟨B, 1, none⟩ = false := by rw [b7.frozen (p := ⟨B, 1, none⟩) hbx.1]; exact hfz 1
        have g2 : w6.frozen? ⟨B, 2, none⟩ = false := by rw [b7.frozen (p := ⟨B, 2, none⟩) hbx.1]; exact hfz 2
        have hB9 : w.heap.size ≤ B := Nat.le_of_eq HB.out
        have b9 := below_then b0 b7
        obtain ⟨W, HW⟩ : ∃ u, Hid (((w6.setCell ⟨B, 0, none⟩ (.int .i64 0)).setCell ⟨B, 1, none⟩ (.slice none 0 0)).setCell ⟨B, 2, none⟩ (.slice none 0 0) = u) := ⟨_, rfl⟩
        have hbW := box3_set hbx6 (.int .i64 0) (.slice none 0 0) (.slice none 0 0)
        have bW := ((b9.setCell (p := ⟨B, 0, none⟩) hB9 (.int .i64 0)).setCell (p := ⟨B, 1, none⟩) hB9 (.slice none 0 0)).setCell (p := ⟨B, 2, none⟩) hB9 (.slice none 0 0)
        rw [HW.out] at hbW bW
        clear hbx hfz hbx1 hfz1 HC b9 hOn1 hbx6 hN2 hW2
        go_wp2
        rw [HW.out]
        exact bodyPost_ret (v := .tuple #[.agg #[.int .i64 0, .slice none 0 0, .slice none 0 0], .bool false]) (results_tran rfl rfl rfl hbW.2.1 hbW.2.2.1 hbW.2.2.2) rfl ⟨.inr ⟨rfl, R.out⟩, bW⟩
    · have R : Hid (LineIs P s noTran false) := HC.out.no1 hN1
      have b7 := below_then b1 b4
      have hbx6 := hbx.below b7
      obtain ⟨_, x0, x1, x2⟩ := id hbx6
      have g0 : w4.frozen? ⟨B, 0, none⟩ = false := by rw [b7.frozen (p := ⟨B, 0, none⟩) hbx.1]; exact hfz 0
      have g1 : w4.frozen? ⟨B, 1, none⟩ = false := by rw [b7.frozen (p := ⟨B, 1, none⟩) hbx.1]; exact hfz 1
      have g2 : w4.frozen? ⟨B, 2, none⟩ = false := by rw [b7.frozen (p := ⟨B, 2, none⟩) hbx.1]; exact hfz 2
      have hB9 : w.heap.size ≤ B := Nat.le_of_eq HB.out
      have b9 := below_then b0 b7
      obtain ⟨W, HW⟩ : ∃ u, Hid (((w4.setCell ⟨B, 0, none⟩ (.int .i64 0)).setCell ⟨B, 1, none⟩ (.slice none 0 0)).setCell ⟨B, 2, none⟩ (.slice none 0 0) = u) := ⟨_, rfl⟩
      have hbW := box3_set hbx6 (.int .i64 0) (.slice none 0 0) (.slice none 0 0)
      have bW := ((b9.setCell (p := ⟨B, 0, none⟩) hB9 (.int .i64 0)).setCell (p := ⟨B, 1, none⟩) hB9 (.slice none 0 0)).setCell (p := ⟨B, 2, none⟩) hB9 (.slice none 0 0)
      rw [HW.out] at hbW bW
      clear hbx hfz hbx1 hfz1 HC b9 hbx6 hN1 hW2 hW1
      go_wp2
      rw [HW.out]
      exact bodyPost_ret (v := .tuple #[.agg #[.int .i64 0, .slice none 0 0, .slice none 0 0], .bool false]) (results_tran rfl rfl rfl hbW.2.1 hbW.2.2.1 hbW.2.2.2) rfl ⟨.inr ⟨rfl, R.out⟩, bW⟩

/-- The first line. -/
theorem first_is {s r : Bytes} {n : Int} {ok : Bool} (hs : s = [110, 101, 116, 32] ++ r) (hn : NumIs r 0 16 n ok) : FirstIs s n ok := by
  rcases hn with ⟨rfl, h1, h2, h3⟩ | ⟨rfl, rfl, h2⟩
  · exact .inl ⟨rfl, h1, h2, by rw [hs, ← h3]; rfl⟩
  · refine .inr ⟨rfl, fun m h3 h4 e => ?_⟩
    rw [hs] at e
    exact h2 m h3 h4 (List.append_cancel_left e).symm
theorem first_not {s : Bytes} (hs : Lib.hasPrefix s [110, 101, 116, 32] = false) (n : Int) : FirstIs s n false := by
  refine .inr ⟨rfl, fun m h3 h4 e => ?_⟩
  unfold Lib.hasPrefix at hs
  rw [Bool.eq_false_iff] at hs
  exact hs (List.isPrefixOf_iff_prefix.2 ⟨_, e.symm⟩)
def FirstOut (s : Bytes) (e : Ending) : Prop := ∃ n ok, e = .returned (.tuple #[.int .i64 n, .bool ok]) ∧ FirstIs s n ok
set_option maxHeartbeats 2000000 in
theorem first_any (s : Bytes) (w : World) :
    Calls Tryd.prog 22 #[.string (bs s)] w fun e w' => FirstOut s e ∧ w' = w := by
  have hC := cutPrefix_any s [110, 101, 116, 32] ⟨#[110, 101, 116, 32]⟩ w rfl
  go_enter Tryd.func22, Tryd.ntmps22
  cases hp : Lib.hasPrefix s [110, 101, 116, 32]
  · rw [hp] at hC
    have R : Hid (FirstIs s 0 false) := first_not hp 0
    obtain ⟨r, Hr⟩ : ∃ r, Hid (Lib.trimPrefix s [110, 101, 116, 32] = r) := ⟨_, rfl⟩
    rw [Hr.out] at hC
    clear hp
    go_upto_region 2 with (go_at_call 42; refine hC.mono ?_; rintro e w1 ⟨rfl, rfl⟩)
    clear hC
    go_wp2
    go_ret2
    exact ⟨⟨0, false, rfl, R.out⟩, rfl⟩
  · rw [hp] at hC
    obtain ⟨r, Hr⟩ : ∃ r, Hid (Lib.trimPrefix s [110, 101, 116, 32] = r) := ⟨_, rfl⟩
    have HS : Hid (s = [110, 101, 116, 32] ++ r) := by
      have e := Hr.out
      unfold Lib.trimPrefix at e
      rw [if_pos hp] at e
      unfold Lib.hasPrefix at hp
      obtain ⟨x, hx⟩ := List.isPrefixOf_iff_prefix.1 hp
      show s = _
      rw [← hx, List.drop_left] at e
      rw [← hx, e]
    rw [Hr.out] at hC
    clear hp
    have hN := fun w => number_any r 0 16 w (by omega) (by omega) (by omega) (by omega)
    go_upto_region 2 with (go_at_call 42; refine hC.mono ?_; rintro e w1 ⟨rfl, rfl⟩)
    clear hC
    go_wp2_with (go_at_call 43; refine (hN _).mono ?_; rintro e w2 ⟨⟨y, ok, rfl, hn⟩, rfl⟩)
    go_ret2
    exact ⟨⟨y, ok, rfl, first_is HS.out hn⟩, rfl⟩

end Go.Proofs.YteeogdihaajicaaDoor
