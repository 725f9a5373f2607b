/- The document's own texts: a line. (Made by tools/gen_textref6.py.) -/
import Derived.Test.YteeogdihaajicaaDoorTextRef5
import Derived.Test.YteeogdihaajicaaDoorTextDev3
namespace Go.Proofs.YteeogdihaajicaaDoor
open Go.RowKit
set_option linter.unusedVariables false
set_option linter.unusedSimpArgs false
set_option maxRecDepth 4000

/-! ### plainly -/
def isLet (C : Nat) : Prop := C = 45 ∨ (97 ≤ C ∧ C ≤ 122)
theorem letter_is_fin : ∀ i : Fin 27, (letterT (i.val : Int)).toNat = 45 ∨ (97 ≤ (letterT (i.val : Int)).toNat ∧ (letterT (i.val : Int)).toNat ≤ 122) := by decide +kernel
theorem letter_is {a : Int} (h : 0 ≤ a ∧ a ≤ 26) : isLet (letterT a).toNat := by
  have := letter_is_fin ⟨a.toNat, by omega⟩
  rwa [show (((⟨a.toNat, by omega⟩ : Fin 27).val : Nat) : Int) = a by show ((a.toNat : Nat) : Int) = a; omega] at this
theorem line_at {t : TranL} {s : Bytes} (h : s = lineT t) : s[0]? = some (letterT t.label) ∧ s.drop 1 = [32, 58] ++ s.drop 3 ∧ s.drop 3 = sideT 0 t.pre ++ 32 :: 62 :: sideT 0 t.post := by
  subst h
  unfold lineT
  exact ⟨rfl, rfl, rfl⟩
section
variable {s : Bytes} {P : Nat}
theorem oline_empty (h : s = []) : LineIs P s noTran false := .inr ⟨rfl, fun t _ e => by rw [h] at e; cases e⟩
theorem oline_head {x : UInt8} (hx : s[0]? = some x) (h : ¬ isLet x.toNat) : LineIs P s noTran false := .inr ⟨rfl, fun t ht e => by
  have := (line_at e).1
  rw [hx] at this
  injection this with this
  subst this
  exact h (letter_is ht.lab)⟩
theorem oline_one (h : ¬ ∃ r, s.drop 1 = [32, 58] ++ r) : LineIs P s noTran false := .inr ⟨rfl, fun t ht e => h ⟨_, (line_at e).2.1⟩⟩
theorem oline_side1 (h : ∀ l R', SideOk P l → StopT R' → s.drop 3 ≠ sideT 0 l ++ R') : LineIs P s noTran false := .inr ⟨rfl, fun t ht e => h _ _ ht.pre (.inr ⟨_, rfl⟩) (line_at e).2.2⟩
section
variable {l : List Int} {j : Nat} (hu : ∀ l' R', SideOk P l' → StopT R' → s.drop 3 = sideT 0 l' ++ R' → l' = l ∧ R' = s.drop j)
include hu
theorem oline_two (h : ¬ ∃ r, s.drop j = [32, 62] ++ r) : LineIs P s noTran false := .inr ⟨rfl, fun t ht e => by
  obtain ⟨_, e2⟩ := hu _ _ ht.pre (.inr ⟨_, rfl⟩) (line_at e).2.2
  exact h ⟨sideT 0 t.post, e2.symm⟩⟩
theorem oline_side2 (h : ∀ l R', SideOk P l → StopT R' → s.drop (j + 2) ≠ sideT 0 l ++ R') : LineIs P s noTran false := .inr ⟨rfl, fun t ht e => by
  obtain ⟨_, e2⟩ := hu _ _ ht.pre (.inr ⟨_, rfl⟩) (line_at e).2.2
  refine h _ [] ht.post (.inl rfl) ?_
  rw [← List.drop_drop, ← e2]
  simp⟩
theorem oline_end {l2 : List Int} {j2 : Nat} (hu2 : ∀ l' R', SideOk P l' → StopT R' → s.drop (j + 2) = sideT 0 l' ++ R' → l' = l2 ∧ R' = s.drop j2) (h : s.drop j2 ≠ []) : LineIs P s noTran false := .inr ⟨rfl, fun t ht e => by
  obtain ⟨_, e2⟩ := hu _ _ ht.pre (.inr ⟨_, rfl⟩) (line_at e).2.2
  obtain ⟨_, e3⟩ := hu2 _ [] ht.post (.inl rfl) (by rw [← List.drop_drop, ← e2]; simp)
  exact h e3.symm⟩
end
theorem oline_yes {x : UInt8} {lab : Int} {l l2 : List Int} {j j2 : Nat} (hx : s[0]? = some x) (hl : letterT lab = x) (hlab : 0 ≤ lab ∧ lab ≤ 26) (h1 : ∃ r, s.drop 1 = [32, 58] ++ r) (o1 : SideOk P l) (e1 : s.drop 3 = sideT 0 l ++ s.drop j) (h2 : ∃ r, s.drop j = [32, 62] ++ r) (o2 : SideOk P l2)
    (e2 : s.drop (j + 2) = sideT 0 l2 ++ s.drop j2) (h3 : s.drop j2 = []) : LineIs P s ⟨lab, l, l2⟩ true := by
  refine .inl ⟨rfl, ⟨hlab, o1, o2⟩, ?_⟩
  obtain ⟨r1, q1⟩ := h1
  obtain ⟨r2, q2⟩ := h2
  have hs : s = x :: s.drop 1 := by
    cases s with
    | nil => cases hx
    | cons a b => simp at hx; rw [hx]; rfl
  have d3 : s.drop 3 = r1 := by rw [show 3 = 1 + 2 from rfl, ← List.drop_drop, q1]; rfl
  have dj : s.drop (j + 2) = r2 := by rw [← List.drop_drop, q2]; rfl
  rw [hs, q1, ← d3, e1, q2, ← dj, e2, h3]
  unfold lineT
  rw [hl]
  simp
end
theorem let_of {x : UInt8} (h : 97 ≤ x.toNat ∧ x.toNat ≤ 122) : letterT ((x.toNat : Int) - 96) = x ∧ 0 ≤ ((x.toNat : Int) - 96) ∧ ((x.toNat : Int) - 96) ≤ 26 := by
  refine ⟨?_, by omega, by omega⟩
  unfold letterT
  rw [if_pos (by omega)]
  apply UInt8.toNat_inj.1
  rw [UInt8.toNat_ofNat']
  omega

/-! ### while a line is read -/
structure TrSt (w w' : World) (B T R : Nat) (s : Bytes) (k : Nat) (lab : Int) (x y : Value) : Prop where
  rd : Rd w' B s k
  t : Box3 w' T (.int .i64 lab) x y
  tf : ∀ j, w'.frozen? ⟨T, j, none⟩ = false
  r : Box3 w' R (.int .i64 0) (.slice none 0 0) (.slice none 0 0)
  rf : ∀ j, w'.frozen? ⟨R, j, none⟩ = false
  b : Below w.heap.size w w'
  ne : B ≠ T ∧ B ≠ R ∧ T ≠ R ∧ w.heap.size ≤ B ∧ w.heap.size ≤ T ∧ w.heap.size ≤ R
section
variable {w w' w2 : World} {B T R : Nat} {s : Bytes} {k : Nat} {lab : Int} {x y : Value}
theorem box3_only {v : World} {b : Nat} {p q r : Value} (h : Box3 w' b p q r) (hO : OnlyB B w' v) (hne : b ≠ B) : Box3 v b p q r :=
  ⟨Nat.lt_of_lt_of_le h.1 hO.size, hO.cell hne h.2.1, hO.cell hne h.2.2.1, hO.cell hne h.2.2.2⟩
theorem frozen_only {v : World} {b : Nat} (hb : b < w'.heap.size) (h : ∀ j, w'.frozen? ⟨b, j, none⟩ = false) (hO : OnlyB B w' v) (hne : b ≠ B) : ∀ j, v.frozen? ⟨b, j, none⟩ = false := fun j =>
  (World.frozen?_of_block (a := ⟨b, j, none⟩) (hO.block b hb hne)).trans (h j)
theorem TrSt.only (h : TrSt w w' B T R s k lab x y) (hO : OnlyB B w' w2) {j : Nat} (hR : Rd w2 B s j) : TrSt w w2 B T R s j lab x y :=
  ⟨hR, box3_only h.t hO (fun e => h.ne.1 e.symm), frozen_only h.t.1 h.tf hO (fun e => h.ne.1 e.symm), box3_only h.r hO (fun e => h.ne.2.1 e.symm), frozen_only h.r.1 h.rf hO (fun e => h.ne.2.1 e.symm), h.b.trans (hO.below.mono h.ne.2.2.2.1), h.ne⟩
theorem TrSt.set1 (h : TrSt w w' B T R s k lab x y) (v : Value) : TrSt w (w'.setCell ⟨T, 1, none⟩ v) B T R s k lab v y := by
  obtain ⟨h0, h1, h2, h3⟩ := h.t
  obtain ⟨r0, r1, r2, r3⟩ := h.r
  have n1 := h.ne.2.2.1
  refine ⟨h.rd.other (fun e => h.ne.1 e.symm) 1 v, ⟨by simpa [World.setCell] using h0, ?_, World.cell?_setCell_same _ _ _ h2, ?_⟩, fun j => by rw [World.frozen?_setCell]; exact h.tf j, ⟨by simpa [World.setCell] using r0, ?_, ?_, ?_⟩, fun j => by rw [World.frozen?_setCell]; exact h.rf j, h.b.setCell (p := ⟨T, 1, none⟩) h.ne.2.2.2.2.1 v, h.ne⟩
  · rw [World.cell?_setCell_other _ _ _ _ (by intro q; injection q with _ q; omega)]; exact h1
  · rw [World.cell?_setCell_other _ _ _ _ (by intro q; injection q with _ q; omega)]; exact h3
  all_goals rw [World.cell?_setCell_other _ _ _ _ (by intro q; injection q with q _; exact n1 q)]
  · exact r1
  · exact r2
  · exact r3
theorem TrSt.set2 (h : TrSt w w' B T R s k lab x y) (v : Value) : TrSt w (w'.setCell ⟨T, 2, none⟩ v) B T R s k lab x v := by
  obtain ⟨h0, h1, h2, h3⟩ := h.t
  obtain ⟨r0, r1, r2, r3⟩ := h.r
  have n1 := h.ne.2.2.1
  refine ⟨h.rd.other (fun e => h.ne.1 e.symm) 2 v, ⟨by simpa [World.setCell] using h0, ?_, ?_, World.cell?_setCell_same _ _ _ h3⟩, fun j => by rw [World.frozen?_setCell]; exact h.tf j, ⟨by simpa [World.setCell] using r0, ?_, ?_, ?_⟩, fun j => by rw [World.frozen?_setCell]; exact h.rf j, h.b.setCell (p := ⟨T, 2, none⟩) h.ne.2.2.2.2.1 v, h.ne⟩
  · rw [World.cell?_setCell_other _ _ _ _ (by intro q; injection q with _ q; omega)]; exact h1
  · rw [World.cell?_setCell_other _ _ _ _ (by intro q; injection q with _ q; omega)]; exact h2
  all_goals rw [World.cell?_setCell_other _ _ _ _ (by intro q; injection q with q _; exact n1 q)]
  · exact r1
  · exact r2
  · exact r3
theorem TrSt.set0 (h : TrSt w w' B T R s k lab x y) (v : Int) : TrSt w (w'.setCell ⟨T, 0, none⟩ (.int .i64 v)) B T R s k v x y := by
  obtain ⟨h0, h1, h2, h3⟩ := h.t
  obtain ⟨r0, r1, r2, r3⟩ := h.r
  have n1 := h.ne.2.2.1
  refine ⟨h.rd.other (fun e => h.ne.1 e.symm) 0 _, ⟨by simpa [World.setCell] using h0, World.cell?_setCell_same _ _ _ h1, ?_, ?_⟩, fun j => by rw [World.frozen?_setCell]; exact h.tf j, ⟨by simpa [World.setCell] using r0, ?_, ?_, ?_⟩, fun j => by rw [World.frozen?_setCell]; exact h.rf j, h.b.setCell (p := ⟨T, 0, none⟩) h.ne.2.2.2.2.1 _, h.ne⟩
  · rw [World.cell?_setCell_other _ _ _ _ (by intro q; injection q with _ q; omega)]; exact h2
  · rw [World.cell?_setCell_other _ _ _ _ (by intro q; injection q with _ q; omega)]; exact h3
  all_goals rw [World.cell?_setCell_other _ _ _ _ (by intro q; injection q with q _; exact n1 q)]
  · exact r1
  · exact r2
  · exact r3
theorem On.only {D : Nat → Prop} {Q : World → Prop} (h : On D w' Q) (hO : OnlyB B w' w2) (hD : ¬ D B) : On D w2 Q := h.to hO.size fun k hk hd => hO.block k hk fun e => hD (e ▸ hd)
end

def OTranOut (s : Bytes) (P : Nat) (w w' : World) (e : Ending) : Prop :=
  ∃ lab a n c a2 n2 c2 ok, e = .returned (.tuple #[.agg #[.int .i64 lab, .slice a n c, .slice a2 n2 c2], .bool ok]) ∧
    ((ok = true ∧ ∃ t, t.label = lab ∧ LineIs P s t true ∧ On (fun k => w.heap.size ≤ k) w' (fun w2 => Ints w2 (.slice a n c) t.pre) ∧ On (fun k => w.heap.size ≤ k) w' (fun w2 => Ints w2 (.slice a2 n2 c2) t.post)) ∨ (ok = false ∧ LineIs P s noTran false))
theorem otran_bad {s : Bytes} {P : Nat} {w w' : World} {lab : Int} {a a2 : Option Addr} {n c n2 c2 : Nat} (h : LineIs P s noTran false) : OTranOut s P w w' (.returned (.tuple #[.agg #[.int .i64 lab, .slice a n c, .slice a2 n2 c2], .bool false])) := ⟨_, _, _, _, _, _, _, _, rfl, .inr ⟨rfl, h⟩⟩

set_option maxHeartbeats 16000000 in
theorem otran_any (s : Bytes) (P : Nat) (w : World) (hT : Tabs15 w.heap.size w) (hs : s.length ≤ 1048576) (hP : P ≤ 16) :
    Calls Tryd.prog 26 #[.string (bs s), .int .i64 (P : Int)] w fun e w' => OTranOut s P w w' e ∧ Below w.heap.size w w' := by
  have b0 := below_new w (.cells #[.int .i64 0, .slice none 0 0, .slice none 0 0] 43)
  have hbx := box3_new w (.int .i64 0) (.slice none 0 0) (.slice none 0 0) 43
  have hfz : ∀ j, (w.alloc (.cells #[.int .i64 0, .slice none 0 0, .slice none 0 0] 43)).frozen? ⟨w.heap.size, j, none⟩ = false := fun j => World.frozen?_alloc_at _ _ _ _ rfl
  obtain ⟨w0, H0⟩ : ∃ u, Hid (w.alloc (.cells #[.int .i64 0, .slice none 0 0, .slice none 0 0] 43) = u) := ⟨_, rfl⟩
  obtain ⟨R, HR⟩ : ∃ z, Hid (w.heap.size = z) := ⟨_, rfl⟩
  rw [H0.out, HR.out] at hbx hfz
  rw [H0.out] at b0
  have hR9 : Hid (w.heap.size ≤ R) := Nat.le_of_eq HR.out
  obtain ⟨n, Hn⟩ : ∃ z, Hid (s.length = z) := ⟨_, rfl⟩
  have z1 : (bs s).size = n := (bs_size s).trans Hn.out
  have hsn : n ≤ 1048576 := by rw [← Hn.out]; exact hs
  go_enter Tryd.func26, Tryd.ntmps26
  go_upto_region 1 with fail
  rw [H0.out, HR.out]
  by_cases hn0 : n = 0
  · have Hbad : Hid (LineIs P s noTran false) := oline_empty (List.length_eq_zero_iff.1 (Hn.out.trans hn0))
    have n1 : ((n : Int) == 0) = true := by rw [hn0]; rfl
    obtain ⟨W, HW⟩ : ∃ u, Hid (((w0.setCell ⟨R, 0, none⟩ (.int .i64 0)).setCell ⟨R, 1, none⟩ (.slice none 0 0)).setCell ⟨R, 2, none⟩ (.slice none 0 0) = u) := ⟨_, rfl⟩
    have hbW := box3_set hbx (.int .i64 0) (.slice none 0 0) (.slice none 0 0)
    have bW := ((b0.setCell (p := ⟨R, 0, none⟩) hR9.out (.int .i64 0)).setCell (p := ⟨R, 1, none⟩) hR9.out (.slice none 0 0)).setCell (p := ⟨R, 2, none⟩) hR9.out (.slice none 0 0)
    rw [HW.out] at hbW bW
    obtain ⟨_, x0, x1, x2⟩ := id hbx
    have g0 := hfz 0
    have g1 := hfz 1
    have g2 := hfz 2
    clear hbx hfz
    go_wp2
    rw [HW.out]
    exact bodyPost_ret (v := .tuple #[.agg #[.int .i64 0, .slice none 0 0, .slice none 0 0], .bool false]) (results_tran rfl rfl rfl hbW.2.1 hbW.2.2.1 hbW.2.2.2) rfl ⟨otran_bad Hbad.out, bW⟩
  · have n1 : ((n : Int) == 0) = false := by rw [beq_eq_false_iff_ne]; omega
    obtain ⟨x, hx⟩ : ∃ x, s[0]? = some x := ⟨_, List.getElem?_eq_getElem (by rw [Hn.out]; omega)⟩
    have Hx : Hid (s[0]? = some x) := hx
    have hIx := fun w => str_at hx w
    rw [show (((0 : Nat)) : Int) = 0 from rfl] at hIx
    obtain ⟨C, HC⟩ : ∃ z, Hid (x.toNat = z) := ⟨_, rfl⟩
    rw [HC.out] at hIx
    have hn1 : 1 ≤ n := by omega
    clear hx hn0
    by_cases hl : isLet C
    · -- a letter, or none
      have b1 := below_new w0 (.cells #[.string (bs s), .int .i64 1] 54)
      have hq := box2_new w0 (.string (bs s)) (.int .i64 1) 54
      have hqf : (w0.alloc (.cells #[.string (bs s), .int .i64 1] 54)).frozen? ⟨w0.heap.size, 1, none⟩ = false := World.frozen?_alloc_at _ _ _ _ rfl
      obtain ⟨w1, H1⟩ : ∃ u, Hid (w0.alloc (.cells #[.string (bs s), .int .i64 1] 54) = u) := ⟨_, rfl⟩
      obtain ⟨B, HB⟩ : ∃ z, Hid (w0.heap.size = z) := ⟨_, rfl⟩
      rw [H1.out, HB.out] at hq hqf
      rw [H1.out] at b1
      have b2 := below_new w1 (.cells #[.int .i64 0, .slice none 0 0, .slice none 0 0] 43)
      have ht := box3_new w1 (.int .i64 0) (.slice none 0 0) (.slice none 0 0) 43
      have htf : ∀ j, (w1.alloc (.cells #[.int .i64 0, .slice none 0 0, .slice none 0 0] 43)).frozen? ⟨w1.heap.size, j, none⟩ = false := fun j => World.frozen?_alloc_at _ _ _ _ rfl
      obtain ⟨w2, H2⟩ : ∃ u, Hid (w1.alloc (.cells #[.int .i64 0, .slice none 0 0, .slice none 0 0] 43) = u) := ⟨_, rfl⟩
      have hw1 : w1.heap.size = B + 1 := by rw [← H1.out, ← HB.out]; simp
      obtain ⟨T, HT⟩ : ∃ z, Hid (B + 1 = z) := ⟨_, rfl⟩
      have hw2 := hw1.trans HT.out
      rw [H2.out, hw2] at ht htf
      rw [H2.out] at b2
      have Hw1 : Hid (w1.heap.size = T) := hw2
      clear hw1 hw2
      have hBR : R < B := by have := hbx.1; have := HB.out; omega
      have hTB : B < T := by have := HT.out; omega
      have hSt : TrSt w w2 B T R s 1 0 (.slice none 0 0) (.slice none 0 0) := by
        have bb := below_then b1 b2
        have hr2 := hbx.below bb
        have hq2 := hq.below b2
        refine ⟨⟨by simpa using hq2, by rw [b2.frozen (p := ⟨B, 1, none⟩) hq.1]; exact hqf, by rw [Hn.out]; omega⟩, ht, htf, hr2, fun j => by rw [bb.frozen (p := ⟨R, j, none⟩) hbx.1]; exact hfz j, below_then b0 bb, ?_⟩
        have := hR9.out
        exact ⟨by omega, by omega, by omega, by omega, by omega, by omega⟩
      have HB0 : Hid (w.heap.size ≤ B) := by have := hR9.out; show _ ≤ _; omega
      clear hbx hfz b0 b1 b2 hq hqf ht htf
      by_cases h45 : C = 45
      · have n2 : ((C : Int) != 45) = false := by rw [h45]; rfl
        have Hlab : Hid (letterT 0 = x ∧ (0 : Int) ≤ 0 ∧ (0 : Int) ≤ 26) := ⟨by apply UInt8.toNat_inj.1; rw [HC.out, h45]; rfl, by omega, by omega⟩
        clear h45 hl
        go_upto_region 3 with fail
        go_upto_region 4 with fail
        rw [H1.out, HB.out, H2.out, HT.out]
        go_upto_region 7 with fail
        clear n2 n1 hIx
        have hSk := skip_any hSt.rd [32, 58] ⟨#[32, 58]⟩ rfl (by decide) hs
        by_cases hp : ∃ r, s.drop 1 = [32, 58] ++ r
        · have Hp : Hid (∃ r, s.drop 1 = [32, 58] ++ r) := hp
          go_upto_region 8 with (go_at_call 24; refine hSk.mono ?_; rintro e w4 ⟨hSk2, hO4⟩; obtain ⟨rfl, hR4⟩ := skip_yes hSk2 hp)
          have hSt4 := hSt.only hO4 (show Rd w4 B s 3 from hR4)
          clear hSk hSk2 hp hO4 hR4 hSt
          have hSi := oside_any P hSt4.rd (hT.on hSt4.b) HB0.out hs hP
          have hB4 := hSt4.rd.box.1
          have hT4 := hSt4.t.1
          have hR4 := hSt4.r.1
          have hs4 := hSt4.b.size
          go_upto_region 9 with (go_at_call 46; refine hSi.mono ?_; rintro e w5 ⟨hSi2, hO5⟩; rcases hSi2 with ⟨a1, m1, c1, l1, j1, rfl, ho1, he1, hu1, hR5, hOn1⟩ | ⟨rfl, hno1, j1, hR5⟩ <;> (have hSt5 := hSt4.only hO5 hR5; obtain ⟨_, _, u1, _⟩ := id hSt5.t; have uf1 := hSt5.tf 1))
          · have Ho1 : Hid (SideOk P l1) := ho1
            have He1 : Hid (s.drop 3 = sideT 0 l1 ++ s.drop j1) := he1
            have Hu1 : Hid (∀ l' R', SideOk P l' → StopT R' → s.drop 3 = sideT 0 l' ++ R' → l' = l1 ∧ R' = s.drop j1) := hu1
            have hSt6 := hSt5.set1 (.slice a1 m1 c1)
            have hOn6 := hOn1.set (a := ⟨T, 1, none⟩) (by show ¬ (w4.heap.size ≤ T); omega) (.slice a1 m1 c1)
            obtain ⟨w6, H6⟩ : ∃ u, Hid (w5.setCell ⟨T, 1, none⟩ (.slice a1 m1 c1) = u) := ⟨_, rfl⟩
            rw [H6.out] at hSt6 hOn6
            rw [H6.out]
            clear hSi ho1 he1 hu1 hR5 hOn1 hO5 hSt5 hSt4 u1 uf1
            have hSk := skip_any hSt6.rd [32, 62] ⟨#[32, 62]⟩ rfl (by decide) hs
            by_cases hp : ∃ r, s.drop j1 = [32, 62] ++ r
            · have Hp2 : Hid (∃ r, s.drop j1 = [32, 62] ++ r) := hp
              go_upto_region 10 with (go_at_call 24; refine hSk.mono ?_; rintro e w7 ⟨hSk2, hO7⟩; obtain ⟨rfl, hR7⟩ := skip_yes hSk2 hp)
              have hR7 : Rd w7 B s (j1 + 2) := hR7
              have hSt7 := hSt6.only hO7 hR7
              have hOn7 := hOn6.only hO7 (by show ¬ (w4.heap.size ≤ B); omega)
              clear hSk hSk2 hp hO7 hR7 hSt6 hOn6
              have hSi := oside_any P hSt7.rd (hT.on hSt7.b) HB0.out hs hP
              have hB7 := hSt7.rd.box.1
              have hT7 := hSt7.t.1
              have hR7 := hSt7.r.1
              have hs7 := hSt7.b.size
              go_upto_region 11 with (go_at_call 46; refine hSi.mono ?_; rintro e w8 ⟨hSi2, hO8⟩; rcases hSi2 with ⟨a2, m2, c2, l2, j2, rfl, ho2, he2, hu2, hR8, hOn2⟩ | ⟨rfl, hno2, j2, hR8⟩ <;> (have hSt8 := hSt7.only hO8 hR8; obtain ⟨_, _, _, u2⟩ := id hSt8.t; have uf2 := hSt8.tf 2))
              · have Ho2 : Hid (SideOk P l2) := ho2
                have He2 : Hid (s.drop (j1 + 2) = sideT 0 l2 ++ s.drop j2) := he2
                have Hu2 : Hid (∀ l' R', SideOk P l' → StopT R' → s.drop (j1 + 2) = sideT 0 l' ++ R' → l' = l2 ∧ R' = s.drop j2) := hu2
                have hSt9 := hSt8.set2 (.slice a2 m2 c2)
                have hO9a := (hOn7.only hO8 (by show ¬ (w4.heap.size ≤ B); omega)).set (a := ⟨T, 2, none⟩) (by show ¬ (w4.heap.size ≤ T); omega) (.slice a2 m2 c2)
                have hO9b := hOn2.set (a := ⟨T, 2, none⟩) (by show ¬ (w7.heap.size ≤ T); omega) (.slice a2 m2 c2)
                obtain ⟨w9, H9⟩ : ∃ u, Hid (w8.setCell ⟨T, 2, none⟩ (.slice a2 m2 c2) = u) := ⟨_, rfl⟩
                rw [H9.out] at hSt9 hO9a hO9b
                rw [H9.out]
                clear hSi ho2 he2 hu2 hR8 hOn2 hO8 hSt8 hSt7 u2 uf2 hOn7
                have hj2 : j2 ≤ n := by have := hSt9.rd.le; rw [Hn.out] at this; exact this
                by_cases hend : j2 = n
                · have n5 : ((j2 : Int) == (n : Int)) = true := by rw [hend]; simp
                  have HL : Hid (LineIs P s ⟨0, l1, l2⟩ true) := oline_yes Hx.out Hlab.out.1 Hlab.out.2 Hp.out Ho1.out He1.out Hp2.out Ho2.out He2.out (by rw [hend]; exact List.drop_eq_nil_of_le (by rw [Hn.out]; exact Nat.le_refl _))
                  clear hend
                  have HS9 : Hid (TrSt w w9 B T R s j2 0 (.slice a1 m1 c1) (.slice a2 m2 c2)) := hSt9
                  obtain ⟨_, t0, t1, t2⟩ := id HS9.out.t
                  obtain ⟨_, _, q1⟩ := id HS9.out.rd.box
                  obtain ⟨_, x0, x1, x2⟩ := id HS9.out.r
                  have g0 := HS9.out.rf 0
                  have g1 := HS9.out.rf 1
                  have g2 := HS9.out.rf 2
                  have bd := HS9.out.b
                  have nTR := HS9.out.ne.2.2.1
                  have nBR := HS9.out.ne.2.1
                  have hRd : Box3 w9 R (.int .i64 0) (.slice none 0 0) (.slice none 0 0) := ⟨HS9.out.r.1, x0, x1, x2⟩
                  have hbW := box3_set hRd (.int .i64 0) (.slice a1 m1 c1) (.slice a2 m2 c2)
                  have bW := ((bd.setCell (p := ⟨R, 0, none⟩) hR9.out (.int .i64 0)).setCell (p := ⟨R, 1, none⟩) hR9.out (.slice a1 m1 c1)).setCell (p := ⟨R, 2, none⟩) hR9.out (.slice a2 m2 c2)
                  have hSW : ∀ (p : Addr), p.block ≠ R → (((w9.setCell ⟨R, 0, none⟩ (.int .i64 0)).setCell ⟨R, 1, none⟩ (.slice a1 m1 c1)).setCell ⟨R, 2, none⟩ (.slice a2 m2 c2)).cell? p = w9.cell? p := fun p hp => by
                    rw [World.cell?_setCell_other _ _ _ _ (by intro q; exact hp (congrArg Addr.block q.symm)), World.cell?_setCell_other _ _ _ _ (by intro q; exact hp (congrArg Addr.block q.symm)), World.cell?_setCell_other _ _ _ _ (by intro q; exact hp (congrArg Addr.block q.symm))]
                  have HSW : Hid ((((w9.setCell ⟨R, 0, none⟩ (.int .i64 0)).setCell ⟨R, 1, none⟩ (.slice a1 m1 c1)).setCell ⟨R, 2, none⟩ (.slice a2 m2 c2)).cell? ⟨T, 0, none⟩ = some (.int .i64 0) ∧ (((w9.setCell ⟨R, 0, none⟩ (.int .i64 0)).setCell ⟨R, 1, none⟩ (.slice a1 m1 c1)).setCell ⟨R, 2, none⟩ (.slice a2 m2 c2)).cell? ⟨T, 1, none⟩ = some (.slice a1 m1 c1) ∧ (((w9.setCell ⟨R, 0, none⟩ (.int .i64 0)).setCell ⟨R, 1, none⟩ (.slice a1 m1 c1)).setCell ⟨R, 2, none⟩ (.slice a2 m2 c2)).cell? ⟨T, 2, none⟩ = some (.slice a2 m2 c2) ∧ (((w9.setCell ⟨R, 0, none⟩ (.int .i64 0)).setCell ⟨R, 1, none⟩ (.slice a1 m1 c1)).setCell ⟨R, 2, none⟩ (.slice a2 m2 c2)).cell? ⟨B, 1, none⟩ = some (.int .i64 (j2 : Int))) :=
                    ⟨(hSW _ nTR).trans t0, (hSW _ nTR).trans t1, (hSW _ nTR).trans t2, (hSW _ nBR).trans q1⟩
                  clear hSW
                  obtain ⟨W, HW⟩ : ∃ u, Hid (((w9.setCell ⟨R, 0, none⟩ (.int .i64 0)).setCell ⟨R, 1, none⟩ (.slice a1 m1 c1)).setCell ⟨R, 2, none⟩ (.slice a2 m2 c2) = u) := ⟨_, rfl⟩
                  have hW1 : On (fun k => w.heap.size ≤ k) (((w9.setCell ⟨R, 0, none⟩ (.int .i64 0)).setCell ⟨R, 1, none⟩ (.slice a1 m1 c1)).setCell ⟨R, 2, none⟩ (.slice a2 m2 c2)) (fun w2 => Ints w2 (.slice a1 m1 c1) l1) :=
                    ((hO9a.set (a := ⟨R, 0, none⟩) (by show ¬ (w4.heap.size ≤ R); omega) _).set (a := ⟨R, 1, none⟩) (by show ¬ (w4.heap.size ≤ R); omega) _).set (a := ⟨R, 2, none⟩) (by show ¬ (w4.heap.size ≤ R); omega) _ |>.weaken fun k _ hk => Nat.le_trans hs4 hk
                  have hW2 : On (fun k => w.heap.size ≤ k) (((w9.setCell ⟨R, 0, none⟩ (.int .i64 0)).setCell ⟨R, 1, none⟩ (.slice a1 m1 c1)).setCell ⟨R, 2, none⟩ (.slice a2 m2 c2)) (fun w2 => Ints w2 (.slice a2 m2 c2) l2) :=
                    ((hO9b.set (a := ⟨R, 0, none⟩) (by show ¬ (w7.heap.size ≤ R); omega) _).set (a := ⟨R, 1, none⟩) (by show ¬ (w7.heap.size ≤ R); omega) _).set (a := ⟨R, 2, none⟩) (by show ¬ (w7.heap.size ≤ R); omega) _ |>.weaken fun k _ hk => Nat.le_trans hs7 hk
                  rw [HW.out] at hW1 hW2
                  have F1 : Hid (On (fun k => w.heap.size ≤ k) W.drew (fun w2 => Ints w2 (.slice a1 m1 c1) l1)) := hW1.to (w' := W.drew) (Nat.le_refl _) (fun _ _ _ => rfl)
                  have F2 : Hid (On (fun k => w.heap.size ≤ k) W.drew (fun w2 => Ints w2 (.slice a2 m2 c2) l2)) := hW2.to (w' := W.drew) (Nat.le_refl _) (fun _ _ _ => rfl)
                  clear hW1 hW2 hO9a hO9b
                  rw [HW.out] at hbW bW HSW
                  go_upto_region 11 with fail
                  refine wp_region_held_drew (S := (fun w' => w'.cell? ⟨T, 0, none⟩ = some (.int .i64 0) ∧ w'.cell? ⟨T, 1, none⟩ = some (.slice a1 m1 c1) ∧ w'.cell? ⟨T, 2, none⟩ = some (.slice a2 m2 c2) ∧ w'.cell? ⟨B, 1, none⟩ = some (.int .i64 (j2 : Int)))) (by kernel_rfl) ⟨t0, t1, t2, q1⟩ (fun hH => ?_)
                  refine wpAnyH_take (i := 0) (v := .agg #[.int .i64 0, .slice a1 m1 c1, .slice a2 m2 c2]) rfl (by kernel_rfl) (by kernel_rfl) (by kernel_rfl) (fun _ _ _ h => h) (.inl ⟨by rfl, fun w' hS' => by obtain ⟨s0, s1, s2, s3⟩ := hS'; go_simp⟩) hH ?_
                  simp only [List.getElem_toArray, List.getElem_cons_succ, List.getElem_cons_zero, Act.put, List.setIfInBounds_toArray, List.set_cons_zero, List.set_cons_succ]
                  refine wpAnyH_take (i := 1) (v := .bool true) rfl (by kernel_rfl) (by kernel_rfl) (by kernel_rfl) (fun _ _ _ h => h) (.inl ⟨by rfl, fun _ _ => rfl⟩) hH ?_
                  simp only [List.getElem_toArray, List.getElem_cons_succ, List.getElem_cons_zero, Act.put, List.setIfInBounds_toArray, List.set_cons_zero, List.set_cons_succ]
                  refine wpAnyH_take (i := 2) (v := .bool true) rfl (by kernel_rfl) (by kernel_rfl) (by kernel_rfl) (fun _ _ _ h => h) (.inl ⟨by rfl, fun _ _ => rfl⟩) hH ?_
                  simp only [List.getElem_toArray, List.getElem_cons_succ, List.getElem_cons_zero, Act.put, List.setIfInBounds_toArray, List.set_cons_zero, List.set_cons_succ]
                  refine wpAnyH_take (i := 3) (v := .pointer (some ⟨B, 0, none⟩)) rfl (by kernel_rfl) (by kernel_rfl) (by kernel_rfl) (fun _ _ _ h => h) (.inl ⟨by rfl, fun _ _ => rfl⟩) hH ?_
                  simp only [List.getElem_toArray, List.getElem_cons_succ, List.getElem_cons_zero, Act.put, List.setIfInBounds_toArray, List.set_cons_zero, List.set_cons_succ]
                  refine wpAnyH_take (i := 4) (v := .pointer (some ⟨B, 0, none⟩)) rfl (by kernel_rfl) (by kernel_rfl) (by kernel_rfl) (fun _ _ _ h => h) (.inl ⟨by rfl, fun w' hS' => by first | (go_simp; done) | (go_simp; rfl) | (go_simp; intro h; omega) | (go_simp; omega)⟩) hH ?_
                  simp only [List.getElem_toArray, List.getElem_cons_succ, List.getElem_cons_zero, Act.put, List.setIfInBounds_toArray, List.set_cons_zero, List.set_cons_succ]
                  refine wpAnyH_take (i := 5) (v := .pointer (some ⟨B, 1, none⟩)) rfl (by kernel_rfl) (by kernel_rfl) (by kernel_rfl) (fun _ _ _ h => h) (.inl ⟨by rfl, fun w' hS' => by first | (go_simp; done) | (go_simp; rfl) | (go_simp; intro h; omega) | (go_simp; omega)⟩) hH ?_
                  simp only [List.getElem_toArray, List.getElem_cons_succ, List.getElem_cons_zero, Act.put, List.setIfInBounds_toArray, List.set_cons_zero, List.set_cons_succ]
                  refine wpAnyH_take (i := 6) (v := .int .i64 (j2 : Int)) rfl (by kernel_rfl) (by kernel_rfl) (by kernel_rfl) (fun _ _ _ h => h) (.inl ⟨by rfl, fun w' hS' => by obtain ⟨s0, s1, s2, s3⟩ := hS'; go_simp⟩) hH ?_
                  simp only [List.getElem_toArray, List.getElem_cons_succ, List.getElem_cons_zero, Act.put, List.setIfInBounds_toArray, List.set_cons_zero, List.set_cons_succ]
                  refine wpAnyH_take (i := 7) (v := .string (bs s)) rfl (by kernel_rfl) (by kernel_rfl) (by kernel_rfl) (fun _ _ _ h => h) (.inl ⟨by rfl, fun _ _ => rfl⟩) hH ?_
                  simp only [List.getElem_toArray, List.getElem_cons_succ, List.getElem_cons_zero, Act.put, List.setIfInBounds_toArray, List.set_cons_zero, List.set_cons_succ]
                  refine wpAnyH_take (i := 8) (v := .int .i64 (n : Int)) rfl (by kernel_rfl) (by kernel_rfl) (by kernel_rfl) (fun _ _ _ h => h) (.inl ⟨by rfl, fun w' hS' => by first | (go_simp; done) | (go_simp; rfl) | (go_simp; intro h; omega) | (go_simp; omega)⟩) hH ?_
                  simp only [List.getElem_toArray, List.getElem_cons_succ, List.getElem_cons_zero, Act.put, List.setIfInBounds_toArray, List.set_cons_zero, List.set_cons_succ]
                  refine wpAnyH_take (i := 9) (v := .bool true) rfl (by kernel_rfl) (by kernel_rfl) (by kernel_rfl) (fun _ _ _ h => h) (.inl ⟨by rfl, fun w' hS' => by first | (go_simp; done) | (go_simp; rfl) | (go_simp; intro h; omega) | (go_simp; omega)⟩) hH ?_
                  simp only [List.getElem_toArray, List.getElem_cons_succ, List.getElem_cons_zero, Act.put, List.setIfInBounds_toArray, List.set_cons_zero, List.set_cons_succ]
                  refine wpAnyH_take (i := 10) (v := .bool true) rfl (by kernel_rfl) (by kernel_rfl) (by kernel_rfl) (fun _ _ _ h => h) (.inl ⟨by rfl, fun _ _ => rfl⟩) hH ?_
                  simp only [List.getElem_toArray, List.getElem_cons_succ, List.getElem_cons_zero, Act.put, List.setIfInBounds_toArray, List.set_cons_zero, List.set_cons_succ]
                  refine wpAnyH_ready (rs := [11]) (by kernel_rfl) (by simp) ?_
                  refine AllReadyH.cons rfl (fun K hK => ?_) AllReadyH.nil
                  simp only [List.getElem_toArray, List.getElem_cons_succ, List.getElem_cons_zero]
                  rw [if_pos (by rfl)]
                  go_wp2_with fail
                  rw [HW.out]
                  refine hK.out _ _ HSW.out (fun hH => ?_)
                  clear hK
                  refine wpAnyH_take (i := 12) (v := .bool true) rfl (by kernel_rfl) (by kernel_rfl) (by kernel_rfl) (fun _ _ _ h => h) (.inl ⟨by rfl, fun _ _ => rfl⟩) hH ?_
                  simp only [List.getElem_toArray, List.getElem_cons_succ, List.getElem_cons_zero, Act.put, List.setIfInBounds_toArray, List.set_cons_zero, List.set_cons_succ]
                  refine wpAnyH_done (by kernel_rfl) ?_ _
                  clear hH
                  have hbW2 : Box3 W.drew R (.int .i64 0) (.slice a1 m1 c1) (.slice a2 m2 c2) := ⟨hbW.1, hbW.2.1, hbW.2.2.1, hbW.2.2.2⟩
                  have bW2 := bW.drew
                  obtain ⟨W2, HW2⟩ : ∃ u, Hid (W.drew = u) := ⟨_, rfl⟩
                  rw [HW2.out] at hbW2 bW2 F1 F2
                  rw [HW2.out]
                  clear t0 t1 t2 q1 x0 x1 x2 g0 g1 g2 HSW
                  go_wp2
                  exact bodyPost_ret (v := .tuple #[.agg #[.int .i64 0, .slice a1 m1 c1, .slice a2 m2 c2], .bool true]) (results_tran rfl rfl rfl hbW2.2.1 hbW2.2.2.1 hbW2.2.2.2) rfl ⟨⟨_, _, _, _, _, _, _, _, rfl, .inl ⟨rfl, _, rfl, HL.out, F1.out, F2.out⟩⟩, bW2⟩
                · have n5 : ((j2 : Int) == (n : Int)) = false := by rw [beq_eq_false_iff_ne]; omega
                  have Hbad : Hid (LineIs P s noTran false) := oline_end Hu1.out Hu2.out (by intro q; have hl := congrArg List.length q; rw [List.length_drop, Hn.out, List.length_nil] at hl; omega)
                  clear hend
                  have HS9 : Hid (TrSt w w9 B T R s j2 0 (.slice a1 m1 c1) (.slice a2 m2 c2)) := hSt9
                  obtain ⟨_, t0, t1, t2⟩ := id HS9.out.t
                  obtain ⟨_, _, q1⟩ := id HS9.out.rd.box
                  obtain ⟨_, x0, x1, x2⟩ := id HS9.out.r
                  have g0 := HS9.out.rf 0
                  have g1 := HS9.out.rf 1
                  have g2 := HS9.out.rf 2
                  have bd := HS9.out.b
                  have nTR := HS9.out.ne.2.2.1
                  have nBR := HS9.out.ne.2.1
                  have hRd : Box3 w9 R (.int .i64 0) (.slice none 0 0) (.slice none 0 0) := ⟨HS9.out.r.1, x0, x1, x2⟩
                  have hbW := box3_set hRd (.int .i64 0) (.slice a1 m1 c1) (.slice a2 m2 c2)
                  have bW := ((bd.setCell (p := ⟨R, 0, none⟩) hR9.out (.int .i64 0)).setCell (p := ⟨R, 1, none⟩) hR9.out (.slice a1 m1 c1)).setCell (p := ⟨R, 2, none⟩) hR9.out (.slice a2 m2 c2)
                  have hSW : ∀ (p : Addr), p.block ≠ R → (((w9.setCell ⟨R, 0, none⟩ (.int .i64 0)).setCell ⟨R, 1, none⟩ (.slice a1 m1 c1)).setCell ⟨R, 2, none⟩ (.slice a2 m2 c2)).cell? p = w9.cell? p := fun p hp => by
                    rw [World.cell?_setCell_other _ _ _ _ (by intro q; exact hp (congrArg Addr.block q.symm)), World.cell?_setCell_other _ _ _ _ (by intro q; exact hp (congrArg Addr.block q.symm)), World.cell?_setCell_other _ _ _ _ (by intro q; exact hp (congrArg Addr.block q.symm))]
                  have HSW : Hid ((((w9.setCell ⟨R, 0, none⟩ (.int .i64 0)).setCell ⟨R, 1, none⟩ (.slice a1 m1 c1)).setCell ⟨R, 2, none⟩ (.slice a2 m2 c2)).cell? ⟨T, 0, none⟩ = some (.int .i64 0) ∧ (((w9.setCell ⟨R, 0, none⟩ (.int .i64 0)).setCell ⟨R, 1, none⟩ (.slice a1 m1 c1)).setCell ⟨R, 2, none⟩ (.slice a2 m2 c2)).cell? ⟨T, 1, none⟩ = some (.slice a1 m1 c1) ∧ (((w9.setCell ⟨R, 0, none⟩ (.int .i64 0)).setCell ⟨R, 1, none⟩ (.slice a1 m1 c1)).setCell ⟨R, 2, none⟩ (.slice a2 m2 c2)).cell? ⟨T, 2, none⟩ = some (.slice a2 m2 c2) ∧ (((w9.setCell ⟨R, 0, none⟩ (.int .i64 0)).setCell ⟨R, 1, none⟩ (.slice a1 m1 c1)).setCell ⟨R, 2, none⟩ (.slice a2 m2 c2)).cell? ⟨B, 1, none⟩ = some (.int .i64 (j2 : Int))) :=
                    ⟨(hSW _ nTR).trans t0, (hSW _ nTR).trans t1, (hSW _ nTR).trans t2, (hSW _ nBR).trans q1⟩
                  clear hSW
                  obtain ⟨W, HW⟩ : ∃ u, Hid (((w9.setCell ⟨R, 0, none⟩ (.int .i64 0)).setCell ⟨R, 1, none⟩ (.slice a1 m1 c1)).setCell ⟨R, 2, none⟩ (.slice a2 m2 c2) = u) := ⟨_, rfl⟩
                  have hnone : True := trivial
                  rw [HW.out] at hbW bW HSW
                  go_upto_region 11 with fail
                  refine wp_region_held_drew (S := (fun w' => w'.cell? ⟨T, 0, none⟩ = some (.int .i64 0) ∧ w'.cell? ⟨T, 1, none⟩ = some (.slice a1 m1 c1) ∧ w'.cell? ⟨T, 2, none⟩ = some (.slice a2 m2 c2) ∧ w'.cell? ⟨B, 1, none⟩ = some (.int .i64 (j2 : Int)))) (by kernel_rfl) ⟨t0, t1, t2, q1⟩ (fun hH => ?_)
                  refine wpAnyH_take (i := 0) (v := .agg #[.int .i64 0, .slice a1 m1 c1, .slice a2 m2 c2]) rfl (by kernel_rfl) (by kernel_rfl) (by kernel_rfl) (fun _ _ _ h => h) (.inl ⟨by rfl, fun w' hS' => by obtain ⟨s0, s1, s2, s3⟩ := hS'; go_simp⟩) hH ?_
                  simp only [List.getElem_toArray, List.getElem_cons_succ, List.getElem_cons_zero, Act.put, List.setIfInBounds_toArray, List.set_cons_zero, List.set_cons_succ]
                  refine wpAnyH_take (i := 1) (v := .bool true) rfl (by kernel_rfl) (by kernel_rfl) (by kernel_rfl) (fun _ _ _ h => h) (.inl ⟨by rfl, fun _ _ => rfl⟩) hH ?_
                  simp only [List.getElem_toArray, List.getElem_cons_succ, List.getElem_cons_zero, Act.put, List.setIfInBounds_toArray, List.set_cons_zero, List.set_cons_succ]
                  refine wpAnyH_take (i := 2) (v := .bool true) rfl (by kernel_rfl) (by kernel_rfl) (by kernel_rfl) (fun _ _ _ h => h) (.inl ⟨by rfl, fun _ _ => rfl⟩) hH ?_
                  simp only [List.getElem_toArray, List.getElem_cons_succ, List.getElem_cons_zero, Act.put, List.setIfInBounds_toArray, List.set_cons_zero, List.set_cons_succ]
                  refine wpAnyH_take (i := 3) (v := .pointer (some ⟨B, 0, none⟩)) rfl (by kernel_rfl) (by kernel_rfl) (by kernel_rfl) (fun _ _ _ h => h) (.inl ⟨by rfl, fun _ _ => rfl⟩) hH ?_
                  simp only [List.getElem_toArray, List.getElem_cons_succ, List.getElem_cons_zero, Act.put, List.setIfInBounds_toArray, List.set_cons_zero, List.set_cons_succ]
                  refine wpAnyH_take (i := 4) (v := .pointer (some ⟨B, 0, none⟩)) rfl (by kernel_rfl) (by kernel_rfl) (by kernel_rfl) (fun _ _ _ h => h) (.inl ⟨by rfl, fun w' hS' => by first | (go_simp; done) | (go_simp; rfl) | (go_simp; intro h; omega) | (go_simp; omega)⟩) hH ?_
                  simp only [List.getElem_toArray, List.getElem_cons_succ, List.getElem_cons_zero, Act.put, List.setIfInBounds_toArray, List.set_cons_zero, List.set_cons_succ]
                  refine wpAnyH_take (i := 5) (v := .pointer (some ⟨B, 1, none⟩)) rfl (by kernel_rfl) (by kernel_rfl) (by kernel_rfl) (fun _ _ _ h => h) (.inl ⟨by rfl, fun w' hS' => by first | (go_simp; done) | (go_simp; rfl) | (go_simp; intro h; omega) | (go_simp; omega)⟩) hH ?_
                  simp only [List.getElem_toArray, List.getElem_cons_succ, List.getElem_cons_zero, Act.put, List.setIfInBounds_toArray, List.set_cons_zero, List.set_cons_succ]
                  refine wpAnyH_take (i := 6) (v := .int .i64 (j2 : Int)) rfl (by kernel_rfl) (by kernel_rfl) (by kernel_rfl) (fun _ _ _ h => h) (.inl ⟨by rfl, fun w' hS' => by obtain ⟨s0, s1, s2, s3⟩ := hS'; go_simp⟩) hH ?_
                  simp only [List.getElem_toArray, List.getElem_cons_succ, List.getElem_cons_zero, Act.put, List.setIfInBounds_toArray, List.set_cons_zero, List.set_cons_succ]
                  refine wpAnyH_take (i := 7) (v := .string (bs s)) rfl (by kernel_rfl) (by kernel_rfl) (by kernel_rfl) (fun _ _ _ h => h) (.inl ⟨by rfl, fun _ _ => rfl⟩) hH ?_
                  simp only [List.getElem_toArray, List.getElem_cons_succ, List.getElem_cons_zero, Act.put, List.setIfInBounds_toArray, List.set_cons_zero, List.set_cons_succ]
                  refine wpAnyH_take (i := 8) (v := .int .i64 (n : Int)) rfl (by kernel_rfl) (by kernel_rfl) (by kernel_rfl) (fun _ _ _ h => h) (.inl ⟨by rfl, fun w' hS' => by first | (go_simp; done) | (go_simp; rfl) | (go_simp; intro h; omega) | (go_simp; omega)⟩) hH ?_
                  simp only [List.getElem_toArray, List.getElem_cons_succ, List.getElem_cons_zero, Act.put, List.setIfInBounds_toArray, List.set_cons_zero, List.set_cons_succ]
                  refine wpAnyH_take (i := 9) (v := .bool false) rfl (by kernel_rfl) (by kernel_rfl) (by kernel_rfl) (fun _ _ _ h => h) (.inl ⟨by rfl, fun w' hS' => by first | (go_simp; done) | (go_simp; rfl) | (go_simp; intro h; omega) | (go_simp; omega)⟩) hH ?_
                  simp only [List.getElem_toArray, List.getElem_cons_succ, List.getElem_cons_zero, Act.put, List.setIfInBounds_toArray, List.set_cons_zero, List.set_cons_succ]
                  refine wpAnyH_take (i := 10) (v := .bool false) rfl (by kernel_rfl) (by kernel_rfl) (by kernel_rfl) (fun _ _ _ h => h) (.inl ⟨by rfl, fun _ _ => rfl⟩) hH ?_
                  simp only [List.getElem_toArray, List.getElem_cons_succ, List.getElem_cons_zero, Act.put, List.setIfInBounds_toArray, List.set_cons_zero, List.set_cons_succ]
                  refine wpAnyH_ready (rs := [11]) (by kernel_rfl) (by simp) ?_
                  refine AllReadyH.cons rfl (fun K hK => ?_) AllReadyH.nil
                  simp only [List.getElem_toArray, List.getElem_cons_succ, List.getElem_cons_zero]
                  rw [if_pos (by rfl)]
                  go_wp2_with fail
                  rw [HW.out]
                  refine hK.out _ _ HSW.out (fun hH => ?_)
                  clear hK
                  refine wpAnyH_take (i := 12) (v := .bool false) rfl (by kernel_rfl) (by kernel_rfl) (by kernel_rfl) (fun _ _ _ h => h) (.inl ⟨by rfl, fun _ _ => rfl⟩) hH ?_
                  simp only [List.getElem_toArray, List.getElem_cons_succ, List.getElem_cons_zero, Act.put, List.setIfInBounds_toArray, List.set_cons_zero, List.set_cons_succ]
                  refine wpAnyH_done (by kernel_rfl) ?_ _
                  clear hH
                  have hbW2 : Box3 W.drew R (.int .i64 0) (.slice a1 m1 c1) (.slice a2 m2 c2) := ⟨hbW.1, hbW.2.1, hbW.2.2.1, hbW.2.2.2⟩
                  have bW2 := bW.drew
                  obtain ⟨W2, HW2⟩ : ∃ u, Hid (W.drew = u) := ⟨_, rfl⟩
                  rw [HW2.out] at hbW2 bW2 
                  rw [HW2.out]
                  clear t0 t1 t2 q1 x0 x1 x2 g0 g1 g2 HSW
                  go_wp2
                  exact bodyPost_ret (v := .tuple #[.agg #[.int .i64 0, .slice a1 m1 c1, .slice a2 m2 c2], .bool false]) (results_tran rfl rfl rfl hbW2.2.1 hbW2.2.2.1 hbW2.2.2.2) rfl ⟨otran_bad Hbad.out, bW2⟩
              · have Hbad : Hid (LineIs P s noTran false) := oline_side2 Hu1.out hno2
                have hSt9 := hSt8.set2 (.slice none 0 0)
                obtain ⟨w9, H9⟩ : ∃ u, Hid (w8.setCell ⟨T, 2, none⟩ (.slice none 0 0) = u) := ⟨_, rfl⟩
                rw [H9.out] at hSt9
                rw [H9.out]
                clear hSi hR8 hO8 hSt8 hSt7 u2 uf2 hno2
                have HS9 : Hid (TrSt w w9 B T R s j2 0 (.slice a1 m1 c1) (.slice none 0 0)) := hSt9
                obtain ⟨_, t0, t1, t2⟩ := id HS9.out.t
                obtain ⟨_, _, q1⟩ := id HS9.out.rd.box
                obtain ⟨_, x0, x1, x2⟩ := id HS9.out.r
                have g0 := HS9.out.rf 0
                have g1 := HS9.out.rf 1
                have g2 := HS9.out.rf 2
                have bd := HS9.out.b
                have nTR := HS9.out.ne.2.2.1
                have nBR := HS9.out.ne.2.1
                have hRd : Box3 w9 R (.int .i64 0) (.slice none 0 0) (.slice none 0 0) := ⟨HS9.out.r.1, x0, x1, x2⟩
                have hbW := box3_set hRd (.int .i64 0) (.slice a1 m1 c1) (.slice none 0 0)
                have bW := ((bd.setCell (p := ⟨R, 0, none⟩) hR9.out (.int .i64 0)).setCell (p := ⟨R, 1, none⟩) hR9.out (.slice a1 m1 c1)).setCell (p := ⟨R, 2, none⟩) hR9.out (.slice none 0 0)
                have hSW : ∀ (p : Addr), p.block ≠ R → (((w9.setCell ⟨R, 0, none⟩ (.int .i64 0)).setCell ⟨R, 1, none⟩ (.slice a1 m1 c1)).setCell ⟨R, 2, none⟩ (.slice none 0 0)).cell? p = w9.cell? p := fun p hp => by
                  rw [World.cell?_setCell_other _ _ _ _ (by intro q; exact hp (congrArg Addr.block q.symm)), World.cell?_setCell_other _ _ _ _ (by intro q; exact hp (congrArg Addr.block q.symm)), World.cell?_setCell_other _ _ _ _ (by intro q; exact hp (congrArg Addr.block q.symm))]
                have HSW : Hid ((((w9.setCell ⟨R, 0, none⟩ (.int .i64 0)).setCell ⟨R, 1, none⟩ (.slice a1 m1 c1)).setCell ⟨R, 2, none⟩ (.slice none 0 0)).cell? ⟨T, 0, none⟩ = some (.int .i64 0) ∧ (((w9.setCell ⟨R, 0, none⟩ (.int .i64 0)).setCell ⟨R, 1, none⟩ (.slice a1 m1 c1)).setCell ⟨R, 2, none⟩ (.slice none 0 0)).cell? ⟨T, 1, none⟩ = some (.slice a1 m1 c1) ∧ (((w9.setCell ⟨R, 0, none⟩ (.int .i64 0)).setCell ⟨R, 1, none⟩ (.slice a1 m1 c1)).setCell ⟨R, 2, none⟩ (.slice none 0 0)).cell? ⟨T, 2, none⟩ = some (.slice none 0 0) ∧ (((w9.setCell ⟨R, 0, none⟩ (.int .i64 0)).setCell ⟨R, 1, none⟩ (.slice a1 m1 c1)).setCell ⟨R, 2, none⟩ (.slice none 0 0)).cell? ⟨B, 1, none⟩ = some (.int .i64 (j2 : Int))) :=
                  ⟨(hSW _ nTR).trans t0, (hSW _ nTR).trans t1, (hSW _ nTR).trans t2, (hSW _ nBR).trans q1⟩
                clear hSW
                obtain ⟨W, HW⟩ : ∃ u, Hid (((w9.setCell ⟨R, 0, none⟩ (.int .i64 0)).setCell ⟨R, 1, none⟩ (.slice a1 m1 c1)).setCell ⟨R, 2, none⟩ (.slice none 0 0) = u) := ⟨_, rfl⟩
                have hnone : True := trivial
                rw [HW.out] at hbW bW HSW
                go_upto_region 11 with fail
                refine wp_region_held_drew (S := (fun w' => w'.cell? ⟨T, 0, none⟩ = some (.int .i64 0) ∧ w'.cell? ⟨T, 1, none⟩ = some (.slice a1 m1 c1) ∧ w'.cell? ⟨T, 2, none⟩ = some (.slice none 0 0) ∧ w'.cell? ⟨B, 1, none⟩ = some (.int .i64 (j2 : Int)))) (by kernel_rfl) ⟨t0, t1, t2, q1⟩ (fun hH => ?_)
                refine wpAnyH_take (i := 0) (v := .agg #[.int .i64 0, .slice a1 m1 c1, .slice none 0 0]) rfl (by kernel_rfl) (by kernel_rfl) (by kernel_rfl) (fun _ _ _ h => h) (.inl ⟨by rfl, fun w' hS' => by obtain ⟨s0, s1, s2, s3⟩ := hS'; go_simp⟩) hH ?_
                simp only [List.getElem_toArray, List.getElem_cons_succ, List.getElem_cons_zero, Act.put, List.setIfInBounds_toArray, List.set_cons_zero, List.set_cons_succ]
                refine wpAnyH_take (i := 1) (v := .bool false) rfl (by kernel_rfl) (by kernel_rfl) (by kernel_rfl) (fun _ _ _ h => h) (.inl ⟨by rfl, fun _ _ => rfl⟩) hH ?_
                simp only [List.getElem_toArray, List.getElem_cons_succ, List.getElem_cons_zero, Act.put, List.setIfInBounds_toArray, List.set_cons_zero, List.set_cons_succ]
                refine wpAnyH_take (i := 2) (v := .bool false) rfl (by kernel_rfl) (by kernel_rfl) (by kernel_rfl) (fun _ _ _ h => h) (.inl ⟨by rfl, fun _ _ => rfl⟩) hH ?_
                simp only [List.getElem_toArray, List.getElem_cons_succ, List.getElem_cons_zero, Act.put, List.setIfInBounds_toArray, List.set_cons_zero, List.set_cons_succ]
                refine wpAnyH_take (i := 3) (v := undef) rfl (by kernel_rfl) (by kernel_rfl) (by kernel_rfl) (fun _ _ _ h => h) (.inr ⟨by rfl, rfl⟩) hH ?_
                simp only [List.getElem_toArray, List.getElem_cons_succ, List.getElem_cons_zero, Act.put, List.setIfInBounds_toArray, List.set_cons_zero, List.set_cons_succ]
                refine wpAnyH_take (i := 4) (v := undef) rfl (by kernel_rfl) (by kernel_rfl) (by kernel_rfl) (fun _ _ _ h => h) (.inr ⟨by rfl, rfl⟩) hH ?_
                simp only [List.getElem_toArray, List.getElem_cons_succ, List.getElem_cons_zero, Act.put, List.setIfInBounds_toArray, List.set_cons_zero, List.set_cons_succ]
                refine wpAnyH_take (i := 5) (v := undef) rfl (by kernel_rfl) (by kernel_rfl) (by kernel_rfl) (fun _ _ _ h => h) (.inr ⟨by rfl, rfl⟩) hH ?_
                simp only [List.getElem_toArray, List.getElem_cons_succ, List.getElem_cons_zero, Act.put, List.setIfInBounds_toArray, List.set_cons_zero, List.set_cons_succ]
                refine wpAnyH_take (i := 6) (v := undef) rfl (by kernel_rfl) (by kernel_rfl) (by kernel_rfl) (fun _ _ _ h => h) (.inr ⟨by rfl, rfl⟩) hH ?_
                simp only [List.getElem_toArray, List.getElem_cons_succ, List.getElem_cons_zero, Act.put, List.setIfInBounds_toArray, List.set_cons_zero, List.set_cons_succ]
                refine wpAnyH_take (i := 7) (v := undef) rfl (by kernel_rfl) (by kernel_rfl) (by kernel_rfl) (fun _ _ _ h => h) (.inr ⟨by rfl, rfl⟩) hH ?_
                simp only [List.getElem_toArray, List.getElem_cons_succ, List.getElem_cons_zero, Act.put, List.setIfInBounds_toArray, List.set_cons_zero, List.set_cons_succ]
                refine wpAnyH_take (i := 8) (v := undef) rfl (by kernel_rfl) (by kernel_rfl) (by kernel_rfl) (fun _ _ _ h => h) (.inr ⟨by rfl, rfl⟩) hH ?_
                simp only [List.getElem_toArray, List.getElem_cons_succ, List.getElem_cons_zero, Act.put, List.setIfInBounds_toArray, List.set_cons_zero, List.set_cons_succ]
                refine wpAnyH_take (i := 9) (v := undef) rfl (by kernel_rfl) (by kernel_rfl) (by kernel_rfl) (fun _ _ _ h => h) (.inr ⟨by rfl, rfl⟩) hH ?_
                simp only [List.getElem_toArray, List.getElem_cons_succ, List.getElem_cons_zero, Act.put, List.setIfInBounds_toArray, List.set_cons_zero, List.set_cons_succ]
                refine wpAnyH_take (i := 10) (v := .bool false) rfl (by kernel_rfl) (by kernel_rfl) (by kernel_rfl) (fun _ _ _ h => h) (.inl ⟨by rfl, fun _ _ => rfl⟩) hH ?_
                simp only [List.getElem_toArray, List.getElem_cons_succ, List.getElem_cons_zero, Act.put, List.setIfInBounds_toArray, List.set_cons_zero, List.set_cons_succ]
                refine wpAnyH_ready (rs := [11]) (by kernel_rfl) (by simp) ?_
                refine AllReadyH.cons rfl (fun K hK => ?_) AllReadyH.nil
                simp only [List.getElem_toArray, List.getElem_cons_succ, List.getElem_cons_zero]
                rw [if_pos (by rfl)]
                go_wp2_with fail
                rw [HW.out]
                refine hK.out _ _ HSW.out (fun hH => ?_)
                clear hK
                refine wpAnyH_take (i := 12) (v := .bool false) rfl (by kernel_rfl) (by kernel_rfl) (by kernel_rfl) (fun _ _ _ h => h) (.inl ⟨by rfl, fun _ _ => rfl⟩) hH ?_
                simp only [List.getElem_toArray, List.getElem_cons_succ, List.getElem_cons_zero, Act.put, List.setIfInBounds_toArray, List.set_cons_zero, List.set_cons_succ]
                refine wpAnyH_done (by kernel_rfl) ?_ _
                clear hH
                have hbW2 : Box3 W.drew R (.int .i64 0) (.slice a1 m1 c1) (.slice none 0 0) := ⟨hbW.1, hbW.2.1, hbW.2.2.1, hbW.2.2.2⟩
                have bW2 := bW.drew
                obtain ⟨W2, HW2⟩ : ∃ u, Hid (W.drew = u) := ⟨_, rfl⟩
                rw [HW2.out] at hbW2 bW2 
                rw [HW2.out]
                clear t0 t1 t2 q1 x0 x1 x2 g0 g1 g2 HSW
                go_wp2
                exact bodyPost_ret (v := .tuple #[.agg #[.int .i64 0, .slice a1 m1 c1, .slice none 0 0], .bool false]) (results_tran rfl rfl rfl hbW2.2.1 hbW2.2.2.1 hbW2.2.2.2) rfl ⟨otran_bad Hbad.out, bW2⟩
            · have Hbad : Hid (LineIs P s noTran false) := oline_two Hu1.out hp
              go_upto_region 11 with (go_at_call 24; refine hSk.mono ?_; rintro e w7 ⟨hSk2, hO7⟩; obtain ⟨rfl, hR7⟩ := skip_no hSk2 hp)
              have hSt9 := hSt6.only hO7 hR7
              clear hSk hSk2 hp hO7 hR7 hSt6 hOn6
              have HS9 : Hid (TrSt w w7 B T R s j1 0 (.slice a1 m1 c1) (.slice none 0 0)) := hSt9
              obtain ⟨_, t0, t1, t2⟩ := id HS9.out.t
              obtain ⟨_, _, q1⟩ := id HS9.out.rd.box
              obtain ⟨_, x0, x1, x2⟩ := id HS9.out.r
              have g0 := HS9.out.rf 0
              have g1 := HS9.out.rf 1
              have g2 := HS9.out.rf 2
              have bd := HS9.out.b
              have nTR := HS9.out.ne.2.2.1
              have nBR := HS9.out.ne.2.1
              have hRd : Box3 w7 R (.int .i64 0) (.slice none 0 0) (.slice none 0 0) := ⟨HS9.out.r.1, x0, x1, x2⟩
              have hbW := box3_set hRd (.int .i64 0) (.slice a1 m1 c1) (.slice none 0 0)
              have bW := ((bd.setCell (p := ⟨R, 0, none⟩) hR9.out (.int .i64 0)).setCell (p := ⟨R, 1, none⟩) hR9.out (.slice a1 m1 c1)).setCell (p := ⟨R, 2, none⟩) hR9.out (.slice none 0 0)
              have hSW : ∀ (p : Addr), p.block ≠ R → (((w7.setCell ⟨R, 0, none⟩ (.int .i64 0)).setCell ⟨R, 1, none⟩ (.slice a1 m1 c1)).setCell ⟨R, 2, none⟩ (.slice none 0 0)).cell? p = w7.cell? p := fun p hp => by
                rw [World.cell?_setCell_other _ _ _ _ (by intro q; exact hp (congrArg Addr.block q.symm)), World.cell?_setCell_other _ _ _ _ (by intro q; exact hp (congrArg Addr.block q.symm)), World.cell?_setCell_other _ _ _ _ (by intro q; exact hp (congrArg Addr.block q.symm))]
              have HSW : Hid ((((w7.setCell ⟨R, 0, none⟩ (.int .i64 0)).setCell ⟨R, 1, none⟩ (.slice a1 m1 c1)).setCell ⟨R, 2, none⟩ (.slice none 0 0)).cell? ⟨T, 0, none⟩ = some (.int .i64 0) ∧ (((w7.setCell ⟨R, 0, none⟩ (.int .i64 0)).setCell ⟨R, 1, none⟩ (.slice a1 m1 c1)).setCell ⟨R, 2, none⟩ (.slice none 0 0)).cell? ⟨T, 1, none⟩ = some (.slice a1 m1 c1) ∧ (((w7.setCell ⟨R, 0, none⟩ (.int .i64 0)).setCell ⟨R, 1, none⟩ (.slice a1 m1 c1)).setCell ⟨R, 2, none⟩ (.slice none 0 0)).cell? ⟨T, 2, none⟩ = some (.slice none 0 0) ∧ (((w7.setCell ⟨R, 0, none⟩ (.int .i64 0)).setCell ⟨R, 1, none⟩ (.slice a1 m1 c1)).setCell ⟨R, 2, none⟩ (.slice none 0 0)).cell? ⟨B, 1, none⟩ = some (.int .i64 (j1 : Int))) :=
                ⟨(hSW _ nTR).trans t0, (hSW _ nTR).trans t1, (hSW _ nTR).trans t2, (hSW _ nBR).trans q1⟩
              clear hSW
              obtain ⟨W, HW⟩ : ∃ u, Hid (((w7.setCell ⟨R, 0, none⟩ (.int .i64 0)).setCell ⟨R, 1, none⟩ (.slice a1 m1 c1)).setCell ⟨R, 2, none⟩ (.slice none 0 0) = u) := ⟨_, rfl⟩
              have hnone : True := trivial
              rw [HW.out] at hbW bW HSW
              go_upto_region 11 with fail
              refine wp_region_held_drew (S := (fun w' => w'.cell? ⟨T, 0, none⟩ = some (.int .i64 0) ∧ w'.cell? ⟨T, 1, none⟩ = some (.slice a1 m1 c1) ∧ w'.cell? ⟨T, 2, none⟩ = some (.slice none 0 0) ∧ w'.cell? ⟨B, 1, none⟩ = some (.int .i64 (j1 : Int)))) (by kernel_rfl) ⟨t0, t1, t2, q1⟩ (fun hH => ?_)
              refine wpAnyH_take (i := 0) (v := .agg #[.int .i64 0, .slice a1 m1 c1, .slice none 0 0]) rfl (by kernel_rfl) (by kernel_rfl) (by kernel_rfl) (fun _ _ _ h => h) (.inl ⟨by rfl, fun w' hS' => by obtain ⟨s0, s1, s2, s3⟩ := hS'; go_simp⟩) hH ?_
              simp only [List.getElem_toArray, List.getElem_cons_succ, List.getElem_cons_zero, Act.put, List.setIfInBounds_toArray, List.set_cons_zero, List.set_cons_succ]
              refine wpAnyH_take (i := 1) (v := .bool false) rfl (by kernel_rfl) (by kernel_rfl) (by kernel_rfl) (fun _ _ _ h => h) (.inl ⟨by rfl, fun _ _ => rfl⟩) hH ?_
              simp only [List.getElem_toArray, List.getElem_cons_succ, List.getElem_cons_zero, Act.put, List.setIfInBounds_toArray, List.set_cons_zero, List.set_cons_succ]
              refine wpAnyH_take (i := 2) (v := .bool false) rfl (by kernel_rfl) (by kernel_rfl) (by kernel_rfl) (fun _ _ _ h => h) (.inl ⟨by rfl, fun _ _ => rfl⟩) hH ?_
              simp only [List.getElem_toArray, List.getElem_cons_succ, List.getElem_cons_zero, Act.put, List.setIfInBounds_toArray, List.set_cons_zero, List.set_cons_succ]
              refine wpAnyH_take (i := 3) (v := undef) rfl (by kernel_rfl) (by kernel_rfl) (by kernel_rfl) (fun _ _ _ h => h) (.inr ⟨by rfl, rfl⟩) hH ?_
              simp only [List.getElem_toArray, List.getElem_cons_succ, List.getElem_cons_zero, Act.put, List.setIfInBounds_toArray, List.set_cons_zero, List.set_cons_succ]
              refine wpAnyH_take (i := 4) (v := undef) rfl (by kernel_rfl) (by kernel_rfl) (by kernel_rfl) (fun _ _ _ h => h) (.inr ⟨by rfl, rfl⟩) hH ?_
              simp only [List.getElem_toArray, List.getElem_cons_succ, List.getElem_cons_zero, Act.put, List.setIfInBounds_toArray, List.set_cons_zero, List.set_cons_succ]
              refine wpAnyH_take (i := 5) (v := undef) rfl (by kernel_rfl) (by kernel_rfl) (by kernel_rfl) (fun _ _ _ h => h) (.inr ⟨by rfl, rfl⟩) hH ?_
              simp only [List.getElem_toArray, List.getElem_cons_succ, List.getElem_cons_zero, Act.put, List.setIfInBounds_toArray, List.set_cons_zero, List.set_cons_succ]
              refine wpAnyH_take (i := 6) (v := undef) rfl (by kernel_rfl) (by kernel_rfl) (by kernel_rfl) (fun _ _ _ h => h) (.inr ⟨by rfl, rfl⟩) hH ?_
              simp only [List.getElem_toArray, List.getElem_cons_succ, List.getElem_cons_zero, Act.put, List.setIfInBounds_toArray, List.set_cons_zero, List.set_cons_succ]
              refine wpAnyH_take (i := 7) (v := undef) rfl (by kernel_rfl) (by kernel_rfl) (by kernel_rfl) (fun _ _ _ h => h) (.inr ⟨by rfl, rfl⟩) hH ?_
              simp only [List.getElem_toArray, List.getElem_cons_succ, List.getElem_cons_zero, Act.put, List.setIfInBounds_toArray, List.set_cons_zero, List.set_cons_succ]
              refine wpAnyH_take (i := 8) (v := undef) rfl (by kernel_rfl) (by kernel_rfl) (by kernel_rfl) (fun _ _ _ h => h) (.inr ⟨by rfl, rfl⟩) hH ?_
              simp only [List.getElem_toArray, List.getElem_cons_succ, List.getElem_cons_zero, Act.put, List.setIfInBounds_toArray, List.set_cons_zero, List.set_cons_succ]
              refine wpAnyH_take (i := 9) (v := undef) rfl (by kernel_rfl) (by kernel_rfl) (by kernel_rfl) (fun _ _ _ h => h) (.inr ⟨by rfl, rfl⟩) hH ?_
              simp only [List.getElem_toArray, List.getElem_cons_succ, List.getElem_cons_zero, Act.put, List.setIfInBounds_toArray, List.set_cons_zero, List.set_cons_succ]
              refine wpAnyH_take (i := 10) (v := .bool false) rfl (by kernel_rfl) (by kernel_rfl) (by kernel_rfl) (fun _ _ _ h => h) (.inl ⟨by rfl, fun _ _ => rfl⟩) hH ?_
              simp only [List.getElem_toArray, List.getElem_cons_succ, List.getElem_cons_zero, Act.put, List.setIfInBounds_toArray, List.set_cons_zero, List.set_cons_succ]
              refine wpAnyH_ready (rs := [11]) (by kernel_rfl) (by simp) ?_
              refine AllReadyH.cons rfl (fun K hK => ?_) AllReadyH.nil
              simp only [List.getElem_toArray, List.getElem_cons_succ, List.getElem_cons_zero]
              rw [if_pos (by rfl)]
              go_wp2_with fail
              rw [HW.out]
              refine hK.out _ _ HSW.out (fun hH => ?_)
              clear hK
              refine wpAnyH_take (i := 12) (v := .bool false) rfl (by kernel_rfl) (by kernel_rfl) (by kernel_rfl) (fun _ _ _ h => h) (.inl ⟨by rfl, fun _ _ => rfl⟩) hH ?_
              simp only [List.getElem_toArray, List.getElem_cons_succ, List.getElem_cons_zero, Act.put, List.setIfInBounds_toArray, List.set_cons_zero, List.set_cons_succ]
              refine wpAnyH_done (by kernel_rfl) ?_ _
              clear hH
              have hbW2 : Box3 W.drew R (.int .i64 0) (.slice a1 m1 c1) (.slice none 0 0) := ⟨hbW.1, hbW.2.1, hbW.2.2.1, hbW.2.2.2⟩
              have bW2 := bW.drew
              obtain ⟨W2, HW2⟩ : ∃ u, Hid (W.drew = u) := ⟨_, rfl⟩
              rw [HW2.out] at hbW2 bW2 
              rw [HW2.out]
              clear t0 t1 t2 q1 x0 x1 x2 g0 g1 g2 HSW
              go_wp2
              exact bodyPost_ret (v := .tuple #[.agg #[.int .i64 0, .slice a1 m1 c1, .slice none 0 0], .bool false]) (results_tran rfl rfl rfl hbW2.2.1 hbW2.2.2.1 hbW2.2.2.2) rfl ⟨otran_bad Hbad.out, bW2⟩
          · have Hbad : Hid (LineIs P s noTran false) := oline_side1 hno1
            have hSt6 := hSt5.set1 (.slice none 0 0)
            obtain ⟨w6, H6⟩ : ∃ u, Hid (w5.setCell ⟨T, 1, none⟩ (.slice none 0 0) = u) := ⟨_, rfl⟩
            rw [H6.out] at hSt6
            rw [H6.out]
            clear hSi hR5 hO5 hSt5 hSt4 u1 uf1 hno1
            have HS9 : Hid (TrSt w w6 B T R s j1 0 (.slice none 0 0) (.slice none 0 0)) := hSt6
            obtain ⟨_, t0, t1, t2⟩ := id HS9.out.t
            obtain ⟨_, _, q1⟩ := id HS9.out.rd.box
            obtain ⟨_, x0, x1, x2⟩ := id HS9.out.r
            have g0 := HS9.out.rf 0
            have g1 := HS9.out.rf 1
            have g2 := HS9.out.rf 2
            have bd := HS9.out.b
            have nTR := HS9.out.ne.2.2.1
            have nBR := HS9.out.ne.2.1
            have hRd : Box3 w6 R (.int .i64 0) (.slice none 0 0) (.slice none 0 0) := ⟨HS9.out.r.1, x0, x1, x2⟩
            have hbW := box3_set hRd (.int .i64 0) (.slice none 0 0) (.slice none 0 0)
            have bW := ((bd.setCell (p := ⟨R, 0, none⟩) hR9.out (.int .i64 0)).setCell (p := ⟨R, 1, none⟩) hR9.out (.slice none 0 0)).setCell (p := ⟨R, 2, none⟩) hR9.out (.slice none 0 0)
            have hSW : ∀ (p : Addr), p.block ≠ R → (((w6.setCell ⟨R, 0, none⟩ (.int .i64 0)).setCell ⟨R, 1, none⟩ (.slice none 0 0)).setCell ⟨R, 2, none⟩ (.slice none 0 0)).cell? p = w6.cell? p := fun p hp => by
              rw [World.cell?_setCell_other _ _ _ _ (by intro q; exact hp (congrArg Addr.block q.symm)), World.cell?_setCell_other _ _ _ _ (by intro q; exact hp (congrArg Addr.block q.symm)), World.cell?_setCell_other _ _ _ _ (by intro q; exact hp (congrArg Addr.block q.symm))]
            have HSW : Hid ((((w6.setCell ⟨R, 0, none⟩ (.int .i64 0)).setCell ⟨R, 1, none⟩ (.slice none 0 0)).setCell ⟨R, 2, none⟩ (.slice none 0 0)).cell? ⟨T, 0, none⟩ = some (.int .i64 0) ∧ (((w6.setCell ⟨R, 0, none⟩ (.int .i64 0)).setCell ⟨R, 1, none⟩ (.slice none 0 0)).setCell ⟨R, 2, none⟩ (.slice none 0 0)).cell? ⟨T, 1, none⟩ = some (.slice none 0 0) ∧ (((w6.setCell ⟨R, 0, none⟩ (.int .i64 0)).setCell ⟨R, 1, none⟩ (.slice none 0 0)).setCell ⟨R, 2, none⟩ (.slice none 0 0)).cell? ⟨T, 2, none⟩ = some (.slice none 0 0) ∧ (((w6.setCell ⟨R, 0, none⟩ (.int .i64 0)).setCell ⟨R, 1, none⟩ (.slice none 0 0)).setCell ⟨R, 2, none⟩ (.slice none 0 0)).cell? ⟨B, 1, none⟩ = some (.int .i64 (j1 : Int))) :=
              ⟨(hSW _ nTR).trans t0, (hSW _ nTR).trans t1, (hSW _ nTR).trans t2, (hSW _ nBR).trans q1⟩
            clear hSW
            obtain ⟨W, HW⟩ : ∃ u, Hid (((w6.setCell ⟨R, 0, none⟩ (.int .i64 0)).setCell ⟨R, 1, none⟩ (.slice none 0 0)).setCell ⟨R, 2, none⟩ (.slice none 0 0) = u) := ⟨_, rfl⟩
            have hnone : True := trivial
            rw [HW.out] at hbW bW HSW
            go_upto_region 11 with fail
            refine wp_region_held_drew (S := (fun w' => w'.cell? ⟨T, 0, none⟩ = some (.int .i64 0) ∧ w'.cell? ⟨T, 1, none⟩ = some (.slice none 0 0) ∧ w'.cell? ⟨T, 2, none⟩ = some (.slice none 0 0) ∧ w'.cell? ⟨B, 1, none⟩ = some (.int .i64 (j1 : Int)))) (by kernel_rfl) ⟨t0, t1, t2, q1⟩ (fun hH => ?_)
            refine wpAnyH_take (i := 0) (v := .agg #[.int .i64 0, .slice none 0 0, .slice none 0 0]) rfl (by kernel_rfl) (by kernel_rfl) (by kernel_rfl) (fun _ _ _ h => h) (.inl ⟨by rfl, fun w' hS' => by obtain ⟨s0, s1, s2, s3⟩ := hS'; go_simp⟩) hH ?_
            simp only [List.getElem_toArray, List.getElem_cons_succ, List.getElem_cons_zero, Act.put, List.setIfInBounds_toArray, List.set_cons_zero, List.set_cons_succ]
            refine wpAnyH_take (i := 1) (v := .bool false) rfl (by kernel_rfl) (by kernel_rfl) (by kernel_rfl) (fun _ _ _ h => h) (.inl ⟨by rfl, fun _ _ => rfl⟩) hH ?_
            simp only [List.getElem_toArray, List.getElem_cons_succ, List.getElem_cons_zero, Act.put, List.setIfInBounds_toArray, List.set_cons_zero, List.set_cons_succ]
            refine wpAnyH_take (i := 2) (v := .bool false) rfl (by kernel_rfl) (by kernel_rfl) (by kernel_rfl) (fun _ _ _ h => h) (.inl ⟨by rfl, fun _ _ => rfl⟩) hH ?_
            simp only [List.getElem_toArray, List.getElem_cons_succ, List.getElem_cons_zero, Act.put, List.setIfInBounds_toArray, List.set_cons_zero, List.set_cons_succ]
            refine wpAnyH_take (i := 3) (v := undef) rfl (by kernel_rfl) (by kernel_rfl) (by kernel_rfl) (fun _ _ _ h => h) (.inr ⟨by rfl, rfl⟩) hH ?_
            simp only [List.getElem_toArray, List.getElem_cons_succ, List.getElem_cons_zero, Act.put, List.setIfInBounds_toArray, List.set_cons_zero, List.set_cons_succ]
            refine wpAnyH_take (i := 4) (v := undef) rfl (by kernel_rfl) (by kernel_rfl) (by kernel_rfl) (fun _ _ _ h => h) (.inr ⟨by rfl, rfl⟩) hH ?_
            simp only [List.getElem_toArray, List.getElem_cons_succ, List.getElem_cons_zero, Act.put, List.setIfInBounds_toArray, List.set_cons_zero, List.set_cons_succ]
            refine wpAnyH_take (i := 5) (v := undef) rfl (by kernel_rfl) (by kernel_rfl) (by kernel_rfl) (fun _ _ _ h => h) (.inr ⟨by rfl, rfl⟩) hH ?_
            simp only [List.getElem_toArray, List.getElem_cons_succ, List.getElem_cons_zero, Act.put, List.setIfInBounds_toArray, List.set_cons_zero, List.set_cons_succ]
            refine wpAnyH_take (i := 6) (v := undef) rfl (by kernel_rfl) (by kernel_rfl) (by kernel_rfl) (fun _ _ _ h => h) (.inr ⟨by rfl, rfl⟩) hH ?_
            simp only [List.getElem_toArray, List.getElem_cons_succ, List.getElem_cons_zero, Act.put, List.setIfInBounds_toArray, List.set_cons_zero, List.set_cons_succ]
            refine wpAnyH_take (i := 7) (v := undef) rfl (by kernel_rfl) (by kernel_rfl) (by kernel_rfl) (fun _ _ _ h => h) (.inr ⟨by rfl, rfl⟩) hH ?_
            simp only [List.getElem_toArray, List.getElem_cons_succ, List.getElem_cons_zero, Act.put, List.setIfInBounds_toArray, List.set_cons_zero, List.set_cons_succ]
            refine wpAnyH_take (i := 8) (v := undef) rfl (by kernel_rfl) (by kernel_rfl) (by kernel_rfl) (fun _ _ _ h => h) (.inr ⟨by rfl, rfl⟩) hH ?_
            simp only [List.getElem_toArray, List.getElem_cons_succ, List.getElem_cons_zero, Act.put, List.setIfInBounds_toArray, List.set_cons_zero, List.set_cons_succ]
            refine wpAnyH_take (i := 9) (v := undef) rfl (by kernel_rfl) (by kernel_rfl) (by kernel_rfl) (fun _ _ _ h => h) (.inr ⟨by rfl, rfl⟩) hH ?_
            simp only [List.getElem_toArray, List.getElem_cons_succ, List.getElem_cons_zero, Act.put, List.setIfInBounds_toArray, List.set_cons_zero, List.set_cons_succ]
            refine wpAnyH_take (i := 10) (v := .bool false) rfl (by kernel_rfl) (by kernel_rfl) (by kernel_rfl) (fun _ _ _ h => h) (.inl ⟨by rfl, fun _ _ => rfl⟩) hH ?_
            simp only [List.getElem_toArray, List.getElem_cons_succ, List.getElem_cons_zero, Act.put, List.setIfInBounds_toArray, List.set_cons_zero, List.set_cons_succ]
            refine wpAnyH_ready (rs := [11]) (by kernel_rfl) (by simp) ?_
            refine AllReadyH.cons rfl (fun K hK => ?_) AllReadyH.nil
            simp only [List.getElem_toArray, List.getElem_cons_succ, List.getElem_cons_zero]
            rw [if_pos (by rfl)]
            go_wp2_with fail
            rw [HW.out]
            refine hK.out _ _ HSW.out (fun hH => ?_)
            clear hK
            refine wpAnyH_take (i := 12) (v := .bool false) rfl (by kernel_rfl) (by kernel_rfl) (by kernel_rfl) (fun _ _ _ h => h) (.inl ⟨by rfl, fun _ _ => rfl⟩) hH ?_
            simp only [List.getElem_toArray, List.getElem_cons_succ, List.getElem_cons_zero, Act.put, List.setIfInBounds_toArray, List.set_cons_zero, List.set_cons_succ]
            refine wpAnyH_done (by kernel_rfl) ?_ _
            clear hH
            have hbW2 : Box3 W.drew R (.int .i64 0) (.slice none 0 0) (.slice none 0 0) := ⟨hbW.1, hbW.2.1, hbW.2.2.1, hbW.2.2.2⟩
            have bW2 := bW.drew
            obtain ⟨W2, HW2⟩ : ∃ u, Hid (W.drew = u) := ⟨_, rfl⟩
            rw [HW2.out] at hbW2 bW2 
            rw [HW2.out]
            clear t0 t1 t2 q1 x0 x1 x2 g0 g1 g2 HSW
            go_wp2
            exact bodyPost_ret (v := .tuple #[.agg #[.int .i64 0, .slice none 0 0, .slice none 0 0], .bool false]) (results_tran rfl rfl rfl hbW2.2.1 hbW2.2.2.1 hbW2.2.2.2) rfl ⟨otran_bad Hbad.out, bW2⟩
        · have Hbad : Hid (LineIs P s noTran false) := oline_one hp
          go_upto_region 11 with (go_at_call 24; refine hSk.mono ?_; rintro e w4 ⟨hSk2, hO4⟩; obtain ⟨rfl, hR4⟩ := skip_no hSk2 hp)
          have hSt4 := hSt.only hO4 hR4
          clear hSk hSk2 hp hO4 hR4 hSt
          have HS9 : Hid (TrSt w w4 B T R s ((1 : Nat)) 0 (.slice none 0 0) (.slice none 0 0)) := hSt4
          obtain ⟨_, t0, t1, t2⟩ := id HS9.out.t
          obtain ⟨_, _, q1⟩ := id HS9.out.rd.box
          obtain ⟨_, x0, x1, x2⟩ := id HS9.out.r
          have g0 := HS9.out.rf 0
          have g1 := HS9.out.rf 1
          have g2 := HS9.out.rf 2
          have bd := HS9.out.b
          have nTR := HS9.out.ne.2.2.1
          have nBR := HS9.out.ne.2.1
          have hRd : Box3 w4 R (.int .i64 0) (.slice none 0 0) (.slice none 0 0) := ⟨HS9.out.r.1, x0, x1, x2⟩
          have hbW := box3_set hRd (.int .i64 0) (.slice none 0 0) (.slice none 0 0)
          have bW := ((bd.setCell (p := ⟨R, 0, none⟩) hR9.out (.int .i64 0)).setCell (p := ⟨R, 1, none⟩) hR9.out (.slice none 0 0)).setCell (p := ⟨R, 2, none⟩) hR9.out (.slice none 0 0)
          have hSW : ∀ (p : Addr), p.block ≠ R → (((w4.setCell ⟨R, 0, none⟩ (.int .i64 0)).setCell ⟨R, 1, none⟩ (.slice none 0 0)).setCell ⟨R, 2, none⟩ (.slice none 0 0)).cell? p = w4.cell? p := fun p hp => by
            rw [World.cell?_setCell_other _ _ _ _ (by intro q; exact hp (congrArg Addr.block q.symm)), World.cell?_setCell_other _ _ _ _ (by intro q; exact hp (congrArg Addr.block q.symm)), World.cell?_setCell_other _ _ _ _ (by intro q; exact hp (congrArg Addr.block q.symm))]
          have HSW : Hid ((((w4.setCell ⟨R, 0, none⟩ (.int .i64 0)).setCell ⟨R, 1, none⟩ (.slice none 0 0)).setCell ⟨R, 2, none⟩ (.slice none 0 0)).cell? ⟨T, 0, none⟩ = some (.int .i64 0) ∧ (((w4.setCell ⟨R, 0, none⟩ (.int .i64 0)).setCell ⟨R, 1, none⟩ (.slice none 0 0)).setCell ⟨R, 2, none⟩ (.slice none 0 0)).cell? ⟨T, 1, none⟩ = some (.slice none 0 0) ∧ (((w4.setCell ⟨R, 0, none⟩ (.int .i64 0)).setCell ⟨R, 1, none⟩ (.slice none 0 0)).setCell ⟨R, 2, none⟩ (.slice none 0 0)).cell? ⟨T, 2, none⟩ = some (.slice none 0 0) ∧ (((w4.setCell ⟨R, 0, none⟩ (.int .i64 0)).setCell ⟨R, 1, none⟩ (.slice none 0 0)).setCell ⟨R, 2, none⟩ (.slice none 0 0)).cell? ⟨B, 1, none⟩ = some (.int .i64 (((1 : Nat)) : Int))) :=
            ⟨(hSW _ nTR).trans t0, (hSW _ nTR).trans t1, (hSW _ nTR).trans t2, (hSW _ nBR).trans q1⟩
          clear hSW
          obtain ⟨W, HW⟩ : ∃ u, Hid (((w4.setCell ⟨R, 0, none⟩ (.int .i64 0)).setCell ⟨R, 1, none⟩ (.slice none 0 0)).setCell ⟨R, 2, none⟩ (.slice none 0 0) = u) := ⟨_, rfl⟩
          have hnone : True := trivial
          rw [HW.out] at hbW bW HSW
          go_upto_region 11 with fail
          refine wp_region_held_drew (S := (fun w' => w'.cell? ⟨T, 0, none⟩ = some (.int .i64 0) ∧ w'.cell? ⟨T, 1, none⟩ = some (.slice none 0 0) ∧ w'.cell? ⟨T, 2, none⟩ = some (.slice none 0 0) ∧ w'.cell? ⟨B, 1, none⟩ = some (.int .i64 (((1 : Nat)) : Int)))) (by kernel_rfl) ⟨t0, t1, t2, q1⟩ (fun hH => ?_)
          refine wpAnyH_take (i := 0) (v := .agg #[.int .i64 0, .slice none 0 0, .slice none 0 0]) rfl (by kernel_rfl) (by kernel_rfl) (by kernel_rfl) (fun _ _ _ h => h) (.inl ⟨by rfl, fun w' hS' => by obtain ⟨s0, s1, s2, s3⟩ := hS'; go_simp⟩) hH ?_
          simp only [List.getElem_toArray, List.getElem_cons_succ, List.getElem_cons_zero, Act.put, List.setIfInBounds_toArray, List.set_cons_zero, List.set_cons_succ]
          refine wpAnyH_take (i := 1) (v := .bool false) rfl (by kernel_rfl) (by kernel_rfl) (by kernel_rfl) (fun _ _ _ h => h) (.inl ⟨by rfl, fun _ _ => rfl⟩) hH ?_
          simp only [List.getElem_toArray, List.getElem_cons_succ, List.getElem_cons_zero, Act.put, List.setIfInBounds_toArray, List.set_cons_zero, List.set_cons_succ]
          refine wpAnyH_take (i := 2) (v := .bool false) rfl (by kernel_rfl) (by kernel_rfl) (by kernel_rfl) (fun _ _ _ h => h) (.inl ⟨by rfl, fun _ _ => rfl⟩) hH ?_
          simp only [List.getElem_toArray, List.getElem_cons_succ, List.getElem_cons_zero, Act.put, List.setIfInBounds_toArray, List.set_cons_zero, List.set_cons_succ]
          refine wpAnyH_take (i := 3) (v := undef) rfl (by kernel_rfl) (by kernel_rfl) (by kernel_rfl) (fun _ _ _ h => h) (.inr ⟨by rfl, rfl⟩) hH ?_
          simp only [List.getElem_toArray, List.getElem_cons_succ, List.getElem_cons_zero, Act.put, List.setIfInBounds_toArray, List.set_cons_zero, List.set_cons_succ]
          refine wpAnyH_take (i := 4) (v := undef) rfl (by kernel_rfl) (by kernel_rfl) (by kernel_rfl) (fun _ _ _ h => h) (.inr ⟨by rfl, rfl⟩) hH ?_
          simp only [List.getElem_toArray, List.getElem_cons_succ, List.getElem_cons_zero, Act.put, List.setIfInBounds_toArray, List.set_cons_zero, List.set_cons_succ]
          refine wpAnyH_take (i := 5) (v := undef) rfl (by kernel_rfl) (by kernel_rfl) (by kernel_rfl) (fun _ _ _ h => h) (.inr ⟨by rfl, rfl⟩) hH ?_
          simp only [List.getElem_toArray, List.getElem_cons_succ, List.getElem_cons_zero, Act.put, List.setIfInBounds_toArray, List.set_cons_zero, List.set_cons_succ]
          refine wpAnyH_take (i := 6) (v := undef) rfl (by kernel_rfl) (by kernel_rfl) (by kernel_rfl) (fun _ _ _ h => h) (.inr ⟨by rfl, rfl⟩) hH ?_
          simp only [List.getElem_toArray, List.getElem_cons_succ, List.getElem_cons_zero, Act.put, List.setIfInBounds_toArray, List.set_cons_zero, List.set_cons_succ]
          refine wpAnyH_take (i := 7) (v := undef) rfl (by kernel_rfl) (by kernel_rfl) (by kernel_rfl) (fun _ _ _ h => h) (.inr ⟨by rfl, rfl⟩) hH ?_
          simp only [List.getElem_toArray, List.getElem_cons_succ, List.getElem_cons_zero, Act.put, List.setIfInBounds_toArray, List.set_cons_zero, List.set_cons_succ]
          refine wpAnyH_take (i := 8) (v := undef) rfl (by kernel_rfl) (by kernel_rfl) (by kernel_rfl) (fun _ _ _ h => h) (.inr ⟨by rfl, rfl⟩) hH ?_
          simp only [List.getElem_toArray, List.getElem_cons_succ, List.getElem_cons_zero, Act.put, List.setIfInBounds_toArray, List.set_cons_zero, List.set_cons_succ]
          refine wpAnyH_take (i := 9) (v := undef) rfl (by kernel_rfl) (by kernel_rfl) (by kernel_rfl) (fun _ _ _ h => h) (.inr ⟨by rfl, rfl⟩) hH ?_
          simp only [List.getElem_toArray, List.getElem_cons_succ, List.getElem_cons_zero, Act.put, List.setIfInBounds_toArray, List.set_cons_zero, List.set_cons_succ]
          refine wpAnyH_take (i := 10) (v := .bool false) rfl (by kernel_rfl) (by kernel_rfl) (by kernel_rfl) (fun _ _ _ h => h) (.inl ⟨by rfl, fun _ _ => rfl⟩) hH ?_
          simp only [List.getElem_toArray, List.getElem_cons_succ, List.getElem_cons_zero, Act.put, List.setIfInBounds_toArray, List.set_cons_zero, List.set_cons_succ]
          refine wpAnyH_ready (rs := [11]) (by kernel_rfl) (by simp) ?_
          refine AllReadyH.cons rfl (fun K hK => ?_) AllReadyH.nil
          simp only [List.getElem_toArray, List.getElem_cons_succ, List.getElem_cons_zero]
          rw [if_pos (by rfl)]
          go_wp2_with fail
          rw [HW.out]
          refine hK.out _ _ HSW.out (fun hH => ?_)
          clear hK
          refine wpAnyH_take (i := 12) (v := .bool false) rfl (by kernel_rfl) (by kernel_rfl) (by kernel_rfl) (fun _ _ _ h => h) (.inl ⟨by rfl, fun _ _ => rfl⟩) hH ?_
          simp only [List.getElem_toArray, List.getElem_cons_succ, List.getElem_cons_zero, Act.put, List.setIfInBounds_toArray, List.set_cons_zero, List.set_cons_succ]
          refine wpAnyH_done (by kernel_rfl) ?_ _
          clear hH
          have hbW2 : Box3 W.drew R (.int .i64 0) (.slice none 0 0) (.slice none 0 0) := ⟨hbW.1, hbW.2.1, hbW.2.2.1, hbW.2.2.2⟩
          have bW2 := bW.drew
          obtain ⟨W2, HW2⟩ : ∃ u, Hid (W.drew = u) := ⟨_, rfl⟩
          rw [HW2.out] at hbW2 bW2 
          rw [HW2.out]
          clear t0 t1 t2 q1 x0 x1 x2 g0 g1 g2 HSW
          go_wp2
          exact bodyPost_ret (v := .tuple #[.agg #[.int .i64 0, .slice none 0 0, .slice none 0 0], .bool false]) (results_tran rfl rfl rfl hbW2.2.1 hbW2.2.2.1 hbW2.2.2.2) rfl ⟨otran_bad Hbad.out, bW2⟩
      · have n2 : ((C : Int) != 45) = true := by rw [bne_iff_ne]; omega
        have hl2 : 97 ≤ C ∧ C ≤ 122 := by rcases hl with q | q; exact absurd q h45; exact q
        have n3 : decide ((C : Int) < 97) = false := by rw [decide_eq_false_iff_not]; omega
        have n4 : decide ((C : Int) > 122) = false := by rw [decide_eq_false_iff_not]; omega
        have Hlab : Hid (letterT ((C : Int) - 96) = x ∧ (0 : Int) ≤ (C : Int) - 96 ∧ (C : Int) - 96 ≤ 26) := by show _ ∧ _; rw [← HC.out]; exact let_of (by rw [HC.out]; exact hl2)
        have wC : IntKind.i64.wrap (C : Int) = (C : Int) := Go.IntWalk.i64_in _ ⟨by omega, by omega⟩
        have wC2 : IntKind.i64.wrap ((C : Int) - 96) = (C : Int) - 96 := Go.IntWalk.i64_in _ ⟨by omega, by omega⟩
        have wC3 : wrap64 (C : Int) = (C : Int) := by unfold wrap64; omega
        have hSt0 := hSt.set0 ((C : Int) - 96)
        obtain ⟨_, t0, _, _⟩ := id hSt.t
        have tf0 := hSt.tf 0
        obtain ⟨w3, H3⟩ : ∃ u, Hid (w2.setCell ⟨T, 0, none⟩ (.int .i64 ((C : Int) - 96)) = u) := ⟨_, rfl⟩
        rw [H3.out] at hSt0
        clear h45 hl hSt
        go_upto_region 3 with fail
        go_upto_region 4 with fail
        rw [H1.out, HB.out, H2.out, HT.out]
        go_upto_region 7 with fail
        rw [H3.out]
        clear n2 n1 hIx n3 n4 t0 tf0 wC wC2 wC3 hl2
        have hSt := hSt0
        have hSk := skip_any hSt.rd [32, 58] ⟨#[32, 58]⟩ rfl (by decide) hs
        by_cases hp : ∃ r, s.drop 1 = [32, 58] ++ r
        · have Hp : Hid (∃ r, s.drop 1 = [32, 58] ++ r) := hp
          go_upto_region 8 with (go_at_call 24; refine hSk.mono ?_; rintro e w4 ⟨hSk2, hO4⟩; obtain ⟨rfl, hR4⟩ := skip_yes hSk2 hp)
          have hSt4 := hSt.only hO4 (show Rd w4 B s 3 from hR4)
          clear hSk hSk2 hp hO4 hR4 hSt
          have hSi := oside_any P hSt4.rd (hT.on hSt4.b) HB0.out hs hP
          have hB4 := hSt4.rd.box.1
          have hT4 := hSt4.t.1
          have hR4 := hSt4.r.1
          have hs4 := hSt4.b.size
          go_upto_region 9 with (go_at_call 46; refine hSi.mono ?_; rintro e w5 ⟨hSi2, hO5⟩; rcases hSi2 with ⟨a1, m1, c1, l1, j1, rfl, ho1, he1, hu1, hR5, hOn1⟩ | ⟨rfl, hno1, j1, hR5⟩ <;> (have hSt5 := hSt4.only hO5 hR5; obtain ⟨_, _, u1, _⟩ := id hSt5.t; have uf1 := hSt5.tf 1))
          · have Ho1 : Hid (SideOk P l1) := ho1
            have He1 : Hid (s.drop 3 = sideT 0 l1 ++ s.drop j1) := he1
            have Hu1 : Hid (∀ l' R', SideOk P l' → StopT R' → s.drop 3 = sideT 0 l' ++ R' → l' = l1 ∧ R' = s.drop j1) := hu1
            have hSt6 := hSt5.set1 (.slice a1 m1 c1)
            have hOn6 := hOn1.set (a := ⟨T, 1, none⟩) (by show ¬ (w4.heap.size ≤ T); omega) (.slice a1 m1 c1)
            obtain ⟨w6, H6⟩ : ∃ u, Hid (w5.setCell ⟨T, 1, none⟩ (.slice a1 m1 c1) = u) := ⟨_, rfl⟩
            rw [H6.out] at hSt6 hOn6
            rw [H6.out]
            clear hSi ho1 he1 hu1 hR5 hOn1 hO5 hSt5 hSt4 u1 uf1
            have hSk := skip_any hSt6.rd [32, 62] ⟨#[32, 62]⟩ rfl (by decide) hs
            by_cases hp : ∃ r, s.drop j1 = [32, 62] ++ r
            · have Hp2 : Hid (∃ r, s.drop j1 = [32, 62] ++ r) := hp
              go_upto_region 10 with (go_at_call 24; refine hSk.mono ?_; rintro e w7 ⟨hSk2, hO7⟩; obtain ⟨rfl, hR7⟩ := skip_yes hSk2 hp)
              have hR7 : Rd w7 B s (j1 + 2) := hR7
              have hSt7 := hSt6.only hO7 hR7
              have hOn7 := hOn6.only hO7 (by show ¬ (w4.heap.size ≤ B); omega)
              clear hSk hSk2 hp hO7 hR7 hSt6 hOn6
              have hSi := oside_any P hSt7.rd (hT.on hSt7.b) HB0.out hs hP
              have hB7 := hSt7.rd.box.1
              have hT7 := hSt7.t.1
              have hR7 := hSt7.r.1
              have hs7 := hSt7.b.size
              go_upto_region 11 with (go_at_call 46; refine hSi.mono ?_; rintro e w8 ⟨hSi2, hO8⟩; rcases hSi2 with ⟨a2, m2, c2, l2, j2, rfl, ho2, he2, hu2, hR8, hOn2⟩ | ⟨rfl, hno2, j2, hR8⟩ <;> (have hSt8 := hSt7.only hO8 hR8; obtain ⟨_, _, _, u2⟩ := id hSt8.t; have uf2 := hSt8.tf 2))
              · have Ho2 : Hid (SideOk P l2) := ho2
                have He2 : Hid (s.drop (j1 + 2) = sideT 0 l2 ++ s.drop j2) := he2
                have Hu2 : Hid (∀ l' R', SideOk P l' → StopT R' → s.drop (j1 + 2) = sideT 0 l' ++ R' → l' = l2 ∧ R' = s.drop j2) := hu2
                have hSt9 := hSt8.set2 (.slice a2 m2 c2)
                have hO9a := (hOn7.only hO8 (by show ¬ (w4.heap.size ≤ B); omega)).set (a := ⟨T, 2, none⟩) (by show ¬ (w4.heap.size ≤ T); omega) (.slice a2 m2 c2)
                have hO9b := hOn2.set (a := ⟨T, 2, none⟩) (by show ¬ (w7.heap.size ≤ T); omega) (.slice a2 m2 c2)
                obtain ⟨w9, H9⟩ : ∃ u, Hid (w8.setCell ⟨T, 2, none⟩ (.slice a2 m2 c2) = u) := ⟨_, rfl⟩
                rw [H9.out] at hSt9 hO9a hO9b
                rw [H9.out]
                clear hSi ho2 he2 hu2 hR8 hOn2 hO8 hSt8 hSt7 u2 uf2 hOn7
                have hj2 : j2 ≤ n := by have := hSt9.rd.le; rw [Hn.out] at this; exact this
                by_cases hend : j2 = n
                · have n5 : ((j2 : Int) == (n : Int)) = true := by rw [hend]; simp
                  have HL : Hid (LineIs P s ⟨((C : Int) - 96), l1, l2⟩ true) := oline_yes Hx.out Hlab.out.1 Hlab.out.2 Hp.out Ho1.out He1.out Hp2.out Ho2.out He2.out (by rw [hend]; exact List.drop_eq_nil_of_le (by rw [Hn.out]; exact Nat.le_refl _))
                  clear hend
                  have HS9 : Hid (TrSt w w9 B T R s j2 ((C : Int) - 96) (.slice a1 m1 c1) (.slice a2 m2 c2)) := hSt9
                  obtain ⟨_, t0, t1, t2⟩ := id HS9.out.t
                  obtain ⟨_, _, q1⟩ := id HS9.out.rd.box
                  obtain ⟨_, x0, x1, x2⟩ := id HS9.out.r
                  have g0 := HS9.out.rf 0
                  have g1 := HS9.out.rf 1
                  have g2 := HS9.out.rf 2
                  have bd := HS9.out.b
                  have nTR := HS9.out.ne.2.2.1
                  have nBR := HS9.out.ne.2.1
                  have hRd : Box3 w9 R (.int .i64 0) (.slice none 0 0) (.slice none 0 0) := ⟨HS9.out.r.1, x0, x1, x2⟩
                  have hbW := box3_set hRd (.int .i64 ((C : Int) - 96)) (.slice a1 m1 c1) (.slice a2 m2 c2)
                  have bW := ((bd.setCell (p := ⟨R, 0, none⟩) hR9.out (.int .i64 ((C : Int) - 96))).setCell (p := ⟨R, 1, none⟩) hR9.out (.slice a1 m1 c1)).setCell (p := ⟨R, 2, none⟩) hR9.out (.slice a2 m2 c2)
                  have hSW : ∀ (p : Addr), p.block ≠ R → (((w9.setCell ⟨R, 0, none⟩ (.int .i64 ((C : Int) - 96))).setCell ⟨R, 1, none⟩ (.slice a1 m1 c1)).setCell ⟨R, 2, none⟩ (.slice a2 m2 c2)).cell? p = w9.cell? p := fun p hp => by
                    rw [World.cell?_setCell_other _ _ _ _ (by intro q; exact hp (congrArg Addr.block q.symm)), World.cell?_setCell_other _ _ _ _ (by intro q; exact hp (congrArg Addr.block q.symm)), World.cell?_setCell_other _ _ _ _ (by intro q; exact hp (congrArg Addr.block q.symm))]
                  have HSW : Hid ((((w9.setCell ⟨R, 0, none⟩ (.int .i64 ((C : Int) - 96))).setCell ⟨R, 1, none⟩ (.slice a1 m1 c1)).setCell ⟨R, 2, none⟩ (.slice a2 m2 c2)).cell? ⟨T, 0, none⟩ = some (.int .i64 ((C : Int) - 96)) ∧ (((w9.setCell ⟨R, 0, none⟩ (.int .i64 ((C : Int) - 96))).setCell ⟨R, 1, none⟩ (.slice a1 m1 c1)).setCell ⟨R, 2, none⟩ (.slice a2 m2 c2)).cell? ⟨T, 1, none⟩ = some (.slice a1 m1 c1) ∧ (((w9.setCell ⟨R, 0, none⟩ (.int .i64 ((C : Int) - 96))).setCell ⟨R, 1, none⟩ (.slice a1 m1 c1)).setCell ⟨R, 2, none⟩ (.slice a2 m2 c2)).cell? ⟨T, 2, none⟩ = some (.slice a2 m2 c2) ∧ (((w9.setCell ⟨R, 0, none⟩ (.int .i64 ((C : Int) - 96))).setCell ⟨R, 1, none⟩ (.slice a1 m1 c1)).setCell ⟨R, 2, none⟩ (.slice a2 m2 c2)).cell? ⟨B, 1, none⟩ = some (.int .i64 (j2 : Int))) :=
                    ⟨(hSW _ nTR).trans t0, (hSW _ nTR).trans t1, (hSW _ nTR).trans t2, (hSW _ nBR).trans q1⟩
                  clear hSW
                  obtain ⟨W, HW⟩ : ∃ u, Hid (((w9.setCell ⟨R, 0, none⟩ (.int .i64 ((C : Int) - 96))).setCell ⟨R, 1, none⟩ (.slice a1 m1 c1)).setCell ⟨R, 2, none⟩ (.slice a2 m2 c2) = u) := ⟨_, rfl⟩
                  have hW1 : On (fun k => w.heap.size ≤ k) (((w9.setCell ⟨R, 0, none⟩ (.int .i64 ((C : Int) - 96))).setCell ⟨R, 1, none⟩ (.slice a1 m1 c1)).setCell ⟨R, 2, none⟩ (.slice a2 m2 c2)) (fun w2 => Ints w2 (.slice a1 m1 c1) l1) :=
                    ((hO9a.set (a := ⟨R, 0, none⟩) (by show ¬ (w4.heap.size ≤ R); omega) _).set (a := ⟨R, 1, none⟩) (by show ¬ (w4.heap.size ≤ R); omega) _).set (a := ⟨R, 2, none⟩) (by show ¬ (w4.heap.size ≤ R); omega) _ |>.weaken fun k _ hk => Nat.le_trans hs4 hk
                  have hW2 : On (fun k => w.heap.size ≤ k) (((w9.setCell ⟨R, 0, none⟩ (.int .i64 ((C : Int) - 96))).setCell ⟨R, 1, none⟩ (.slice a1 m1 c1)).setCell ⟨R, 2, none⟩ (.slice a2 m2 c2)) (fun w2 => Ints w2 (.slice a2 m2 c2) l2) :=
                    ((hO9b.set (a := ⟨R, 0, none⟩) (by show ¬ (w7.heap.size ≤ R); omega) _).set (a := ⟨R, 1, none⟩) (by show ¬ (w7.heap.size ≤ R); omega) _).set (a := ⟨R, 2, none⟩) (by show ¬ (w7.heap.size ≤ R); omega) _ |>.weaken fun k _ hk => Nat.le_trans hs7 hk
                  rw [HW.out] at hW1 hW2
                  have F1 : Hid (On (fun k => w.heap.size ≤ k) W.drew (fun w2 => Ints w2 (.slice a1 m1 c1) l1)) := hW1.to (w' := W.drew) (Nat.le_refl _) (fun _ _ _ => rfl)
                  have F2 : Hid (On (fun k => w.heap.size ≤ k) W.drew (fun w2 => Ints w2 (.slice a2 m2 c2) l2)) := hW2.to (w' := W.drew) (Nat.le_refl _) (fun _ _ _ => rfl)
                  clear hW1 hW2 hO9a hO9b
                  rw [HW.out] at hbW bW HSW
                  go_upto_region 11 with fail
                  refine wp_region_held_drew (S := (fun w' => w'.cell? ⟨T, 0, none⟩ = some (.int .i64 ((C : Int) - 96)) ∧ w'.cell? ⟨T, 1, none⟩ = some (.slice a1 m1 c1) ∧ w'.cell? ⟨T, 2, none⟩ = some (.slice a2 m2 c2) ∧ w'.cell? ⟨B, 1, none⟩ = some (.int .i64 (j2 : Int)))) (by kernel_rfl) ⟨t0, t1, t2, q1⟩ (fun hH => ?_)
                  refine wpAnyH_take (i := 0) (v := .agg #[.int .i64 ((C : Int) - 96), .slice a1 m1 c1, .slice a2 m2 c2]) rfl (by kernel_rfl) (by kernel_rfl) (by kernel_rfl) (fun _ _ _ h => h) (.inl ⟨by rfl, fun w' hS' => by obtain ⟨s0, s1, s2, s3⟩ := hS'; go_simp⟩) hH ?_
                  simp only [List.getElem_toArray, List.getElem_cons_succ, List.getElem_cons_zero, Act.put, List.setIfInBounds_toArray, List.set_cons_zero, List.set_cons_succ]
                  refine wpAnyH_take (i := 1) (v := .bool true) rfl (by kernel_rfl) (by kernel_rfl) (by kernel_rfl) (fun _ _ _ h => h) (.inl ⟨by rfl, fun _ _ => rfl⟩) hH ?_
                  simp only [List.getElem_toArray, List.getElem_cons_succ, List.getElem_cons_zero, Act.put, List.setIfInBounds_toArray, List.set_cons_zero, List.set_cons_succ]
                  refine wpAnyH_take (i := 2) (v := .bool true) rfl (by kernel_rfl) (by kernel_rfl) (by kernel_rfl) (fun _ _ _ h => h) (.inl ⟨by rfl, fun _ _ => rfl⟩) hH ?_
                  simp only [List.getElem_toArray, List.getElem_cons_succ, List.getElem_cons_zero, Act.put, List.setIfInBounds_toArray, List.set_cons_zero, List.set_cons_succ]
                  refine wpAnyH_take (i := 3) (v := .pointer (some ⟨B, 0, none⟩)) rfl (by kernel_rfl) (by kernel_rfl) (by kernel_rfl) (fun _ _ _ h => h) (.inl ⟨by rfl, fun _ _ => rfl⟩) hH ?_
                  simp only [List.getElem_toArray, List.getElem_cons_succ, List.getElem_cons_zero, Act.put, List.setIfInBounds_toArray, List.set_cons_zero, List.set_cons_succ]
                  refine wpAnyH_take (i := 4) (v := .pointer (some ⟨B, 0, none⟩)) rfl (by kernel_rfl) (by kernel_rfl) (by kernel_rfl) (fun _ _ _ h => h) (.inl ⟨by rfl, fun w' hS' => by first | (go_simp; done) | (go_simp; rfl) | (go_simp; intro h; omega) | (go_simp; omega)⟩) hH ?_
                  simp only [List.getElem_toArray, List.getElem_cons_succ, List.getElem_cons_zero, Act.put, List.setIfInBounds_toArray, List.set_cons_zero, List.set_cons_succ]
                  refine wpAnyH_take (i := 5) (v := .pointer (some ⟨B, 1, none⟩)) rfl (by kernel_rfl) (by kernel_rfl) (by kernel_rfl) (fun _ _ _ h => h) (.inl ⟨by rfl, fun w' hS' => by first | (go_simp; done) | (go_simp; rfl) | (go_simp; intro h; omega) | (go_simp; omega)⟩) hH ?_
                  simp only [List.getElem_toArray, List.getElem_cons_succ, List.getElem_cons_zero, Act.put, List.setIfInBounds_toArray, List.set_cons_zero, List.set_cons_succ]
                  refine wpAnyH_take (i := 6) (v := .int .i64 (j2 : Int)) rfl (by kernel_rfl) (by kernel_rfl) (by kernel_rfl) (fun _ _ _ h => h) (.inl ⟨by rfl, fun w' hS' => by obtain ⟨s0, s1, s2, s3⟩ := hS'; go_simp⟩) hH ?_
                  simp only [List.getElem_toArray, List.getElem_cons_succ, List.getElem_cons_zero, Act.put, List.setIfInBounds_toArray, List.set_cons_zero, List.set_cons_succ]
                  refine wpAnyH_take (i := 7) (v := .string (bs s)) rfl (by kernel_rfl) (by kernel_rfl) (by kernel_rfl) (fun _ _ _ h => h) (.inl ⟨by rfl, fun _ _ => rfl⟩) hH ?_
                  simp only [List.getElem_toArray, List.getElem_cons_succ, List.getElem_cons_zero, Act.put, List.setIfInBounds_toArray, List.set_cons_zero, List.set_cons_succ]
                  refine wpAnyH_take (i := 8) (v := .int .i64 (n : Int)) rfl (by kernel_rfl) (by kernel_rfl) (by kernel_rfl) (fun _ _ _ h => h) (.inl ⟨by rfl, fun w' hS' => by first | (go_simp; done) | (go_simp; rfl) | (go_simp; intro h; omega) | (go_simp; omega)⟩) hH ?_
                  simp only [List.getElem_toArray, List.getElem_cons_succ, List.getElem_cons_zero, Act.put, List.setIfInBounds_toArray, List.set_cons_zero, List.set_cons_succ]
                  refine wpAnyH_take (i := 9) (v := .bool true) rfl (by kernel_rfl) (by kernel_rfl) (by kernel_rfl) (fun _ _ _ h => h) (.inl ⟨by rfl, fun w' hS' => by first | (go_simp; done) | (go_simp; rfl) | (go_simp; intro h; omega) | (go_simp; omega)⟩) hH ?_
                  simp only [List.getElem_toArray, List.getElem_cons_succ, List.getElem_cons_zero, Act.put, List.setIfInBounds_toArray, List.set_cons_zero, List.set_cons_succ]
                  refine wpAnyH_take (i := 10) (v := .bool true) rfl (by kernel_rfl) (by kernel_rfl) (by kernel_rfl) (fun _ _ _ h => h) (.inl ⟨by rfl, fun _ _ => rfl⟩) hH ?_
                  simp only [List.getElem_toArray, List.getElem_cons_succ, List.getElem_cons_zero, Act.put, List.setIfInBounds_toArray, List.set_cons_zero, List.set_cons_succ]
                  refine wpAnyH_ready (rs := [11]) (by kernel_rfl) (by simp) ?_
                  refine AllReadyH.cons rfl (fun K hK => ?_) AllReadyH.nil
                  simp only [List.getElem_toArray, List.getElem_cons_succ, List.getElem_cons_zero]
                  rw [if_pos (by rfl)]
                  go_wp2_with fail
                  rw [HW.out]
                  refine hK.out _ _ HSW.out (fun hH => ?_)
                  clear hK
                  refine wpAnyH_take (i := 12) (v := .bool true) rfl (by kernel_rfl) (by kernel_rfl) (by kernel_rfl) (fun _ _ _ h => h) (.inl ⟨by rfl, fun _ _ => rfl⟩) hH ?_
                  simp only [List.getElem_toArray, List.getElem_cons_succ, List.getElem_cons_zero, Act.put, List.setIfInBounds_toArray, List.set_cons_zero, List.set_cons_succ]
                  refine wpAnyH_done (by kernel_rfl) ?_ _
                  clear hH
                  have hbW2 : Box3 W.drew R (.int .i64 ((C : Int) - 96)) (.slice a1 m1 c1) (.slice a2 m2 c2) := ⟨hbW.1, hbW.2.1, hbW.2.2.1, hbW.2.2.2⟩
                  have bW2 := bW.drew
                  obtain ⟨W2, HW2⟩ : ∃ u, Hid (W.drew = u) := ⟨_, rfl⟩
                  rw [HW2.out] at hbW2 bW2 F1 F2
                  rw [HW2.out]
                  clear t0 t1 t2 q1 x0 x1 x2 g0 g1 g2 HSW
                  go_wp2
                  exact bodyPost_ret (v := .tuple #[.agg #[.int .i64 ((C : Int) - 96), .slice a1 m1 c1, .slice a2 m2 c2], .bool true]) (results_tran rfl rfl rfl hbW2.2.1 hbW2.2.2.1 hbW2.2.2.2) rfl ⟨⟨_, _, _, _, _, _, _, _, rfl, .inl ⟨rfl, _, rfl, HL.out, F1.out, F2.out⟩⟩, bW2⟩
                · have n5 : ((j2 : Int) == (n : Int)) = false := by rw [beq_eq_false_iff_ne]; omega
                  have Hbad : Hid (LineIs P s noTran false) := oline_end Hu1.out Hu2.out (by intro q; have hl := congrArg List.length q; rw [List.length_drop, Hn.out, List.length_nil] at hl; omega)
                  clear hend
                  have HS9 : Hid (TrSt w w9 B T R s j2 ((C : Int) - 96) (.slice a1 m1 c1) (.slice a2 m2 c2)) := hSt9
                  obtain ⟨_, t0, t1, t2⟩ := id HS9.out.t
                  obtain ⟨_, _, q1⟩ := id HS9.out.rd.box
                  obtain ⟨_, x0, x1, x2⟩ := id HS9.out.r
                  have g0 := HS9.out.rf 0
                  have g1 := HS9.out.rf 1
                  have g2 := HS9.out.rf 2
                  have bd := HS9.out.b
                  have nTR := HS9.out.ne.2.2.1
                  have nBR := HS9.out.ne.2.1
                  have hRd : Box3 w9 R (.int .i64 0) (.slice none 0 0) (.slice none 0 0) := ⟨HS9.out.r.1, x0, x1, x2⟩
                  have hbW := box3_set hRd (.int .i64 ((C : Int) - 96)) (.slice a1 m1 c1) (.slice a2 m2 c2)
                  have bW := ((bd.setCell (p := ⟨R, 0, none⟩) hR9.out (.int .i64 ((C : Int) - 96))).setCell (p := ⟨R, 1, none⟩) hR9.out (.slice a1 m1 c1)).setCell (p := ⟨R, 2, none⟩) hR9.out (.slice a2 m2 c2)
                  have hSW : ∀ (p : Addr), p.block ≠ R → (((w9.setCell ⟨R, 0, none⟩ (.int .i64 ((C : Int) - 96))).setCell ⟨R, 1, none⟩ (.slice a1 m1 c1)).setCell ⟨R, 2, none⟩ (.slice a2 m2 c2)).cell? p = w9.cell? p := fun p hp => by
                    rw [World.cell?_setCell_other _ _ _ _ (by intro q; exact hp (congrArg Addr.block q.symm)), World.cell?_setCell_other _ _ _ _ (by intro q; exact hp (congrArg Addr.block q.symm)), World.cell?_setCell_other _ _ _ _ (by intro q; exact hp (congrArg Addr.block q.symm))]
                  have HSW : Hid ((((w9.setCell ⟨R, 0, none⟩ (.int .i64 ((C : Int) - 96))).setCell ⟨R, 1, none⟩ (.slice a1 m1 c1)).setCell ⟨R, 2, none⟩ (.slice a2 m2 c2)).cell? ⟨T, 0, none⟩ = some (.int .i64 ((C : Int) - 96)) ∧ (((w9.setCell ⟨R, 0, none⟩ (.int .i64 ((C : Int) - 96))).setCell ⟨R, 1, none⟩ (.slice a1 m1 c1)).setCell ⟨R, 2, none⟩ (.slice a2 m2 c2)).cell? ⟨T, 1, none⟩ = some (.slice a1 m1 c1) ∧ (((w9.setCell ⟨R, 0, none⟩ (.int .i64 ((C : Int) - 96))).setCell ⟨R, 1, none⟩ (.slice a1 m1 c1)).setCell ⟨R, 2, none⟩ (.slice a2 m2 c2)).cell? ⟨T, 2, none⟩ = some (.slice a2 m2 c2) ∧ (((w9.setCell ⟨R, 0, none⟩ (.int .i64 ((C : Int) - 96))).setCell ⟨R, 1, none⟩ (.slice a1 m1 c1)).setCell ⟨R, 2, none⟩ (.slice a2 m2 c2)).cell? ⟨B, 1, none⟩ = some (.int .i64 (j2 : Int))) :=
                    ⟨(hSW _ nTR).trans t0, (hSW _ nTR).trans t1, (hSW _ nTR).trans t2, (hSW _ nBR).trans q1⟩
                  clear hSW
                  obtain ⟨W, HW⟩ : ∃ u, Hid (((w9.setCell ⟨R, 0, none⟩ (.int .i64 ((C : Int) - 96))).setCell ⟨R, 1, none⟩ (.slice a1 m1 c1)).setCell ⟨R, 2, none⟩ (.slice a2 m2 c2) = u) := ⟨_, rfl⟩
                  have hnone : True := trivial
                  rw [HW.out] at hbW bW HSW
                  go_upto_region 11 with fail
                  refine wp_region_held_drew (S := (fun w' => w'.cell? ⟨T, 0, none⟩ = some (.int .i64 ((C : Int) - 96)) ∧ w'.cell? ⟨T, 1, none⟩ = some (.slice a1 m1 c1) ∧ w'.cell? ⟨T, 2, none⟩ = some (.slice a2 m2 c2) ∧ w'.cell? ⟨B, 1, none⟩ = some (.int .i64 (j2 : Int)))) (by kernel_rfl) ⟨t0, t1, t2, q1⟩ (fun hH => ?_)
                  refine wpAnyH_take (i := 0) (v := .agg #[.int .i64 ((C : Int) - 96), .slice a1 m1 c1, .slice a2 m2 c2]) rfl (by kernel_rfl) (by kernel_rfl) (by kernel_rfl) (fun _ _ _ h => h) (.inl ⟨by rfl, fun w' hS' => by obtain ⟨s0, s1, s2, s3⟩ := hS'; go_simp⟩) hH ?_
                  simp only [List.getElem_toArray, List.getElem_cons_succ, List.getElem_cons_zero, Act.put, List.setIfInBounds_toArray, List.set_cons_zero, List.set_cons_succ]
                  refine wpAnyH_take (i := 1) (v := .bool true) rfl (by kernel_rfl) (by kernel_rfl) (by kernel_rfl) (fun _ _ _ h => h) (.inl ⟨by rfl, fun _ _ => rfl⟩) hH ?_
                  simp only [List.getElem_toArray, List.getElem_cons_succ, List.getElem_cons_zero, Act.put, List.setIfInBounds_toArray, List.set_cons_zero, List.set_cons_succ]
                  refine wpAnyH_take (i := 2) (v := .bool true) rfl (by kernel_rfl) (by kernel_rfl) (by kernel_rfl) (fun _ _ _ h => h) (.inl ⟨by rfl, fun _ _ => rfl⟩) hH ?_
                  simp only [List.getElem_toArray, List.getElem_cons_succ, List.getElem_cons_zero, Act.put, List.setIfInBounds_toArray, List.set_cons_zero, List.set_cons_succ]
                  refine wpAnyH_take (i := 3) (v := .pointer (some ⟨B, 0, none⟩)) rfl (by kernel_rfl) (by kernel_rfl) (by kernel_rfl) (fun _ _ _ h => h) (.inl ⟨by rfl, fun _ _ => rfl⟩) hH ?_
                  simp only [List.getElem_toArray, List.getElem_cons_succ, List.getElem_cons_zero, Act.put, List.setIfInBounds_toArray, List.set_cons_zero, List.set_cons_succ]
                  refine wpAnyH_take (i := 4) (v := .pointer (some ⟨B, 0, none⟩)) rfl (by kernel_rfl) (by kernel_rfl) (by kernel_rfl) (fun _ _ _ h => h) (.inl ⟨by rfl, fun w' hS' => by first | (go_simp; done) | (go_simp; rfl) | (go_simp; intro h; omega) | (go_simp; omega)⟩) hH ?_
                  simp only [List.getElem_toArray, List.getElem_cons_succ, List.getElem_cons_zero, Act.put, List.setIfInBounds_toArray, List.set_cons_zero, List.set_cons_succ]
                  refine wpAnyH_take (i := 5) (v := .pointer (some ⟨B, 1, none⟩)) rfl (by kernel_rfl) (by kernel_rfl) (by kernel_rfl) (fun _ _ _ h => h) (.inl ⟨by rfl, fun w' hS' => by first | (go_simp; done) | (go_simp; rfl) | (go_simp; intro h; omega) | (go_simp; omega)⟩) hH ?_
                  simp only [List.getElem_toArray, List.getElem_cons_succ, List.getElem_cons_zero, Act.put, List.setIfInBounds_toArray, List.set_cons_zero, List.set_cons_succ]
                  refine wpAnyH_take (i := 6) (v := .int .i64 (j2 : Int)) rfl (by kernel_rfl) (by kernel_rfl) (by kernel_rfl) (fun _ _ _ h => h) (.inl ⟨by rfl, fun w' hS' => by obtain ⟨s0, s1, s2, s3⟩ := hS'; go_simp⟩) hH ?_
                  simp only [List.getElem_toArray, List.getElem_cons_succ, List.getElem_cons_zero, Act.put, List.setIfInBounds_toArray, List.set_cons_zero, List.set_cons_succ]
                  refine wpAnyH_take (i := 7) (v := .string (bs s)) rfl (by kernel_rfl) (by kernel_rfl) (by kernel_rfl) (fun _ _ _ h => h) (.inl ⟨by rfl, fun _ _ => rfl⟩) hH ?_
                  simp only [List.getElem_toArray, List.getElem_cons_succ, List.getElem_cons_zero, Act.put, List.setIfInBounds_toArray, List.set_cons_zero, List.set_cons_succ]
                  refine wpAnyH_take (i := 8) (v := .int .i64 (n : Int)) rfl (by kernel_rfl) (by kernel_rfl) (by kernel_rfl) (fun _ _ _ h => h) (.inl ⟨by rfl, fun w' hS' => by first | (go_simp; done) | (go_simp; rfl) | (go_simp; intro h; omega) | (go_simp; omega)⟩) hH ?_
                  simp only [List.getElem_toArray, List.getElem_cons_succ, List.getElem_cons_zero, Act.put, List.setIfInBounds_toArray, List.set_cons_zero, List.set_cons_succ]
                  refine wpAnyH_take (i := 9) (v := .bool false) rfl (by kernel_rfl) (by kernel_rfl) (by kernel_rfl) (fun _ _ _ h => h) (.inl ⟨by rfl, fun w' hS' => by first | (go_simp; done) | (go_simp; rfl) | (go_simp; intro h; omega) | (go_simp; omega)⟩) hH ?_
                  simp only [List.getElem_toArray, List.getElem_cons_succ, List.getElem_cons_zero, Act.put, List.setIfInBounds_toArray, List.set_cons_zero, List.set_cons_succ]
                  refine wpAnyH_take (i := 10) (v := .bool false) rfl (by kernel_rfl) (by kernel_rfl) (by kernel_rfl) (fun _ _ _ h => h) (.inl ⟨by rfl, fun _ _ => rfl⟩) hH ?_
                  simp only [List.getElem_toArray, List.getElem_cons_succ, List.getElem_cons_zero, Act.put, List.setIfInBounds_toArray, List.set_cons_zero, List.set_cons_succ]
                  refine wpAnyH_ready (rs := [11]) (by kernel_rfl) (by simp) ?_
                  refine AllReadyH.cons rfl (fun K hK => ?_) AllReadyH.nil
                  simp only [List.getElem_toArray, List.getElem_cons_succ, List.getElem_cons_zero]
                  rw [if_pos (by rfl)]
                  go_wp2_with fail
                  rw [HW.out]
                  refine hK.out _ _ HSW.out (fun hH => ?_)
                  clear hK
                  refine wpAnyH_take (i := 12) (v := .bool false) rfl (by kernel_rfl) (by kernel_rfl) (by kernel_rfl) (fun _ _ _ h => h) (.inl ⟨by rfl, fun _ _ => rfl⟩) hH ?_
                  simp only [List.getElem_toArray, List.getElem_cons_succ, List.getElem_cons_zero, Act.put, List.setIfInBounds_toArray, List.set_cons_zero, List.set_cons_succ]
                  refine wpAnyH_done (by kernel_rfl) ?_ _
                  clear hH
                  have hbW2 : Box3 W.drew R (.int .i64 ((C : Int) - 96)) (.slice a1 m1 c1) (.slice a2 m2 c2) := ⟨hbW.1, hbW.2.1, hbW.2.2.1, hbW.2.2.2⟩
                  have bW2 := bW.drew
                  obtain ⟨W2, HW2⟩ : ∃ u, Hid (W.drew = u) := ⟨_, rfl⟩
                  rw [HW2.out] at hbW2 bW2 
                  rw [HW2.out]
                  clear t0 t1 t2 q1 x0 x1 x2 g0 g1 g2 HSW
                  go_wp2
                  exact bodyPost_ret (v := .tuple #[.agg #[.int .i64 ((C : Int) - 96), .slice a1 m1 c1, .slice a2 m2 c2], .bool false]) (results_tran rfl rfl rfl hbW2.2.1 hbW2.2.2.1 hbW2.2.2.2) rfl ⟨otran_bad Hbad.out, bW2⟩
              · have Hbad : Hid (LineIs P s noTran false) := oline_side2 Hu1.out hno2
                have hSt9 := hSt8.set2 (.slice none 0 0)
                obtain ⟨w9, H9⟩ : ∃ u, Hid (w8.setCell ⟨T, 2, none⟩ (.slice none 0 0) = u) := ⟨_, rfl⟩
                rw [H9.out] at hSt9
                rw [H9.out]
                clear hSi hR8 hO8 hSt8 hSt7 u2 uf2 hno2
                have HS9 : Hid (TrSt w w9 B T R s j2 ((C : Int) - 96) (.slice a1 m1 c1) (.slice none 0 0)) := hSt9
                obtain ⟨_, t0, t1, t2⟩ := id HS9.out.t
                obtain ⟨_, _, q1⟩ := id HS9.out.rd.box
                obtain ⟨_, x0, x1, x2⟩ := id HS9.out.r
                have g0 := HS9.out.rf 0
                have g1 := HS9.out.rf 1
                have g2 := HS9.out.rf 2
                have bd := HS9.out.b
                have nTR := HS9.out.ne.2.2.1
                have nBR := HS9.out.ne.2.1
                have hRd : Box3 w9 R (.int .i64 0) (.slice none 0 0) (.slice none 0 0) := ⟨HS9.out.r.1, x0, x1, x2⟩
                have hbW := box3_set hRd (.int .i64 ((C : Int) - 96)) (.slice a1 m1 c1) (.slice none 0 0)
                have bW := ((bd.setCell (p := ⟨R, 0, none⟩) hR9.out (.int .i64 ((C : Int) - 96))).setCell (p := ⟨R, 1, none⟩) hR9.out (.slice a1 m1 c1)).setCell (p := ⟨R, 2, none⟩) hR9.out (.slice none 0 0)
                have hSW : ∀ (p : Addr), p.block ≠ R → (((w9.setCell ⟨R, 0, none⟩ (.int .i64 ((C : Int) - 96))).setCell ⟨R, 1, none⟩ (.slice a1 m1 c1)).setCell ⟨R, 2, none⟩ (.slice none 0 0)).cell? p = w9.cell? p := fun p hp => by
                  rw [World.cell?_setCell_other _ _ _ _ (by intro q; exact hp (congrArg Addr.block q.symm)), World.cell?_setCell_other _ _ _ _ (by intro q; exact hp (congrArg Addr.block q.symm)), World.cell?_setCell_other _ _ _ _ (by intro q; exact hp (congrArg Addr.block q.symm))]
                have HSW : Hid ((((w9.setCell ⟨R, 0, none⟩ (.int .i64 ((C : Int) - 96))).setCell ⟨R, 1, none⟩ (.slice a1 m1 c1)).setCell ⟨R, 2, none⟩ (.slice none 0 0)).cell? ⟨T, 0, none⟩ = some (.int .i64 ((C : Int) - 96)) ∧ (((w9.setCell ⟨R, 0, none⟩ (.int .i64 ((C : Int) - 96))).setCell ⟨R, 1, none⟩ (.slice a1 m1 c1)).setCell ⟨R, 2, none⟩ (.slice none 0 0)).cell? ⟨T, 1, none⟩ = some (.slice a1 m1 c1) ∧ (((w9.setCell ⟨R, 0, none⟩ (.int .i64 ((C : Int) - 96))).setCell ⟨R, 1, none⟩ (.slice a1 m1 c1)).setCell ⟨R, 2, none⟩ (.slice none 0 0)).cell? ⟨T, 2, none⟩ = some (.slice none 0 0) ∧ (((w9.setCell ⟨R, 0, none⟩ (.int .i64 ((C : Int) - 96))).setCell ⟨R, 1, none⟩ (.slice a1 m1 c1)).setCell ⟨R, 2, none⟩ (.slice none 0 0)).cell? ⟨B, 1, none⟩ = some (.int .i64 (j2 : Int))) :=
                  ⟨(hSW _ nTR).trans t0, (hSW _ nTR).trans t1, (hSW _ nTR).trans t2, (hSW _ nBR).trans q1⟩
                clear hSW
                obtain ⟨W, HW⟩ : ∃ u, Hid (((w9.setCell ⟨R, 0, none⟩ (.int .i64 ((C : Int) - 96))).setCell ⟨R, 1, none⟩ (.slice a1 m1 c1)).setCell ⟨R, 2, none⟩ (.slice none 0 0) = u) := ⟨_, rfl⟩
                have hnone : True := trivial
                rw [HW.out] at hbW bW HSW
                go_upto_region 11 with fail
                refine wp_region_held_drew (S := (fun w' => w'.cell? ⟨T, 0, none⟩ = some (.int .i64 ((C : Int) - 96)) ∧ w'.cell? ⟨T, 1, none⟩ = some (.slice a1 m1 c1) ∧ w'.cell? ⟨T, 2, none⟩ = some (.slice none 0 0) ∧ w'.cell? ⟨B, 1, none⟩ = some (.int .i64 (j2 : Int)))) (by kernel_rfl) ⟨t0, t1, t2, q1⟩ (fun hH => ?_)
                refine wpAnyH_take (i := 0) (v := .agg #[.int .i64 ((C : Int) - 96), .slice a1 m1 c1, .slice none 0 0]) rfl (by kernel_rfl) (by kernel_rfl) (by kernel_rfl) (fun _ _ _ h => h) (.inl ⟨by rfl, fun w' hS' => by obtain ⟨s0, s1, s2, s3⟩ := hS'; go_simp⟩) hH ?_
                simp only [List.getElem_toArray, List.getElem_cons_succ, List.getElem_cons_zero, Act.put, List.setIfInBounds_toArray, List.set_cons_zero, List.set_cons_succ]
                refine wpAnyH_take (i := 1) (v := .bool false) rfl (by kernel_rfl) (by kernel_rfl) (by kernel_rfl) (fun _ _ _ h => h) (.inl ⟨by rfl, fun _ _ => rfl⟩) hH ?_
                simp only [List.getElem_toArray, List.getElem_cons_succ, List.getElem_cons_zero, Act.put, List.setIfInBounds_toArray, List.set_cons_zero, List.set_cons_succ]
                refine wpAnyH_take (i := 2) (v := .bool false) rfl (by kernel_rfl) (by kernel_rfl) (by kernel_rfl) (fun _ _ _ h => h) (.inl ⟨by rfl, fun _ _ => rfl⟩) hH ?_
                simp only [List.getElem_toArray, List.getElem_cons_succ, List.getElem_cons_zero, Act.put, List.setIfInBounds_toArray, List.set_cons_zero, List.set_cons_succ]
                refine wpAnyH_take (i := 3) (v := undef) rfl (by kernel_rfl) (by kernel_rfl) (by kernel_rfl) (fun _ _ _ h => h) (.inr ⟨by rfl, rfl⟩) hH ?_
                simp only [List.getElem_toArray, List.getElem_cons_succ, List.getElem_cons_zero, Act.put, List.setIfInBounds_toArray, List.set_cons_zero, List.set_cons_succ]
                refine wpAnyH_take (i := 4) (v := undef) rfl (by kernel_rfl) (by kernel_rfl) (by kernel_rfl) (fun _ _ _ h => h) (.inr ⟨by rfl, rfl⟩) hH ?_
                simp only [List.getElem_toArray, List.getElem_cons_succ, List.getElem_cons_zero, Act.put, List.setIfInBounds_toArray, List.set_cons_zero, List.set_cons_succ]
                refine wpAnyH_take (i := 5) (v := undef) rfl (by kernel_rfl) (by kernel_rfl) (by kernel_rfl) (fun _ _ _ h => h) (.inr ⟨by rfl, rfl⟩) hH ?_
                simp only [List.getElem_toArray, List.getElem_cons_succ, List.getElem_cons_zero, Act.put, List.setIfInBounds_toArray, List.set_cons_zero, List.set_cons_succ]
                refine wpAnyH_take (i := 6) (v := undef) rfl (by kernel_rfl) (by kernel_rfl) (by kernel_rfl) (fun _ _ _ h => h) (.inr ⟨by rfl, rfl⟩) hH ?_
                simp only [List.getElem_toArray, List.getElem_cons_succ, List.getElem_cons_zero, Act.put, List.setIfInBounds_toArray, List.set_cons_zero, List.set_cons_succ]
                refine wpAnyH_take (i := 7) (v := undef) rfl (by kernel_rfl) (by kernel_rfl) (by kernel_rfl) (fun _ _ _ h => h) (.inr ⟨by rfl, rfl⟩) hH ?_
                simp only [List.getElem_toArray, List.getElem_cons_succ, List.getElem_cons_zero, Act.put, List.setIfInBounds_toArray, List.set_cons_zero, List.set_cons_succ]
                refine wpAnyH_take (i := 8) (v := undef) rfl (by kernel_rfl) (by kernel_rfl) (by kernel_rfl) (fun _ _ _ h => h) (.inr ⟨by rfl, rfl⟩) hH ?_
                simp only [List.getElem_toArray, List.getElem_cons_succ, List.getElem_cons_zero, Act.put, List.setIfInBounds_toArray, List.set_cons_zero, List.set_cons_succ]
                refine wpAnyH_take (i := 9) (v := undef) rfl (by kernel_rfl) (by kernel_rfl) (by kernel_rfl) (fun _ _ _ h => h) (.inr ⟨by rfl, rfl⟩) hH ?_
                simp only [List.getElem_toArray, List.getElem_cons_succ, List.getElem_cons_zero, Act.put, List.setIfInBounds_toArray, List.set_cons_zero, List.set_cons_succ]
                refine wpAnyH_take (i := 10) (v := .bool false) rfl (by kernel_rfl) (by kernel_rfl) (by kernel_rfl) (fun _ _ _ h => h) (.inl ⟨by rfl, fun _ _ => rfl⟩) hH ?_
                simp only [List.getElem_toArray, List.getElem_cons_succ, List.getElem_cons_zero, Act.put, List.setIfInBounds_toArray, List.set_cons_zero, List.set_cons_succ]
                refine wpAnyH_ready (rs := [11]) (by kernel_rfl) (by simp) ?_
                refine AllReadyH.cons rfl (fun K hK => ?_) AllReadyH.nil
                simp only [List.getElem_toArray, List.getElem_cons_succ, List.getElem_cons_zero]
                rw [if_pos (by rfl)]
                go_wp2_with fail
                rw [HW.out]
                refine hK.out _ _ HSW.out (fun hH => ?_)
                clear hK
                refine wpAnyH_take (i := 12) (v := .bool false) rfl (by kernel_rfl) (by kernel_rfl) (by kernel_rfl) (fun _ _ _ h => h) (.inl ⟨by rfl, fun _ _ => rfl⟩) hH ?_
                simp only [List.getElem_toArray, List.getElem_cons_succ, List.getElem_cons_zero, Act.put, List.setIfInBounds_toArray, List.set_cons_zero, List.set_cons_succ]
                refine wpAnyH_done (by kernel_rfl) ?_ _
                clear hH
                have hbW2 : Box3 W.drew R (.int .i64 ((C : Int) - 96)) (.slice a1 m1 c1) (.slice none 0 0) := ⟨hbW.1, hbW.2.1, hbW.2.2.1, hbW.2.2.2⟩
                have bW2 := bW.drew
                obtain ⟨W2, HW2⟩ : ∃ u, Hid (W.drew = u) := ⟨_, rfl⟩
                rw [HW2.out] at hbW2 bW2 
                rw [HW2.out]
                clear t0 t1 t2 q1 x0 x1 x2 g0 g1 g2 HSW
                go_wp2
                exact bodyPost_ret (v := .tuple #[.agg #[.int .i64 ((C : Int) - 96), .slice a1 m1 c1, .slice none 0 0], .bool false]) (results_tran rfl rfl rfl hbW2.2.1 hbW2.2.2.1 hbW2.2.2.2) rfl ⟨otran_bad Hbad.out, bW2⟩
            · have Hbad : Hid (LineIs P s noTran false) := oline_two Hu1.out hp
              go_upto_region 11 with (go_at_call 24; refine hSk.mono ?_; rintro e w7 ⟨hSk2, hO7⟩; obtain ⟨rfl, hR7⟩ := skip_no hSk2 hp)
              have hSt9 := hSt6.only hO7 hR7
              clear hSk hSk2 hp hO7 hR7 hSt6 hOn6
              have HS9 : Hid (TrSt w w7 B T R s j1 ((C : Int) - 96) (.slice a1 m1 c1) (.slice none 0 0)) := hSt9
              obtain ⟨_, t0, t1, t2⟩ := id HS9.out.t
              obtain ⟨_, _, q1⟩ := id HS9.out.rd.box
              obtain ⟨_, x0, x1, x2⟩ := id HS9.out.r
              have g0 := HS9.out.rf 0
              have g1 := HS9.out.rf 1
              have g2 := HS9.out.rf 2
              have bd := HS9.out.b
              have nTR := HS9.out.ne.2.2.1
              have nBR := HS9.out.ne.2.1
              have hRd : Box3 w7 R (.int .i64 0) (.slice none 0 0) (.slice none 0 0) := ⟨HS9.out.r.1, x0, x1, x2⟩
              have hbW := box3_set hRd (.int .i64 ((C : Int) - 96)) (.slice a1 m1 c1) (.slice none 0 0)
              have bW := ((bd.setCell (p := ⟨R, 0, none⟩) hR9.out (.int .i64 ((C : Int) - 96))).setCell (p := ⟨R, 1, none⟩) hR9.out (.slice a1 m1 c1)).setCell (p := ⟨R, 2, none⟩) hR9.out (.slice none 0 0)
              have hSW : ∀ (p : Addr), p.block ≠ R → (((w7.setCell ⟨R, 0, none⟩ (.int .i64 ((C : Int) - 96))).setCell ⟨R, 1, none⟩ (.slice a1 m1 c1)).setCell ⟨R, 2, none⟩ (.slice none 0 0)).cell? p = w7.cell? p := fun p hp => by
                rw [World.cell?_setCell_other _ _ _ _ (by intro q; exact hp (congrArg Addr.block q.symm)), World.cell?_setCell_other _ _ _ _ (by intro q; exact hp (congrArg Addr.block q.symm)), World.cell?_setCell_other _ _ _ _ (by intro q; exact hp (congrArg Addr.block q.symm))]
              have HSW : Hid ((((w7.setCell ⟨R, 0, none⟩ (.int .i64 ((C : Int) - 96))).setCell ⟨R, 1, none⟩ (.slice a1 m1 c1)).setCell ⟨R, 2, none⟩ (.slice none 0 0)).cell? ⟨T, 0, none⟩ = some (.int .i64 ((C : Int) - 96)) ∧ (((w7.setCell ⟨R, 0, none⟩ (.int .i64 ((C : Int) - 96))).setCell ⟨R, 1, none⟩ (.slice a1 m1 c1)).setCell ⟨R, 2, none⟩ (.slice none 0 0)).cell? ⟨T, 1, none⟩ = some (.slice a1 m1 c1) ∧ (((w7.setCell ⟨R, 0, none⟩ (.int .i64 ((C : Int) - 96))).setCell ⟨R, 1, none⟩ (.slice a1 m1 c1)).setCell ⟨R, 2, none⟩ (.slice none 0 0)).cell? ⟨T, 2, none⟩ = some (.slice none 0 0) ∧ (((w7.setCell ⟨R, 0, none⟩ (.int .i64 ((C : Int) - 96))).setCell ⟨R, 1, none⟩ (.slice a1 m1 c1)).setCell ⟨R, 2, none⟩ (.slice none 0 0)).cell? ⟨B, 1, none⟩ = some (.int .i64 (j1 : Int))) :=
                ⟨(hSW _ nTR).trans t0, (hSW _ nTR).trans t1, (hSW _ nTR).trans t2, (hSW _ nBR).trans q1⟩
              clear hSW
              obtain ⟨W, HW⟩ : ∃ u, Hid (((w7.setCell ⟨R, 0, none⟩ (.int .i64 ((C : Int) - 96))).setCell ⟨R, 1, none⟩ (.slice a1 m1 c1)).setCell ⟨R, 2, none⟩ (.slice none 0 0) = u) := ⟨_, rfl⟩
              have hnone : True := trivial
              rw [HW.out] at hbW bW HSW
              go_upto_region 11 with fail
              refine wp_region_held_drew (S := (fun w' => w'.cell? ⟨T, 0, none⟩ = some (.int .i64 ((C : Int) - 96)) ∧ w'.cell? ⟨T, 1, none⟩ = some (.slice a1 m1 c1) ∧ w'.cell? ⟨T, 2, none⟩ = some (.slice none 0 0) ∧ w'.cell? ⟨B, 1, none⟩ = some (.int .i64 (j1 : Int)))) (by kernel_rfl) ⟨t0, t1, t2, q1⟩ (fun hH => ?_)
              refine wpAnyH_take (i := 0) (v := .agg #[.int .i64 ((C : Int) - 96), .slice a1 m1 c1, .slice none 0 0]) rfl (by kernel_rfl) (by kernel_rfl) (by kernel_rfl) (fun _ _ _ h => h) (.inl ⟨by rfl, fun w' hS' => by obtain ⟨s0, s1, s2, s3⟩ := hS'; go_simp⟩) hH ?_
              simp only [List.getElem_toArray, List.getElem_cons_succ, List.getElem_cons_zero, Act.put, List.setIfInBounds_toArray, List.set_cons_zero, List.set_cons_succ]
              refine wpAnyH_take (i := 1) (v := .bool false) rfl (by kernel_rfl) (by kernel_rfl) (by kernel_rfl) (fun _ _ _ h => h) (.inl ⟨by rfl, fun _ _ => rfl⟩) hH ?_
              simp only [List.getElem_toArray, List.getElem_cons_succ, List.getElem_cons_zero, Act.put, List.setIfInBounds_toArray, List.set_cons_zero, List.set_cons_succ]
              refine wpAnyH_take (i := 2) (v := .bool false) rfl (by kernel_rfl) (by kernel_rfl) (by kernel_rfl) (fun _ _ _ h => h) (.inl ⟨by rfl, fun _ _ => rfl⟩) hH ?_
              simp only [List.getElem_toArray, List.getElem_cons_succ, List.getElem_cons_zero, Act.put, List.setIfInBounds_toArray, List.set_cons_zero, List.set_cons_succ]
              refine wpAnyH_take (i := 3) (v := undef) rfl (by kernel_rfl) (by kernel_rfl) (by kernel_rfl) (fun _ _ _ h => h) (.inr ⟨by rfl, rfl⟩) hH ?_
              simp only [List.getElem_toArray, List.getElem_cons_succ, List.getElem_cons_zero, Act.put, List.setIfInBounds_toArray, List.set_cons_zero, List.set_cons_succ]
              refine wpAnyH_take (i := 4) (v := undef) rfl (by kernel_rfl) (by kernel_rfl) (by kernel_rfl) (fun _ _ _ h => h) (.inr ⟨by rfl, rfl⟩) hH ?_
              simp only [List.getElem_toArray, List.getElem_cons_succ, List.getElem_cons_zero, Act.put, List.setIfInBounds_toArray, List.set_cons_zero, List.set_cons_succ]
              refine wpAnyH_take (i := 5) (v := undef) rfl (by kernel_rfl) (by kernel_rfl) (by kernel_rfl) (fun _ _ _ h => h) (.inr ⟨by rfl, rfl⟩) hH ?_
              simp only [List.getElem_toArray, List.getElem_cons_succ, List.getElem_cons_zero, Act.put, List.setIfInBounds_toArray, List.set_cons_zero, List.set_cons_succ]
              refine wpAnyH_take (i := 6) (v := undef) rfl (by kernel_rfl) (by kernel_rfl) (by kernel_rfl) (fun _ _ _ h => h) (.inr ⟨by rfl, rfl⟩) hH ?_
              simp only [List.getElem_toArray, List.getElem_cons_succ, List.getElem_cons_zero, Act.put, List.setIfInBounds_toArray, List.set_cons_zero, List.set_cons_succ]
              refine wpAnyH_take (i := 7) (v := undef) rfl (by kernel_rfl) (by kernel_rfl) (by kernel_rfl) (fun _ _ _ h => h) (.inr ⟨by rfl, rfl⟩) hH ?_
              simp only [List.getElem_toArray, List.getElem_cons_succ, List.getElem_cons_zero, Act.put, List.setIfInBounds_toArray, List.set_cons_zero, List.set_cons_succ]
              refine wpAnyH_take (i := 8) (v := undef) rfl (by kernel_rfl) (by kernel_rfl) (by kernel_rfl) (fun _ _ _ h => h) (.inr ⟨by rfl, rfl⟩) hH ?_
              simp only [List.getElem_toArray, List.getElem_cons_succ, List.getElem_cons_zero, Act.put, List.setIfInBounds_toArray, List.set_cons_zero, List.set_cons_succ]
              refine wpAnyH_take (i := 9) (v := undef) rfl (by kernel_rfl) (by kernel_rfl) (by kernel_rfl) (fun _ _ _ h => h) (.inr ⟨by rfl, rfl⟩) hH ?_
              simp only [List.getElem_toArray, List.getElem_cons_succ, List.getElem_cons_zero, Act.put, List.setIfInBounds_toArray, List.set_cons_zero, List.set_cons_succ]
              refine wpAnyH_take (i := 10) (v := .bool false) rfl (by kernel_rfl) (by kernel_rfl) (by kernel_rfl) (fun _ _ _ h => h) (.inl ⟨by rfl, fun _ _ => rfl⟩) hH ?_
              simp only [List.getElem_toArray, List.getElem_cons_succ, List.getElem_cons_zero, Act.put, List.setIfInBounds_toArray, List.set_cons_zero, List.set_cons_succ]
              refine wpAnyH_ready (rs := [11]) (by kernel_rfl) (by simp) ?_
              refine AllReadyH.cons rfl (fun K hK => ?_) AllReadyH.nil
              simp only [List.getElem_toArray, List.getElem_cons_succ, List.getElem_cons_zero]
              rw [if_pos (by rfl)]
              go_wp2_with fail
              rw [HW.out]
              refine hK.out _ _ HSW.out (fun hH => ?_)
              clear hK
              refine wpAnyH_take (i := 12) (v := .bool false) rfl (by kernel_rfl) (by kernel_rfl) (by kernel_rfl) (fun _ _ _ h => h) (.inl ⟨by rfl, fun _ _ => rfl⟩) hH ?_
              simp only [List.getElem_toArray, List.getElem_cons_succ, List.getElem_cons_zero, Act.put, List.setIfInBounds_toArray, List.set_cons_zero, List.set_cons_succ]
              refine wpAnyH_done (by kernel_rfl) ?_ _
              clear hH
              have hbW2 : Box3 W.drew R (.int .i64 ((C : Int) - 96)) (.slice a1 m1 c1) (.slice none 0 0) := ⟨hbW.1, hbW.2.1, hbW.2.2.1, hbW.2.2.2⟩
              have bW2 := bW.drew
              obtain ⟨W2, HW2⟩ : ∃ u, Hid (W.drew = u) := ⟨_, rfl⟩
              rw [HW2.out] at hbW2 bW2 
              rw [HW2.out]
              clear t0 t1 t2 q1 x0 x1 x2 g0 g1 g2 HSW
              go_wp2
              exact bodyPost_ret (v := .tuple #[.agg #[.int .i64 ((C : Int) - 96), .slice a1 m1 c1, .slice none 0 0], .bool false]) (results_tran rfl rfl rfl hbW2.2.1 hbW2.2.2.1 hbW2.2.2.2) rfl ⟨otran_bad Hbad.out, bW2⟩
          · have Hbad : Hid (LineIs P s noTran false) := oline_side1 hno1
            have hSt6 := hSt5.set1 (.slice none 0 0)
            obtain ⟨w6, H6⟩ : ∃ u, Hid (w5.setCell ⟨T, 1, none⟩ (.slice none 0 0) = u) := ⟨_, rfl⟩
            rw [H6.out] at hSt6
            rw [H6.out]
            clear hSi hR5 hO5 hSt5 hSt4 u1 uf1 hno1
            have HS9 : Hid (TrSt w w6 B T R s j1 ((C : Int) - 96) (.slice none 0 0) (.slice none 0 0)) := hSt6
            obtain ⟨_, t0, t1, t2⟩ := id HS9.out.t
            obtain ⟨_, _, q1⟩ := id HS9.out.rd.box
            obtain ⟨_, x0, x1, x2⟩ := id HS9.out.r
            have g0 := HS9.out.rf 0
            have g1 := HS9.out.rf 1
            have g2 := HS9.out.rf 2
            have bd := HS9.out.b
            have nTR := HS9.out.ne.2.2.1
            have nBR := HS9.out.ne.2.1
            have hRd : Box3 w6 R (.int .i64 0) (.slice none 0 0) (.slice none 0 0) := ⟨HS9.out.r.1, x0, x1, x2⟩
            have hbW := box3_set hRd (.int .i64 ((C : Int) - 96)) (.slice none 0 0) (.slice none 0 0)
            have bW := ((bd.setCell (p := ⟨R, 0, none⟩) hR9.out (.int .i64 ((C : Int) - 96))).setCell (p := ⟨R, 1, none⟩) hR9.out (.slice none 0 0)).setCell (p := ⟨R, 2, none⟩) hR9.out (.slice none 0 0)
            have hSW : ∀ (p : Addr), p.block ≠ R → (((w6.setCell ⟨R, 0, none⟩ (.int .i64 ((C : Int) - 96))).setCell ⟨R, 1, none⟩ (.slice none 0 0)).setCell ⟨R, 2, none⟩ (.slice none 0 0)).cell? p = w6.cell? p := fun p hp => by
              rw [World.cell?_setCell_other _ _ _ _ (by intro q; exact hp (congrArg Addr.block q.symm)), World.cell?_setCell_other _ _ _ _ (by intro q; exact hp (congrArg Addr.block q.symm)), World.cell?_setCell_other _ _ _ _ (by intro q; exact hp (congrArg Addr.block q.symm))]
            have HSW : Hid ((((w6.setCell ⟨R, 0, none⟩ (.int .i64 ((C : Int) - 96))).setCell ⟨R, 1, none⟩ (.slice none 0 0)).setCell ⟨R, 2, none⟩ (.slice none 0 0)).cell? ⟨T, 0, none⟩ = some (.int .i64 ((C : Int) - 96)) ∧ (((w6.setCell ⟨R, 0, none⟩ (.int .i64 ((C : Int) - 96))).setCell ⟨R, 1, none⟩ (.slice none 0 0)).setCell ⟨R, 2, none⟩ (.slice none 0 0)).cell? ⟨T, 1, none⟩ = some (.slice none 0 0) ∧ (((w6.setCell ⟨R, 0, none⟩ (.int .i64 ((C : Int) - 96))).setCell ⟨R, 1, none⟩ (.slice none 0 0)).setCell ⟨R, 2, none⟩ (.slice none 0 0)).cell? ⟨T, 2, none⟩ = some (.slice none 0 0) ∧ (((w6.setCell ⟨R, 0, none⟩ (.int .i64 ((C : Int) - 96))).setCell ⟨R, 1, none⟩ (.slice none 0 0)).setCell ⟨R, 2, none⟩ (.slice none 0 0)).cell? ⟨B, 1, none⟩ = some (.int .i64 (j1 : Int))) :=
              ⟨(hSW _ nTR).trans t0, (hSW _ nTR).trans t1, (hSW _ nTR).trans t2, (hSW _ nBR).trans q1⟩
            clear hSW
            obtain ⟨W, HW⟩ : ∃ u, Hid (((w6.setCell ⟨R, 0, none⟩ (.int .i64 ((C : Int) - 96))).setCell ⟨R, 1, none⟩ (.slice none 0 0)).setCell ⟨R, 2, none⟩ (.slice none 0 0) = u) := ⟨_, rfl⟩
            have hnone : True := trivial
            rw [HW.out] at hbW bW HSW
            go_upto_region 11 with fail
            refine wp_region_held_drew (S := (fun w' => w'.cell? ⟨T, 0, none⟩ = some (.int .i64 ((C : Int) - 96)) ∧ w'.cell? ⟨T, 1, none⟩ = some (.slice none 0 0) ∧ w'.cell? ⟨T, 2, none⟩ = some (.slice none 0 0) ∧ w'.cell? ⟨B, 1, none⟩ = some (.int .i64 (j1 : Int)))) (by kernel_rfl) ⟨t0, t1, t2, q1⟩ (fun hH => ?_)
            refine wpAnyH_take (i := 0) (v := .agg #[.int .i64 ((C : Int) - 96), .slice none 0 0, .slice none 0 0]) rfl (by kernel_rfl) (by kernel_rfl) (by kernel_rfl) (fun _ _ _ h => h) (.inl ⟨by rfl, fun w' hS' => by obtain ⟨s0, s1, s2, s3⟩ := hS'; go_simp⟩) hH ?_
            simp only [List.getElem_toArray, List.getElem_cons_succ, List.getElem_cons_zero, Act.put, List.setIfInBounds_toArray, List.set_cons_zero, List.set_cons_succ]
            refine wpAnyH_take (i := 1) (v := .bool false) rfl (by kernel_rfl) (by kernel_rfl) (by kernel_rfl) (fun _ _ _ h => h) (.inl ⟨by rfl, fun _ _ => rfl⟩) hH ?_
            simp only [List.getElem_toArray, List.getElem_cons_succ, List.getElem_cons_zero, Act.put, List.setIfInBounds_toArray, List.set_cons_zero, List.set_cons_succ]
            refine wpAnyH_take (i := 2) (v := .bool false) rfl (by kernel_rfl) (by kernel_rfl) (by kernel_rfl) (fun _ _ _ h => h) (.inl ⟨by rfl, fun _ _ => rfl⟩) hH ?_
            simp only [List.getElem_toArray, List.getElem_cons_succ, List.getElem_cons_zero, Act.put, List.setIfInBounds_toArray, List.set_cons_zero, List.set_cons_succ]
            refine wpAnyH_take (i := 3) (v := undef) rfl (by kernel_rfl) (by kernel_rfl) (by kernel_rfl) (fun _ _ _ h => h) (.inr ⟨by rfl, rfl⟩) hH ?_
            simp only [List.getElem_toArray, List.getElem_cons_succ, List.getElem_cons_zero, Act.put, List.setIfInBounds_toArray, List.set_cons_zero, List.set_cons_succ]
            refine wpAnyH_take (i := 4) (v := undef) rfl (by kernel_rfl) (by kernel_rfl) (by kernel_rfl) (fun _ _ _ h => h) (.inr ⟨by rfl, rfl⟩) hH ?_
            simp only [List.getElem_toArray, List.getElem_cons_succ, List.getElem_cons_zero, Act.put, List.setIfInBounds_toArray, List.set_cons_zero, List.set_cons_succ]
            refine wpAnyH_take (i := 5) (v := undef) rfl (by kernel_rfl) (by kernel_rfl) (by kernel_rfl) (fun _ _ _ h => h) (.inr ⟨by rfl, rfl⟩) hH ?_
            simp only [List.getElem_toArray, List.getElem_cons_succ, List.getElem_cons_zero, Act.put, List.setIfInBounds_toArray, List.set_cons_zero, List.set_cons_succ]
            refine wpAnyH_take (i := 6) (v := undef) rfl (by kernel_rfl) (by kernel_rfl) (by kernel_rfl) (fun _ _ _ h => h) (.inr ⟨by rfl, rfl⟩) hH ?_
            simp only [List.getElem_toArray, List.getElem_cons_succ, List.getElem_cons_zero, Act.put, List.setIfInBounds_toArray, List.set_cons_zero, List.set_cons_succ]
            refine wpAnyH_take (i := 7) (v := undef) rfl (by kernel_rfl) (by kernel_rfl) (by kernel_rfl) (fun _ _ _ h => h) (.inr ⟨by rfl, rfl⟩) hH ?_
            simp only [List.getElem_toArray, List.getElem_cons_succ, List.getElem_cons_zero, Act.put, List.setIfInBounds_toArray, List.set_cons_zero, List.set_cons_succ]
            refine wpAnyH_take (i := 8) (v := undef) rfl (by kernel_rfl) (by kernel_rfl) (by kernel_rfl) (fun _ _ _ h => h) (.inr ⟨by rfl, rfl⟩) hH ?_
            simp only [List.getElem_toArray, List.getElem_cons_succ, List.getElem_cons_zero, Act.put, List.setIfInBounds_toArray, List.set_cons_zero, List.set_cons_succ]
            refine wpAnyH_take (i := 9) (v := undef) rfl (by kernel_rfl) (by kernel_rfl) (by kernel_rfl) (fun _ _ _ h => h) (.inr ⟨by rfl, rfl⟩) hH ?_
            simp only [List.getElem_toArray, List.getElem_cons_succ, List.getElem_cons_zero, Act.put, List.setIfInBounds_toArray, List.set_cons_zero, List.set_cons_succ]
            refine wpAnyH_take (i := 10) (v := .bool false) rfl (by kernel_rfl) (by kernel_rfl) (by kernel_rfl) (fun _ _ _ h => h) (.inl ⟨by rfl, fun _ _ => rfl⟩) hH ?_
            simp only [List.getElem_toArray, List.getElem_cons_succ, List.getElem_cons_zero, Act.put, List.setIfInBounds_toArray, List.set_cons_zero, List.set_cons_succ]
            refine wpAnyH_ready (rs := [11]) (by kernel_rfl) (by simp) ?_
            refine AllReadyH.cons rfl (fun K hK => ?_) AllReadyH.nil
            simp only [List.getElem_toArray, List.getElem_cons_succ, List.getElem_cons_zero]
            rw [if_pos (by rfl)]
            go_wp2_with fail
            rw [HW.out]
            refine hK.out _ _ HSW.out (fun hH => ?_)
            clear hK
            refine wpAnyH_take (i := 12) (v := .bool false) rfl (by kernel_rfl) (by kernel_rfl) (by kernel_rfl) (fun _ _ _ h => h) (.inl ⟨by rfl, fun _ _ => rfl⟩) hH ?_
            simp only [List.getElem_toArray, List.getElem_cons_succ, List.getElem_cons_zero, Act.put, List.setIfInBounds_toArray, List.set_cons_zero, List.set_cons_succ]
            refine wpAnyH_done (by kernel_rfl) ?_ _
            clear hH
            have hbW2 : Box3 W.drew R (.int .i64 ((C : Int) - 96)) (.slice none 0 0) (.slice none 0 0) := ⟨hbW.1, hbW.2.1, hbW.2.2.1, hbW.2.2.2⟩
            have bW2 := bW.drew
            obtain ⟨W2, HW2⟩ : ∃ u, Hid (W.drew = u) := ⟨_, rfl⟩
            rw [HW2.out] at hbW2 bW2 
            rw [HW2.out]
            clear t0 t1 t2 q1 x0 x1 x2 g0 g1 g2 HSW
            go_wp2
            exact bodyPost_ret (v := .tuple #[.agg #[.int .i64 ((C : Int) - 96), .slice none 0 0, .slice none 0 0], .bool false]) (results_tran rfl rfl rfl hbW2.2.1 hbW2.2.2.1 hbW2.2.2.2) rfl ⟨otran_bad Hbad.out, bW2⟩
        · have Hbad : Hid (LineIs P s noTran false) := oline_one hp
          go_upto_region 11 with (go_at_call 24; refine hSk.mono ?_; rintro e w4 ⟨hSk2, hO4⟩; obtain ⟨rfl, hR4⟩ := skip_no hSk2 hp)
          have hSt4 := hSt.only hO4 hR4
          clear hSk hSk2 hp hO4 hR4 hSt
          have HS9 : Hid (TrSt w w4 B T R s ((1 : Nat)) ((C : Int) - 96) (.slice none 0 0) (.slice none 0 0)) := hSt4
          obtain ⟨_, t0, t1, t2⟩ := id HS9.out.t
          obtain ⟨_, _, q1⟩ := id HS9.out.rd.box
          obtain ⟨_, x0, x1, x2⟩ := id HS9.out.r
          have g0 := HS9.out.rf 0
          have g1 := HS9.out.rf 1
          have g2 := HS9.out.rf 2
          have bd := HS9.out.b
          have nTR := HS9.out.ne.2.2.1
          have nBR := HS9.out.ne.2.1
          have hRd : Box3 w4 R (.int .i64 0) (.slice none 0 0) (.slice none 0 0) := ⟨HS9.out.r.1, x0, x1, x2⟩
          have hbW := box3_set hRd (.int .i64 ((C : Int) - 96)) (.slice none 0 0) (.slice none 0 0)
          have bW := ((bd.setCell (p := ⟨R, 0, none⟩) hR9.out (.int .i64 ((C : Int) - 96))).setCell (p := ⟨R, 1, none⟩) hR9.out (.slice none 0 0)).setCell (p := ⟨R, 2, none⟩) hR9.out (.slice none 0 0)
          have hSW : ∀ (p : Addr), p.block ≠ R → (((w4.setCell ⟨R, 0, none⟩ (.int .i64 ((C : Int) - 96))).setCell ⟨R, 1, none⟩ (.slice none 0 0)).setCell ⟨R, 2, none⟩ (.slice none 0 0)).cell? p = w4.cell? p := fun p hp => by
            rw [World.cell?_setCell_other _ _ _ _ (by intro q; exact hp (congrArg Addr.block q.symm)), World.cell?_setCell_other _ _ _ _ (by intro q; exact hp (congrArg Addr.block q.symm)), World.cell?_setCell_other _ _ _ _ (by intro q; exact hp (congrArg Addr.block q.symm))]
          have HSW : Hid ((((w4.setCell ⟨R, 0, none⟩ (.int .i64 ((C : Int) - 96))).setCell ⟨R, 1, none⟩ (.slice none 0 0)).setCell ⟨R, 2, none⟩ (.slice none 0 0)).cell? ⟨T, 0, none⟩ = some (.int .i64 ((C : Int) - 96)) ∧ (((w4.setCell ⟨R, 0, none⟩ (.int .i64 ((C : Int) - 96))).setCell ⟨R, 1, none⟩ (.slice none 0 0)).setCell ⟨R, 2, none⟩ (.slice none 0 0)).cell? ⟨T, 1, none⟩ = some (.slice none 0 0) ∧ (((w4.setCell ⟨R, 0, none⟩ (.int .i64 ((C : Int) - 96))).setCell ⟨R, 1, none⟩ (.slice none 0 0)).setCell ⟨R, 2, none⟩ (.slice none 0 0)).cell? ⟨T, 2, none⟩ = some (.slice none 0 0) ∧ (((w4.setCell ⟨R, 0, none⟩ (.int .i64 ((C : Int) - 96))).setCell ⟨R, 1, none⟩ (.slice none 0 0)).setCell ⟨R, 2, none⟩ (.slice none 0 0)).cell? ⟨B, 1, none⟩ = some (.int .i64 (((1 : Nat)) : Int))) :=
            ⟨(hSW _ nTR).trans t0, (hSW _ nTR).trans t1, (hSW _ nTR).trans t2, (hSW _ nBR).trans q1⟩
          clear hSW
          obtain ⟨W, HW⟩ : ∃ u, Hid (((w4.setCell ⟨R, 0, none⟩ (.int .i64 ((C : Int) - 96))).setCell ⟨R, 1, none⟩ (.slice none 0 0)).setCell ⟨R, 2, none⟩ (.slice none 0 0) = u) := ⟨_, rfl⟩
          have hnone : True := trivial
          rw [HW.out] at hbW bW HSW
          go_upto_region 11 with fail
          refine wp_region_held_drew (S := (fun w' => w'.cell? ⟨T, 0, none⟩ = some (.int .i64 ((C : Int) - 96)) ∧ w'.cell? ⟨T, 1, none⟩ = some (.slice none 0 0) ∧ w'.cell? ⟨T, 2, none⟩ = some (.slice none 0 0) ∧ w'.cell? ⟨B, 1, none⟩ = some (.int .i64 (((1 : Nat)) : Int)))) (by kernel_rfl) ⟨t0, t1, t2, q1⟩ (fun hH => ?_)
          refine wpAnyH_take (i := 0) (v := .agg #[.int .i64 ((C : Int) - 96), .slice none 0 0, .slice none 0 0]) rfl (by kernel_rfl) (by kernel_rfl) (by kernel_rfl) (fun _ _ _ h => h) (.inl ⟨by rfl, fun w' hS' => by obtain ⟨s0, s1, s2, s3⟩ := hS'; go_simp⟩) hH ?_
          simp only [List.getElem_toArray, List.getElem_cons_succ, List.getElem_cons_zero, Act.put, List.setIfInBounds_toArray, List.set_cons_zero, List.set_cons_succ]
          refine wpAnyH_take (i := 1) (v := .bool false) rfl (by kernel_rfl) (by kernel_rfl) (by kernel_rfl) (fun _ _ _ h => h) (.inl ⟨by rfl, fun _ _ => rfl⟩) hH ?_
          simp only [List.getElem_toArray, List.getElem_cons_succ, List.getElem_cons_zero, Act.put, List.setIfInBounds_toArray, List.set_cons_zero, List.set_cons_succ]
          refine wpAnyH_take (i := 2) (v := .bool false) rfl (by kernel_rfl) (by kernel_rfl) (by kernel_rfl) (fun _ _ _ h => h) (.inl ⟨by rfl, fun _ _ => rfl⟩) hH ?_
          simp only [List.getElem_toArray, List.getElem_cons_succ, List.getElem_cons_zero, Act.put, List.setIfInBounds_toArray, List.set_cons_zero, List.set_cons_succ]
          refine wpAnyH_take (i := 3) (v := undef) rfl (by kernel_rfl) (by kernel_rfl) (by kernel_rfl) (fun _ _ _ h => h) (.inr ⟨by rfl, rfl⟩) hH ?_
          simp only [List.getElem_toArray, List.getElem_cons_succ, List.getElem_cons_zero, Act.put, List.setIfInBounds_toArray, List.set_cons_zero, List.set_cons_succ]
          refine wpAnyH_take (i := 4) (v := undef) rfl (by kernel_rfl) (by kernel_rfl) (by kernel_rfl) (fun _ _ _ h => h) (.inr ⟨by rfl, rfl⟩) hH ?_
          simp only [List.getElem_toArray, List.getElem_cons_succ, List.getElem_cons_zero, Act.put, List.setIfInBounds_toArray, List.set_cons_zero, List.set_cons_succ]
          refine wpAnyH_take (i := 5) (v := undef) rfl (by kernel_rfl) (by kernel_rfl) (by kernel_rfl) (fun _ _ _ h => h) (.inr ⟨by rfl, rfl⟩) hH ?_
          simp only [List.getElem_toArray, List.getElem_cons_succ, List.getElem_cons_zero, Act.put, List.setIfInBounds_toArray, List.set_cons_zero, List.set_cons_succ]
          refine wpAnyH_take (i := 6) (v := undef) rfl (by kernel_rfl) (by kernel_rfl) (by kernel_rfl) (fun _ _ _ h => h) (.inr ⟨by rfl, rfl⟩) hH ?_
          simp only [List.getElem_toArray, List.getElem_cons_succ, List.getElem_cons_zero, Act.put, List.setIfInBounds_toArray, List.set_cons_zero, List.set_cons_succ]
          refine wpAnyH_take (i := 7) (v := undef) rfl (by kernel_rfl) (by kernel_rfl) (by kernel_rfl) (fun _ _ _ h => h) (.inr ⟨by rfl, rfl⟩) hH ?_
          simp only [List.getElem_toArray, List.getElem_cons_succ, List.getElem_cons_zero, Act.put, List.setIfInBounds_toArray, List.set_cons_zero, List.set_cons_succ]
          refine wpAnyH_take (i := 8) (v := undef) rfl (by kernel_rfl) (by kernel_rfl) (by kernel_rfl) (fun _ _ _ h => h) (.inr ⟨by rfl, rfl⟩) hH ?_
          simp only [List.getElem_toArray, List.getElem_cons_succ, List.getElem_cons_zero, Act.put, List.setIfInBounds_toArray, List.set_cons_zero, List.set_cons_succ]
          refine wpAnyH_take (i := 9) (v := undef) rfl (by kernel_rfl) (by kernel_rfl) (by kernel_rfl) (fun _ _ _ h => h) (.inr ⟨by rfl, rfl⟩) hH ?_
          simp only [List.getElem_toArray, List.getElem_cons_succ, List.getElem_cons_zero, Act.put, List.setIfInBounds_toArray, List.set_cons_zero, List.set_cons_succ]
          refine wpAnyH_take (i := 10) (v := .bool false) rfl (by kernel_rfl) (by kernel_rfl) (by kernel_rfl) (fun _ _ _ h => h) (.inl ⟨by rfl, fun _ _ => rfl⟩) hH ?_
          simp only [List.getElem_toArray, List.getElem_cons_succ, List.getElem_cons_zero, Act.put, List.setIfInBounds_toArray, List.set_cons_zero, List.set_cons_succ]
          refine wpAnyH_ready (rs := [11]) (by kernel_rfl) (by simp) ?_
          refine AllReadyH.cons rfl (fun K hK => ?_) AllReadyH.nil
          simp only [List.getElem_toArray, List.getElem_cons_succ, List.getElem_cons_zero]
          rw [if_pos (by rfl)]
          go_wp2_with fail
          rw [HW.out]
          refine hK.out _ _ HSW.out (fun hH => ?_)
          clear hK
          refine wpAnyH_take (i := 12) (v := .bool false) rfl (by kernel_rfl) (by kernel_rfl) (by kernel_rfl) (fun _ _ _ h => h) (.inl ⟨by rfl, fun _ _ => rfl⟩) hH ?_
          simp only [List.getElem_toArray, List.getElem_cons_succ, List.getElem_cons_zero, Act.put, List.setIfInBounds_toArray, List.set_cons_zero, List.set_cons_succ]
          refine wpAnyH_done (by kernel_rfl) ?_ _
          clear hH
          have hbW2 : Box3 W.drew R (.int .i64 ((C : Int) - 96)) (.slice none 0 0) (.slice none 0 0) := ⟨hbW.1, hbW.2.1, hbW.2.2.1, hbW.2.2.2⟩
          have bW2 := bW.drew
          obtain ⟨W2, HW2⟩ : ∃ u, Hid (W.drew = u) := ⟨_, rfl⟩
          rw [HW2.out] at hbW2 bW2 
          rw [HW2.out]
          clear t0 t1 t2 q1 x0 x1 x2 g0 g1 g2 HSW
          go_wp2
          exact bodyPost_ret (v := .tuple #[.agg #[.int .i64 ((C : Int) - 96), .slice none 0 0, .slice none 0 0], .bool false]) (results_tran rfl rfl rfl hbW2.2.1 hbW2.2.2.1 hbW2.2.2.2) rfl ⟨otran_bad Hbad.out, bW2⟩
    · have Hbad : Hid (LineIs P s noTran false) := oline_head Hx.out (by rw [HC.out]; exact hl)
      have n2 : ((C : Int) != 45) = true := by rw [bne_iff_ne]; intro q; exact hl (.inl (by omega))
      by_cases h97 : C < 97
      · have n3 : decide ((C : Int) < 97) = true := by rw [decide_eq_true_eq]; omega
        obtain ⟨W, HW⟩ : ∃ u, Hid (((w0.setCell ⟨R, 0, none⟩ (.int .i64 0)).setCell ⟨R, 1, none⟩ (.slice none 0 0)).setCell ⟨R, 2, none⟩ (.slice none 0 0) = u) := ⟨_, rfl⟩
        have hbW := box3_set hbx (.int .i64 0) (.slice none 0 0) (.slice none 0 0)
        have bW := ((b0.setCell (p := ⟨R, 0, none⟩) hR9.out (.int .i64 0)).setCell (p := ⟨R, 1, none⟩) hR9.out (.slice none 0 0)).setCell (p := ⟨R, 2, none⟩) hR9.out (.slice none 0 0)
        rw [HW.out] at hbW bW
        obtain ⟨_, x0, x1, x2⟩ := id hbx
        have g0 := hfz 0
        have g1 := hfz 1
        have g2 := hfz 2
        clear hbx hfz
        go_wp2
        rw [HW.out]
        exact bodyPost_ret (v := .tuple #[.agg #[.int .i64 0, .slice none 0 0, .slice none 0 0], .bool false]) (results_tran rfl rfl rfl hbW.2.1 hbW.2.2.1 hbW.2.2.2) rfl ⟨otran_bad Hbad.out, bW⟩
      · have n3 : decide ((C : Int) < 97) = false := by rw [decide_eq_false_iff_not]; omega
        have n4 : decide ((C : Int) > 122) = true := by
          rw [decide_eq_true_eq]
          apply Classical.byContradiction
          intro q
          exact hl (.inr ⟨by omega, by omega⟩)
        obtain ⟨W, HW⟩ : ∃ u, Hid (((w0.setCell ⟨R, 0, none⟩ (.int .i64 0)).setCell ⟨R, 1, none⟩ (.slice none 0 0)).setCell ⟨R, 2, none⟩ (.slice none 0 0) = u) := ⟨_, rfl⟩
        have hbW := box3_set hbx (.int .i64 0) (.slice none 0 0) (.slice none 0 0)
        have bW := ((b0.setCell (p := ⟨R, 0, none⟩) hR9.out (.int .i64 0)).setCell (p := ⟨R, 1, none⟩) hR9.out (.slice none 0 0)).setCell (p := ⟨R, 2, none⟩) hR9.out (.slice none 0 0)
        rw [HW.out] at hbW bW
        obtain ⟨_, x0, x1, x2⟩ := id hbx
        have g0 := hfz 0
        have g1 := hfz 1
        have g2 := hfz 2
        clear hbx hfz
        go_wp2
        rw [HW.out]
        exact bodyPost_ret (v := .tuple #[.agg #[.int .i64 0, .slice none 0 0, .slice none 0 0], .bool false]) (results_tran rfl rfl rfl hbW.2.1 hbW.2.2.1 hbW.2.2.2) rfl ⟨otran_bad Hbad.out, bW⟩

end Go.Proofs.YteeogdihaajicaaDoor
