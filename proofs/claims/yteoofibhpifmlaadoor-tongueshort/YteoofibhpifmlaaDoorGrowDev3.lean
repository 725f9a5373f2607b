/- Package grow as it landed: there and back. -/
import Derived.Test.YteoofibhpifmlaaDoorGrowDev2
namespace Go.Proofs.YteoofibhpifmlaaDoor
open Go.RowKit
set_option linter.unusedVariables false
set_option maxRecDepth 4000

theorem ints_lit_on (w : World) (b : Nat) (zs : List Int) (t : TypeId) (n : Nat) (hn : zs.length = n) (h : n ≤ 17592186044416) (hb : b = w.heap.size) :
    On (fun k => k = b) (w.alloc (.cells (zs.map (Value.int .i64)).toArray t)) (fun w' => Ints w' (.slice (some ⟨b, 0, none⟩) n n) zs) := by
  intro w2 hs hk
  obtain ⟨a, len, cap, e, h1, h2, h3, h4⟩ := ints_lit w b zs t n hn h hb
  refine ⟨a, len, cap, e, h1, h2, h3, fun j hj => ?_⟩
  obtain ⟨b', off, ha, hlt, hc⟩ := h4 j hj
  injection e with e
  have hbb : b' = b := by rw [ha] at e; injection e with e; injection e with e; exact e.symm
  refine ⟨b', off, ha, Nat.lt_of_lt_of_le hlt hs, ?_⟩
  rw [World.cell?_of_block (a := ⟨b', off + j, none⟩) (hk b' hlt hbb)]
  exact hc

/-- Two new lists of one place each, and what they say. -/
theorem two_lits {B x : Nat} {W w : World} {g : GrowL} {lv : Value} {us vs : List Value} (hG : GrowAt B x W w g lv us vs) (p q : Nat) (t : TypeId) :
    On (fun k => ¬ mineG x lv k) ((w.alloc (.cells #[.int .i64 (p : Int)] t)).alloc (.cells #[.int .i64 (q : Int)] t)) (fun w' => Ints w' (.slice (some ⟨w.heap.size, 0, none⟩) 1 1) (intsN [p])) ∧
    On (fun k => ¬ mineG x lv k) ((w.alloc (.cells #[.int .i64 (p : Int)] t)).alloc (.cells #[.int .i64 (q : Int)] t)) (fun w' => Ints w' (.slice (some ⟨w.heap.size + 1, 0, none⟩) 1 1) (intsN [q])) := by
  have b2 := below_new (w.alloc (.cells #[.int .i64 (p : Int)] t)) (.cells #[.int .i64 (q : Int)] t)
  have h1 := ints_lit_on w w.heap.size [(p : Int)] t 1 rfl (by omega) rfl
  have h2 := ints_lit_on (w.alloc (.cells #[.int .i64 (p : Int)] t)) (w.heap.size + 1) [(q : Int)] t 1 rfl (by omega) (by simp)
  exact ⟨(h1.below b2).weaken fun k _ hk => hG.notMine (by omega), h2.weaken fun k _ hk => hG.notMine (by omega)⟩

/-- A box of three cells that is none of those that are written. -/
structure StandsB (S : Nat → Prop) (w : World) (b : Nat) (u0 u1 u2 : Value) : Prop where
  box : Box3 w b u0 u1 u2
  out : ¬ S b
theorem StandsB.keep {S S' : Nat → Prop} {w w' : World} {b : Nat} {u0 u1 u2 : Value} (h : StandsB S w b u0 u1 u2) (k : Keeps w S w' S') : StandsB S' w' b u0 u1 u2 := ⟨k.box3 h.out h.box, (k.2 b h.box.1 h.out).2⟩

/-- A transition from one place to another one: the lists are made, the call follows. -/
theorem tran_one_any {B x : Nat} {W w : World} {g : GrowL} {lv : Value} {us vs : List Value} (hG : GrowAt B x W w g lv us vs) (hf : FitG g) (lab : Int) (p q : Nat) :
    Calls Tryd.prog 68 #[.pointer (some ⟨x, 0, none⟩), .int .i64 lab, .slice (some ⟨w.heap.size, 0, none⟩) 1 1, .slice (some ⟨w.heap.size + 1, 0, none⟩) 1 1] ((w.alloc (.cells #[.int .i64 (p : Int)] 3)).alloc (.cells #[.int .i64 (q : Int)] 3)) (Grew B x W w lv (putG g lab [p] [q]) (.tuple #[])) := by
  have b1 := below_new w (.cells #[.int .i64 (p : Int)] 3)
  have b2 := below_new (w.alloc (.cells #[.int .i64 (p : Int)] 3)) (.cells #[.int .i64 (q : Int)] 3)
  obtain ⟨h1, h2⟩ := two_lits hG p q 3
  refine (tran_any ((hG.to b1).to b2) hf lab [p] [q] _ _ h1 h2).mono ?_
  rintro e w' (⟨hf2, rfl, lv2, us2, vs2, hG2, hK2⟩ | ⟨hf2, rfl, hb2⟩)
  · exact .inl ⟨hf2, rfl, _, _, _, hG2, ((Keeps.below b1 _).trans (Keeps.below b2 _)).trans hK2⟩
  · exact .inr ⟨hf2, rfl, hb2⟩

section
variable {B x : Nat} {W w : World} {g : GrowL} {lv : Value} {us vs : List Value}

set_option maxHeartbeats 1000000 in
theorem rounds_any (f : Nat) (k0 k1 : BlockL) (hk0 : BlockGrows B x W f k0) (hk1 : BlockGrows B x W f k1) (v0 v1 : Value) (hv0 : BlockV W v0 k0) (hv1 : BlockV W v1 k1) (hB : W.heap.size ≤ B) (p q : Nat) (hG : GrowAt B x W w g lv us vs) (hf : FitG g) :
    Calls Tryd.prog 71 #[.pointer (some ⟨x, 0, none⟩), v0, v1, .int .i64 (p : Int), .int .i64 (q : Int)] w (Grew B x W w lv (putG (growK f k1 (g.places + 1) g.places (growK f k0 g.places (g.places + 1) (putG ⟨g.places + 2, g.links⟩ 0 [p] [g.places]))) 0 [g.places + 1] [q]) (.tuple #[])) := by
  obtain ⟨T, HT⟩ : ∃ T, Hid (putG (growK f k1 (g.places + 1) g.places (growK f k0 g.places (g.places + 1) (putG ⟨g.places + 2, g.links⟩ 0 [p] [g.places]))) 0 [g.places + 1] [q] = T) := ⟨_, rfl⟩
  rw [HT.out]
  have Hle : Hid (LeG (growK f k1 (g.places + 1) g.places (growK f k0 g.places (g.places + 1) (putG ⟨g.places + 2, g.links⟩ 0 [p] [g.places]))) T) := by rw [← HT.out]; exact putG_le _ _ _ _
  have Hle1 : Hid (LeG (growK f k0 g.places (g.places + 1) (putG ⟨g.places + 2, g.links⟩ 0 [p] [g.places])) T) := (growK_le f _ _ _ _).trans Hle.out
  have Hle2 : Hid (LeG (putG ⟨g.places + 2, g.links⟩ 0 [p] [g.places]) T) := (growK_le f _ _ _ _).trans Hle1.out
  have Hle3 : Hid (LeG ⟨g.places + 2, g.links⟩ T) := (putG_le _ _ _ _).trans Hle2.out
  have Hle4 : Hid (LeG ⟨g.places + 1, g.links⟩ T) := (show LeG ⟨g.places + 1, g.links⟩ ⟨g.places + 2, g.links⟩ from ⟨by simp, Nat.le_refl _⟩).trans Hle3.out
  obtain ⟨a0, l0, c0, e0⟩ : ∃ a l c, v0 = .agg #[.int .i64 k0.kind, .int .i64 k0.label, .slice a l c] := by obtain ⟨kv, e, hK⟩ := blockV_iff.1 hv0; obtain ⟨a, c, e2, _⟩ := hK.slice; exact ⟨a, _, c, by rw [e, e2]⟩
  obtain ⟨a1, l1, c1, e1⟩ : ∃ a l c, v1 = .agg #[.int .i64 k1.kind, .int .i64 k1.label, .slice a l c] := by obtain ⟨kv, e, hK⟩ := blockV_iff.1 hv1; obtain ⟨a, c, e2, _⟩ := hK.slice; exact ⟨a, _, c, by rw [e, e2]⟩
  subst e0 e1
  have b1 := below_new w (.cells #[.int .i64 k0.kind, .int .i64 k0.label, .slice a0 l0 c0] 68)
  have b2 := below_new (w.alloc (.cells #[.int .i64 k0.kind, .int .i64 k0.label, .slice a0 l0 c0] 68)) (.cells #[.int .i64 k1.kind, .int .i64 k1.label, .slice a1 l1 c1] 68)
  have hx0 := (box3_new w (.int .i64 k0.kind) (.int .i64 k0.label) (.slice a0 l0 c0) 68).below b2
  have hx1 := box3_new (w.alloc (.cells #[.int .i64 k0.kind, .int .i64 k0.label, .slice a0 l0 c0] 68)) (.int .i64 k1.kind) (.int .i64 k1.label) (.slice a1 l1 c1) 68
  rw [show (w.alloc (.cells #[.int .i64 k0.kind, .int .i64 k0.label, .slice a0 l0 c0] 68)).heap.size = w.heap.size + 1 by simp] at hx1
  have hn0 := hG.notMine (Nat.le_refl w.heap.size)
  have hn1 := hG.notMine (Nat.le_succ w.heap.size)
  have hG1 := (hG.to b1).to b2
  have HK1 : Hid _ := (Keeps.below b1 (mineG x lv)).trans (Keeps.below b2 (mineG x lv))
  obtain ⟨w1, Hw1⟩ : ∃ w1, Hid ((w.alloc (.cells #[.int .i64 k0.kind, .int .i64 k0.label, .slice a0 l0 c0] 68)).alloc (.cells #[.int .i64 k1.kind, .int .i64 k1.label, .slice a1 l1 c1] 68) = w1) := ⟨_, rfl⟩
  rw [Hw1.out] at hx0 hx1 hG1 HK1
  have S0 : StandsB (mineG x lv) w1 w.heap.size (.int .i64 k0.kind) (.int .i64 k0.label) (.slice a0 l0 c0) := ⟨hx0, hn0⟩
  have S1 : StandsB (mineG x lv) w1 (w.heap.size + 1) (.int .i64 k1.kind) (.int .i64 k1.label) (.slice a1 l1 c1) := ⟨hx1, hn1⟩
  have H0 : Hid _ := hk0
  have H1 : Hid _ := hk1
  have Hv0 : Hid _ := hv0
  have Hv1 : Hid _ := hv1
  clear hG b1 b2 hk0 hk1 hx0 hx1 hn0 hn1 hv0 hv1
  go_enter Tryd.func71, Tryd.ntmps71
  go_upto_region 1 with fail
  rw [Hw1.out]
  clear Hw1
  go_wp2_with fail
  refine (place_any hG1 hf).mono ?_
  rintro e w2 (⟨hf2, rfl, lv2, us2, vs2, hG2, hK2⟩ | ⟨hf2, rfl, hb2⟩)
  case inr =>
    have R : Hid (¬ FitG T) := Hle4.out.not hf2
    go_wp2
    exact ⟨rfl, .inr ⟨R.out, rfl, hb2⟩⟩
  replace S0 := S0.keep hK2
  replace S1 := S1.keep hK2
  have HK2 : Hid _ := HK1.out.trans hK2
  clear hK2 HK1 hG1 hf
  go_wp2_with fail
  refine (place_any hG2 hf2).mono ?_
  rintro e w3 (⟨hf3, rfl, lv3, us3, vs3, hG3, hK3⟩ | ⟨hf3, rfl, hb3⟩)
  case inr =>
    have R : Hid (¬ FitG T) := Hle3.out.not hf3
    go_wp2
    exact ⟨rfl, .inr ⟨R.out, rfl, hb3⟩⟩
  replace S0 := S0.keep hK3
  replace S1 := S1.keep hK3
  have HK3 : Hid _ := HK2.out.trans hK3
  have Hf3 : Hid (FitG ⟨g.places + 2, g.links⟩) := hf3
  clear hK3 HK2 hG2 hf2 hf3
  obtain ⟨y, Hy⟩ : ∃ y, Hid (g.places + 1 = y) := ⟨_, rfl⟩
  obtain ⟨n, Hn⟩ : ∃ n, Hid (g.places = n) := ⟨_, rfl⟩
  rw [Hy.out, Hn.out]
  replace hG3 : GrowAt B x W w3 ⟨g.places + 2, g.links⟩ lv3 us3 vs3 := hG3
  rw [Hn.out] at hG3 Hf3
  go_wp2_with fail
  refine (tran_one_any hG3 Hf3.out 0 p n).mono ?_
  rintro e w4 (⟨hf4, rfl, lv4, us4, vs4, hG4, hK4⟩ | ⟨hf4, rfl, hb4⟩)
  case inr =>
    have R : Hid (¬ FitG T) := Hle2.out.not (by rw [Hn.out]; exact hf4)
    go_wp2
    exact ⟨rfl, .inr ⟨R.out, rfl, hb4⟩⟩
  replace S0 := S0.keep hK4
  replace S1 := S1.keep hK4
  have HK4 : Hid _ := HK3.out.trans hK4
  have Hf4 : Hid _ := hf4
  clear hK4 HK3 hG3 hf4 Hf3
  obtain ⟨z0, z1, z2, z3⟩ := S0.box
  go_wp2_with fail
  refine (H0.out _ n y _ lv4 us4 vs4 w4 (by exact Hv0.out) hG4 Hf4.out).mono ?_
  rintro e w5 (⟨hf5, rfl, lv5, us5, vs5, hG5, hK5⟩ | ⟨hf5, rfl, hb5⟩)
  case inr =>
    have R : Hid (¬ FitG T) := Hle1.out.not (by rw [Hy.out, Hn.out]; exact hf5)
    clear z0 z1 z2 z3
    go_wp2
    exact ⟨rfl, .inr ⟨R.out, rfl, hb5⟩⟩
  clear z0 z1 z2 z3 S0
  replace S1 := S1.keep hK5
  have HK5 : Hid _ := HK4.out.trans hK5
  have Hf5 : Hid _ := hf5
  clear hK5 HK4 hG4 hf5 Hf4
  obtain ⟨z0, z1, z2, z3⟩ := S1.box
  go_wp2_with fail
  refine (H1.out _ y n _ lv5 us5 vs5 w5 (by exact Hv1.out) hG5 Hf5.out).mono ?_
  rintro e w6 (⟨hf6, rfl, lv6, us6, vs6, hG6, hK6⟩ | ⟨hf6, rfl, hb6⟩)
  case inr =>
    have R : Hid (¬ FitG T) := Hle.out.not (by rw [Hy.out, Hn.out]; exact hf6)
    clear z0 z1 z2 z3
    go_wp2
    exact ⟨rfl, .inr ⟨R.out, rfl, hb6⟩⟩
  clear z0 z1 z2 z3 S1
  have HK6 : Hid _ := HK5.out.trans hK6
  clear hK6 HK5 hG5 Hf5
  go_wp2_with fail
  refine (tran_one_any hG6 hf6 0 y q).mono ?_
  rintro e w7 (⟨hf7, rfl, lv7, us7, vs7, hG7, hK7⟩ | ⟨hf7, rfl, hb7⟩)
  case inr =>
    have R : Hid (¬ FitG T) := by show ¬ FitG T; rw [← HT.out, Hy.out, Hn.out]; exact hf7
    go_wp2
    exact ⟨rfl, .inr ⟨R.out, rfl, hb7⟩⟩
  have R : Hid (Grew B x W w lv T (.tuple #[]) (.returned (.tuple #[])) w7) := by
    rw [← HT.out, Hy.out, Hn.out]
    exact .inl ⟨hf7, rfl, _, _, _, hG7, HK6.out.trans hK7⟩
  clear hG7 hK7 hG6
  go_wp2
  go_end0
  exact R.out

end

end Go.Proofs.YteoofibhpifmlaaDoor
