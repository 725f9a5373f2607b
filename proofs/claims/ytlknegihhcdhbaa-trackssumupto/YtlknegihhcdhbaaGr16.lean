import Derived.Test.YtlknegihhcdhbaaGr14
import Derived.Test.YtlknegihhcdhbaaTrWrong
import Derived.Test.YtlknegihhcdhbaaGr03
import Derived.Test.YtlknegihhcdhbaaGr08
import Derived.Test.YtlknegihhcdhbaaGr09
import Derived.Lib.SliceRun
import Derived.BigQuiet
/- prints: all that was seen, rising; Of. -/
namespace Go.Proofs.Ytlknegihhcdhbaa
open Go.RowKit
set_option linter.unusedVariables false
set_option linter.unusedSimpArgs false
set_option maxRecDepth 4000

theorem results_prints {fn : Func} {p : Tmp} {tmps : Array Value} {w : World} {b : Nat} {v0 v1 v2 v3 : Value} (h : fn.results = #[.cell p 26]) (hp : tmps.getD p undef = .pointer (some ⟨b, 0, none⟩)) (hB : Box4 w b v0 v1 v2 v3) :
    (results fn tmps).run Try.prog w = .ok (.agg #[v0, v1, v2, v3]) w := by
  obtain ⟨_, h0, h1, h2, h3⟩ := hB
  have e : (results fn tmps).run Try.prog w = ((asAddr (tmps.getD p undef)).run Try.prog w).andThen fun a w₁ => (loadVar 26 a).run Try.prog w₁ := by
    simp only [results, h]
    simp [Sem.run_bind, Result.andThen]
  rw [e, hp]
  simp [asAddr, go_sem, h0, h1, h2, h3]
theorem results_prints1 {fn : Func} {p u : Tmp} {tmps : Array Value} {w : World} {b : Nat} {v0 v1 v2 v3 x : Value} (h : fn.results = #[.cell p 26, .tmp u]) (hp : tmps.getD p undef = .pointer (some ⟨b, 0, none⟩)) (hu : tmps.getD u undef = x) (hB : Box4 w b v0 v1 v2 v3) :
    (results fn tmps).run Try.prog w = .ok (.tuple #[.agg #[v0, v1, v2, v3], x]) w := by
  obtain ⟨_, h0, h1, h2, h3⟩ := hB
  rw [results_cell_tmp h, hp, hu]
  simp [asAddr, go_sem, h0, h1, h2, h3]

/-- A slice of pairs of numbers. -/
def prAt (l : List (Int × Int)) (k : Nat) : Int × Int := l.getD k (0, 0)
def PairsV (w : World) (v : Value) (l : List (Int × Int)) : Prop := l.length ≤ 8796093022208 ∧ CellsV w v 2 8796093022208 l.length (cellsP l)
/-- What logs show, in memory. -/
def PrintsV (w : World) (v : Value) (p : PrintsL) : Prop := ∃ v0 v1 v2 v3, v = .agg #[v0, v1, v2, v3] ∧ Ints w v0 p.labels ∧ Ints w v1 p.first ∧ Ints w v2 p.last ∧ PairsV w v3 p.behind
theorem PairsV.below {w w' : World} {v : Value} {l : List (Int × Int)} (h : PairsV w v l) (hb : Below w.heap.size w w') : PairsV w' v l := ⟨h.1, h.2.below hb⟩
theorem PrintsV.below {w w' : World} {v : Value} {p : PrintsL} (h : PrintsV w v p) (hb : Below w.heap.size w w') : PrintsV w' v p := by
  obtain ⟨v0, v1, v2, v3, e, h0, h1, h2, h3⟩ := h
  exact ⟨v0, v1, v2, v3, e, h0.below hb, h1.below hb, h2.below hb, h3.below hb⟩

theorem pairs_slice1 {w : World} {v : Value} {xs : List (Int × Int)} (h : PairsV w v xs) : ∃ a c, v = .slice a xs.length c := by
  obtain ⟨a, cap, e, _⟩ := h.2.slice
  exact ⟨a, cap, e⟩
/-- Four sets, told by what is in them. -/
theorem risingI_log {b n : Nat} {S : Int → Prop} {p : Int → Bool} (hp : ∀ x, S x ↔ (1 ≤ x ∧ x ≤ 26) ∧ p x = true) (w : World) (h : SetI w b n S) (hn : n ≤ 17592186044416) :
    Calls Try.prog 59 #[.map (some b), .func (.func 60) #[] #[]] w fun e w' => ∃ v, e = .returned v ∧ Ints w' v (labels26.filter p) ∧ Below w.heap.size w w' := by
  refine (risingI_any b n S w h hn).mono ?_
  rintro e w' ⟨v, zs, rfl, hO, h1, h2, h3⟩
  have hz : zs = labels26.filter p := rises_labels h1 fun x => by
    constructor
    · intro hx; exact (hp x).1 ((h3 x (h2 x hx)).1 hx)
    · intro hx; exact (h3 x (okI_of (by omega))).2 ((hp x).2 hx)
  have hle : (labels26.filter p).length ≤ 26 := Nat.le_trans (List.length_filter_le _ _) (by decide)
  rw [hz] at hO
  exact ⟨v, rfl, hO.ints (by omega), hO.2.1⟩
theorem risingP_log {b n : Nat} {S : Int × Int → Prop} {p : Int × Int → Bool} (hp : ∀ x, S x ↔ ((1 ≤ x.1 ∧ x.1 ≤ 26) ∧ 1 ≤ x.2 ∧ x.2 ≤ 26) ∧ p x = true) (w : World) (h : SetP w b n S) (hn : n ≤ 8796093022208) :
    Calls Try.prog 61 #[.map (some b), .func (.func 62) #[] #[]] w fun e w' => ∃ v, e = .returned v ∧ PairsV w' v (pairs26.filter p) ∧ Below w.heap.size w w' := by
  refine (risingP_any b n S w h hn).mono ?_
  rintro e w' ⟨v, zs, rfl, hO, hl, h1, h2, h3⟩
  have hz : zs = pairs26.filter p := rises_pairs h1 fun x => by
    constructor
    · intro hx; exact (hp x).1 ((h3 x (h2 x hx)).1 hx)
    · intro hx; exact (h3 x ⟨okI_of (by omega), okI_of (by omega)⟩).2 ((hp x).2 hx)
  rw [hz] at hO hl
  refine ⟨v, rfl, ⟨by omega, hO.cells (by omega) fun u hu => ?_⟩, hO.2.1⟩
  obtain ⟨x, _, hx⟩ := List.mem_flatMap.1 hu
  exact encP_one x u hx

end Go.Proofs.Ytlknegihhcdhbaa

/- prints: the walk. -/
namespace Go.Proofs.Ytlknegihhcdhbaa
open Go.RowKit
set_option linter.unusedVariables false
set_option linter.unusedSimpArgs false
set_option maxRecDepth 4000

/-- Rows newer than the block R. -/
def RowI (R : Nat) (w : World) (v : Value) (L : List Int) : Prop := w.ownsRow (R + 1) 3 1 v L.length (L.map (Value.int .i64))
def RowQ (R : Nat) (w : World) (v : Value) (L : List (Int × Int)) : Prop := w.ownsRow (R + 1) 38 2 v L.length (cellsP L)
theorem RowI.below {R : Nat} {w w' : World} {v : Value} {L : List Int} (h : RowI R w v L) (hb : Below w.heap.size w w') : RowI R w' v L := ((ownsRow_on h).below hb).now
theorem RowI.set {R : Nat} {w : World} {v : Value} {L : List Int} (h : RowI R w v L) (j : Nat) (u : Value) : RowI R (w.setCell ⟨R, j, none⟩ u) v L := ((ownsRow_on h).set (a := ⟨R, j, none⟩) (fun e => by have := e.2; simp only at this; omega) u).now
theorem RowQ.below {R : Nat} {w w' : World} {v : Value} {L : List (Int × Int)} (h : RowQ R w v L) (hb : Below w.heap.size w w') : RowQ R w' v L := ((ownsRow_on h).below hb).now
theorem RowQ.set {R : Nat} {w : World} {v : Value} {L : List (Int × Int)} (h : RowQ R w v L) (j : Nat) (u : Value) : RowQ R (w.setCell ⟨R, j, none⟩ u) v L := ((ownsRow_on h).set (a := ⟨R, j, none⟩) (fun e => by have := e.2; simp only at this; omega) u).now
theorem RowI.ints {R : Nat} {w : World} {v : Value} {L : List Int} (h : RowI R w v L) (hl : L.length ≤ 26) (hR : R < w.heap.size) : Ints w v L := Own.ints (B := R + 1) (w := w) ⟨h, Below.refl _ _, hR⟩ (by omega)
theorem RowI.slice {R : Nat} {w : World} {v : Value} {L : List Int} (h : RowI R w v L) : ∃ a c, v = .slice a L.length c := by
  rcases h.2 with ⟨rfl, h0⟩ | ⟨g, cap', cur, rfl, _⟩
  · exact ⟨_, _, by rw [h0]⟩
  · exact ⟨_, _, rfl⟩
theorem RowQ.slice {R : Nat} {w : World} {v : Value} {L : List (Int × Int)} (h : RowQ R w v L) : ∃ a c, v = .slice a L.length c := by
  rcases h.2 with ⟨rfl, h0⟩ | ⟨g, cap', cur, rfl, _⟩
  · exact ⟨_, _, by rw [h0]⟩
  · exact ⟨_, _, rfl⟩
theorem RowQ.pairs {R : Nat} {w : World} {v : Value} {L : List (Int × Int)} (h : RowQ R w v L) (hl : L.length ≤ 676) : PairsV w v L := by
  refine ⟨by omega, ownsRow_cells h (by omega) fun u hu => ?_⟩
  obtain ⟨x, _, hx⟩ := List.mem_flatMap.1 hu
  exact encP_one x u hx
theorem row_down {B B' : Nat} {w : World} {e : TypeId} {size : Nat} {v : Value} {n : Nat} {xs : List Value} (h : w.ownsRow B e size v n xs) (hB : B' ≤ B) : w.ownsRow B' e size v n xs := by
  obtain ⟨h1, h2 | ⟨g, cap, cur, r1, r2, r3⟩⟩ := h
  · exact ⟨h1, .inl h2⟩
  · exact ⟨h1, .inr ⟨g, cap, cur, r1, Nat.le_trans hB r2, r3⟩⟩
theorem rowI_of {b n R : Nat} {S : Int → Prop} {p : Int → Bool} (hp : ∀ x, S x ↔ (1 ≤ x ∧ x ≤ 26) ∧ p x = true) (w : World) (h : SetI w b n S) (hn : n ≤ 17592186044416) (hR : R < w.heap.size) :
    Calls Try.prog 59 #[.map (some b), .func (.func 60) #[] #[]] w fun e w' => ∃ v, e = .returned v ∧ RowI R w' v (labels26.filter p) ∧ Below w.heap.size w w' := by
  refine (risingI_any b n S w h hn).mono ?_
  rintro e w' ⟨v, zs, rfl, hO, h1, h2, h3⟩
  have hz : zs = labels26.filter p := rises_labels h1 fun x => by
    constructor
    · intro hx; exact (hp x).1 ((h3 x (h2 x hx)).1 hx)
    · intro hx; exact (h3 x (okI_of (by omega))).2 ((hp x).2 hx)
  rw [hz] at hO
  exact ⟨v, rfl, row_down hO.1 hR, hO.2.1⟩
theorem rowQ_of {b n R : Nat} {S : Int × Int → Prop} {p : Int × Int → Bool} (hp : ∀ x, S x ↔ ((1 ≤ x.1 ∧ x.1 ≤ 26) ∧ 1 ≤ x.2 ∧ x.2 ≤ 26) ∧ p x = true) (w : World) (h : SetP w b n S) (hn : n ≤ 8796093022208) (hR : R < w.heap.size) :
    Calls Try.prog 61 #[.map (some b), .func (.func 62) #[] #[]] w fun e w' => ∃ v, e = .returned v ∧ RowQ R w' v (pairs26.filter p) ∧ Below w.heap.size w w' := by
  refine (risingP_any b n S w h hn).mono ?_
  rintro e w' ⟨v, zs, rfl, hO, hl, h1, h2, h3⟩
  have hz : zs = pairs26.filter p := rises_pairs h1 fun x => by
    constructor
    · intro hx; exact (hp x).1 ((h3 x (h2 x hx)).1 hx)
    · intro hx; exact (h3 x ⟨okI_of (by omega), okI_of (by omega)⟩).2 ((hp x).2 hx)
  rw [hz] at hO
  exact ⟨v, rfl, row_down hO.1 hR, hO.2.1⟩

/-- The result's cells, nothing laid into them yet. -/
def Res4 (w : World) (R : Nat) : Prop := Box4 w R (.slice none 0 0) (.slice none 0 0) (.slice none 0 0) (.slice none 0 0) ∧ ∀ j, w.frozen? ⟨R, j, none⟩ = false
theorem Res4.below {w w' : World} {R : Nat} (h : Res4 w R) (hb : Below w.heap.size w w') : Res4 w' R := ⟨h.1.below hb, fun j => by rw [hb.frozen (p := ⟨R, j, none⟩) h.1.1]; exact h.2 j⟩
theorem res4_new (w : World) : Res4 (w.alloc (.cells #[.slice none 0 0, .slice none 0 0, .slice none 0 0, .slice none 0 0] 26)) w.heap.size :=
  ⟨box4_new w _ _ _ _ _, fun j => World.frozen?_alloc_at _ _ _ _ rfl⟩

/-- Four values are laid into the box R. -/
theorem box4_store {w : World} {R : Nat} {z0 z1 z2 z3 : Value} (h : Box4 w R z0 z1 z2 z3) (v0 v1 v2 v3 : Value) : Box4 ((((w.setCell ⟨R, 0, none⟩ v0).setCell ⟨R, 1, none⟩ v1).setCell ⟨R, 2, none⟩ v2).setCell ⟨R, 3, none⟩ v3) R v0 v1 v2 v3 := by
  obtain ⟨h, h0, h1, h2, h3⟩ := h
  refine ⟨by simpa using h, ?_, ?_, ?_, ?_⟩
  · rw [World.cell?_setCell_other _ _ _ _ (by simp), World.cell?_setCell_other _ _ _ _ (by simp), World.cell?_setCell_other _ _ _ _ (by simp)]
    exact World.cell?_setCell_same _ _ _ h0
  · rw [World.cell?_setCell_other _ _ _ _ (by simp), World.cell?_setCell_other _ _ _ _ (by simp)]
    exact World.cell?_setCell_same _ _ _ ((World.cell?_setCell_other _ _ _ _ (by simp)).trans h1)
  · rw [World.cell?_setCell_other _ _ _ _ (by simp)]
    exact World.cell?_setCell_same _ _ _ ((World.cell?_setCell_other _ _ _ _ (by simp)).trans ((World.cell?_setCell_other _ _ _ _ (by simp)).trans h2))
  · exact World.cell?_setCell_same _ _ _ ((World.cell?_setCell_other _ _ _ _ (by simp)).trans ((World.cell?_setCell_other _ _ _ _ (by simp)).trans ((World.cell?_setCell_other _ _ _ _ (by simp)).trans h3)))

set_option maxHeartbeats 4000000 in
theorem prints_any (b0 b1 b2 b3 n : Nat) (S0 S1 S2 : Int → Prop) (S3 : Int × Int → Prop) (p0 p1 p2 : Int → Bool) (p3 : Int × Int → Bool) (w : World) (s0 : SetI w b0 n S0) (s1 : SetI w b1 n S1) (s2 : SetI w b2 n S2) (s3 : SetP w b3 n S3)
    (e0 : ∀ x, S0 x ↔ (1 ≤ x ∧ x ≤ 26) ∧ p0 x = true) (e1 : ∀ x, S1 x ↔ (1 ≤ x ∧ x ≤ 26) ∧ p1 x = true) (e2 : ∀ x, S2 x ↔ (1 ≤ x ∧ x ≤ 26) ∧ p2 x = true) (e3 : ∀ x, S3 x ↔ ((1 ≤ x.1 ∧ x.1 ≤ 26) ∧ 1 ≤ x.2 ∧ x.2 ≤ 26) ∧ p3 x = true) (hn : n ≤ 1000000) :
    Calls Try.prog 31 #[.agg #[.map (some b0), .map (some b1), .map (some b2), .map (some b3)]] w fun e w' => ∃ v, e = .returned v ∧ PrintsV w' v ⟨labels26.filter p0, labels26.filter p1, labels26.filter p2, pairs26.filter p3⟩ ∧ Below w.heap.size w w' := by
  have hbx := box4_new w (.map (some b0)) (.map (some b1)) (.map (some b2)) (.map (some b3)) 58
  have bb1 := below_new w (.cells #[.map (some b0), .map (some b1), .map (some b2), .map (some b3)] 58)
  have hz1 : (w.alloc (.cells #[.map (some b0), .map (some b1), .map (some b2), .map (some b3)] 58)).heap.size = w.heap.size + 1 := by simp
  obtain ⟨w1, H1⟩ : ∃ u, Hid (w.alloc (.cells #[.map (some b0), .map (some b1), .map (some b2), .map (some b3)] 58) = u) := ⟨_, rfl⟩
  rw [H1.out] at hbx bb1 hz1
  have hRx := res4_new w1
  have bb2 := below_new w1 (.cells #[.slice none 0 0, .slice none 0 0, .slice none 0 0, .slice none 0 0] 26)
  have hz2 : (w1.alloc (.cells #[.slice none 0 0, .slice none 0 0, .slice none 0 0, .slice none 0 0] 26)).heap.size = w.heap.size + 1 + 1 := by simp [hz1]
  obtain ⟨w2, H2⟩ : ∃ u, Hid (w1.alloc (.cells #[.slice none 0 0, .slice none 0 0, .slice none 0 0, .slice none 0 0] 26) = u) := ⟨_, rfl⟩
  rw [H2.out] at hRx bb2 hz2
  rw [hz1] at hRx
  have hb2 := hbx.below bb2
  have bw := bb1.trans (bb2.mono (by omega))
  obtain ⟨xb, HX⟩ : ∃ x, Hid (w.heap.size = x) := ⟨_, rfl⟩
  have t0 := (s0.below bb1).below bb2
  have t1 := (s1.below bb1).below bb2
  have t2 := (s2.below bb1).below bb2
  have t3 := (s3.below bb1).below bb2
  have R0 := fun w h hR => rowI_of (R := xb + 1) (b := b0) (n := n) e0 w h (by omega) hR
  have R1 := fun w h hR => rowI_of (R := xb + 1) (b := b1) (n := n) e1 w h (by omega) hR
  have R2 := fun w h hR => rowI_of (R := xb + 1) (b := b2) (n := n) e2 w h (by omega) hR
  have R3 := fun w h hR => rowQ_of (R := xb + 1) (b := b3) (n := n) e3 w h (by omega) hR
  have k0 : (labels26.filter p0).length ≤ 26 := Nat.le_trans (List.length_filter_le _ _) (by decide)
  have k1 : (labels26.filter p1).length ≤ 26 := Nat.le_trans (List.length_filter_le _ _) (by decide)
  have k2 : (labels26.filter p2).length ≤ 26 := Nat.le_trans (List.length_filter_le _ _) (by decide)
  have k3 : (pairs26.filter p3).length ≤ 676 := Nat.le_trans (List.length_filter_le _ _) (by decide +kernel)
  generalize labels26.filter p0 = L0 at R0 k0 ⊢
  generalize labels26.filter p1 = L1 at R1 k1 ⊢
  generalize labels26.filter p2 = L2 at R2 k2 ⊢
  generalize pairs26.filter p3 = L3 at R3 k3 ⊢
  clear e0 e1 e2 e3 s0 s1 s2 s3 bb1 bb2 hbx
  go_enter Try.func31, Try.ntmps31
  go_upto_region 1 with fail
  rw [H1.out, H2.out]
  rw [HX.out] at hRx hb2 hz2 bw hz1 ⊢
  have bdr := (Below.refl w2.heap.size w2).drew
  replace t0 := t0.below bdr
  replace t1 := t1.below bdr
  replace t2 := t2.below bdr
  replace t3 := t3.below bdr
  have hb3 := hb2.below bdr
  have hR3 := hRx.below bdr
  have bw3 := bw.trans (bdr.mono (by omega))
  have hsz3 : xb + 1 < w2.drew.heap.size := by show _ < w2.heap.size; omega
  obtain ⟨_, c0, c1, c2, c3⟩ := id hb2
  have hne : ¬ xb = xb + 1 := by omega
  clear H1 H2 hz1 hz2 bdr bw hRx
  go_region_held3 (fun w' => w'.cell? ⟨xb, 0, none⟩ = some (.map (some b0)) ∧ w'.cell? ⟨xb, 1, none⟩ = some (.map (some b1)) ∧ w'.cell? ⟨xb, 2, none⟩ = some (.map (some b2)) ∧ w'.cell? ⟨xb, 3, none⟩ = some (.map (some b3)))
    (go_keep)
    (first
      | (go_at_call 59; (with_reducible refine (R0 _ ?_ ?_).mono ?_); (assumption); (assumption); rintro e wa ⟨v0, rfl, r0, ba⟩; obtain ⟨av0, cv0, rfl⟩ := r0.slice; have t0 : SetI wa b0 n S0 := SetA.below (by assumption) ba; have t1 : SetI wa b1 n S1 := SetA.below (by assumption) ba; have t2 : SetI wa b2 n S2 := SetA.below (by assumption) ba; have t3 : SetP wa b3 n S3 := SetA.below (by assumption) ba; have hb : Box4 wa xb (.map (some b0)) (.map (some b1)) (.map (some b2)) (.map (some b3)) := Box4.below (by assumption) ba; have hRx : Res4 wa (xb + 1) := Res4.below (by assumption) ba; obtain ⟨dx, d0, d1, d2, d3⟩ := id hb; have bw : Below xb w wa := (by refine Below.trans ?_ (Below.mono ba ?_); assumption; omega); have hsz : xb + 1 < wa.heap.size := Nat.lt_of_lt_of_le (show xb + 1 < _ from by assumption) (Below.size ba))
      | (go_at_call 59; (with_reducible refine (R1 _ ?_ ?_).mono ?_); (assumption); (assumption); rintro e wb ⟨v1, rfl, r1, bb⟩; obtain ⟨av1, cv1, rfl⟩ := r1.slice; have t0 : SetI wb b0 n S0 := SetA.below (by assumption) bb; have t1 : SetI wb b1 n S1 := SetA.below (by assumption) bb; have t2 : SetI wb b2 n S2 := SetA.below (by assumption) bb; have t3 : SetP wb b3 n S3 := SetA.below (by assumption) bb; have hb : Box4 wb xb (.map (some b0)) (.map (some b1)) (.map (some b2)) (.map (some b3)) := Box4.below (by assumption) bb; have hRx : Res4 wb (xb + 1) := Res4.below (by assumption) bb; obtain ⟨dx, d0, d1, d2, d3⟩ := id hb; have bw : Below xb w wb := (by refine Below.trans ?_ (Below.mono bb ?_); assumption; omega); have hsz : xb + 1 < wb.heap.size := Nat.lt_of_lt_of_le (show xb + 1 < _ from by assumption) (Below.size bb); have r0 : RowI (xb + 1) wb _ L0 := RowI.below (by assumption) bb)
      | (go_at_call 59; (with_reducible refine (R2 _ ?_ ?_).mono ?_); (assumption); (assumption); rintro e wc ⟨v2, rfl, r2, bc⟩; obtain ⟨av2, cv2, rfl⟩ := r2.slice; have t0 : SetI wc b0 n S0 := SetA.below (by assumption) bc; have t1 : SetI wc b1 n S1 := SetA.below (by assumption) bc; have t2 : SetI wc b2 n S2 := SetA.below (by assumption) bc; have t3 : SetP wc b3 n S3 := SetA.below (by assumption) bc; have hb : Box4 wc xb (.map (some b0)) (.map (some b1)) (.map (some b2)) (.map (some b3)) := Box4.below (by assumption) bc; have hRx : Res4 wc (xb + 1) := Res4.below (by assumption) bc; obtain ⟨dx, d0, d1, d2, d3⟩ := id hb; have bw : Below xb w wc := (by refine Below.trans ?_ (Below.mono bc ?_); assumption; omega); have hsz : xb + 1 < wc.heap.size := Nat.lt_of_lt_of_le (show xb + 1 < _ from by assumption) (Below.size bc); have r0 : RowI (xb + 1) wc _ L0 := RowI.below (by assumption) bc; have r1 : RowI (xb + 1) wc _ L1 := RowI.below (by assumption) bc)
      | (go_at_call 61; (with_reducible refine (R3 _ ?_ ?_).mono ?_); (assumption); (assumption); rintro e wd ⟨v3, rfl, r3, bd⟩; obtain ⟨av3, cv3, rfl⟩ := r3.slice; have t0 : SetI wd b0 n S0 := SetA.below (by assumption) bd; have t1 : SetI wd b1 n S1 := SetA.below (by assumption) bd; have t2 : SetI wd b2 n S2 := SetA.below (by assumption) bd; have t3 : SetP wd b3 n S3 := SetA.below (by assumption) bd; have hb : Box4 wd xb (.map (some b0)) (.map (some b1)) (.map (some b2)) (.map (some b3)) := Box4.below (by assumption) bd; have hRx : Res4 wd (xb + 1) := Res4.below (by assumption) bd; obtain ⟨dx, d0, d1, d2, d3⟩ := id hb; have bw : Below xb w wd := (by refine Below.trans ?_ (Below.mono bd ?_); assumption; omega); have hsz : xb + 1 < wd.heap.size := Nat.lt_of_lt_of_le (show xb + 1 < _ from by assumption) (Below.size bd); have r0 : RowI (xb + 1) wd _ L0 := RowI.below (by assumption) bd; have r1 : RowI (xb + 1) wd _ L1 := RowI.below (by assumption) bd; have r2 : RowI (xb + 1) wd _ L2 := RowI.below (by assumption) bd; obtain ⟨⟨gx, g0, g1, g2, g3⟩, gf⟩ := id hRx; have f0 := gf 0; have f1 := gf 1; have f2 := gf 2; have f3 := gf 3))
  have q0 : RowI (xb + 1) wd (.slice av0 L0.length cv0) L0 := by assumption
  have q1 : RowI (xb + 1) wd (.slice av1 L1.length cv1) L1 := by assumption
  have q2 : RowI (xb + 1) wd (.slice av2 L2.length cv2) L2 := by assumption
  have q3 : RowQ (xb + 1) wd (.slice av3 L3.length cv3) L3 := by assumption
  have hB := box4_store hRx.1 (.slice av0 L0.length cv0) (.slice av1 L1.length cv1) (.slice av2 L2.length cv2) (.slice av3 L3.length cv3)
  have q0' := (((q0.set 0 (.slice av0 L0.length cv0)).set 1 (.slice av1 L1.length cv1)).set 2 (.slice av2 L2.length cv2)).set 3 (.slice av3 L3.length cv3)
  have q1' := (((q1.set 0 (.slice av0 L0.length cv0)).set 1 (.slice av1 L1.length cv1)).set 2 (.slice av2 L2.length cv2)).set 3 (.slice av3 L3.length cv3)
  have q2' := (((q2.set 0 (.slice av0 L0.length cv0)).set 1 (.slice av1 L1.length cv1)).set 2 (.slice av2 L2.length cv2)).set 3 (.slice av3 L3.length cv3)
  have q3' := (((q3.set 0 (.slice av0 L0.length cv0)).set 1 (.slice av1 L1.length cv1)).set 2 (.slice av2 L2.length cv2)).set 3 (.slice av3 L3.length cv3)
  have bw' := (((bw.setCell (p := ⟨xb + 1, 0, none⟩) (Nat.le_succ xb) (.slice av0 L0.length cv0)).setCell (p := ⟨xb + 1, 1, none⟩) (Nat.le_succ xb) (.slice av1 L1.length cv1)).setCell (p := ⟨xb + 1, 2, none⟩) (Nat.le_succ xb) (.slice av2 L2.length cv2)).setCell (p := ⟨xb + 1, 3, none⟩) (Nat.le_succ xb) (.slice av3 L3.length cv3)
  obtain ⟨W, HW⟩ : ∃ W, Hid ((((wd.setCell ⟨xb + 1, 0, none⟩ (.slice av0 L0.length cv0)).setCell ⟨xb + 1, 1, none⟩ (.slice av1 L1.length cv1)).setCell ⟨xb + 1, 2, none⟩ (.slice av2 L2.length cv2)).setCell ⟨xb + 1, 3, none⟩ (.slice av3 L3.length cv3) = W) := ⟨_, rfl⟩
  rw [HW.out] at hB q0' q1' q2' q3' bw' ⊢
  go_wp2
  exact bodyPost_ret (v := .agg #[.slice av0 L0.length cv0, .slice av1 L1.length cv1, .slice av2 L2.length cv2, .slice av3 L3.length cv3]) (results_prints rfl rfl hB) rfl ⟨_, rfl, ⟨_, _, _, _, rfl, q0'.ints k0 hB.1, q1'.ints k1 hB.1, q2'.ints k2 hB.1, q3'.pairs k3⟩, (by rw [HX.out]; exact bw')⟩

end Go.Proofs.Ytlknegihhcdhbaa

/- Of: what a log shows. -/
namespace Go.Proofs.Ytlknegihhcdhbaa
open Go.RowKit
set_option linter.unusedVariables false
set_option linter.unusedSimpArgs false
set_option maxRecDepth 4000

theorem pairsV_nil (w : World) : PairsV w (.slice none 0 0) [] := ⟨by simp, CellsV.nil w 2 _⟩
theorem printsV_none (w : World) : PrintsV w (.agg #[.slice none 0 0, .slice none 0 0, .slice none 0 0, .slice none 0 0]) noPrints := ⟨_, _, _, _, rfl, Ints.nil _, Ints.nil _, Ints.nil _, pairsV_nil _⟩

theorem Box4.blk {w w' : World} {x : Nat} {v0 v1 v2 v3 : Value} (h : Box4 w x v0 v1 v2 v3) (hb : w'.heap[x]? = w.heap[x]?) (hl : x < w'.heap.size) : Box4 w' x v0 v1 v2 v3 :=
  ⟨hl, (World.cell?_of_block (a := ⟨x, 0, none⟩) hb).trans h.2.1, (World.cell?_of_block (a := ⟨x, 1, none⟩) hb).trans h.2.2.1, (World.cell?_of_block (a := ⟨x, 2, none⟩) hb).trans h.2.2.2.1, (World.cell?_of_block (a := ⟨x, 3, none⟩) hb).trans h.2.2.2.2⟩
theorem ints_putS {w : World} {v : Value} {xs : List Int} {p : Addr} {a : Option Addr} {l c : Nat} (h : Ints w v xs) (hp : w.cell? p = some (.slice a l c)) (u : Value) : Ints (w.setCell p u) v xs := by
  obtain ⟨a', len, cap, e, hl, hm, hs, hr⟩ := h
  refine ⟨a', len, cap, e, hl, hm, hs, fun j hj => ?_⟩
  obtain ⟨b, off, ha, hb, hc⟩ := hr j hj
  refine ⟨b, off, ha, by simpa [World.setCell] using hb, ?_⟩
  rw [World.cell?_setCell_other _ _ _ _ (by intro e; rw [← e, hp] at hc; cases hc)]
  exact hc
theorem pairs_putS {w : World} {v : Value} {xs : List (Int × Int)} {p : Addr} {a : Option Addr} {l c : Nat} (h : PairsV w v xs) (hp : w.cell? p = some (.slice a l c)) (u : Value) : PairsV (w.setCell p u) v xs := by
  obtain ⟨h0, a', cap, e, hl, hm, hs, h1, hr⟩ := h
  refine ⟨h0, a', cap, e, hl, hm, hs, h1, fun j y hj => ?_⟩
  obtain ⟨b, off, ha, hb, hc⟩ := hr j y hj
  refine ⟨b, off, ha, by simpa [World.setCell] using hb, ?_⟩
  have hy : ∃ n, y = .int .i64 n := by
    obtain ⟨x, _, hx⟩ := List.mem_flatMap.1 (List.mem_of_getElem? hj)
    simp only [encP, List.mem_cons, List.not_mem_nil, or_false] at hx
    rcases hx with rfl | rfl
    · exact ⟨_, rfl⟩
    · exact ⟨_, rfl⟩
  obtain ⟨n, rfl⟩ := hy
  rw [World.cell?_setCell_other _ _ _ _ (by intro e; rw [← e, hp] at hc; cases hc)]
  exact hc
theorem store4 {Q : World → Prop} (hQ : ∀ (w : World) p a l c u, Q w → w.cell? p = some (.slice a l c) → Q (w.setCell p u)) {w : World} {R : Nat} (hB : Box4 w R (.slice none 0 0) (.slice none 0 0) (.slice none 0 0) (.slice none 0 0)) (h : Q w) (v0 v1 v2 v3 : Value) :
    Q ((((w.setCell ⟨R, 0, none⟩ v0).setCell ⟨R, 1, none⟩ v1).setCell ⟨R, 2, none⟩ v2).setCell ⟨R, 3, none⟩ v3) := by
  obtain ⟨_, h0, h1, h2, h3⟩ := hB
  exact hQ _ _ _ _ _ _ (hQ _ _ _ _ _ _ (hQ _ _ _ _ _ _ (hQ _ _ _ _ _ _ h h0) ((World.cell?_setCell_other _ _ _ _ (by simp)).trans h1)) ((World.cell?_setCell_other _ _ _ _ (by simp)).trans ((World.cell?_setCell_other _ _ _ _ (by simp)).trans h2)))
    ((World.cell?_setCell_other _ _ _ _ (by simp)).trans ((World.cell?_setCell_other _ _ _ _ (by simp)).trans ((World.cell?_setCell_other _ _ _ _ (by simp)).trans h3)))
theorem ints_slice {w : World} {v : Value} {xs : List Int} (h : Ints w v xs) : ∃ a c, v = .slice a xs.length c := by
  obtain ⟨a, len, cap, e, hl, _⟩ := h
  exact ⟨a, cap, by rw [e, hl]⟩
theorem pairs_slice {w : World} {v : Value} {xs : List (Int × Int)} (h : PairsV w v xs) : ∃ a c, v = .slice a xs.length c := by
  obtain ⟨a, cap, e, _⟩ := h.2.slice
  exact ⟨a, cap, e⟩
/-- The four sets, as they are made. -/
def madeQ (w0 : World) (R : Nat) : World := ((((w0.alloc (.map #[] 0)).alloc (.map #[] 0)).alloc (.map #[] 0)).alloc (.map #[] 0)).alloc (.cells #[.map (some (R + 1)), .map (some (R + 1 + 1)), .map (some (R + 1 + 1 + 1)), .map (some (R + 1 + 1 + 1 + 1))] 58)
theorem four_maps (w0 : World) (R : Nat) (hz : w0.heap.size = R + 1) :
    SeenAt w0 (madeQ w0 R) (madeQ w0 R) (R + 1) (R + 1 + 1) (R + 1 + 1 + 1) (R + 1 + 1 + 1 + 1) 0 (fun _ => False) (fun _ => False) (fun _ => False) (fun _ => False) ∧
      Box4 (madeQ w0 R) (R + 1 + 1 + 1 + 1 + 1) (.map (some (R + 1))) (.map (some (R + 1 + 1))) (.map (some (R + 1 + 1 + 1))) (.map (some (R + 1 + 1 + 1 + 1))) := by
  unfold madeQ
  have h1 : SetI (w0.alloc (.map #[] 0)) w0.heap.size 0 (fun _ => False) := setA_made w0
  have b1 := below_new w0 (.map #[] 0)
  have z1 : (w0.alloc (.map #[] 0)).heap.size = R + 1 + 1 := by simp [hz]
  generalize w0.alloc (.map #[] 0) = w1 at h1 b1 z1 ⊢
  have h2 : SetI (w1.alloc (.map #[] 0)) w1.heap.size 0 (fun _ => False) := setA_made w1
  have b2 := below_new w1 (.map #[] 0)
  have z2 : (w1.alloc (.map #[] 0)).heap.size = R + 1 + 1 + 1 := by simp [z1]
  generalize w1.alloc (.map #[] 0) = w2 at h2 b2 z2 ⊢
  have h3 : SetI (w2.alloc (.map #[] 0)) w2.heap.size 0 (fun _ => False) := setA_made w2
  have b3 := below_new w2 (.map #[] 0)
  have z3 : (w2.alloc (.map #[] 0)).heap.size = R + 1 + 1 + 1 + 1 := by simp [z2]
  generalize w2.alloc (.map #[] 0) = w3 at h3 b3 z3 ⊢
  have h4 : SetP (w3.alloc (.map #[] 0)) w3.heap.size 0 (fun _ => False) := setA_made w3
  have b4 := below_new w3 (.map #[] 0)
  have z4 : (w3.alloc (.map #[] 0)).heap.size = R + 1 + 1 + 1 + 1 + 1 := by simp [z3]
  generalize w3.alloc (.map #[] 0) = w4 at h4 b4 z4 ⊢
  have hb := box4_new w4 (.map (some (R + 1))) (.map (some (R + 1 + 1))) (.map (some (R + 1 + 1 + 1))) (.map (some (R + 1 + 1 + 1 + 1))) 58
  have b5 := below_new w4 (.cells #[.map (some (R + 1)), .map (some (R + 1 + 1)), .map (some (R + 1 + 1 + 1)), .map (some (R + 1 + 1 + 1 + 1))] 58)
  generalize w4.alloc (.cells #[.map (some (R + 1)), .map (some (R + 1 + 1)), .map (some (R + 1 + 1 + 1)), .map (some (R + 1 + 1 + 1 + 1))] 58) = w5 at hb b5 ⊢
  rw [hz] at h1
  rw [z1] at h2
  rw [z2] at h3
  rw [z3] at h4
  rw [z4] at hb
  exact ⟨⟨(((h1.below b2).below b3).below b4).below b5, ((h2.below b3).below b4).below b5, (h3.below b4).below b5, h4.below b5, by rw [hz]; omega, by omega,
    (((b1.trans (b2.mono (by omega))).trans (b3.mono (by omega))).trans (b4.mono (by omega))).trans (b5.mono (by omega)), Nat.le_refl _, fun _ _ _ _ _ _ => rfl⟩, hb⟩

set_option maxHeartbeats 4000000 in
theorem of_any (v : Value) (log : List (List Int)) (w : World) (hv : Lists w v log) :
    Calls Try.prog 7 #[v] w fun e w' => ∃ r, e = .returned (.tuple #[r, .int .i64 (ofL log).2]) ∧ PrintsV w' r (ofL log).1 ∧ Below w.heap.size w w' := by
  have hR := res4_new w
  have bw := below_new w (.cells #[.slice none 0 0, .slice none 0 0, .slice none 0 0, .slice none 0 0] 26)
  have hz0 : (w.alloc (.cells #[.slice none 0 0, .slice none 0 0, .slice none 0 0, .slice none 0 0] 26)).heap.size = w.heap.size + 1 := by simp
  obtain ⟨w0, H0⟩ : ∃ u, Hid (w.alloc (.cells #[.slice none 0 0, .slice none 0 0, .slice none 0 0, .slice none 0 0] 26) = u) := ⟨_, rfl⟩
  rw [H0.out] at hR bw hz0
  have hv0 := hv.below bw
  obtain ⟨R, HR⟩ : ∃ x, Hid (w.heap.size = x) := ⟨_, rfl⟩
  rw [HR.out] at hR hz0
  by_cases hw : wrongV log = 0
  · obtain ⟨hl60, hts⟩ := wrongV_ok hw
    have hw1 := wrong_any v log w0 hv0
    have HO : Hid (ofL log = (printsOf log, 0)) := by show _ = _; unfold ofL; rw [if_pos hw]
    rw [HO.out]
    rw [hw] at hw1
    obtain ⟨a, len, cap, rfl, hlen, hmx, hsh, hr⟩ := id hv0
    have Hlen : Hid (log.length = len) := hlen
    rw [Hlen.out] at hl60
    have HL : Hid (∀ t ∈ log, t.length ≤ 60 ∧ ∀ x ∈ t, 1 ≤ x ∧ x ≤ 26) := hts
    clear hlen hsh hr hw hts
    have hmm := @run_makeMap Try.prog
    obtain ⟨hS0, hb0⟩ := four_maps w0 R hz0
    obtain ⟨wq, HQ⟩ : ∃ u, Hid (madeQ w0 R = u) := ⟨_, rfl⟩
    rw [HQ.out] at hS0 hb0
    have hS := (hS0.same (T0 := SomeT (fun t x => x ∈ t) log 0) (T1 := SomeT firstP log 0) (T2 := SomeT lastP log 0) (T3 := SomeT (fun t p => behP t t.length p) log 0) (fun x => (someT_zero _ log x).symm) (fun x => (someT_zero _ log x).symm) (fun x => (someT_zero _ log x).symm) (fun x => (someT_zero _ log x).symm)).mono (n' := 200 * 0) (by omega)
    clear hS0
    go_enter Try.func7, Try.ntmps7
    go_upto_region 1 with fail
    rw [H0.out, HR.out]
    go_upto_region 5 with (go_at_call 9; refine hw1.mono ?_; rintro e w2 ⟨rfl, hq⟩; rw [hq]; clear hq)
    change Code.wp _ _ _ _ (madeQ w0 R)
    rw [HQ.out]
    clear hmm hw1
    obtain ⟨xb, HX⟩ : ∃ x, Hid (R + 1 + 1 + 1 + 1 + 1 = x) := ⟨_, rfl⟩
    have hxR : Hid (xb ≠ R + 1 ∧ xb ≠ R + 1 + 1 ∧ xb ≠ R + 1 + 1 + 1 ∧ xb ≠ R + 1 + 1 + 1 + 1) := by show _ ∧ _; have := HX.out; omega
    rw [HX.out] at hb0 ⊢
    go_wp2_with fail
    go_loopg [21] len (fun gk i' wr => ∃ k : Nat, k + gk = len ∧ i' = .int .i64 (k : Int) ∧ SeenAt w0 wq wr (R + 1) (R + 1 + 1) (R + 1 + 1 + 1) (R + 1 + 1 + 1 + 1) (200 * k) (SomeT (fun t x => x ∈ t) log k) (SomeT firstP log k) (SomeT lastP log k) (SomeT (fun t p => behP t t.length p) log k))
    case atStart => exact ⟨0, by omega, rfl, hS⟩
    case round =>
      clear hS
      obtain ⟨k, hkg, rfl, hS⟩ := hrel
      have hbr := hb0.blk (hS.kept xb hb0.1 hxR.out.1 hxR.out.2.1 hxR.out.2.2.1 hxR.out.2.2.2) (Nat.lt_of_lt_of_le hb0.1 hS.sizeq)
      obtain ⟨x0, x1, x2, x3, x4⟩ := id hbr
      by_cases hk : k < len
      · obtain ⟨tb, tf, u, rfl, hlt, c2w, hu⟩ := lists_at hv0 hk
        have c2 := (hS.below.cell (p := ⟨tb, tf + k, none⟩) hlt).trans c2w
        clear c2w
        obtain ⟨t, HT⟩ : ∃ t, Hid (log.getD k [] = t) := ⟨_, rfl⟩
        have HTm : Hid (t.length ≤ 60 ∧ ∀ x ∈ t, 1 ≤ x ∧ x ≤ 26) := by rw [← HT.out]; exact HL.out _ (at_lists (by rw [Hlen.out]; exact hk))
        rw [HT.out] at hu
        have hlook := look_any w0 wq wr _ _ _ _ (200 * k) _ _ _ _ hS u t hu (fun x hx => okI_of (by have := HTm.out.2 x hx; omega)) HTm.out.1 (by omega)
        have hkl : k < log.length := by rw [Hlen.out]; exact hk
        go_wp2_with (go_at_call 30; refine hlook.mono ?_; rintro e w3 ⟨rfl, hS3⟩)
        have hS4 := hS3.same (T0 := SomeT (fun t x => x ∈ t) log (k + 1)) (T1 := SomeT firstP log (k + 1)) (T2 := SomeT lastP log (k + 1)) (T3 := SomeT (fun t p => behP t t.length p) log (k + 1))
          (fun x => by rw [← HT.out]; exact someT_succ (f := fun t x => x ∈ t) hkl x) (fun x => by rw [← HT.out]; exact someT_succ hkl x) (fun x => by rw [← HT.out]; exact someT_succ hkl x) (fun x => by rw [← HT.out]; exact someT_succ (f := fun t p => behP t t.length p) hkl x)
        clear hS hS3 hbr x0 x1 x2 x3 x4 c2 hlook
        go_roundg (gk - 1)
        case measure => omega
        case rel => exact ⟨k + 1, by omega, by go_num, by rw [show 200 * (k + 1) = 200 * k + 200 by omega]; exact hS4⟩
      · obtain rfl : k = len := by omega
        have HK : Hid (∀ t ∈ log, ∀ x ∈ t, 1 ≤ x ∧ x ≤ 26) := fun t ht => (HL.out t ht).2
        have hS' := hS
        rw [← Hlen.out] at hS'
        have hpr := prints_any _ _ _ _ (200 * log.length) _ _ _ _ _ _ _ _ wr hS'.s0 hS'.s1 hS'.s2 hS'.s3 (someT_label (g := inT) HK.out in_iff (fun t x h => h)) (someT_label (g := firstT) HK.out first_iff (fun t x h => firstP_mem h)) (someT_label (g := lastT) HK.out last_iff (fun t x h => lastP_mem h)) (someT_pair HK.out) (by rw [Hlen.out]; omega)
        clear hS'
        have HPr : Hid (PrintsL.mk (labels26.filter fun a => log.any (inT a)) (labels26.filter fun a => log.any (firstT a)) (labels26.filter fun a => log.any (lastT a)) (pairs26.filter fun p => log.any (behindT p)) = printsOf log) := rfl
        have hRr := hR.below (hS.below.mono (Nat.le_refl _))
        have hwr0 := hS.below
        clear hbr
        obtain ⟨L0, HL0⟩ : ∃ l, Hid ((labels26.filter fun a => log.any (inT a)) = l) := ⟨_, rfl⟩
        obtain ⟨L1, HL1⟩ : ∃ l, Hid ((labels26.filter fun a => log.any (firstT a)) = l) := ⟨_, rfl⟩
        obtain ⟨L2, HL2⟩ : ∃ l, Hid ((labels26.filter fun a => log.any (lastT a)) = l) := ⟨_, rfl⟩
        obtain ⟨L3, HL3⟩ : ∃ l, Hid ((pairs26.filter fun p => log.any (behindT p)) = l) := ⟨_, rfl⟩
        rw [HL0.out, HL1.out, HL2.out, HL3.out] at HPr
        have hpr' : Calls Try.prog 31 #[.agg #[.map (some (R + 1)), .map (some (R + 1 + 1)), .map (some (R + 1 + 1 + 1)), .map (some (R + 1 + 1 + 1 + 1))]] wr fun e w' => ∃ v, e = .returned v ∧ PrintsV w' v ⟨L0, L1, L2, L3⟩ ∧ Below wr.heap.size wr w' := by
          rw [← HL0.out, ← HL1.out, ← HL2.out, ← HL3.out]; exact hpr
        clear hpr hS
        go_wp2_with (go_at_call 31; refine hpr'.mono ?_; rintro e w5 ⟨r, rfl, hP, b5⟩; obtain ⟨v0, v1, v2, v3, rfl, p0, p1, p2, p3⟩ := hP; obtain ⟨a0, c0, rfl⟩ := ints_slice p0; obtain ⟨a1, c1, rfl⟩ := ints_slice p1; obtain ⟨a2, c2, rfl⟩ := ints_slice p2; obtain ⟨a3, c3, rfl⟩ := pairs_slice p3; have hR5 := hRr.below b5; obtain ⟨⟨gx, g0, g1, g2, g3⟩, gf⟩ := id hR5; have f0 := gf 0; have f1 := gf 1; have f2 := gf 2; have f3 := gf 3)
        have hB := box4_store hR5.1 (.slice a0 L0.length c0) (.slice a1 L1.length c1) (.slice a2 L2.length c2) (.slice a3 L3.length c3)
        have q0 := store4 (Q := fun w => Ints w (.slice a0 L0.length c0) L0) (fun w p a l c u h hp => ints_putS h hp u) hR5.1 p0 (.slice a0 L0.length c0) (.slice a1 L1.length c1) (.slice a2 L2.length c2) (.slice a3 L3.length c3)
        have q1 := store4 (Q := fun w => Ints w (.slice a1 L1.length c1) L1) (fun w p a l c u h hp => ints_putS h hp u) hR5.1 p1 (.slice a0 L0.length c0) (.slice a1 L1.length c1) (.slice a2 L2.length c2) (.slice a3 L3.length c3)
        have q2 := store4 (Q := fun w => Ints w (.slice a2 L2.length c2) L2) (fun w p a l c u h hp => ints_putS h hp u) hR5.1 p2 (.slice a0 L0.length c0) (.slice a1 L1.length c1) (.slice a2 L2.length c2) (.slice a3 L3.length c3)
        have q3 := store4 (Q := fun w => PairsV w (.slice a3 L3.length c3) L3) (fun w p a l c u h hp => pairs_putS h hp u) hR5.1 p3 (.slice a0 L0.length c0) (.slice a1 L1.length c1) (.slice a2 L2.length c2) (.slice a3 L3.length c3)
        have bw5 : Below w.heap.size w w5 := (bw.trans (hwr0.mono (by rw [HR.out]; omega))).trans (b5.mono (by rw [HR.out]; have := hwr0.size; omega))
        have bw' := (((bw5.setCell (p := ⟨R, 0, none⟩) (by rw [HR.out]; exact Nat.le_refl _) (.slice a0 L0.length c0)).setCell (p := ⟨R, 1, none⟩) (by rw [HR.out]; exact Nat.le_refl _) (.slice a1 L1.length c1)).setCell (p := ⟨R, 2, none⟩) (by rw [HR.out]; exact Nat.le_refl _) (.slice a2 L2.length c2)).setCell (p := ⟨R, 3, none⟩) (by rw [HR.out]; exact Nat.le_refl _) (.slice a3 L3.length c3)
        obtain ⟨W, HW⟩ : ∃ W, Hid ((((w5.setCell ⟨R, 0, none⟩ (.slice a0 L0.length c0)).setCell ⟨R, 1, none⟩ (.slice a1 L1.length c1)).setCell ⟨R, 2, none⟩ (.slice a2 L2.length c2)).setCell ⟨R, 3, none⟩ (.slice a3 L3.length c3) = W) := ⟨_, rfl⟩
        rw [HW.out] at hB bw' q0 q1 q2 q3 ⊢
        exact bodyPost_ret (v := .tuple #[.agg #[.slice a0 L0.length c0, .slice a1 L1.length c1, .slice a2 L2.length c2, .slice a3 L3.length c3], .int .i64 0]) (results_prints1 rfl rfl rfl hB) rfl ⟨_, rfl, by rw [← HPr.out]; exact ⟨_, _, _, _, rfl, q0, q1, q2, q3⟩, bw'⟩
  · have hw1 := wrong_any v log w0 hv0
    have HO : Hid (ofL log = (noPrints, wrongV log)) := by show _ = _; unfold ofL; rw [if_neg hw]
    rw [HO.out]
    generalize wrongV log = q at hw hw1 ⊢
    obtain ⟨⟨gx, g0, g1, g2, g3⟩, gf⟩ := id hR
    have f0 := gf 0
    have f1 := gf 1
    have f2 := gf 2
    have f3 := gf 3
    have hB := box4_store hR.1 (.slice none 0 0) (.slice none 0 0) (.slice none 0 0) (.slice none 0 0)
    have bw' := (((bw.setCell (p := ⟨R, 0, none⟩) (by rw [HR.out]; exact Nat.le_refl _) (.slice none 0 0)).setCell (p := ⟨R, 1, none⟩) (by rw [HR.out]; exact Nat.le_refl _) (.slice none 0 0)).setCell (p := ⟨R, 2, none⟩) (by rw [HR.out]; exact Nat.le_refl _) (.slice none 0 0)).setCell (p := ⟨R, 3, none⟩) (by rw [HR.out]; exact Nat.le_refl _) (.slice none 0 0)
    obtain ⟨W, HW⟩ : ∃ W, Hid ((((w0.setCell ⟨R, 0, none⟩ (.slice none 0 0)).setCell ⟨R, 1, none⟩ (.slice none 0 0)).setCell ⟨R, 2, none⟩ (.slice none 0 0)).setCell ⟨R, 3, none⟩ (.slice none 0 0) = W) := ⟨_, rfl⟩
    rw [HW.out] at hB bw'
    go_enter Try.func7, Try.ntmps7
    go_upto_region 1 with fail
    rw [H0.out, HR.out]
    go_wp2_with (go_at_call 9; refine hw1.mono ?_; rintro e w2 ⟨rfl, rfl⟩)
    rw [HW.out]
    exact bodyPost_ret (v := .tuple #[.agg #[.slice none 0 0, .slice none 0 0, .slice none 0 0, .slice none 0 0], .int .i64 q]) (results_prints1 rfl rfl rfl hB) rfl ⟨_, rfl, printsV_none _, bw'⟩

end Go.Proofs.Ytlknegihhcdhbaa

/- slices.Equal over pairs that are the same. -/
namespace Go.Proofs.Ytlknegihhcdhbaa
open Go.RowKit
set_option linter.unusedVariables false
set_option linter.unusedSimpArgs false
set_option maxRecDepth 4000

theorem cellsP_at {l : List (Int × Int)} {k : Nat} (hk : k < l.length) : (cellsP l)[k * 2]? = some (.int .i64 (prAt l k).1) ∧ (cellsP l)[k * 2 + 1]? = some (.int .i64 (prAt l k).2) := by
  have e0 := cellsP_get l (k * 2) (by omega)
  have e1 := cellsP_get l (k * 2 + 1) (by omega)
  rw [show k * 2 / 2 = k by omega, show k * 2 % 2 = 0 by omega] at e0
  rw [show (k * 2 + 1) / 2 = k by omega, show (k * 2 + 1) % 2 = 1 by omega] at e1
  rw [getElem!_pos (cellsP l) _ (by rw [cellsP_len]; omega)] at e0 e1
  have h0 : prAt l k = l[k]! := by unfold prAt; rw [getElem!_pos l k hk, List.getD_eq_getElem?_getD, List.getElem?_eq_getElem hk]; rfl
  rw [h0]
  exact ⟨by rw [List.getElem?_eq_getElem (by rw [cellsP_len]; omega), e0]; rfl, by rw [List.getElem?_eq_getElem (by rw [cellsP_len]; omega), e1]; rfl⟩
theorem PairsV.at {w : World} {a : Option Addr} {n cap : Nat} {l : List (Int × Int)} (h : PairsV w (.slice a n cap) l) {k : Nat} (hk : k < l.length) :
    ∃ b off, a = some ⟨b, off, none⟩ ∧ b < w.heap.size ∧ w.cell? ⟨b, off + k * 2, none⟩ = some (.int .i64 (prAt l k).1) ∧ w.cell? ⟨b, off + (k * 2 + 1), none⟩ = some (.int .i64 (prAt l k).2) := by
  obtain ⟨_, a', cap', e, hl, hm, hs, h1, hr⟩ := h
  injection e with e1 e2 e3
  subst e1
  obtain ⟨c0, c1⟩ := cellsP_at hk
  obtain ⟨b, off, rfl, hlt, h0⟩ := hr _ _ c0
  obtain ⟨b', off', e, _, h1⟩ := hr _ _ c1
  injection e with e
  injection e with e1 e2
  subst e1 e2
  exact ⟨b, off, rfl, hlt, h0, h1⟩

/-- Two pairs held against each other. -/
theorem eqP (a b c d : Int) (w : World) : (Op.equalIn 10000 38 (.agg #[.int .i64 a, .int .i64 b]) (.agg #[.int .i64 c, .int .i64 d])).run Try.prog w = .ok (a == c && b == d) w := by
  have u3 := Try.underlying3
  have a3 := Try.isAgg3
  have z3 := Try.sizeOf3
  rw [show (10000 : Nat) = 9999 + 1 from rfl, Op.equalIn]
  simp only [Sem.run_bind, run_underlying Try.underlying38, Result.andThen_ok]
  simp only [Std.Legacy.Range.forIn_eq_forIn_range', Std.Legacy.Range.size, Nat.sub_zero, Nat.add_sub_cancel, Nat.div_one, List.range'_succ, List.range'_zero, List.forIn_cons, List.forIn_nil]
  go_simp
  by_cases h1 : a = c <;> by_cases h2 : b = d <;> simp [h1, h2]

set_option maxHeartbeats 1000000 in
theorem eqpairs_same (v u : Value) (l : List (Int × Int)) (w : World) (hv : PairsV w v l) (hu : PairsV w u l) :
    Calls Try.prog 23 #[v, u] w fun e w' => e = .returned (.bool true) ∧ Below w.heap.size w w' := by
  obtain ⟨a, ca, rfl⟩ := pairs_slice1 hv
  obtain ⟨b, cb, rfl⟩ := pairs_slice1 hu
  have hmx := hv.1
  obtain ⟨len, hlen⟩ : ∃ len, len = l.length := ⟨_, rfl⟩
  rw [← hlen] at hv hu hmx ⊢
  have e1 : (((len : Nat) : Int) != (len : Int)) = false := by simp
  go_enter Try.func23, Try.ntmps23
  go_wp2_with fail
  go_loopg [13] len (fun g i wr => ∃ k : Nat, k + g = len ∧ i = .int .i64 k ∧ Below w.heap.size w wr)
  case atStart => exact ⟨0, by omega, rfl, Below.refl _ _⟩
  case round =>
    obtain ⟨k, hkg, rfl, hb⟩ := hrel
    by_cases hkn : k < len
    · have hkl : k < l.length := by omega
      obtain ⟨b1, o1, rfl, _, c0, c1⟩ := (hv.below hb).at hkl
      obtain ⟨b2, o2, rfl, _, d0, d1⟩ := (hu.below hb).at hkl
      generalize (prAt l k).1 = z0 at *
      generalize (prAt l k).2 = z1 at *
      rw [← Nat.add_assoc] at c1 d1
      have heq : ∀ w, (Op.equalIn 10000 38 (.agg #[.int .i64 z0, .int .i64 z1]) (.agg #[.int .i64 z0, .int .i64 z1])).run Try.prog w = .ok true w := fun w => by rw [eqP]; simp
      have R : ∀ j, Below w.heap.size w (wr.drewN j) := fun j => below_drewN hb j
      have HR : Hid _ := R
      clear R hb
      go_wp2_with fail
      go_quiet (fail)
      go_wp2
      go_roundg (gk - 1)
      case measure => omega
      case rel => exact ⟨k + 1, by omega, by go_num, HR.out _⟩
    · go_wp2
      go_ret
      exact ⟨rfl, hb⟩

end Go.Proofs.Ytlknegihhcdhbaa

/- The small trial of package tracks that the laws make first: it answers true. -/
namespace Go.Proofs.Ytlknegihhcdhbaa
open Go.RowKit
set_option linter.unusedVariables false
set_option linter.unusedSimpArgs false
set_option maxRecDepth 4000

theorem lists_one (w : World) (x : Value) (xs : List Int) (t : TypeId) (hx : Ints w x xs) : Lists (w.alloc (.cells #[x] t)) (.slice (some ⟨w.heap.size, 0, none⟩) 1 1) [xs] := by
  have hn := below_new w (.cells #[x] t)
  refine ⟨_, _, _, rfl, rfl, by omega, ⟨by omega, by omega, fun h => by cases h⟩, fun j hj => ?_⟩
  match j, hj with
  | 0, _ => exact ⟨w.heap.size, 0, x, rfl, by simp, by rw [World.cell?_alloc_at _ _ _ _ rfl]; rfl, hx.below hn⟩
  | j + 1, h => simp at h
theorem lists_three (w : World) (x y z : Value) (xs ys zs : List Int) (t : TypeId) (hx : Ints w x xs) (hy : Ints w y ys) (hz : Ints w z zs) : Lists (w.alloc (.cells #[x, y, z] t)) (.slice (some ⟨w.heap.size, 0, none⟩) 3 3) [xs, ys, zs] := by
  have hn := below_new w (.cells #[x, y, z] t)
  refine ⟨_, _, _, rfl, rfl, by omega, ⟨by omega, by omega, fun h => by cases h⟩, fun j hj => ?_⟩
  match j, hj with
  | 0, _ => exact ⟨w.heap.size, 0, x, rfl, by simp, by rw [World.cell?_alloc_at _ _ _ _ rfl]; rfl, hx.below hn⟩
  | 1, _ => exact ⟨w.heap.size, 0, y, rfl, by simp, by rw [World.cell?_alloc_at _ _ _ _ rfl]; rfl, hy.below hn⟩
  | 2, _ => exact ⟨w.heap.size, 0, z, rfl, by simp, by rw [World.cell?_alloc_at _ _ _ _ rfl]; rfl, hz.below hn⟩
  | j + 3, h => simp at h; omega
theorem lit22 (w : World) : Lists (((w.alloc (.cells #[.int .i64 1, .int .i64 2, .int .i64 3] 3)).alloc (.cells #[.int .i64 2] 3)).alloc (.cells #[.slice (some ⟨w.heap.size, 0, none⟩) 3 3, .slice (some ⟨w.heap.size + 1, 0, none⟩) 1 1, .slice none 0 0] 23))
      (.slice (some ⟨w.heap.size + 1 + 1, 0, none⟩) 3 3) [[1, 2, 3], [2], []] ∧ Below w.heap.size w (((w.alloc (.cells #[.int .i64 1, .int .i64 2, .int .i64 3] 3)).alloc (.cells #[.int .i64 2] 3)).alloc (.cells #[.slice (some ⟨w.heap.size, 0, none⟩) 3 3, .slice (some ⟨w.heap.size + 1, 0, none⟩) 1 1, .slice none 0 0] 23)) := by
  have b0 := below_new w (.cells #[.int .i64 1, .int .i64 2, .int .i64 3] 3)
  have i0 : Ints (w.alloc (.cells #[.int .i64 1, .int .i64 2, .int .i64 3] 3)) (.slice (some ⟨w.heap.size, 0, none⟩) 3 3) [1, 2, 3] := ints_lit w _ [1, 2, 3] 3 3 rfl (by omega) rfl
  have s0 : (w.alloc (.cells #[.int .i64 1, .int .i64 2, .int .i64 3] 3)).heap.size = w.heap.size + 1 := by simp
  generalize w.alloc (.cells #[.int .i64 1, .int .i64 2, .int .i64 3] 3) = w0 at b0 i0 s0 ⊢
  have b1 := below_new w0 (.cells #[.int .i64 2] 3)
  have i1 : Ints (w0.alloc (.cells #[.int .i64 2] 3)) (.slice (some ⟨w.heap.size + 1, 0, none⟩) 1 1) [2] := ints_lit w0 _ [2] 3 1 rfl (by omega) s0.symm
  have s1 : (w0.alloc (.cells #[.int .i64 2] 3)).heap.size = w.heap.size + 1 + 1 := by simp [s0]
  generalize w0.alloc (.cells #[.int .i64 2] 3) = w1 at b1 i1 s1 ⊢
  have h := lists_three w1 _ _ _ _ _ _ 23 (i0.below b1) i1 (Ints.nil w1)
  have b2 := below_new w1 (.cells #[.slice (some ⟨w.heap.size, 0, none⟩) 3 3, .slice (some ⟨w.heap.size + 1, 0, none⟩) 1 1, .slice none 0 0] 23)
  rw [s1] at h
  exact ⟨h, below_then b0 (below_then b1 b2)⟩
theorem of22 : ofL [[1, 2, 3], [2], []] = (⟨[1, 2, 3], [1, 2], [2, 3], [(1, 2), (2, 3)]⟩, 0) := by kernel_rfl
theorem pairs_lit2 (w : World) (p q r s : Int) : PairsV (w.alloc (.cells #[.int .i64 p, .int .i64 q, .int .i64 r, .int .i64 s] 38)) (.slice (some ⟨w.heap.size, 0, none⟩) 2 2) [(p, q), (r, s)] := by
  refine ⟨by simp, _, _, rfl, rfl, by simp, ⟨by simp, by omega, fun h => by cases h⟩, fun u hu => ?_, fun j u hj => ⟨_, 0, rfl, by simp, ?_⟩⟩
  · simp [cellsP, encP] at hu
    rcases hu with rfl | rfl | rfl | rfl <;> rfl
  · rw [World.cell?_alloc_at _ _ _ _ rfl, Nat.zero_add]
    exact (Array.getElem?_toList).symm.trans hj

theorem lit22c (w : World) : Lists ((w.alloc (.cells #[.int .i64 1, .int .i64 1] 3)).alloc (.cells #[.slice (some ⟨w.heap.size, 0, none⟩) 2 2] 23)) (.slice (some ⟨w.heap.size + 1, 0, none⟩) 1 1) [[1, 1]] ∧
    Below w.heap.size w ((w.alloc (.cells #[.int .i64 1, .int .i64 1] 3)).alloc (.cells #[.slice (some ⟨w.heap.size, 0, none⟩) 2 2] 23)) := by
  have b0 := below_new w (.cells #[.int .i64 1, .int .i64 1] 3)
  have i0 : Ints (w.alloc (.cells #[.int .i64 1, .int .i64 1] 3)) (.slice (some ⟨w.heap.size, 0, none⟩) 2 2) [1, 1] := ints_lit w _ [1, 1] 3 2 rfl (by omega) rfl
  have s0 : (w.alloc (.cells #[.int .i64 1, .int .i64 1] 3)).heap.size = w.heap.size + 1 := by simp
  generalize w.alloc (.cells #[.int .i64 1, .int .i64 1] 3) = w0 at b0 i0 s0 ⊢
  have h := lists_one w0 _ _ 23 i0
  have b2 := below_new w0 (.cells #[.slice (some ⟨w.heap.size, 0, none⟩) 2 2] 23)
  rw [s0] at h
  exact ⟨h, below_then b0 b2⟩
theorem lit22b (w : World) : Lists (((w.alloc (.cells #[.int .i64 1, .int .i64 2, .int .i64 1] 3)).alloc (.cells #[.slice (some ⟨w.heap.size, 0, none⟩) 3 3] 23)).alloc (.cells #[.int .i64 1] 3)) (.slice (some ⟨w.heap.size + 1, 0, none⟩) 1 1) [[1, 2, 1]] ∧
    Ints (((w.alloc (.cells #[.int .i64 1, .int .i64 2, .int .i64 1] 3)).alloc (.cells #[.slice (some ⟨w.heap.size, 0, none⟩) 3 3] 23)).alloc (.cells #[.int .i64 1] 3)) (.slice (some ⟨w.heap.size + 1 + 1, 0, none⟩) 1 1) [1] ∧
    Below w.heap.size w (((w.alloc (.cells #[.int .i64 1, .int .i64 2, .int .i64 1] 3)).alloc (.cells #[.slice (some ⟨w.heap.size, 0, none⟩) 3 3] 23)).alloc (.cells #[.int .i64 1] 3)) := by
  have b0 := below_new w (.cells #[.int .i64 1, .int .i64 2, .int .i64 1] 3)
  have i0 : Ints (w.alloc (.cells #[.int .i64 1, .int .i64 2, .int .i64 1] 3)) (.slice (some ⟨w.heap.size, 0, none⟩) 3 3) [1, 2, 1] := ints_lit w _ [1, 2, 1] 3 3 rfl (by omega) rfl
  have s0 : (w.alloc (.cells #[.int .i64 1, .int .i64 2, .int .i64 1] 3)).heap.size = w.heap.size + 1 := by simp
  generalize w.alloc (.cells #[.int .i64 1, .int .i64 2, .int .i64 1] 3) = w0 at b0 i0 s0 ⊢
  have h := lists_one w0 _ _ 23 i0
  have b1 := below_new w0 (.cells #[.slice (some ⟨w.heap.size, 0, none⟩) 3 3] 23)
  have s1 : (w0.alloc (.cells #[.slice (some ⟨w.heap.size, 0, none⟩) 3 3] 23)).heap.size = w.heap.size + 1 + 1 := by simp [s0]
  generalize w0.alloc (.cells #[.slice (some ⟨w.heap.size, 0, none⟩) 3 3] 23) = w1 at h b1 s1 ⊢
  have b2 := below_new w1 (.cells #[.int .i64 1] 3)
  have i2 : Ints (w1.alloc (.cells #[.int .i64 1] 3)) (.slice (some ⟨w.heap.size + 1 + 1, 0, none⟩) 1 1) [1] := ints_lit w1 _ [1] 3 1 rfl (by omega) s1.symm
  rw [s0] at h
  exact ⟨h.below b2, i2, below_then b0 (below_then b1 b2)⟩
theorem onto22 : ontoL [[1, 2, 1]] [1] = [[1, 1]] := by decide

set_option maxHeartbeats 4000000 in
theorem alive22_any (w : World) :
    Calls Try.prog 15 #[] w fun e w' => e = .returned (.bool true) ∧ Below w.heap.size w w' := by
  obtain ⟨hv, c⟩ := lit22 w
  go_enter Try.func15, Try.ntmps15
  go_wp2_with fail
  refine (of_any _ _ _ (by exact hv)).mono ?_
  rw [of22]
  rintro e w1 ⟨r, rfl, ⟨v0, v1, v2, v3, rfl, p0, p1, p2, p3⟩, b⟩
  obtain ⟨a0, c0, rfl⟩ := ints_slice p0
  obtain ⟨a1, c1, rfl⟩ := ints_slice p1
  obtain ⟨a2, c2, rfl⟩ := ints_slice p2
  obtain ⟨a3, c3, rfl⟩ := pairs_slice p3
  replace c := below_then c b
  clear b hv
  simp only [List.length_cons, List.length_nil, Nat.zero_add, Nat.reduceAdd] at p0 p1 p2 p3 ⊢
  have hx := box4_new w1 (.slice a0 3 c0) (.slice a1 2 c1) (.slice a2 2 c2) (.slice a3 2 c3) 26
  have bn := below_new w1 (.cells #[.slice a0 3 c0, .slice a1 2 c1, .slice a2 2 c2, .slice a3 2 c3] 26)
  obtain ⟨x, HX⟩ : ∃ x, Hid (w1.heap.size = x) := ⟨_, rfl⟩
  obtain ⟨w2, HW⟩ : ∃ u, Hid (w1.alloc (.cells #[.slice a0 3 c0, .slice a1 2 c1, .slice a2 2 c2, .slice a3 2 c3] 26) = u) := ⟨_, rfl⟩
  replace p0 := p0.below bn
  replace p1 := p1.below bn
  replace p2 := p2.below bn
  replace p3 := p3.below bn
  replace c := below_then c bn
  rw [HW.out] at hx p0 p1 p2 p3 c
  rw [HX.out] at hx
  go_upto_region 2 with fail
  rw [HX.out, HW.out]
  clear HX HW bn
  have bt := below_new w2 (.cells #[.int .i64 1, .int .i64 2, .int .i64 3] 3)
  have ht : Ints (w2.alloc (.cells #[.int .i64 1, .int .i64 2, .int .i64 3] 3)) (.slice (some ⟨w2.heap.size, 0, none⟩) 3 3) [1, 2, 3] := ints_lit w2 _ [1, 2, 3] 3 3 rfl (by omega) rfl
  obtain ⟨xx, x0, x1, x2, x3⟩ := id hx
  go_wp2_with fail
  refine (equal_b _ _ [1, 2, 3] [1, 2, 3] _ (by exact p0.below bt) (by exact ht)).mono ?_
  rintro e w3 ⟨rfl, b⟩
  rw [beq_self_eq_true]
  replace b := below_then bt b
  replace hx := hx.below b
  replace p0 := p0.below b
  replace p1 := p1.below b
  replace p2 := p2.below b
  replace p3 := p3.below b
  replace c := below_then c b
  clear b bt ht xx x0 x1 x2 x3
  have bt := below_new w3 (.cells #[.int .i64 1, .int .i64 2] 3)
  have ht : Ints (w3.alloc (.cells #[.int .i64 1, .int .i64 2] 3)) (.slice (some ⟨w3.heap.size, 0, none⟩) 2 2) [1, 2] := ints_lit w3 _ [1, 2] 3 2 rfl (by omega) rfl
  obtain ⟨xx, x0, x1, x2, x3⟩ := id hx
  go_wp2_with fail
  refine (equal_b _ _ [1, 2] [1, 2] _ (by exact p1.below bt) (by exact ht)).mono ?_
  rintro e w4 ⟨rfl, b⟩
  rw [beq_self_eq_true]
  replace b := below_then bt b
  replace hx := hx.below b
  replace p0 := p0.below b
  replace p1 := p1.below b
  replace p2 := p2.below b
  replace p3 := p3.below b
  replace c := below_then c b
  clear b bt ht xx x0 x1 x2 x3
  have bt := below_new w4 (.cells #[.int .i64 2, .int .i64 3] 3)
  have ht : Ints (w4.alloc (.cells #[.int .i64 2, .int .i64 3] 3)) (.slice (some ⟨w4.heap.size, 0, none⟩) 2 2) [2, 3] := ints_lit w4 _ [2, 3] 3 2 rfl (by omega) rfl
  obtain ⟨xx, x0, x1, x2, x3⟩ := id hx
  go_wp2_with fail
  refine (equal_b _ _ [2, 3] [2, 3] _ (by exact p2.below bt) (by exact ht)).mono ?_
  rintro e w5 ⟨rfl, b⟩
  rw [beq_self_eq_true]
  replace b := below_then bt b
  replace hx := hx.below b
  replace p0 := p0.below b
  replace p1 := p1.below b
  replace p2 := p2.below b
  replace p3 := p3.below b
  replace c := below_then c b
  clear b bt ht xx x0 x1 x2 x3
  have bt := below_new w5 (.cells #[.int .i64 1, .int .i64 2, .int .i64 2, .int .i64 3] 38)
  have ht := pairs_lit2 w5 1 2 2 3
  obtain ⟨xx, x0, x1, x2, x3⟩ := id hx
  go_wp2_with fail
  refine (eqpairs_same _ _ [(1, 2), (2, 3)] _ (by exact p3.below bt) (by exact ht)).mono ?_
  rintro e w6 ⟨rfl, b⟩
  replace c := below_then c (below_then bt b)
  clear b bt ht xx x0 x1 x2 x3 hx p0 p1 p2 p3
  obtain ⟨hl, hi, bl⟩ := lit22b w6
  go_wp2_with fail
  refine (onto_any _ _ [[1, 2, 1]] [1] _ (by exact hl) (by exact hi) (fun x hx => okI_of (by simp at hx; omega)) (fun t ht x hx => okI_of (by simp at ht; subst ht; simp at hx; omega)) (by simp)).mono ?_
  rw [onto22]
  rintro e w7 ⟨r, rfl, hr, b⟩
  obtain ⟨ra, rc, rfl, _⟩ := hr.slice
  replace c := below_then c (below_then bl b)
  clear hl hi bl b
  obtain ⟨hl, bl⟩ := lit22c w7
  go_wp2_with fail
  refine (samelists_same _ _ [[1, 1]] _ (by exact hr.below bl) (by exact hl)).mono ?_
  rintro e w8 ⟨rfl, b⟩
  replace c := below_then c (below_then bl b)
  clear hl bl b hr
  go_wp2
  go_ret
  exact ⟨rfl, c⟩

end Go.Proofs.Ytlknegihhcdhbaa

/- TracksSum: two logs one behind the other. -/
namespace Go.Proofs.Ytlknegihhcdhbaa
open Go.RowKit
set_option linter.unusedVariables false
set_option linter.unusedSimpArgs false
set_option maxRecDepth 4000

/-- Lists as the cells of a slice of slices. -/
def LsCells (w : World) (ls : List (List Int)) (xs : List Value) : Prop := xs.length = ls.length ∧ ∀ j u, xs[j]? = some u → Ints w u (ls.getD j [])
theorem LsCells.below {w w' : World} {ls : List (List Int)} {xs : List Value} (h : LsCells w ls xs) (hb : Below w.heap.size w w') : LsCells w' ls xs := ⟨h.1, fun j u hj => (h.2 j u hj).below hb⟩
theorem LsCells.append {w : World} {ls ms : List (List Int)} {xs ys : List Value} (h : LsCells w ls xs) (k : LsCells w ms ys) : LsCells w (ls ++ ms) (xs ++ ys) := by
  refine ⟨by rw [List.length_append, List.length_append, h.1, k.1], fun j u hj => ?_⟩
  by_cases q : j < xs.length
  · rw [List.getElem?_append_left q] at hj
    rw [List.getD_eq_getElem?_getD, List.getElem?_append_left (by rw [← h.1]; exact q), ← List.getD_eq_getElem?_getD]
    exact h.2 j u hj
  · rw [List.getElem?_append_right (by omega)] at hj
    rw [List.getD_eq_getElem?_getD, List.getElem?_append_right (by rw [← h.1]; omega), ← List.getD_eq_getElem?_getD, ← h.1]
    exact k.2 _ u hj
theorem LsCells.one {w : World} {ls : List (List Int)} {xs : List Value} (h : LsCells w ls xs) : ∀ u ∈ xs, u.oneCell' = true := by
  intro u hu
  obtain ⟨j, hj, rfl⟩ := List.getElem_of_mem hu
  obtain ⟨a, l, c, e, _⟩ := h.2 j _ (List.getElem?_eq_getElem hj)
  rw [e]; rfl
theorem lists_cells {w : World} {v : Value} {ls : List (List Int)} (h : Lists w v ls) (hl : ls.length ≤ 5864062014805) : ∃ xs, LsCells w ls xs ∧ CellsV w v 1 5864062014805 ls.length xs := by
  obtain ⟨a, len, cap, rfl, hlen, hm, hs, hr⟩ := h
  have hone : ∀ j, j < ls.length → ∃ u : Value, (∃ b off, a = some ⟨b, off, none⟩ ∧ b < w.heap.size ∧ w.cell? ⟨b, off + j, none⟩ = some u) ∧ Ints w u (ls.getD j []) := by
    intro j hj
    obtain ⟨b, off, u, h1, h2, h3, h4⟩ := hr j hj
    exact ⟨u, ⟨b, off, h1, h2, h3⟩, h4⟩
  have hex : ∀ k, k ≤ ls.length → ∃ xs : List Value, xs.length = k ∧ ∀ j u, xs[j]? = some u → (∃ b off, a = some ⟨b, off, none⟩ ∧ b < w.heap.size ∧ w.cell? ⟨b, off + j, none⟩ = some u) ∧ Ints w u (ls.getD j []) := by
    intro k
    induction k with
    | zero => intro _; exact ⟨[], rfl, fun j u hj => by simp at hj⟩
    | succ k ih =>
      intro hk
      obtain ⟨xs, h1, h2⟩ := ih (by omega)
      obtain ⟨u, hu⟩ := hone k (by omega)
      refine ⟨xs ++ [u], by simp [h1], fun j v hj => ?_⟩
      by_cases q : j < xs.length
      · rw [List.getElem?_append_left q] at hj; exact h2 j v hj
      · have e : j = k := by
          have := (List.getElem?_eq_some_iff.1 hj).1
          simp at this; omega
        subst e
        rw [List.getElem?_append_right (by omega), h1, Nat.sub_self] at hj
        simp at hj
        rw [← hj]; exact hu
  obtain ⟨xs, h1, h2⟩ := hex ls.length (Nat.le_refl _)
  have hc : LsCells w ls xs := ⟨h1, fun j u hj => (h2 j u hj).2⟩
  exact ⟨xs, hc, a, cap, by rw [hlen], by omega, hl, by rw [hlen]; exact hs, hc.one, fun j u hj => (h2 j u hj).1⟩
theorem cells_logs {w : World} {v : Value} {ls : List (List Int)} {xs : List Value} {n : Nat} (h : CellsV w v 1 5864062014805 n xs) (k : LsCells w ls xs) : Lists w v ls := by
  obtain ⟨a, cap, rfl, hl, hm, hs, h1, hr⟩ := h
  have hn : ls.length = n := by rw [← k.1, hl]; omega
  refine ⟨a, n, cap, rfl, hn, by omega, hs, fun j hj => ?_⟩
  have hj' : j < xs.length := by rw [k.1]; exact hj
  obtain ⟨b, off, h2, h3, h4⟩ := hr j _ (List.getElem?_eq_getElem hj')
  exact ⟨b, off, _, h2, h3, h4, k.2 j _ (List.getElem?_eq_getElem hj')⟩
/-- A literal of two slices of elements as cells. -/
theorem lisC_two {w : World} {v u : Value} {size most n m : Nat} {xs ys : List Value} (t : TypeId) (hv : CellsV w v size most n xs) (hu : CellsV w u size most m ys) : LisC (w.alloc (.cells #[v, u] t)) (.slice (some ⟨w.heap.size, 0, none⟩) 2 2) size most [(n, xs), (m, ys)] := by
  have hn := below_new w (.cells #[v, u] t)
  refine ⟨_, 2, 2, rfl, rfl, by omega, ⟨by omega, by omega, fun h => by cases h⟩, fun j hj => ?_⟩
  match j, hj with
  | 0, _ => exact ⟨w.heap.size, 0, v, rfl, by simp, by rw [World.cell?_alloc_at _ _ _ _ rfl]; rfl, hv.below hn⟩
  | 1, _ => exact ⟨w.heap.size, 0, u, rfl, by simp, by rw [World.cell?_alloc_at _ _ _ _ rfl]; rfl, hu.below hn⟩
  | j + 2, h => simp at h; omega

/-- slices.Concat of two logs. -/
theorem concat_logs (v u : Value) (a b : List (List Int)) (w : World) (t : TypeId) (hv : Lists w v a) (hu : Lists w u b) (hl : a.length + b.length ≤ 5864062014805) :
    Calls Try.prog 16 #[.slice (some ⟨w.heap.size, 0, none⟩) 2 2] (w.alloc (.cells #[v, u] t)) fun e w' => ∃ r, e = .returned r ∧ Lists w' r (a ++ b) ∧ Below w.heap.size w w' := by
  obtain ⟨xs, hx, cx⟩ := lists_cells hv (by omega)
  obtain ⟨ys, hy, cy⟩ := lists_cells hu (by omega)
  have hn := below_new w (.cells #[v, u] t)
  have hL := lisC_two t cx cy
  have e1 : catN [(a.length, xs), (b.length, ys)] [(a.length, xs), (b.length, ys)].length = a.length + b.length := by simp [catN]
  have e2 : catC [(a.length, xs), (b.length, ys)] [(a.length, xs), (b.length, ys)].length = xs ++ ys := by simp [catC]
  refine (concat_rls _ _ _ hL (by rw [e1]; exact hl)).mono ?_
  rintro e w' ⟨r, rfl, hO⟩
  rw [e1, e2] at hO
  have hb := below_then hn hO.2.1
  have hk := (hx.append hy).below hb
  exact ⟨r, rfl, cells_logs (hO.cells hl hk.one) hk, hb⟩
/-- slices.Concat of two slices of pairs. -/
theorem concat_prs (v u : Value) (a b : List (Int × Int)) (w : World) (t : TypeId) (hv : PairsV w v a) (hu : PairsV w u b) (hl : a.length + b.length ≤ 8796093022208) :
    Calls Try.prog 17 #[.slice (some ⟨w.heap.size, 0, none⟩) 2 2] (w.alloc (.cells #[v, u] t)) fun e w' => ∃ r, e = .returned r ∧ OwnP (w.alloc (.cells #[v, u] t)).heap.size (w.alloc (.cells #[v, u] t)) w' r (a ++ b) := by
  have hL := lisC_two t hv.2 hu.2
  have e1 : catN [(a.length, cellsP a), (b.length, cellsP b)] [(a.length, cellsP a), (b.length, cellsP b)].length = a.length + b.length := by simp [catN]
  have e2 : catC [(a.length, cellsP a), (b.length, cellsP b)] [(a.length, cellsP a), (b.length, cellsP b)].length = cellsP (a ++ b) := by simp [catC, cellsP_append]
  refine (concat_rq _ _ _ hL (by rw [e1]; exact hl)).mono ?_
  rintro e w' ⟨r, rfl, hO⟩
  rw [e1, e2] at hO
  refine ⟨r, rfl, ?_⟩
  show OwnC _ _ _ _ _ _ (a ++ b).length _
  rw [List.length_append]
  exact hO

/-! ### plainly -/
theorem wrong_both {a b : List (List Int)} (ha : wrongV a = 0) (hb : wrongV b = 0) : wrongV (b ++ a) = 0 ∨ wrongV (b ++ a) = 4 := by
  unfold wrongV at *
  split at ha
  · cases ha
  · split at ha
    · cases ha
    · split at hb
      · cases hb
      · split at hb
        · cases hb
        · split
          · exact .inr rfl
          · rename_i h1 h2 h3 h4 h5
            have : (b ++ a).any badT = false := by
              rw [List.any_append, Bool.or_eq_false_iff]
              exact ⟨by simpa using h4, by simpa using h2⟩
            rw [this]
            exact .inl rfl
theorem sum_labels {a b : List (List Int)} {f : Int → List Int → Bool} {ys : List Int} (hp : ys.Pairwise (· < ·)) (hm : ∀ t, t ∈ ys ↔ t ∈ (labels26.filter fun x => a.any (f x)) ∨ t ∈ (labels26.filter fun x => b.any (f x))) : ys = labels26.filter fun x => (b ++ a).any (f x) := by
  refine rises_labels hp fun x => ?_
  rw [hm, List.mem_filter, List.mem_filter, mem_labels26, List.any_append, Bool.or_eq_true]
  constructor
  · rintro (⟨h1, h2⟩ | ⟨h1, h2⟩)
    · exact ⟨h1, .inr h2⟩
    · exact ⟨h1, .inl h2⟩
  · rintro ⟨h1, h2 | h2⟩
    · exact .inr ⟨h1, h2⟩
    · exact .inl ⟨h1, h2⟩
theorem sum_pairs {a b : List (List Int)} {ys : List (Int × Int)} (hp : ys.Pairwise ltP) (hm : ∀ t, t ∈ ys ↔ t ∈ (pairs26.filter fun x => a.any (behindT x)) ∨ t ∈ (pairs26.filter fun x => b.any (behindT x))) : ys = pairs26.filter fun x => (b ++ a).any (behindT x) := by
  refine rises_pairs hp fun x => ?_
  rw [hm, List.mem_filter, List.mem_filter, mem_pairs26, List.any_append, Bool.or_eq_true]
  constructor
  · rintro (⟨h1, h2⟩ | ⟨h1, h2⟩)
    · exact ⟨h1, .inr h2⟩
    · exact ⟨h1, .inl h2⟩
  · rintro ⟨h1, h2 | h2⟩
    · exact .inr ⟨h1, h2⟩
    · exact .inl ⟨h1, h2⟩

end Go.Proofs.Ytlknegihhcdhbaa

/- slices.Compact over pairs of an own row: plainly, and the row. (As Slices8, 9 have it for numbers.) -/
namespace Go.Proofs.Ytlknegihhcdhbaa
open Go.RowKit
set_option linter.unusedVariables false
set_option linter.unusedSimpArgs false
set_option maxRecDepth 4000

theorem prAt_get {l : List (Int × Int)} {k : Nat} (h : k < l.length) : prAt l k = l[k] := by unfold prAt; rw [List.getD_eq_getElem?_getD, List.getElem?_eq_getElem h]; rfl
def ddP (xs : List (Int × Int)) : Nat → List (Int × Int)
  | 0 => []
  | j + 1 => if j = 0 ∨ prAt xs j ≠ prAt xs (j - 1) then ddP xs j ++ [prAt xs j] else ddP xs j
theorem ddP_yes {xs : List (Int × Int)} {j : Nat} (h : j = 0 ∨ prAt xs j ≠ prAt xs (j - 1)) : ddP xs (j + 1) = ddP xs j ++ [prAt xs j] := by simp only [ddP]; rw [if_pos h]
theorem ddP_no {xs : List (Int × Int)} {j : Nat} (h : ¬ (j = 0 ∨ prAt xs j ≠ prAt xs (j - 1))) : ddP xs (j + 1) = ddP xs j := by simp only [ddP]; rw [if_neg h]
theorem ddP_take {xs : List (Int × Int)} : ∀ {k : Nat}, k ≤ xs.length → (∀ j, 0 < j → j < k → prAt xs j ≠ prAt xs (j - 1)) → ddP xs k = xs.take k
  | 0, _, _ => by simp [ddP]
  | k + 1, hk, h => by
    rw [ddP_yes (by by_cases e : k = 0; exact .inl e; exact .inr (h k (by omega) (by omega))), ddP_take (by omega) fun j h0 hj => h j h0 (by omega), List.take_succ_eq_append_getElem (by omega), prAt_get (by omega)]
abbrev leQ (x y : Int × Int) : Prop := ¬ (y.1 < x.1 ∨ y.1 = x.1 ∧ y.2 < x.2)
theorem prAt_mono {xs : List (Int × Int)} (hs : xs.Pairwise leQ) {i j : Nat} (hij : i < j) (hj : j < xs.length) : leQ (prAt xs i) (prAt xs j) := by
  have := List.pairwise_iff_getElem.1 hs i j (by omega) hj hij
  rw [prAt_get hj, prAt_get (show i < xs.length by omega)]
  exact this
theorem ltP_of {x y : Int × Int} (h : leQ x y) (hne : y ≠ x) : ltP x y := by
  obtain ⟨x1, x2⟩ := x
  obtain ⟨y1, y2⟩ := y
  unfold leQ at h
  unfold ltP
  simp only [ne_eq, Prod.mk.injEq] at h hne ⊢
  omega
theorem ltP_trans {x y z : Int × Int} (h : ltP x y) (k : leQ y z) : ltP x z := by
  unfold leQ at k
  unfold ltP at *
  omega
theorem ltP_trans' {x y z : Int × Int} (h : leQ x y) (k : ltP y z) : ltP x z := by
  unfold leQ at h
  unfold ltP at *
  omega
theorem ddP_ok {xs : List (Int × Int)} (hs : xs.Pairwise leQ) : ∀ {j : Nat}, j ≤ xs.length → (ddP xs j).Pairwise ltP ∧ (∀ t, t ∈ ddP xs j ↔ ∃ i, i < j ∧ prAt xs i = t)
  | 0, _ => by simp [ddP]
  | j + 1, hj => by
    obtain ⟨h1, h2⟩ := ddP_ok hs (j := j) (by omega)
    by_cases h : j = 0 ∨ prAt xs j ≠ prAt xs (j - 1)
    · rw [ddP_yes h]
      refine ⟨?_, fun t => ?_⟩
      · rw [List.pairwise_append]
        refine ⟨h1, List.pairwise_singleton _ _, fun a ha b hb => ?_⟩
        rw [List.mem_singleton] at hb
        subst hb
        obtain ⟨i, hi, rfl⟩ := (h2 a).1 ha
        rcases h with q | q
        · omega
        · have m3 := ltP_of (prAt_mono hs (show j - 1 < j by omega) (by omega)) q
          by_cases e : i = j - 1
          · subst e; exact m3
          · exact ltP_trans' (prAt_mono hs (show i < j - 1 by omega) (by omega)) m3
      · rw [List.mem_append, h2, List.mem_singleton]
        constructor
        · rintro (⟨i, hi, rfl⟩ | rfl)
          · exact ⟨i, by omega, rfl⟩
          · exact ⟨j, by omega, rfl⟩
        · rintro ⟨i, hi, rfl⟩
          by_cases e : i = j
          · subst e; exact .inr rfl
          · exact .inl ⟨i, by omega, rfl⟩
    · rw [ddP_no h]
      refine ⟨h1, fun t => ?_⟩
      rw [h2]
      have hj0 : j ≠ 0 := fun q => h (.inl q)
      have hje : prAt xs j = prAt xs (j - 1) := Classical.not_not.1 fun q => h (.inr q)
      constructor
      · rintro ⟨i, hi, rfl⟩; exact ⟨i, by omega, rfl⟩
      · rintro ⟨i, hi, rfl⟩
        by_cases e : i = j
        · subst e
          exact ⟨i - 1, by omega, hje.symm⟩
        · exact ⟨i, by omega, rfl⟩
theorem ddP_mem {xs : List (Int × Int)} (hs : xs.Pairwise leQ) (t : Int × Int) : t ∈ ddP xs xs.length ↔ t ∈ xs := by
  rw [(ddP_ok hs (Nat.le_refl _)).2]
  constructor
  · rintro ⟨i, hi, rfl⟩
    rw [prAt_get hi]; exact List.getElem_mem hi
  · intro h
    obtain ⟨i, hi, rfl⟩ := List.getElem_of_mem h
    exact ⟨i, hi, prAt_get hi⟩

/-! ### the row -/
structure RowP (B g : Nat) (w wr : World) (n : Nat) (f : Nat → Int × Int) : Prop where
  c0 : ∀ j, j < n → wr.cell? ⟨g, j * 2, none⟩ = some (.int .i64 (f j).1)
  c1 : ∀ j, j < n → wr.cell? ⟨g, j * 2 + 1, none⟩ = some (.int .i64 (f j).2)
  frozen : ∀ t, t < n * 2 → wr.frozen? ⟨g, t, none⟩ = false
  below : Below B w wr
  base : B ≤ g
  size : g < wr.heap.size
section
variable {B g : Nat} {w wr : World} {n : Nat} {f : Nat → Int × Int}
theorem RowP.to {w2 : World} (h : RowP B g w wr n f) (hb : Below wr.heap.size wr w2) : RowP B g w w2 n f :=
  ⟨fun j hj => by rw [hb.cell (p := ⟨g, j * 2, none⟩) h.size]; exact h.c0 j hj, fun j hj => by rw [hb.cell (p := ⟨g, j * 2 + 1, none⟩) h.size]; exact h.c1 j hj, fun j hj => by rw [hb.frozen (p := ⟨g, j, none⟩) h.size]; exact h.frozen j hj,
   h.below.trans (hb.mono (Nat.le_trans h.base (Nat.le_of_lt h.size))), h.base, Nat.lt_of_lt_of_le h.size hb.size⟩
theorem RowP.put (h : RowP B g w wr n f) {k : Nat} (hk : k < n) (x : Int × Int) : RowP B g w ((wr.setCell ⟨g, k * 2, none⟩ (.int .i64 x.1)).setCell ⟨g, k * 2 + 1, none⟩ (.int .i64 x.2)) n (fun j => if j = k then x else f j) := by
  have o0 : ∀ (q : Nat) (u v : Value) (m : Nat), q ≠ m → ∀ w : World, (w.setCell ⟨g, q, none⟩ u).cell? ⟨g, m, none⟩ = w.cell? ⟨g, m, none⟩ := fun q u v m hne w => World.cell?_setCell_other _ _ _ _ (by intro e; injection e with _ e2; omega)
  refine ⟨fun j hj => ?_, fun j hj => ?_, fun j hj => by rw [World.frozen?_setCell, World.frozen?_setCell]; exact h.frozen j hj, (h.below.setCell h.base _).setCell h.base _, h.base, by simpa [World.setCell] using h.size⟩
  · rw [o0 (k * 2 + 1) _ (.int .i64 0) (j * 2) (by omega)]
    by_cases e : j = k
    · subst e
      rw [World.cell?_setCell_same _ _ _ (h.c0 j hj), if_pos rfl]
    · rw [o0 (k * 2) _ (.int .i64 0) (j * 2) (by omega), h.c0 j hj, if_neg e]
  · by_cases e : j = k
    · subst e
      rw [World.cell?_setCell_same _ _ _ (by rw [o0 (j * 2) _ (.int .i64 0) (j * 2 + 1) (by omega)]; exact h.c1 j hj), if_pos rfl]
    · rw [o0 (k * 2 + 1) _ (.int .i64 0) (j * 2 + 1) (by omega), o0 (k * 2) _ (.int .i64 0) (j * 2 + 1) (by omega), h.c1 j hj, if_neg e]
end
theorem OwnP.rowP {B : Nat} {w wr : World} {v : Value} {zs : List (Int × Int)} (h : OwnP B w wr v zs) (hz : 0 < zs.length) : ∃ g cap, v = .slice (some ⟨g, 0, none⟩) zs.length cap ∧ zs.length ≤ cap ∧ cap ≤ 9223372036854775807 ∧ RowP B g w wr zs.length (prAt zs) := by
  obtain ⟨hown, hb, hB⟩ := h
  have hown0 := hown
  obtain ⟨_, hcase⟩ := hown
  rcases hcase with ⟨rfl, h0⟩ | ⟨g, cap', cur, rfl, hg, hh, hn, hcap, hsz, htake⟩
  · omega
  · have hlt : g < wr.heap.size := (Array.getElem?_eq_some_iff.1 hh).1
    refine ⟨g, cap', rfl, hn, by unfold maxLen at hcap; omega, fun j hj => ?_, fun j hj => ?_, fun j hj => ?_, hb, hg, hlt⟩
    · rw [hown0.cellAt (j * 2) (by omega)]
      exact (cellsP_at hj).1
    · rw [hown0.cellAt (j * 2 + 1) (by omega)]
      exact (cellsP_at hj).2
    · simp [World.frozen?, hh]

theorem zero_pair : ∀ w : World, (zeroValue 38).run Try.prog w = .ok (.agg #[.int .i64 0, .int .i64 0]) w := Try.zeroValue38
theorem clear_pairs (w : World) (g o n : Nat) (hn : 0 < n) (hc : ∀ j, j < n * 2 → (w.cell? ⟨g, o + j, none⟩).isSome = true) (hf : ∀ j, j < n * 2 → w.frozen? ⟨g, o + j, none⟩ = false) :
    ∃ L : List Value, L.length = n * 2 ∧ ∀ (ty : TypeId) (c : Nat), (Builtin.clear_ #[24] ty #[.slice (some ⟨g, o, none⟩) n c]).run Try.prog w = .ok (.tuple #[]) (w.setCells g o L) := by
  have hcells : (Value.agg #[.int .i64 0, .int .i64 0]).cells = #[.int .i64 0, .int .i64 0] := rfl
  have hlen : (Builtin.zeroCells #[.int .i64 0, .int .i64 0] n).toList.length = n * 2 := by rw [Array.length_toList, size_zeroCells]; rfl
  have h1 : ∀ v ∈ (Builtin.zeroCells #[.int .i64 0, .int .i64 0] n).toList, v.oneCell' = true := by
    intro v hv
    simp only [Builtin.zeroCells, Array.toList_map, List.mem_map] at hv
    obtain ⟨i, _, rfl⟩ := hv
    have : i % (#[.int .i64 0, .int .i64 0] : Array Value).size = 0 ∨ i % (#[.int .i64 0, .int .i64 0] : Array Value).size = 1 := by
      show i % 2 = 0 ∨ i % 2 = 1
      omega
    rcases this with e | e <;> rw [e] <;> rfl
  have hst := run_storeCells_cells (P := Try.prog) g o (Builtin.zeroCells #[.int .i64 0, .int .i64 0] n).toList 0 w (by rw [hlen]; simpa using hc) (by rw [hlen]; simpa using hf) h1
  simp only [Nat.add_zero] at hst
  obtain ⟨m, rfl⟩ : ∃ m, n = m + 1 := ⟨n - 1, by omega⟩
  refine ⟨_, hlen, fun ty c => ?_⟩
  simp [Builtin.clear_, run_underlying Try.underlying24, zero_pair, hcells, hst]

end Go.Proofs.Ytlknegihhcdhbaa

/- slices.Compact over pairs of an own row, walked. (As Slices9.) -/
namespace Go.Proofs.Ytlknegihhcdhbaa
open Go.RowKit
set_option linter.unusedVariables false
set_option linter.unusedSimpArgs false
set_option maxRecDepth 4000

theorem cells_pairs {w : World} {g cap : Nat} {zs : List (Int × Int)} (hl : zs.length ≤ 8796093022208) (hc : zs.length ≤ cap) (hc2 : cap ≤ 9223372036854775807) (hg : g < w.heap.size)
    (h0 : ∀ t, t < zs.length → w.cell? ⟨g, t * 2, none⟩ = some (.int .i64 (prAt zs t).1)) (h1 : ∀ t, t < zs.length → w.cell? ⟨g, t * 2 + 1, none⟩ = some (.int .i64 (prAt zs t).2)) : PairsV w (.slice (some ⟨g, 0, none⟩) zs.length cap) zs := by
  refine ⟨hl, some ⟨g, 0, none⟩, cap, rfl, cellsP_len zs, hl, ⟨hc, hc2, fun h => by cases h⟩, fun u hu => ?_, fun j u hj => ⟨g, 0, rfl, hg, ?_⟩⟩
  · obtain ⟨x, _, hx⟩ := List.mem_flatMap.1 hu
    exact encP_one x u hx
  · have hjl : j < zs.length * 2 := by
      rcases Nat.lt_or_ge j (zs.length * 2) with q | q
      · exact q
      · rw [List.getElem?_eq_none (by rw [cellsP_len]; exact q)] at hj; cases hj
    rw [Nat.zero_add]
    obtain ⟨t, ht⟩ : ∃ t, j = t * 2 ∨ j = t * 2 + 1 := ⟨j / 2, by omega⟩
    rcases ht with rfl | rfl
    · rw [h0 t (by omega), ← (cellsP_at (l := zs) (show t < zs.length by omega)).1]; exact hj
    · rw [h1 t (by omega), ← (cellsP_at (l := zs) (show t < zs.length by omega)).2]; exact hj
theorem RowP.cut {B g : Nat} {w wr : World} {n : Nat} {f : Nat → Int × Int} (h : RowP B g w wr n f) {zs : List (Int × Int)} {a cap : Nat} (ha : a < n) (hz : zs.length = a) (hf : ∀ t, t < a → f t = prAt zs t) (hn : n ≤ 8796093022208) (hc : n ≤ cap) (hc2 : cap ≤ 9223372036854775807) :
    ∃ L : List Value, (∀ ty c, (Builtin.clear_ #[24] ty #[.slice (some ⟨g, a * 2, none⟩) (n - a) c]).run Try.prog wr = .ok (.tuple #[]) (wr.setCells g (a * 2) L)) ∧
    PairsV (wr.setCells g (a * 2) L) (.slice (some ⟨g, 0, none⟩) a cap) zs ∧ Below B w (wr.setCells g (a * 2) L) := by
  have hsz : ∀ (vs : List Value) (o : Nat) (w : World), (w.setCells g o vs).heap.size = w.heap.size := by
    intro vs
    induction vs with
    | nil => intro o w; rfl
    | cons v vs ih => intro o w; simp only [World.setCells]; rw [ih]; simp [World.setCell]
  have hbl : ∀ (vs : List Value) (o : Nat) (w1 : World), Below B w w1 → Below B w (w1.setCells g o vs) := by
    intro vs
    induction vs with
    | nil => intro o w1 hb; exact hb
    | cons v vs ih => intro o w1 hb; simp only [World.setCells]; exact ih _ _ (hb.setCell h.base _)
  obtain ⟨L, hL, hrun⟩ := clear_pairs wr g (a * 2) (n - a) (by omega) (fun j hj => by
    obtain ⟨t, ht⟩ : ∃ t, a * 2 + j = t * 2 ∨ a * 2 + j = t * 2 + 1 := ⟨(a * 2 + j) / 2, by omega⟩
    rcases ht with e | e
    · rw [e, h.c0 t (by omega)]; rfl
    · rw [e, h.c1 t (by omega)]; rfl) (fun j hj => h.frozen (a * 2 + j) (by omega))
  refine ⟨L, hrun, ?_, hbl _ _ _ h.below⟩
  subst hz
  refine cells_pairs (by omega) (by omega) hc2 (by rw [hsz]; exact h.size) (fun t ht => ?_) (fun t ht => ?_)
  · rw [World.cell?_setCells_out _ _ _ _ _ (by intro _ _; left; simp; omega), h.c0 t (by omega), hf t ht]
  · rw [World.cell?_setCells_out _ _ _ _ _ (by intro _ _; left; simp; omega), h.c1 t (by omega), hf t ht]

structure MoveP (B g : Nat) (w wr : World) (xs : List (Int × Int)) (j : Nat) (f : Nat → Int × Int) : Prop where
  row : RowP B g w wr xs.length f
  front : ∀ t, t < (ddP xs j).length → f t = prAt (ddP xs j) t
  rest : ∀ t, j ≤ t + 1 → t < xs.length → f t = prAt xs t
  less : (ddP xs j).length < j
theorem MoveP.start {B g : Nat} {w wr : World} {xs : List (Int × Int)} {k : Nat} (h : RowP B g w wr xs.length (prAt xs)) (h0 : 0 < k) (hk : k < xs.length) (he : prAt xs k = prAt xs (k - 1)) (hn : ∀ j, 0 < j → j < k → prAt xs j ≠ prAt xs (j - 1)) :
    MoveP B g w wr xs (k + 1) (prAt xs) ∧ (ddP xs (k + 1)).length = k := by
  have e : ddP xs (k + 1) = xs.take k := by rw [ddP_no (by rintro (q | q); omega; exact q he), ddP_take (by omega) hn]
  have el : (ddP xs (k + 1)).length = k := by rw [e]; simp; omega
  refine ⟨⟨h, fun t ht => ?_, fun t _ _ => rfl, by omega⟩, el⟩
  rw [e]
  rw [el] at ht
  simp [prAt, List.getD, ht]
theorem MoveP.to {B g : Nat} {w wr w2 : World} {xs : List (Int × Int)} {j : Nat} {f : Nat → Int × Int} (h : MoveP B g w wr xs j f) (hb : Below wr.heap.size wr w2) : MoveP B g w w2 xs j f := ⟨h.row.to hb, h.front, h.rest, h.less⟩
theorem MoveP.skip {B g : Nat} {w wr : World} {xs : List (Int × Int)} {j : Nat} {f : Nat → Int × Int} (h : MoveP B g w wr xs j f) (h0 : 0 < j) (he : prAt xs j = prAt xs (j - 1)) : MoveP B g w wr xs (j + 1) f := by
  have e := ddP_no (xs := xs) (j := j) (by rintro (q | q); omega; exact q he)
  refine ⟨h.row, fun t ht => ?_, fun t ht => h.rest t (by omega), by rw [e]; have := h.less; omega⟩
  rw [e] at ht ⊢
  exact h.front t ht
theorem MoveP.put {B g : Nat} {w wr : World} {xs : List (Int × Int)} {j : Nat} {f : Nat → Int × Int} (h : MoveP B g w wr xs j f) (hj : j < xs.length) (hne : prAt xs j ≠ prAt xs (j - 1)) {a : Nat} (ha : (ddP xs j).length = a) :
    ∃ f', MoveP B g w ((wr.setCell ⟨g, a * 2, none⟩ (.int .i64 (prAt xs j).1)).setCell ⟨g, a * 2 + 1, none⟩ (.int .i64 (prAt xs j).2)) xs (j + 1) f' := by
  have e := ddP_yes (xs := xs) (j := j) (.inr hne)
  have hl := h.less
  refine ⟨_, h.row.put (k := a) (by omega) (prAt xs j), fun t ht => ?_, fun t ht htl => ?_, by rw [e]; simp; omega⟩
  · rw [e] at ht ⊢
    simp only [List.length_append, List.length_singleton] at ht
    by_cases q : t = a
    · subst q
      rw [if_pos rfl]
      simp [prAt, List.getD, ← ha]
    · rw [if_neg q, h.front t (by omega)]
      simp [prAt, List.getD, List.getElem?_append_left (show t < (ddP xs j).length by omega)]
  · rw [if_neg (by omega)]
    exact h.rest t (by omega) htl

set_option maxHeartbeats 4000000 in
theorem compactP_own (B : Nat) (w wq : World) (v : Value) (xs : List (Int × Int)) (hO : OwnP B w wq v xs) (hs : xs.Pairwise leQ) (hl : xs.length ≤ 8796093022208) :
    Calls Try.prog 24 #[v] wq fun e w' => ∃ r ys, e = .returned r ∧ PairsV w' r ys ∧ ys.Pairwise ltP ∧ (∀ t, t ∈ ys ↔ t ∈ xs) ∧ Below B w w' := by
  have hI : PairsV wq v xs := ⟨hl, hO.cells hl fun u hu => by obtain ⟨x, _, hx⟩ := List.mem_flatMap.1 hu; exact encP_one x u hx⟩
  have hbw := hO.2.1
  by_cases h2 : xs.length < 2
  · have hlt : xs.Pairwise ltP := by
      match xs, h2 with
      | [], _ => exact List.Pairwise.nil
      | [a], _ => exact List.pairwise_singleton _ _
      | a :: b :: c, h => simp at h; omega
    obtain ⟨a, cap, rfl⟩ := pairs_slice1 hI
    clear hO
    have Hout : Hid (PairsV wq (.slice a xs.length cap) xs) := hI
    obtain ⟨len, Hlen⟩ : ∃ len, Hid (xs.length = len) := ⟨_, rfl⟩
    rw [Hlen.out] at h2 Hout ⊢
    go_enter Try.func24, Try.ntmps24
    go_wp2
    go_ret
    first | exact ⟨_, xs, rfl, Hout.out, hlt, fun t => Iff.rfl, hbw⟩ | exact ⟨_, rfl, xs, Hout.out, hlt, fun t => Iff.rfl, hbw⟩
  obtain ⟨gb, cap, rfl, hcap, hc63, hR⟩ := OwnP.rowP hO (by omega)
  have HD : Hid ((ddP xs xs.length).Pairwise ltP ∧ ∀ t, t ∈ ddP xs xs.length ↔ t ∈ xs) := ⟨(ddP_ok hs (Nat.le_refl _)).1, ddP_mem hs⟩
  have HT : Hid ((∀ j, 0 < j → j < xs.length → prAt xs j ≠ prAt xs (j - 1)) → ddP xs xs.length = xs) := fun h => by show _ = _; rw [ddP_take (Nat.le_refl _) h, List.take_of_length_le (Nat.le_refl _)]
  have HI : Hid (PairsV wq (.slice (some ⟨gb, 0, none⟩) xs.length cap) xs) := hI
  obtain ⟨len, Hlen⟩ : ∃ len, Hid (xs.length = len) := ⟨_, rfl⟩
  rw [Hlen.out] at hl h2 hcap hR HI HD HT ⊢
  clear hO hs hI
  go_enter Try.func24, Try.ntmps24
  go_wp2_with fail
  go_loopg [3] (len - 1) (fun g i wx => ∃ k : Nat, k + g = len ∧ 0 < k ∧ i = .int .i64 k ∧ Below wq.heap.size wq wx ∧ Hid (∀ j, 0 < j → j < k → prAt xs j ≠ prAt xs (j - 1)))
  case atStart => exact ⟨1, by omega, by omega, rfl, Below.refl _ _, fun j h1 h2 => by omega⟩
  case round =>
    obtain ⟨k, hkg, hk0, rfl, hb, Hn⟩ := hrel
    obtain ⟨G, hGk⟩ : ∃ G, G = gk := ⟨_, rfl⟩
    subst hGk
    by_cases hkn : k < len
    · have hR2 := hR.to hb
      have c0 := hR2.c0 k hkn
      have c1 := hR2.c1 k hkn
      have d0 := hR2.c0 (k - 1) (by omega)
      have d1 := hR2.c1 (k - 1) (by omega)
      have hk1 : (k : Int) - 1 = ((k - 1 : Nat) : Int) := by omega
      have hkk : k - 1 < len := by omega
      have HS : Hid (prAt xs k ≠ prAt xs (k - 1) → ∀ j, 0 < j → j < k + 1 → prAt xs j ≠ prAt xs (j - 1)) := fun h j h1 h2 => by
        by_cases e : j = k
        · subst e; exact h
        · exact Hn.out j h1 (by omega)
      have HM : Hid (∀ w2, Below wq.heap.size wq w2 → prAt xs k = prAt xs (k - 1) → MoveP B gb w w2 xs (k + 1) (prAt xs) ∧ (ddP xs (k + 1)).length = k) := fun w2 b h => MoveP.start (by rw [Hlen.out]; exact hR.to b) hk0 (by rw [Hlen.out]; exact hkn) h Hn.out
      obtain ⟨⟨x0, x1⟩, HX⟩ : ∃ x, Hid (prAt xs k = x) := ⟨_, rfl⟩
      obtain ⟨⟨y0, y1⟩, HY⟩ : ∃ x, Hid (prAt xs (k - 1) = x) := ⟨_, rfl⟩
      rw [HX.out] at c0 c1
      rw [HY.out] at d0 d1
      rw [HX.out, HY.out] at HS HM
      clear HX HY
      have HRd : Hid (∀ j, Below wq.heap.size wq (wr.drewN j)) := fun j => below_then hb (below_drewN (Below.refl wr.heap.size wr) j)
      by_cases he : x0 = y0 ∧ x1 = y1
      · obtain ⟨rfl, rfl⟩ := he
        have heq : ∀ w, (Op.equalIn 10000 38 (.agg #[.int .i64 x0, .int .i64 x1]) (.agg #[.int .i64 x0, .int .i64 x1])).run Try.prog w = .ok true w := fun w => by rw [eqP]; simp
        clear HS Hn hR2 hb
        go_wp2_with fail
        go_quiet (fail)
        have R := HRd.out nq
        obtain ⟨hM, hM2⟩ := HM.out _ R (by first | rfl | trivial)
        clear c0 c1 d0 d1 hk1 HM HRd heq
        obtain ⟨wd, Hwd⟩ : ∃ wd, Hid (wr.drewN nq = wd) := ⟨_, rfl⟩
        rw [Hwd.out] at hM R ⊢
        clear Hwd
        have HM0 : Hid _ := hM
        have HM2 : Hid _ := hM2
        clear hM hM2
        go_wp2_with fail
        go_loopg [3, 5] (len - k - 1) (fun g kc k2 wx => ∃ (a q : Nat) (f : Nat → Int × Int), k + q + g = len ∧ 0 < q ∧ kc = .int .i64 a ∧ k2 = .int .i64 q ∧ Hid ((ddP xs (k + q)).length = a) ∧ MoveP B gb w wx xs (k + q) f)
        case atStart => exact ⟨k, 1, _, by omega, by omega, rfl, rfl, HM2, HM0.out⟩
        case round =>
          clear HM0 HM2
          obtain ⟨a, q, f, hqg, hq0, rfl, rfl, Ha, hM⟩ := hrel
          have hak := hM.less
          rw [Ha.out] at hak
          have hkn2 : k ≤ len := by omega
          by_cases hqn : q < len - k
          · have hql : k + q < xs.length := by have := Hlen.out; omega
            have c0 := hM.row.c0 (k + q) hql
            have c1 := hM.row.c1 (k + q) hql
            have d0 := hM.row.c0 (k + (q - 1)) (by omega)
            have d1 := hM.row.c1 (k + (q - 1)) (by omega)
            rw [hM.rest (k + q) (by omega) hql] at c0 c1
            rw [hM.rest (k + (q - 1)) (by omega) (by omega)] at d0 d1
            have hq1 : (q : Int) - 1 = ((q - 1 : Nat) : Int) := by omega
            have hqq : q - 1 < len - k := by omega
            have eq1 : k + q - 1 = k + (q - 1) := by omega
            have Hy : Hid (prAt xs (k + q) ≠ prAt xs (k + (q - 1)) → (ddP xs (k + q + 1)).length = a + 1) := fun h => by have := Ha.out; rw [ddP_yes (.inr (by rw [eq1]; exact h))]; simp; omega
            have Hno : Hid (prAt xs (k + q) = prAt xs (k + (q - 1)) → (ddP xs (k + q + 1)).length = a) := fun h => by rw [ddP_no (by rintro (r | r); omega; exact r (by rw [eq1]; exact h))]; exact Ha.out
            have HMs : Hid (∀ w2, Below wr.heap.size wr w2 → prAt xs (k + q) = prAt xs (k + (q - 1)) → MoveP B gb w w2 xs (k + q + 1) f) := fun w2 b h => (hM.to b).skip (by omega) (by rw [eq1]; exact h)
            have HMp : Hid (∀ w2, Below wr.heap.size wr w2 → prAt xs (k + q) ≠ prAt xs (k + (q - 1)) → ((∃ u, w2.cell? ⟨gb, a * 2, none⟩ = some u) ∧ (∃ u, w2.cell? ⟨gb, a * 2 + 1, none⟩ = some u) ∧ w2.frozen? ⟨gb, a * 2, none⟩ = false ∧ w2.frozen? ⟨gb, a * 2 + 1, none⟩ = false ∧ w2.cell? ⟨gb, k * 2 + q * 2, none⟩ = some (.int .i64 (prAt xs (k + q)).1) ∧ w2.cell? ⟨gb, k * 2 + q * 2 + 1, none⟩ = some (.int .i64 (prAt xs (k + q)).2)) ∧
                ∃ f', MoveP B gb w ((w2.setCell ⟨gb, a * 2, none⟩ (.int .i64 (prAt xs (k + q)).1)).setCell ⟨gb, a * 2 + 1, none⟩ (.int .i64 (prAt xs (k + q)).2)) xs (k + q + 1) f') :=
              fun w2 b h => ⟨⟨⟨_, (hM.to b).row.c0 a (by omega)⟩, ⟨_, (hM.to b).row.c1 a (by omega)⟩, (hM.to b).row.frozen (a * 2) (by omega), (hM.to b).row.frozen (a * 2 + 1) (by omega),
                by rw [← Nat.add_mul, (hM.to b).row.c0 (k + q) hql, hM.rest (k + q) (by omega) hql], by rw [← Nat.add_mul, (hM.to b).row.c1 (k + q) hql, hM.rest (k + q) (by omega) hql]⟩, (hM.to b).put hql (by rw [eq1]; exact h) Ha.out⟩
            rw [Nat.add_mul] at c0 c1 d0 d1
            have HRd : Hid (∀ j, Below wr.heap.size wr (wr.drewN j)) := fun j => below_drewN (Below.refl wr.heap.size wr) j
            clear hM hql eq1
            obtain ⟨⟨x0, x1⟩, HX⟩ : ∃ x, Hid (prAt xs (k + q) = x) := ⟨_, rfl⟩
            obtain ⟨⟨y0, y1⟩, HY⟩ : ∃ x, Hid (prAt xs (k + (q - 1)) = x) := ⟨_, rfl⟩
            rw [HX.out] at c0 c1 HMp
            rw [HY.out] at d0 d1 HMp
            rw [HX.out, HY.out] at Hy Hno HMs
            clear HX HY
            by_cases he : x0 = y0 ∧ x1 = y1
            · obtain ⟨rfl, rfl⟩ := he
              have heq : ∀ w, (Op.equalIn 10000 38 (.agg #[.int .i64 x0, .int .i64 x1]) (.agg #[.int .i64 x0, .int .i64 x1])).run Try.prog w = .ok true w := fun w => by rw [eqP]; simp
              have R1 : Hid ((ddP xs (k + q + 1)).length = a) := Hno.out rfl
              have HMs2 : Hid (∀ w2, Below wr.heap.size wr w2 → MoveP B gb w w2 xs (k + q + 1) f) := fun w2 b => HMs.out w2 b rfl
              clear Hy Hno HMs HMp
              go_wp2_with fail
              go_quiet (fail)
              have hM2 := HMs2.out _ (HRd.out nq)
              clear HMs2 c0 c1 d0 d1 hq1 HRd heq
              go_wp2
              go_roundg (gk - 1)
              case measure => omega
              case rel => exact ⟨a, q + 1, f, by omega, by omega, rfl, by go_num, R1, hM2⟩
            · have heq : ∀ w, (Op.equalIn 10000 38 (.agg #[.int .i64 x0, .int .i64 x1]) (.agg #[.int .i64 y0, .int .i64 y1])).run Try.prog w = .ok false w := fun w => by
                rw [eqP]
                have : (x0 == y0 && x1 == y1) = false := by
                  rw [Bool.eq_false_iff]
                  intro h
                  simp only [Bool.and_eq_true, beq_iff_eq] at h
                  exact he h
                rw [this]
              have he2 : (x0, x1) ≠ (y0, y1) := by intro q; injection q with q1 q2; exact he ⟨q1, q2⟩
              have R1 : Hid ((ddP xs (k + q + 1)).length = a + 1) := Hy.out he2
              have HMp2 : Hid _ := fun w2 b => HMp.out w2 b he2
              clear Hy Hno HMs HMp he2
              go_wp2_with fail
              go_quiet (fail)
              obtain ⟨⟨⟨u, e1⟩, ⟨u2, e2⟩, e3, e4, e5, e6⟩, f', hM2⟩ := HMp2.out _ (HRd.out nq)
              clear HMp2 c0 c1 d0 d1 hq1 HRd heq
              go_wp2
              go_roundg (gk - 1)
              case measure => omega
              case rel => exact ⟨a + 1, q + 1, f', by omega, by omega, by go_num, by go_num, R1, hM2⟩
          · have ekq : k + q = len := by omega
            rw [ekq] at hM Ha hak
            obtain ⟨L, hcl, R1, R2⟩ := hM.row.cut (a := a) (zs := ddP xs len) (cap := cap) (by have := Hlen.out; omega) Ha.out (by intro t ht; exact hM.front t (by have := Ha.out; omega)) (by rw [Hlen.out]; exact hl) (by rw [Hlen.out]; exact hcap) hc63
            rw [Hlen.out] at hcl
            have HR1 : Hid _ := R1
            clear hM ekq R1
            go_wp2
            go_ret
            first | exact ⟨_, _, rfl, HR1.out, HD.out.1, HD.out.2, R2⟩ | exact ⟨_, rfl, _, HR1.out, HD.out.1, HD.out.2, R2⟩ | exact ⟨_, rfl, _, HR1.out, HD.out.1, by intros; exact HD.out.2 _, R2⟩
      · have heq : ∀ w, (Op.equalIn 10000 38 (.agg #[.int .i64 x0, .int .i64 x1]) (.agg #[.int .i64 y0, .int .i64 y1])).run Try.prog w = .ok false w := fun w => by
          rw [eqP]
          have : (x0 == y0 && x1 == y1) = false := by
            rw [Bool.eq_false_iff]
            intro h
            simp only [Bool.and_eq_true, beq_iff_eq] at h
            exact he h
          rw [this]
        have R2 : Hid _ := HS.out (by intro q; injection q with q1 q2; exact he ⟨q1, q2⟩)
        clear HS HM Hn hR2 hb
        go_wp2_with fail
        go_quiet (fail)
        have R := HRd.out nq
        clear c0 c1 d0 d1 hk1 HRd heq
        go_wp2
        go_roundg (G - 1)
        case measure => omega
        case rel => exact ⟨k + 1, by omega, by omega, by go_num, R, R2⟩
    · have E : Hid (ddP xs len = xs) := HT.out (by intro j h1 h2; exact Hn.out j h1 (by omega))
      have hI2 := HI.out.below hb
      have R := hbw.trans (hb.mono (by have := hR.base; have := hR.size; omega))
      have HD2 : Hid _ := HD.out
      rw [E.out] at HD2
      go_wp2
      go_ret
      exact ⟨_, rfl, xs, hI2, HD2.out.1, by intros; exact Iff.rfl, R⟩

end Go.Proofs.Ytlknegihhcdhbaa
