import Derived.Test.YtkdbkoogcndlgaaGr04
import Derived.Test.YtkdbkoogcndlgaaGr03
import Derived.Test.YtkdbkoogcndlgaaGr01
import Derived.BigQuiet
import Derived.Test.YtkdbkoogcndlgaaGr00
/- A verdict in memory. -/
namespace Go.Proofs.Ytkdbkoogcndlgaa
open Go.RowKit
set_option linter.unusedVariables false
set_option maxRecDepth 4000

def VerdV (w : World) (v : Value) (x : VerdL) : Prop := ∃ av, v = .agg #[.int .i64 x.kind, av, .int .i64 x.tran] ∧ Ints w av x.at_
theorem VerdV.below {w w' : World} {v : Value} {x : VerdL} (h : VerdV w v x) (hb : Below w.heap.size w w') : VerdV w' v x := by
  obtain ⟨av, e, h⟩ := h
  exact ⟨av, e, h.below hb⟩
theorem verd_none (w : World) : VerdV w (.agg #[.int .i64 0, .slice none 0 0, .int .i64 0]) ⟨0, [], 0⟩ := ⟨_, rfl, Ints.nil w⟩

/-- What is told of a verdict that lies in a block of its own. -/
def VerdAt (w : World) (b : Nat) (x y z : Value) : Prop := w.heap[b]? = some (.cells #[x, y, z] 27 (0, 0))
section
variable {w w' : World} {b : Nat} {x y z : Value}
theorem VerdAt.lt (h : VerdAt w b x y z) : b < w.heap.size := (Array.getElem?_eq_some_iff.1 h).1
theorem VerdAt.below (h : VerdAt w b x y z) (hb : Below w.heap.size w w') : VerdAt w' b x y z := by unfold VerdAt at *; rw [hb.block b (Array.getElem?_eq_some_iff.1 h).1]; exact h
theorem VerdAt.cells (h : VerdAt w b x y z) : w.cell? ⟨b, 0, none⟩ = some x ∧ w.cell? ⟨b, 1, none⟩ = some y ∧ w.cell? ⟨b, 2, none⟩ = some z ∧ ∀ j, w.frozen? ⟨b, j, none⟩ = false := by
  unfold VerdAt at h
  exact ⟨by simp [World.cell?, h], by simp [World.cell?, h], by simp [World.cell?, h], fun j => by simp [World.frozen?, h]⟩
theorem VerdAt.put (h : VerdAt w b x y z) (x' y' z' : Value) : ∃ W, Hid (((w.setCell ⟨b, 0, none⟩ x').setCell ⟨b, 1, none⟩ y').setCell ⟨b, 2, none⟩ z' = W) ∧ W.cell? ⟨b, 0, none⟩ = some x' ∧ W.cell? ⟨b, 1, none⟩ = some y' ∧ W.cell? ⟨b, 2, none⟩ = some z' ∧ Below b w W := by
  obtain ⟨h0, h1, h2, _⟩ := h.cells
  have b1 : Below b w (w.setCell ⟨b, 0, none⟩ x') := (Below.refl _ _).setCell (p := ⟨b, 0, none⟩) (Nat.le_refl _) _
  have b2 := b1.setCell (p := ⟨b, 1, none⟩) (Nat.le_refl _) y'
  have b3 := b2.setCell (p := ⟨b, 2, none⟩) (Nat.le_refl _) z'
  have e1 : (w.setCell ⟨b, 0, none⟩ x').cell? ⟨b, 1, none⟩ = some y := by rw [World.cell?_setCell_other _ _ _ _ (by simp)]; exact h1
  have e2 : ((w.setCell ⟨b, 0, none⟩ x').setCell ⟨b, 1, none⟩ y').cell? ⟨b, 2, none⟩ = some z := by rw [World.cell?_setCell_other _ _ _ _ (by simp), World.cell?_setCell_other _ _ _ _ (by simp)]; exact h2
  refine ⟨_, rfl, ?_, ?_, World.cell?_setCell_same _ _ _ e2, b3⟩
  · rw [World.cell?_setCell_other _ _ _ _ (by simp), World.cell?_setCell_other _ _ _ _ (by simp)]; exact World.cell?_setCell_same _ _ _ h0
  · rw [World.cell?_setCell_other _ _ _ _ (by simp)]; exact World.cell?_setCell_same _ _ _ e1
/-- Numbers, two at least, do not lie where a verdict does. -/
theorem Ints.put_verd {av : Value} {xs : List Int} {k t : Int} {u : Value} {d : Option Addr} {l c : Nat} (hI : Ints w av xs) (hl : 2 ≤ xs.length) (h : VerdAt w b (.int .i64 k) (.slice d l c) (.int .i64 t)) (k' : Value) :
    Ints (((w.setCell ⟨b, 0, none⟩ k').setCell ⟨b, 1, none⟩ u).setCell ⟨b, 2, none⟩ (.int .i64 t)) av xs := by
  obtain ⟨h0, h1, h2, _⟩ := h.cells
  obtain ⟨a, len, cap, e, hlen, hm, hsh, hr⟩ := hI
  refine ⟨a, len, cap, e, hlen, hm, hsh, fun j hj => ?_⟩
  obtain ⟨b', off, ha, hb', hc⟩ := hr j hj
  refine ⟨b', off, ha, by simpa [World.setCell] using hb', ?_⟩
  by_cases e2 : (⟨b, 2, none⟩ : Addr) = ⟨b', off + j, none⟩
  · rw [← e2] at hc ⊢
    rw [hc] at h2
    rw [h2]
    refine World.cell?_setCell_same' _ _ _ ?_
    rw [World.cell?_setCell_other _ _ _ _ (by simp), World.cell?_setCell_other _ _ _ _ (by simp), hc]; rfl
  · rw [World.cell?_setCell_other _ _ _ _ e2]
    by_cases e1 : (⟨b, 1, none⟩ : Addr) = ⟨b', off + j, none⟩
    · rw [← e1, h1] at hc; cases hc
    · rw [World.cell?_setCell_other _ _ _ _ e1]
      by_cases e0 : (⟨b, 0, none⟩ : Addr) = ⟨b', off + j, none⟩
      · injection e0 with q1 q2
        obtain ⟨b2, off2, ha2, _, hc2⟩ := hr 1 (by omega)
        rw [ha] at ha2
        injection ha2 with ha2
        injection ha2 with r1 r2
        have hj0 : off = 0 := by omega
        rw [← r1, ← r2, ← q1, hj0] at hc2
        rw [Nat.zero_add, h1] at hc2
        cases hc2
      · rw [World.cell?_setCell_other _ _ _ _ e0]; exact hc
end

theorem results_verd {fn : Func} {p u : Tmp} {tmps : Array Value} {w : World} {b : Nat} {x y z v : Value} (h : fn.results = #[.cell p 27, .tmp u]) (hp : tmps.getD p undef = .pointer (some ⟨b, 0, none⟩)) (hu : tmps.getD u undef = v) (h1 : w.cell? ⟨b, 0, none⟩ = some x) (h2 : w.cell? ⟨b, 1, none⟩ = some y) (h3 : w.cell? ⟨b, 2, none⟩ = some z) :
    (results fn tmps).run Try.prog w = .ok (.tuple #[.agg #[x, y, z], v]) w := by
  rw [results_cell_tmp h, hp, hu]
  simp [asAddr, go_sem, h1, h2, h3]

/-- Of two verdicts that are the same. -/
theorem sameverd_any (u v : Value) (x : VerdL) (w : World) (hu : VerdV w u x) (hv : VerdV w v x) :
    Calls Try.prog 10 #[u, v] w fun e w' => e = .returned (.bool true) ∧ Below w.heap.size w w' := by
  obtain ⟨au, rfl, hu⟩ := hu
  obtain ⟨av, rfl, hv⟩ := hv
  obtain ⟨a1, l1, c1, rfl, _⟩ := id hu
  obtain ⟨a2, l2, c2, rfl, _⟩ := id hv
  have b1 := below_new w (.cells #[.int .i64 x.kind, .slice a1 l1 c1, .int .i64 x.tran] 27)
  have b2 := below_new (w.alloc (.cells #[.int .i64 x.kind, .slice a1 l1 c1, .int .i64 x.tran] 27)) (.cells #[.int .i64 x.kind, .slice a2 l2 c2, .int .i64 x.tran] 27)
  have hx1 := (box3_new w (.int .i64 x.kind) (.slice a1 l1 c1) (.int .i64 x.tran) 27).below b2
  have hx2 := box3_new (w.alloc (.cells #[.int .i64 x.kind, .slice a1 l1 c1, .int .i64 x.tran] 27)) (.int .i64 x.kind) (.slice a2 l2 c2) (.int .i64 x.tran) 27
  have es : (w.alloc (.cells #[.int .i64 x.kind, .slice a1 l1 c1, .int .i64 x.tran] 27)).heap.size = w.heap.size + 1 := by simp
  rw [es] at hx2
  have b := below_then b1 b2
  obtain ⟨W, HW⟩ : ∃ W, Hid ((w.alloc (.cells #[.int .i64 x.kind, .slice a1 l1 c1, .int .i64 x.tran] 27)).alloc (.cells #[.int .i64 x.kind, .slice a2 l2 c2, .int .i64 x.tran] 27) = W) := ⟨_, rfl⟩
  rw [HW.out] at b hx1 hx2
  replace hu := hu.below b
  replace hv := hv.below b
  clear b1 b2 es
  obtain ⟨y0, y1, y2, y3⟩ := hx1
  obtain ⟨z0, z1, z2, z3⟩ := hx2
  go_enter Try.func10, Try.ntmps10
  go_upto_region 1 with fail
  rw [HW.out]
  clear HW
  go_wp2_with fail
  refine (equal_any _ _ _ _ _ hu hv).mono ?_
  rintro e w2 ⟨rfl, m, rfl⟩
  have R := below_drewN b m
  have E : Hid ((x.at_ == x.at_) = true) := by show _ = _; simp
  rw [E.out]
  go_wp2
  go_ret
  exact ⟨rfl, R⟩

end Go.Proofs.Ytkdbkoogcndlgaa

/- The answers of the document itself for live: what needs no closure. -/
namespace Go.Proofs.Ytkdbkoogcndlgaa
open Go.RowKit
set_option linter.unusedVariables false
set_option maxRecDepth 4000

/-- The first k numbers of which p tells. -/
def pickTo (p : Int → Bool) (k : Nat) : List Int := (rangeL k).filter p
theorem rangeL_succ (k : Nat) : rangeL (k + 1) = rangeL k ++ [(k : Int)] := by unfold rangeL; rw [List.range_succ, List.map_append]; rfl
theorem pickTo_yes (p : Int → Bool) (k : Nat) (h : p k = true) : pickTo p (k + 1) = pickTo p k ++ [(k : Int)] := by
  unfold pickTo; rw [rangeL_succ, List.filter_append]; simp [h]
theorem pickTo_no (p : Int → Bool) (k : Nat) (h : p k = false) : pickTo p (k + 1) = pickTo p k := by
  unfold pickTo; rw [rangeL_succ, List.filter_append]; simp [h]
theorem pickTo_le (p : Int → Bool) (k : Nat) : (pickTo p k).length ≤ k := by
  unfold pickTo
  refine Nat.le_trans (List.length_filter_le _ _) ?_
  simp [rangeL]

/-- All of the first k arcs. -/
def allA (p : Int × Int × Int → Bool) (l : List (Int × Int × Int)) (k : Nat) : Bool := (l.take k).all p
theorem allA_succ (p : Int × Int × Int → Bool) {l : List (Int × Int × Int)} {k : Nat} (hk : k < l.length) : allA p l (k + 1) = (allA p l k && p l[k]) := by
  unfold allA; rw [List.take_succ_eq_append_getElem hk, List.all_append]; simp
theorem allA_all (p : Int × Int × Int → Bool) (l : List (Int × Int × Int)) {k : Nat} (hk : k = l.length) : allA p l k = l.all p := by
  unfold allA; rw [List.take_of_length_le (by omega)]
theorem allA_zero (p : Int × Int × Int → Bool) (l : List (Int × Int × Int)) : allA p l 0 = true := rfl

theorem stuck_pick (s : SpaceZ) : stuckL s = pickTo (fun k => s.arcs.all fun a => a.1 != k) s.marks.length := rfl
theorem dead_pick (s : SpaceZ) (T : Int) : deadL s T = pickTo (fun k => s.arcs.all fun a => a.2.1 != k) (min T 24).toNat := rfl

set_option maxHeartbeats 1000000 in
theorem gdead_any (v : Value) (s : SpaceZ) (T : Int) (w : World) (hv : SpaceV w v s) :
    Calls Try.prog 28 #[v, .int .i64 T] w fun e w' => ∃ r, e = .returned r ∧ Ints w' r (deadL s T) ∧ Below w.heap.size w w' := by
  obtain ⟨hN, mv, av, rfl, hM, hA⟩ := hv
  clear hN
  obtain ⟨am, cm, rfl, hlm, _⟩ := hM.slice
  obtain ⟨aa, ca, rfl, hla⟩ := hA.slice
  have E : Hid (deadL s T = pickTo (fun k => s.arcs.all fun a => a.2.1 != k) (min T 24).toNat) := dead_pick s T
  obtain ⟨M, HM⟩ : ∃ M, Hid (min T 24 = M) := ⟨_, rfl⟩
  have hM24 : M ≤ 24 := by have := HM.out; omega
  rw [HM.out] at E
  obtain ⟨tm, Htm⟩ : ∃ tm, Hid (M.toNat = tm) := ⟨_, rfl⟩
  rw [Htm.out] at E
  have htm24 : tm ≤ 24 := by have := Htm.out; omega
  obtain ⟨lm, Hlm⟩ : ∃ lm, Hid (s.marks.length = lm) := ⟨_, rfl⟩
  obtain ⟨la, Hla⟩ : ∃ la, Hid (s.arcs.length = la) := ⟨_, rfl⟩
  rw [Hlm.out] at hlm ⊢
  rw [Hla.out] at hA hla ⊢
  clear hM
  have c := below_new w (.cells #[.slice am lm cm, .slice aa la ca] 46)
  have hbx := box2_new w (.slice am lm cm) (.slice aa la ca) 46
  replace hA := hA.below c
  obtain ⟨W0, HW0⟩ : ∃ W0, Hid (w.alloc (.cells #[.slice am lm cm, .slice aa la ca] 46) = W0) := ⟨_, rfl⟩
  rw [HW0.out] at c hbx hA
  go_enter Try.func28, Try.ntmps28
  go_upto_region 1 with fail
  rw [HW0.out]
  clear HW0
  go_upto_region 2 with fail
  go_cut [11, 12] (fun q i wc => q = .int .i64 M ∧ i = .int .i64 0 ∧ wc = W0)
  case first =>
    have h1 := HM.out
    go_wp2_with fail
    all_goals go_meet
    all_goals refine ⟨?_, rfl, rfl⟩
    all_goals (congr 1; omega)
  obtain ⟨rfl, rfl, rfl⟩ := hcut
  obtain ⟨W0, rfl⟩ : ∃ w0, w0 = wc := ⟨_, rfl⟩
  go_wp2_with fail
  go_loopg [5, 12] tm (fun g o i wr => ∃ k : Nat, k + g = tm ∧ i = .int .i64 k ∧ Own W0.heap.size W0 wr o (pickTo (fun k => s.arcs.all fun a => a.2.1 != k) k))
  case atStart => exact ⟨0, by omega, rfl, Own.nil _⟩
  case round =>
    obtain ⟨k, hkg, rfl, hO⟩ := hrel
    obtain ⟨G, hGk⟩ : ∃ G, G = gk := ⟨_, rfl⟩
    obtain ⟨W, hW⟩ : ∃ W, W = wr := ⟨_, rfl⟩
    subst hGk hW
    have htM := Htm.out
    have hle := pickTo_le (fun k => s.arcs.all fun a => a.2.1 != k) k
    by_cases hkn : k < tm
    · have hkM : (k : Int) < M := by omega
      obtain ⟨y0, y1, y2⟩ := hbx.below hO.2.1
      have hA2 := hA.below hO.2.1
      have Hy : Hid _ := pickTo_yes (fun k => s.arcs.all fun a => a.2.1 != k) k
      have Hn : Hid _ := pickTo_no (fun k => s.arcs.all fun a => a.2.1 != k) k
      go_wp2_with fail
      clear y0 y1 y2
      go_loopg [7, 18] la (fun g o i wr => ∃ j : Nat, j + g = la ∧ i = .int .i64 j ∧ o = .bool (allA (fun a => a.2.1 != (k : Int)) s.arcs j) ∧ Below W.heap.size W wr)
      case atStart => exact ⟨0, by omega, rfl, rfl, Below.refl _ _⟩
      case round =>
        obtain ⟨j, hjg, rfl, rfl, hb⟩ := hrel
        by_cases hjn : j < la
        · have Hjl : Hid (j < s.arcs.length) := by have := Hla.out; show j < s.arcs.length; omega
          obtain ⟨b1, o1, rfl, _, c0, c1, c2⟩ := (hA2.below hb).at Hjl.out
          have Hs : Hid _ := allA_succ (fun a => a.2.1 != (k : Int)) Hjl.out
          obtain ⟨A, HA⟩ : ∃ A, Hid (s.arcs[j]'Hjl.out = A) := ⟨_, rfl⟩
          obtain ⟨x, y, z⟩ := A
          rw [HA.out] at c0 c1 c2 Hs
          simp only at c0 c1 c2 Hs
          have hbn := below_then hb (below_new wr (.cells #[.int .i64 x, .int .i64 y, .int .i64 z] 79))
          cases hp : allA (fun a => a.2.1 != (k : Int)) s.arcs j
          · have R : Hid (allA (fun a => a.2.1 != (k : Int)) s.arcs (j + 1) = false) := by have := Hs.out; rw [hp] at this; exact this
            clear Hs hp
            go_wp2
            go_roundg (gk - 1)
            case measure => omega
            case rel => exact ⟨j + 1, by omega, by go_num, by rw [R.out], hbn⟩
          · have R : Hid (allA (fun a => a.2.1 != (k : Int)) s.arcs (j + 1) = (y != (k : Int))) := by have := Hs.out; rw [hp] at this; exact this
            clear Hs hp
            go_wp2
            go_roundg (gk - 1)
            case measure => omega
            case rel => exact ⟨j + 1, by omega, by go_num, by rw [R.out], hbn⟩
        · have hO2 := hO.trans hb
          have F : Hid (allA (fun a => a.2.1 != (k : Int)) s.arcs j = s.arcs.all fun a => a.2.1 != (k : Int)) := allA_all _ _ (by have := Hla.out; omega)
          rw [F.out]
          clear hO hb F
          cases hp : s.arcs.all fun a => a.2.1 != (k : Int)
          · have R := hO2
            rw [← Hn.out hp] at R
            clear hO2 hp
            go_wp2
            go_roundg (G - 1)
            case measure => omega
            case rel => exact ⟨k + 1, by omega, by go_num, R⟩
          · go_wp2_with (at_builtin; refine wp_append_int rfl _ _ rfl W0.heap.size W0 _ _ _ (k : Int) hO2 rfl rfl (by omega) ?_; intro v' w3 hO3)
            have R : Own W0.heap.size W0 w3 v' (pickTo (fun k => s.arcs.all fun a => a.2.1 != k) (k + 1)) := by rw [Hy.out hp]; exact hO3
            clear hO2 hO3 hp
            go_wp2
            go_roundg (G - 1)
            case measure => omega
            case rel => exact ⟨k + 1, by omega, by go_num, R⟩
    · have hkM : ¬ (k : Int) < M := by omega
      obtain rfl : k = tm := by omega
      have R := hO.ints (by omega)
      rw [← E.out] at R
      have R2 := below_then c hO.2.1
      clear hO
      go_wp2
      go_ret
      exact ⟨_, rfl, R, R2⟩

def rightA (lm : Nat) (a : Int × Int × Int) : Bool := decide (0 ≤ a.1) && decide (a.1 < lm) && decide (0 ≤ a.2.2) && decide (a.2.2 < lm)
theorem right_all (s : SpaceZ) : rightS s = s.arcs.all (rightA s.marks.length) := rfl

theorem boundM_right {n : Int} {m : List Int} (h : rightL m = true) : boundM n m = m.foldl max n := by simp [boundM, h]
theorem boundM_not {n : Int} {m : List Int} (h : rightL m = false) : boundM n m = n := by simp [boundM, h]
def boundTo (l : List (List Int)) (k : Nat) : Int := (l.take k).foldl boundM 0
def maxFrom (n : Int) (m : List Int) (j : Nat) : Int := (m.take j).foldl max n
theorem boundTo_succ {l : List (List Int)} {k : Nat} (hk : k < l.length) : boundTo l (k + 1) = boundM (boundTo l k) (markAt l k) := by
  unfold boundTo
  rw [List.take_succ_eq_append_getElem hk, List.foldl_append]
  simp [markAt, List.getD_eq_getElem?_getD, List.getElem?_eq_getElem hk]
theorem maxFrom_succ {m : List Int} {j : Nat} (hj : j < m.length) (n : Int) : maxFrom n m (j + 1) = max (maxFrom n m j) (nth m j) := by
  unfold maxFrom
  rw [List.take_succ_eq_append_getElem hj, List.foldl_append]
  simp [nth, List.getD, List.getElem?_eq_getElem hj]
theorem maxFrom_all {m : List Int} {j : Nat} (hj : j = m.length) (n : Int) : maxFrom n m j = m.foldl max n := by unfold maxFrom; rw [List.take_of_length_le (by omega)]
theorem boundTo_all {l : List (List Int)} {k : Nat} (hk : k = l.length) : boundTo l k = l.foldl boundM 0 := by unfold boundTo; rw [List.take_of_length_le (by omega)]

end Go.Proofs.Ytkdbkoogcndlgaa

/- Package net, as it landed: what is wrong, and which marks fit. -/
namespace Go.Proofs.Ytkdbkoogcndlgaa
open Go.RowKit
set_option linter.unusedVariables false
set_option maxRecDepth 4000

set_option maxHeartbeats 400000 in
theorem upTo_any (x y : Int) (w : World) :
    Calls Try.prog 70 #[.int .i64 x, .int .i64 y] w fun e w' => e = .returned (.bool (decide (0 ≤ x) && decide (x ≤ y))) ∧ w' = w := by
  by_cases h1 : 0 ≤ x <;> by_cases h2 : x ≤ y <;>
  · go_enter Try.func70, Try.ntmps70
    go_wp2
    go_ret
    exact ⟨by simp [h1, h2], rfl⟩

/-- What a transition may take or put. -/
def weighs (n : NetL) (xs : List Int) : Bool := ((xs.length : Int) == n.places) && xs.all weightOk

set_option maxHeartbeats 400000 in
theorem weights_any (v u : Value) (n : NetL) (xs : List Int) (w : World) (hv : Net w v n) (hu : Ints w u xs) :
    Calls Try.prog 71 #[v, u] w fun e w' => e = .returned (.bool (weighs n xs)) ∧ Below w.heap.size w w' := by
  obtain ⟨tv, rfl, hT⟩ := hv
  have b1 := below_new w (.cells #[.int .i64 n.places, tv] 24)
  have hu1 := hu.below b1
  have hbx := box2_new w (.int .i64 n.places) tv 24
  clear hT hu
  obtain ⟨a, len, cap, rfl, hlen, hmx, hsh, hr⟩ := hu1
  obtain ⟨x0, x1, x2⟩ := hbx
  cases hl : ((len : Int) == n.places)
  · have hl' : ((len : Int) != n.places) = true := by simpa using hl
    have F : Hid (weighs n xs = false) := by show _ = _; unfold weighs; rw [hlen, hl]; rfl
    clear hl
    go_enter Try.func71, Try.ntmps71
    go_wp2
    go_ret
    exact ⟨ret_bool F.out.symm, b1⟩
  · have hl' : ((len : Int) != n.places) = false := by simpa using hl
    have F : Hid (weighs n xs = xs.all weightOk) := by show _ = _; unfold weighs; rw [hlen, hl]; rfl
    clear hl
    go_enter Try.func71, Try.ntmps71
    go_wp2_with fail
    clear x0 x1 x2
    go_loop [14] (fun i => ∃ j : Nat, j ≤ len ∧ i = .int .i64 j ∧ Hid (weighTo xs j = true)) (fun i => len - (intOf i).toNat)
    case atStart => exact ⟨0, Nat.zero_le _, rfl, rfl⟩
    case round =>
      obtain ⟨j, hj, rfl, hw⟩ := hrel
      by_cases hjn : j < len
      · obtain ⟨b, off, rfl, hb, hc⟩ := hr j (by omega)
        have Hst : Hid _ := weighTo_succ xs j (by omega)
        have Hno : Hid (weightOk (nth xs j) = false → weighs n xs = false) := by
          intro h
          rw [F.out, List.all_eq_false]
          refine ⟨xs[j]'(by omega), List.getElem_mem _, ?_⟩
          have e : nth xs j = xs[j]'(by omega) := by simp [nth, List.getD, List.getElem?_eq_getElem (show j < xs.length by omega)]
          rw [← e, h]; simp
        clear hr
        go_wp2_with fail
        refine (upTo_any _ _ _).mono ?_
        rintro e w2 ⟨rfl, rfl⟩
        have Hwo : Hid ((decide (0 ≤ nth xs j) && decide (nth xs j ≤ 9)) = weightOk (nth xs j)) := rfl
        rw [Hwo.out]
        cases hk : weightOk (nth xs j)
        · have F2 : Hid _ := Hno.out hk
          clear Hno hk Hst
          go_wp2
          go_ret
          exact ⟨ret_bool F2.out.symm, b1⟩
        · have F2 : Hid (weighTo xs (j + 1) = true) := by show _ = _; rw [Hst.out, hw.out, hk]; rfl
          clear Hno hk Hst
          go_wp2
          go_round
          case rel => exact ⟨j + 1, by omega, by go_num, F2⟩
          case measure => simp [intOf]; omega
      · have F2 : Hid (weighs n xs = true) := by show _ = _; rw [F.out, ← weighTo_all xs j (by omega)]; exact hw.out
        go_wp2
        go_ret
        exact ⟨ret_bool F2.out.symm, b1⟩

theorem tranOk_weighs (n : NetL) (t : TranL) : tranOk n.places t = ((decide (0 ≤ t.label) && decide (t.label ≤ 26)) && weighs n t.pre && weighs n t.post) := by
  unfold tranOk tranHead weighs
  rw [List.all_append]
  cases decide (0 ≤ t.label) <;> cases decide (t.label ≤ 26) <;> cases ((t.pre.length : Int) == n.places) <;> cases ((t.post.length : Int) == n.places) <;> cases t.pre.all weightOk <;> cases t.post.all weightOk <;> rfl

theorem netOk_false_at {n : NetL} {k : Nat} (hk : k < n.trans.length) (h : tranOk n.places (tranAt n.trans k) = false) : netOk n = false := by
  unfold netOk
  rw [Bool.and_eq_false_iff]
  right
  rw [List.all_eq_false]
  refine ⟨n.trans[k], List.getElem_mem _, ?_⟩
  have e : tranAt n.trans k = n.trans[k] := by simp [tranAt, List.getD, List.getElem?_eq_getElem hk]
  rw [← e, h]; simp

set_option maxHeartbeats 1000000 in
theorem wrong_any (v : Value) (n : NetL) (w : World) (hv : Net w v n) :
    Calls Try.prog 44 #[v] w fun e w' => e = .returned (.int .i64 (wrongL n)) ∧ Below w.heap.size w w' := by
  obtain ⟨tv, rfl, hT⟩ := hv
  have b1 := below_new w (.cells #[.int .i64 n.places, tv] 24)
  have hbx := box2_new w (.int .i64 n.places) tv 24
  replace hT := hT.below b1
  obtain ⟨w0, Hw0⟩ : ∃ w0, Hid (w.alloc (.cells #[.int .i64 n.places, tv] 24) = w0) := ⟨_, rfl⟩
  rw [Hw0.out] at b1 hbx hT
  obtain ⟨a, len, cap, rfl, hlen, hmx, hsh, hr⟩ := id hT
  clear hr
  obtain ⟨x0, x1, x2⟩ := id hbx
  go_enter Try.func44, Try.ntmps44
  go_upto_region 1 with fail
  rw [Hw0.out]
  clear Hw0
  go_wp2_with fail
  refine (upTo_any _ _ _).mono ?_
  rintro e w2 ⟨rfl, rfl⟩
  cases hA : (decide (0 ≤ n.places) && decide (n.places ≤ 16))
  · have F : Hid (wrongL n = 2) := by show _ = _; simp only [wrongL, netOk, headOk, hA]; rfl
    clear hA
    go_wp2
    go_ret
    exact ⟨ret_int F.out.symm, b1⟩
  by_cases hB : len ≤ 24
  case neg =>
    have F : Hid (wrongL n = 2) := by show _ = _; simp only [wrongL, netOk, headOk, hA, hlen, decide_eq_false hB]; rfl
    clear hA
    go_wp2
    go_ret
    exact ⟨ret_int F.out.symm, b1⟩
  have F0 : Hid (okTo n 0 = true) := by show _ = _; simp only [okTo, headOk, hA, hlen, decide_eq_true hB]; rfl
  clear hA
  go_wp2_with fail
  go_loopg [18] len (fun g i wr => ∃ k : Nat, k + g = len ∧ i = .int .i64 k ∧ Hid (okTo n k = true) ∧ Below w2.heap.size w2 wr)
  case atStart => exact ⟨0, by omega, rfl, F0, Below.refl _ _⟩
  case round =>
    clear x0 x1 x2 F0
    obtain ⟨k, hkg, rfl, hok, hb⟩ := hrel
    have c := below_then b1 hb
    by_cases hkn : k < len
    · obtain ⟨b, off, c1, c2, rfl, hblt, h0, h1, h2, i1, i2⟩ := (hT.below hb).at hkn
      obtain ⟨x0, x1, x2⟩ := hbx.below hb
      have hv2 : Net wr (.agg #[.int .i64 n.places, .slice (some ⟨b, off, none⟩) len cap]) n := ⟨_, rfl, hT.below hb⟩
      obtain ⟨a1, l1, p1, rfl, _, _, _, _⟩ := id i1
      obtain ⟨a2, l2, p2, rfl, _, _, _, _⟩ := id i2
      have Hok : Hid _ := okTo_succ n k (by omega)
      have Hno : Hid (tranOk n.places (tranAt n.trans k) = false → wrongL n = 2) := fun h => wrongL_not (netOk_false_at (by omega) h)
      have Hto : Hid _ := tranOk_weighs n (tranAt n.trans k)
      have b2 := below_new wr (.cells #[.int .i64 (tranAt n.trans k).label, .slice a1 l1 p1, .slice a2 l2 p2] 57)
      generalize tranAt n.trans k = t at *
      replace hv2 := hv2.below b2
      replace i1 := i1.below b2
      replace i2 := i2.below b2
      go_wp2_with fail
      refine (upTo_any _ _ _).mono ?_
      rintro e w3 ⟨rfl, rfl⟩
      cases hA : (decide (0 ≤ t.label) && decide (t.label ≤ 26))
      · have F : Hid (wrongL n = 2) := Hno.out (by rw [Hto.out, hA]; rfl)
        clear Hno Hto Hok hA
        go_wp2
        go_ret
        exact ⟨ret_int F.out.symm, below_then c b2⟩
      go_wp2_with fail
      refine (weights_any _ _ n t.pre _ (by exact hv2) (by exact i1)).mono ?_
      rintro e w3 ⟨rfl, b3⟩
      cases hB : weighs n t.pre
      · have F : Hid (wrongL n = 2) := Hno.out (by rw [Hto.out, hA, hB]; rfl)
        clear Hno Hto Hok hA
        go_wp2
        go_ret
        exact ⟨ret_int F.out.symm, below_then c (below_then b2 b3)⟩
      have y0 : wr.heap.size < (wr.alloc (.cells #[.int .i64 t.label, .slice a1 l1 p1, .slice a2 l2 p2] 57)).heap.size := by simp
      have y2 : w3.cell? ⟨wr.heap.size, 2, none⟩ = some (.slice a2 l2 p2) := by rw [b3.cell (p := ⟨wr.heap.size, 2, none⟩) y0, World.cell?_alloc_at _ _ _ _ rfl]; rfl
      obtain ⟨z0, z1, z2⟩ := (hbx.below hb).below (below_then b2 b3)
      replace hv2 := hv2.below b3
      replace i2 := i2.below b3
      have b4 := below_then b2 b3
      clear b2 b3 x0 x1 x2 h0 h1 h2 i1 y0
      go_wp2_with fail
      refine (weights_any _ _ n t.post _ (by exact hv2) (by exact i2)).mono ?_
      rintro e w4 ⟨rfl, b3⟩
      replace b4 := below_then b4 b3
      clear y2 z0 z1 z2 hv2 i2 b3
      cases hC : weighs n t.post
      · have F : Hid (wrongL n = 2) := Hno.out (by rw [Hto.out, hA, hB, hC]; rfl)
        clear Hno Hto Hok hA
        go_wp2
        go_ret
        exact ⟨ret_int F.out.symm, below_then c b4⟩
      · have F : Hid (okTo n (k + 1) = true) := by show _ = _; rw [Hok.out, Hto.out, hok.out, hA, hB, hC]; rfl
        have R := below_then hb b4
        clear Hno Hto Hok hA b4
        go_wp2
        go_roundg (gk - 1)
        case measure => omega
        case rel => exact ⟨k + 1, by omega, by go_num, F, R⟩
    · have F : Hid (wrongL n = 0) := by show _ = _; rw [okTo_all n k (by omega)] at hok; exact wrongL_ok hok.out
      go_wp2
      go_ret
      exact ⟨ret_int F.out.symm, c⟩

set_option maxHeartbeats 400000 in
theorem marks_any (v u : Value) (n : NetL) (m : List Int) (w : World) (hv : Net w v n) (hu : Ints w u m) :
    Calls Try.prog 29 #[v, u] w fun e w' => e = .returned (.bool (fitsL n m)) ∧ Below w.heap.size w w' := by
  obtain ⟨tv, rfl, hT⟩ := hv
  have b1 := below_new w (.cells #[.int .i64 n.places, tv] 24)
  have hbx := box2_new w (.int .i64 n.places) tv 24
  have hu1 := hu.below b1
  have hv1 : Net _ _ n := ⟨tv, rfl, hT.below b1⟩
  go_enter Try.func29, Try.ntmps29
  go_wp2_with fail
  refine (wrong_any _ n _ (by exact hv1)).mono ?_
  rintro e w1 ⟨rfl, b2⟩
  have b3 := below_then b1 b2
  have hu2 := hu1.below b2
  obtain ⟨hx0, hx1, hx2⟩ := hbx.below b2
  clear b1 b2 hbx hu1 hv1
  have hu3 := hu2
  obtain ⟨a, len, cap, rfl, hlen, hmx, hsh, hr⟩ := hu2
  clear hr
  cases h1 : netOk n
  · rw [wrongL_not h1]
    have F : Hid (fitsL n m = false) := by show _ = _; simp [fitsL, h1]
    clear h1
    go_wp2
    go_ret
    exact ⟨ret_bool F.out.symm, b3⟩
  · rw [wrongL_ok h1]
    cases h2 : ((len : Int) == n.places)
    · have F : Hid (fitsL n m = false) := by show _ = _; unfold fitsL; rw [hlen, h2]; simp
      clear h1
      go_wp2
      go_ret
      exact ⟨ret_bool F.out.symm, b3⟩
    · have F : Hid (fitsL n m = rightL m) := by show _ = _; unfold fitsL; rw [h1, hlen, h2]; simp
      clear h1
      go_wp2_with fail
      refine (right_any _ m _ hu3).mono ?_
      rintro e w' ⟨rfl, rfl⟩
      go_wp2
      go_ret
      exact ⟨ret_bool F.out.symm, b3⟩

end Go.Proofs.Ytkdbkoogcndlgaa

/- The answers of the document itself for shape: the mark at the beginning. -/
namespace Go.Proofs.Ytkdbkoogcndlgaa
open Go.RowKit
set_option linter.unusedVariables false
set_option maxRecDepth 4000

theorem start_succ (i : Int) (k : Nat) : mapTo (k + 1) (fun p => if (p : Int) = i then 1 else 0) = mapTo k (fun p => if (p : Int) = i then 1 else 0) ++ [if (k : Int) = i then 1 else 0] := mapTo_succ k _

set_option maxHeartbeats 1000000 in
theorem hstart_own (v : Value) (n : NetL) (i : Int) (w : World) (hv : Net w v n) :
    Calls Try.prog 25 #[v, .int .i64 i] w fun e w' => ∃ r, e = .returned r ∧ Own w.heap.size w w' r (startL n.places i) := by
  obtain ⟨tv, rfl, hT⟩ := hv
  obtain ⟨w0, Hw0⟩ : ∃ w0, Hid (w.alloc (.cells #[.int .i64 n.places, tv] 24) = w0) := ⟨_, rfl⟩
  have c : Below w.heap.size w w0 := by rw [← Hw0.out]; exact below_new _ _
  have hbx : Box2 w0 w.heap.size (.int .i64 n.places) tv := by rw [← Hw0.out]; exact box2_new w _ tv 24
  obtain ⟨P, HP⟩ : ∃ P, Hid (n.places = P) := ⟨_, rfl⟩
  rw [HP.out] at hbx Hw0 ⊢
  obtain ⟨N, HN⟩ : ∃ N : Nat, Hid ((min P 16).toNat = N) := ⟨_, rfl⟩
  have HS : Hid _ := start_succ i
  have HL : Hid (∀ k, (mapTo k (fun p => if (p : Int) = i then 1 else 0)).length = k) := fun k => mapTo_length _ _
  have HE : Hid (mapTo N (fun p => if (p : Int) = i then 1 else 0) = startL P i) := by show _ = _; rw [← HN.out]; rfl
  obtain ⟨x0, x1, x2⟩ := id hbx
  have O0 : Own w.heap.size w w0 (.slice none 0 0) (mapTo 0 (fun p => if (p : Int) = i then 1 else 0)) := Own.nil_of c c.size
  rw [← HE.out]
  have hN16 : N ≤ 16 := by rw [← HN.out]; omega
  obtain ⟨K, HK, hK⟩ : ∃ K : Int, Hid (min P 16 = K) ∧ (∀ k : Nat, (k : Int) < K ↔ k < N) := ⟨_, rfl, fun k => by rw [← HN.out]; omega⟩
  have hmin : (P < 16 ∧ K = P) ∨ (P = 16 ∧ K = 16) ∨ (16 < P ∧ K = 16) := by have := HK.out; omega
  clear HN HP HE
  go_enter Try.func25, Try.ntmps25
  go_upto_region 2 with fail
  rw [Hw0.out]
  clear Hw0 HK
  rcases hmin with ⟨h1, rfl⟩ | ⟨rfl, rfl⟩ | ⟨h1, rfl⟩
  all_goals
    go_wp2_with fail
    clear x0 x1 x2 hbx
    go_loopw [5, 10] (fun v a wr => ∃ k : Nat, k ≤ N ∧ a = .int .i64 k ∧ Own w.heap.size w wr v (mapTo k (fun p => if (p : Int) = i then 1 else 0))) (fun _ a _ => N - (intOf a).toNat)
    case atStart => exact ⟨0, Nat.zero_le _, rfl, O0⟩
    case round =>
      clear O0
      obtain ⟨k, hk, rfl, hO⟩ := hrel
      by_cases hkn : k < N
      · have hkK := (hK k).2 hkn
        have Hs : Hid _ := HS.out k
        have Hl : Hid _ := HL.out k
        clear HS HL hK
        by_cases e : (k : Int) = i
        · have R : Hid (mapTo (k + 1) (fun p => if (p : Int) = i then 1 else 0) = mapTo k (fun p => if (p : Int) = i then 1 else 0) ++ [1]) := by show _ = _; rw [Hs.out, if_pos e]
          clear Hs
          go_wp2_with (at_builtin; refine wp_append_int rfl _ _ rfl w.heap.size w _ _ _ 1 hO rfl rfl (by have := Hl.out; omega) ?_; intro v' w3 hO3)
          go_roundw
          case rel => exact ⟨k + 1, by omega, by go_num, by rw [R.out]; exact hO3⟩
          case measure => simp [intOf]; omega
        · have R : Hid (mapTo (k + 1) (fun p => if (p : Int) = i then 1 else 0) = mapTo k (fun p => if (p : Int) = i then 1 else 0) ++ [0]) := by show _ = _; rw [Hs.out, if_neg e]
          clear Hs
          go_wp2_with (at_builtin; refine wp_append_int rfl _ _ rfl w.heap.size w _ _ _ 0 hO rfl rfl (by have := Hl.out; omega) ?_; intro v' w3 hO3)
          go_roundw
          case rel => exact ⟨k + 1, by omega, by go_num, by rw [R.out]; exact hO3⟩
          case measure => simp [intOf]; omega
      · obtain rfl : k = N := by omega
        have hkK := mt (hK k).1 (Nat.lt_irrefl k)
        go_wp2
        go_ret
        exact ⟨_, rfl, hO⟩

end Go.Proofs.Ytkdbkoogcndlgaa
