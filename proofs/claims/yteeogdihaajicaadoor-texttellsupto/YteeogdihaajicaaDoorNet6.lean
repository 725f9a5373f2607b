/- Whether two nets are the same, as the document itself asks it. -/
import Derived.Test.YteeogdihaajicaaDoorNet5
namespace Go.Proofs.YteeogdihaajicaaDoor
open Go.RowKit
set_option linter.unusedVariables false
set_option maxRecDepth 4000

def sameT (t u : TranL) : Bool := (t.label == u.label) && (t.pre == u.pre) && (t.post == u.post)
def sameTo (ts us : List TranL) (k : Nat) : Bool := (List.range k).all fun j => sameT (tranAt ts j) (tranAt us j)
def sameTs (ts us : List TranL) : Bool := (ts.length == us.length) && sameTo ts us ts.length
def sameN (n m : NetL) : Bool := (n.places == m.places) && sameTs n.trans m.trans

theorem sameTo_succ (ts us : List TranL) (k : Nat) : sameTo ts us (k + 1) = (sameTo ts us k && sameT (tranAt ts k) (tranAt us k)) := by
  unfold sameTo; rw [List.range_succ, List.all_append]; simp
theorem sameTo_false (ts us : List TranL) (n k : Nat) (h : k < n) (hf : sameT (tranAt ts k) (tranAt us k) = false) : sameTo ts us n = false := by
  unfold sameTo; rw [List.all_eq_false]; exact ⟨k, by simpa using h, by simp [hf]⟩


set_option maxHeartbeats 400000 in
theorem same1_any (t u : TranL) (c1 c2 d1 d2 : Value) (w : World) (h1 : Ints w c1 t.pre) (h2 : Ints w c2 t.post) (k1 : Ints w d1 u.pre) (k2 : Ints w d2 u.post) :
    Calls Tryd.prog 28 #[.agg #[.int .i64 t.label, c1, c2], .agg #[.int .i64 u.label, d1, d2]] w fun e w' => e = .returned (.bool (sameT t u)) ∧ Below w.heap.size w w' := by
  obtain ⟨a1, l1, p1, rfl, _, _, _, _⟩ := id h1
  obtain ⟨a2, l2, p2, rfl, _, _, _, _⟩ := id h2
  obtain ⟨a3, l3, p3, rfl, _, _, _, _⟩ := id k1
  obtain ⟨a4, l4, p4, rfl, _, _, _, _⟩ := id k2
  have b1 := below_new w (.cells #[.int .i64 t.label, .slice a1 l1 p1, .slice a2 l2 p2] 43)
  have b2 := below_new (w.alloc (.cells #[.int .i64 t.label, .slice a1 l1 p1, .slice a2 l2 p2] 43)) (.cells #[.int .i64 u.label, .slice a3 l3 p3, .slice a4 l4 p4] 43)
  have b3 := below_then b1 b2
  have x1 := (box3_new w (.int .i64 t.label) (.slice a1 l1 p1) (.slice a2 l2 p2) 43).below b2
  have x2 := box3_new (w.alloc (.cells #[.int .i64 t.label, .slice a1 l1 p1, .slice a2 l2 p2] 43)) (.int .i64 u.label) (.slice a3 l3 p3) (.slice a4 l4 p4) 43
  have h1' := h1.below b3
  have h2' := h2.below b3
  have k1' := k1.below b3
  have k2' := k2.below b3
  have E : Hid (sameT t u = ((t.label == u.label) && (t.pre == u.pre) && (t.post == u.post))) := rfl
  cases q1 : (t.label == u.label)
  · have F : Hid (sameT t u = false) := by show _ = _; rw [E.out, q1]; rfl
    go_enter Tryd.func28, Tryd.ntmps28
    go_wp2
    go_ret
    exact ⟨ret_bool F.out.symm, b3⟩
  · go_enter Tryd.func28, Tryd.ntmps28
    go_wp2_with fail
    refine (equal_b _ _ t.pre u.pre _ (by exact h1') (by exact k1')).mono ?_
    rintro e w2 ⟨rfl, b4⟩
    have h2'' := h2'.below b4
    have k2'' := k2'.below b4
    obtain ⟨y0, y1, y2, y3⟩ := x1.below b4
    obtain ⟨z0, z1, z2, z3⟩ := x2.below b4
    simp only [World.size_alloc] at z0 z1 z2 z3
    cases q2 : (t.pre == u.pre)
    · have F : Hid (sameT t u = false) := by show _ = _; rw [E.out, q1, q2]; rfl
      go_wp2
      go_ret
      exact ⟨ret_bool F.out.symm, below_then b3 b4⟩
    · go_wp2_with fail
      refine (equal_b _ _ t.post u.post _ (by exact h2'') (by exact k2'')).mono ?_
      rintro e w3 ⟨rfl, b5⟩
      have F : Hid (sameT t u = (t.post == u.post)) := by show _ = _; rw [E.out, q1, q2]; rfl
      go_wp2
      go_ret
      exact ⟨ret_bool F.out.symm, below_then b3 (below_then b4 b5)⟩

theorem Trans.get {w : World} {v : Value} {ts : List TranL} (h : Trans w v ts) : ∃ a len cap, v = .slice a len cap ∧ ts.length = len ∧ len ≤ 2513169434916 := by
  obtain ⟨a, len, cap, e, hl, hm, _, _⟩ := h; exact ⟨a, len, cap, e, hl, hm⟩

set_option maxHeartbeats 1000000 in
theorem equalfunc_any (v u : Value) (ts us : List TranL) (w : World) (hv : Trans w v ts) (hu : Trans w u us) :
    Calls Tryd.prog 27 #[v, u, .func (.func 28) #[] #[]] w fun e w' => e = .returned (.bool (sameTs ts us)) ∧ Below w.heap.size w w' := by
  obtain ⟨a, la, ca, rfl, hla, hma⟩ := hv.get
  obtain ⟨b, lb, cb, rfl, hlb, hmb⟩ := hu.get
  have HE : Hid (sameTs ts us = ((la == lb) && sameTo ts us la)) := by show _ = _; unfold sameTs; rw [hla, hlb]
  by_cases hl : la = lb
  · subst hl
    have e1 : (((la : Nat) : Int) != (la : Int)) = false := by simp
    go_enter Tryd.func27, Tryd.ntmps27
    go_wp2_with fail
    go_loopg [17] la (fun g i wr => ∃ k : Nat, k + g = la ∧ i = .int .i64 k ∧ Hid (sameTo ts us k = true) ∧ Below w.heap.size w wr)
    case atStart => exact ⟨0, by omega, rfl, rfl, Below.refl _ _⟩
    case round =>
      obtain ⟨k, hkg, rfl, Hs, hb⟩ := hrel
      by_cases hkn : k < la
      · obtain ⟨b1, o1, c1, c2, rfl, hblt, h0, h1, h2, i1, i2⟩ := (hv.below hb).at hkn
        obtain ⟨b2, o2, d1, d2, rfl, hblt', g0, g1, g2, j1, j2⟩ := (hu.below hb).at hkn
        obtain ⟨a1, l1, p1, rfl, _, _, _, _⟩ := id i1
        obtain ⟨a2, l2, p2, rfl, _, _, _, _⟩ := id i2
        obtain ⟨a3, l3, p3, rfl, _, _, _, _⟩ := id j1
        obtain ⟨a4, l4, p4, rfl, _, _, _, _⟩ := id j2
        have hsu : Hid _ := sameTo_succ ts us k
        have hsf : Hid _ := sameTo_false ts us la k hkn
        have m1 := below_new wr (.cells #[.int .i64 (tranAt ts k).label, .slice a1 l1 p1, .slice a2 l2 p2] 43)
        have m2 := below_new (wr.alloc (.cells #[.int .i64 (tranAt ts k).label, .slice a1 l1 p1, .slice a2 l2 p2] 43)) (.cells #[.int .i64 (tranAt us k).label, .slice a3 l3 p3, .slice a4 l4 p4] 43)
        have m3 := below_then m1 m2
        generalize tranAt ts k = t at *
        generalize tranAt us k = s at *
        go_wp2_with fail
        refine (same1_any t s _ _ _ _ _ (by exact i1.below m3) (by exact i2.below m3) (by exact j1.below m3) (by exact j2.below m3)).mono ?_
        rintro e w2 ⟨rfl, b4⟩
        have b5 := below_then hb (below_then m3 b4)
        clear m1 m2 m3 b4 i1 i2 j1 j2 h0 h1 h2 g0 g1 g2
        cases hq : sameT t s
        · have F : Hid (sameTs ts us = false) := by show _ = _; rw [HE.out, hsf.out hq]; simp
          clear hq
          go_wp2
          go_ret
          exact ⟨ret_bool F.out.symm, b5⟩
        · have F : Hid (sameTo ts us (k + 1) = true) := by show _ = _; rw [hsu.out, Hs.out, hq]; rfl
          clear hq
          go_wp2
          go_roundg (gk - 1)
          case measure => omega
          case rel => exact ⟨k + 1, by omega, by go_num, F, b5⟩
      · have hk : k = la := by omega
        have F : Hid (sameTs ts us = true) := by show _ = _; rw [HE.out, ← hk, Hs.out]; simp
        go_wp2
        go_ret
        exact ⟨ret_bool F.out.symm, hb⟩
  · have e1 : (((la : Nat) : Int) != (lb : Int)) = true := by simp; omega
    have F : Hid (sameTs ts us = false) := by show _ = _; rw [HE.out, beq_eq_false_iff_ne.2 hl]; rfl
    go_enter Tryd.func27, Tryd.ntmps27
    go_wp2
    go_ret
    exact ⟨ret_bool F.out.symm, Below.refl _ _⟩

set_option maxHeartbeats 400000 in
theorem samenet_any (v u : Value) (n m : NetL) (w : World) (hv : Net w v n) (hu : Net w u m) :
    Calls Tryd.prog 11 #[v, u] w fun e w' => e = .returned (.bool (sameN n m)) ∧ Below w.heap.size w w' := by
  obtain ⟨tv, rfl, hT⟩ := hv
  obtain ⟨tu, rfl, hU⟩ := hu
  obtain ⟨a, la, ca, rfl, hla, hma⟩ := hT.get
  obtain ⟨b, lb, cb, rfl, hlb, hmb⟩ := hU.get
  have b1 := below_new w (.cells #[.int .i64 n.places, .slice a la ca] 24)
  have b2 := below_new (w.alloc (.cells #[.int .i64 n.places, .slice a la ca] 24)) (.cells #[.int .i64 m.places, .slice b lb cb] 24)
  have b3 := below_then b1 b2
  cases q1 : (n.places == m.places)
  · have F : Hid (sameN n m = false) := by show _ = _; unfold sameN; rw [q1]; rfl
    go_enter Tryd.func11, Tryd.ntmps11
    go_wp2
    go_ret
    exact ⟨ret_bool F.out.symm, b3⟩
  · have F : Hid (sameN n m = sameTs n.trans m.trans) := by show _ = _; unfold sameN; rw [q1]; rfl
    go_enter Tryd.func11, Tryd.ntmps11
    go_wp2_with fail
    refine (equalfunc_any _ _ _ _ _ (by exact hT.below b3) (by exact hU.below b3)).mono ?_
    rintro e w2 ⟨rfl, b4⟩
    go_wp2
    go_ret
    exact ⟨ret_bool F.out.symm, below_then b3 b4⟩

end Go.Proofs.YteeogdihaajicaaDoor
