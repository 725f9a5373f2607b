import Derived.Test.YtgedpebnipghlaaGrowDev6
import Derived.Test.YtgedpebnipghlaaBlocksDev1
import Derived.Defers
import Derived.Recover
import Derived.Laws.Pointers
import Derived.Test.YtgedpebnipghlaaGr05
/- Package grow as it landed: Grow. -/
namespace Go.Proofs.Ytgedpebnipghlaa
open Go.RowKit
set_option linter.unusedVariables false
set_option linter.unusedSimpArgs false
set_option maxRecDepth 4000

theorem catch_idle (p q : Addr) (w : World) :
    CallsD Try.prog 42 #[.pointer (some p), .pointer (some q)] .returning w fun e u' w' => e = .returned (.tuple #[]) ∧ u' = .returning ∧ w' = w := by
  refine callsD_of_wpS Try.func42 rfl fun c₀ cs hu => ?_
  apply wpS_seq
  apply wpS_region
  simp [wpOpsS, go_sem, recoverD, hu, Try.ntmps42, Exit.thenS]
  refine wpS_of_wp ?_
  simp only [Array.replicate, List.replicate, List.toArray_replicate]
  go_wp2
  cases c₀
  simp_all [bodyPostS, results, Try.results42]

theorem catch_full (p q : Nat) (x y z : Value) (older : List PanicEntry) (w : World) (hp0 : w.cell? ⟨p, 0, none⟩ = some x) (hp1 : w.cell? ⟨p, 1, none⟩ = some y) (hq : w.cell? ⟨q, 0, none⟩ = some z) (fp0 : w.frozen? ⟨p, 0, none⟩ = false) (fp1 : w.frozen? ⟨p, 1, none⟩ = false) (fq : w.frozen? ⟨q, 0, none⟩ = false) (hp : p < w.heap.size) (hql : q < w.heap.size) (hne : ¬ p = q) :
    CallsD Try.prog 42 #[.pointer (some ⟨p, 0, none⟩), .pointer (some ⟨q, 0, none⟩)] (.panicking ({ v := .iface 65 (.agg #[]), recovered := false } :: older)) w fun e u' w' => e = .returned (.tuple #[]) ∧ u' = .panicking ({ v := .iface 65 (.agg #[]), recovered := true } :: older) ∧ w' = (((w.setCell ⟨p, 0, none⟩ (.int .i64 0)).setCell ⟨p, 1, none⟩ (.slice none 0 0)).setCell ⟨q, 0, none⟩ (.int .i64 4)).alloc (.cells #[] 65) := by
  have hta : ∀ w, (Instr.typeAssert (.iface 65 (.agg #[])) 20 65 true).run Try.prog w = .ok (.tuple #[.agg #[], .bool true]) w := fun w => by kernel_rfl
  refine callsD_of_wpS Try.func42 rfl fun c₀ cs hu => ?_
  apply wpS_seq
  apply wpS_region
  simp [wpOpsS, go_sem, recoverD, hu, Try.ntmps42, Exit.thenS]
  refine wpS_of_wp ?_
  simp only [Array.replicate, List.replicate, List.toArray_replicate]
  go_wp2
  simp [bodyPostS, results, Try.results42]

/-- What Grow answers. -/
def growL (b : BlockL) : NetL × Int := if wrongB b ≠ 0 then (⟨0, []⟩, wrongB b) else if (grownB b).places ≤ 16 ∧ (grownB b).links.length ≤ 24 then (netG (grownB b), 0) else (⟨0, []⟩, 4)

theorem net_zero (w : World) : Net w (.agg #[.int .i64 0, .slice none 0 0]) ⟨0, []⟩ := ⟨_, rfl, none, 0, 0, rfl, rfl, by omega, ⟨by omega, by omega, fun _ => rfl⟩, fun j hj => absurd hj (by simp)⟩

/-- Three new variables. -/
theorem three_new (w W : World) (x0 x1 x2 : Value) (t1 t2 t3 : TypeId) (h : ((w.alloc (.cells #[x0, x1, x2] t1)).alloc (.cells #[.int .i64 0, .slice none 0 0] t2)).alloc (.cells #[.int .i64 0] t3) = W) :
    Below w.heap.size w W ∧ Box3 W w.heap.size x0 x1 x2 ∧ W.heap[w.heap.size + 1]? = some (.cells #[.int .i64 0, .slice none 0 0] t2 (0, 0)) ∧ W.heap[w.heap.size + 1 + 1]? = some (.cells #[.int .i64 0] t3 (0, 0)) ∧ W.heap.size = w.heap.size + 1 + 1 + 1 := by
  have b1 := below_new w (.cells #[x0, x1, x2] t1)
  have b2 := below_new (w.alloc (.cells #[x0, x1, x2] t1)) (.cells #[.int .i64 0, .slice none 0 0] t2)
  have b3 := below_new ((w.alloc (.cells #[x0, x1, x2] t1)).alloc (.cells #[.int .i64 0, .slice none 0 0] t2)) (.cells #[.int .i64 0] t3)
  have e1 : (w.alloc (.cells #[x0, x1, x2] t1)).heap.size = w.heap.size + 1 := by simp
  have e2 : ((w.alloc (.cells #[x0, x1, x2] t1)).alloc (.cells #[.int .i64 0, .slice none 0 0] t2)).heap.size = w.heap.size + 1 + 1 := by simp
  have h1 := ((box3_new w x0 x1 x2 t1).below b2).below b3
  have h2 := heap_alloc_at (w.alloc (.cells #[x0, x1, x2] t1)) (.cells #[.int .i64 0, .slice none 0 0] t2)
  have h3 := heap_alloc_at ((w.alloc (.cells #[x0, x1, x2] t1)).alloc (.cells #[.int .i64 0, .slice none 0 0] t2)) (.cells #[.int .i64 0] t3)
  rw [← b3.block _ (by simp), e1] at h2
  rw [e2] at h3
  subst h
  exact ⟨below_then b1 (below_then b2 b3), h1, h2, h3, by simp⟩

set_option maxHeartbeats 2000000 in
theorem grow_grow (v : Value) (b : BlockL) (w : World) (hv : BlockV w v b) :
    Calls Try.prog 22 #[v] w fun e w' => ∃ r, e = .returned (.tuple #[r, .int .i64 (growL b).2]) ∧ Net w' r (growL b).1 ∧ Below w.heap.size w w' := by
  obtain ⟨a, len, cap, e0⟩ : ∃ a l c, v = .agg #[.int .i64 b.kind, .int .i64 b.label, .slice a l c] := by obtain ⟨kv, e, hK⟩ := blockV_iff.1 hv; obtain ⟨a, c, e2, _⟩ := hK.slice; exact ⟨a, _, c, by rw [e, e2]⟩
  subst e0
  have hmf : ∀ (fn : Fn) (first cap : Array Value) (w : World), (Instr.makeFunc fn first cap).run Try.prog w = .ok (.func fn first cap) w := fun _ _ _ _ => rfl
  obtain ⟨W1, HW1⟩ : ∃ W1, Hid (((w.alloc (.cells #[.int .i64 b.kind, .int .i64 b.label, .slice a len cap] 48)).alloc (.cells #[.int .i64 0, .slice none 0 0] 24)).alloc (.cells #[.int .i64 0] 31) = W1) := ⟨_, rfl⟩
  obtain ⟨c, hbx, hnn, hee, hsz⟩ := three_new _ _ _ _ _ _ _ _ HW1.out
  have Hsz : Hid _ := hsz
  clear hsz
  have hv1 := hv.below c
  obtain ⟨x0, x1, x2, x3⟩ := id hbx
  go_enter_defers Try.func22, Try.ntmps22
  go_upto_region 1 with fail
  rw [HW1.out]
  clear HW1
  go_wp2_with fail
  refine (blocks_wrong _ b _ (by exact hv1)).mono ?_
  rintro e w2 ⟨rfl, b2⟩
  have hbx2 := hbx.below b2
  have hnn2 : w2.heap[w.heap.size + 1]? = some (.cells #[.int .i64 0, .slice none 0 0] 24 (0, 0)) := by rw [b2.block _ (by have := Hsz.out; omega)]; exact hnn
  have hee2 : w2.heap[w.heap.size + 1 + 1]? = some (.cells #[.int .i64 0] 31 (0, 0)) := by rw [b2.block _ (by have := Hsz.out; omega)]; exact hee
  have c2 := below_then c b2
  obtain ⟨E, HE⟩ : ∃ E, Hid (wrongB b = E) := ⟨_, rfl⟩
  rw [HE.out]
  clear x0 x1 x2 x3 hbx hnn hee b2 c
  obtain ⟨y0, y1⟩ := box_cell hee2
  have O3 := OnlyB.set (w.heap.size + 1 + 1) 0 w2 (.int .i64 E)
  have hee3 := setBox (u := .int .i64 E) hee2
  have hnn3 := (O3.block (w.heap.size + 1) (Array.getElem?_eq_some_iff.1 hnn2).1 (by omega)).trans hnn2
  have c3 : Below w.heap.size w (w2.setCell ⟨w.heap.size + 1 + 1, 0, none⟩ (.int .i64 E)) := c2.setCell (p := ⟨w.heap.size + 1 + 1, 0, none⟩) (by simp; omega) _
  have hbx3 : Box3 (w2.setCell ⟨w.heap.size + 1 + 1, 0, none⟩ (.int .i64 E)) w.heap.size (.int .i64 b.kind) (.int .i64 b.label) (.slice a len cap) := ⟨Nat.lt_of_lt_of_le hbx2.1 O3.size, O3.cell (by omega) hbx2.2.1, O3.cell (by omega) hbx2.2.2.1, O3.cell (by omega) hbx2.2.2.2⟩
  obtain ⟨w3, Hw3⟩ : ∃ w3, Hid (w2.setCell ⟨w.heap.size + 1 + 1, 0, none⟩ (.int .i64 E) = w3) := ⟨_, rfl⟩
  rw [Hw3.out] at hee3 hnn3 c3 hbx3
  go_upto_region 2 with fail
  rw [Hw3.out]
  clear Hw3 y0 y1 O3 hee2 hnn2 hbx2 c2
  obtain ⟨y0, y1⟩ := box_cell hee3
  by_cases he : E = 0
  · subst he
    have hR : RightB b := wrong_zero.1 HE.out
    have hv3 := hv.below c3
    have hG : GrowAt w3.heap.size w3.heap.size w3 (w3.alloc (.cells #[.int .i64 2, .slice none 0 0] 69)) ⟨2, []⟩ (.slice none 0 0) [] [] :=
      ⟨World.ownsRow_nil _ _ _ _, heap_alloc_at _ _, below_new _ _, Nat.le_refl _, by simp [Value.ownBlock], rfl, rfl, fun j hj => absurd hj (Nat.not_lt_zero _)⟩
    have bx4 := hbx3.below (below_new w3 (.cells #[.int .i64 2, .slice none 0 0] 69))
    obtain ⟨w4, Hw4⟩ : ∃ w4, Hid (w3.alloc (.cells #[.int .i64 2, .slice none 0 0] 69) = w4) := ⟨_, rfl⟩
    rw [Hw4.out] at hG bx4
    have hcall := block_any (x := w3.heap.size) (Nat.le_refl w3.heap.size) 41 b hR.1 hR.fit _ 0 1 ⟨2, []⟩ _ _ _ w4 hv3 hG ⟨by simp, by simp⟩
    rw [show ((0 : Nat) : Int) = 0 from rfl, show ((1 : Nat) : Int) = 1 from rfl] at hcall
    have Hcall : Hid (Calls Try.prog 43 #[.pointer (some ⟨w3.heap.size, 0, none⟩), .agg #[.int .i64 b.kind, .int .i64 b.label, .slice a len cap], .int .i64 0, .int .i64 1] w4 (Grew w3.heap.size w3.heap.size w3 w4 (.slice none 0 0) (grownB b) (.tuple #[]))) := hcall
    have HR : Hid _ := hR
    clear hcall hR
    have nlt : w.heap.size + 1 < w3.heap.size := (Array.getElem?_eq_some_iff.1 hnn3).1
    have elt : w.heap.size + 1 + 1 < w3.heap.size := (Array.getElem?_eq_some_iff.1 hee3).1
    go_upto_region 6 with fail
    rw [Hw4.out]
    clear Hw4
    obtain ⟨x0, x1, x2, x3⟩ := bx4
    go_wp2_with fail
    refine Hcall.out.mono ?_
    rintro e w5 (⟨hf5, rfl, lv5, us5, vs5, hG5, hK5⟩ | ⟨hf5, rfl, hb5⟩)
    · obtain ⟨St, hOne⟩ := grown_one HR.out hf5
      have hb5 := hG5.below
      have hnn5 : w5.heap[w.heap.size + 1]? = some (.cells #[.int .i64 0, .slice none 0 0] 24 (0, 0)) := by rw [hb5.block _ nlt]; exact hnn3
      have hee5 : w5.heap[w.heap.size + 1 + 1]? = some (.cells #[.int .i64 0] 31 (0, 0)) := by rw [hb5.block _ elt]; exact hee3
      have R : Hid (growL b = (netG (grownB b), 0)) := by show _ = _; unfold growL; rw [HE.out, if_neg (by simp), if_pos (show _ ∧ _ from hf5)]
      have c5 := below_then c3 hb5
      have s5 : w3.heap.size ≤ w5.heap.size := hb5.size
      have Hin : Hid _ := hOne.ins
      clear x0 x1 x2 x3 hG hbx3 hnn3 hee3 y0 y1 hb5 c3 Hcall hOne hK5
      go_wp2_with fail
      refine (whole_any hG5 hf5 Hin.out).mono ?_
      rintro e w6 ⟨a6, cp6, rfl, hT6, b6⟩
      have hnn6 : w6.heap[w.heap.size + 1]? = some (.cells #[.int .i64 0, .slice none 0 0] 24 (0, 0)) := by rw [b6.block _ (Array.getElem?_eq_some_iff.1 hnn5).1]; exact hnn5
      have hee6 : w6.heap[w.heap.size + 1 + 1]? = some (.cells #[.int .i64 0] 31 (0, 0)) := by rw [b6.block _ (Array.getElem?_eq_some_iff.1 hee5).1]; exact hee5
      have c6 := below_then c5 b6
      have n0 : w6.cell? ⟨w.heap.size + 1, 0, none⟩ = some (.int .i64 0) := by simp [World.cell?, hnn6]
      have n1 : w6.cell? ⟨w.heap.size + 1, 1, none⟩ = some (.slice none 0 0) := by simp [World.cell?, hnn6]
      have g0 : w6.frozen? ⟨w.heap.size + 1, 0, none⟩ = false := by simp [World.frozen?, hnn6]
      have g1 : w6.frozen? ⟨w.heap.size + 1, 1, none⟩ = false := by simp [World.frozen?, hnn6]
      obtain ⟨m0, m1⟩ := box_cell hee6
      have HT6 : Hid (On (fun k => w5.heap.size < k) w6 (fun w'' => Trans w'' (.slice a6 (grownB b).links.length cp6) (netG (grownB b)).trans)) := hT6
      obtain ⟨n, Hn⟩ : ∃ n, Hid ((grownB b).places = n) := ⟨_, rfl⟩
      obtain ⟨ln, Hln⟩ : ∃ ln, Hid ((grownB b).links.length = ln) := ⟨_, rfl⟩
      rw [Hln.out] at HT6
      rw [Hn.out, Hln.out]
      clear hT6 b6 c5 hG5
      go_wp2
      obtain ⟨wq, Hwq⟩ : ∃ wq, Hid (((w6.setCell ⟨w.heap.size + 1, 0, none⟩ (.int .i64 (n : Int))).setCell ⟨w.heap.size + 1, 1, none⟩ (.slice a6 ln cp6)).setCell ⟨w.heap.size + 1 + 1, 0, none⟩ (.int .i64 0) = wq) := ⟨_, rfl⟩
      have q0 : wq.cell? ⟨w.heap.size + 1, 0, none⟩ = some (.int .i64 (n : Int)) := by
        rw [← Hwq.out, World.cell?_setCell_other _ _ _ _ (by simp), World.cell?_setCell_other _ _ _ _ (by simp)]
        exact World.cell?_setCell_same _ _ _ n0
      have q1 : wq.cell? ⟨w.heap.size + 1, 1, none⟩ = some (.slice a6 ln cp6) := by
        rw [← Hwq.out, World.cell?_setCell_other _ _ _ _ (by simp)]
        exact World.cell?_setCell_same' _ _ _ (by rw [World.cell?_setCell_other _ _ _ _ (by simp), n1]; rfl)
      have q2 : wq.cell? ⟨w.heap.size + 1 + 1, 0, none⟩ = some (.int .i64 0) := by
        rw [← Hwq.out]
        exact World.cell?_setCell_same' _ _ _ (by rw [World.cell?_setCell_other _ _ _ _ (by simp), World.cell?_setCell_other _ _ _ _ (by simp), m0]; rfl)
      have cq : Below w.heap.size w wq := by
        rw [← Hwq.out]
        exact ((c6.setCell (p := ⟨w.heap.size + 1, 0, none⟩) (by simp) _).setCell (p := ⟨w.heap.size + 1, 1, none⟩) (by simp) _).setCell (p := ⟨w.heap.size + 1 + 1, 0, none⟩) (by simp; omega) _
      have hTq : Trans wq (.slice a6 ln cp6) (netG (grownB b)).trans := by
        rw [← Hwq.out]
        exact (((HT6.out.set (a := ⟨w.heap.size + 1, 0, none⟩) (by simp; omega) _).set (a := ⟨w.heap.size + 1, 1, none⟩) (by simp; omega) _).set (a := ⟨w.heap.size + 1 + 1, 0, none⟩) (by simp; omega) _).now
      rw [Hwq.out]
      clear Hwq n0 n1 m0 m1 g0 g1 hnn6 hee6 HT6 c6
      refine leaves_cons (f := 42) (args := #[.pointer (some ⟨w.heap.size + 1, 0, none⟩), .pointer (some ⟨w.heap.size + 1 + 1, 0, none⟩)]) (by simp) (by simp [go_sem]) ?_
      refine (catch_idle ⟨w.heap.size + 1, 0, none⟩ ⟨w.heap.size + 1 + 1, 0, none⟩ wq).mono ?_
      rintro e u' w7 ⟨rfl, rfl, rfl⟩
      rw [R.out]
      refine ⟨.tuple #[.agg #[.int .i64 (n : Int), .slice a6 ln cp6], .int .i64 0], ?_, _, rfl, ⟨_, by show _ = Value.agg #[.int .i64 ((grownB b).places : Int), _]; rw [Hn.out], hTq⟩, cq⟩
      simp [results, Try.results22, go_sem, q0, q1, q2]
    · have hnn5 : w5.heap[w.heap.size + 1]? = some (.cells #[.int .i64 0, .slice none 0 0] 24 (0, 0)) := by rw [hb5.block _ nlt]; exact hnn3
      have hee5 : w5.heap[w.heap.size + 1 + 1]? = some (.cells #[.int .i64 0] 31 (0, 0)) := by rw [hb5.block _ elt]; exact hee3
      have R : Hid (growL b = (⟨0, []⟩, 4)) := by show _ = _; unfold growL; rw [HE.out, if_neg (by simp), if_neg (show ¬ (_ ∧ _) from hf5)]
      have c5 := below_then c3 hb5
      clear x0 x1 x2 x3 hG hbx3 hnn3 hee3 y0 y1 hb5 c3 Hcall
      have n0 : w5.cell? ⟨w.heap.size + 1, 0, none⟩ = some (.int .i64 0) := by simp [World.cell?, hnn5]
      have n1 : w5.cell? ⟨w.heap.size + 1, 1, none⟩ = some (.slice none 0 0) := by simp [World.cell?, hnn5]
      have g0 : w5.frozen? ⟨w.heap.size + 1, 0, none⟩ = false := by simp [World.frozen?, hnn5]
      have g1 : w5.frozen? ⟨w.heap.size + 1, 1, none⟩ = false := by simp [World.frozen?, hnn5]
      obtain ⟨m0, m1⟩ := box_cell hee5
      go_wp2
      have hl5 := (Array.getElem?_eq_some_iff.1 hnn5).1
      have he5 := (Array.getElem?_eq_some_iff.1 hee5).1
      refine leaves_cons (f := 42) (args := #[.pointer (some ⟨w.heap.size + 1, 0, none⟩), .pointer (some ⟨w.heap.size + 1 + 1, 0, none⟩)]) (by simp) (by simp [go_sem]) ?_
      refine (catch_full (w.heap.size + 1) (w.heap.size + 1 + 1) _ _ _ [] w5 n0 n1 m0 g0 g1 m1 hl5 he5 (by omega)).mono ?_
      rintro e u' w6 ⟨rfl, rfl, Hw6⟩
      obtain ⟨wq, Hwq⟩ : ∃ wq, Hid (((w5.setCell ⟨w.heap.size + 1, 0, none⟩ (.int .i64 0)).setCell ⟨w.heap.size + 1, 1, none⟩ (.slice none 0 0)).setCell ⟨w.heap.size + 1 + 1, 0, none⟩ (.int .i64 4) = wq) := ⟨_, rfl⟩
      have q0 : wq.cell? ⟨w.heap.size + 1, 0, none⟩ = some (.int .i64 0) := by
        rw [← Hwq.out, World.cell?_setCell_other _ _ _ _ (by simp), World.cell?_setCell_other _ _ _ _ (by simp)]
        exact World.cell?_setCell_same _ _ _ n0
      have q1 : wq.cell? ⟨w.heap.size + 1, 1, none⟩ = some (.slice none 0 0) := by
        rw [← Hwq.out, World.cell?_setCell_other _ _ _ _ (by simp)]
        exact World.cell?_setCell_same' _ _ _ (by rw [World.cell?_setCell_other _ _ _ _ (by simp), n1]; rfl)
      have q2 : wq.cell? ⟨w.heap.size + 1 + 1, 0, none⟩ = some (.int .i64 4) := by
        rw [← Hwq.out]
        exact World.cell?_setCell_same' _ _ _ (by rw [World.cell?_setCell_other _ _ _ _ (by simp), World.cell?_setCell_other _ _ _ _ (by simp), m0]; rfl)
      have cq : Below w.heap.size w wq := by
        rw [← Hwq.out]
        exact ((c5.setCell (p := ⟨w.heap.size + 1, 0, none⟩) (by simp) _).setCell (p := ⟨w.heap.size + 1, 1, none⟩) (by simp) _).setCell (p := ⟨w.heap.size + 1 + 1, 0, none⟩) (by simp; omega) _
      rw [Hwq.out] at Hw6
      have b6 := below_new wq (.cells #[] 65)
      have k0 : w6.cell? ⟨w.heap.size + 1, 0, none⟩ = some (.int .i64 0) := by rw [Hw6, b6.cell (p := ⟨w.heap.size + 1, 0, none⟩) (cell_lt0 q0)]; exact q0
      have k1 : w6.cell? ⟨w.heap.size + 1, 1, none⟩ = some (.slice none 0 0) := by rw [Hw6, b6.cell (p := ⟨w.heap.size + 1, 1, none⟩) (cell_lt0 q1)]; exact q1
      have k2 : w6.cell? ⟨w.heap.size + 1 + 1, 0, none⟩ = some (.int .i64 4) := by rw [Hw6, b6.cell (p := ⟨w.heap.size + 1 + 1, 0, none⟩) (cell_lt0 q2)]; exact q2
      have c6 : Below w.heap.size w w6 := by rw [Hw6]; exact below_then cq b6
      clear Hw6 b6 q0 q1 q2 cq n0 n1 m0 m1 g0 g1 hnn5 hee5
      rw [R.out]
      refine ⟨.tuple #[.agg #[.int .i64 0, .slice none 0 0], .int .i64 4], ?_, _, rfl, net_zero w6, c6⟩
      simp [results, Try.results22, go_sem, k0, k1, k2]
  · have he' : (E != 0) = true := by simpa using he
    have R : Hid (growL b = (⟨0, []⟩, E)) := by show _ = _; unfold growL; rw [HE.out, if_pos he]
    have n0 : w3.cell? ⟨w.heap.size + 1, 0, none⟩ = some (.int .i64 0) := by simp [World.cell?, hnn3]
    have n1 : w3.cell? ⟨w.heap.size + 1, 1, none⟩ = some (.slice none 0 0) := by simp [World.cell?, hnn3]
    have g0 : w3.frozen? ⟨w.heap.size + 1, 0, none⟩ = false := by simp [World.frozen?, hnn3]
    have g1 : w3.frozen? ⟨w.heap.size + 1, 1, none⟩ = false := by simp [World.frozen?, hnn3]
    go_upto_region 3 with fail
    have HS : Hid ((((w3.setCell ⟨w.heap.size + 1, 0, none⟩ (.int .i64 0)).setCell ⟨w.heap.size + 1, 1, none⟩ (.slice none 0 0)).setCell ⟨w.heap.size + 1 + 1, 0, none⟩ (.int .i64 E)).drew.cell? ⟨w.heap.size + 1 + 1, 0, none⟩ = some (.int .i64 E)) := by
      have q : ((w3.setCell ⟨w.heap.size + 1, 0, none⟩ (.int .i64 0)).setCell ⟨w.heap.size + 1, 1, none⟩ (.slice none 0 0)).cell? ⟨w.heap.size + 1 + 1, 0, none⟩ = some (.int .i64 E) := by
        rw [World.cell?_setCell_other _ _ _ _ (by simp), World.cell?_setCell_other _ _ _ _ (by simp)]; exact y0
      have := World.cell?_setCell_same' _ ⟨w.heap.size + 1 + 1, 0, none⟩ (.int .i64 E) (by rw [q]; rfl)
      show _ = _
      simpa using this
    go_region_held3 (fun w' => w'.cell? ⟨w.heap.size + 1 + 1, 0, none⟩ = some (.int .i64 E)) (first | exact HS.out | go_keep) (fail)
    all_goals
      go_wp2
      have z0 : (((w3.setCell ⟨w.heap.size + 1, 0, none⟩ (.int .i64 0)).setCell ⟨w.heap.size + 1, 1, none⟩ (.slice none 0 0)).setCell ⟨w.heap.size + 1 + 1, 0, none⟩ (.int .i64 E)).drew.cell? ⟨w.heap.size + 1, 0, none⟩ = some (.int .i64 0) := by
        have q : (((w3.setCell ⟨w.heap.size + 1, 0, none⟩ (.int .i64 0)).setCell ⟨w.heap.size + 1, 1, none⟩ (.slice none 0 0)).setCell ⟨w.heap.size + 1 + 1, 0, none⟩ (.int .i64 E)).cell? ⟨w.heap.size + 1, 0, none⟩ = some (.int .i64 0) := by
          rw [World.cell?_setCell_other _ _ _ _ (by simp), World.cell?_setCell_other _ _ _ _ (by simp)]
          exact World.cell?_setCell_same _ _ _ n0
        simpa using q
      have z1 : (((w3.setCell ⟨w.heap.size + 1, 0, none⟩ (.int .i64 0)).setCell ⟨w.heap.size + 1, 1, none⟩ (.slice none 0 0)).setCell ⟨w.heap.size + 1 + 1, 0, none⟩ (.int .i64 E)).drew.cell? ⟨w.heap.size + 1, 1, none⟩ = some (.slice none 0 0) := by
        have q : (((w3.setCell ⟨w.heap.size + 1, 0, none⟩ (.int .i64 0)).setCell ⟨w.heap.size + 1, 1, none⟩ (.slice none 0 0)).setCell ⟨w.heap.size + 1 + 1, 0, none⟩ (.int .i64 E)).cell? ⟨w.heap.size + 1, 1, none⟩ = some (.slice none 0 0) := by
          rw [World.cell?_setCell_other _ _ _ _ (by simp)]
          exact World.cell?_setCell_same' _ _ _ (by rw [World.cell?_setCell_other _ _ _ _ (by simp), n1]; rfl)
        simpa using q
      have z2 := HS.out
      have cf : Below w.heap.size w (((w3.setCell ⟨w.heap.size + 1, 0, none⟩ (.int .i64 0)).setCell ⟨w.heap.size + 1, 1, none⟩ (.slice none 0 0)).setCell ⟨w.heap.size + 1 + 1, 0, none⟩ (.int .i64 E)).drew :=
        (((c3.setCell (p := ⟨w.heap.size + 1, 0, none⟩) (by simp) _).setCell (p := ⟨w.heap.size + 1, 1, none⟩) (by simp) _).setCell (p := ⟨w.heap.size + 1 + 1, 0, none⟩) (by simp; omega) _).drew
      obtain ⟨wf, Hwf⟩ : ∃ wf, Hid ((((w3.setCell ⟨w.heap.size + 1, 0, none⟩ (.int .i64 0)).setCell ⟨w.heap.size + 1, 1, none⟩ (.slice none 0 0)).setCell ⟨w.heap.size + 1 + 1, 0, none⟩ (.int .i64 E)).drew = wf) := ⟨_, rfl⟩
      rw [Hwf.out] at z0 z1 z2 cf ⊢
      rw [R.out]
      refine ⟨.tuple #[.agg #[.int .i64 0, .slice none 0 0], .int .i64 E], ?_, _, rfl, net_zero wf, cf⟩
      simp [results, Try.results22, go_sem, z0, z1, z2]

end Go.Proofs.Ytgedpebnipghlaa

/- Blocks that the laws make; the small trial of package grow that they make first: it answers true. -/
namespace Go.Proofs.Ytgedpebnipghlaa
open Go.RowKit
set_option linter.unusedVariables false
set_option linter.unusedSimpArgs false
set_option maxRecDepth 4000

theorem kids_nil (w : World) : KidsV w (.slice none 0 0) [] := ⟨none, 0, 0, rfl, rfl, by omega, ⟨by omega, by omega, fun _ => rfl⟩, fun j hj => absurd hj (by simp)⟩
theorem block_of {w : World} {kv : Value} {k l : Int} {ks : List BlockL} (h : KidsV w kv ks) : BlockV w (.agg #[.int .i64 k, .int .i64 l, kv]) ⟨k, l, ks⟩ := blockV_iff.2 ⟨kv, rfl, h⟩
def stepL (n : Int) : BlockL := ⟨2, n, []⟩
def manyL (k : Int) (l : List BlockL) : BlockL := ⟨k, 0, l⟩
abbrev stepV (n : Int) : Value := .agg #[.int .i64 2, .int .i64 n, .slice none 0 0]
theorem step_read (w : World) (n : Int) : BlockV w (stepV n) (stepL n) := block_of (kids_nil w)

/-- Two kids that lie in a new block. -/
theorem kids_two (w : World) (b : Nat) (x y : BlockL) (xv yv : Value) (t : TypeId) (hx : BlockV w (.agg #[.int .i64 x.kind, .int .i64 x.label, xv]) x) (hy : BlockV w (.agg #[.int .i64 y.kind, .int .i64 y.label, yv]) y) (hb : b = w.heap.size) :
    KidsV (w.alloc (.cells #[.int .i64 x.kind, .int .i64 x.label, xv, .int .i64 y.kind, .int .i64 y.label, yv] t)) (.slice (some ⟨b, 0, none⟩) 2 2) [x, y] := by
  subst hb
  have hn := below_new w (.cells #[.int .i64 x.kind, .int .i64 x.label, xv, .int .i64 y.kind, .int .i64 y.label, yv] t)
  refine ⟨_, _, _, rfl, rfl, by omega, ⟨by omega, by omega, fun h => by cases h⟩, fun j hj => ?_⟩
  match j, hj with
  | 0, _ => exact ⟨w.heap.size, 0, _, _, _, rfl, by simp, by rw [World.cell?_alloc_at _ _ _ _ rfl]; rfl, by rw [World.cell?_alloc_at _ _ _ _ rfl]; rfl, by rw [World.cell?_alloc_at _ _ _ _ rfl]; rfl, hx.below hn⟩
  | 1, _ => exact ⟨w.heap.size, 0, _, _, _, rfl, by simp, by rw [World.cell?_alloc_at _ _ _ _ rfl]; rfl, by rw [World.cell?_alloc_at _ _ _ _ rfl]; rfl, by rw [World.cell?_alloc_at _ _ _ _ rfl]; rfl, hy.below hn⟩
  | j + 2, h => simp at h; omega

theorem grown11 : growL (manyL 3 [stepL 4, stepL 5]) = (⟨3, [⟨4, [1, 0, 0], [0, 0, 1]⟩, ⟨5, [0, 0, 1], [0, 1, 0]⟩]⟩, 0) := by rfl

end Go.Proofs.Ytgedpebnipghlaa
