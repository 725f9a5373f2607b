import Derived.Test.YtfgimobmaahmmaaGrowDev6
import Derived.Test.YtfgimobmaahmmaaBlocksDev1
import Derived.Defers
import Derived.Recover
import Derived.Laws.Pointers
import Derived.Test.YtfgimobmaahmmaaGr14
/- Package grow as it landed: Grow. -/
namespace Go.Proofs.Ytfgimobmaahmmaa
open Go.RowKit
set_option linter.unusedVariables false
set_option linter.unusedSimpArgs false
set_option maxRecDepth 4000

theorem catch_idle (p q : Addr) (w : World) :
    CallsD Try.prog 19 #[.pointer (some p), .pointer (some q)] .returning w fun e u' w' => e = .returned (.tuple #[]) ∧ u' = .returning ∧ w' = w := by
  refine callsD_of_wpS Try.func19 rfl fun c₀ cs hu => ?_
  apply wpS_seq
  apply wpS_region
  simp [wpOpsS, go_sem, recoverD, hu, Try.ntmps19, Exit.thenS]
  refine wpS_of_wp ?_
  simp only [Array.replicate, List.replicate, List.toArray_replicate]
  go_wp2
  cases c₀
  simp_all [bodyPostS, results, Try.results19]

theorem catch_full (p q : Nat) (x y z : Value) (older : List PanicEntry) (w : World) (hp0 : w.cell? ⟨p, 0, none⟩ = some x) (hp1 : w.cell? ⟨p, 1, none⟩ = some y) (hq : w.cell? ⟨q, 0, none⟩ = some z) (fp0 : w.frozen? ⟨p, 0, none⟩ = false) (fp1 : w.frozen? ⟨p, 1, none⟩ = false) (fq : w.frozen? ⟨q, 0, none⟩ = false) (hp : p < w.heap.size) (hql : q < w.heap.size) (hne : ¬ p = q) :
    CallsD Try.prog 19 #[.pointer (some ⟨p, 0, none⟩), .pointer (some ⟨q, 0, none⟩)] (.panicking ({ v := .iface 51 (.agg #[]), recovered := false } :: older)) w fun e u' w' => e = .returned (.tuple #[]) ∧ u' = .panicking ({ v := .iface 51 (.agg #[]), recovered := true } :: older) ∧ w' = (((w.setCell ⟨p, 0, none⟩ (.int .i64 0)).setCell ⟨p, 1, none⟩ (.slice none 0 0)).setCell ⟨q, 0, none⟩ (.int .i64 4)).alloc (.cells #[] 51) := by
  have hta : ∀ w, (Instr.typeAssert (.iface 51 (.agg #[])) 20 51 true).run Try.prog w = .ok (.tuple #[.agg #[], .bool true]) w := fun w => by kernel_rfl
  refine callsD_of_wpS Try.func19 rfl fun c₀ cs hu => ?_
  apply wpS_seq
  apply wpS_region
  simp [wpOpsS, go_sem, recoverD, hu, Try.ntmps19, Exit.thenS]
  refine wpS_of_wp ?_
  simp only [Array.replicate, List.replicate, List.toArray_replicate]
  go_wp2
  simp [bodyPostS, results, Try.results19]

/-- What Grow answers. -/
def growL (b : BlockL) : NetL × Int := if wrongB b ≠ 0 then (⟨0, []⟩, wrongB b) else if (grownB b).places ≤ 16 ∧ (grownB b).links.length ≤ 24 then (netG (grownB b), 0) else (⟨0, []⟩, 4)

theorem net_zero (w : World) : Net w (.agg #[.int .i64 0, .slice none 0 0]) ⟨0, []⟩ := ⟨_, rfl, none, 0, 0, rfl, rfl, by omega, ⟨by omega, by omega, fun _ => rfl⟩, fun j hj => absurd hj (by simp)⟩

/-- Three new variables. -/
theorem three_new (w W : World) (x0 x1 x2 : Value) (t1 t2 t3 : TypeId) (h : ((w.alloc (.cells #[x0, x1, x2] t1)).alloc (.cells #[.int .i64 0, .slice none 0 0] t2)).alloc (.cells #[.int .i64 0] t3) = W) :
    Below w.heap.size w W ∧ Box3 W w.heap.size x0 x1 x2 ∧ W.heap[w.heap.size + 1]? = some (.cells #[.int .i64 0, .slice none 0 0] t2 (0, 0)) ∧ W.heap[w.heap.size + 1 + 1]? = some (.cells #[.int .i64 0] t3 (0, 0)) ∧ W.heap.size = w.heap.size + 1 + 1 + 1 := by
  have b1 := below_new w (.cells #[x0, x1, x2] t1)
  have b2 := below_new (w.alloc (.cells #[x0, x1, x2] t1)) (.cells #[.int .i64 0, .slice none 0 0] t2)
  have b3 := below_new ((w.alloc (.cells #[x0, x1, x2] t1)).alloc (.cells #[.int .i64 0, .slice none 0 0] t2)) (.cells #[.int .i64 0] t3)
  have e1 : (w.alloc (.cells #[x0, x1, x2] t1)).heap.size = w.heap.size + 1 := by simp
  have e2 : ((w.alloc (.cells #[x0, x1, x2] t1)).alloc (.cells #[.int .i64 0, .slice none 0 0] t2)).heap.size = w.heap.size + 1 + 1 := by simp
  have h1 := ((box3_new w x0 x1 x2 t1).below b2).below b3
  have h2 := heap_alloc_at (w.alloc (.cells #[x0, x1, x2] t1)) (.cells #[.int .i64 0, .slice none 0 0] t2)
  have h3 := heap_alloc_at ((w.alloc (.cells #[x0, x1, x2] t1)).alloc (.cells #[.int .i64 0, .slice none 0 0] t2)) (.cells #[.int .i64 0] t3)
  rw [← b3.block _ (by simp), e1] at h2
  rw [e2] at h3
  subst h
  exact ⟨below_then b1 (below_then b2 b3), h1, h2, h3, by simp⟩

set_option maxHeartbeats 2000000 in
theorem grow_grow (v : Value) (b : BlockL) (w : World) (hv : BlockV w v b) :
    Calls Try.prog 7 #[v] w fun e w' => ∃ r, e = .returned (.tuple #[r, .int .i64 (growL b).2]) ∧ Net w' r (growL b).1 ∧ Below w.heap.size w w' := by
  obtain ⟨a, len, cap, e0⟩ : ∃ a l c, v = .agg #[.int .i64 b.kind, .int .i64 b.label, .slice a l c] := by obtain ⟨kv, e, hK⟩ := blockV_iff.1 hv; obtain ⟨a, c, e2, _⟩ := hK.slice; exact ⟨a, _, c, by rw [e, e2]⟩
  subst e0
  have hmf : ∀ (fn : Fn) (first cap : Array Value) (w : World), (Instr.makeFunc fn first cap).run Try.prog w = .ok (.func fn first cap) w := fun _ _ _ _ => rfl
  obtain ⟨W1, HW1⟩ : ∃ W1, Hid (((w.alloc (.cells #[.int .i64 b.kind, .int .i64 b.label, .slice a len cap] 24)).alloc (.cells #[.int .i64 0, .slice none 0 0] 27)).alloc (.cells #[.int .i64 0] 28) = W1) := ⟨_, rfl⟩
  obtain ⟨c, hbx, hnn, hee, hsz⟩ := three_new _ _ _ _ _ _ _ _ HW1.out
  have Hsz : Hid _ := hsz
  clear hsz
  have hv1 := hv.below c
  obtain ⟨x0, x1, x2, x3⟩ := id hbx
  go_enter_defers Try.func7, Try.ntmps7
  go_upto_region 1 with fail
  rw [HW1.out]
  clear HW1
  go_wp2_with fail
  refine (blocks_wrong _ b _ (by exact hv1)).mono ?_
  rintro e w2 ⟨rfl, b2⟩
  have hbx2 := hbx.below b2
  have hnn2 : w2.heap[w.heap.size + 1]? = some (.cells #[.int .i64 0, .slice none 0 0] 27 (0, 0)) := by rw [b2.block _ (by have := Hsz.out; omega)]; exact hnn
  have hee2 : w2.heap[w.heap.size + 1 + 1]? = some (.cells #[.int .i64 0] 28 (0, 0)) := by rw [b2.block _ (by have := Hsz.out; omega)]; exact hee
  have c2 := below_then c b2
  obtain ⟨E, HE⟩ : ∃ E, Hid (wrongB b = E) := ⟨_, rfl⟩
  rw [HE.out]
  clear x0 x1 x2 x3 hbx hnn hee b2 c
  obtain ⟨y0, y1⟩ := box_cell hee2
  have O3 := OnlyB.set (w.heap.size + 1 + 1) 0 w2 (.int .i64 E)
  have hee3 := setBox (u := .int .i64 E) hee2
  have hnn3 := (O3.block (w.heap.size + 1) (Array.getElem?_eq_some_iff.1 hnn2).1 (by omega)).trans hnn2
  have c3 : Below w.heap.size w (w2.setCell ⟨w.heap.size + 1 + 1, 0, none⟩ (.int .i64 E)) := c2.setCell (p := ⟨w.heap.size + 1 + 1, 0, none⟩) (by simp; omega) _
  have hbx3 : Box3 (w2.setCell ⟨w.heap.size + 1 + 1, 0, none⟩ (.int .i64 E)) w.heap.size (.int .i64 b.kind) (.int .i64 b.label) (.slice a len cap) := ⟨Nat.lt_of_lt_of_le hbx2.1 O3.size, O3.cell (by omega) hbx2.2.1, O3.cell (by omega) hbx2.2.2.1, O3.cell (by omega) hbx2.2.2.2⟩
  obtain ⟨w3, Hw3⟩ : ∃ w3, Hid (w2.setCell ⟨w.heap.size + 1 + 1, 0, none⟩ (.int .i64 E) = w3) := ⟨_, rfl⟩
  rw [Hw3.out] at hee3 hnn3 c3 hbx3
  go_upto_region 2 with fail
  rw [Hw3.out]
  clear Hw3 y0 y1 O3 hee2 hnn2 hbx2 c2
  obtain ⟨y0, y1⟩ := box_cell hee3
  by_cases he : E = 0
  · subst he
    have hR : RightB b := wrong_zero.1 HE.out
    have hv3 := hv.below c3
    have hG : GrowAt w3.heap.size w3.heap.size w3 (w3.alloc (.cells #[.int .i64 2, .slice none 0 0] 55)) ⟨2, []⟩ (.slice none 0 0) [] [] :=
      ⟨World.ownsRow_nil _ _ _ _, heap_alloc_at _ _, below_new _ _, Nat.le_refl _, by simp [Value.ownBlock], rfl, rfl, fun j hj => absurd hj (Nat.not_lt_zero _)⟩
    have bx4 := hbx3.below (below_new w3 (.cells #[.int .i64 2, .slice none 0 0] 55))
    obtain ⟨w4, Hw4⟩ : ∃ w4, Hid (w3.alloc (.cells #[.int .i64 2, .slice none 0 0] 55) = w4) := ⟨_, rfl⟩
    rw [Hw4.out] at hG bx4
    have hcall := block_any (x := w3.heap.size) (Nat.le_refl w3.heap.size) 41 b hR.1 hR.fit _ 0 1 ⟨2, []⟩ _ _ _ w4 hv3 hG ⟨by simp, by simp⟩
    rw [show ((0 : Nat) : Int) = 0 from rfl, show ((1 : Nat) : Int) = 1 from rfl] at hcall
    have Hcall : Hid (Calls Try.prog 20 #[.pointer (some ⟨w3.heap.size, 0, none⟩), .agg #[.int .i64 b.kind, .int .i64 b.label, .slice a len cap], .int .i64 0, .int .i64 1] w4 (Grew w3.heap.size w3.heap.size w3 w4 (.slice none 0 0) (grownB b) (.tuple #[]))) := hcall
    have HR : Hid _ := hR
    clear hcall hR
    have nlt : w.heap.size + 1 < w3.heap.size := (Array.getElem?_eq_some_iff.1 hnn3).1
    have elt : w.heap.size + 1 + 1 < w3.heap.size := (Array.getElem?_eq_some_iff.1 hee3).1
    go_upto_region 6 with fail
    rw [Hw4.out]
    clear Hw4
    obtain ⟨x0, x1, x2, x3⟩ := bx4
    go_wp2_with fail
    refine Hcall.out.mono ?_
    rintro e w5 (⟨hf5, rfl, lv5, us5, vs5, hG5, hK5⟩ | ⟨hf5, rfl, hb5⟩)
    · obtain ⟨St, hOne⟩ := grown_one HR.out hf5
      have hb5 := hG5.below
      have hnn5 : w5.heap[w.heap.size + 1]? = some (.cells #[.int .i64 0, .slice none 0 0] 27 (0, 0)) := by rw [hb5.block _ nlt]; exact hnn3
      have hee5 : w5.heap[w.heap.size + 1 + 1]? = some (.cells #[.int .i64 0] 28 (0, 0)) := by rw [hb5.block _ elt]; exact hee3
      have R : Hid (growL b = (netG (grownB b), 0)) := by show _ = _; unfold growL; rw [HE.out, if_neg (by simp), if_pos (show _ ∧ _ from hf5)]
      have c5 := below_then c3 hb5
      have s5 : w3.heap.size ≤ w5.heap.size := hb5.size
      have Hin : Hid _ := hOne.ins
      clear x0 x1 x2 x3 hG hbx3 hnn3 hee3 y0 y1 hb5 c3 Hcall hOne hK5
      go_wp2_with fail
      refine (whole_any hG5 hf5 Hin.out).mono ?_
      rintro e w6 ⟨a6, cp6, rfl, hT6, b6⟩
      have hnn6 : w6.heap[w.heap.size + 1]? = some (.cells #[.int .i64 0, .slice none 0 0] 27 (0, 0)) := by rw [b6.block _ (Array.getElem?_eq_some_iff.1 hnn5).1]; exact hnn5
      have hee6 : w6.heap[w.heap.size + 1 + 1]? = some (.cells #[.int .i64 0] 28 (0, 0)) := by rw [b6.block _ (Array.getElem?_eq_some_iff.1 hee5).1]; exact hee5
      have c6 := below_then c5 b6
      have n0 : w6.cell? ⟨w.heap.size + 1, 0, none⟩ = some (.int .i64 0) := by simp [World.cell?, hnn6]
      have n1 : w6.cell? ⟨w.heap.size + 1, 1, none⟩ = some (.slice none 0 0) := by simp [World.cell?, hnn6]
      have g0 : w6.frozen? ⟨w.heap.size + 1, 0, none⟩ = false := by simp [World.frozen?, hnn6]
      have g1 : w6.frozen? ⟨w.heap.size + 1, 1, none⟩ = false := by simp [World.frozen?, hnn6]
      obtain ⟨m0, m1⟩ := box_cell hee6
      have HT6 : Hid (On (fun k => w5.heap.size < k) w6 (fun w'' => Trans w'' (.slice a6 (grownB b).links.length cp6) (netG (grownB b)).trans)) := hT6
      obtain ⟨n, Hn⟩ : ∃ n, Hid ((grownB b).places = n) := ⟨_, rfl⟩
      obtain ⟨ln, Hln⟩ : ∃ ln, Hid ((grownB b).links.length = ln) := ⟨_, rfl⟩
      rw [Hln.out] at HT6
      rw [Hn.out, Hln.out]
      clear hT6 b6 c5 hG5
      go_wp2
      obtain ⟨wq, Hwq⟩ : ∃ wq, Hid (((w6.setCell ⟨w.heap.size + 1, 0, none⟩ (.int .i64 (n : Int))).setCell ⟨w.heap.size + 1, 1, none⟩ (.slice a6 ln cp6)).setCell ⟨w.heap.size + 1 + 1, 0, none⟩ (.int .i64 0) = wq) := ⟨_, rfl⟩
      have q0 : wq.cell? ⟨w.heap.size + 1, 0, none⟩ = some (.int .i64 (n : Int)) := by
        rw [← Hwq.out, World.cell?_setCell_other _ _ _ _ (by simp), World.cell?_setCell_other _ _ _ _ (by simp)]
        exact World.cell?_setCell_same _ _ _ n0
      have q1 : wq.cell? ⟨w.heap.size + 1, 1, none⟩ = some (.slice a6 ln cp6) := by
        rw [← Hwq.out, World.cell?_setCell_other _ _ _ _ (by simp)]
        exact World.cell?_setCell_same' _ _ _ (by rw [World.cell?_setCell_other _ _ _ _ (by simp), n1]; rfl)
      have q2 : wq.cell? ⟨w.heap.size + 1 + 1, 0, none⟩ = some (.int .i64 0) := by
        rw [← Hwq.out]
        exact World.cell?_setCell_same' _ _ _ (by rw [World.cell?_setCell_other _ _ _ _ (by simp), World.cell?_setCell_other _ _ _ _ (by simp), m0]; rfl)
      have cq : Below w.heap.size w wq := by
        rw [← Hwq.out]
        exact ((c6.setCell (p := ⟨w.heap.size + 1, 0, none⟩) (by simp) _).setCell (p := ⟨w.heap.size + 1, 1, none⟩) (by simp) _).setCell (p := ⟨w.heap.size + 1 + 1, 0, none⟩) (by simp; omega) _
      have hTq : Trans wq (.slice a6 ln cp6) (netG (grownB b)).trans := by
        rw [← Hwq.out]
        exact (((HT6.out.set (a := ⟨w.heap.size + 1, 0, none⟩) (by simp; omega) _).set (a := ⟨w.heap.size + 1, 1, none⟩) (by simp; omega) _).set (a := ⟨w.heap.size + 1 + 1, 0, none⟩) (by simp; omega) _).now
      rw [Hwq.out]
      clear Hwq n0 n1 m0 m1 g0 g1 hnn6 hee6 HT6 c6
      refine leaves_cons (f := 19) (args := #[.pointer (some ⟨w.heap.size + 1, 0, none⟩), .pointer (some ⟨w.heap.size + 1 + 1, 0, none⟩)]) (by simp) (by simp [go_sem]) ?_
      refine (catch_idle ⟨w.heap.size + 1, 0, none⟩ ⟨w.heap.size + 1 + 1, 0, none⟩ wq).mono ?_
      rintro e u' w7 ⟨rfl, rfl, rfl⟩
      rw [R.out]
      refine ⟨.tuple #[.agg #[.int .i64 (n : Int), .slice a6 ln cp6], .int .i64 0], ?_, _, rfl, ⟨_, by show _ = Value.agg #[.int .i64 ((grownB b).places : Int), _]; rw [Hn.out], hTq⟩, cq⟩
      simp [results, Try.results7, go_sem, q0, q1, q2]
    · have hnn5 : w5.heap[w.heap.size + 1]? = some (.cells #[.int .i64 0, .slice none 0 0] 27 (0, 0)) := by rw [hb5.block _ nlt]; exact hnn3
      have hee5 : w5.heap[w.heap.size + 1 + 1]? = some (.cells #[.int .i64 0] 28 (0, 0)) := by rw [hb5.block _ elt]; exact hee3
      have R : Hid (growL b = (⟨0, []⟩, 4)) := by show _ = _; unfold growL; rw [HE.out, if_neg (by simp), if_neg (show ¬ (_ ∧ _) from hf5)]
      have c5 := below_then c3 hb5
      clear x0 x1 x2 x3 hG hbx3 hnn3 hee3 y0 y1 hb5 c3 Hcall
      have n0 : w5.cell? ⟨w.heap.size + 1, 0, none⟩ = some (.int .i64 0) := by simp [World.cell?, hnn5]
      have n1 : w5.cell? ⟨w.heap.size + 1, 1, none⟩ = some (.slice none 0 0) := by simp [World.cell?, hnn5]
      have g0 : w5.frozen? ⟨w.heap.size + 1, 0, none⟩ = false := by simp [World.frozen?, hnn5]
      have g1 : w5.frozen? ⟨w.heap.size + 1, 1, none⟩ = false := by simp [World.frozen?, hnn5]
      obtain ⟨m0, m1⟩ := box_cell hee5
      go_wp2
      have hl5 := (Array.getElem?_eq_some_iff.1 hnn5).1
      have he5 := (Array.getElem?_eq_some_iff.1 hee5).1
      refine leaves_cons (f := 19) (args := #[.pointer (some ⟨w.heap.size + 1, 0, none⟩), .pointer (some ⟨w.heap.size + 1 + 1, 0, none⟩)]) (by simp) (by simp [go_sem]) ?_
      refine (catch_full (w.heap.size + 1) (w.heap.size + 1 + 1) _ _ _ [] w5 n0 n1 m0 g0 g1 m1 hl5 he5 (by omega)).mono ?_
      rintro e u' w6 ⟨rfl, rfl, Hw6⟩
      obtain ⟨wq, Hwq⟩ : ∃ wq, Hid (((w5.setCell ⟨w.heap.size + 1, 0, none⟩ (.int .i64 0)).setCell ⟨w.heap.size + 1, 1, none⟩ (.slice none 0 0)).setCell ⟨w.heap.size + 1 + 1, 0, none⟩ (.int .i64 4) = wq) := ⟨_, rfl⟩
      have q0 : wq.cell? ⟨w.heap.size + 1, 0, none⟩ = some (.int .i64 0) := by
        rw [← Hwq.out, World.cell?_setCell_other _ _ _ _ (by simp), World.cell?_setCell_other _ _ _ _ (by simp)]
        exact World.cell?_setCell_same _ _ _ n0
      have q1 : wq.cell? ⟨w.heap.size + 1, 1, none⟩ = some (.slice none 0 0) := by
        rw [← Hwq.out, World.cell?_setCell_other _ _ _ _ (by simp)]
        exact World.cell?_setCell_same' _ _ _ (by rw [World.cell?_setCell_other _ _ _ _ (by simp), n1]; rfl)
      have q2 : wq.cell? ⟨w.heap.size + 1 + 1, 0, none⟩ = some (.int .i64 4) := by
        rw [← Hwq.out]
        exact World.cell?_setCell_same' _ _ _ (by rw [World.cell?_setCell_other _ _ _ _ (by simp), World.cell?_setCell_other _ _ _ _ (by simp), m0]; rfl)
      have cq : Below w.heap.size w wq := by
        rw [← Hwq.out]
        exact ((c5.setCell (p := ⟨w.heap.size + 1, 0, none⟩) (by simp) _).setCell (p := ⟨w.heap.size + 1, 1, none⟩) (by simp) _).setCell (p := ⟨w.heap.size + 1 + 1, 0, none⟩) (by simp; omega) _
      rw [Hwq.out] at Hw6
      have b6 := below_new wq (.cells #[] 51)
      have k0 : w6.cell? ⟨w.heap.size + 1, 0, none⟩ = some (.int .i64 0) := by rw [Hw6, b6.cell (p := ⟨w.heap.size + 1, 0, none⟩) (cell_lt0 q0)]; exact q0
      have k1 : w6.cell? ⟨w.heap.size + 1, 1, none⟩ = some (.slice none 0 0) := by rw [Hw6, b6.cell (p := ⟨w.heap.size + 1, 1, none⟩) (cell_lt0 q1)]; exact q1
      have k2 : w6.cell? ⟨w.heap.size + 1 + 1, 0, none⟩ = some (.int .i64 4) := by rw [Hw6, b6.cell (p := ⟨w.heap.size + 1 + 1, 0, none⟩) (cell_lt0 q2)]; exact q2
      have c6 : Below w.heap.size w w6 := by rw [Hw6]; exact below_then cq b6
      clear Hw6 b6 q0 q1 q2 cq n0 n1 m0 m1 g0 g1 hnn5 hee5
      rw [R.out]
      refine ⟨.tuple #[.agg #[.int .i64 0, .slice none 0 0], .int .i64 4], ?_, _, rfl, net_zero w6, c6⟩
      simp [results, Try.results7, go_sem, k0, k1, k2]
  · have he' : (E != 0) = true := by simpa using he
    have R : Hid (growL b = (⟨0, []⟩, E)) := by show _ = _; unfold growL; rw [HE.out, if_pos he]
    have n0 : w3.cell? ⟨w.heap.size + 1, 0, none⟩ = some (.int .i64 0) := by simp [World.cell?, hnn3]
    have n1 : w3.cell? ⟨w.heap.size + 1, 1, none⟩ = some (.slice none 0 0) := by simp [World.cell?, hnn3]
    have g0 : w3.frozen? ⟨w.heap.size + 1, 0, none⟩ = false := by simp [World.frozen?, hnn3]
    have g1 : w3.frozen? ⟨w.heap.size + 1, 1, none⟩ = false := by simp [World.frozen?, hnn3]
    go_upto_region 3 with fail
    have HS : Hid ((((w3.setCell ⟨w.heap.size + 1, 0, none⟩ (.int .i64 0)).setCell ⟨w.heap.size + 1, 1, none⟩ (.slice none 0 0)).setCell ⟨w.heap.size + 1 + 1, 0, none⟩ (.int .i64 E)).drew.cell? ⟨w.heap.size + 1 + 1, 0, none⟩ = some (.int .i64 E)) := by
      have q : ((w3.setCell ⟨w.heap.size + 1, 0, none⟩ (.int .i64 0)).setCell ⟨w.heap.size + 1, 1, none⟩ (.slice none 0 0)).cell? ⟨w.heap.size + 1 + 1, 0, none⟩ = some (.int .i64 E) := by
        rw [World.cell?_setCell_other _ _ _ _ (by simp), World.cell?_setCell_other _ _ _ _ (by simp)]; exact y0
      have := World.cell?_setCell_same' _ ⟨w.heap.size + 1 + 1, 0, none⟩ (.int .i64 E) (by rw [q]; rfl)
      show _ = _
      simpa using this
    go_region_held3 (fun w' => w'.cell? ⟨w.heap.size + 1 + 1, 0, none⟩ = some (.int .i64 E)) (first | exact HS.out | go_keep) (fail)
    all_goals
      go_wp2
      have z0 : (((w3.setCell ⟨w.heap.size + 1, 0, none⟩ (.int .i64 0)).setCell ⟨w.heap.size + 1, 1, none⟩ (.slice none 0 0)).setCell ⟨w.heap.size + 1 + 1, 0, none⟩ (.int .i64 E)).drew.cell? ⟨w.heap.size + 1, 0, none⟩ = some (.int .i64 0) := by
        have q : (((w3.setCell ⟨w.heap.size + 1, 0, none⟩ (.int .i64 0)).setCell ⟨w.heap.size + 1, 1, none⟩ (.slice none 0 0)).setCell ⟨w.heap.size + 1 + 1, 0, none⟩ (.int .i64 E)).cell? ⟨w.heap.size + 1, 0, none⟩ = some (.int .i64 0) := by
          rw [World.cell?_setCell_other _ _ _ _ (by simp), World.cell?_setCell_other _ _ _ _ (by simp)]
          exact World.cell?_setCell_same _ _ _ n0
        simpa using q
      have z1 : (((w3.setCell ⟨w.heap.size + 1, 0, none⟩ (.int .i64 0)).setCell ⟨w.heap.size + 1, 1, none⟩ (.slice none 0 0)).setCell ⟨w.heap.size + 1 + 1, 0, none⟩ (.int .i64 E)).drew.cell? ⟨w.heap.size + 1, 1, none⟩ = some (.slice none 0 0) := by
        have q : (((w3.setCell ⟨w.heap.size + 1, 0, none⟩ (.int .i64 0)).setCell ⟨w.heap.size + 1, 1, none⟩ (.slice none 0 0)).setCell ⟨w.heap.size + 1 + 1, 0, none⟩ (.int .i64 E)).cell? ⟨w.heap.size + 1, 1, none⟩ = some (.slice none 0 0) := by
          rw [World.cell?_setCell_other _ _ _ _ (by simp)]
          exact World.cell?_setCell_same' _ _ _ (by rw [World.cell?_setCell_other _ _ _ _ (by simp), n1]; rfl)
        simpa using q
      have z2 := HS.out
      have cf : Below w.heap.size w (((w3.setCell ⟨w.heap.size + 1, 0, none⟩ (.int .i64 0)).setCell ⟨w.heap.size + 1, 1, none⟩ (.slice none 0 0)).setCell ⟨w.heap.size + 1 + 1, 0, none⟩ (.int .i64 E)).drew :=
        (((c3.setCell (p := ⟨w.heap.size + 1, 0, none⟩) (by simp) _).setCell (p := ⟨w.heap.size + 1, 1, none⟩) (by simp) _).setCell (p := ⟨w.heap.size + 1 + 1, 0, none⟩) (by simp; omega) _).drew
      obtain ⟨wf, Hwf⟩ : ∃ wf, Hid ((((w3.setCell ⟨w.heap.size + 1, 0, none⟩ (.int .i64 0)).setCell ⟨w.heap.size + 1, 1, none⟩ (.slice none 0 0)).setCell ⟨w.heap.size + 1 + 1, 0, none⟩ (.int .i64 E)).drew = wf) := ⟨_, rfl⟩
      rw [Hwf.out] at z0 z1 z2 cf ⊢
      rw [R.out]
      refine ⟨.tuple #[.agg #[.int .i64 0, .slice none 0 0], .int .i64 E], ?_, _, rfl, net_zero wf, cf⟩
      simp [results, Try.results7, go_sem, z0, z1, z2]

end Go.Proofs.Ytfgimobmaahmmaa

/- The answers of the document itself for grow: a transition while it is made. -/
namespace Go.Proofs.Ytfgimobmaahmmaa
open Go.RowKit
set_option linter.unusedVariables false
set_option linter.unusedSimpArgs false
set_option maxRecDepth 4000

theorem kbet_any : ∀ (f : Nat) (b : BlockL), okB f b → Fit f b → KBet f b
  | 0, b, _, h => h.elim
  | f + 1, b, h, k => by
    have hk : ∀ x ∈ b.kids, KBet f x := fun x hx => kbet_any f x (h.2 x hx) (k x hx)
    obtain ⟨f1, f2, _⟩ := h.1
    by_cases h2 : b.kind ≤ 2
    · exact kbet_leaf f b h k hk h2
    · obtain e | e | e | e : b.kind = 3 ∨ b.kind = 4 ∨ b.kind = 5 ∨ b.kind = 6 := by omega
      · exact kbet_seq f b h k hk e
      · exact kbet_alt f b h k hk e
      · exact kbet_both f b h k hk e
      · exact kbet_loop f b h k hk e

/-- What make lays down. -/
theorem make_zero (n : Nat) (hn : n ≤ 1000) : ∃ cs : Array Value, (∀ w, (Instr.makeSlice 35 (.int .i64 (n : Int)) (.int .i64 (n : Int))).run Try.prog w = .ok (.slice (some ⟨w.heap.size, 0, none⟩) n n) (w.alloc (.cells cs 3))) ∧ ∀ j, j < n → cs[j]? = some (.int .i64 0) := by
  obtain ⟨i0, hi, hz0, hz1, hz2⟩ := info_parts info_int
  have h := fun w => run_make (P := Try.prog) w 35 3 i0 (.int .i64 0) Try.underlying35 hi hz0 .i64 .i64 n n (by omega) (by omega) (by rw [hz2]; omega) (by omega)
  simp only [Int.toNat_natCast] at h
  refine ⟨_, h, fun j hj => ?_⟩
  simp [madeCells, hz1, Value.cells, hj, Nat.mod_one]

/-- A row of n numbers at a block. -/
structure NumsAt (w : World) (b n : Nat) (f : Nat → Int) : Prop where
  lt : b < w.heap.size
  cells : ∀ j, j < n → w.cell? ⟨b, j, none⟩ = some (.int .i64 (f j)) ∧ w.frozen? ⟨b, j, none⟩ = false
theorem NumsAt.block {w w' : World} {b n : Nat} {f : Nat → Int} (h : NumsAt w b n f) (hs : b < w'.heap.size) (hb : w'.heap[b]? = w.heap[b]?) : NumsAt w' b n f :=
  ⟨hs, fun j hj => ⟨(World.cell?_of_block (a := ⟨b, j, none⟩) hb).trans (h.cells j hj).1, (World.frozen?_of_block (a := ⟨b, j, none⟩) hb).trans (h.cells j hj).2⟩⟩
theorem NumsAt.below {w w' : World} {b n : Nat} {f : Nat → Int} (h : NumsAt w b n f) (hb : Below w.heap.size w w') : NumsAt w' b n f := h.block (Nat.lt_of_lt_of_le h.lt hb.size) (hb.block b h.lt)
theorem nums_new (w : World) (n : Nat) (cs : Array Value) (h : ∀ j, j < n → cs[j]? = some (.int .i64 0)) (b : Nat) (hb : b = w.heap.size) : NumsAt (w.alloc (.cells cs 3)) b n (fun _ => 0) := by
  subst hb
  exact ⟨by simp, fun j hj => ⟨by rw [World.cell?_alloc_at _ _ _ _ rfl]; exact h j hj, World.frozen?_alloc_at _ _ _ _ rfl⟩⟩
theorem NumsAt.put {w : World} {b n k : Nat} {f g : Nat → Int} (h : NumsAt w b n f) (hk : k < n) {x : Int} (hx : g k = x) (hg : ∀ j, j < n → j ≠ k → g j = f j) : NumsAt (w.setCell ⟨b, k, none⟩ (.int .i64 x)) b n g := by
  refine ⟨by simpa [World.setCell] using h.lt, fun j hj => ⟨?_, by rw [World.frozen?_setCell]; exact (h.cells j hj).2⟩⟩
  by_cases e : j = k
  · subst e
    rw [World.cell?_setCell_same _ _ _ (h.cells j hj).1, hx]
  · rw [World.cell?_setCell_other _ _ _ _ (by intro q; apply e; injection q with _ q2; exact q2.symm), (h.cells j hj).1, hg j hj e]
theorem NumsAt.other {w : World} {b n : Nat} {f : Nat → Int} (h : NumsAt w b n f) {a : Addr} (ha : a.block ≠ b) (u : Value) : NumsAt (w.setCell a u) b n f :=
  h.block (by simpa [World.setCell] using h.lt) (Below.heap_setCell w a u b (fun e => ha e.symm))
theorem NumsAt.ints {w : World} {b n : Nat} {f : Nat → Int} (h : NumsAt w b n f) {zs : List Int} (hl : zs.length = n) (hz : ∀ j, j < n → nth zs j = f j) (hn : n ≤ 1000) :
    On (fun k => k = b) w (fun w' => Ints w' (.slice (some ⟨b, 0, none⟩) n n) zs) := by
  intro w' hs hk
  exact ⟨_, _, _, rfl, hl, by omega, ⟨Nat.le_refl _, by omega, fun h => by cases h⟩, fun j hj => ⟨b, 0, rfl, Nat.lt_of_lt_of_le h.lt hs, by rw [Nat.zero_add, World.cell?_of_block (a := ⟨b, j, none⟩) (hk b h.lt rfl), (h.cells j (by omega)).1, hz j (by omega)]⟩⟩

/-- A transition that is being made: its box, and its two rows, all new since w. -/
structure TranNew (w wc : World) (lab : Int) (n bt bp bq : Nat) (f g : Nat → Int) : Prop where
  below : Below w.heap.size w wc
  bt0 : w.heap.size ≤ bt
  bp0 : w.heap.size ≤ bp
  bq0 : w.heap.size ≤ bq
  ne : bt ≠ bp ∧ bt ≠ bq ∧ bp ≠ bq
  box : Box3 wc bt (.int .i64 lab) (.slice (some ⟨bp, 0, none⟩) n n) (.slice (some ⟨bq, 0, none⟩) n n)
  pre : NumsAt wc bp n f
  post : NumsAt wc bq n g

theorem TranNew.drew {w wc : World} {lab : Int} {n bt bp bq : Nat} {f g : Nat → Int} (h : TranNew w wc lab n bt bp bq f g) : TranNew w wc.drew lab n bt bp bq f g :=
  { h with below := h.below.drew, box := h.box.below ((Below.refl _ _).drew), pre := h.pre.below ((Below.refl _ _).drew), post := h.post.below ((Below.refl _ _).drew) }
theorem TranNew.putP {w wc : World} {lab : Int} {n bt bp bq k : Nat} {f f' g : Nat → Int} (h : TranNew w wc lab n bt bp bq f g) (hk : k < n) {x : Int} (hx : f' k = x) (hg : ∀ j, j < n → j ≠ k → f' j = f j) : TranNew w (wc.setCell ⟨bp, k, none⟩ (.int .i64 x)) lab n bt bp bq f' g := by
  have O := OnlyB.set bp k wc (.int .i64 x)
  exact { h with below := h.below.setCell (p := ⟨bp, k, none⟩) h.bp0 _, box := ⟨Nat.lt_of_lt_of_le h.box.1 O.size, O.cell h.ne.1 h.box.2.1, O.cell h.ne.1 h.box.2.2.1, O.cell h.ne.1 h.box.2.2.2⟩, pre := h.pre.put hk hx hg, post := h.post.other (a := ⟨bp, k, none⟩) h.ne.2.2 _ }
theorem TranNew.putQ {w wc : World} {lab : Int} {n bt bp bq k : Nat} {f g g' : Nat → Int} (h : TranNew w wc lab n bt bp bq f g) (hk : k < n) {x : Int} (hx : g' k = x) (hg : ∀ j, j < n → j ≠ k → g' j = g j) : TranNew w (wc.setCell ⟨bq, k, none⟩ (.int .i64 x)) lab n bt bp bq f g' := by
  have O := OnlyB.set bq k wc (.int .i64 x)
  exact { h with below := h.below.setCell (p := ⟨bq, k, none⟩) h.bq0 _, box := ⟨Nat.lt_of_lt_of_le h.box.1 O.size, O.cell h.ne.2.1 h.box.2.1, O.cell h.ne.2.1 h.box.2.2.1, O.cell h.ne.2.1 h.box.2.2.2⟩, pre := h.pre.other (a := ⟨bq, k, none⟩) h.ne.2.2.symm _, post := h.post.put hk hx hg }

/-- Each is there once. -/
theorem nodup_ins : ∀ (n x : Nat), (insG n x).Nodup ∧ (outsG n x).Nodup
  | 0, x => by simp [insG, outsG]
  | n + 1, x => by
    obtain ⟨h1, h2⟩ := nodup_ins n (x + 2)
    rw [insG_succ, outsG_succ, List.singleton_append, List.singleton_append, List.nodup_cons, List.nodup_cons]
    exact ⟨⟨fun h => by have := mem_insG h; omega, h1⟩, fun h => by have := mem_outsG h; omega, h2⟩
def NodG (g : GrowL) : Prop := ∀ l ∈ g.links, l.src.Nodup ∧ l.dst.Nodup
theorem NodG.put {g : GrowL} (h : NodG g) (lab : Int) {a b : List Nat} (ha : a.Nodup) (hb : b.Nodup) : NodG (putG g lab a b) := by
  intro l hl
  rcases List.mem_append.1 hl with q | q
  · exact h l q
  · simp at q; subst q; exact ⟨ha, hb⟩
theorem NodG.more {g : GrowL} (h : NodG g) (n : Nat) : NodG ⟨n, g.links⟩ := h
theorem nod_one (p : Nat) : [p].Nodup := by simp
def KeepsN (K : GrowT) : Prop := ∀ b p q g, NodG g → NodG (K b p q g)
theorem seq_nod {K : GrowT} (hK : KeepsN K) : ∀ (l : List BlockL) (p q : Nat) (g : GrowL), NodG g → NodG (growSeq K l p q g)
  | [], _, _, g, h => h
  | [k], p, q, g, h => hK k p q g h
  | k :: k2 :: ks, p, q, g, h => seq_nod hK (k2 :: ks) _ _ _ (hK k p g.places _ h)
theorem alt_nod {K : GrowT} (hK : KeepsN K) : ∀ (l : List BlockL) (p q : Nat) (g : GrowL), NodG g → NodG (growAlt K l p q g)
  | [], _, _, g, h => h
  | k :: ks, p, q, g, h => alt_nod hK ks _ _ _ (hK k p q g h)
theorem both_nod {K : GrowT} (hK : KeepsN K) : ∀ (l : List BlockL) (x : Nat) (g : GrowL), NodG g → NodG (growBoth K l x g)
  | [], _, g, h => h
  | k :: ks, x, g, h => both_nod hK ks _ _ (hK k _ _ g h)
theorem keeps_nod : ∀ f, KeepsN (growK f)
  | 0 => fun b p q g h => h
  | f + 1 => fun b p q g h => by
    simp only [growK]
    unfold growF
    split
    · exact h.put _ (nod_one _) (nod_one _)
    · split
      · exact h.put _ (nod_one _) (nod_one _)
      · split
        · exact seq_nod (keeps_nod f) _ _ _ _ h
        · split
          · exact alt_nod (keeps_nod f) _ _ _ _ h
          · split
            · exact (both_nod (keeps_nod f) _ _ _ ((h.more _).put _ (nod_one _) (nodup_ins _ _).1)).put _ (nodup_ins _ _).2 (nod_one _)
            · exact (keeps_nod f _ _ _ _ (keeps_nod f _ _ _ _ ((h.more _).put _ (nod_one _) (nod_one _)))).put _ (nod_one _) (nod_one _)
theorem grown_nod (b : BlockL) : NodG (grownB b) := keeps_nod 41 b 0 1 ⟨2, []⟩ fun l hl => by cases hl
/-- One more of a list without doubles. -/
theorem tok_next {l : List Nat} {k : Nat} (h : k < l.length) (hn : l.Nodup) : tok (l.take k) l[k] = 0 := by
  refine tok_not fun hm => ?_
  obtain ⟨j, hj, e⟩ := List.getElem_of_mem hm
  rw [List.getElem_take] at e
  have hj2 : j < k := by simp at hj; omega
  exact (List.pairwise_iff_getElem.1 hn) j k (by omega) h hj2 e

end Go.Proofs.Ytfgimobmaahmmaa

/- The answers of the document itself for grow: KGrow. -/
namespace Go.Proofs.Ytfgimobmaahmmaa
open Go.RowKit
set_option linter.unusedVariables false
set_option linter.unusedSimpArgs false
set_option maxRecDepth 4000

theorem tran_new123 (w : World) (lab : Int) (n : Nat) (cs : Array Value) (hc : ∀ j, j < n → cs[j]? = some (.int .i64 0)) :
    TranNew w (((w.alloc (.cells cs 3)).alloc (.cells cs 3)).alloc (.cells #[.int .i64 lab, .slice (some ⟨w.heap.size, 0, none⟩) n n, .slice (some ⟨w.heap.size + 1, 0, none⟩) n n] 48)) lab n (w.heap.size + 1 + 1) w.heap.size (w.heap.size + 1) (fun _ => 0) (fun _ => 0) := by
  have hb := box3_new ((w.alloc (.cells cs 3)).alloc (.cells cs 3)) (.int .i64 lab) (.slice (some ⟨w.heap.size, 0, none⟩) n n) (.slice (some ⟨w.heap.size + 1, 0, none⟩) n n) 48
  rw [show ((w.alloc (.cells cs 3)).alloc (.cells cs 3)).heap.size = w.heap.size + 1 + 1 by simp] at hb
  exact ⟨below_then (below_new w (.cells cs 3)) (below_then (below_new (w.alloc (.cells cs 3)) (.cells cs 3)) (below_new ((w.alloc (.cells cs 3)).alloc (.cells cs 3)) (.cells #[.int .i64 lab, .slice (some ⟨w.heap.size, 0, none⟩) n n, .slice (some ⟨w.heap.size + 1, 0, none⟩) n n] 48))), by omega, by omega, by omega, ⟨by omega, by omega, by omega⟩, hb, ((nums_new w n cs hc _ (by simp)).below (below_new (w.alloc (.cells cs 3)) (.cells cs 3))).below (below_new ((w.alloc (.cells cs 3)).alloc (.cells cs 3)) (.cells #[.int .i64 lab, .slice (some ⟨w.heap.size, 0, none⟩) n n, .slice (some ⟨w.heap.size + 1, 0, none⟩) n n] 48)), (nums_new (w.alloc (.cells cs 3)) n cs hc _ (by simp)).below (below_new ((w.alloc (.cells cs 3)).alloc (.cells cs 3)) (.cells #[.int .i64 lab, .slice (some ⟨w.heap.size, 0, none⟩) n n, .slice (some ⟨w.heap.size + 1, 0, none⟩) n n] 48))⟩

theorem tran_new132 (w : World) (lab : Int) (n : Nat) (cs : Array Value) (hc : ∀ j, j < n → cs[j]? = some (.int .i64 0)) :
    TranNew w (((w.alloc (.cells cs 3)).alloc (.cells #[.int .i64 lab, .slice (some ⟨w.heap.size, 0, none⟩) n n, .slice (some ⟨w.heap.size + 1 + 1, 0, none⟩) n n] 48)).alloc (.cells cs 3)) lab n (w.heap.size + 1) w.heap.size (w.heap.size + 1 + 1) (fun _ => 0) (fun _ => 0) := by
  have hb := box3_new (w.alloc (.cells cs 3)) (.int .i64 lab) (.slice (some ⟨w.heap.size, 0, none⟩) n n) (.slice (some ⟨w.heap.size + 1 + 1, 0, none⟩) n n) 48
  rw [show (w.alloc (.cells cs 3)).heap.size = w.heap.size + 1 by simp] at hb
  exact ⟨below_then (below_new w (.cells cs 3)) (below_then (below_new (w.alloc (.cells cs 3)) (.cells #[.int .i64 lab, .slice (some ⟨w.heap.size, 0, none⟩) n n, .slice (some ⟨w.heap.size + 1 + 1, 0, none⟩) n n] 48)) (below_new ((w.alloc (.cells cs 3)).alloc (.cells #[.int .i64 lab, .slice (some ⟨w.heap.size, 0, none⟩) n n, .slice (some ⟨w.heap.size + 1 + 1, 0, none⟩) n n] 48)) (.cells cs 3))), by omega, by omega, by omega, ⟨by omega, by omega, by omega⟩, (hb).below (below_new ((w.alloc (.cells cs 3)).alloc (.cells #[.int .i64 lab, .slice (some ⟨w.heap.size, 0, none⟩) n n, .slice (some ⟨w.heap.size + 1 + 1, 0, none⟩) n n] 48)) (.cells cs 3)), ((nums_new w n cs hc _ (by simp)).below (below_new (w.alloc (.cells cs 3)) (.cells #[.int .i64 lab, .slice (some ⟨w.heap.size, 0, none⟩) n n, .slice (some ⟨w.heap.size + 1 + 1, 0, none⟩) n n] 48))).below (below_new ((w.alloc (.cells cs 3)).alloc (.cells #[.int .i64 lab, .slice (some ⟨w.heap.size, 0, none⟩) n n, .slice (some ⟨w.heap.size + 1 + 1, 0, none⟩) n n] 48)) (.cells cs 3)), nums_new ((w.alloc (.cells cs 3)).alloc (.cells #[.int .i64 lab, .slice (some ⟨w.heap.size, 0, none⟩) n n, .slice (some ⟨w.heap.size + 1 + 1, 0, none⟩) n n] 48)) n cs hc _ (by simp)⟩

theorem tran_new213 (w : World) (lab : Int) (n : Nat) (cs : Array Value) (hc : ∀ j, j < n → cs[j]? = some (.int .i64 0)) :
    TranNew w (((w.alloc (.cells cs 3)).alloc (.cells cs 3)).alloc (.cells #[.int .i64 lab, .slice (some ⟨w.heap.size + 1, 0, none⟩) n n, .slice (some ⟨w.heap.size, 0, none⟩) n n] 48)) lab n (w.heap.size + 1 + 1) (w.heap.size + 1) w.heap.size (fun _ => 0) (fun _ => 0) := by
  have hb := box3_new ((w.alloc (.cells cs 3)).alloc (.cells cs 3)) (.int .i64 lab) (.slice (some ⟨w.heap.size + 1, 0, none⟩) n n) (.slice (some ⟨w.heap.size, 0, none⟩) n n) 48
  rw [show ((w.alloc (.cells cs 3)).alloc (.cells cs 3)).heap.size = w.heap.size + 1 + 1 by simp] at hb
  exact ⟨below_then (below_new w (.cells cs 3)) (below_then (below_new (w.alloc (.cells cs 3)) (.cells cs 3)) (below_new ((w.alloc (.cells cs 3)).alloc (.cells cs 3)) (.cells #[.int .i64 lab, .slice (some ⟨w.heap.size + 1, 0, none⟩) n n, .slice (some ⟨w.heap.size, 0, none⟩) n n] 48))), by omega, by omega, by omega, ⟨by omega, by omega, by omega⟩, hb, (nums_new (w.alloc (.cells cs 3)) n cs hc _ (by simp)).below (below_new ((w.alloc (.cells cs 3)).alloc (.cells cs 3)) (.cells #[.int .i64 lab, .slice (some ⟨w.heap.size + 1, 0, none⟩) n n, .slice (some ⟨w.heap.size, 0, none⟩) n n] 48)), ((nums_new w n cs hc _ (by simp)).below (below_new (w.alloc (.cells cs 3)) (.cells cs 3))).below (below_new ((w.alloc (.cells cs 3)).alloc (.cells cs 3)) (.cells #[.int .i64 lab, .slice (some ⟨w.heap.size + 1, 0, none⟩) n n, .slice (some ⟨w.heap.size, 0, none⟩) n n] 48))⟩

theorem tran_new231 (w : World) (lab : Int) (n : Nat) (cs : Array Value) (hc : ∀ j, j < n → cs[j]? = some (.int .i64 0)) :
    TranNew w (((w.alloc (.cells cs 3)).alloc (.cells #[.int .i64 lab, .slice (some ⟨w.heap.size + 1 + 1, 0, none⟩) n n, .slice (some ⟨w.heap.size, 0, none⟩) n n] 48)).alloc (.cells cs 3)) lab n (w.heap.size + 1) (w.heap.size + 1 + 1) w.heap.size (fun _ => 0) (fun _ => 0) := by
  have hb := box3_new (w.alloc (.cells cs 3)) (.int .i64 lab) (.slice (some ⟨w.heap.size + 1 + 1, 0, none⟩) n n) (.slice (some ⟨w.heap.size, 0, none⟩) n n) 48
  rw [show (w.alloc (.cells cs 3)).heap.size = w.heap.size + 1 by simp] at hb
  exact ⟨below_then (below_new w (.cells cs 3)) (below_then (below_new (w.alloc (.cells cs 3)) (.cells #[.int .i64 lab, .slice (some ⟨w.heap.size + 1 + 1, 0, none⟩) n n, .slice (some ⟨w.heap.size, 0, none⟩) n n] 48)) (below_new ((w.alloc (.cells cs 3)).alloc (.cells #[.int .i64 lab, .slice (some ⟨w.heap.size + 1 + 1, 0, none⟩) n n, .slice (some ⟨w.heap.size, 0, none⟩) n n] 48)) (.cells cs 3))), by omega, by omega, by omega, ⟨by omega, by omega, by omega⟩, (hb).below (below_new ((w.alloc (.cells cs 3)).alloc (.cells #[.int .i64 lab, .slice (some ⟨w.heap.size + 1 + 1, 0, none⟩) n n, .slice (some ⟨w.heap.size, 0, none⟩) n n] 48)) (.cells cs 3)), nums_new ((w.alloc (.cells cs 3)).alloc (.cells #[.int .i64 lab, .slice (some ⟨w.heap.size + 1 + 1, 0, none⟩) n n, .slice (some ⟨w.heap.size, 0, none⟩) n n] 48)) n cs hc _ (by simp), ((nums_new w n cs hc _ (by simp)).below (below_new (w.alloc (.cells cs 3)) (.cells #[.int .i64 lab, .slice (some ⟨w.heap.size + 1 + 1, 0, none⟩) n n, .slice (some ⟨w.heap.size, 0, none⟩) n n] 48))).below (below_new ((w.alloc (.cells cs 3)).alloc (.cells #[.int .i64 lab, .slice (some ⟨w.heap.size + 1 + 1, 0, none⟩) n n, .slice (some ⟨w.heap.size, 0, none⟩) n n] 48)) (.cells cs 3))⟩

theorem tran_new312 (w : World) (lab : Int) (n : Nat) (cs : Array Value) (hc : ∀ j, j < n → cs[j]? = some (.int .i64 0)) :
    TranNew w (((w.alloc (.cells #[.int .i64 lab, .slice (some ⟨w.heap.size + 1, 0, none⟩) n n, .slice (some ⟨w.heap.size + 1 + 1, 0, none⟩) n n] 48)).alloc (.cells cs 3)).alloc (.cells cs 3)) lab n w.heap.size (w.heap.size + 1) (w.heap.size + 1 + 1) (fun _ => 0) (fun _ => 0) := by
  have hb := box3_new w (.int .i64 lab) (.slice (some ⟨w.heap.size + 1, 0, none⟩) n n) (.slice (some ⟨w.heap.size + 1 + 1, 0, none⟩) n n) 48
  rw [show w.heap.size = w.heap.size by simp] at hb
  exact ⟨below_then (below_new w (.cells #[.int .i64 lab, .slice (some ⟨w.heap.size + 1, 0, none⟩) n n, .slice (some ⟨w.heap.size + 1 + 1, 0, none⟩) n n] 48)) (below_then (below_new (w.alloc (.cells #[.int .i64 lab, .slice (some ⟨w.heap.size + 1, 0, none⟩) n n, .slice (some ⟨w.heap.size + 1 + 1, 0, none⟩) n n] 48)) (.cells cs 3)) (below_new ((w.alloc (.cells #[.int .i64 lab, .slice (some ⟨w.heap.size + 1, 0, none⟩) n n, .slice (some ⟨w.heap.size + 1 + 1, 0, none⟩) n n] 48)).alloc (.cells cs 3)) (.cells cs 3))), by omega, by omega, by omega, ⟨by omega, by omega, by omega⟩, ((hb).below (below_new (w.alloc (.cells #[.int .i64 lab, .slice (some ⟨w.heap.size + 1, 0, none⟩) n n, .slice (some ⟨w.heap.size + 1 + 1, 0, none⟩) n n] 48)) (.cells cs 3))).below (below_new ((w.alloc (.cells #[.int .i64 lab, .slice (some ⟨w.heap.size + 1, 0, none⟩) n n, .slice (some ⟨w.heap.size + 1 + 1, 0, none⟩) n n] 48)).alloc (.cells cs 3)) (.cells cs 3)), (nums_new (w.alloc (.cells #[.int .i64 lab, .slice (some ⟨w.heap.size + 1, 0, none⟩) n n, .slice (some ⟨w.heap.size + 1 + 1, 0, none⟩) n n] 48)) n cs hc _ (by simp)).below (below_new ((w.alloc (.cells #[.int .i64 lab, .slice (some ⟨w.heap.size + 1, 0, none⟩) n n, .slice (some ⟨w.heap.size + 1 + 1, 0, none⟩) n n] 48)).alloc (.cells cs 3)) (.cells cs 3)), nums_new ((w.alloc (.cells #[.int .i64 lab, .slice (some ⟨w.heap.size + 1, 0, none⟩) n n, .slice (some ⟨w.heap.size + 1 + 1, 0, none⟩) n n] 48)).alloc (.cells cs 3)) n cs hc _ (by simp)⟩

theorem tran_new321 (w : World) (lab : Int) (n : Nat) (cs : Array Value) (hc : ∀ j, j < n → cs[j]? = some (.int .i64 0)) :
    TranNew w (((w.alloc (.cells #[.int .i64 lab, .slice (some ⟨w.heap.size + 1 + 1, 0, none⟩) n n, .slice (some ⟨w.heap.size + 1, 0, none⟩) n n] 48)).alloc (.cells cs 3)).alloc (.cells cs 3)) lab n w.heap.size (w.heap.size + 1 + 1) (w.heap.size + 1) (fun _ => 0) (fun _ => 0) := by
  have hb := box3_new w (.int .i64 lab) (.slice (some ⟨w.heap.size + 1 + 1, 0, none⟩) n n) (.slice (some ⟨w.heap.size + 1, 0, none⟩) n n) 48
  rw [show w.heap.size = w.heap.size by simp] at hb
  exact ⟨below_then (below_new w (.cells #[.int .i64 lab, .slice (some ⟨w.heap.size + 1 + 1, 0, none⟩) n n, .slice (some ⟨w.heap.size + 1, 0, none⟩) n n] 48)) (below_then (below_new (w.alloc (.cells #[.int .i64 lab, .slice (some ⟨w.heap.size + 1 + 1, 0, none⟩) n n, .slice (some ⟨w.heap.size + 1, 0, none⟩) n n] 48)) (.cells cs 3)) (below_new ((w.alloc (.cells #[.int .i64 lab, .slice (some ⟨w.heap.size + 1 + 1, 0, none⟩) n n, .slice (some ⟨w.heap.size + 1, 0, none⟩) n n] 48)).alloc (.cells cs 3)) (.cells cs 3))), by omega, by omega, by omega, ⟨by omega, by omega, by omega⟩, ((hb).below (below_new (w.alloc (.cells #[.int .i64 lab, .slice (some ⟨w.heap.size + 1 + 1, 0, none⟩) n n, .slice (some ⟨w.heap.size + 1, 0, none⟩) n n] 48)) (.cells cs 3))).below (below_new ((w.alloc (.cells #[.int .i64 lab, .slice (some ⟨w.heap.size + 1 + 1, 0, none⟩) n n, .slice (some ⟨w.heap.size + 1, 0, none⟩) n n] 48)).alloc (.cells cs 3)) (.cells cs 3)), nums_new ((w.alloc (.cells #[.int .i64 lab, .slice (some ⟨w.heap.size + 1 + 1, 0, none⟩) n n, .slice (some ⟨w.heap.size + 1, 0, none⟩) n n] 48)).alloc (.cells cs 3)) n cs hc _ (by simp), (nums_new (w.alloc (.cells #[.int .i64 lab, .slice (some ⟨w.heap.size + 1 + 1, 0, none⟩) n n, .slice (some ⟨w.heap.size + 1, 0, none⟩) n n] 48)) n cs hc _ (by simp)).below (below_new ((w.alloc (.cells #[.int .i64 lab, .slice (some ⟨w.heap.size + 1 + 1, 0, none⟩) n n, .slice (some ⟨w.heap.size + 1, 0, none⟩) n n] 48)).alloc (.cells cs 3)) (.cells cs 3))⟩

theorem wpl_append_tran {ops : Array Oper} {rest : List Oper} {o : Oper} {a : Act} {Q : Exit → Act → World → Prop} (hgd : o.guard = none) (s x : Operand)
    (ho : o.op = .call { callee := .builtin .append, args := #[s, x], argTypes := #[25, 25] }) (B : Nat) (wr : World) (v : Value) (tv : List (Int × Value × Value)) (lab : Int) (a1 a2 : Option Addr) (l1 l2 c1 c2 : Nat)
    (hown : wr.ownsRow B 48 3 v tv.length (tvCells tv)) (hs : a.eval s = v) (hx : a.eval x = .slice (some ⟨wr.heap.size, 0, none⟩) 1 1) (hl : tv.length + 1 ≤ 2513169434916) (hB : B ≤ wr.heap.size)
    (h : ∀ v' w', w'.ownsRow B 48 3 v' (tv.length + 1) (tvCells tv ++ [.int .i64 lab, .slice a1 l1 c1, .slice a2 l2 c2]) → (wr.alloc (.cells #[.int .i64 lab, .slice a1 l1 c1, .slice a2 l2 c2] 48)).grownBy w' v.ownBlock →
      (v'.ownBlock = v.ownBlock ∨ v'.ownBlock = some (wr.alloc (.cells #[.int .i64 lab, .slice a1 l1 c1, .slice a2 l2 c2] 48)).heap.size) → wpList Try.prog ops Q rest (a.put o.dst v') w') :
    wpList Try.prog ops Q (o :: rest) a (wr.alloc (.cells #[.int .i64 lab, .slice a1 l1 c1, .slice a2 l2 c2] 48)) := by
  obtain ⟨i0, hi, hz0, hz1, hz2⟩ := info_parts info_tran
  refine wpList_append_own_at _ hgd s x 25 ho B 48 i0 _ 3 56 Try.underlying25 hi hz0 hz1 hz2 rfl (by decide) v tv.length _ hs (hown.alloc _) ⟨wr.heap.size, 0, none⟩ 1 1 [.int .i64 lab, .slice a1 l1 c1, .slice a2 l2 c2] hx rfl ?_ ?_ ?_ ?_ ?_ ?_
  · intro j u hj
    rw [addr_add, World.cell?_alloc_at _ _ _ _ rfl]
    match j, hj with
    | 0, hj => simpa using hj
    | 1, hj => simpa using hj
    | 2, hj => simpa using hj
  · intro u hu
    simp only [List.mem_cons, List.not_mem_nil, or_false] at hu
    rcases hu with rfl | rfl | rfl <;> rfl
  · unfold maxLen; omega
  · omega
  · simp; omega
  · intro v' w' h1 h2 _ h3
    exact h v' w' h1 h2 h3

theorem results_netK {fn : Func} {p u : Tmp} {tmps : Array Value} {w : World} {b : Nat} {x y v : Value} (h : fn.results = #[.cell p 27, .tmp u]) (hp : tmps.getD p undef = .pointer (some ⟨b, 0, none⟩)) (hu : tmps.getD u undef = v) (h1 : w.cell? ⟨b, 0, none⟩ = some x) (h2 : w.cell? ⟨b, 1, none⟩ = some y) :
    (results fn tmps).run Try.prog w = .ok (.tuple #[.agg #[x, y], v]) w := by
  rw [results_cell_tmp h, hp, hu]
  simp [asAddr, go_sem, h1, h2]

/-- A link, where it lies. -/
theorem KL.elem {D : Nat → Prop} {w : World} {v : Value} {l : List LinkL} {tv : List (Int × Value × Value)} (h : KL D w v l tv) {j : Nat} (hj : j < l.length) :
    ∃ b off cap s1 s2, v = .slice (some ⟨b, off, none⟩) l.length cap ∧ b < w.heap.size ∧ w.cell? ⟨b, off + j * 3, none⟩ = some (.int .i64 (linkAt l j).label) ∧ w.cell? ⟨b, off + j * 3 + 1, none⟩ = some s1 ∧ w.cell? ⟨b, off + j * 3 + 2, none⟩ = some s2 ∧ Ints w s1 (intsN (linkAt l j).src) ∧ Ints w s2 (intsN (linkAt l j).dst) := by
  have hjt : j < tv.length := by rw [h.len]; exact hj
  obtain ⟨a, len, cap, e, hl, hs, hc⟩ := h.row.now
  obtain ⟨q1, q2, q3⟩ := tvCells_at tv j hjt
  obtain ⟨e1, i1, i2⟩ := h.els j hjt
  obtain ⟨b, off, rfl, hb, c1⟩ := hc _ _ q1
  obtain ⟨b', off', e', _, c2⟩ := hc _ _ q2
  obtain ⟨b'', off'', e'', _, c3⟩ := hc _ _ q3
  injection e' with e'; injection e' with e1' e2'; subst e1' e2'
  injection e'' with e''; injection e'' with e1' e2'; subst e1' e2'
  have : len = l.length := by rw [← hl, h.len]
  subst this
  exact ⟨b, off, cap, _, _, e, hb, by rw [c1, e1], c2, c3, i1.now, i2.now⟩

set_option maxHeartbeats 8000000 in
theorem kgrow_any (v : Value) (b : BlockL) (w : World) (hv : BlockV w v b) :
    Calls Try.prog 8 #[v] w fun e w' => ∃ r, e = .returned (.tuple #[r, .int .i64 (growL b).2]) ∧ Net w' r (growL b).1 ∧ Below w.heap.size w w' := by
  obtain ⟨a, len0, cap, e0⟩ : ∃ a l c, v = .agg #[.int .i64 b.kind, .int .i64 b.label, .slice a l c] := by obtain ⟨kv, e, hK⟩ := blockV_iff.1 hv; obtain ⟨a, c, e2, _⟩ := hK.slice; exact ⟨a, _, c, by rw [e, e2]⟩
  subst e0
  have b1 := below_new w (.cells #[.int .i64 b.kind, .int .i64 b.label, .slice a len0 cap] 24)
  have b2 := below_new (w.alloc (.cells #[.int .i64 b.kind, .int .i64 b.label, .slice a len0 cap] 24)) (.cells #[.int .i64 0, .slice none 0 0] 27)
  have hbx := (box3_new w (.int .i64 b.kind) (.int .i64 b.label) (.slice a len0 cap) 24).below b2
  have hres := heap_alloc_at (w.alloc (.cells #[.int .i64 b.kind, .int .i64 b.label, .slice a len0 cap] 24)) (.cells #[.int .i64 0, .slice none 0 0] 27)
  rw [show (w.alloc (.cells #[.int .i64 b.kind, .int .i64 b.label, .slice a len0 cap] 24)).heap.size = w.heap.size + 1 by simp] at hres
  have c := below_then b1 b2
  obtain ⟨W, HW⟩ : ∃ W, Hid ((w.alloc (.cells #[.int .i64 b.kind, .int .i64 b.label, .slice a len0 cap] 24)).alloc (.cells #[.int .i64 0, .slice none 0 0] 27) = W) := ⟨_, rfl⟩
  rw [HW.out] at hbx hres c
  have hv1 := hv.below c
  obtain ⟨x0, x1, x2, x3⟩ := id hbx
  clear b1 b2
  go_enter Try.func8, Try.ntmps8
  go_upto_region 1 with fail
  rw [HW.out]
  clear HW
  go_wp2_with fail
  refine (jwrong0_any _ b _ (by exact hv1)).mono ?_
  rintro e w2 ⟨rfl, bw⟩
  have hbx2 := hbx.below bw
  have hres2 : w2.heap[w.heap.size + 1]? = some (.cells #[.int .i64 0, .slice none 0 0] 27 (0, 0)) := by rw [bw.block _ (Array.getElem?_eq_some_iff.1 hres).1]; exact hres
  have c2 := below_then c bw
  obtain ⟨E, HE⟩ : ∃ E, Hid (wrongB b = E) := ⟨_, rfl⟩
  rw [HE.out]
  clear x0 x1 x2 x3 hbx hres c bw
  by_cases he : E = 0
  · subst he
    have hR : RightB b := wrong_zero.1 HE.out
    obtain ⟨x0, x1, x2, x3⟩ := id hbx2
    have hcnt : cntB 41 b ≤ 40 := hR.2
    have hcall := kbet_any 41 b hR.1 hR.fit (fun _ => True) _ 0 1 ⟨2, []⟩ (.slice none 0 0) [] w2 (hv.below c2) (fun _ _ => trivial) (KL.nil _ _) (by simp only; omega) (by simp only [List.length_nil]; omega)
    have Hcall : Hid (Calls Try.prog 23 #[.agg #[.int .i64 b.kind, .int .i64 b.label, .slice a len0 cap], .int .i64 0, .int .i64 1, .agg #[.int .i64 2, .slice none 0 0]] w2 (Answers (fun _ => True) w2 (grownB b))) := hcall
    have HR : Hid _ := hR
    clear hcall hR hcnt
    go_wp2_with fail
    refine Calls.mono Hcall.out ?_
    rintro e w3 ⟨lv, tv, rfl, hL, b3⟩
    clear Hcall
    obtain ⟨g, Hg⟩ : ∃ g, Hid (grownB b = g) := ⟨_, rfl⟩
    rw [Hg.out] at hL ⊢
    obtain ⟨al, cl, rfl, hshl⟩ := hL.slice
    obtain ⟨n, Hn⟩ : ∃ n, Hid (g.places = n) := ⟨_, rfl⟩
    obtain ⟨len, Hlen⟩ : ∃ len, Hid (g.links.length = len) := ⟨_, rfl⟩
    rw [Hn.out, Hlen.out]
    have b4 := below_new w3 (.cells #[.int .i64 (n : Int), .slice al len cl] 60)
    have hgx := box2_new w3 (.int .i64 (n : Int)) (.slice al len cl) 60
    obtain ⟨w4, Hw4⟩ : ∃ w4, Hid (w3.alloc (.cells #[.int .i64 (n : Int), .slice al len cl] 60) = w4) := ⟨_, rfl⟩
    rw [Hw4.out] at b4 hgx
    have Hsz4 : Hid (w4.heap.size = w3.heap.size + 1) := by show _ = _; rw [← Hw4.out]; simp
    have c3 := below_then c2 b3
    have c4 := below_then c3 b4
    have hres3 : w3.heap[w.heap.size + 1]? = some (.cells #[.int .i64 0, .slice none 0 0] 27 (0, 0)) := by rw [b3.block _ (Array.getElem?_eq_some_iff.1 hres2).1]; exact hres2
    have hres4 : w4.heap[w.heap.size + 1]? = some (.cells #[.int .i64 0, .slice none 0 0] 27 (0, 0)) := by rw [b4.block _ (Array.getElem?_eq_some_iff.1 hres3).1]; exact hres3
    have hL4 := hL.below b4
    have Hr4 : Hid (w.heap.size + 1 < w4.heap.size) := (Array.getElem?_eq_some_iff.1 hres4).1
    have n0 : w4.cell? ⟨w.heap.size + 1, 0, none⟩ = some (.int .i64 0) := by simp [World.cell?, hres4]
    have n1 : w4.cell? ⟨w.heap.size + 1, 1, none⟩ = some (.slice none 0 0) := by simp [World.cell?, hres4]
    have g0 : w4.frozen? ⟨w.heap.size + 1, 0, none⟩ = false := by simp [World.frozen?, hres4]
    have g1 : w4.frozen? ⟨w.heap.size + 1, 1, none⟩ = false := by simp [World.frozen?, hres4]
    have HL4 : Hid (KL (fun _ => True) w4 (.slice al len cl) g.links tv) := by have := hL4; rw [Hlen.out] at this; exact this
    clear x0 x1 x2 x3 hbx2 hres2 hres3 hres4 b3 c3 hL4 hL hv hshl c2
    obtain ⟨y0, y1, y2⟩ := id hgx
    go_upto_region 5 with fail
    rw [Hw4.out]
    clear Hw4 b4
    by_cases hn16 : n ≤ 16
    · by_cases hl24 : len ≤ 24
      · have HRR : Hid (growL b = (netG g, 0)) := by show _ = _; unfold growL; rw [if_neg (by rw [HE.out]; decide), Hg.out, Hn.out, Hlen.out, if_pos ⟨hn16, hl24⟩]
        have t1 : decide ((16 : Int) < (n : Int)) = false := by simp; omega
        have t2 : decide ((24 : Int) < (len : Int)) = false := by simp; omega
        have HN : Hid (w4.cell? ⟨w.heap.size + 1, 0, none⟩ = some (.int .i64 0) ∧ w4.cell? ⟨w.heap.size + 1, 1, none⟩ = some (.slice none 0 0) ∧ w4.frozen? ⟨w.heap.size + 1, 0, none⟩ = false ∧ w4.frozen? ⟨w.heap.size + 1, 1, none⟩ = false) := ⟨n0, n1, g0, g1⟩
        obtain ⟨St, hOne⟩ := grown_one HR.out (by rw [Hg.out]; exact ⟨by rw [Hn.out]; exact hn16, by rw [Hlen.out]; exact hl24⟩)
        have Hin : Hid (InG g) := by show InG g; rw [← Hg.out]; exact hOne.ins
        have Hnod : Hid (NodG g) := by show NodG g; rw [← Hg.out]; exact grown_nod b
        clear n0 n1 g0 g1 hOne
        have hst := turn_start w4 (n : Int) (turnL (netG g)).trans w4.heap.size rfl
        have bn := below_new w4 (.cells #[.int .i64 (n : Int), .slice none 0 0] 27)
        obtain ⟨W1, HW1⟩ : ∃ W1, Hid (w4.alloc (.cells #[.int .i64 (n : Int), .slice none 0 0] 27) = W1) := ⟨_, rfl⟩
        rw [HW1.out] at hst bn
        obtain ⟨u0, u1, u2⟩ := Box2.below hgx bn
        go_upto_region 8 with fail
        rw [HW1.out]
        clear HW1
        go_wp2_with fail
        clear y0 y1 y2 u0 u1 u2
        have Hst0 : Hid (TurnOut w4.heap.size (n : Int) w4 W1 (turnL (netG g)).trans (.slice none 0 0) []) := hst
        have Hgx : Hid (Box2 w4 w3.heap.size (.int .i64 (n : Int)) (.slice al len cl)) := hgx
        clear hst bn hgx
        go_loopg [39] len (fun gk i wr => ∃ (k : Nat) (ov : Value) (tv' : List (Int × Value × Value)), k + gk = len ∧ i = .int .i64 k ∧ Hid (tv'.length = k) ∧ TurnOut w4.heap.size (n : Int) w4 wr (turnL (netG g)).trans ov tv')
        case atStart => exact ⟨0, _, [], by omega, rfl, rfl, Hst0.out⟩
        case round =>
          clear Hst0
          obtain ⟨k, ov, tv', hkg, rfl, Hk, hO⟩ := hrel
          have hbw : Below w4.heap.size w4 wr := hO.below
          have hgr := Box2.below Hgx.out hbw
          by_cases hkn : k < len
          · have Hkl : Hid (k < g.links.length) := by show _ < _; rw [Hlen.out]; exact hkn
            obtain ⟨gb, off, cp, s1, s2, e, hblt, h0, h1, h2, i1, i2⟩ := (HL4.out.below hbw).elem Hkl.out
            rw [Hlen.out] at e
            injection e with e1 e2 e3
            subst e1 e3
            clear e2
            have Htr : Hid _ := netG_turned Hkl.out
            have Hsd : Hid ((∀ r ∈ (linkAt g.links k).src, r < n) ∧ ∀ r ∈ (linkAt g.links k).dst, r < n) := by
              have := Hin.out _ (List.getElem_mem Hkl.out)
              rw [← linkAt_get Hkl.out, Hn.out] at this
              exact this
            have Hnd : Hid ((linkAt g.links k).src.Nodup ∧ (linkAt g.links k).dst.Nodup) := by
              have := Hnod.out _ (List.getElem_mem Hkl.out)
              rw [← linkAt_get Hkl.out] at this
              exact this
            rw [Hn.out] at Htr
            generalize linkAt g.links k = t at *
            obtain ⟨a1, l1, p1, e1, hl1, _⟩ := id i1
            obtain ⟨a2, l2, p2, e2, hl2, _⟩ := id i2
            rw [intsN_length] at hl1 hl2
            subst e1 e2
            have hbn := below_new wr (.cells #[.int .i64 t.label, .slice a1 l1 p1, .slice a2 l2 p2] 63)
            have hx3 := box3_new wr (.int .i64 t.label) (.slice a1 l1 p1) (.slice a2 l2 p2) 63
            obtain ⟨wt, Hwt⟩ : ∃ wt, Hid (wr.alloc (.cells #[.int .i64 t.label, .slice a1 l1 p1, .slice a2 l2 p2] 63) = wt) := ⟨_, rfl⟩
            rw [Hwt.out] at hbn hx3
            go_upto_region 11 with fail
            rw [Hwt.out]
            have hgt := Box2.below hgr hbn
            replace i1 := i1.below hbn
            replace i2 := i2.below hbn
            clear h0 h1 h2 Hwt hgr
            obtain ⟨cs, hmk, hcs⟩ := make_zero n (by omega)
            obtain ⟨x0, x1, x2, x3⟩ := id hx3
            obtain ⟨y0, y1, y2⟩ := id hgt
            go_cut [9] (fun p wc => ∃ bt bp bq, p = .pointer (some ⟨bt, 0, none⟩) ∧ TranNew wt wc t.label n bt bp bq (fun _ => 0) (fun _ => 0))
            case first =>
              have hne1 : ¬ wr.heap.size = w3.heap.size := by have := hO.size; have := Hsz4.out; omega
              have hlt1 : wr.heap.size < wt.heap.size := hx3.1
              have hlt2 : w3.heap.size < wt.heap.size := hgt.1
              have q1 : ∀ o, (wt.alloc o).cell? ⟨wr.heap.size, 0, none⟩ = some (.int .i64 t.label) := fun o => (hx3.below (below_new wt o)).2.1
              have q2 : ∀ o o', ((wt.alloc o).alloc o').cell? ⟨wr.heap.size, 0, none⟩ = some (.int .i64 t.label) := fun o o' => (hx3.below (below_then (below_new wt o) (below_new _ o'))).2.1
              have q3 : ∀ o o' o'', (((wt.alloc o).alloc o').alloc o'').cell? ⟨wr.heap.size, 0, none⟩ = some (.int .i64 t.label) := fun o o' o'' => (hx3.below (below_then (below_new wt o) (below_then (below_new _ o') (below_new _ o'')))).2.1
              have r1 : ∀ o, (wt.alloc o).cell? ⟨w3.heap.size, 0, none⟩ = some (.int .i64 (n : Int)) := fun o => (Box2.below hgt (below_new wt o)).2.1
              have r2 : ∀ o o', ((wt.alloc o).alloc o').cell? ⟨w3.heap.size, 0, none⟩ = some (.int .i64 (n : Int)) := fun o o' => (Box2.below hgt (below_then (below_new wt o) (below_new _ o'))).2.1
              have r3 : ∀ o o' o'', (((wt.alloc o).alloc o').alloc o'').cell? ⟨w3.heap.size, 0, none⟩ = some (.int .i64 (n : Int)) := fun o o' o'' => (Box2.below hgt (below_then (below_new wt o) (below_then (below_new _ o') (below_new _ o'')))).2.1
              have A1 := (tran_new123 wt t.label n cs hcs).drew
              have A2 := (tran_new132 wt t.label n cs hcs).drew
              have A3 := (tran_new213 wt t.label n cs hcs).drew
              have A4 := (tran_new231 wt t.label n cs hcs).drew
              have A5 := (tran_new312 wt t.label n cs hcs).drew
              have A6 := (tran_new321 wt t.label n cs hcs).drew
              go_region
              all_goals
                clear hmk q1 q2 q3 r1 r2 r3
                go_wp2_with fail
                go_meet
                first | exact ⟨_, _, _, rfl, A1⟩ | exact ⟨_, _, _, rfl, A2⟩ | exact ⟨_, _, _, rfl, A3⟩ | exact ⟨_, _, _, rfl, A4⟩ | exact ⟨_, _, _, rfl, A5⟩ | exact ⟨_, _, _, rfl, A6⟩
            case rest =>
              obtain ⟨bt, bp, bq, rfl, hN⟩ := hcut
              clear hmk hcs x0 x1 x2 x3 y0 y1 y2
              obtain ⟨w5, rfl⟩ : ∃ w5, w5 = wc := ⟨_, rfl⟩
              obtain ⟨wo, rfl⟩ : ∃ wo, wo = wr := ⟨_, rfl⟩
              obtain ⟨ko, rfl⟩ : ∃ ko, ko = gk := ⟨_, rfl⟩
              obtain ⟨x0, x1, x2, x3⟩ := hx3.below hN.below
              have HN5 : Hid (TranNew wt w5 t.label n bt bp bq (tok (t.src.take 0)) (fun _ => 0)) := by
                have e : (fun _ => (0 : Int)) = tok (t.src.take 0) := by funext j; simp [tok]
                have h := hN
                rw [← e]; exact h
              clear hN
              go_wp2_with fail
              clear x0 x1 x2 x3
              go_loopg [55] l1 (fun gk i wr => ∃ j : Nat, j + gk = l1 ∧ i = .int .i64 j ∧ Hid (TranNew wt wr t.label n bt bp bq (tok (t.src.take j)) (fun _ => 0)))
              case atStart => exact ⟨0, by omega, rfl, HN5⟩
              case round =>
                clear HN5
                obtain ⟨j, hjg, rfl, HN⟩ := hrel
                by_cases hj : j < l1
                · have Hjl : Hid (j < t.src.length) := by show _ < _; omega
                  obtain ⟨b0, o0, rfl, _, hblt2, hc⟩ := ints_cell i1 (j := j) (by rw [intsN_length]; exact Hjl.out)
                  rw [intsN_at Hjl.out] at hc
                  have hrn : t.src[j]'Hjl.out < n := Hsd.out.1 _ (List.getElem_mem _)
                  have Ht : Hid _ := tok_take Hjl.out
                  have Hz : Hid _ := tok_next Hjl.out Hnd.out.1
                  obtain ⟨r, Hr⟩ : ∃ r, Hid (t.src[j]'Hjl.out = r) := ⟨_, rfl⟩
                  rw [Hr.out] at hc hrn Ht Hz
                  replace hc := (HN.out.below.cell (p := ⟨b0, o0 + j, none⟩) hblt2).trans hc
                  obtain ⟨d0, d1⟩ := HN.out.pre.cells r hrn
                  rw [Hz.out] at d0
                  obtain ⟨v0, v1, v2, v3⟩ := HN.out.box
                  have R : Hid (TranNew wt (wr.setCell ⟨bp, r, none⟩ (.int .i64 1)) t.label n bt bp bq (tok (t.src.take (j + 1))) (fun _ => 0)) := HN.out.putP hrn (by rw [Ht.out r, if_pos rfl]) fun i _ hi => by rw [Ht.out i, if_neg hi]
                  clear HN Ht Hz
                  go_wp2
                  go_roundg (gk - 1)
                  case measure => omega
                  case rel => exact ⟨j + 1, by omega, by go_num, R⟩
                · have ej : j = l1 := by omega
                  subst ej
                  have e : t.src.take j = t.src := List.take_of_length_le (by omega)
                  rw [e] at HN
                  obtain ⟨w6, rfl⟩ : ∃ w6, w6 = wr := ⟨_, rfl⟩
                  obtain ⟨x0, x1, x2, x3⟩ := hx3.below HN.out.below
                  have HN6 : Hid (TranNew wt w6 t.label n bt bp bq (tok t.src) (tok (t.dst.take 0))) := by
                    have e : (fun _ => (0 : Int)) = tok (t.dst.take 0) := by funext j; simp [tok]
                    have h := HN.out
                    rw [← e]; exact h
                  clear HN
                  go_wp2_with fail
                  clear x0 x1 x2 x3
                  go_loopg [70] l2 (fun gk i wr => ∃ j : Nat, j + gk = l2 ∧ i = .int .i64 j ∧ Hid (TranNew wt wr t.label n bt bp bq (tok t.src) (tok (t.dst.take j))))
                  case atStart => exact ⟨0, by omega, rfl, HN6⟩
                  case round =>
                    clear HN6
                    obtain ⟨j2, hjg2, rfl, HN⟩ := hrel
                    by_cases hj2 : j2 < l2
                    · have Hjl : Hid (j2 < t.dst.length) := by show _ < _; omega
                      obtain ⟨b0, o0, rfl, _, hblt2, hc⟩ := ints_cell i2 (j := j2) (by rw [intsN_length]; exact Hjl.out)
                      rw [intsN_at Hjl.out] at hc
                      have hrn : t.dst[j2]'Hjl.out < n := Hsd.out.2 _ (List.getElem_mem _)
                      have Ht : Hid _ := tok_take Hjl.out
                      have Hz : Hid _ := tok_next Hjl.out Hnd.out.2
                      obtain ⟨r, Hr⟩ : ∃ r, Hid (t.dst[j2]'Hjl.out = r) := ⟨_, rfl⟩
                      rw [Hr.out] at hc hrn Ht Hz
                      replace hc := (HN.out.below.cell (p := ⟨b0, o0 + j2, none⟩) hblt2).trans hc
                      obtain ⟨d0, d1⟩ := HN.out.post.cells r hrn
                      rw [Hz.out] at d0
                      obtain ⟨v0, v1, v2, v3⟩ := HN.out.box
                      have R : Hid (TranNew wt (wr.setCell ⟨bq, r, none⟩ (.int .i64 1)) t.label n bt bp bq (tok t.src) (tok (t.dst.take (j2 + 1)))) := HN.out.putQ hrn (by rw [Ht.out r, if_pos rfl]) fun i _ hi => by rw [Ht.out i, if_neg hi]
                      clear HN Ht Hz
                      go_wp2
                      go_roundg (gk - 1)
                      case measure => omega
                      case rel => exact ⟨j2 + 1, by omega, by go_num, R⟩
                    · have ej : j2 = l2 := by omega
                      subst ej
                      have e : t.dst.take j2 = t.dst := List.take_of_length_le (by omega)
                      rw [e] at HN
                      have hb7 : Below wo.heap.size wo wr := below_then hbn HN.out.below
                      have hO7 := hO.to hb7
                      have o1 := hO7.c1
                      have o2 := hO7.f1
                      have o3 := (hO7.to (below_new wr (.cells #[.int .i64 t.label, .slice (some ⟨bp, 0, none⟩) n n, .slice (some ⟨bq, 0, none⟩) n n] 48))).c1
                      obtain ⟨v0, v1, v2, v3⟩ := HN.out.box
                      have Hlk : Hid (tv'.length + 1 ≤ 2513169434916) := by show _ ≤ _; have := Hk.out; omega
                      have hs7 := hbn.size
                      have k1 := (HN.out.pre.ints (zs := weightG n t.src) (weight_length _ _) (fun j hj => mapTo_nth _ _ _ hj) (by omega)).weaken (D' := fun k => wo.heap.size ≤ k) fun k _ hk => by have := HN.out.bp0; omega
                      have k2 := (HN.out.post.ints (zs := weightG n t.dst) (weight_length _ _) (fun j hj => mapTo_nth _ _ _ hj) (by omega)).weaken (D' := fun k => wo.heap.size ≤ k) fun k _ hk => by have := HN.out.bq0; omega
                      have Hst : Hid _ := fun wC v' => @TurnOut.step _ _ _ _ wr wC (wr.alloc (.cells #[.int .i64 t.label, .slice (some ⟨bp, 0, none⟩) n n, .slice (some ⟨bq, 0, none⟩) n n] 48)) _ _ v' _ t.label (.slice (some ⟨bp, 0, none⟩) n n) (.slice (some ⟨bq, 0, none⟩) n n) hO hb7 (by rw [Hk.out, Htr.out]; exact k1) (by rw [Hk.out, Htr.out]; exact k2) (by rw [Hk.out, Htr.out]) (below_new _ _)
                      clear k1 k2 HN
                      go_wp2_with (at_builtin; refine wpl_append_tran rfl _ _ rfl (w4.heap.size + 1) wr ov tv' t.label _ _ _ _ _ _ hO7.own rfl rfl Hlk.out hO7.size ?_; intro v' wC hC hgC hatC; obtain ⟨av, lv, cv, rfl⟩ := ownsRow_slice hC; obtain ⟨oC1, oC2, hcc⟩ := hO.after (below_then hb7 (below_new _ _)) hgC)
                      have R := Hst.out _ _ hC hgC hatC
                      have Hk2 : Hid ((tv' ++ [(t.label, Value.slice (some ⟨bp, 0, none⟩) n n, Value.slice (some ⟨bq, 0, none⟩) n n)]).length = k + 1) := by show _ = _; have := Hk.out; simp [this]
                      clear hC hgC hatC Hst hcc oC1 oC2 o1 o2 o3 hO hO7 v0 v1 v2 v3
                      go_roundg (ko - 1)
                      case measure => omega
                      case rel => exact ⟨k + 1, _, _, by omega, by go_num, Hk2, R⟩
          · obtain rfl : k = len := by omega
            obtain ⟨z0, z1⟩ := And.intro hO.c0 hO.c1
            have hsl : ∃ a c, ov = .slice a k c := by
              have := hO.own
              rw [Hk.out] at this
              rcases this.2 with ⟨e, h0⟩ | ⟨gb, c, cur, e, _⟩
              · exact ⟨none, 0, by rw [e, h0]⟩
              · exact ⟨_, _, e⟩
            obtain ⟨ax, cx, rfl⟩ := hsl
            have hlt : w.heap.size + 1 < w4.heap.size := Hr4.out
            have n0 := (hbw.cell (p := ⟨w.heap.size + 1, 0, none⟩) hlt).trans HN.out.1
            have n1 := (hbw.cell (p := ⟨w.heap.size + 1, 1, none⟩) hlt).trans HN.out.2.1
            have g0 := (hbw.frozen (p := ⟨w.heap.size + 1, 0, none⟩) hlt).trans HN.out.2.2.1
            have g1 := (hbw.frozen (p := ⟨w.heap.size + 1, 1, none⟩) hlt).trans HN.out.2.2.2
            obtain ⟨wf, Hwf⟩ : ∃ wf, Hid ((wr.setCell ⟨w.heap.size + 1, 0, none⟩ (.int .i64 (n : Int))).setCell ⟨w.heap.size + 1, 1, none⟩ (.slice ax k cx) = wf) := ⟨_, rfl⟩
            have z3 : wf.cell? ⟨w.heap.size + 1, 0, none⟩ = some (.int .i64 (n : Int)) := by rw [← Hwf.out, World.cell?_setCell_other _ _ _ _ (by simp), World.cell?_setCell_same _ _ _ n0]
            have z4 : wf.cell? ⟨w.heap.size + 1, 1, none⟩ = some (.slice ax k cx) := by rw [← Hwf.out, World.cell?_setCell_same _ _ _ (by rw [World.cell?_setCell_other _ _ _ _ (by simp)]; exact n1)]
            have cf : Below w.heap.size w wf := by rw [← Hwf.out]; exact ((below_then c4 hbw).setCell (p := ⟨w.heap.size + 1, 0, none⟩) (by simp) _).setCell (p := ⟨w.heap.size + 1, 1, none⟩) (by simp) _
            have hTr : Trans wf (.slice ax k cx) (netG g).trans := by
              have h1 := hO.reads (us := (netG g).trans) (by have := Hk.out; omega) (by rw [net_count, Hk.out, Hlen.out]) (fun j hj => by
                have hjl : j < g.links.length := by have := Hk.out; have := Hlen.out; omega
                rw [netG_turned hjl, net_tran_at hjl, linkAt_get hjl]; exact ⟨rfl, rfl, rfl⟩)
              rw [← Hwf.out]
              exact ((h1.set (a := ⟨w.heap.size + 1, 0, none⟩) (by simp; omega) _).set (a := ⟨w.heap.size + 1, 1, none⟩) (by simp; omega) _).now
            have HF : Hid (Net wf (.agg #[.int .i64 (n : Int), .slice ax k cx]) (netG g)) := ⟨_, by show _ = Value.agg #[.int .i64 (g.places : Int), _]; rw [Hn.out], hTr⟩
            clear hTr
            go_wp2
            rw [Hwf.out]
            refine bodyPost_ret (v := .tuple #[.agg #[.int .i64 (n : Int), .slice ax k cx], .int .i64 0]) (results_netK rfl rfl rfl z3 z4) rfl ⟨_, by rw [HRR.out], ?_, cf⟩
            rw [HRR.out]; exact HF.out
      · have HRR : Hid (growL b = (⟨0, []⟩, 4)) := by show _ = _; unfold growL; rw [if_neg (by rw [HE.out]; decide), Hg.out, Hn.out, Hlen.out, if_neg (fun h => hl24 h.2)]
        have t1 : decide ((16 : Int) < (n : Int)) = false := by simp; omega
        have t2 : decide ((24 : Int) < (len : Int)) = true := by simp; omega
        obtain ⟨wf, Hwf⟩ : ∃ wf, Hid ((w4.setCell ⟨w.heap.size + 1, 0, none⟩ (.int .i64 0)).setCell ⟨w.heap.size + 1, 1, none⟩ (.slice none 0 0) = wf) := ⟨_, rfl⟩
        have z1 : wf.cell? ⟨w.heap.size + 1, 0, none⟩ = some (.int .i64 0) := by rw [← Hwf.out, World.cell?_setCell_other _ _ _ _ (by simp), World.cell?_setCell_same _ _ _ n0]
        have z2 : wf.cell? ⟨w.heap.size + 1, 1, none⟩ = some (.slice none 0 0) := by rw [← Hwf.out, World.cell?_setCell_same _ _ _ (by rw [World.cell?_setCell_other _ _ _ _ (by simp)]; exact n1)]
        have cf : Below w.heap.size w wf := by rw [← Hwf.out]; exact (c4.setCell (p := ⟨w.heap.size + 1, 0, none⟩) (by simp) _).setCell (p := ⟨w.heap.size + 1, 1, none⟩) (by simp) _
        go_wp2
        rw [Hwf.out]
        refine bodyPost_ret (v := .tuple #[.agg #[.int .i64 0, .slice none 0 0], .int .i64 4]) (results_netK rfl rfl rfl z1 z2) rfl ⟨_, by rw [HRR.out], ?_, cf⟩
        rw [HRR.out]; exact net_zero _
    · have HRR : Hid (growL b = (⟨0, []⟩, 4)) := by show _ = _; unfold growL; rw [if_neg (by rw [HE.out]; decide), Hg.out, Hn.out, Hlen.out, if_neg (fun h => hn16 h.1)]
      have t1 : decide ((16 : Int) < (n : Int)) = true := by simp; omega
      obtain ⟨wf, Hwf⟩ : ∃ wf, Hid ((w4.setCell ⟨w.heap.size + 1, 0, none⟩ (.int .i64 0)).setCell ⟨w.heap.size + 1, 1, none⟩ (.slice none 0 0) = wf) := ⟨_, rfl⟩
      have z1 : wf.cell? ⟨w.heap.size + 1, 0, none⟩ = some (.int .i64 0) := by rw [← Hwf.out, World.cell?_setCell_other _ _ _ _ (by simp), World.cell?_setCell_same _ _ _ n0]
      have z2 : wf.cell? ⟨w.heap.size + 1, 1, none⟩ = some (.slice none 0 0) := by rw [← Hwf.out, World.cell?_setCell_same _ _ _ (by rw [World.cell?_setCell_other _ _ _ _ (by simp)]; exact n1)]
      have cf : Below w.heap.size w wf := by rw [← Hwf.out]; exact (c4.setCell (p := ⟨w.heap.size + 1, 0, none⟩) (by simp) _).setCell (p := ⟨w.heap.size + 1, 1, none⟩) (by simp) _
      go_wp2
      rw [Hwf.out]
      refine bodyPost_ret (v := .tuple #[.agg #[.int .i64 0, .slice none 0 0], .int .i64 4]) (results_netK rfl rfl rfl z1 z2) rfl ⟨_, by rw [HRR.out], ?_, cf⟩
      rw [HRR.out]; exact net_zero _
  · have he' : (E != 0) = true := by simpa using he
    have R : Hid (growL b = (⟨0, []⟩, E)) := by show _ = _; unfold growL; rw [HE.out, if_pos he]
    have n0 : w2.cell? ⟨w.heap.size + 1, 0, none⟩ = some (.int .i64 0) := by simp [World.cell?, hres2]
    have n1 : w2.cell? ⟨w.heap.size + 1, 1, none⟩ = some (.slice none 0 0) := by simp [World.cell?, hres2]
    have g0 : w2.frozen? ⟨w.heap.size + 1, 0, none⟩ = false := by simp [World.frozen?, hres2]
    have g1 : w2.frozen? ⟨w.heap.size + 1, 1, none⟩ = false := by simp [World.frozen?, hres2]
    obtain ⟨wf, Hwf⟩ : ∃ wf, Hid ((w2.setCell ⟨w.heap.size + 1, 0, none⟩ (.int .i64 0)).setCell ⟨w.heap.size + 1, 1, none⟩ (.slice none 0 0) = wf) := ⟨_, rfl⟩
    have z1 : wf.cell? ⟨w.heap.size + 1, 0, none⟩ = some (.int .i64 0) := by rw [← Hwf.out, World.cell?_setCell_other _ _ _ _ (by simp), World.cell?_setCell_same _ _ _ n0]
    have z2 : wf.cell? ⟨w.heap.size + 1, 1, none⟩ = some (.slice none 0 0) := by rw [← Hwf.out, World.cell?_setCell_same _ _ _ (by rw [World.cell?_setCell_other _ _ _ _ (by simp)]; exact n1)]
    have cf : Below w.heap.size w wf := by rw [← Hwf.out]; exact (c2.setCell (p := ⟨w.heap.size + 1, 0, none⟩) (by simp) _).setCell (p := ⟨w.heap.size + 1, 1, none⟩) (by simp) _
    go_wp2
    rw [Hwf.out]
    refine bodyPost_ret (v := .tuple #[.agg #[.int .i64 0, .slice none 0 0], .int .i64 E]) (results_netK rfl rfl rfl z1 z2) rfl ⟨_, by rw [R.out], ?_, cf⟩
    rw [R.out]; exact net_zero _

end Go.Proofs.Ytfgimobmaahmmaa
