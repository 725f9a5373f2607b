/- reach.key: a mark as a map's key. -/
import Derived.Test.YtakgppoeikcepaaGr06
import Derived.Maps.OwnSet
import Derived.WideKeyArr
import Derived.Laws.CopyOwn
namespace Go.Proofs.Ytakgppoeikcepaa
open Go.RowKit Go.Maps Go.WideMaps
set_option linter.unusedVariables false
set_option maxRecDepth 4000

/-- Sixteen places, noughts behind the end. -/
def padL (xs : List Int) : List Int := (List.range 16).map (nth xs)
def padV (xs : List Int) : List Value := (padL xs).map (Value.int .i64)

theorem padV_splice (xs : List Int) (c : List Value) (hc : c = ((xs.take 16).map (Value.int .i64))) : splice (List.replicate 16 (Value.int .i64 0)) 0 c = padV xs := by
  subst hc
  unfold splice padV padL
  apply List.ext_getElem?
  intro j
  simp only [List.take_zero, List.nil_append, List.length_map, List.length_take, Nat.zero_add, List.getElem?_append, List.getElem?_map, List.getElem?_drop, List.getElem?_take, List.getElem?_replicate]
  by_cases h16 : j < 16
  · by_cases hj : j < xs.length
    · have : j < min 16 xs.length := by omega
      simp [h16, hj, nth, List.getD, this]
    · have : ¬ j < min 16 xs.length := by omega
      simp [h16, hj, nth, List.getD]
      omega
  · simp [h16]
    intro h
    omega

set_option maxHeartbeats 1000000 in
theorem key_any (v : Value) (xs : List Int) (w : World) (h : Ints w v xs) :
    Calls Try.prog 73 #[v] w fun e w' => e = .returned (.agg (padV xs).toArray) ∧ Below w.heap.size w w' := by
  obtain ⟨a, len, cap, rfl, hlen, hmx, hsh, hr⟩ := h
  obtain ⟨cs, Hcs⟩ : ∃ cs, Hid (cs = ((xs.take 16).map (Value.int .i64))) := ⟨_, rfl⟩
  have hcl : cs.length = min len 16 := by rw [Hcs.out]; simp [hlen]; omega
  have hsrc : ∀ (w1 : World), Below w.heap.size w w1 → 0 < cs.length → ∃ ad, a = some ad ∧ ∀ j v, cs[j]? = some v → w1.cell? (ad.add j) = some v := by
    intro w1 hb h0
    obtain ⟨b0, off0, ha, _, _⟩ := hr 0 (by rw [hcl] at h0; omega)
    refine ⟨_, ha, fun j v hj => ?_⟩
    have hjl : j < cs.length := by
      rcases Nat.lt_or_ge j cs.length with h | h
      · exact h
      · rw [List.getElem?_eq_none h] at hj; cases hj
    obtain ⟨b1, off1, ha1, hlt, hc⟩ := hr j (by rw [hcl] at hjl; omega)
    rw [ha] at ha1
    injection ha1 with ha1
    injection ha1 with e1 e2
    subst e1 e2
    rw [addr_add, hb.cell (p := ⟨b0, _, none⟩) hlt, hc]
    rw [Hcs.out] at hj
    have hj2 : j < 16 ∧ j < xs.length := by rw [hcl] at hjl; omega
    simp only [List.getElem?_map, List.getElem?_take, if_pos hj2.1, List.getElem?_eq_getElem hj2.2, Option.map_some] at hj
    injection hj with hj
    rw [← hj]; simp [nth, List.getD, List.getElem?_eq_getElem hj2.2]
  have h1 : ∀ v ∈ cs, v.oneCell' = true := by
    intro v hv
    rw [Hcs.out] at hv
    obtain ⟨z, _, rfl⟩ := List.mem_map.1 hv
    rfl
  have Hsp : Hid (splice (List.replicate 16 (Value.int .i64 0)) 0 cs = padV xs) := padV_splice xs cs Hcs.out
  obtain ⟨wa, Hwa⟩ : ∃ wa, Hid (wa = w.alloc (.cells (List.replicate 16 (Value.int .i64 0)).toArray 133)) := ⟨_, rfl⟩
  obtain ⟨wb, Hwb⟩ : ∃ wb, Hid (wb = wa.alloc (.cells (List.replicate 16 (Value.int .i64 0)).toArray 133)) := ⟨_, rfl⟩
  have ea : wa.heap.size = w.heap.size + 1 := by rw [Hwa.out]; simp
  have ba : Below w.heap.size w wa := by rw [Hwa.out]; exact below_new _ _
  have bb : Below wa.heap.size wa wb := by rw [Hwb.out]; exact below_new _ _
  have hg : wb.heap[w.heap.size + 1]? = some (.cells (List.replicate 16 (Value.int .i64 0)).toArray 133 (0, 0)) := by rw [Hwb.out, ← ea]; exact heap_alloc_new wa _
  have hga : wa.heap[w.heap.size]? = some (.cells (List.replicate 16 (Value.int .i64 0)).toArray 133 (0, 0)) := by rw [Hwa.out]; exact heap_alloc_new w _
  have hrun : ∃ w2, (Builtin.copy_ #[25, 25] 3 #[.slice (some ⟨w.heap.size + 1, 0, none⟩) 16 16, .slice a len cap]).run Try.prog wb = .ok (.int .i64 (cs.length : Nat)) w2 ∧
      w2.heap[w.heap.size + 1]? = some (.cells (padV xs).toArray 133 (0, 0)) ∧ Below wa.heap.size wa w2 := by
    rw [← Hsp.out]
    by_cases h0 : cs.length = 0
    · obtain rfl : cs = [] := List.eq_nil_of_length_eq_zero h0
      exact ⟨wb, run_copy_none (P := Try.prog) wb 25 25 3 3 _ _ _ _ _ _ Try.underlying25 (by kernel_rfl) (by simpa using hcl.symm), by simpa [splice] using hg, bb⟩
    · obtain ⟨ad, rfl, hs⟩ := hsrc wb (below_then ba bb) (by omega)
      have q := run_copy_row (P := Try.prog) wb 25 25 3 3 (w.heap.size + 1) 0 16 16 ad len cap _ 133 cs Try.underlying25 (by kernel_rfl) hg hcl hs (by rw [hcl]; simp; omega) h1
      exact ⟨_, q, by simpa [splice] using setRow_heap wb (w.heap.size + 1) _ _ 133 _ hg, below_setRow bb (by omega) _⟩
  obtain ⟨w2, hrun, hg2, bb2⟩ := hrun
  have c2 : ∀ j, j < 16 → w2.cell? ⟨w.heap.size + 1, j, none⟩ = some (.int .i64 (nth xs j)) := by
    intro j hj
    simp [World.cell?, hg2, padV, padL, hj]
  have hga2 : w2.heap[w.heap.size]? = some (.cells (List.replicate 16 (Value.int .i64 0)).toArray 133 (0, 0)) := by rw [bb2.block w.heap.size (by omega)]; exact hga
  have d2 : ∀ j, j < 16 → w2.cell? ⟨w.heap.size, j, none⟩ = some (.int .i64 0) ∧ w2.frozen? ⟨w.heap.size, j, none⟩ = false := by
    intro j hj
    refine ⟨?_, by simp [World.frozen?, hga2]⟩
    simp only [World.cell?, hga2]
    simp only [List.getElem?_toArray, List.getElem?_replicate, if_pos hj]
    rfl
  have Hb2 : Hid (Below w.heap.size w w2) := below_then ba bb2
  clear hsrc h1 hr Hsp hg hga hg2 hga2 ba bb bb2 hcl Hcs
  have p0 := c2 0 (by omega)
  have p1 := c2 1 (by omega)
  have p2 := c2 2 (by omega)
  have p3 := c2 3 (by omega)
  have p4 := c2 4 (by omega)
  have p5 := c2 5 (by omega)
  have p6 := c2 6 (by omega)
  have p7 := c2 7 (by omega)
  have p8 := c2 8 (by omega)
  have p9 := c2 9 (by omega)
  have p10 := c2 10 (by omega)
  have p11 := c2 11 (by omega)
  have p12 := c2 12 (by omega)
  have p13 := c2 13 (by omega)
  have p14 := c2 14 (by omega)
  have p15 := c2 15 (by omega)
  clear c2
  obtain ⟨q0, r0⟩ := d2 0 (by omega)
  obtain ⟨q1, r1⟩ := d2 1 (by omega)
  obtain ⟨q2, r2⟩ := d2 2 (by omega)
  obtain ⟨q3, r3⟩ := d2 3 (by omega)
  obtain ⟨q4, r4⟩ := d2 4 (by omega)
  obtain ⟨q5, r5⟩ := d2 5 (by omega)
  obtain ⟨q6, r6⟩ := d2 6 (by omega)
  obtain ⟨q7, r7⟩ := d2 7 (by omega)
  obtain ⟨q8, r8⟩ := d2 8 (by omega)
  obtain ⟨q9, r9⟩ := d2 9 (by omega)
  obtain ⟨q10, r10⟩ := d2 10 (by omega)
  obtain ⟨q11, r11⟩ := d2 11 (by omega)
  obtain ⟨q12, r12⟩ := d2 12 (by omega)
  obtain ⟨q13, r13⟩ := d2 13 (by omega)
  obtain ⟨q14, r14⟩ := d2 14 (by omega)
  obtain ⟨q15, r15⟩ := d2 15 (by omega)
  clear d2
  have ev : (padV xs).toArray = #[.int .i64 (nth xs 0), .int .i64 (nth xs 1), .int .i64 (nth xs 2), .int .i64 (nth xs 3), .int .i64 (nth xs 4), .int .i64 (nth xs 5), .int .i64 (nth xs 6), .int .i64 (nth xs 7), .int .i64 (nth xs 8), .int .i64 (nth xs 9), .int .i64 (nth xs 10), .int .i64 (nth xs 11), .int .i64 (nth xs 12), .int .i64 (nth xs 13), .int .i64 (nth xs 14), .int .i64 (nth xs 15)] := rfl
  rw [ev]
  clear ev
  go_enter Try.func73, Try.ntmps73
  go_upto_region 2 with fail
  rw [show ((w.alloc (Obj.cells #[Value.int .i64 0, Value.int .i64 0, Value.int .i64 0, Value.int .i64 0, Value.int .i64 0, Value.int .i64 0, Value.int .i64 0, Value.int .i64 0, Value.int .i64 0, Value.int .i64 0, Value.int .i64 0, Value.int .i64 0, Value.int .i64 0, Value.int .i64 0, Value.int .i64 0, Value.int .i64 0] 133)).alloc (Obj.cells #[Value.int .i64 0, Value.int .i64 0, Value.int .i64 0, Value.int .i64 0, Value.int .i64 0, Value.int .i64 0, Value.int .i64 0, Value.int .i64 0, Value.int .i64 0, Value.int .i64 0, Value.int .i64 0, Value.int .i64 0, Value.int .i64 0, Value.int .i64 0, Value.int .i64 0, Value.int .i64 0] 133)) = wb from by rw [Hwb.out, Hwa.out]; rfl]
  clear Hwa Hwb
  go_wp2
  refine bodyPost_ret (v := .agg #[.int .i64 (nth xs 0), .int .i64 (nth xs 1), .int .i64 (nth xs 2), .int .i64 (nth xs 3), .int .i64 (nth xs 4), .int .i64 (nth xs 5), .int .i64 (nth xs 6), .int .i64 (nth xs 7), .int .i64 (nth xs 8), .int .i64 (nth xs 9), .int .i64 (nth xs 10), .int .i64 (nth xs 11), .int .i64 (nth xs 12), .int .i64 (nth xs 13), .int .i64 (nth xs 14), .int .i64 (nth xs 15)]) ?_ rfl ⟨rfl, ?_⟩
  · clear p0 p1 p2 p3 p4 p5 p6 p7 p8 p9 p10 p11 p12 p13 p14 p15 r0 r1 r2 r3 r4 r5 r6 r7 r8 r9 r10 r11 r12 r13 r14 r15
    simp [results, Try.results73, go_sem, q0, q1, q2, q3, q4, q5, q6, q7, q8, q9, q10, q11, q12, q13, q14, q15]
  · exact ((((((((((((((((Hb2.out.setCell (p := ⟨w.heap.size, 0, none⟩) (Nat.le_refl _) _).setCell (p := ⟨w.heap.size, 1, none⟩) (Nat.le_refl _) _).setCell (p := ⟨w.heap.size, 2, none⟩) (Nat.le_refl _) _).setCell (p := ⟨w.heap.size, 3, none⟩) (Nat.le_refl _) _).setCell (p := ⟨w.heap.size, 4, none⟩) (Nat.le_refl _) _).setCell (p := ⟨w.heap.size, 5, none⟩) (Nat.le_refl _) _).setCell (p := ⟨w.heap.size, 6, none⟩) (Nat.le_refl _) _).setCell (p := ⟨w.heap.size, 7, none⟩) (Nat.le_refl _) _).setCell (p := ⟨w.heap.size, 8, none⟩) (Nat.le_refl _) _).setCell (p := ⟨w.heap.size, 9, none⟩) (Nat.le_refl _) _).setCell (p := ⟨w.heap.size, 10, none⟩) (Nat.le_refl _) _).setCell (p := ⟨w.heap.size, 11, none⟩) (Nat.le_refl _) _).setCell (p := ⟨w.heap.size, 12, none⟩) (Nat.le_refl _) _).setCell (p := ⟨w.heap.size, 13, none⟩) (Nat.le_refl _) _).setCell (p := ⟨w.heap.size, 14, none⟩) (Nat.le_refl _) _).setCell (p := ⟨w.heap.size, 15, none⟩) (Nat.le_refl _) _)

end Go.Proofs.Ytakgppoeikcepaa
