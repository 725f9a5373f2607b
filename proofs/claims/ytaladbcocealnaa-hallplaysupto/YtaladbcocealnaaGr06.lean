import Derived.Test.YtaladbcocealnaaGr05
import Derived.Test.YtaladbcocealnaaGr00
import Derived.Laws.CopyOwn
import Derived.Test.YtaladbcocealnaaGr04
/- An office in memory: what each user may do as a row of 216 bools, and it with a case, items and a net ahead; loads and stores of them whole. -/
namespace Go.Proofs.Ytaladbcocealnaa
open Go.RowKit
set_option linter.unusedVariables false
set_option maxRecDepth 4000

/-- What users may do: user u, label l at 27 * u + l. -/
def mayN (N : Nat) (g : Nat → Bool) : Array Value := Array.ofFn (n := N) fun i => .bool (g i)
theorem mayN_size (N : Nat) (g : Nat → Bool) : (mayN N g).size = N := by simp [mayN]
theorem mayN_at (N : Nat) (g : Nat → Bool) {j : Nat} (h : j < N) : (mayN N g)[j]? = some (.bool (g j)) := by
  unfold mayN
  rw [Array.getElem?_ofFn]
  simp [h]
theorem mayN_one (N : Nat) (g : Nat → Bool) (v : Value) (hv : v ∈ (mayN N g).toList) : v.oneCell' = true := by
  obtain ⟨i, h, e⟩ := Array.mem_iff_getElem.1 (Array.mem_def.2 hv)
  have h2 := mayN_at N g (j := i) (by rw [mayN_size] at h; exact h)
  rw [Array.getElem?_eq_getElem h, e] at h2
  injection h2 with h2
  rw [h2]; rfl
def mayA (g : Nat → Bool) : Array Value := mayN 216 g
/-- Whatever stands ahead of it. -/
def offA (c0 c1 c2 c3 c4 : Value) (g : Nat → Bool) : Array Value := #[c0, c1, c2, c3, c4] ++ mayA g
theorem mayA_size (g : Nat → Bool) : (mayA g).size = 216 := mayN_size 216 g
theorem offA_size (c0 c1 c2 c3 c4 : Value) (g : Nat → Bool) : (offA c0 c1 c2 c3 c4 g).size = 221 := by simp [offA, mayA_size]
theorem mayA_at (g : Nat → Bool) {j : Nat} (h : j < 216) : (mayA g)[j]? = some (.bool (g j)) := mayN_at 216 g h
theorem offA_at (c0 c1 c2 c3 c4 : Value) (g : Nat → Bool) {j : Nat} (h : j < 216) : (offA c0 c1 c2 c3 c4 g)[5 + j]? = some (.bool (g j)) := by
  unfold offA
  rw [Array.getElem?_append_right (by simp)]
  simpa using mayA_at g h
theorem mayA_one (g : Nat → Bool) (v : Value) (hv : v ∈ (mayA g).toList) : v.oneCell' = true := mayN_one 216 g v hv

/-- A block that holds these cells. -/
def CellsAt (w : World) (b : Nat) (cs : Array Value) (t : TypeId) : Prop := w.heap[b]? = some (.cells cs t (0, 0))
theorem CellsAt.lt {w : World} {b : Nat} {cs : Array Value} {t : TypeId} (h : CellsAt w b cs t) : b < w.heap.size := (Array.getElem?_eq_some_iff.1 h).1
theorem CellsAt.below {w w' : World} {b : Nat} {cs : Array Value} {t : TypeId} (h : CellsAt w b cs t) (hb : Below w.heap.size w w') : CellsAt w' b cs t := (hb.block b h.lt).trans h
theorem CellsAt.cell {w : World} {b : Nat} {cs : Array Value} {t : TypeId} (h : CellsAt w b cs t) (j : Nat) : w.cell? ⟨b, j, none⟩ = cs[j]? := by
  unfold CellsAt at h
  simp [World.cell?, h]
theorem CellsAt.frozen {w : World} {b : Nat} {cs : Array Value} {t : TypeId} (h : CellsAt w b cs t) (j : Nat) : w.frozen? ⟨b, j, none⟩ = false := by
  unfold CellsAt at h
  simp [World.frozen?, h]
theorem cellsAt_new (w : World) (cs : Array Value) (t : TypeId) : CellsAt (w.alloc (.cells cs t)) w.heap.size cs t := heap_alloc_new w _
theorem CellsAt.put {w : World} {b : Nat} {cs : Array Value} {t : TypeId} (h : CellsAt w b cs t) (j : Nat) (u : Value) : CellsAt (w.setCell ⟨b, j, none⟩ u) b (cs.setIfInBounds j u) t := by
  obtain ⟨hlt, hk⟩ := Array.getElem?_eq_some_iff.1 h
  show (w.heap.modify b _)[b]? = _
  rw [Array.getElem?_eq_getElem (by rw [Array.size_modify]; exact hlt), Array.getElem_modify_self, hk]
  rfl
theorem CellsAt.set {w : World} {b : Nat} {cs : Array Value} {t : TypeId} (h : CellsAt w b cs t) {p : Addr} (hp : p.block ≠ b) (u : Value) : CellsAt (w.setCell p u) b cs t :=
  (Below.heap_setCell w p u b (fun e => hp e.symm)).trans h
theorem mayA_put (g : Nat → Bool) {j : Nat} (hj : j < 216) (c : Bool) : (mayA g).setIfInBounds j (.bool c) = mayA (fun p => if p = j then c else g p) := by
  apply Array.ext_getElem?
  intro i
  rw [Array.getElem?_setIfInBounds]
  by_cases e : j = i
  · subst e
    rw [if_pos rfl, mayA_size, if_pos hj, mayA_at _ hj, if_pos rfl]
  · rw [if_neg e]
    rcases Nat.lt_or_ge i 216 with hi | hi
    · rw [mayA_at _ hi, mayA_at _ hi, if_neg (fun q => e q.symm)]
    · rw [Array.getElem?_eq_none (by rw [mayA_size]; exact hi), Array.getElem?_eq_none (by rw [mayA_size]; exact hi)]

theorem loadVar_big {t : TypeId} {n : Nat} (hA : ∀ w, (isAgg t).run Try.prog w = .ok true w) (hZ : ∀ w, (sizeOf t).run Try.prog w = .ok n w) (w : World) (b : Nat) (cs : Array Value) (t' : TypeId) (hb : CellsAt w b cs t') (hs : cs.size = n) : (loadVar t ⟨b, 0, none⟩).run Try.prog w = .ok (.agg cs) w := by
  have h1 : (loadCells ⟨b, 0, none⟩ n).run Try.prog w = .ok cs w := by
    have := run_loadCells_list (P := Try.prog) w ⟨b, 0, none⟩ cs.toList (fun j v hj => by
      rw [addr_add, Nat.zero_add, hb.cell]
      simpa using hj)
    simpa [hs] using this
  simp only [loadVar, Sem.run_bind, hA, hZ, Result.andThen, h1, if_true, Sem.run_pure]
theorem storeVar_big {t : TypeId} {n : Nat} (hZ : ∀ w, (sizeOf t).run Try.prog w = .ok n w) (w : World) (b : Nat) (cs ds : Array Value) (t' : TypeId) (hb : CellsAt w b cs t') (hs : cs.size = n) (hd : ds.size = n) (h1 : ∀ v ∈ ds.toList, v.oneCell' = true) : (storeVar t ⟨b, 0, none⟩ (.agg ds)).run Try.prog w = .ok () (w.setRow b ds) := by
  have h2 := run_storeCells_at Try.prog b 0 t' ds.toList 0 cs w hb (by simp [hs, hd]) h1
  have e : (cs.toList.take (0 + 0) ++ ds.toList ++ cs.toList.drop (0 + 0 + ds.toList.length)).toArray = ds := by
    rw [List.drop_of_length_le (by simp [hs, hd])]
    simp
  rw [e] at h2
  simp only [storeVar, Sem.run_bind, hZ, Result.andThen, Value.cells, hd, ne_eq, not_true_eq_false, if_false, h2]
theorem CellsAt.over {w : World} {b : Nat} {cs : Array Value} {t : TypeId} (h : CellsAt w b cs t) (ds : Array Value) : CellsAt (w.setRow b ds) b ds t := setRow_heap w b cs ds t _ h
theorem CellsAt.aside {w : World} {b c : Nat} {cs : Array Value} {t : TypeId} (h : CellsAt w c cs t) (hne : b ≠ c) (ds : Array Value) : CellsAt (w.setRow b ds) c cs t := by
  show (w.setRow b ds).heap[c]? = _
  rw [setRow_other w b c ds (Ne.symm hne)]
  exact h

end Go.Proofs.Ytaladbcocealnaa

/- Operations on offices whole: they are made, loaded, stored, built. -/
namespace Go.Proofs.Ytaladbcocealnaa
open Go.RowKit
set_option linter.unusedVariables false
set_option linter.unusedSimpArgs false
set_option maxRecDepth 4000

theorem info_may : (Try.prog.info? 61).map (fun i => (i.zero, i.size, i.bytes)) = some (some (.agg (mayA fun _ => false)), 216, 216) := by kernel_rfl
theorem info_office : (Try.prog.info? 63).map (fun i => (i.zero, i.size, i.bytes)) = some (some (.agg (offA (.slice none 0 0) (.slice none 0 0) (.slice none 0 0) (.int .i64 0) (.slice none 0 0) fun _ => false)), 221, 320) := by kernel_rfl

theorem info_desk : (Try.prog.info? 32).map (fun i => (i.zero, i.size, i.bytes)) = some (some (.agg #[.slice none 0 0, .slice none 0 0, .slice none 0 0]), 3, 72) := by kernel_rfl
theorem info_netB : (Try.prog.info? 24).map (fun i => (i.zero, i.size, i.bytes)) = some (some (.agg #[.int .i64 0, .slice none 0 0]), 2, 32) := by kernel_rfl

theorem run_alloc_big {t : TypeId} {cs : Array Value} {n m : Nat} (hi : (Try.prog.info? t).map (fun i => (i.zero, i.size, i.bytes)) = some (some (.agg cs), n, m)) (w : World) :
    (Instr.alloc t true (.tuple #[])).run Try.prog w = .ok (.pointer (some ⟨w.heap.size, 0, none⟩)) (w.alloc (.cells cs t)) := by
  obtain ⟨i0, h0, h1, h2, h3⟩ := info_parts hi
  simp [Instr.alloc, zeroValue, typeInfo, h0, h1, newVar, newRow, Value.cells, go_sem]
theorem run_sizeOf_big {t : TypeId} {z : Option Value} {n m : Nat} (hi : (Try.prog.info? t).map (fun i => (i.zero, i.size, i.bytes)) = some (z, n, m)) (w : World) : (sizeOf t).run Try.prog w = .ok n w := by
  cases hq : Try.prog.info? t with
  | none => rw [hq] at hi; cases hi
  | some i =>
    rw [hq] at hi
    simp only [Option.map_some, Option.some.injEq, Prod.mk.injEq] at hi
    simp [sizeOf, typeInfo, hq, hi.2.1]

theorem wp_alloc_big {o : Oper} {a : Act} {w : World} {K : Act → World → Prop} {Q : Exit → Act → World → Prop} {t : TypeId} {cs : Array Value} {n m : Nat} (hi : (Try.prog.info? t).map (fun i => (i.zero, i.size, i.bytes)) = some (some (.agg cs), n, m)) (ho : o.op = .alloc t)
    (h : K (a.put o.dst (.pointer (some ⟨w.heap.size, 0, none⟩))) (w.alloc (.cells cs t))) : o.wp Try.prog a w K Q := by
  unfold Oper.wp execOp
  simp only [ho, Sem.run_bind, run_alloc_big hi, Result.andThen_ok, Sem.run_pure]
  exact h
theorem wpList_alloc_big {ops : Array Oper} {rest : List Oper} {o : Oper} {a : Act} {w : World} {Q : Exit → Act → World → Prop} {t : TypeId} {cs : Array Value} {n m : Nat} (hgd : o.guard = none) (hi : (Try.prog.info? t).map (fun i => (i.zero, i.size, i.bytes)) = some (some (.agg cs), n, m)) (ho : o.op = .alloc t)
    (h : wpList Try.prog ops Q rest (a.put o.dst (.pointer (some ⟨w.heap.size, 0, none⟩))) (w.alloc (.cells cs t))) : wpList Try.prog ops Q (o :: rest) a w :=
  wpList_plain hgd fun _ hK => wp_alloc_big hi ho (hK _ _ h)

theorem wp_load_big {o : Oper} {a : Act} {w : World} {K : Act → World → Prop} {Q : Exit → Act → World → Prop} {t : TypeId} {n : Nat} (hA : ∀ w, (isAgg t).run Try.prog w = .ok true w) (hZ : ∀ w, (sizeOf t).run Try.prog w = .ok n w) (x : Operand) (ho : o.op = .load t x) (b : Nat) (cs : Array Value) (t' : TypeId) (hx : a.eval x = .pointer (some ⟨b, 0, none⟩)) (hG : CellsAt w b cs t') (hs : cs.size = n)
    (h : K (a.put o.dst (.agg cs)) w) : o.wp Try.prog a w K Q := by
  unfold Oper.wp execOp
  simp only [ho, hx, Instr.loadAt, Instr.sureAddr, Sem.run_bind, Sem.run_pure, Result.andThen_ok, loadVar_big hA hZ w b cs t' hG hs]
  exact h
theorem wpList_load_big {ops : Array Oper} {rest : List Oper} {o : Oper} {a : Act} {w : World} {Q : Exit → Act → World → Prop} {t : TypeId} {n : Nat} (hgd : o.guard = none) (hA : ∀ w, (isAgg t).run Try.prog w = .ok true w) (hZ : ∀ w, (sizeOf t).run Try.prog w = .ok n w) (x : Operand) (ho : o.op = .load t x) (b : Nat) (cs : Array Value) (t' : TypeId) (hx : a.eval x = .pointer (some ⟨b, 0, none⟩)) (hG : CellsAt w b cs t') (hs : cs.size = n)
    (h : wpList Try.prog ops Q rest (a.put o.dst (.agg cs)) w) : wpList Try.prog ops Q (o :: rest) a w :=
  wpList_plain hgd fun _ hK => wp_load_big hA hZ x ho b cs t' hx hG hs (hK _ _ h)
theorem wp_store_big {o : Oper} {a : Act} {w : World} {K : Act → World → Prop} {Q : Exit → Act → World → Prop} {t : TypeId} {n : Nat} (hZ : ∀ w, (sizeOf t).run Try.prog w = .ok n w) (x y : Operand) (ho : o.op = .store t x y) (b : Nat) (cs ds : Array Value) (t' : TypeId) (hx : a.eval x = .pointer (some ⟨b, 0, none⟩)) (hy : a.eval y = .agg ds) (hG : CellsAt w b cs t') (hs : cs.size = n) (hd : ds.size = n) (h1 : ∀ v ∈ ds.toList, v.oneCell' = true)
    (h : K (a.put o.dst undef) (w.setRow b ds)) : o.wp Try.prog a w K Q := by
  unfold Oper.wp execOp
  simp only [ho, hx, hy, Instr.storeAt, Instr.sureAddr, Sem.run_bind, Sem.run_pure, Result.andThen_ok, storeVar_big hZ w b cs ds t' hG hs hd h1]
  exact h
theorem wpList_store_big {ops : Array Oper} {rest : List Oper} {o : Oper} {a : Act} {w : World} {Q : Exit → Act → World → Prop} {t : TypeId} {n : Nat} (hgd : o.guard = none) (hZ : ∀ w, (sizeOf t).run Try.prog w = .ok n w) (x y : Operand) (ho : o.op = .store t x y) (b : Nat) (cs ds : Array Value) (t' : TypeId) (hx : a.eval x = .pointer (some ⟨b, 0, none⟩)) (hy : a.eval y = .agg ds) (hG : CellsAt w b cs t') (hs : cs.size = n) (hd : ds.size = n) (h1 : ∀ v ∈ ds.toList, v.oneCell' = true)
    (h : wpList Try.prog ops Q rest (a.put o.dst undef) (w.setRow b ds)) : wpList Try.prog ops Q (o :: rest) a w :=
  wpList_plain hgd fun _ hK => wp_store_big hZ x y ho b cs ds t' hx hy hG hs hd h1 (hK _ _ h)
theorem results_big {fn : Func} {p : Tmp} {t : TypeId} {n : Nat} {tmps : Array Value} {w : World} {b : Nat} {cs : Array Value} {t' : TypeId} (hA : ∀ w, (isAgg t).run Try.prog w = .ok true w) (hZ : ∀ w, (sizeOf t).run Try.prog w = .ok n w) (h : fn.results = #[.cell p t]) (hp : tmps.getD p undef = .pointer (some ⟨b, 0, none⟩)) (hG : CellsAt w b cs t') (hs : cs.size = n) :
    (results fn tmps).run Try.prog w = .ok (.agg cs) w := by
  have e : (results fn tmps).run Try.prog w = ((asAddr (tmps.getD p undef)).run Try.prog w).andThen fun a w₁ => (loadVar t a).run Try.prog w₁ := by
    simp only [results, h]
    simp [Sem.run_bind, Result.andThen]
  rw [e, hp]
  simp only [asAddr, Sem.run_pure, Result.andThen, loadVar_big hA hZ w b cs t' hG hs]
theorem results_big1 {fn : Func} {p u : Tmp} {t : TypeId} {n : Nat} {tmps : Array Value} {w : World} {b : Nat} {cs : Array Value} {t' : TypeId} {v : Value} (hA : ∀ w, (isAgg t).run Try.prog w = .ok true w) (hZ : ∀ w, (sizeOf t).run Try.prog w = .ok n w) (h : fn.results = #[.cell p t, .tmp u]) (hp : tmps.getD p undef = .pointer (some ⟨b, 0, none⟩)) (hu : tmps.getD u undef = v) (hG : CellsAt w b cs t') (hs : cs.size = n) :
    (results fn tmps).run Try.prog w = .ok (.tuple #[.agg cs, v]) w := by
  rw [results_cell_tmp h, hp, hu]
  simp only [asAddr, Sem.run_pure, Result.andThen, loadVar_big hA hZ w b cs t' hG hs]

/-- Cells laid over others, from an offset on. -/
theorem laid_at (v : List Value) (off : Nat) : ∀ (k : Nat) (cells : Array Value), (v.zipIdx k).foldl (fun cs (x : Value × Nat) => cs.setIfInBounds (off + x.2) x.1) cells = (v.zipIdx k).foldl (fun cs (x : Value × Nat) => cs.setIfInBounds (off + x.2) x.1) cells := fun _ _ => rfl
theorem laid_get : ∀ (v : List Value) (off k : Nat) (cells : Array Value) (i : Nat), off + k + v.length ≤ cells.size →
    ((v.zipIdx k).foldl (fun cs (x : Value × Nat) => cs.setIfInBounds (off + x.2) x.1) cells)[i]? = if off + k ≤ i ∧ i < off + k + v.length then v[i - (off + k)]? else cells[i]?
  | [], off, k, cells, i, _ => by
    simp only [List.zipIdx_nil, List.foldl_nil, List.length_nil]
    rw [if_neg (by omega)]
  | x :: v, off, k, cells, i, h => by
    simp only [List.zipIdx_cons, List.foldl_cons]
    simp only [List.length_cons] at h
    rw [laid_get v off (k + 1) _ i (by simp; omega), Array.getElem?_setIfInBounds]
    by_cases h1 : off + (k + 1) ≤ i ∧ i < off + (k + 1) + v.length
    · rw [if_pos h1, if_pos (by simp only [List.length_cons]; omega), show i - (off + k) = (i - (off + (k + 1))) + 1 by omega, List.getElem?_cons_succ]
    · rw [if_neg h1]
      by_cases h2 : off + k = i
      · subst h2
        rw [if_pos rfl, if_pos (by omega), if_pos (by simp only [List.length_cons]; omega), Nat.sub_self, List.getElem?_cons_zero]
      · rw [if_neg h2, if_neg (by simp only [List.length_cons]; omega)]

def laidA (cells : Array Value) (off : Nat) (v : Array Value) : Array Value := v.zipIdx.foldl (fun cs (x : Value × Nat) => cs.setIfInBounds (off + x.2) x.1) cells
theorem laidA_get (cells v : Array Value) (off i : Nat) (h : off + v.size ≤ cells.size) : (laidA cells off v)[i]? = if off ≤ i ∧ i < off + v.size then v[i - off]? else cells[i]? := by
  have h1 := laid_get v.toList off 0 cells i (by simpa using h)
  unfold laidA
  rw [← Array.foldl_toList, Array.toList_zipIdx]
  simpa using h1
theorem laidA_size (cells v : Array Value) (off : Nat) (h : off + v.size ≤ cells.size) : (laidA cells off v).size = cells.size := by
  unfold laidA
  rw [← Array.foldl_toList]
  have : ∀ (l : List (Value × Nat)) (cs : Array Value), (l.foldl (fun cs (x : Value × Nat) => cs.setIfInBounds (off + x.2) x.1) cs).size = cs.size := by
    intro l
    induction l with
    | nil => intro cs; rfl
    | cons x l ih => intro cs; rw [List.foldl_cons, ih]; simp
  exact this _ _
theorem fill_step {place : Nat → Option (Nat × Nat)} {cells : Array Value} {i off : Nat} {cs : Array Value} {rest : List (Nat × Value)} (hp : place i = some (off, cs.size)) (h : off + cs.size ≤ cells.size) :
    Instr.fill place cells ((i, .agg cs) :: rest) = Instr.fill place (laidA cells off cs) rest := by
  have h1 : (off + cs.size > cells.size) = False := by simp; omega
  simp only [Instr.fill, hp, Value.cells, ne_eq, not_true_eq_false, decide_false, Bool.false_or, h1, if_false]
  rfl

theorem build_office (w : World) (c0 c1 c2 c3 c4 : Value) (g : Nat → Bool) :
    (Instr.build 63 #[(0, .agg #[c0, c1, c2]), (1, .agg #[c3, c4]), (2, .agg (mayA g))]).run Try.prog w = .ok (.agg (offA c0 c1 c2 c3 c4 g)) w := by
  obtain ⟨i0, h0, h1, h2, h3⟩ := info_parts info_office
  have hu := Try.underlying63
  have hz : (zeroValue 63).run Try.prog w = .ok (.agg (offA (.slice none 0 0) (.slice none 0 0) (.slice none 0 0) (.int .i64 0) (.slice none 0 0) fun _ => false)) w := by
    simp [zeroValue, typeInfo, h0, h1]
  have s1 := run_sizeOf_big info_desk w
  have s2 := run_sizeOf_big info_netB w
  have s3 := run_sizeOf_big info_may w
  simp only [Instr.build, Sem.run_bind, hz, Result.andThen, run_underlying hu]
  have hm : Sem.run Try.prog (Array.mapM (fun f : Field => do
            let n ← sizeOf f.type
            pure (f.offset, n))
          #[{ name := "Desk", type := 32, offset := 0, embedded := false, tag := "", pkgPath := "", byteOffset := 0 },
            { name := "net", type := 24, offset := 3, embedded := false, tag := "", pkgPath := "tokenhall/desk", byteOffset := 72 },
            { name := "may", type := 61, offset := 5, embedded := false, tag := "", pkgPath := "tokenhall/desk", byteOffset := 104 }]) w = .ok #[(0, 3), (3, 2), (5, 216)] w := by
    simp [Sem.run_bind, s1, s2, s3, Result.andThen]
  rw [hm]
  simp only [Value.cells]
  obtain ⟨zs, Hzs⟩ : ∃ zs, Hid (offA (.slice none 0 0) (.slice none 0 0) (.slice none 0 0) (.int .i64 0) (.slice none 0 0) (fun _ => false) = zs) := ⟨_, rfl⟩
  have hzs : zs.size = 221 := by rw [← Hzs.out]; exact offA_size _ _ _ _ _ _
  rw [Hzs.out, fill_step (off := 0) rfl (by rw [hzs]; simp), fill_step (off := 3) rfl (by rw [laidA_size _ _ _ (by rw [hzs]; simp), hzs]; simp)]
  obtain ⟨ms, Hms⟩ : ∃ ms, Hid (mayA g = ms) := ⟨_, rfl⟩
  have hms : ms.size = 216 := by rw [← Hms.out]; exact mayA_size g
  have q1 : (laidA zs 0 #[c0, c1, c2]).size = 221 := by rw [laidA_size _ _ _ (by rw [hzs]; simp), hzs]
  have q2 : (laidA (laidA zs 0 #[c0, c1, c2]) 3 #[c3, c4]).size = 221 := by rw [laidA_size _ _ _ (by rw [q1]; simp), q1]
  have e : laidA (laidA (laidA zs 0 #[c0, c1, c2]) 3 #[c3, c4]) 5 ms = offA c0 c1 c2 c3 c4 g := by
    apply Array.ext_getElem?
    intro i
    have ho : (offA c0 c1 c2 c3 c4 g)[i]? = (#[c0, c1, c2, c3, c4] ++ ms)[i]? := by rw [← Hms.out]; rfl
    rw [ho, laidA_get _ _ _ _ (by rw [q2, hms]; decide), laidA_get _ _ _ _ (by rw [q1]; simp), laidA_get _ _ _ _ (by rw [hzs]; simp), hms]
    rcases Nat.lt_or_ge i 5 with hi | hi
    · rw [if_neg (by omega)]
      obtain rfl | rfl | rfl | rfl | rfl : i = 0 ∨ i = 1 ∨ i = 2 ∨ i = 3 ∨ i = 4 := by omega
      all_goals (rw [Array.getElem?_append_left (by simp)]; simp)
    · rw [Array.getElem?_append_right (by simpa using hi)]
      rcases Nat.lt_or_ge i 221 with h2 | h2
      · rw [if_pos (by omega)]; rfl
      · rw [if_neg (by omega), if_neg (by simp; omega), if_neg (by simp; omega), Array.getElem?_eq_none (by omega), Array.getElem?_eq_none (by rw [hms]; simp; omega)]
  rw [Hms.out, fill_step (off := 5) (by rw [hms]; rfl) (by rw [q2, hms]; decide), e]
  rfl

end Go.Proofs.Ytaladbcocealnaa

/- Package desk as it landed: what each user may do. -/
namespace Go.Proofs.Ytaladbcocealnaa
open Go.RowKit
set_option linter.unusedVariables false
set_option linter.unusedSimpArgs false
set_option maxRecDepth 4000

/-- Of the users ahead of u all labels, of u the first j of those that are told. -/
def mayTo (roles : List (List Int)) (u j : Nat) (i : Nat) : Bool :=
  decide ((i / 27 < u ∧ ((i % 27 : Nat) : Int) ∈ markAt roles (i / 27)) ∨ (i / 27 = u ∧ ((i % 27 : Nat) : Int) ∈ (markAt roles u).take j))
def mayG (roles : List (List Int)) : Nat → Bool := mayTo roles (min roles.length 8) 0
theorem mayA_congr {f g : Nat → Bool} (h : ∀ i, i < 216 → f i = g i) : mayA f = mayA g := by
  apply Array.ext_getElem?
  intro i
  rcases Nat.lt_or_ge i 216 with hi | hi
  · rw [mayA_at _ hi, mayA_at _ hi, h i hi]
  · rw [Array.getElem?_eq_none (by rw [mayA_size]; exact hi), Array.getElem?_eq_none (by rw [mayA_size]; exact hi)]
theorem mayTo_start (roles : List (List Int)) : mayTo roles 0 0 = fun _ => false := by
  funext i
  unfold mayTo
  simp
theorem take_snocI {xs : List Int} {k : Nat} (h : k < xs.length) : xs.take (k + 1) = xs.take k ++ [nth xs k] := by
  rw [List.take_add_one, List.getElem?_eq_getElem h]
  simp [nth, List.getD_eq_getElem?_getD, List.getElem?_eq_getElem h]
theorem mayTo_no {roles : List (List Int)} {u j : Nat} (hj : j < (markAt roles u).length) (h : ¬ (0 ≤ nth (markAt roles u) j ∧ nth (markAt roles u) j ≤ 26)) (i : Nat) : mayTo roles u (j + 1) i = mayTo roles u j i := by
  unfold mayTo
  rw [take_snocI hj]
  congr 1
  simp only [List.mem_append, List.mem_singleton]
  apply propext
  constructor
  · rintro (h1 | ⟨h1, h2 | h2⟩)
    · exact .inl h1
    · exact .inr ⟨h1, h2⟩
    · exfalso; apply h; omega
  · rintro (h1 | ⟨h1, h2⟩)
    · exact .inl h1
    · exact .inr ⟨h1, .inl h2⟩
theorem mayTo_yes {roles : List (List Int)} {u j l : Nat} (hj : j < (markAt roles u).length) (h : nth (markAt roles u) j = (l : Int)) (hl : l ≤ 26) (i : Nat) : mayTo roles u (j + 1) i = if i = u * 27 + l then true else mayTo roles u j i := by
  by_cases e : i = u * 27 + l
  · rw [if_pos e]
    unfold mayTo
    rw [take_snocI hj]
    apply decide_eq_true
    refine .inr ⟨by omega, ?_⟩
    rw [List.mem_append, List.mem_singleton, h]
    exact .inr (by omega)
  · rw [if_neg e]
    unfold mayTo
    rw [take_snocI hj]
    congr 1
    simp only [List.mem_append, List.mem_singleton]
    apply propext
    constructor
    · rintro (h1 | ⟨h1, h2 | h2⟩)
      · exact .inl h1
      · exact .inr ⟨h1, h2⟩
      · exfalso; apply e; rw [h] at h2; omega
    · rintro (h1 | ⟨h1, h2⟩)
      · exact .inl h1
      · exact .inr ⟨h1, .inl h2⟩
theorem mayTo_row {roles : List (List Int)} {u j : Nat} (hj : (markAt roles u).length ≤ j) (i : Nat) : mayTo roles (u + 1) 0 i = mayTo roles u j i := by
  unfold mayTo
  rw [List.take_of_length_le hj]
  congr 1
  apply propext
  simp only [List.take_zero, List.not_mem_nil, and_false, or_false]
  constructor
  · rintro ⟨h1, h2⟩
    rcases Nat.lt_or_ge (i / 27) u with h3 | h3
    · exact .inl ⟨h3, h2⟩
    · have e : i / 27 = u := by omega
      exact .inr ⟨e, by rw [← e]; exact h2⟩
  · rintro (⟨h1, h2⟩ | ⟨h1, h2⟩)
    · exact ⟨by omega, h2⟩
    · exact ⟨by omega, by rw [h1]; exact h2⟩
theorem mayG_may {roles : List (List Int)} {u : Nat} {l : Nat} (hu : u < 8) (hl : l ≤ 26) : mayG roles (u * 27 + l) = mayL roles (u : Int) (l : Int) := by
  rw [Bool.eq_iff_iff, may_iff]
  unfold mayG mayTo
  rw [decide_eq_true_iff, show (u * 27 + l) / 27 = u by omega, show (u * 27 + l) % 27 = l by omega]
  simp only [List.take_zero, List.not_mem_nil, and_false, or_false]
  constructor
  · rintro ⟨h1, h2⟩
    exact ⟨u, rfl, by omega, hu, h2⟩
  · rintro ⟨u', h1, h2, h3, h4⟩
    obtain rfl : u = u' := by omega
    exact ⟨by omega, h4⟩

/-- A cell that holds a bool is none that numbers are read from. -/
theorem Ints.putB {w : World} {v : Value} {xs : List Int} {p : Addr} {c : Bool} (h : Ints w v xs) (hp : w.cell? p = some (.bool c)) (u : Value) : Ints (w.setCell p u) v xs := by
  obtain ⟨a', len, cap, e, hl, hm, hs, hr⟩ := h
  refine ⟨a', len, cap, e, hl, hm, hs, fun j hj => ?_⟩
  obtain ⟨b, off, ha, hb, hc⟩ := hr j hj
  refine ⟨b, off, ha, by simpa [World.setCell] using hb, ?_⟩
  rw [World.cell?_setCell_other _ _ _ _ (by intro e; rw [← e, hp] at hc; cases hc)]
  exact hc

abbrev mayZ (w : World) : (sizeOf 61).run Try.prog w = .ok 216 w := run_sizeOf_big info_may w

set_option maxHeartbeats 4000000 in
theorem rightsOf_any (r : Value) (roles : List (List Int)) (w : World) (hr : Lists w r roles) :
    Calls Try.prog 34 #[r] w fun e w' => e = .returned (.agg (mayA (mayG roles))) ∧ Below w.heap.size w w' := by
  obtain ⟨a, cap, rfl, hmx, hsh⟩ := hr.slice
  obtain ⟨len, Hlen⟩ : ∃ l, Hid (roles.length = l) := ⟨_, rfl⟩
  rw [Hlen.out] at hmx hsh hr ⊢
  have b1 := below_new w (.cells (mayA fun _ => false) 61)
  have hr1 := cellsAt_new w (mayA fun _ => false) 61
  obtain ⟨w1, H1⟩ : ∃ v, Hid (w.alloc (.cells (mayA fun _ => false) 61) = v) := ⟨_, rfl⟩
  have s1 : w1.heap.size = w.heap.size + 1 := by rw [← H1.out]; simp
  rw [H1.out] at b1 hr1
  have b2 := below_new w1 (.cells (mayA fun _ => false) 61)
  have hr2 := cellsAt_new w1 (mayA fun _ => false) 61
  rw [s1] at hr2
  obtain ⟨w2, H2⟩ : ∃ v, Hid (w1.alloc (.cells (mayA fun _ => false) 61) = v) := ⟨_, rfl⟩
  rw [H2.out] at b2 hr2
  replace hr1 := hr1.below b2
  have c0 := below_then b1 b2
  go_enter Try.func34, Try.ntmps34
  go_upto_region 1 with (refine wpList_alloc_big rfl info_may rfl ?_)
  rw [H1.out]
  go_upto_region 2 with (refine wpList_alloc_big rfl info_may rfl ?_)
  rw [H2.out]
  rw [s1]
  simp only [Act.put, List.setIfInBounds_toArray, List.set_cons_zero, List.set_cons_succ]
  obtain ⟨m, Hm, hml, hm8⟩ : ∃ m : Nat, Hid (min roles.length 8 = m) ∧ m ≤ len ∧ m ≤ 8 := ⟨min roles.length 8, rfl, by rw [Hlen.out]; omega, by omega⟩
  have hmin : min (len : Int) 8 = (m : Int) := by have h1 := Hm.out; have h2 := Hlen.out; rw [h2] at h1; omega
  have hcap : m ≤ cap := Nat.le_trans hml hsh.1
  have hcap2 : cap ≤ 9223372036854775807 := hsh.2.1
  clear H1 H2 s1 b1 b2
  have hm2 : (m : Int) = min (len : Int) 8 := hmin.symm
  clear hmin
  go_cut [12, 13, 14] (fun x12 x13 x14 wc => x12 = .slice a m cap ∧ x13 = .int .i64 (m : Int) ∧ x14 = .int .i64 0 ∧ wc = w2)
  case first =>
    rcases Nat.lt_trichotomy len 8 with h8 | h8 | h8
    · obtain rfl : m = len := by omega
      have h8' : (m : Int) < 8 := by omega
      clear hm2
      go_wp2_with fail
      go_meet
      exact ⟨rfl, rfl, rfl, rfl⟩
    · subst h8
      obtain rfl : m = 8 := by omega
      clear hm2
      go_wp2_with fail
      go_meet
      exact ⟨rfl, rfl, rfl, rfl⟩
    · obtain rfl : m = 8 := by omega
      have h8' : (8 : Int) < (len : Int) := by omega
      clear hm2
      go_wp2_with fail
      go_meet
      exact ⟨rfl, rfl, rfl, rfl⟩
  case rest =>
    obtain ⟨rfl, rfl, rfl, rfl⟩ := hcut
    clear hm2
    go_wp2_with fail
    go_loopg [14] m (fun gk i' wr => ∃ u : Nat, u + gk = m ∧ i' = .int .i64 (u : Int) ∧ CellsAt wr (w.heap.size + 1) (mayA (mayTo roles u 0)) 61 ∧ CellsAt wr w.heap.size (mayA fun _ => false) 61 ∧ Below w.heap.size w wr)
    case atStart => exact ⟨0, by omega, rfl, by rw [mayTo_start]; exact hr2, hr1, c0⟩
    case round =>
      clear c0 hr1 hr2
      obtain ⟨u, hug, rfl, hG, hr1, c0⟩ := hrel
      obtain ⟨g1, rfl⟩ : ∃ g1, g1 = gk := ⟨_, rfl⟩
      by_cases hu : u < m
      · obtain ⟨b, off, x, rfl, hlt, hc, hx⟩ := (hr.below c0).at (show u < len by omega)
        obtain ⟨xs, Hxs⟩ : ∃ xs, Hid (markAt roles u = xs) := ⟨_, rfl⟩
        rw [Hxs.out] at hx
        obtain ⟨ax, lx, cx, rfl, elx, hmxx, _⟩ := id hx
        have Hlx : Hid (xs.length = lx) := elx
        clear elx
        have hu8 : u < 8 := by omega
        go_upto_region 6 with fail
        clear hc hlt
        go_loopg [21] lx (fun gk i' wr' => ∃ j : Nat, j + gk = lx ∧ i' = .int .i64 (j : Int) ∧ CellsAt wr' (w.heap.size + 1) (mayA (mayTo roles u j)) 61 ∧ CellsAt wr' w.heap.size (mayA fun _ => false) 61 ∧ Below w.heap.size w wr' ∧ Ints wr' (.slice ax lx cx) xs)
        case atStart => exact ⟨0, by omega, rfl, hG, hr1, c0, hx⟩
        case round =>
          clear hG hr1 c0 hx
          obtain ⟨j, hjg, rfl, hG, hr1, c0, hx⟩ := hrel
          by_cases hj : j < lx
          · obtain ⟨bb, oo, rfl, hlt, hc⟩ := ints_atL hx hj
            have HJ : Hid (j < (markAt roles u).length) := by show _ < _; rw [Hxs.out, Hlx.out]; exact hj
            obtain ⟨z, Hz⟩ : ∃ z, Hid (nth xs j = z) := ⟨_, rfl⟩
            have Hz2 : Hid (nth (markAt roles u) j = z) := by show _ = _; rw [Hxs.out]; exact Hz.out
            rw [Hz.out] at hc
            by_cases hz : 0 ≤ z ∧ z ≤ 26
            · obtain ⟨l, rfl⟩ := Int.eq_ofNat_of_zero_le hz.1
              have hl : l ≤ 26 := by omega
              have hz1 : decide ((0 : Int) ≤ (l : Int)) = true := decide_eq_true hz.1
              have hz2 : decide ((l : Int) ≤ 26) = true := decide_eq_true hz.2
              have hl27 : l < 27 := by omega
              have q1 : wr.cell? ⟨w.heap.size + 1, u * 27 + l, none⟩ = some (.bool (mayTo roles u j (u * 27 + l))) := by rw [hG.cell]; exact mayA_at _ (by omega)
              have q2 := hG.frozen (u * 27 + l)
              have R := hG.put (u * 27 + l) (.bool true)
              rw [mayA_put _ (by omega) true, mayA_congr (g := mayTo roles u (j + 1)) (fun i _ => (mayTo_yes HJ.out Hz2.out hl i).symm)] at R
              have R2 := hr1.set (p := ⟨w.heap.size + 1, u * 27 + l, none⟩) (by show w.heap.size + 1 ≠ w.heap.size; omega) (.bool true)
              have R3 := c0.setCell (p := ⟨w.heap.size + 1, u * 27 + l, none⟩) (by show w.heap.size ≤ w.heap.size + 1; omega) (.bool true)
              have R4 := hx.putB q1 (.bool true)
              clear hz hG hr1 c0 hx
              go_wp2
              go_roundg (gk - 1)
              case measure => omega
              case rel => exact ⟨j + 1, by omega, by go_num, R, R2, R3, R4⟩
            · have R : CellsAt wr (w.heap.size + 1) (mayA (mayTo roles u (j + 1))) 61 := by
                rw [mayA_congr (g := mayTo roles u j) (fun i _ => mayTo_no HJ.out (by rw [Hz2.out]; exact hz) i)]; exact hG
              clear hG
              by_cases hz1 : 0 ≤ z
              · have hz2 : decide (z ≤ 26) = false := decide_eq_false (fun q => hz ⟨hz1, q⟩)
                have hz1' : decide (0 ≤ z) = true := decide_eq_true hz1
                clear hz
                go_wp2
                go_roundg (gk - 1)
                case measure => omega
                case rel => exact ⟨j + 1, by omega, by go_num, R, hr1, c0, hx⟩
              · have hz1' : decide (0 ≤ z) = false := decide_eq_false hz1
                clear hz hz1
                go_wp2
                go_roundg (gk - 1)
                case measure => omega
                case rel => exact ⟨j + 1, by omega, by go_num, R, hr1, c0, hx⟩
          · obtain rfl : j = lx := by omega
            have R : CellsAt wr (w.heap.size + 1) (mayA (mayTo roles (u + 1) 0)) 61 := by
              rw [mayA_congr (g := mayTo roles u j) (fun i _ => mayTo_row (by rw [Hxs.out, Hlx.out]; exact Nat.le_refl _) i)]; exact hG
            clear hG hx
            go_wp2
            go_roundg (g1 - 1)
            case measure => omega
            case rel => exact ⟨u + 1, by omega, by go_num, R, hr1, c0⟩
      · obtain rfl : u = m := by omega
        have e : mayTo roles u 0 = mayG roles := by unfold mayG; rw [Hm.out]
        rw [e] at hG
        have R := hr1.over (mayA (mayG roles))
        have R2 := below_setRow c0 (Nat.le_refl _) (mayA (mayG roles))
        go_wp2_with (first | (refine wpList_load_big rfl Try.isAgg61 mayZ _ rfl (w.heap.size + 1) _ _ rfl hG (mayA_size _) ?_) | (refine wpList_store_big rfl mayZ _ _ rfl w.heap.size _ (mayA (mayG roles)) _ rfl rfl hr1 (mayA_size _) (mayA_size _) (mayA_one _) ?_))
        exact bodyPost_ret (results_big Try.isAgg61 mayZ rfl rfl R (mayA_size _)) rfl ⟨rfl, R2⟩

end Go.Proofs.Ytaladbcocealnaa
