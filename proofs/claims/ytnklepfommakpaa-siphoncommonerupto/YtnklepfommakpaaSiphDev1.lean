/- Package siphon as it landed: groups of places in memory; meets, without, rising. -/
import Derived.Test.YtnklepfommakpaaSiphDev0
import Derived.Test.YtnklepfommakpaaNetDev
import Derived.Laws.ResultCell
namespace Go.Proofs.Ytnklepfommakpaa
open Go.RowKit
set_option linter.unusedVariables false

/-- A group as a value. -/
abbrev grpV (g : Nat → Bool) : Value := .agg #[.bool (g 0), .bool (g 1), .bool (g 2), .bool (g 3), .bool (g 4), .bool (g 5), .bool (g 6), .bool (g 7), .bool (g 8), .bool (g 9), .bool (g 10), .bool (g 11), .bool (g 12), .bool (g 13), .bool (g 14), .bool (g 15)]
abbrev grpC (g : Nat → Bool) : Array Value := #[.bool (g 0), .bool (g 1), .bool (g 2), .bool (g 3), .bool (g 4), .bool (g 5), .bool (g 6), .bool (g 7), .bool (g 8), .bool (g 9), .bool (g 10), .bool (g 11), .bool (g 12), .bool (g 13), .bool (g 14), .bool (g 15)]
/-- A group in memory. -/
def GrpAt (w : World) (b : Nat) (g : Nat → Bool) : Prop := w.heap[b]? = some (.cells (grpC g) 47 (0, 0))

theorem grpC_at (g : Nat → Bool) (j : Nat) (hj : j < 16) : (grpC g)[j]? = some (.bool (g j)) := by
  obtain rfl | rfl | rfl | rfl | rfl | rfl | rfl | rfl | rfl | rfl | rfl | rfl | rfl | rfl | rfl | rfl : j = 0 ∨ j = 1 ∨ j = 2 ∨ j = 3 ∨ j = 4 ∨ j = 5 ∨ j = 6 ∨ j = 7 ∨ j = 8 ∨ j = 9 ∨ j = 10 ∨ j = 11 ∨ j = 12 ∨ j = 13 ∨ j = 14 ∨ j = 15 := by omega
  all_goals rfl

theorem GrpAt.lt {w : World} {b : Nat} {g : Nat → Bool} (h : GrpAt w b g) : b < w.heap.size := (Array.getElem?_eq_some_iff.1 h).1

theorem GrpAt.cell {w : World} {b : Nat} {g : Nat → Bool} (h : GrpAt w b g) {j : Nat} (hj : j < 16) : w.cell? ⟨b, j, none⟩ = some (.bool (g j)) := by
  have e := grpC_at g j hj
  unfold GrpAt at h
  simp only [World.cell?, h]
  exact e

theorem GrpAt.frozen {w : World} {b : Nat} {g : Nat → Bool} (h : GrpAt w b g) (j : Nat) : w.frozen? ⟨b, j, none⟩ = false := by
  unfold GrpAt at h
  simp [World.frozen?, h]

theorem grpAt_new (w : World) (g : Nat → Bool) : GrpAt (w.alloc (.cells (grpC g) 47)) w.heap.size g := by
  show (w.heap.push _)[w.heap.size]? = _
  simp

theorem GrpAt.below {w w' : World} {b : Nat} {g : Nat → Bool} (h : GrpAt w b g) (hb : Below w.heap.size w w') : GrpAt w' b g := (hb.block b h.lt).trans h

theorem GrpAt.same {w : World} {b : Nat} {g f : Nat → Bool} (h : GrpAt w b g) (e : ∀ j, j < 16 → g j = f j) : GrpAt w b f := by
  have : grpC g = grpC f := by
    unfold grpC
    rw [e 0 (by omega), e 1 (by omega), e 2 (by omega), e 3 (by omega), e 4 (by omega), e 5 (by omega), e 6 (by omega), e 7 (by omega), e 8 (by omega), e 9 (by omega), e 10 (by omega), e 11 (by omega), e 12 (by omega), e 13 (by omega), e 14 (by omega), e 15 (by omega)]
  unfold GrpAt at h ⊢
  rw [h, this]

theorem GrpAt.put {w : World} {b : Nat} {g : Nat → Bool} (h : GrpAt w b g) {j : Nat} (hj : j < 16) (c : Bool) : GrpAt (w.setCell ⟨b, j, none⟩ (.bool c)) b (fun p => if p = j then c else g p) := by
  obtain ⟨hlt, hk⟩ := Array.getElem?_eq_some_iff.1 h
  show (w.heap.modify b _)[b]? = _
  rw [Array.getElem?_eq_getElem (by rw [Array.size_modify]; exact hlt), Array.getElem_modify_self, hk]
  obtain rfl | rfl | rfl | rfl | rfl | rfl | rfl | rfl | rfl | rfl | rfl | rfl | rfl | rfl | rfl | rfl : j = 0 ∨ j = 1 ∨ j = 2 ∨ j = 3 ∨ j = 4 ∨ j = 5 ∨ j = 6 ∨ j = 7 ∨ j = 8 ∨ j = 9 ∨ j = 10 ∨ j = 11 ∨ j = 12 ∨ j = 13 ∨ j = 14 ∨ j = 15 := by omega
  all_goals rfl

/-- A group that is written over another one. -/
abbrev storeG (w : World) (b : Nat) (g : Nat → Bool) : World := (((((((((((((((w.setCell ⟨b, 0, none⟩ (.bool (g 0))).setCell ⟨b, 1, none⟩ (.bool (g 1))).setCell ⟨b, 2, none⟩ (.bool (g 2))).setCell ⟨b, 3, none⟩ (.bool (g 3))).setCell ⟨b, 4, none⟩ (.bool (g 4))).setCell ⟨b, 5, none⟩ (.bool (g 5))).setCell ⟨b, 6, none⟩ (.bool (g 6))).setCell ⟨b, 7, none⟩ (.bool (g 7))).setCell ⟨b, 8, none⟩ (.bool (g 8))).setCell ⟨b, 9, none⟩ (.bool (g 9))).setCell ⟨b, 10, none⟩ (.bool (g 10))).setCell ⟨b, 11, none⟩ (.bool (g 11))).setCell ⟨b, 12, none⟩ (.bool (g 12))).setCell ⟨b, 13, none⟩ (.bool (g 13))).setCell ⟨b, 14, none⟩ (.bool (g 14))).setCell ⟨b, 15, none⟩ (.bool (g 15))

theorem GrpAt.store {w : World} {b : Nat} {f : Nat → Bool} (h : GrpAt w b f) (g : Nat → Bool) : GrpAt (storeG w b g) b g := by
  refine (((((((((((((((((h.put (j := 0) (by omega) (g 0)).put (j := 1) (by omega) (g 1)).put (j := 2) (by omega) (g 2)).put (j := 3) (by omega) (g 3)).put (j := 4) (by omega) (g 4)).put (j := 5) (by omega) (g 5)).put (j := 6) (by omega) (g 6)).put (j := 7) (by omega) (g 7)).put (j := 8) (by omega) (g 8)).put (j := 9) (by omega) (g 9)).put (j := 10) (by omega) (g 10)).put (j := 11) (by omega) (g 11)).put (j := 12) (by omega) (g 12)).put (j := 13) (by omega) (g 13)).put (j := 14) (by omega) (g 14)).put (j := 15) (by omega) (g 15))).same ?_
  intro j hj
  obtain rfl | rfl | rfl | rfl | rfl | rfl | rfl | rfl | rfl | rfl | rfl | rfl | rfl | rfl | rfl | rfl : j = 0 ∨ j = 1 ∨ j = 2 ∨ j = 3 ∨ j = 4 ∨ j = 5 ∨ j = 6 ∨ j = 7 ∨ j = 8 ∨ j = 9 ∨ j = 10 ∨ j = 11 ∨ j = 12 ∨ j = 13 ∨ j = 14 ∨ j = 15 := by omega
  all_goals rfl

theorem GrpAt.set {w : World} {b : Nat} {f : Nat → Bool} (h : GrpAt w b f) {p : Addr} (hp : p.block ≠ b) (v : Value) : GrpAt (w.setCell p v) b f := by
  show (w.heap.modify p.block _)[b]? = _
  rw [Array.getElem?_modify, if_neg hp]
  exact h

theorem GrpAt.other {w : World} {b c : Nat} {f : Nat → Bool} (h : GrpAt w c f) (hne : b ≠ c) (g : Nat → Bool) : GrpAt (storeG w b g) c f :=
  ((((((((((((((((h.set (p := ⟨b, 0, none⟩) hne _).set (p := ⟨b, 1, none⟩) hne _).set (p := ⟨b, 2, none⟩) hne _).set (p := ⟨b, 3, none⟩) hne _).set (p := ⟨b, 4, none⟩) hne _).set (p := ⟨b, 5, none⟩) hne _).set (p := ⟨b, 6, none⟩) hne _).set (p := ⟨b, 7, none⟩) hne _).set (p := ⟨b, 8, none⟩) hne _).set (p := ⟨b, 9, none⟩) hne _).set (p := ⟨b, 10, none⟩) hne _).set (p := ⟨b, 11, none⟩) hne _).set (p := ⟨b, 12, none⟩) hne _).set (p := ⟨b, 13, none⟩) hne _).set (p := ⟨b, 14, none⟩) hne _).set (p := ⟨b, 15, none⟩) hne _)

theorem below_storeG {B b : Nat} {a w : World} (h : Below B a w) (hb : B ≤ b) (g : Nat → Bool) : Below B a (storeG w b g) :=
  ((((((((((((((((h.setCell (p := ⟨b, 0, none⟩) hb _).setCell (p := ⟨b, 1, none⟩) hb _).setCell (p := ⟨b, 2, none⟩) hb _).setCell (p := ⟨b, 3, none⟩) hb _).setCell (p := ⟨b, 4, none⟩) hb _).setCell (p := ⟨b, 5, none⟩) hb _).setCell (p := ⟨b, 6, none⟩) hb _).setCell (p := ⟨b, 7, none⟩) hb _).setCell (p := ⟨b, 8, none⟩) hb _).setCell (p := ⟨b, 9, none⟩) hb _).setCell (p := ⟨b, 10, none⟩) hb _).setCell (p := ⟨b, 11, none⟩) hb _).setCell (p := ⟨b, 12, none⟩) hb _).setCell (p := ⟨b, 13, none⟩) hb _).setCell (p := ⟨b, 14, none⟩) hb _).setCell (p := ⟨b, 15, none⟩) hb _)

theorem storeG_size (w : World) (b : Nat) (g : Nat → Bool) : (storeG w b g).heap.size = w.heap.size := by simp [storeG, World.setCell]

theorem loadVar_grp (w : World) (b : Nat) (cs : Array Value) (t : TypeId) (fr : Nat × Nat) (hb : w.heap[b]? = some (.cells cs t fr)) (hs : cs.size = 16) : (loadVar 47 ⟨b, 0, none⟩).run Try.prog w = .ok (.agg cs) w := by
  have h1 : (loadCells ⟨b, 0, none⟩ 16).run Try.prog w = .ok cs w := by
    have := run_loadCells_list (P := Try.prog) w ⟨b, 0, none⟩ cs.toList (fun j v hj => by
      rw [addr_add]
      simp only [World.cell?, hb]
      simpa using hj)
    simpa [hs] using this
  simp only [loadVar, Sem.run_bind, Try.isAgg47, Try.sizeOf47, Result.andThen, h1, if_true, Sem.run_pure]

theorem run_storeCells (P : Program) (b : Nat) : ∀ (vs : List Value) (i : Nat) (w : World), (∀ j, j < vs.length → (w.cell? ⟨b, i + j, none⟩).isSome = true ∧ w.frozen? ⟨b, i + j, none⟩ = false) → (∀ v ∈ vs, v.oneCell' = true) → (storeCells ⟨b, 0, none⟩ vs i).run P w = .ok () (w.setCells b i vs) := by
  intro vs
  induction vs with
  | nil => intro i w _ _; rfl
  | cons v vs ih =>
    intro i w hc h1
    obtain ⟨q1, q2⟩ := hc 0 (by simp)
    rw [Nat.add_zero] at q1 q2
    obtain ⟨u, hu⟩ := Option.isSome_iff_exists.1 q1
    have hst : (store (({ block := b, off := 0 } : Addr).add i) v).run P w = .ok () (w.setCell ⟨b, i, none⟩ v) := by
      rw [addr_add, Nat.zero_add, run_store P w _ v _ (h1 v (by simp)), hu]
      simp [q2]
    have hn := ih (i + 1) (w.setCell ⟨b, i, none⟩ v) (fun j hj => ?_) (fun u hu => h1 u (by simp [hu]))
    · simp only [storeCells, Sem.run_bind, hst, Result.andThen, hn, World.setCells]
    · obtain ⟨r1, r2⟩ := hc (j + 1) (by simp; omega)
      rw [show i + (j + 1) = i + 1 + j by omega] at r1 r2
      exact ⟨by rw [World.cell?_setCell_other _ _ _ _ (by intro q; injection q with _ q2; omega)]; exact r1, by rw [World.frozen?_setCell]; exact r2⟩

theorem storeVar_grp (w : World) (b : Nat) (f g : Nat → Bool) (hG : GrpAt w b f) : (storeVar 47 ⟨b, 0, none⟩ (grpV g)).run Try.prog w = .ok () (storeG w b g) := by
  have h1 := run_storeCells Try.prog b [.bool (g 0), .bool (g 1), .bool (g 2), .bool (g 3), .bool (g 4), .bool (g 5), .bool (g 6), .bool (g 7), .bool (g 8), .bool (g 9), .bool (g 10), .bool (g 11), .bool (g 12), .bool (g 13), .bool (g 14), .bool (g 15)] 0 w (fun j hj => by
    have hj : j < 16 := by simpa using hj
    rw [Nat.zero_add, hG.cell hj]
    exact ⟨rfl, hG.frozen j⟩) (by intro v hv; simp at hv; rcases hv with rfl | rfl | rfl | rfl | rfl | rfl | rfl | rfl | rfl | rfl | rfl | rfl | rfl | rfl | rfl | rfl <;> rfl)
  simp only [storeVar, Sem.run_bind, Try.sizeOf47, Result.andThen, Value.cells, List.size_toArray, List.length_cons, List.length_nil, Nat.reduceAdd, ne_eq, not_true_eq_false, if_false, h1]
  rfl

theorem GrpAt.lit {w : World} {b : Nat} {g : Nat → Bool} (h : GrpAt w b g) : w.heap[b]? = some (.cells #[.bool (g 0), .bool (g 1), .bool (g 2), .bool (g 3), .bool (g 4), .bool (g 5), .bool (g 6), .bool (g 7), .bool (g 8), .bool (g 9), .bool (g 10), .bool (g 11), .bool (g 12), .bool (g 13), .bool (g 14), .bool (g 15)] 47 (0, 0)) := h

theorem wp_load_grp {o : Oper} {a : Act} {w : World} {K : Act → World → Prop} {Q : Exit → Act → World → Prop} (x : Operand) (ho : o.op = .load 47 x) (b : Nat) (g : Nat → Bool) (hx : a.eval x = .pointer (some ⟨b, 0, none⟩)) (hG : GrpAt w b g)
    (h : K (a.put o.dst (grpV g)) w) : o.wp Try.prog a w K Q := by
  unfold Oper.wp execOp
  simp only [ho, hx, Instr.loadAt, Instr.sureAddr, Sem.run_bind, Sem.run_pure, Result.andThen_ok, loadVar_grp w b _ _ _ hG.lit rfl]
  exact h

theorem wpList_load_grp {ops : Array Oper} {rest : List Oper} {o : Oper} {a : Act} {w : World} {Q : Exit → Act → World → Prop} (hgd : o.guard = none) (x : Operand) (ho : o.op = .load 47 x) (b : Nat) (g : Nat → Bool) (hx : a.eval x = .pointer (some ⟨b, 0, none⟩)) (hG : GrpAt w b g)
    (h : wpList Try.prog ops Q rest (a.put o.dst (grpV g)) w) : wpList Try.prog ops Q (o :: rest) a w :=
  wpList_plain hgd fun _ hK => wp_load_grp x ho b g hx hG (hK _ _ h)

theorem wpList_load_grp_g {ops : Array Oper} {rest : List Oper} {o : Oper} {a : Act} {w : World} {Q : Exit → Act → World → Prop} (hwt : Region.wanted o (yielded ops a.tmps) = true) (x : Operand) (ho : o.op = .load 47 x) (b : Nat) (g : Nat → Bool) (hx : a.eval x = .pointer (some ⟨b, 0, none⟩)) (hG : GrpAt w b g)
    (h : wpList Try.prog ops Q rest (a.put o.dst (grpV g)) w) : wpList Try.prog ops Q (o :: rest) a w :=
  wpList_step fun K hK => by rw [if_pos hwt]; exact wp_load_grp x ho b g hx hG (hK _ _ h)

theorem wp_store_grp {o : Oper} {a : Act} {w : World} {K : Act → World → Prop} {Q : Exit → Act → World → Prop} (x y : Operand) (ho : o.op = .store 47 x y) (b : Nat) (f g : Nat → Bool) (hx : a.eval x = .pointer (some ⟨b, 0, none⟩)) (hy : a.eval y = grpV g) (hG : GrpAt w b f)
    (h : K (a.put o.dst undef) (storeG w b g)) : o.wp Try.prog a w K Q := by
  unfold Oper.wp execOp
  simp only [ho, hx, hy, Instr.storeAt, Instr.sureAddr, Sem.run_bind, Sem.run_pure, Result.andThen_ok, storeVar_grp w b f g hG]
  exact h

theorem wpList_store_grp {ops : Array Oper} {rest : List Oper} {o : Oper} {a : Act} {w : World} {Q : Exit → Act → World → Prop} (hgd : o.guard = none) (x y : Operand) (ho : o.op = .store 47 x y) (b : Nat) (f g : Nat → Bool) (hx : a.eval x = .pointer (some ⟨b, 0, none⟩)) (hy : a.eval y = grpV g) (hG : GrpAt w b f)
    (h : ∀ W, storeG w b g = W → wpList Try.prog ops Q rest (a.put o.dst undef) W) : wpList Try.prog ops Q (o :: rest) a w :=
  wpList_plain hgd fun _ hK => wp_store_grp x y ho b f g hx hy hG (hK _ _ (h _ rfl))

theorem results_grp {fn : Func} {p : Tmp} {tmps : Array Value} {w : World} {b : Nat} {g : Nat → Bool} (h : fn.results = #[.cell p 47]) (hp : tmps.getD p undef = .pointer (some ⟨b, 0, none⟩)) (hG : GrpAt w b g) :
    (results fn tmps).run Try.prog w = .ok (grpV g) w := by
  have e : (results fn tmps).run Try.prog w = ((asAddr (tmps.getD p undef)).run Try.prog w).andThen fun a w₁ => (loadVar 47 a).run Try.prog w₁ := by
    simp only [results, h]
    simp [Sem.run_bind, Result.andThen]
  rw [e, hp]
  have h2 := loadVar_grp w b _ _ _ hG.lit rfl
  simpa [asAddr, Result.andThen] using h2

theorem results_grp2 {fn : Func} {p u : Tmp} {tmps : Array Value} {w : World} {b : Nat} {g : Nat → Bool} {v : Value} (h : fn.results = #[.cell p 47, .tmp u]) (hp : tmps.getD p undef = .pointer (some ⟨b, 0, none⟩)) (hu : tmps.getD u undef = v) (hG : GrpAt w b g) :
    (results fn tmps).run Try.prog w = .ok (.tuple #[grpV g, v]) w := by
  rw [results_cell_tmp h, hp, hu]
  have h2 := loadVar_grp w b _ _ _ hG.lit rfl
  simp only [asAddr, Result.andThen, Sem.run_pure, h2]

end Go.Proofs.Ytnklepfommakpaa
