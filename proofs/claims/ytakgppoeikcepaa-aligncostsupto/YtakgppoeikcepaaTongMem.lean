/- Sets of marks in memory; only, or, and, empty. -/
import Derived.Test.YtakgppoeikcepaaGr06
import Derived.Test.YtakgppoeikcepaaGr00
import Derived.Laws.ResultCell
namespace Go.Proofs.Ytakgppoeikcepaa
open Go.RowKit
set_option linter.unusedVariables false
set_option maxRecDepth 4000

/-- A set as a value, and as cells. -/
abbrev setV (s : SetL) : Value := .agg #[.int .u64 (s.at_ 0 : Nat), .int .u64 (s.at_ 1 : Nat), .int .u64 (s.at_ 2 : Nat), .int .u64 (s.at_ 3 : Nat), .int .u64 (s.at_ 4 : Nat)]
abbrev setC (s : SetL) : Array Value := #[.int .u64 (s.at_ 0 : Nat), .int .u64 (s.at_ 1 : Nat), .int .u64 (s.at_ 2 : Nat), .int .u64 (s.at_ 3 : Nat), .int .u64 (s.at_ 4 : Nat)]
/-- A set that lies in a block from off on. -/
structure SetC (w : World) (b off : Nat) (s : SetL) : Prop where
  lt : b < w.heap.size
  c0 : w.cell? ⟨b, off, none⟩ = some (.int .u64 (s.at_ 0 : Nat))
  c1 : w.cell? ⟨b, off + 1, none⟩ = some (.int .u64 (s.at_ 1 : Nat))
  c2 : w.cell? ⟨b, off + 2, none⟩ = some (.int .u64 (s.at_ 2 : Nat))
  c3 : w.cell? ⟨b, off + 3, none⟩ = some (.int .u64 (s.at_ 3 : Nat))
  c4 : w.cell? ⟨b, off + 4, none⟩ = some (.int .u64 (s.at_ 4 : Nat))
/-- A set that has a block for itself. -/
def SetAt (w : World) (b : Nat) (s : SetL) : Prop := w.heap[b]? = some (.cells (setC s) 77 (0, 0))

theorem SetC.below {w w' : World} {b off : Nat} {s : SetL} (h : SetC w b off s) (hb : Below w.heap.size w w') : SetC w' b off s :=
  ⟨Nat.lt_of_lt_of_le h.lt hb.size, (hb.cell (p := ⟨b, _, none⟩) h.lt).trans h.c0, (hb.cell (p := ⟨b, _, none⟩) h.lt).trans h.c1, (hb.cell (p := ⟨b, _, none⟩) h.lt).trans h.c2, (hb.cell (p := ⟨b, _, none⟩) h.lt).trans h.c3, (hb.cell (p := ⟨b, _, none⟩) h.lt).trans h.c4⟩
theorem SetAt.lt {w : World} {b : Nat} {s : SetL} (h : SetAt w b s) : b < w.heap.size := (Array.getElem?_eq_some_iff.1 h).1
theorem SetAt.below {w w' : World} {b : Nat} {s : SetL} (h : SetAt w b s) (hb : Below w.heap.size w w') : SetAt w' b s := (hb.block b h.lt).trans h
theorem SetAt.c {w : World} {b : Nat} {s : SetL} (h : SetAt w b s) : SetC w b 0 s := by
  have hl := h.lt
  unfold SetAt at h
  refine ⟨hl, ?_, ?_, ?_, ?_, ?_⟩ <;> simp [World.cell?, h]
theorem SetAt.frozen {w : World} {b : Nat} {s : SetL} (h : SetAt w b s) (j : Nat) : w.frozen? ⟨b, j, none⟩ = false := by
  unfold SetAt at h
  simp [World.frozen?, h]
theorem setAt_new (w : World) (s : SetL) : SetAt (w.alloc (.cells (setC s) 77)) w.heap.size s := by
  show (w.heap.push _)[w.heap.size]? = _
  simp

/-- Five cells written over. -/
theorem SetAt.store {w : World} {b : Nat} {s : SetL} (h : SetAt w b s) (t : SetL) :
    ∃ W, Hid (((((w.setCell ⟨b, 0, none⟩ (.int .u64 (t.at_ 0 : Nat))).setCell ⟨b, 1, none⟩ (.int .u64 (t.at_ 1 : Nat))).setCell ⟨b, 2, none⟩ (.int .u64 (t.at_ 2 : Nat))).setCell ⟨b, 3, none⟩ (.int .u64 (t.at_ 3 : Nat))).setCell ⟨b, 4, none⟩ (.int .u64 (t.at_ 4 : Nat)) = W) ∧ SetAt W b t ∧ Below b w W ∧ (∀ k, k ≠ b → W.heap[k]? = w.heap[k]?) ∧ W.heap.size = w.heap.size := by
  refine ⟨_, rfl, ?_, ?_, ?_, by simp [World.setCell]⟩
  · obtain ⟨hlt, hk⟩ := Array.getElem?_eq_some_iff.1 h
    unfold SetAt
    simp only [World.setCell, Array.getElem?_modify, if_true]
    simp
    exact ⟨_, h, rfl⟩
  · exact (((((Below.refl b w).setCell (p := ⟨b, 0, none⟩) (Nat.le_refl _) _).setCell (p := ⟨b, 1, none⟩) (Nat.le_refl _) _).setCell (p := ⟨b, 2, none⟩) (Nat.le_refl _) _).setCell (p := ⟨b, 3, none⟩) (Nat.le_refl _) _).setCell (p := ⟨b, 4, none⟩) (Nat.le_refl _) _
  · intro k hk
    rw [Below.heap_setCell _ _ _ _ (by exact hk), Below.heap_setCell _ _ _ _ (by exact hk), Below.heap_setCell _ _ _ _ (by exact hk), Below.heap_setCell _ _ _ _ (by exact hk), Below.heap_setCell _ _ _ _ (by exact hk)]

theorem SetAt.put {w : World} {b : Nat} {s : SetL} (h : SetAt w b s) {j x : Nat} (hj : j < 5) (t : SetL) (hx : t.at_ j = x) (ho : ∀ i, i ≠ j → t.at_ i = s.at_ i) : SetAt (w.setCell ⟨b, j, none⟩ (.int .u64 (x : Int))) b t := by
  obtain ⟨hlt, hk⟩ := Array.getElem?_eq_some_iff.1 h
  subst hx
  show (w.heap.modify b _)[b]? = _
  rw [Array.getElem?_eq_getElem (by rw [Array.size_modify]; exact hlt), Array.getElem_modify_self, hk]
  obtain rfl | rfl | rfl | rfl | rfl : j = 0 ∨ j = 1 ∨ j = 2 ∨ j = 3 ∨ j = 4 := by omega
  all_goals (simp only [setC]; (try rw [ho 0 (by omega)]); (try rw [ho 1 (by omega)]); (try rw [ho 2 (by omega)]); (try rw [ho 3 (by omega)]); (try rw [ho 4 (by omega)]); rfl)
theorem SetAt.other {w : World} {b : Nat} {s : SetL} (h : SetAt w b s) {p : Addr} (hp : p.block ≠ b) (v : Value) : SetAt (w.setCell p v) b s := (Below.heap_setCell _ _ _ _ (fun e => hp e.symm)).trans h

theorem SetAt.cell {w : World} {b : Nat} {s : SetL} (h : SetAt w b s) {j : Nat} (hj : j < 5) : w.cell? ⟨b, j, none⟩ = some (.int .u64 (s.at_ j : Nat)) := by
  obtain ⟨_, c0, c1, c2, c3, c4⟩ := h.c
  simp only [Nat.zero_add] at c1 c2 c3 c4
  obtain rfl | rfl | rfl | rfl | rfl : j = 0 ∨ j = 1 ∨ j = 2 ∨ j = 3 ∨ j = 4 := by omega
  all_goals assumption
theorem index_set (w : World) (s : SetL) (k : Nat) (hk : k < 5) : (Instr.index 77 (setV s) (.int .i64 (k : Int))).run Try.prog w = .ok (.int .u64 (s.at_ k : Nat)) w := by
  unfold setV
  generalize hcs : #[Value.int .u64 (s.at_ 0 : Nat), .int .u64 (s.at_ 1 : Nat), .int .u64 (s.at_ 2 : Nat), .int .u64 (s.at_ 3 : Nat), .int .u64 (s.at_ 4 : Nat)] = cs
  have e2 : cs[k]? = some (.int .u64 (s.at_ k : Nat)) := by
    rw [← hcs]
    obtain rfl | rfl | rfl | rfl | rfl : k = 0 ∨ k = 1 ∨ k = 2 ∨ k = 3 ∨ k = 4 := by omega
    all_goals rfl
  simp [Instr.index, asIntOf, run_underlying Try.underlying77, part, e2, go_sem]
  omega

theorem results_set {fn : Func} {p : Tmp} {tmps : Array Value} {w : World} {b : Nat} {s : SetL} (h : fn.results = #[.cell p 77]) (hp : tmps.getD p undef = .pointer (some ⟨b, 0, none⟩)) (hG : SetC w b 0 s) :
    (results fn tmps).run Try.prog w = .ok (setV s) w := by
  have e : (results fn tmps).run Try.prog w = ((asAddr (tmps.getD p undef)).run Try.prog w).andThen fun a w₁ => (loadVar 77 a).run Try.prog w₁ := by
    simp only [results, h]
    simp [Sem.run_bind, Result.andThen]
  rw [e, hp]
  obtain ⟨_, c0, c1, c2, c3, c4⟩ := hG
  simp only [Nat.zero_add] at c1 c2 c3 c4
  go_simp

theorem setC_old {w : World} {cs : Array Value} {o : Obj} {s : SetL} (h : cs = setC s) : SetC ((w.alloc (.cells cs 77)).alloc o) w.heap.size 0 s := by
  subst h
  exact ((setAt_new w s).below (below_new _ o)).c

set_option maxHeartbeats 1000000 in
theorem only_any (m : Nat) (hm : m < 320) (w : World) :
    Calls Try.prog 65 #[.int .i64 (m : Int)] w fun e w' => e = .returned (setV (onlyS m)) ∧ Below w.heap.size w w' := by
  obtain ⟨k, hk⟩ : ∃ k, m / 64 = k := ⟨_, rfl⟩
  obtain ⟨r, hr⟩ : ∃ r, m % 64 = r := ⟨_, rfl⟩
  have h1 : ((m : Int).tdiv 64) = (k : Int) := by rw [Int.tdiv_eq_ediv_of_nonneg (by omega)]; omega
  have h2 : ((m : Int).tmod 64) = (r : Int) := by rw [Int.tmod_eq_emod_of_nonneg (by omega)]; omega
  have hk5 : k < 5 := by omega
  have hr6 : r < 64 := by omega
  have hfit := (onlyS m).fit k
  have hat : (onlyS m).at_ k = 2 ^ r := by simp [onlyS, hk, hr]
  have hwr : IntKind.u64.wrap (2 ^ r) = ((2 ^ r : Nat) : Int) := by
    rw [hat] at hfit
    have e : (2 : Int) ^ r = ((2 ^ r : Nat) : Int) := by rw [Int.natCast_pow]; rfl
    rw [e]
    obtain ⟨p, hp⟩ : ∃ p, 2 ^ r = p := ⟨_, rfl⟩
    rw [hp] at hfit ⊢
    simp only [IntKind.wrap, IntKind.signed, IntKind.bits]
    simp
    omega
  have hn : ∀ j, j ≠ k → (onlyS m).at_ j = 0 := fun j hj => by simp only [onlyS, hk]; rw [if_neg hj]
  have b1 := below_new w (.cells #[.int .u64 0, .int .u64 0, .int .u64 0, .int .u64 0, .int .u64 0] 77)
  obtain rfl | rfl | rfl | rfl | rfl : k = 0 ∨ k = 1 ∨ k = 2 ∨ k = 3 ∨ k = 4 := by omega
  all_goals
    go_enter Try.func65, Try.ntmps65
    go_wp2
    refine bodyPost_ret (results_set (s := onlyS m) rfl rfl ?_) rfl ⟨rfl, ?_⟩
    · refine setC_old ?_
      simp [setC, hat, hn, Int.natCast_pow]
    · exact below_then (below_new _ _) (below_new _ _)

/-- The first k words are joined. -/
def orTo (s t : SetL) (k : Nat) : SetL := ⟨fun j => if j < k then (orS s t).at_ j else s.at_ j, fun j => by split; exact (orS s t).fit j; exact s.fit j⟩

set_option maxHeartbeats 1000000 in
theorem or_any (s t : SetL) (w : World) :
    Calls Try.prog 41 #[setV s, setV t] w fun e w' => e = .returned (setV (orS s t)) ∧ Below w.heap.size w w' := by
  have a1 := setAt_new w s
  have b1 := below_new w (.cells (setC s) 77)
  have a2 := setAt_new (w.alloc (.cells (setC s) 77)) t
  have b2 := below_new (w.alloc (.cells (setC s) 77)) (.cells (setC t) 77)
  have a3 := setAt_new ((w.alloc (.cells (setC s) 77)).alloc (.cells (setC t) 77)) noneS
  have b3 := below_new ((w.alloc (.cells (setC s) 77)).alloc (.cells (setC t) 77)) (.cells (setC noneS) 77)
  obtain ⟨w0, Hw⟩ : ∃ w0, Hid (((w.alloc (.cells (setC s) 77)).alloc (.cells (setC t) 77)).alloc (.cells (setC noneS) 77) = w0) := ⟨_, rfl⟩
  have c : Below w.heap.size w w0 := by rw [← Hw.out]; exact below_then (below_then b1 b2) b3
  have A1 : SetAt w0 w.heap.size s := by rw [← Hw.out]; exact (a1.below b2).below b3
  have A2 : SetAt w0 (w.heap.size + 1) t := by
    have e : (w.alloc (.cells (setC s) 77)).heap.size = w.heap.size + 1 := by simp
    rw [← Hw.out, ← e]; exact a2.below b3
  have A3 : SetAt w0 (w.heap.size + 1 + 1) noneS := by
    have e : ((w.alloc (.cells (setC s) 77)).alloc (.cells (setC t) 77)).heap.size = w.heap.size + 1 + 1 := by simp
    rw [← Hw.out, ← e]; exact a3
  clear a1 b1 a2 b2 a3 b3
  go_enter Try.func41, Try.ntmps41
  go_upto_region 1 with fail
  have e0 : (((w.alloc (.cells #[.int .u64 (s.at_ 0 : Nat), .int .u64 (s.at_ 1 : Nat), .int .u64 (s.at_ 2 : Nat), .int .u64 (s.at_ 3 : Nat), .int .u64 (s.at_ 4 : Nat)] 77)).alloc (.cells #[.int .u64 (t.at_ 0 : Nat), .int .u64 (t.at_ 1 : Nat), .int .u64 (t.at_ 2 : Nat), .int .u64 (t.at_ 3 : Nat), .int .u64 (t.at_ 4 : Nat)] 77)).alloc (.cells #[.int .u64 0, .int .u64 0, .int .u64 0, .int .u64 0, .int .u64 0] 77)) = w0 := Hw.out
  rw [e0]
  clear e0 Hw
  obtain ⟨_, d0, d1, d2, d3, d4⟩ := A2.c
  simp only [Nat.zero_add] at d1 d2 d3 d4
  go_upto_region 2 with fail
  go_loopw [8] (fun i wr => ∃ k : Nat, k ≤ 5 ∧ i = .int .i64 (k : Int) ∧ SetAt wr w.heap.size (orTo s t k) ∧ SetAt wr (w.heap.size + 1 + 1) noneS ∧ Below w.heap.size w wr) (fun i _ => (5 - intOf i).toNat)
  case atStart => exact ⟨0, by omega, by go_num, A1, A3, c⟩
  case round =>
    obtain ⟨k, hk, rfl, hA, hN, hb⟩ := hrel
    by_cases h5 : k = 5
    · subst h5
      obtain ⟨_, c0, c1, c2, c3, c4⟩ := hA.c
      have e : ∀ j, j < 5 → (orTo s t 5).at_ j = (orS s t).at_ j := fun j hj => by simp only [orTo]; rw [if_pos hj]
      simp only [Nat.zero_add] at c0 c1 c2 c3 c4
      rw [e _ (by omega)] at c0 c1 c2 c3 c4
      obtain ⟨_, n0, n1, n2, n3, n4⟩ := hN.c
      simp only [Nat.zero_add] at n1 n2 n3 n4
      have f0 := hN.frozen 0
      have f1 := hN.frozen 1
      have f2 := hN.frozen 2
      have f3 := hN.frozen 3
      have f4 := hN.frozen 4
      obtain ⟨W, HW, hS, hBW, _, _⟩ := hN.store (orS s t)
      have R : Below w.heap.size w W := hb.trans (hBW.mono (by omega))
      clear hN hA hBW
      go_wp2_with fail
      rw [HW.out]
      exact bodyPost_ret (results_set rfl rfl hS.c) rfl ⟨rfl, R⟩
    · have c0 := hA.cell (j := k) (by omega)
      have e : (orTo s t k).at_ k = s.at_ k := by simp only [orTo]; rw [if_neg (by omega)]
      rw [e] at c0
      have hi := index_set wr t k (by omega)
      have ho : bits .or .u64 (s.at_ k : Nat) (t.at_ k : Nat) = (((orS s t).at_ k : Nat) : Int) := u64_or_nat _ _ (s.fit k) (t.fit k)
      have hfz := hA.frozen k
      have H1 : Hid (SetAt (wr.setCell ⟨w.heap.size, k, none⟩ (.int .u64 ((orS s t).at_ k : Nat))) w.heap.size (orTo s t (k + 1))) := hA.put (by omega) _ (by simp only [orTo]; rw [if_pos (by omega)]) (fun i hi => by
        simp only [orTo]
        by_cases h1 : i < k
        · rw [if_pos h1, if_pos (by omega)]
        · rw [if_neg h1, if_neg (by omega)])
      have H2 : Hid (SetAt (wr.setCell ⟨w.heap.size, k, none⟩ (.int .u64 ((orS s t).at_ k : Nat))) (w.heap.size + 1 + 1) noneS) := hN.other (by show w.heap.size ≠ _; omega) _
      have H3 : Hid (Below w.heap.size w (wr.setCell ⟨w.heap.size, k, none⟩ (.int .u64 ((orS s t).at_ k : Nat)))) := hb.setCell (p := ⟨w.heap.size, k, none⟩) (Nat.le_refl _) _
      clear hA hN hb e
      go_wp2
      go_roundw
      case rel => exact ⟨k + 1, by omega, by go_num, H1.out, H2.out, H3.out⟩
      case measure => simp [intOf]; omega

/-- The first k words are joined. -/
def andTo (s t : SetL) (k : Nat) : SetL := ⟨fun j => if j < k then (andS s t).at_ j else s.at_ j, fun j => by split; exact (andS s t).fit j; exact s.fit j⟩

theorem setC_at (s : SetL) (j : Nat) (hj : j < 5) : (setC s)[j]? = some (.int .u64 (s.at_ j : Nat)) := by
  obtain rfl | rfl | rfl | rfl | rfl : j = 0 ∨ j = 1 ∨ j = 2 ∨ j = 3 ∨ j = 4 := by omega
  all_goals rfl

theorem equal_set (w : World) (d : Nat) (s t : SetL) : (Op.equalIn (d + 2) 77 (.agg (setC s)) (.agg (setC t))).run Try.prog w = .ok (eqS s t) w := by
  have hg := setC_at s
  have hh := setC_at t
  unfold eqS
  generalize setC s = xs at *
  generalize setC t = ys at *
  rw [List.range_eq_range', Op.equalIn]
  simp only [Sem.run_bind, run_underlying Try.underlying77, Result.andThen_ok, Try.sizeOf75, Std.Legacy.Range.forIn_eq_forIn_range', Std.Legacy.Range.size, Nat.sub_zero, Nat.add_sub_cancel, Nat.div_one]
  have hl : ∀ i ∈ List.range' 0 5 1, i < 5 := fun i hi => by simpa using (List.mem_range'_1.1 hi).2
  generalize List.range' 0 5 1 = l at hl ⊢
  induction l with
  | nil => simp
  | cons i l ih =>
    have hi : i < 5 := hl i (by simp)
    have px : (part 75 xs (i * 1)).run Try.prog w = .ok (.int .u64 (s.at_ i : Nat)) w := by
      simp [part, isAgg, run_underlying Try.underlying75, hg i hi]
    have py : (part 75 ys (i * 1)).run Try.prog w = .ok (.int .u64 (t.at_ i : Nat)) w := by
      simp [part, isAgg, run_underlying Try.underlying75, hh i hi]
    have pe := run_equalIn_int (P := Try.prog) w d 75 .u64 .u64 (s.at_ i : Nat) (t.at_ i : Nat) Try.underlying75
    simp only [List.forIn_cons, Sem.run_bind, px, py, pe, Result.andThen_ok, List.all_cons]
    cases hb : ((s.at_ i : Int) == (t.at_ i : Int))
    · simp
    · simp only [Bool.not_true, Bool.false_eq_true, if_false, Sem.run_pure, Result.andThen_ok, Bool.true_and]
      exact ih fun j hj => hl j (by simp [hj])

theorem eql_set (w : World) (s t : SetL) : (binOp .eql 77 (setV s) (setV t)).run Try.prog w = .ok (.bool (eqS s t)) w := by
  have e := equal_set w 9998 s t
  rw [run_eql_struct, e]
  rfl

end Go.Proofs.Ytakgppoeikcepaa
