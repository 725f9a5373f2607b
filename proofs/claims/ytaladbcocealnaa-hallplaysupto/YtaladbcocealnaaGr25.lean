import Derived.Test.YtaladbcocealnaaGr22
import Derived.Test.YtaladbcocealnaaGr24
import Derived.Test.YtaladbcocealnaaGr01
import Derived.BigQuiet
/- The document's own desk: what it holds in memory while one thing is done. -/
namespace Go.Proofs.Ytaladbcocealnaa
open Go.RowKit
set_option linter.unusedVariables false
set_option linter.unusedSimpArgs false
set_option maxRecDepth 4000

/-- A desk whose slices lie beside block g. -/
def DeskOff (g : Nat) (v : Value) : Prop := ∃ x y z, v = .agg #[x, y, z] ∧ SlOff g x ∧ SlOff g y ∧ SlOff g z
theorem DeskOff.parts {g : Nat} {x y z : Value} (h : DeskOff g (.agg #[x, y, z])) : SlOff g x ∧ SlOff g y ∧ SlOff g z := by
  obtain ⟨x', y', z', e, h1, h2, h3⟩ := h
  injection e with e
  injection e with e
  injection e with e1 e
  injection e with e2 e
  injection e with e3 _
  subst e1 e2 e3
  exact ⟨h1, h2, h3⟩
/-- What a call answers that does one thing at a desk: slices of the desk that it was given, or in new blocks. -/
def GivesQ (w : World) (dv : Value) (p : DeskL × DAns) (e : Ending) (w' : World) : Prop :=
  ∃ r, e = .returned (.tuple #[r, .agg #[.int .i64 p.2.err, .int .i64 p.2.item]]) ∧ DeskV w' r p.1 ∧ Below w.heap.size w w' ∧ ∀ g, g < w.heap.size → DeskOff g dv → DeskOff g r

/-- All of it, boxed. -/
structure QAt (w : World) (A : Nat) (p : Int) (tv x y z : Value) (o : DOp) : Prop where
  net : CellsAt w A #[.int .i64 p, tv] 24
  desk : CellsAt w (A + 1) #[x, y, z] 32
  op : CellsAt w (A + 1 + 1) #[.int .i64 o.kind, .int .i64 o.user, .int .i64 o.tran, .int .i64 o.item, .int .i64 o.hand] 45
  rd : CellsAt w (A + 1 + 1 + 1) #[.slice none 0 0, .slice none 0 0, .slice none 0 0] 32
  ra : CellsAt w (A + 1 + 1 + 1 + 1) #[.int .i64 0, .int .i64 0] 40
theorem QAt.below {w w' : World} {A : Nat} {p : Int} {tv x y z : Value} {o : DOp} (h : QAt w A p tv x y z o) (hb : Below w.heap.size w w') : QAt w' A p tv x y z o :=
  ⟨h.net.below hb, h.desk.below hb, h.op.below hb, h.rd.below hb, h.ra.below hb⟩
theorem QAt.keep {w w' : World} {A B : Nat} {p : Int} {tv x y z : Value} {o : DOp} (h : QAt w A p tv x y z o) (hA : A + 1 + 1 + 1 + 1 < B) (hk : ∀ k, k < B → w'.heap[k]? = w.heap[k]?) : QAt w' A p tv x y z o :=
  ⟨(hk _ (by omega)).trans h.net, (hk _ (by omega)).trans h.desk, (hk _ (by omega)).trans h.op, (hk _ (by omega)).trans h.rd, (hk _ (by omega)).trans h.ra⟩
theorem QAt.cells {w : World} {A : Nat} {p : Int} {tv x y z : Value} {o : DOp} (h : QAt w A p tv x y z o) :
    (w.cell? ⟨A, 0, none⟩ = some (.int .i64 p) ∧ w.cell? ⟨A, 1, none⟩ = some tv) ∧
    (w.cell? ⟨A + 1, 0, none⟩ = some x ∧ w.cell? ⟨A + 1, 1, none⟩ = some y ∧ w.cell? ⟨A + 1, 2, none⟩ = some z) ∧
    (w.cell? ⟨A + 1 + 1, 0, none⟩ = some (.int .i64 o.kind) ∧ w.cell? ⟨A + 1 + 1, 1, none⟩ = some (.int .i64 o.user) ∧ w.cell? ⟨A + 1 + 1, 2, none⟩ = some (.int .i64 o.tran) ∧ w.cell? ⟨A + 1 + 1, 3, none⟩ = some (.int .i64 o.item) ∧ w.cell? ⟨A + 1 + 1, 4, none⟩ = some (.int .i64 o.hand)) :=
  ⟨⟨h.net.cell 0, h.net.cell 1⟩, ⟨h.desk.cell 0, h.desk.cell 1, h.desk.cell 2⟩, ⟨h.op.cell 0, h.op.cell 1, h.op.cell 2, h.op.cell 3, h.op.cell 4⟩⟩
theorem QAt.res {w : World} {A : Nat} {p : Int} {tv x y z : Value} {o : DOp} (h : QAt w A p tv x y z o) :
    (w.cell? ⟨A + 1 + 1 + 1, 0, none⟩ = some (.slice none 0 0) ∧ w.cell? ⟨A + 1 + 1 + 1, 1, none⟩ = some (.slice none 0 0) ∧ w.cell? ⟨A + 1 + 1 + 1, 2, none⟩ = some (.slice none 0 0)) ∧
    (w.frozen? ⟨A + 1 + 1 + 1, 0, none⟩ = false ∧ w.frozen? ⟨A + 1 + 1 + 1, 1, none⟩ = false ∧ w.frozen? ⟨A + 1 + 1 + 1, 2, none⟩ = false) ∧
    (w.cell? ⟨A + 1 + 1 + 1 + 1, 0, none⟩ = some (.int .i64 0) ∧ w.cell? ⟨A + 1 + 1 + 1 + 1, 1, none⟩ = some (.int .i64 0)) ∧
    (w.frozen? ⟨A + 1 + 1 + 1 + 1, 0, none⟩ = false ∧ w.frozen? ⟨A + 1 + 1 + 1 + 1, 1, none⟩ = false) :=
  ⟨⟨h.rd.cell 0, h.rd.cell 1, h.rd.cell 2⟩, ⟨h.rd.frozen 0, h.rd.frozen 1, h.rd.frozen 2⟩, ⟨h.ra.cell 0, h.ra.cell 1⟩, ⟨h.ra.frozen 0, h.ra.frozen 1⟩⟩

theorem qdo_boxes (w : World) (p : Int) (tv x y z : Value) (o : DOp) : ∃ w0, Hid (((((w.alloc (.cells #[.int .i64 p, tv] 24)).alloc (.cells #[x, y, z] 32)).alloc (.cells #[.int .i64 o.kind, .int .i64 o.user, .int .i64 o.tran, .int .i64 o.item, .int .i64 o.hand] 45)).alloc (.cells #[.slice none 0 0, .slice none 0 0, .slice none 0 0] 32)).alloc (.cells #[.int .i64 0, .int .i64 0] 40) = w0) ∧
    QAt w0 w.heap.size p tv x y z o ∧ Below w.heap.size w w0 ∧ Hid (w0.heap.size = w.heap.size + 1 + 1 + 1 + 1 + 1) := by
  have b1 := below_new w (.cells #[.int .i64 p, tv] 24)
  have h1 := cellsAt_new w #[.int .i64 p, tv] 24
  obtain ⟨w1, H1⟩ : ∃ w1, w.alloc (.cells #[.int .i64 p, tv] 24) = w1 := ⟨_, rfl⟩
  have s1 : w1.heap.size = w.heap.size + 1 := by rw [← H1]; simp
  rw [H1] at b1 h1 ⊢
  have b2 := below_new w1 (.cells #[x, y, z] 32)
  have h2 := cellsAt_new w1 #[x, y, z] 32
  rw [s1] at h2
  obtain ⟨w2, H2⟩ : ∃ w2, w1.alloc (.cells #[x, y, z] 32) = w2 := ⟨_, rfl⟩
  have s2 : w2.heap.size = w.heap.size + 1 + 1 := by rw [← H2]; simp [s1]
  rw [H2] at b2 h2 ⊢
  have b3 := below_new w2 (.cells #[.int .i64 o.kind, .int .i64 o.user, .int .i64 o.tran, .int .i64 o.item, .int .i64 o.hand] 45)
  have h3 := cellsAt_new w2 #[.int .i64 o.kind, .int .i64 o.user, .int .i64 o.tran, .int .i64 o.item, .int .i64 o.hand] 45
  rw [s2] at h3
  obtain ⟨w3, H3⟩ : ∃ w3, w2.alloc (.cells #[.int .i64 o.kind, .int .i64 o.user, .int .i64 o.tran, .int .i64 o.item, .int .i64 o.hand] 45) = w3 := ⟨_, rfl⟩
  have s3 : w3.heap.size = w.heap.size + 1 + 1 + 1 := by rw [← H3]; simp [s2]
  rw [H3] at b3 h3 ⊢
  have b4 := below_new w3 (.cells #[.slice none 0 0, .slice none 0 0, .slice none 0 0] 32)
  have h4 := cellsAt_new w3 #[.slice none 0 0, .slice none 0 0, .slice none 0 0] 32
  rw [s3] at h4
  obtain ⟨w4, H4⟩ : ∃ w4, w3.alloc (.cells #[.slice none 0 0, .slice none 0 0, .slice none 0 0] 32) = w4 := ⟨_, rfl⟩
  have s4 : w4.heap.size = w.heap.size + 1 + 1 + 1 + 1 := by rw [← H4]; simp [s3]
  rw [H4] at b4 h4 ⊢
  have b5 := below_new w4 (.cells #[.int .i64 0, .int .i64 0] 40)
  have h5 := cellsAt_new w4 #[.int .i64 0, .int .i64 0] 40
  rw [s4] at h5
  have b45 := below_then b4 b5
  have b345 := below_then b3 b45
  have b2345 := below_then b2 b345
  exact ⟨_, rfl, ⟨h1.below b2345, h2.below b345, h3.below b45, h4.below b5, h5⟩, below_then b1 b2345, by show _ = _; simp [s4]⟩

/-- The results, filled. -/
theorem QAt.fill {w w1 W : World} {p : Int} {tv x y z : Value} {o : DOp} (h : QAt w1 w.heap.size p tv x y z o) (c0 : Below w.heap.size w w1) (x' y' z' : Value) (e i : Int)
    (hW : ((((w1.setCell ⟨w.heap.size + 1 + 1 + 1, 0, none⟩ x').setCell ⟨w.heap.size + 1 + 1 + 1, 1, none⟩ y').setCell ⟨w.heap.size + 1 + 1 + 1, 2, none⟩ z').setCell ⟨w.heap.size + 1 + 1 + 1 + 1, 0, none⟩ (.int .i64 e)).setCell ⟨w.heap.size + 1 + 1 + 1 + 1, 1, none⟩ (.int .i64 i) = W) :
    CellsAt W (w.heap.size + 1 + 1 + 1) #[x', y', z'] 32 ∧ CellsAt W (w.heap.size + 1 + 1 + 1 + 1) #[.int .i64 e, .int .i64 i] 40 ∧ Below w.heap.size w W ∧ W.heap.size = w1.heap.size ∧ ∀ k, w.heap.size + 1 + 1 + 1 + 1 < k → W.heap[k]? = w1.heap[k]? := by
  have n1 : w.heap.size + 1 + 1 + 1 + 1 ≠ w.heap.size + 1 + 1 + 1 := by omega
  have n2 : w.heap.size + 1 + 1 + 1 ≠ w.heap.size + 1 + 1 + 1 + 1 := by omega
  have r1 := ((((h.rd.put 0 x').put 1 y').put 2 z').set (p := ⟨w.heap.size + 1 + 1 + 1 + 1, 0, none⟩) n1 (.int .i64 e)).set (p := ⟨w.heap.size + 1 + 1 + 1 + 1, 1, none⟩) n1 (.int .i64 i)
  have r2 := ((((h.ra.set (p := ⟨w.heap.size + 1 + 1 + 1, 0, none⟩) n2 x').set (p := ⟨w.heap.size + 1 + 1 + 1, 1, none⟩) n2 y').set (p := ⟨w.heap.size + 1 + 1 + 1, 2, none⟩) n2 z').put 0 (.int .i64 e)).put 1 (.int .i64 i)
  have c1 := ((((c0.setCell (p := ⟨w.heap.size + 1 + 1 + 1, 0, none⟩) (by show _ ≤ w.heap.size + 1 + 1 + 1; omega) x').setCell (p := ⟨w.heap.size + 1 + 1 + 1, 1, none⟩) (by show _ ≤ w.heap.size + 1 + 1 + 1; omega) y').setCell (p := ⟨w.heap.size + 1 + 1 + 1, 2, none⟩) (by show _ ≤ w.heap.size + 1 + 1 + 1; omega) z').setCell (p := ⟨w.heap.size + 1 + 1 + 1 + 1, 0, none⟩) (by show _ ≤ w.heap.size + 1 + 1 + 1 + 1; omega) (.int .i64 e)).setCell (p := ⟨w.heap.size + 1 + 1 + 1 + 1, 1, none⟩) (by show _ ≤ w.heap.size + 1 + 1 + 1 + 1; omega) (.int .i64 i)
  subst hW
  refine ⟨r1, r2, c1, by simp [World.setCell], fun k hk => ?_⟩
  rw [Below.heap_setCell _ ⟨w.heap.size + 1 + 1 + 1 + 1, 1, none⟩ _ k (by show k ≠ w.heap.size + 1 + 1 + 1 + 1; omega), Below.heap_setCell _ ⟨w.heap.size + 1 + 1 + 1 + 1, 0, none⟩ _ k (by show k ≠ w.heap.size + 1 + 1 + 1 + 1; omega),
    Below.heap_setCell _ ⟨w.heap.size + 1 + 1 + 1, 2, none⟩ _ k (by show k ≠ w.heap.size + 1 + 1 + 1; omega), Below.heap_setCell _ ⟨w.heap.size + 1 + 1 + 1, 1, none⟩ _ k (by show k ≠ w.heap.size + 1 + 1 + 1; omega), Below.heap_setCell _ ⟨w.heap.size + 1 + 1 + 1, 0, none⟩ _ k (by show k ≠ w.heap.size + 1 + 1 + 1; omega)]

theorem results_qdo {fn : Func} {p u : Tmp} {tmps : Array Value} {w : World} {b c : Nat} {x y z q i : Value} (h : fn.results = #[.cell p 32, .cell u 40]) (hp : tmps.getD p undef = .pointer (some ⟨b, 0, none⟩)) (hu : tmps.getD u undef = .pointer (some ⟨c, 0, none⟩)) (h1 : CellsAt w b #[x, y, z] 32) (h2 : CellsAt w c #[q, i] 40) :
    (results fn tmps).run Try.prog w = .ok (.tuple #[.agg #[x, y, z], .agg #[q, i]]) w := by
  have e : (results fn tmps).run Try.prog w = ((asAddr (tmps.getD p undef)).run Try.prog w).andThen fun a w₁ => ((loadVar 32 a).run Try.prog w₁).andThen fun v w₂ => ((asAddr (tmps.getD u undef)).run Try.prog w₂).andThen fun a w₃ => ((loadVar 40 a).run Try.prog w₃).andThen fun v2 w₄ => .ok (.tuple #[v, v2]) w₄ := by
    simp only [results, h]
    simp [Sem.run_bind, Result.andThen]
  rw [e, hp, hu]
  have q0 : w.cell? ⟨b, 0, none⟩ = some x := h1.cell 0
  have q1 : w.cell? ⟨b, 1, none⟩ = some y := h1.cell 1
  have q2 : w.cell? ⟨b, 2, none⟩ = some z := h1.cell 2
  have q3 : w.cell? ⟨c, 0, none⟩ = some q := h2.cell 0
  have q4 : w.cell? ⟨c, 1, none⟩ = some i := h2.cell 1
  simp [asAddr, go_sem, q0, q1, q2, q3, q4]

set_option maxHeartbeats 400000 in
/-- What it answers where there is an error. -/
theorem qno_any (e : Int) (b : Nat) (a a' ia : Option Addr) (l p l' p' il ic : Nat) (w : World) (h : CellsAt w b #[.slice a l p, .slice a' l' p', .slice ia il ic] 32) :
    Calls Try.prog 39 #[.int .i64 e, .pointer (some ⟨b, 0, none⟩)] w fun r w' => r = .returned (.tuple #[.agg #[.slice a l p, .slice a' l' p', .slice ia il ic], .agg #[.int .i64 e, .int .i64 0]]) ∧ Below w.heap.size w w' := by
  have b1 := below_new w (.cells #[.slice none 0 0, .slice none 0 0, .slice none 0 0] 32)
  have h1 := cellsAt_new w #[.slice none 0 0, .slice none 0 0, .slice none 0 0] 32
  obtain ⟨w1, H1⟩ : ∃ w1, w.alloc (.cells #[.slice none 0 0, .slice none 0 0, .slice none 0 0] 32) = w1 := ⟨_, rfl⟩
  have s1 : w1.heap.size = w.heap.size + 1 := by rw [← H1]; simp
  rw [H1] at b1 h1
  have b2 := below_new w1 (.cells #[.int .i64 0, .int .i64 0] 40)
  have h2 := cellsAt_new w1 #[.int .i64 0, .int .i64 0] 40
  rw [s1] at h2
  obtain ⟨w2, H2⟩ : ∃ w2, Hid ((w.alloc (.cells #[.slice none 0 0, .slice none 0 0, .slice none 0 0] 32)).alloc (.cells #[.int .i64 0, .int .i64 0] 40) = w2) := ⟨_, rfl⟩
  have H2' : w1.alloc (.cells #[.int .i64 0, .int .i64 0] 40) = w2 := by rw [← H1]; exact H2.out
  rw [H2'] at b2 h2
  replace h1 := h1.below b2
  have c0 := below_then b1 b2
  replace h := h.below c0
  clear H1 H2' b1 b2 s1
  have d0 : w2.cell? ⟨b, 0, none⟩ = some (.slice a l p) := h.cell 0
  have d1 : w2.cell? ⟨b, 1, none⟩ = some (.slice a' l' p') := h.cell 1
  have d2 : w2.cell? ⟨b, 2, none⟩ = some (.slice ia il ic) := h.cell 2
  have r0 : w2.cell? ⟨w.heap.size, 0, none⟩ = some (.slice none 0 0) := h1.cell 0
  have r1 : w2.cell? ⟨w.heap.size, 1, none⟩ = some (.slice none 0 0) := h1.cell 1
  have r2 : w2.cell? ⟨w.heap.size, 2, none⟩ = some (.slice none 0 0) := h1.cell 2
  have f0 := h1.frozen 0
  have f1 := h1.frozen 1
  have f2 := h1.frozen 2
  have a0 : w2.cell? ⟨w.heap.size + 1, 0, none⟩ = some (.int .i64 0) := h2.cell 0
  have a1 : w2.cell? ⟨w.heap.size + 1, 1, none⟩ = some (.int .i64 0) := h2.cell 1
  have g0 := h2.frozen 0
  have g1 := h2.frozen 1
  obtain ⟨W, HW⟩ : ∃ W, Hid (((((w2.setCell ⟨w.heap.size, 0, none⟩ (.slice a l p)).setCell ⟨w.heap.size, 1, none⟩ (.slice a' l' p')).setCell ⟨w.heap.size, 2, none⟩ (.slice ia il ic)).setCell ⟨w.heap.size + 1, 0, none⟩ (.int .i64 e)).setCell ⟨w.heap.size + 1, 1, none⟩ (.int .i64 0) = W) := ⟨_, rfl⟩
  have n1 : w.heap.size + 1 ≠ w.heap.size := by omega
  have n2 : w.heap.size ≠ w.heap.size + 1 := by omega
  have R1 := ((((h1.put 0 (.slice a l p)).put 1 (.slice a' l' p')).put 2 (.slice ia il ic)).set (p := ⟨w.heap.size + 1, 0, none⟩) n1 (.int .i64 e)).set (p := ⟨w.heap.size + 1, 1, none⟩) n1 (.int .i64 0)
  have R2 := ((((h2.set (p := ⟨w.heap.size, 0, none⟩) n2 (.slice a l p)).set (p := ⟨w.heap.size, 1, none⟩) n2 (.slice a' l' p')).set (p := ⟨w.heap.size, 2, none⟩) n2 (.slice ia il ic)).put 0 (.int .i64 e)).put 1 (.int .i64 0)
  have R3 := ((((c0.setCell (p := ⟨w.heap.size, 0, none⟩) (Nat.le_refl _) (.slice a l p)).setCell (p := ⟨w.heap.size, 1, none⟩) (Nat.le_refl _) (.slice a' l' p')).setCell (p := ⟨w.heap.size, 2, none⟩) (Nat.le_refl _) (.slice ia il ic)).setCell (p := ⟨w.heap.size + 1, 0, none⟩) (by show _ ≤ w.heap.size + 1; omega) (.int .i64 e)).setCell (p := ⟨w.heap.size + 1, 1, none⟩) (by show _ ≤ w.heap.size + 1; omega) (.int .i64 0)
  rw [HW.out] at R1 R2 R3
  clear h h1 h2 c0
  go_enter Try.func39, Try.ntmps39
  go_upto_region 1 with fail
  rw [H2.out]
  clear H2
  go_wp2
  rw [HW.out]
  exact bodyPost_ret (v := .tuple #[.agg #[.slice a l p, .slice a' l' p', .slice ia il ic], .agg #[.int .i64 e, .int .i64 0]]) (results_qdo rfl rfl rfl R1 R2) rfl ⟨rfl, R3⟩

theorem may_out {roles : List (List Int)} {user label : Int} (h : ¬ (0 ≤ user ∧ user < roles.length ∧ user < 8 ∧ (markAt roles user.toNat).contains label = true)) : mayL roles user label = false := by
  unfold mayL markAt at *
  simp only [Bool.and_eq_false_iff, decide_eq_false_iff_not]
  by_cases h0 : 0 ≤ user
  · by_cases h1 : user < roles.length
    · by_cases h2 : user < 8
      · right
        cases hc : (roles.getD user.toNat []).contains label
        · rfl
        · exact absurd ⟨h0, h1, h2, hc⟩ h
      · exact .inl (.inr h2)
    · exact .inl (.inl (.inr h1))
  · exact .inl (.inl (.inl h0))

set_option maxHeartbeats 1000000 in
theorem qmay_any (r : Value) (roles : List (List Int)) (user label : Int) (w : World) (hr : Lists w r roles) :
    Calls Try.prog 40 #[r, .int .i64 user, .int .i64 label] w fun e w' => e = .returned (.bool (mayL roles user label)) ∧ w' = w := by
  obtain ⟨a, cap, rfl, hmx, hsh⟩ := hr.slice
  obtain ⟨len, Hlen⟩ : ∃ l, Hid (roles.length = l) := ⟨_, rfl⟩
  rw [Hlen.out] at hmx hsh hr ⊢
  go_enter Try.func40, Try.ntmps40
  go_wp2_with fail
  go_loopg [11] len (fun gk i' wr => ∃ u : Nat, u + gk = len ∧ i' = .int .i64 (u : Int) ∧ wr = w ∧ Hid (∀ j : Nat, j < u → (j : Int) = user → mayL roles user label = false))
  case atStart => exact ⟨0, by omega, rfl, rfl, fun j hj => absurd hj (Nat.not_lt_zero _)⟩
  case round =>
    obtain ⟨u, hug, rfl, rfl, HN⟩ := hrel
    by_cases hu : u < len
    · obtain ⟨b, off, x, rfl, hlt, hc, hx⟩ := hr.at hu
      obtain ⟨xs, Hxs⟩ : ∃ xs, Hid (markAt roles u = xs) := ⟨_, rfl⟩
      rw [Hxs.out] at hx
      obtain ⟨ax, lx, cx, rfl, elx, hmxx, _⟩ := id hx
      clear elx hmxx
      have skip : (u : Int) ≠ user → Hid (∀ j : Nat, j < u + 1 → (j : Int) = user → mayL roles user label = false) := fun hne j hj e => by
        by_cases q : j = u
        · subst q; exact absurd e hne
        · exact HN.out j (by omega) e
      by_cases he : (u : Int) = user
      · subst he
        by_cases h8 : u < 8
        · have h8' : decide ((u : Int) < 8) = true := decide_eq_true (by omega)
          go_wp2_with fail
          refine (contains_any _ xs label wr (by exact hx)).mono ?_
          rintro e w2 ⟨rfl, rfl⟩
          have HE : Hid (mayL roles (u : Int) label = hasL xs label) := by
            show _ = _
            unfold mayL
            have h1 := Hxs.out
            unfold markAt at h1
            rw [decide_eq_true (show (0 : Int) ≤ (u : Int) by omega), decide_eq_true (show (u : Int) < (roles.length : Int) by rw [Hlen.out]; omega), h8', Int.toNat_natCast, h1]
            rfl
          cases hh : hasL xs label
          · have R : Hid (∀ j : Nat, j < u + 1 → (j : Int) = (u : Int) → mayL roles (u : Int) label = false) := fun _ _ _ => by rw [HE.out, hh]
            go_wp2
            go_roundg (gk - 1)
            case measure => omega
            case rel => exact ⟨u + 1, by omega, by go_num, rfl, R⟩
          · go_wp2
            go_ret
            exact ⟨by rw [HE.out, hh]; rfl, rfl⟩
        · have h8' : decide ((u : Int) < 8) = false := decide_eq_false (by omega)
          have R : Hid (∀ j : Nat, j < u + 1 → (j : Int) = (u : Int) → mayL roles (u : Int) label = false) := fun _ _ _ => may_out (fun q => by omega)
          go_wp2
          go_roundg (gk - 1)
          case measure => omega
          case rel => exact ⟨u + 1, by omega, by go_num, rfl, R⟩
      · have he' : ((u : Int) == user) = false := by simpa using he
        have R := skip he
        go_wp2
        go_roundg (gk - 1)
        case measure => omega
        case rel => exact ⟨u + 1, by omega, by go_num, rfl, R⟩
    · obtain rfl : u = len := by omega
      have E : Hid (mayL roles user label = false) := by
        show _ = _
        by_cases q : 0 ≤ user ∧ user < (u : Int)
        · exact HN.out user.toNat (by omega) (by omega)
        · exact may_out (fun r => q ⟨r.1, by have := r.2.1; rw [Hlen.out] at this; exact this⟩)
      go_wp2
      go_ret
      exact ⟨by rw [E.out]; rfl, rfl⟩

/-- Items as cells. -/
theorem items_cells {w : World} {v : Value} {l : List ItemL} (h : ItemsV w v l) : CellsV w v 3 5864062014805 l.length (itemCells l) := by
  obtain ⟨a, len, cap, rfl, hl, hm, hs, hr⟩ := h
  subst hl
  refine ⟨a, cap, rfl, itemCells_length l, hm, hs, itemCells_one l, fun j u hj => ?_⟩
  have hjl : j < l.length * 3 := by
    rcases Nat.lt_or_ge j (l.length * 3) with q | q
    · exact q
    · rw [List.getElem?_eq_none (by rw [itemCells_length]; exact q)] at hj; cases hj
  obtain ⟨b, off, ha, hlt, h0, h1, h2⟩ := hr (j / 3) (by omega)
  obtain ⟨s0, s1, s2⟩ := itemCells_at l (j / 3) (by omega)
  refine ⟨b, off, ha, hlt, ?_⟩
  rcases (show j = j / 3 * 3 ∨ j = j / 3 * 3 + 1 ∨ j = j / 3 * 3 + 2 by omega) with q | q | q
  · rw [q] at hj ⊢; rw [s0] at hj; rw [h0]; exact hj
  · rw [q] at hj ⊢; rw [s1] at hj; rw [← Nat.add_assoc, h1]; exact hj
  · rw [q] at hj ⊢; rw [s2] at hj; rw [← Nat.add_assoc, h2]; exact hj
theorem elem_item : ElemT 30 78 3 24 := ElemT.of Try.underlying30 info_item rfl (by decide)
/-- An empty literal's row. -/
theorem lit_row (w : World) : OwnC w.heap.size w (w.alloc (.cells #[] 78)) 78 3 (.slice (some ⟨w.heap.size, 0, none⟩) 0 0) 0 [] :=
  ⟨⟨rfl, .inr ⟨w.heap.size, 0, #[], rfl, Nat.le_refl _, heap_alloc_new w _, Nat.le_refl _, by unfold maxLen; omega, rfl, rfl⟩⟩, below_new w _, by simp⟩
theorem own_sl {B : Nat} {w : World} {e : TypeId} {size : Nat} {v : Value} {n : Nat} {xs : List Value} (h : w.ownsRow B e size v n xs) : SlFrom B v := by
  intro b off l c e1 hl
  subst e1
  exact (h.lt b rfl).1
theorem own_to {B : Nat} {w W : World} {e : TypeId} {size : Nat} {v : Value} {n : Nat} {xs : List Value} (h : w.ownsRow B e size v n xs) (hs : w.heap.size ≤ W.heap.size) (hk : ∀ k, B ≤ k → W.heap[k]? = w.heap[k]?) : W.ownsRow B e size v n xs :=
  ownsRow_on h W hs fun k _ hD => hk k hD.2

end Go.Proofs.Ytaladbcocealnaa

/- The document's own desk: what it answers, one case after the other. -/
namespace Go.Proofs.Ytaladbcocealnaa
open Go.RowKit
set_option linter.unusedVariables false
set_option linter.unusedSimpArgs false
set_option maxRecDepth 4000

theorem qd_err {n : NetL} {roles : List (List Int)} {d : DeskL} {o : DOp} {e : Int} (h : deskErr n roles d o = e) (he : e ≠ 0) : deskDo n roles d o = (d, ⟨e, 0⟩) := by
  unfold deskDo; rw [if_pos (by rw [h]; exact he), h]
theorem qd_give {n : NetL} {roles : List (List Int)} {d : DeskL} {o : DOp} (h : deskErr n roles d o = 0) (hk : o.kind = 4) : deskDo n roles d o = (⟨d.case, newItems d o⟩, ⟨0, toldItem d o⟩) := by
  unfold deskDo; rw [if_neg (by rw [h]; simp), if_pos hk]
theorem qd_case {n : NetL} {roles : List (List Int)} {d : DeskL} {o : DOp} {e kd tr : Int} (h : deskErr n roles d o = 0) (hk : o.kind ≠ 4) (hc : caseOp d o = (kd, tr)) (he : (doC n d.case kd tr).2 = e) (h0 : e ≠ 0) : deskDo n roles d o = (d, ⟨e, 0⟩) := by
  unfold deskDo; rw [if_neg (by rw [h]; simp), if_neg hk, hc]; rw [if_pos (by rw [he]; exact h0), he]
theorem qd_done {n : NetL} {roles : List (List Int)} {d : DeskL} {o : DOp} {kd tr : Int} (h : deskErr n roles d o = 0) (hk : o.kind ≠ 4) (hc : caseOp d o = (kd, tr)) (he : (doC n d.case kd tr).2 = 0) : deskDo n roles d o = (⟨(doC n d.case kd tr).1, newItems d o⟩, ⟨0, toldItem d o⟩) := by
  unfold deskDo; rw [if_neg (by rw [h]; simp), if_neg hk, hc]; rw [if_neg (by rw [he]; simp)]

theorem givesQ_err {w W : World} {dv : Value} {d : DeskL} {p : DeskL × DAns} {e : Int} (hp : p = (d, ⟨e, 0⟩)) (hD : DeskV w dv d) (c : Below w.heap.size w W) : GivesQ w dv p (.returned (.tuple #[dv, .agg #[.int .i64 e, .int .i64 0]])) W := by
  subst hp
  exact ⟨dv, rfl, hD.below c, c, fun _ _ h => h⟩
theorem givesQ_ok {w W : World} {dv x y z : Value} {c' : CaseL} {l' : List ItemL} {p : DeskL × DAns} {i : Int} {B m : Nat} (hp : p = (⟨c', l'⟩, ⟨0, i⟩)) (hx : Ints W x c'.mark) (hy : Ints W y c'.busy) (hm : l'.length = m) (hz : W.ownsRow B 78 3 z m (itemCells l')) (hl : m ≤ 5864062014805) (hB : w.heap.size ≤ B)
    (ho : ∀ g, g < w.heap.size → DeskOff g dv → SlOff g x ∧ SlOff g y) (c : Below w.heap.size w W) : GivesQ w dv p (.returned (.tuple #[.agg #[x, y, z], .agg #[.int .i64 0, .int .i64 i]])) W := by
  subst hp hm
  obtain ⟨ia, ic, rfl, hI⟩ := items_of_row hz hl
  obtain ⟨a, al, ac, rfl⟩ : ∃ a l c, x = .slice a l c := by obtain ⟨a, l, c, e, _⟩ := hx; exact ⟨a, l, c, e⟩
  obtain ⟨b, bl, bc, rfl⟩ : ∃ a l c, y = .slice a l c := by obtain ⟨a, l, c, e, _⟩ := hy; exact ⟨a, l, c, e⟩
  exact ⟨_, rfl, ⟨a, al, ac, b, bl, bc, ia, ic, rfl, hx, hy, hI⟩, c, fun g hg hd => ⟨_, _, _, rfl, (ho g hg hd).1, (ho g hg hd).2, (own_sl hz).off (by omega)⟩⟩

theorem case_op {w : World} {b : Nat} {x y : Value} (h : CellsAt w b #[x, y] 97) : w.cell? ⟨b, 0, none⟩ = some x ∧ w.cell? ⟨b, 1, none⟩ = some y ∧ w.frozen? ⟨b, 0, none⟩ = false ∧ w.frozen? ⟨b, 1, none⟩ = false := ⟨h.cell 0, h.cell 1, h.frozen 0, h.frozen 1⟩

theorem de_kind {n : NetL} {roles : List (List Int)} {d : DeskL} {kd us tr it hd : Int} (h : kd < 1 ∨ 5 < kd) : deskErr n roles d ⟨kd, us, tr, it, hd⟩ = 5 := by
  unfold deskErr; rw [if_pos h]
theorem de_skip {n : NetL} {roles : List (List Int)} {d : DeskL} {us tr it hd : Int} : deskErr n roles d ⟨5, us, tr, it, hd⟩ = 0 := by
  unfold deskErr; simp
theorem de_begin_none {n : NetL} {roles : List (List Int)} {d : DeskL} {us tr it hd : Int} (h : tr < 0 ∨ (n.trans.length : Int) ≤ tr) : deskErr n roles d ⟨1, us, tr, it, hd⟩ = 3 := by
  unfold deskErr; simp only; rw [if_neg (by omega), if_neg (by omega), if_pos trivial, if_pos h]
theorem de_begin_role {n : NetL} {roles : List (List Int)} {d : DeskL} {us it hd : Int} {k : Nat} (h : k < n.trans.length) (hm : mayL roles us (tranAt n.trans k).label = false) : deskErr n roles d ⟨1, us, (k : Int), it, hd⟩ = 6 := by
  unfold deskErr; simp only; rw [if_neg (by omega), if_neg (by omega), if_pos trivial, if_neg (by omega), Int.toNat_natCast, hm]; rfl
theorem de_begin_ok {n : NetL} {roles : List (List Int)} {d : DeskL} {us it hd : Int} {k : Nat} (h : k < n.trans.length) (hm : mayL roles us (tranAt n.trans k).label = true) : deskErr n roles d ⟨1, us, (k : Int), it, hd⟩ = 0 := by
  unfold deskErr; simp only; rw [if_neg (by omega), if_neg (by omega), if_pos trivial, if_neg (by omega), Int.toNat_natCast, hm]; rfl
theorem de_item_none {n : NetL} {roles : List (List Int)} {d : DeskL} {kd us tr it hd : Int} (hk : kd = 2 ∨ kd = 3 ∨ kd = 4) (h : it < 0 ∨ (d.items.length : Int) ≤ it ∨ (itemAt d.items it.toNat).opn = false) : deskErr n roles d ⟨kd, us, tr, it, hd⟩ = 3 := by
  unfold deskErr; simp only; rw [if_neg (by omega), if_neg (by omega), if_neg (by omega), if_pos h]
theorem de_item_held {n : NetL} {roles : List (List Int)} {d : DeskL} {kd us tr hd : Int} {k : Nat} (hk : kd = 2 ∨ kd = 3 ∨ kd = 4) (h : k < d.items.length) (ho : (itemAt d.items k).opn = true) (hu : (itemAt d.items k).user ≠ us) : deskErr n roles d ⟨kd, us, tr, (k : Int), hd⟩ = 7 := by
  unfold deskErr; simp only; rw [if_neg (by omega), if_neg (by omega), if_neg (by omega), if_neg (by rw [Int.toNat_natCast, ho]; rintro (q | q | q) <;> first | omega | cases q), Int.toNat_natCast, if_pos hu]
theorem de_item_role {n : NetL} {roles : List (List Int)} {d : DeskL} {us tr hd : Int} {k : Nat} (h : k < d.items.length) (ho : (itemAt d.items k).opn = true) (hu : (itemAt d.items k).user = us) {t : Nat} (ht : (itemAt d.items k).tran = (t : Int)) (hm : mayL roles hd (tranAt n.trans t).label = false) : deskErr n roles d ⟨4, us, tr, (k : Int), hd⟩ = 6 := by
  unfold deskErr; simp only; rw [if_neg (by omega), if_neg (by omega), if_neg (by omega), if_neg (by rw [Int.toNat_natCast, ho]; rintro (q | q | q) <;> first | omega | cases q), Int.toNat_natCast, if_neg (by rw [hu]; simp), ht, Int.toNat_natCast, if_pos ⟨trivial, hm⟩]
theorem de_item_give {n : NetL} {roles : List (List Int)} {d : DeskL} {us tr hd : Int} {k : Nat} (h : k < d.items.length) (ho : (itemAt d.items k).opn = true) (hu : (itemAt d.items k).user = us) {t : Nat} (ht : (itemAt d.items k).tran = (t : Int)) (hm : mayL roles hd (tranAt n.trans t).label = true) : deskErr n roles d ⟨4, us, tr, (k : Int), hd⟩ = 0 := by
  unfold deskErr; simp only; rw [if_neg (by omega), if_neg (by omega), if_neg (by omega), if_neg (by rw [Int.toNat_natCast, ho]; rintro (q | q | q) <;> first | omega | cases q), Int.toNat_natCast, if_neg (by rw [hu]; simp), ht, Int.toNat_natCast, if_neg (by rw [hm]; rintro ⟨_, q⟩; cases q)]
theorem de_item_ok {n : NetL} {roles : List (List Int)} {d : DeskL} {kd us tr hd : Int} {k : Nat} (hk : kd = 2 ∨ kd = 3) (h : k < d.items.length) (ho : (itemAt d.items k).opn = true) (hu : (itemAt d.items k).user = us) : deskErr n roles d ⟨kd, us, tr, (k : Int), hd⟩ = 0 := by
  unfold deskErr; simp only; rw [if_neg (by omega), if_neg (by omega), if_neg (by omega), if_neg (by rw [Int.toNat_natCast, ho]; rintro (q | q | q) <;> first | omega | cases q), Int.toNat_natCast, if_neg (by rw [hu]; simp), if_neg (by rintro ⟨q, _⟩; omega)]

theorem own_trans {B : Nat} {w w2 : World} {e : TypeId} {size : Nat} {v : Value} {n : Nat} {xs : List Value} (h : w.ownsRow B e size v n xs) (hb : Below w.heap.size w w2) : w2.ownsRow B e size v n xs :=
  ownsRow_on h w2 hb.size fun k hk _ => hb.block k hk
theorem row_form {B : Nat} {w : World} {e : TypeId} {size n oc : Nat} {oa : Option Addr} {xs : List Value} (h : w.ownsRow B e size (.slice oa n oc) n xs) (hn : 0 < n) : ∃ g, oa = some ⟨g, 0, none⟩ ∧ B ≤ g ∧ g < w.heap.size := by
  have hl := h.lt
  rcases h.2 with ⟨e1, h0⟩ | ⟨g, cap, cur, e1, hg, _⟩
  · omega
  · injection e1 with e2 _ _
    subst e2
    exact ⟨g, rfl, hl g rfl⟩

end Go.Proofs.Ytaladbcocealnaa

/- The document's own desk: one thing done, begun. (Made by tools/gen_qdo.py.) -/
namespace Go.Proofs.Ytaladbcocealnaa
open Go.RowKit
set_option linter.unusedVariables false
set_option linter.unusedSimpArgs false
set_option maxRecDepth 4000

set_option maxHeartbeats 8000000 in
theorem qdo_kind1 (v r dv : Value) (n : NetL) (roles : List (List Int)) (d : DeskL) (us tr it hd : Int) (w : World) (hv : Net w v n) (hr : Lists w r roles) (hD : DeskV w dv d) (hsm : SmallNet n) (hinv : DeskInv n roles d) (Hlen : Hid (d.items.length + 1 ≤ 5864062014805)) :
    Calls Try.prog 24 #[v, r, dv, .agg #[.int .i64 1, .int .i64 us, .int .i64 tr, .int .i64 it, .int .i64 hd]] w fun e w' => GivesQ w dv (deskDo n roles d ⟨1, us, tr, it, hd⟩) e w' := by
  obtain ⟨tv, rfl, hT⟩ := hv
  obtain ⟨ta, tl, tc, rfl, htl, htm, hts, _⟩ := id hT
  have Htl : Hid (n.trans.length = tl) := htl
  clear htl htm hts
  obtain ⟨a, l, p, a', l', p', ia, ic, rfl, h1, h2, h3⟩ := id hD
  obtain ⟨il, Hil⟩ : ∃ n, Hid (d.items.length = n) := ⟨_, rfl⟩
  have Hcl := items_cells h3
  rw [Hil.out] at h3 Hcl Hlen hD ⊢
  obtain ⟨w0, Hw0, hQ, c0, Hs0⟩ := qdo_boxes w n.places (.slice ta tl tc) (.slice a l p) (.slice a' l' p') (.slice ia il ic) ⟨1, us, tr, it, hd⟩
  have bp := below_new w0 (.cells #[.int .i64 0, .int .i64 tr] 97)
  have hP := cellsAt_new w0 #[.int .i64 0, .int .i64 tr] 97
  rw [Hs0.out] at hP
  obtain ⟨w1, Hw1⟩ : ∃ v, Hid (w0.alloc (.cells #[.int .i64 0, .int .i64 tr] 97) = v) := ⟨_, rfl⟩
  have Hs1 : Hid (w1.heap.size = w.heap.size + 1 + 1 + 1 + 1 + 1 + 1) := by show _ = _; rw [← Hw1.out]; simp [Hs0.out]
  rw [Hw1.out] at bp hP
  have bl := below_new w1 (.cells #[] 78)
  have hL := lit_row w1
  obtain ⟨w2, Hw2⟩ : ∃ v, Hid (w1.alloc (.cells #[] 78) = v) := ⟨_, rfl⟩
  rw [Hw2.out] at bl hL
  obtain ⟨⟨n0, n1⟩, ⟨d0, d1, d2⟩, ⟨o0, o1, o2, o3, o4⟩⟩ := hQ.cells
  simp only at o0 o1 o2 o3 o4
  go_enter Try.func24, Try.ntmps24
  go_upto_region 1 with fail
  rw [Hw0.out]
  go_upto_region 3 with fail
  rw [Hs0.out, Hw1.out]
  clear Hw0 Hw1
  clear n0 n1 d0 d1 d2 o0 o1 o2 o3 o4
  replace c0 := below_then c0 bp
  replace hQ := hQ.below bp
  obtain ⟨⟨n0, n1⟩, ⟨d0, d1, d2⟩, ⟨o0, o1, o2, o3, o4⟩⟩ := hQ.cells
  simp only at o0 o1 o2 o3 o4
  have q2 : (w1.alloc (.cells #[] 78)).cell? ⟨w.heap.size + 1, 2, none⟩ = some (.slice ia il ic) := by rw [Hw2.out]; exact (hQ.below bl).desk.cell 2
  have HL1 : Hid (0 + il ≤ maxLen) := by show _ ≤ _; have := Hlen.out; unfold maxLen; omega
  have HL2 : Hid ((0 + il) * 24 ≤ 140737488355328) := by show _ ≤ _; have := Hlen.out; omega
  have hC2 := (Hcl.below (below_then c0 bl) : CellsV w2 _ _ _ _ _)
  go_upto_region 10 with (rw [Hw2.out]; at_builtin; refine wp_append_cells elem_item rfl _ _ rfl w1.heap.size w1 w2 (.slice (some ⟨w1.heap.size, 0, none⟩) 0 0) (.slice ia il ic) 0 il 5864062014805 [] (itemCells d.items) hL rfl rfl hC2 HL1.out HL2.out ?_; intro v' w3 hO0 hgr; clear hgr; rw [Nat.zero_add, List.nil_append] at hO0; obtain ⟨oa, oc, rfl⟩ := hO0.slice; have bw := hO0.2.1; have Hge : Hid (w1.heap.size ≤ w3.heap.size) := hO0.2.2; have hO := hO0.1; replace c0 := below_then c0 bw; replace hQ := hQ.below bw; replace hP := hP.below bw; clear n0 n1 d0 d1 d2 o0 o1 o2 o3 o4 q2 hL hC2 bl bp bw hO0; obtain ⟨⟨n0, n1⟩, ⟨d0, d1, d2⟩, ⟨o0, o1, o2, o3, o4⟩⟩ := hQ.cells; simp only at o0 o1 o2 o3 o4; obtain ⟨p0, p1, g0, g1⟩ := case_op hP)
  by_cases ht0 : tr < 0
  · have ht0' : decide (tr < 0) = true := decide_eq_true ht0
    have EQ : Hid (deskDo n roles d ⟨1, us, tr, it, hd⟩ = (d, ⟨3, 0⟩)) := qd_err (de_begin_none (.inl ht0)) (by decide)
    go_wp2_with fail
    refine (qno_any 3 (w.heap.size + 1) a a' ia l p l' p' il ic w3 (by exact hQ.desk)).mono ?_
    rintro e w9 ⟨rfl, b9⟩
    replace c0 := below_then c0 b9
    replace hQ := hQ.below b9
    obtain ⟨⟨r0, r1, r2⟩, ⟨f0, f1, f2⟩, ⟨a0, a1⟩, ⟨g0, g1⟩⟩ := hQ.res
    obtain ⟨W, HW⟩ : ∃ W, Hid (((((w9.setCell ⟨w.heap.size + 1 + 1 + 1, 0, none⟩ (.slice a l p)).setCell ⟨w.heap.size + 1 + 1 + 1, 1, none⟩ (.slice a' l' p')).setCell ⟨w.heap.size + 1 + 1 + 1, 2, none⟩ (.slice ia il ic)).setCell ⟨w.heap.size + 1 + 1 + 1 + 1, 0, none⟩ (.int .i64 3)).setCell ⟨w.heap.size + 1 + 1 + 1 + 1, 1, none⟩ (.int .i64 0) = W) := ⟨_, rfl⟩
    obtain ⟨R1, R2, R3, R4, R5⟩ := hQ.fill c0 (.slice a l p) (.slice a' l' p') (.slice ia il ic) (3) (0) HW.out
    clear hQ hO hP c0 b9
    go_wp2
    rw [HW.out]
    exact bodyPost_ret (v := .tuple #[.agg #[.slice a l p, .slice a' l' p', .slice ia il ic], .agg #[.int .i64 3, .int .i64 0]]) (results_qdo rfl rfl rfl R1 R2) rfl (givesQ_err EQ.out hD R3)
  · obtain ⟨k, rfl⟩ := Int.eq_ofNat_of_zero_le (show 0 ≤ tr by omega)
    have ht0' : decide ((k : Int) < 0) = false := decide_eq_false ht0
    by_cases hk : k < tl
    · have htl' : decide ((tl : Int) ≤ (k : Int)) = false := decide_eq_false (by omega)
      have hki : (k : Int) < (tl : Int) := by omega
      obtain ⟨bt, ot, p1', q1', rfl, hlt, t0, _, _, _, _⟩ := (hT.below c0).at hk
      obtain ⟨L, HL⟩ : ∃ z, Hid ((tranAt n.trans k).label = z) := ⟨_, rfl⟩
      rw [HL.out] at t0
      obtain ⟨mm, HM⟩ : ∃ z, Hid (mayL roles us L = z) := ⟨_, rfl⟩
      have HRL : Hid (∀ m, Lists (w3.drewN m) r roles) := fun m => hr.below (below_drewN c0 m)
      go_wp2_with fail
      go_quiet ((go_at_call 40; exact Calls.quiet_of_same (qmay_any _ roles us L _ (by exact HRL.out _))))
      have bq := below_drewN (Below.refl w3.heap.size w3) nq
      obtain ⟨wq, Hwq⟩ : ∃ v, Hid (w3.drewN nq = v) := ⟨_, rfl⟩
      rw [Hwq.out] at bq ⊢
      clear Hwq HRL
      clear n0 n1 d0 d1 d2 o0 o1 o2 o3 o4
      replace c0 := below_then c0 bq
      replace hQ := hQ.below bq
      replace hP := hP.below bq
      replace hO := own_trans hO bq
      replace Hge : Hid (w1.heap.size ≤ wq.heap.size) := Nat.le_trans Hge.out bq.size
      clear bq p0 p1 g0 g1
      obtain ⟨⟨n0, n1⟩, ⟨d0, d1, d2⟩, ⟨o0, o1, o2, o3, o4⟩⟩ := hQ.cells
      simp only at o0 o1 o2 o3 o4
      obtain ⟨p0, p1, g0, g1⟩ := case_op hP
      rw [HM.out]
      clear t0 hlt
      cases mm
      · have hkl := hk
        rw [← Htl.out] at hkl
        have EQ : Hid (deskDo n roles d ⟨1, us, (k : Int), it, hd⟩ = (d, ⟨6, 0⟩)) := qd_err (de_begin_role hkl (by rw [HL.out]; exact HM.out)) (by decide)
        go_wp2_with fail
        refine (qno_any 6 (w.heap.size + 1) a a' ia l p l' p' il ic wq (by exact hQ.desk)).mono ?_
        rintro e w9 ⟨rfl, b9⟩
        replace c0 := below_then c0 b9
        replace hQ := hQ.below b9
        obtain ⟨⟨r0, r1, r2⟩, ⟨f0, f1, f2⟩, ⟨a0, a1⟩, ⟨g0, g1⟩⟩ := hQ.res
        obtain ⟨W, HW⟩ : ∃ W, Hid (((((w9.setCell ⟨w.heap.size + 1 + 1 + 1, 0, none⟩ (.slice a l p)).setCell ⟨w.heap.size + 1 + 1 + 1, 1, none⟩ (.slice a' l' p')).setCell ⟨w.heap.size + 1 + 1 + 1, 2, none⟩ (.slice ia il ic)).setCell ⟨w.heap.size + 1 + 1 + 1 + 1, 0, none⟩ (.int .i64 6)).setCell ⟨w.heap.size + 1 + 1 + 1 + 1, 1, none⟩ (.int .i64 0) = W) := ⟨_, rfl⟩
        obtain ⟨R1, R2, R3, R4, R5⟩ := hQ.fill c0 (.slice a l p) (.slice a' l' p') (.slice ia il ic) (6) (0) HW.out
        clear hQ hO hP c0 b9
        go_wp2
        rw [HW.out]
        exact bodyPost_ret (v := .tuple #[.agg #[.slice a l p, .slice a' l' p', .slice ia il ic], .agg #[.int .i64 6, .int .i64 0]]) (results_qdo rfl rfl rfl R1 R2) rfl (givesQ_err EQ.out hD R3)
      · have hkl := hk
        rw [← Htl.out] at hkl
        have EK : Hid (deskErr n roles d ⟨1, us, (k : Int), it, hd⟩ = 0) := de_begin_ok hkl (by rw [HL.out]; exact HM.out)
        clear hkl
        obtain ⟨w6, Hw6⟩ : ∃ v, Hid ((wq.setCell ⟨w.heap.size + 1 + 1 + 1 + 1 + 1, 0, none⟩ (.int .i64 2)) = v) := ⟨_, rfl⟩
        replace hQ := hQ.keep (B := w.heap.size + 1 + 1 + 1 + 1 + 1) (by omega) (fun kk hkk => Below.heap_setCell _ ⟨w.heap.size + 1 + 1 + 1 + 1 + 1, 0, none⟩ (.int .i64 2) kk (by show kk ≠ w.heap.size + 1 + 1 + 1 + 1 + 1; omega))
        replace c0 := c0.setCell (p := ⟨w.heap.size + 1 + 1 + 1 + 1 + 1, 0, none⟩) (by show w.heap.size ≤ w.heap.size + 1 + 1 + 1 + 1 + 1; omega) (.int .i64 2)
        replace hP := hP.put 0 (.int .i64 2)
        replace hO := ownsRow_setCell_below hO (a := ⟨w.heap.size + 1 + 1 + 1 + 1 + 1, 0, none⟩) (by show w.heap.size + 1 + 1 + 1 + 1 + 1 < w1.heap.size; rw [Hs1.out]; omega) (.int .i64 2)
        replace Hge : Hid (w1.heap.size ≤ ((wq.setCell ⟨w.heap.size + 1 + 1 + 1 + 1 + 1, 0, none⟩ (.int .i64 2))).heap.size) := by show _ ≤ _; simp only [World.setCell, Array.size_modify]; exact Hge.out
        rw [Hw6.out] at hQ c0 hP hO Hge
        go_upto_region 15 with fail
        rw [Hw6.out]
        clear Hw6 p0 p1 g0 g1
        clear n0 n1 d0 d1 d2 o0 o1 o2 o3 o4
        obtain ⟨⟨n0, n1⟩, ⟨d0, d1, d2⟩, ⟨o0, o1, o2, o3, o4⟩⟩ := hQ.cells
        simp only at o0 o1 o2 o3 o4
        have HL3 : Hid (il + 1 ≤ maxLen) := by show _ ≤ _; have := Hlen.out; unfold maxLen; omega
        have HL4 : Hid ((il + 1) * 24 ≤ 140737488355328) := by show _ ≤ _; have := Hlen.out; omega
        have HIC : Hid (itemCells d.items ++ (#[.int .i64 us, .int .i64 (k : Int), .bool true] : Array Value).toList = itemCells (d.items ++ [⟨us, (k : Int), true⟩])) := by show _ = _; rw [itemCells_append]; rfl
        have HX1 : ∀ u ∈ (#[.int .i64 us, .int .i64 (k : Int), .bool true] : Array Value).toList, u.oneCell' = true := (fun u hu => by simp at hu; rcases hu with rfl | rfl | rfl <;> rfl)
        go_wp2_with (at_builtin; refine wp_append_cell1 elem_item rfl _ _ rfl w1.heap.size w6 w6 (.slice oa il oc) il (itemCells d.items) #[.int .i64 us, .int .i64 (k : Int), .bool true] ⟨hO, Below.refl _ _, Hge.out⟩ rfl HX1 rfl rfl HL3.out HL4.out ?_; intro v6 w7 hO7 hgr; clear hgr hO; rw [HIC.out] at hO7; obtain ⟨oa, oc, rfl⟩ := hO7.slice; have bw := hO7.2.1; replace hQ := hQ.keep (w' := w7) (B := w1.heap.size) (by rw [Hs1.out]; omega) (fun k hk => bw.block k hk); replace hP := (bw.block _ (by rw [Hs1.out]; omega)).trans hP; replace c0 := c0.trans (bw.mono (by rw [Hs1.out]; omega)); have Hge : Hid (w1.heap.size ≤ w7.heap.size) := hO7.2.2; have hO := hO7.1; clear n0 n1 d0 d1 d2 o0 o1 o2 o3 o4 bw hO7; obtain ⟨⟨n0, n1⟩, ⟨d0, d1, d2⟩, ⟨o0, o1, o2, o3, o4⟩⟩ := hQ.cells; simp only at o0 o1 o2 o3 o4; obtain ⟨p0, p1, g0, g1⟩ := case_op (w := w7) hP)
        refine (pdo_own _ _ n d.case 2 (k : Int) w7 (by exact ⟨_, rfl, hT.below c0⟩) (by exact ⟨_, _, _, _, _, _, rfl, h1.below c0, h2.below c0⟩) hsm).mono ?_
        rintro e w4 ⟨rv, rfl, hC, hCF, b⟩
        obtain ⟨za, zl, zc, za2, zl2, zc2, rfl, hZ, hZ2⟩ := hC
        obtain ⟨hf1, hf2⟩ := hCF.parts
        replace hf1 := hf1.mono Hge.out
        replace hf2 := hf2.mono Hge.out
        clear n0 n1 d0 d1 d2 o0 o1 o2 o3 o4 p0 p1 g0 g1 hP hCF
        replace c0 := below_then c0 b
        replace hQ := hQ.below b
        replace hO := own_trans hO b
        replace Hge : Hid (w1.heap.size ≤ w4.heap.size) := Nat.le_trans Hge.out b.size
        clear b
        have bn := below_new w4 (.cells #[.slice za zl zc, .slice za2 zl2 zc2] 29)
        have hbx := caseBox_new w4 za za2 zl zc zl2 zc2
        obtain ⟨Bx, HBx⟩ : ∃ B, Hid (w4.heap.size = B) := ⟨_, rfl⟩
        rw [HBx.out] at hbx
        obtain ⟨w5, Hw5⟩ : ∃ v, Hid (w4.alloc (.cells #[.slice za zl zc, .slice za2 zl2 zc2] 29) = v) := ⟨_, rfl⟩
        rw [Hw5.out] at bn hbx
        go_upto_region 33 with fail
        rw [Hw5.out, HBx.out]
        clear Hw5 HBx
        replace c0 := below_then c0 bn
        replace hQ := hQ.below bn
        replace hO := own_trans hO bn
        replace Hge : Hid (w1.heap.size ≤ w5.heap.size) := Nat.le_trans Hge.out bn.size
        replace hZ := hZ.below bn
        replace hZ2 := hZ2.below bn
        clear bn
        obtain ⟨x0, x1, _, _, _⟩ := hbx.facts
        obtain ⟨E, HE⟩ : ∃ E, Hid ((doC n d.case 2 (k : Int)).2 = E) := ⟨_, rfl⟩
        rw [HE.out]
        by_cases hE : E = 0
        · subst hE
          have EQ : Hid (deskDo n roles d ⟨1, us, (k : Int), it, hd⟩ = (⟨(doC n d.case 2 (k : Int)).1, (d.items ++ [⟨us, (k : Int), true⟩])⟩, ⟨0, (il : Int)⟩)) := by show _ = _; rw [qd_done EK.out (by simp) rfl HE.out]; rw [← Hil.out]; rfl
          obtain ⟨CC, HCC⟩ : ∃ C, Hid ((doC n d.case 2 (k : Int)).1 = C) := ⟨_, rfl⟩
          rw [HCC.out] at EQ hZ hZ2
          clear hinv HCC
          obtain ⟨⟨r0, r1, r2⟩, ⟨f0, f1, f2⟩, ⟨a0, a1⟩, ⟨g0, g1⟩⟩ := hQ.res
          obtain ⟨W, HW⟩ : ∃ W, Hid (((((w5.setCell ⟨w.heap.size + 1 + 1 + 1, 0, none⟩ (.slice za zl zc)).setCell ⟨w.heap.size + 1 + 1 + 1, 1, none⟩ (.slice za2 zl2 zc2)).setCell ⟨w.heap.size + 1 + 1 + 1, 2, none⟩ (.slice oa (il + 1) oc)).setCell ⟨w.heap.size + 1 + 1 + 1 + 1, 0, none⟩ (.int .i64 0)).setCell ⟨w.heap.size + 1 + 1 + 1 + 1, 1, none⟩ (.int .i64 (il : Int)) = W) := ⟨_, rfl⟩
          obtain ⟨R1, R2, R3, R4, R5⟩ := hQ.fill c0 (.slice za zl zc) (.slice za2 zl2 zc2) (.slice oa (il + 1) oc) (0) ((il : Int)) HW.out
          have hZ' := hZ.toLow hf1 (Nat.le_of_eq R4.symm) (fun k _ hk => R5 k (by have := Hs1.out; omega))
          have hZ2' := hZ2.toLow hf2 (Nat.le_of_eq R4.symm) (fun k _ hk => R5 k (by have := Hs1.out; omega))
          have hO' := own_to hO (Nat.le_of_eq R4.symm) (fun k hk => R5 k (by have := Hs1.out; omega))
          have HgB : Hid (w.heap.size ≤ w1.heap.size) := by show _ ≤ _; rw [Hs1.out]; omega
          have ho : ∀ g, g < w.heap.size → DeskOff g (.agg #[.slice a l p, .slice a' l' p', .slice ia il ic]) → SlOff g (.slice za zl zc) ∧ SlOff g (.slice za2 zl2 zc2) := fun g hg _ => ⟨hf1.off (by have := HgB.out; omega), hf2.off (by have := HgB.out; omega)⟩
          have Hle : Hid (((d.items ++ [⟨us, (k : Int), true⟩]) : List ItemL).length = (il + 1)) := (by show _ = _; simp [Hil.out])
          have Hmx : Hid ((il + 1) ≤ 5864062014805) := by show _ ≤ _; have := Hlen.out; omega
          clear hQ hO c0 hZ hZ2 hf1 hf2
          go_wp2
          rw [HW.out]
          exact bodyPost_ret (v := .tuple #[.agg #[.slice za zl zc, .slice za2 zl2 zc2, .slice oa (il + 1) oc], .agg #[.int .i64 0, .int .i64 (il : Int)]]) (results_qdo rfl rfl rfl R1 R2) rfl (givesQ_ok EQ.out hZ' hZ2' Hle.out hO' Hmx.out HgB.out ho R3)
        · have hE' : (E == 0) = false := by simpa using hE
          have hE2 : (E != 0) = true := by simpa using hE
          have EQ : Hid (deskDo n roles d ⟨1, us, (k : Int), it, hd⟩ = (d, ⟨E, 0⟩)) := qd_case EK.out (by simp) rfl HE.out hE
          have hP : True := trivial
          go_wp2_with fail
          refine (qno_any E (w.heap.size + 1) a a' ia l p l' p' il ic w5 (by exact hQ.desk)).mono ?_
          rintro e w9 ⟨rfl, b9⟩
          replace c0 := below_then c0 b9
          replace hQ := hQ.below b9
          obtain ⟨⟨r0, r1, r2⟩, ⟨f0, f1, f2⟩, ⟨a0, a1⟩, ⟨g0, g1⟩⟩ := hQ.res
          obtain ⟨W, HW⟩ : ∃ W, Hid (((((w9.setCell ⟨w.heap.size + 1 + 1 + 1, 0, none⟩ (.slice a l p)).setCell ⟨w.heap.size + 1 + 1 + 1, 1, none⟩ (.slice a' l' p')).setCell ⟨w.heap.size + 1 + 1 + 1, 2, none⟩ (.slice ia il ic)).setCell ⟨w.heap.size + 1 + 1 + 1 + 1, 0, none⟩ (.int .i64 E)).setCell ⟨w.heap.size + 1 + 1 + 1 + 1, 1, none⟩ (.int .i64 0) = W) := ⟨_, rfl⟩
          obtain ⟨R1, R2, R3, R4, R5⟩ := hQ.fill c0 (.slice a l p) (.slice a' l' p') (.slice ia il ic) (E) (0) HW.out
          clear hQ hO hP c0 b9
          go_wp2
          rw [HW.out]
          exact bodyPost_ret (v := .tuple #[.agg #[.slice a l p, .slice a' l' p', .slice ia il ic], .agg #[.int .i64 E, .int .i64 0]]) (results_qdo rfl rfl rfl R1 R2) rfl (givesQ_err EQ.out hD R3)
    · have htl' : decide ((tl : Int) ≤ (k : Int)) = true := decide_eq_true (by omega)
      have EQ : Hid (deskDo n roles d ⟨1, us, (k : Int), it, hd⟩ = (d, ⟨3, 0⟩)) := qd_err (de_begin_none (.inr (by rw [Htl.out]; omega))) (by decide)
      go_wp2_with fail
      refine (qno_any 3 (w.heap.size + 1) a a' ia l p l' p' il ic w3 (by exact hQ.desk)).mono ?_
      rintro e w9 ⟨rfl, b9⟩
      replace c0 := below_then c0 b9
      replace hQ := hQ.below b9
      obtain ⟨⟨r0, r1, r2⟩, ⟨f0, f1, f2⟩, ⟨a0, a1⟩, ⟨g0, g1⟩⟩ := hQ.res
      obtain ⟨W, HW⟩ : ∃ W, Hid (((((w9.setCell ⟨w.heap.size + 1 + 1 + 1, 0, none⟩ (.slice a l p)).setCell ⟨w.heap.size + 1 + 1 + 1, 1, none⟩ (.slice a' l' p')).setCell ⟨w.heap.size + 1 + 1 + 1, 2, none⟩ (.slice ia il ic)).setCell ⟨w.heap.size + 1 + 1 + 1 + 1, 0, none⟩ (.int .i64 3)).setCell ⟨w.heap.size + 1 + 1 + 1 + 1, 1, none⟩ (.int .i64 0) = W) := ⟨_, rfl⟩
      obtain ⟨R1, R2, R3, R4, R5⟩ := hQ.fill c0 (.slice a l p) (.slice a' l' p') (.slice ia il ic) (3) (0) HW.out
      clear hQ hO hP c0 b9
      go_wp2
      rw [HW.out]
      exact bodyPost_ret (v := .tuple #[.agg #[.slice a l p, .slice a' l' p', .slice ia il ic], .agg #[.int .i64 3, .int .i64 0]]) (results_qdo rfl rfl rfl R1 R2) rfl (givesQ_err EQ.out hD R3)

end Go.Proofs.Ytaladbcocealnaa

/- The document's own desk: one thing done, ended. (Made by tools/gen_qdo.py.) -/
namespace Go.Proofs.Ytaladbcocealnaa
open Go.RowKit
set_option linter.unusedVariables false
set_option linter.unusedSimpArgs false
set_option maxRecDepth 4000

set_option maxHeartbeats 8000000 in
theorem qdo_kind2 (v r dv : Value) (n : NetL) (roles : List (List Int)) (d : DeskL) (us tr it hd : Int) (w : World) (hv : Net w v n) (hr : Lists w r roles) (hD : DeskV w dv d) (hsm : SmallNet n) (hinv : DeskInv n roles d) (Hlen : Hid (d.items.length + 1 ≤ 5864062014805)) :
    Calls Try.prog 24 #[v, r, dv, .agg #[.int .i64 2, .int .i64 us, .int .i64 tr, .int .i64 it, .int .i64 hd]] w fun e w' => GivesQ w dv (deskDo n roles d ⟨2, us, tr, it, hd⟩) e w' := by
  obtain ⟨tv, rfl, hT⟩ := hv
  obtain ⟨ta, tl, tc, rfl, htl, htm, hts, _⟩ := id hT
  have Htl : Hid (n.trans.length = tl) := htl
  clear htl htm hts
  obtain ⟨a, l, p, a', l', p', ia, ic, rfl, h1, h2, h3⟩ := id hD
  obtain ⟨il, Hil⟩ : ∃ n, Hid (d.items.length = n) := ⟨_, rfl⟩
  have Hcl := items_cells h3
  rw [Hil.out] at h3 Hcl Hlen hD ⊢
  obtain ⟨w0, Hw0, hQ, c0, Hs0⟩ := qdo_boxes w n.places (.slice ta tl tc) (.slice a l p) (.slice a' l' p') (.slice ia il ic) ⟨2, us, tr, it, hd⟩
  have bp := below_new w0 (.cells #[.int .i64 0, .int .i64 tr] 97)
  have hP := cellsAt_new w0 #[.int .i64 0, .int .i64 tr] 97
  rw [Hs0.out] at hP
  obtain ⟨w1, Hw1⟩ : ∃ v, Hid (w0.alloc (.cells #[.int .i64 0, .int .i64 tr] 97) = v) := ⟨_, rfl⟩
  have Hs1 : Hid (w1.heap.size = w.heap.size + 1 + 1 + 1 + 1 + 1 + 1) := by show _ = _; rw [← Hw1.out]; simp [Hs0.out]
  rw [Hw1.out] at bp hP
  have bl := below_new w1 (.cells #[] 78)
  have hL := lit_row w1
  obtain ⟨w2, Hw2⟩ : ∃ v, Hid (w1.alloc (.cells #[] 78) = v) := ⟨_, rfl⟩
  rw [Hw2.out] at bl hL
  obtain ⟨⟨n0, n1⟩, ⟨d0, d1, d2⟩, ⟨o0, o1, o2, o3, o4⟩⟩ := hQ.cells
  simp only at o0 o1 o2 o3 o4
  go_enter Try.func24, Try.ntmps24
  go_upto_region 1 with fail
  rw [Hw0.out]
  go_upto_region 3 with fail
  rw [Hs0.out, Hw1.out]
  clear Hw0 Hw1
  clear n0 n1 d0 d1 d2 o0 o1 o2 o3 o4
  replace c0 := below_then c0 bp
  replace hQ := hQ.below bp
  obtain ⟨⟨n0, n1⟩, ⟨d0, d1, d2⟩, ⟨o0, o1, o2, o3, o4⟩⟩ := hQ.cells
  simp only at o0 o1 o2 o3 o4
  have q2 : (w1.alloc (.cells #[] 78)).cell? ⟨w.heap.size + 1, 2, none⟩ = some (.slice ia il ic) := by rw [Hw2.out]; exact (hQ.below bl).desk.cell 2
  have HL1 : Hid (0 + il ≤ maxLen) := by show _ ≤ _; have := Hlen.out; unfold maxLen; omega
  have HL2 : Hid ((0 + il) * 24 ≤ 140737488355328) := by show _ ≤ _; have := Hlen.out; omega
  have hC2 := (Hcl.below (below_then c0 bl) : CellsV w2 _ _ _ _ _)
  go_upto_region 19 with (rw [Hw2.out]; at_builtin; refine wp_append_cells elem_item rfl _ _ rfl w1.heap.size w1 w2 (.slice (some ⟨w1.heap.size, 0, none⟩) 0 0) (.slice ia il ic) 0 il 5864062014805 [] (itemCells d.items) hL rfl rfl hC2 HL1.out HL2.out ?_; intro v' w3 hO0 hgr; clear hgr; rw [Nat.zero_add, List.nil_append] at hO0; obtain ⟨oa, oc, rfl⟩ := hO0.slice; have bw := hO0.2.1; have Hge : Hid (w1.heap.size ≤ w3.heap.size) := hO0.2.2; have hO := hO0.1; replace c0 := below_then c0 bw; replace hQ := hQ.below bw; replace hP := hP.below bw; clear n0 n1 d0 d1 d2 o0 o1 o2 o3 o4 q2 hL hC2 bl bp bw hO0; obtain ⟨⟨n0, n1⟩, ⟨d0, d1, d2⟩, ⟨o0, o1, o2, o3, o4⟩⟩ := hQ.cells; simp only at o0 o1 o2 o3 o4; obtain ⟨p0, p1, g0, g1⟩ := case_op hP)
  by_cases hi0 : it < 0
  · have hi0' : decide (it < 0) = true := decide_eq_true hi0
    have EQ : Hid (deskDo n roles d ⟨2, us, tr, it, hd⟩ = (d, ⟨3, 0⟩)) := qd_err (de_item_none (by decide) (.inl hi0)) (by decide)
    go_wp2_with fail
    refine (qno_any 3 (w.heap.size + 1) a a' ia l p l' p' il ic w3 (by exact hQ.desk)).mono ?_
    rintro e w9 ⟨rfl, b9⟩
    replace c0 := below_then c0 b9
    replace hQ := hQ.below b9
    obtain ⟨⟨r0, r1, r2⟩, ⟨f0, f1, f2⟩, ⟨a0, a1⟩, ⟨g0, g1⟩⟩ := hQ.res
    obtain ⟨W, HW⟩ : ∃ W, Hid (((((w9.setCell ⟨w.heap.size + 1 + 1 + 1, 0, none⟩ (.slice a l p)).setCell ⟨w.heap.size + 1 + 1 + 1, 1, none⟩ (.slice a' l' p')).setCell ⟨w.heap.size + 1 + 1 + 1, 2, none⟩ (.slice ia il ic)).setCell ⟨w.heap.size + 1 + 1 + 1 + 1, 0, none⟩ (.int .i64 3)).setCell ⟨w.heap.size + 1 + 1 + 1 + 1, 1, none⟩ (.int .i64 0) = W) := ⟨_, rfl⟩
    obtain ⟨R1, R2, R3, R4, R5⟩ := hQ.fill c0 (.slice a l p) (.slice a' l' p') (.slice ia il ic) (3) (0) HW.out
    clear hQ hO hP c0 b9
    go_wp2
    rw [HW.out]
    exact bodyPost_ret (v := .tuple #[.agg #[.slice a l p, .slice a' l' p', .slice ia il ic], .agg #[.int .i64 3, .int .i64 0]]) (results_qdo rfl rfl rfl R1 R2) rfl (givesQ_err EQ.out hD R3)
  · obtain ⟨k, rfl⟩ := Int.eq_ofNat_of_zero_le (show 0 ≤ it by omega)
    have hi0' : decide ((k : Int) < 0) = false := decide_eq_false hi0
    by_cases hk : k < il
    · have hil' : decide ((il : Int) ≤ (k : Int)) = false := decide_eq_false (by omega)
      have hki : (k : Int) < (il : Int) := by omega
      have Hkd : Hid (k < d.items.length) := by show _ < _; rw [Hil.out]; exact hk
      obtain ⟨g, rfl, hgB, hgl⟩ := row_form hO (by omega)
      rw [Hs1.out] at hgB
      obtain ⟨s0, s1, s2⟩ := itemCells_at d.items k Hkd.out
      obtain ⟨us1, HU⟩ : ∃ u, Hid ((itemAt d.items k).user = u) := ⟨_, rfl⟩
      obtain ⟨t, htr, htn, _⟩ := hinv.may k Hkd.out
      have Htr : Hid ((itemAt d.items k).tran = (t : Int)) := htr
      rw [htr] at s1
      rw [HU.out] at s0
      have htl : t < tl := by rw [← Htl.out]; exact htn
      have hti : (t : Int) < (tl : Int) := by omega
      clear htr htn hgl
      obtain ⟨ob, HO⟩ : ∃ b, Hid ((itemAt d.items k).opn = b) := ⟨_, rfl⟩
      rw [HO.out] at s2
      cases ob
      · have t2 : w3.cell? ⟨g, k * 3 + 2, none⟩ = some (.bool false) := (hO.cellAt (k * 3 + 2) (by omega)).trans s2
        have EQ : Hid (deskDo n roles d ⟨2, us, tr, (k : Int), hd⟩ = (d, ⟨3, 0⟩)) := qd_err (de_item_none (by decide) (.inr (.inr HO.out))) (by decide)
        go_wp2_with fail
        refine (qno_any 3 (w.heap.size + 1) a a' ia l p l' p' il ic w3 (by exact hQ.desk)).mono ?_
        rintro e w9 ⟨rfl, b9⟩
        replace c0 := below_then c0 b9
        replace hQ := hQ.below b9
        obtain ⟨⟨r0, r1, r2⟩, ⟨f0, f1, f2⟩, ⟨a0, a1⟩, ⟨g0, g1⟩⟩ := hQ.res
        obtain ⟨W, HW⟩ : ∃ W, Hid (((((w9.setCell ⟨w.heap.size + 1 + 1 + 1, 0, none⟩ (.slice a l p)).setCell ⟨w.heap.size + 1 + 1 + 1, 1, none⟩ (.slice a' l' p')).setCell ⟨w.heap.size + 1 + 1 + 1, 2, none⟩ (.slice ia il ic)).setCell ⟨w.heap.size + 1 + 1 + 1 + 1, 0, none⟩ (.int .i64 3)).setCell ⟨w.heap.size + 1 + 1 + 1 + 1, 1, none⟩ (.int .i64 0) = W) := ⟨_, rfl⟩
        obtain ⟨R1, R2, R3, R4, R5⟩ := hQ.fill c0 (.slice a l p) (.slice a' l' p') (.slice ia il ic) (3) (0) HW.out
        clear hQ hO hP c0 b9
        go_wp2
        rw [HW.out]
        exact bodyPost_ret (v := .tuple #[.agg #[.slice a l p, .slice a' l' p', .slice ia il ic], .agg #[.int .i64 3, .int .i64 0]]) (results_qdo rfl rfl rfl R1 R2) rfl (givesQ_err EQ.out hD R3)
      · have U : True := trivial
        have t0 : w3.cell? ⟨g, k * 3, none⟩ = some (.int .i64 us1) := (hO.cellAt (k * 3) (by omega)).trans s0
        have t1 : w3.cell? ⟨g, k * 3 + 1, none⟩ = some (.int .i64 (t : Int)) := (hO.cellAt (k * 3 + 1) (by omega)).trans s1
        have t2 : w3.cell? ⟨g, k * 3 + 2, none⟩ = some (.bool true) := (hO.cellAt (k * 3 + 2) (by omega)).trans s2
        have e0 := hO.frozenAt (k * 3)
        have e2 := hO.frozenAt (k * 3 + 2)
        by_cases hu : us1 = us
        · have HU2 : Hid ((itemAt d.items k).user = us) := HU.out.trans hu
          rw [hu] at s0 t0
          clear hu HU us1
          go_wp2_with fail
          go_quiet (fail)
          have bq := below_drewN (Below.refl w3.heap.size w3) nq
          obtain ⟨wq, Hwq⟩ : ∃ v, Hid (w3.drewN nq = v) := ⟨_, rfl⟩
          rw [Hwq.out] at bq ⊢
          clear Hwq t0 t1 t2 e0 e2 p0 p1 g0 g1
          clear n0 n1 d0 d1 d2 o0 o1 o2 o3 o4
          replace c0 := below_then c0 bq
          replace hQ := hQ.below bq
          replace hP := hP.below bq
          replace hO := own_trans hO bq
          replace Hge : Hid (w1.heap.size ≤ wq.heap.size) := Nat.le_trans Hge.out bq.size
          clear bq
          obtain ⟨⟨n0, n1⟩, ⟨d0, d1, d2⟩, ⟨o0, o1, o2, o3, o4⟩⟩ := hQ.cells
          simp only at o0 o1 o2 o3 o4
          obtain ⟨p0, p1, g0, g1⟩ := case_op hP
          have t0 : wq.cell? ⟨g, k * 3, none⟩ = some (.int .i64 us) := (hO.cellAt (k * 3) (by omega)).trans s0
          have t1 : wq.cell? ⟨g, k * 3 + 1, none⟩ = some (.int .i64 (t : Int)) := (hO.cellAt (k * 3 + 1) (by omega)).trans s1
          have t2 : wq.cell? ⟨g, k * 3 + 2, none⟩ = some (.bool true) := (hO.cellAt (k * 3 + 2) (by omega)).trans s2
          have e0 := hO.frozenAt (k * 3)
          have e2 := hO.frozenAt (k * 3 + 2)
          have EK : Hid (deskErr n roles d ⟨2, us, tr, (k : Int), hd⟩ = 0) := de_item_ok (by decide) Hkd.out HO.out HU2.out
          have Hni : Hid (newItems d ⟨2, us, tr, (k : Int), hd⟩ = (d.items.set k ⟨us, (t : Int), false⟩)) := by show _ = _; rw [show newItems d ⟨2, us, tr, (k : Int), hd⟩ = d.items.set k ⟨(itemAt d.items k).user, (itemAt d.items k).tran, false⟩ from rfl, HU2.out, Htr.out]
          have Hcs : Hid (caseOp d ⟨2, us, tr, (k : Int), hd⟩ = (3, (t : Int))) := by show _ = _; rw [show caseOp d ⟨2, us, tr, (k : Int), hd⟩ = (3, (itemAt d.items k).tran) from rfl, Htr.out]
          have HIC : Hid ((itemCells d.items).set (k * 3 + 2) (.bool false) = itemCells (d.items.set k ⟨us, (t : Int), false⟩)) := by show _ = _; rw [itemCells_open _ _ _ Hkd.out, HU2.out, Htr.out]
          go_upto_region 29 with fail
          obtain ⟨w6, Hw6⟩ : ∃ v, Hid (((wq.setCell ⟨w.heap.size + 1 + 1 + 1 + 1 + 1, 0, none⟩ (.int .i64 3)).setCell ⟨w.heap.size + 1 + 1 + 1 + 1 + 1, 1, none⟩ (.int .i64 (t : Int))) = v) := ⟨_, rfl⟩
          replace hQ := hQ.keep (B := w.heap.size + 1 + 1 + 1 + 1 + 1) (by omega) (fun kk hkk => Below.heap_setCell _ ⟨w.heap.size + 1 + 1 + 1 + 1 + 1, 0, none⟩ (.int .i64 3) kk (by show kk ≠ w.heap.size + 1 + 1 + 1 + 1 + 1; omega))
          replace c0 := c0.setCell (p := ⟨w.heap.size + 1 + 1 + 1 + 1 + 1, 0, none⟩) (by show w.heap.size ≤ w.heap.size + 1 + 1 + 1 + 1 + 1; omega) (.int .i64 3)
          replace hP := hP.put 0 (.int .i64 3)
          replace hO := ownsRow_setCell_below hO (a := ⟨w.heap.size + 1 + 1 + 1 + 1 + 1, 0, none⟩) (by show w.heap.size + 1 + 1 + 1 + 1 + 1 < w1.heap.size; rw [Hs1.out]; omega) (.int .i64 3)
          replace hQ := hQ.keep (B := w.heap.size + 1 + 1 + 1 + 1 + 1) (by omega) (fun kk hkk => Below.heap_setCell _ ⟨w.heap.size + 1 + 1 + 1 + 1 + 1, 1, none⟩ (.int .i64 (t : Int)) kk (by show kk ≠ w.heap.size + 1 + 1 + 1 + 1 + 1; omega))
          replace c0 := c0.setCell (p := ⟨w.heap.size + 1 + 1 + 1 + 1 + 1, 1, none⟩) (by show w.heap.size ≤ w.heap.size + 1 + 1 + 1 + 1 + 1; omega) (.int .i64 (t : Int))
          replace hP := hP.put 1 (.int .i64 (t : Int))
          replace hO := ownsRow_setCell_below hO (a := ⟨w.heap.size + 1 + 1 + 1 + 1 + 1, 1, none⟩) (by show w.heap.size + 1 + 1 + 1 + 1 + 1 < w1.heap.size; rw [Hs1.out]; omega) (.int .i64 (t : Int))
          replace Hge : Hid (w1.heap.size ≤ (((wq.setCell ⟨w.heap.size + 1 + 1 + 1 + 1 + 1, 0, none⟩ (.int .i64 3)).setCell ⟨w.heap.size + 1 + 1 + 1 + 1 + 1, 1, none⟩ (.int .i64 (t : Int)))).heap.size) := by show _ ≤ _; simp only [World.setCell, Array.size_modify]; exact Hge.out
          rw [Hw6.out] at hQ c0 hP hO Hge
          rw [Hw6.out]
          clear Hw6 t0 t1 t2 e0 e2 p0 p1 g0 g1
          clear n0 n1 d0 d1 d2 o0 o1 o2 o3 o4
          obtain ⟨⟨n0, n1⟩, ⟨d0, d1, d2⟩, ⟨o0, o1, o2, o3, o4⟩⟩ := hQ.cells
          simp only at o0 o1 o2 o3 o4
          obtain ⟨p0, p1, g0, g1⟩ := case_op hP
          have t0 : w6.cell? ⟨g, k * 3, none⟩ = some (.int .i64 us) := (hO.cellAt (k * 3) (by omega)).trans s0
          have t1 : w6.cell? ⟨g, k * 3 + 1, none⟩ = some (.int .i64 (t : Int)) := (hO.cellAt (k * 3 + 1) (by omega)).trans s1
          have t2 : w6.cell? ⟨g, k * 3 + 2, none⟩ = some (.bool true) := (hO.cellAt (k * 3 + 2) (by omega)).trans s2
          have e0 := hO.frozenAt (k * 3)
          have e2 := hO.frozenAt (k * 3 + 2)
          go_upto_region 32 with fail
          obtain ⟨w8, Hw8⟩ : ∃ v, Hid ((w6.setCell ⟨g, k * 3 + 2, none⟩ (.bool false)) = v) := ⟨_, rfl⟩
          replace hQ := hQ.keep (B := w.heap.size + 1 + 1 + 1 + 1 + 1) (by omega) (fun kk hkk => Below.heap_setCell _ ⟨g, k * 3 + 2, none⟩ (.bool false) kk (by show kk ≠ g; omega))
          replace c0 := c0.setCell (p := ⟨g, k * 3 + 2, none⟩) (by show w.heap.size ≤ g; omega) (.bool false)
          replace hP := hP.set (p := ⟨g, k * 3 + 2, none⟩) (by show g ≠ w.heap.size + 1 + 1 + 1 + 1 + 1; omega) (.bool false)
          replace hO := ownsRow_put hO (k * 3 + 2) (.bool false)
          replace Hge : Hid (w1.heap.size ≤ ((w6.setCell ⟨g, k * 3 + 2, none⟩ (.bool false))).heap.size) := by show _ ≤ _; simp only [World.setCell, Array.size_modify]; exact Hge.out
          rw [Hw8.out] at hQ c0 hP hO Hge
          rw [Hw8.out]
          clear Hw8 t0 t1 t2 e0 e2 p0 p1 g0 g1
          clear n0 n1 d0 d1 d2 o0 o1 o2 o3 o4
          rw [HIC.out] at hO
          obtain ⟨oa, Hoa⟩ : ∃ a, Hid ((some ⟨g, 0, none⟩ : Option Addr) = a) := ⟨_, rfl⟩
          rw [Hoa.out] at hO ⊢
          clear Hoa
          obtain ⟨⟨n0, n1⟩, ⟨d0, d1, d2⟩, ⟨o0, o1, o2, o3, o4⟩⟩ := hQ.cells
          simp only at o0 o1 o2 o3 o4
          obtain ⟨p0, p1, g0, g1⟩ := case_op hP
          go_wp2_with fail
          refine (pdo_own _ _ n d.case 3 (t : Int) w8 (by exact ⟨_, rfl, hT.below c0⟩) (by exact ⟨_, _, _, _, _, _, rfl, h1.below c0, h2.below c0⟩) hsm).mono ?_
          rintro e w4 ⟨rv, rfl, hC, hCF, b⟩
          obtain ⟨za, zl, zc, za2, zl2, zc2, rfl, hZ, hZ2⟩ := hC
          obtain ⟨hf1, hf2⟩ := hCF.parts
          replace hf1 := hf1.mono Hge.out
          replace hf2 := hf2.mono Hge.out
          clear n0 n1 d0 d1 d2 o0 o1 o2 o3 o4 p0 p1 g0 g1 hP hCF
          replace c0 := below_then c0 b
          replace hQ := hQ.below b
          replace hO := own_trans hO b
          replace Hge : Hid (w1.heap.size ≤ w4.heap.size) := Nat.le_trans Hge.out b.size
          clear b
          have bn := below_new w4 (.cells #[.slice za zl zc, .slice za2 zl2 zc2] 29)
          have hbx := caseBox_new w4 za za2 zl zc zl2 zc2
          obtain ⟨Bx, HBx⟩ : ∃ B, Hid (w4.heap.size = B) := ⟨_, rfl⟩
          rw [HBx.out] at hbx
          obtain ⟨w5, Hw5⟩ : ∃ v, Hid (w4.alloc (.cells #[.slice za zl zc, .slice za2 zl2 zc2] 29) = v) := ⟨_, rfl⟩
          rw [Hw5.out] at bn hbx
          go_upto_region 33 with fail
          rw [Hw5.out, HBx.out]
          clear Hw5 HBx
          replace c0 := below_then c0 bn
          replace hQ := hQ.below bn
          replace hO := own_trans hO bn
          replace Hge : Hid (w1.heap.size ≤ w5.heap.size) := Nat.le_trans Hge.out bn.size
          replace hZ := hZ.below bn
          replace hZ2 := hZ2.below bn
          clear bn
          obtain ⟨x0, x1, _, _, _⟩ := hbx.facts
          obtain ⟨E, HE⟩ : ∃ E, Hid ((doC n d.case 3 (t : Int)).2 = E) := ⟨_, rfl⟩
          rw [HE.out]
          by_cases hE : E = 0
          · subst hE
            have EQ : Hid (deskDo n roles d ⟨2, us, tr, (k : Int), hd⟩ = (⟨(doC n d.case 3 (t : Int)).1, (d.items.set k ⟨us, (t : Int), false⟩)⟩, ⟨0, (k : Int)⟩)) := by show _ = _; rw [qd_done EK.out (by simp) Hcs.out HE.out]; rw [Hni.out]; rfl
            obtain ⟨CC, HCC⟩ : ∃ C, Hid ((doC n d.case 3 (t : Int)).1 = C) := ⟨_, rfl⟩
            rw [HCC.out] at EQ hZ hZ2
            clear hinv HCC
            obtain ⟨⟨r0, r1, r2⟩, ⟨f0, f1, f2⟩, ⟨a0, a1⟩, ⟨g0, g1⟩⟩ := hQ.res
            obtain ⟨W, HW⟩ : ∃ W, Hid (((((w5.setCell ⟨w.heap.size + 1 + 1 + 1, 0, none⟩ (.slice za zl zc)).setCell ⟨w.heap.size + 1 + 1 + 1, 1, none⟩ (.slice za2 zl2 zc2)).setCell ⟨w.heap.size + 1 + 1 + 1, 2, none⟩ (.slice oa il oc)).setCell ⟨w.heap.size + 1 + 1 + 1 + 1, 0, none⟩ (.int .i64 0)).setCell ⟨w.heap.size + 1 + 1 + 1 + 1, 1, none⟩ (.int .i64 (k : Int)) = W) := ⟨_, rfl⟩
            obtain ⟨R1, R2, R3, R4, R5⟩ := hQ.fill c0 (.slice za zl zc) (.slice za2 zl2 zc2) (.slice oa il oc) (0) ((k : Int)) HW.out
            have hZ' := hZ.toLow hf1 (Nat.le_of_eq R4.symm) (fun k _ hk => R5 k (by have := Hs1.out; omega))
            have hZ2' := hZ2.toLow hf2 (Nat.le_of_eq R4.symm) (fun k _ hk => R5 k (by have := Hs1.out; omega))
            have hO' := own_to hO (Nat.le_of_eq R4.symm) (fun k hk => R5 k (by have := Hs1.out; omega))
            have HgB : Hid (w.heap.size ≤ w1.heap.size) := by show _ ≤ _; rw [Hs1.out]; omega
            have ho : ∀ g, g < w.heap.size → DeskOff g (.agg #[.slice a l p, .slice a' l' p', .slice ia il ic]) → SlOff g (.slice za zl zc) ∧ SlOff g (.slice za2 zl2 zc2) := fun g hg _ => ⟨hf1.off (by have := HgB.out; omega), hf2.off (by have := HgB.out; omega)⟩
            have Hle : Hid (((d.items.set k ⟨us, (t : Int), false⟩) : List ItemL).length = il) := (by show _ = _; simp [Hil.out])
            have Hmx : Hid (il ≤ 5864062014805) := by show _ ≤ _; have := Hlen.out; omega
            clear hQ hO c0 hZ hZ2 hf1 hf2
            go_wp2
            rw [HW.out]
            exact bodyPost_ret (v := .tuple #[.agg #[.slice za zl zc, .slice za2 zl2 zc2, .slice oa il oc], .agg #[.int .i64 0, .int .i64 (k : Int)]]) (results_qdo rfl rfl rfl R1 R2) rfl (givesQ_ok EQ.out hZ' hZ2' Hle.out hO' Hmx.out HgB.out ho R3)
          · have hE' : (E == 0) = false := by simpa using hE
            have hE2 : (E != 0) = true := by simpa using hE
            have EQ : Hid (deskDo n roles d ⟨2, us, tr, (k : Int), hd⟩ = (d, ⟨E, 0⟩)) := qd_case EK.out (by simp) Hcs.out HE.out hE
            have hP : True := trivial
            go_wp2_with fail
            refine (qno_any E (w.heap.size + 1) a a' ia l p l' p' il ic w5 (by exact hQ.desk)).mono ?_
            rintro e w9 ⟨rfl, b9⟩
            replace c0 := below_then c0 b9
            replace hQ := hQ.below b9
            obtain ⟨⟨r0, r1, r2⟩, ⟨f0, f1, f2⟩, ⟨a0, a1⟩, ⟨g0, g1⟩⟩ := hQ.res
            obtain ⟨W, HW⟩ : ∃ W, Hid (((((w9.setCell ⟨w.heap.size + 1 + 1 + 1, 0, none⟩ (.slice a l p)).setCell ⟨w.heap.size + 1 + 1 + 1, 1, none⟩ (.slice a' l' p')).setCell ⟨w.heap.size + 1 + 1 + 1, 2, none⟩ (.slice ia il ic)).setCell ⟨w.heap.size + 1 + 1 + 1 + 1, 0, none⟩ (.int .i64 E)).setCell ⟨w.heap.size + 1 + 1 + 1 + 1, 1, none⟩ (.int .i64 0) = W) := ⟨_, rfl⟩
            obtain ⟨R1, R2, R3, R4, R5⟩ := hQ.fill c0 (.slice a l p) (.slice a' l' p') (.slice ia il ic) (E) (0) HW.out
            clear hQ hO hP c0 b9
            go_wp2
            rw [HW.out]
            exact bodyPost_ret (v := .tuple #[.agg #[.slice a l p, .slice a' l' p', .slice ia il ic], .agg #[.int .i64 E, .int .i64 0]]) (results_qdo rfl rfl rfl R1 R2) rfl (givesQ_err EQ.out hD R3)
        · have hne : (us1 != us) = true := by simpa using hu
          go_wp2_with fail
          go_quiet (fail)
          have bq := below_drewN (Below.refl w3.heap.size w3) nq
          obtain ⟨wq, Hwq⟩ : ∃ v, Hid (w3.drewN nq = v) := ⟨_, rfl⟩
          rw [Hwq.out] at bq ⊢
          clear Hwq t0 t1 t2 e0 e2 p0 p1 g0 g1
          clear n0 n1 d0 d1 d2 o0 o1 o2 o3 o4
          replace c0 := below_then c0 bq
          replace hQ := hQ.below bq
          replace hP := hP.below bq
          replace hO := own_trans hO bq
          replace Hge : Hid (w1.heap.size ≤ wq.heap.size) := Nat.le_trans Hge.out bq.size
          clear bq
          obtain ⟨⟨n0, n1⟩, ⟨d0, d1, d2⟩, ⟨o0, o1, o2, o3, o4⟩⟩ := hQ.cells
          simp only at o0 o1 o2 o3 o4
          have EQ : Hid (deskDo n roles d ⟨2, us, tr, (k : Int), hd⟩ = (d, ⟨7, 0⟩)) := qd_err (de_item_held (by decide) Hkd.out HO.out (by rw [HU.out]; exact hu)) (by decide)
          go_wp2_with fail
          refine (qno_any 7 (w.heap.size + 1) a a' ia l p l' p' il ic wq (by exact hQ.desk)).mono ?_
          rintro e w9 ⟨rfl, b9⟩
          replace c0 := below_then c0 b9
          replace hQ := hQ.below b9
          obtain ⟨⟨r0, r1, r2⟩, ⟨f0, f1, f2⟩, ⟨a0, a1⟩, ⟨g0, g1⟩⟩ := hQ.res
          obtain ⟨W, HW⟩ : ∃ W, Hid (((((w9.setCell ⟨w.heap.size + 1 + 1 + 1, 0, none⟩ (.slice a l p)).setCell ⟨w.heap.size + 1 + 1 + 1, 1, none⟩ (.slice a' l' p')).setCell ⟨w.heap.size + 1 + 1 + 1, 2, none⟩ (.slice ia il ic)).setCell ⟨w.heap.size + 1 + 1 + 1 + 1, 0, none⟩ (.int .i64 7)).setCell ⟨w.heap.size + 1 + 1 + 1 + 1, 1, none⟩ (.int .i64 0) = W) := ⟨_, rfl⟩
          obtain ⟨R1, R2, R3, R4, R5⟩ := hQ.fill c0 (.slice a l p) (.slice a' l' p') (.slice ia il ic) (7) (0) HW.out
          clear hQ hO hP c0 b9
          go_wp2
          rw [HW.out]
          exact bodyPost_ret (v := .tuple #[.agg #[.slice a l p, .slice a' l' p', .slice ia il ic], .agg #[.int .i64 7, .int .i64 0]]) (results_qdo rfl rfl rfl R1 R2) rfl (givesQ_err EQ.out hD R3)
    · have hil' : decide ((il : Int) ≤ (k : Int)) = true := decide_eq_true (by omega)
      have EQ : Hid (deskDo n roles d ⟨2, us, tr, (k : Int), hd⟩ = (d, ⟨3, 0⟩)) := qd_err (de_item_none (by decide) (.inr (.inl (by rw [Hil.out]; omega)))) (by decide)
      go_wp2_with fail
      refine (qno_any 3 (w.heap.size + 1) a a' ia l p l' p' il ic w3 (by exact hQ.desk)).mono ?_
      rintro e w9 ⟨rfl, b9⟩
      replace c0 := below_then c0 b9
      replace hQ := hQ.below b9
      obtain ⟨⟨r0, r1, r2⟩, ⟨f0, f1, f2⟩, ⟨a0, a1⟩, ⟨g0, g1⟩⟩ := hQ.res
      obtain ⟨W, HW⟩ : ∃ W, Hid (((((w9.setCell ⟨w.heap.size + 1 + 1 + 1, 0, none⟩ (.slice a l p)).setCell ⟨w.heap.size + 1 + 1 + 1, 1, none⟩ (.slice a' l' p')).setCell ⟨w.heap.size + 1 + 1 + 1, 2, none⟩ (.slice ia il ic)).setCell ⟨w.heap.size + 1 + 1 + 1 + 1, 0, none⟩ (.int .i64 3)).setCell ⟨w.heap.size + 1 + 1 + 1 + 1, 1, none⟩ (.int .i64 0) = W) := ⟨_, rfl⟩
      obtain ⟨R1, R2, R3, R4, R5⟩ := hQ.fill c0 (.slice a l p) (.slice a' l' p') (.slice ia il ic) (3) (0) HW.out
      clear hQ hO hP c0 b9
      go_wp2
      rw [HW.out]
      exact bodyPost_ret (v := .tuple #[.agg #[.slice a l p, .slice a' l' p', .slice ia il ic], .agg #[.int .i64 3, .int .i64 0]]) (results_qdo rfl rfl rfl R1 R2) rfl (givesQ_err EQ.out hD R3)

end Go.Proofs.Ytaladbcocealnaa

/- The document's own desk: one thing done, undone. (Made by tools/gen_qdo.py.) -/
namespace Go.Proofs.Ytaladbcocealnaa
open Go.RowKit
set_option linter.unusedVariables false
set_option linter.unusedSimpArgs false
set_option maxRecDepth 4000

set_option maxHeartbeats 8000000 in
theorem qdo_kind3 (v r dv : Value) (n : NetL) (roles : List (List Int)) (d : DeskL) (us tr it hd : Int) (w : World) (hv : Net w v n) (hr : Lists w r roles) (hD : DeskV w dv d) (hsm : SmallNet n) (hinv : DeskInv n roles d) (Hlen : Hid (d.items.length + 1 ≤ 5864062014805)) :
    Calls Try.prog 24 #[v, r, dv, .agg #[.int .i64 3, .int .i64 us, .int .i64 tr, .int .i64 it, .int .i64 hd]] w fun e w' => GivesQ w dv (deskDo n roles d ⟨3, us, tr, it, hd⟩) e w' := by
  obtain ⟨tv, rfl, hT⟩ := hv
  obtain ⟨ta, tl, tc, rfl, htl, htm, hts, _⟩ := id hT
  have Htl : Hid (n.trans.length = tl) := htl
  clear htl htm hts
  obtain ⟨a, l, p, a', l', p', ia, ic, rfl, h1, h2, h3⟩ := id hD
  obtain ⟨il, Hil⟩ : ∃ n, Hid (d.items.length = n) := ⟨_, rfl⟩
  have Hcl := items_cells h3
  rw [Hil.out] at h3 Hcl Hlen hD ⊢
  obtain ⟨w0, Hw0, hQ, c0, Hs0⟩ := qdo_boxes w n.places (.slice ta tl tc) (.slice a l p) (.slice a' l' p') (.slice ia il ic) ⟨3, us, tr, it, hd⟩
  have bp := below_new w0 (.cells #[.int .i64 0, .int .i64 tr] 97)
  have hP := cellsAt_new w0 #[.int .i64 0, .int .i64 tr] 97
  rw [Hs0.out] at hP
  obtain ⟨w1, Hw1⟩ : ∃ v, Hid (w0.alloc (.cells #[.int .i64 0, .int .i64 tr] 97) = v) := ⟨_, rfl⟩
  have Hs1 : Hid (w1.heap.size = w.heap.size + 1 + 1 + 1 + 1 + 1 + 1) := by show _ = _; rw [← Hw1.out]; simp [Hs0.out]
  rw [Hw1.out] at bp hP
  have bl := below_new w1 (.cells #[] 78)
  have hL := lit_row w1
  obtain ⟨w2, Hw2⟩ : ∃ v, Hid (w1.alloc (.cells #[] 78) = v) := ⟨_, rfl⟩
  rw [Hw2.out] at bl hL
  obtain ⟨⟨n0, n1⟩, ⟨d0, d1, d2⟩, ⟨o0, o1, o2, o3, o4⟩⟩ := hQ.cells
  simp only at o0 o1 o2 o3 o4
  go_enter Try.func24, Try.ntmps24
  go_upto_region 1 with fail
  rw [Hw0.out]
  go_upto_region 3 with fail
  rw [Hs0.out, Hw1.out]
  clear Hw0 Hw1
  clear n0 n1 d0 d1 d2 o0 o1 o2 o3 o4
  replace c0 := below_then c0 bp
  replace hQ := hQ.below bp
  obtain ⟨⟨n0, n1⟩, ⟨d0, d1, d2⟩, ⟨o0, o1, o2, o3, o4⟩⟩ := hQ.cells
  simp only at o0 o1 o2 o3 o4
  have q2 : (w1.alloc (.cells #[] 78)).cell? ⟨w.heap.size + 1, 2, none⟩ = some (.slice ia il ic) := by rw [Hw2.out]; exact (hQ.below bl).desk.cell 2
  have HL1 : Hid (0 + il ≤ maxLen) := by show _ ≤ _; have := Hlen.out; unfold maxLen; omega
  have HL2 : Hid ((0 + il) * 24 ≤ 140737488355328) := by show _ ≤ _; have := Hlen.out; omega
  have hC2 := (Hcl.below (below_then c0 bl) : CellsV w2 _ _ _ _ _)
  go_upto_region 19 with (rw [Hw2.out]; at_builtin; refine wp_append_cells elem_item rfl _ _ rfl w1.heap.size w1 w2 (.slice (some ⟨w1.heap.size, 0, none⟩) 0 0) (.slice ia il ic) 0 il 5864062014805 [] (itemCells d.items) hL rfl rfl hC2 HL1.out HL2.out ?_; intro v' w3 hO0 hgr; clear hgr; rw [Nat.zero_add, List.nil_append] at hO0; obtain ⟨oa, oc, rfl⟩ := hO0.slice; have bw := hO0.2.1; have Hge : Hid (w1.heap.size ≤ w3.heap.size) := hO0.2.2; have hO := hO0.1; replace c0 := below_then c0 bw; replace hQ := hQ.below bw; replace hP := hP.below bw; clear n0 n1 d0 d1 d2 o0 o1 o2 o3 o4 q2 hL hC2 bl bp bw hO0; obtain ⟨⟨n0, n1⟩, ⟨d0, d1, d2⟩, ⟨o0, o1, o2, o3, o4⟩⟩ := hQ.cells; simp only at o0 o1 o2 o3 o4; obtain ⟨p0, p1, g0, g1⟩ := case_op hP)
  by_cases hi0 : it < 0
  · have hi0' : decide (it < 0) = true := decide_eq_true hi0
    have EQ : Hid (deskDo n roles d ⟨3, us, tr, it, hd⟩ = (d, ⟨3, 0⟩)) := qd_err (de_item_none (by decide) (.inl hi0)) (by decide)
    go_wp2_with fail
    refine (qno_any 3 (w.heap.size + 1) a a' ia l p l' p' il ic w3 (by exact hQ.desk)).mono ?_
    rintro e w9 ⟨rfl, b9⟩
    replace c0 := below_then c0 b9
    replace hQ := hQ.below b9
    obtain ⟨⟨r0, r1, r2⟩, ⟨f0, f1, f2⟩, ⟨a0, a1⟩, ⟨g0, g1⟩⟩ := hQ.res
    obtain ⟨W, HW⟩ : ∃ W, Hid (((((w9.setCell ⟨w.heap.size + 1 + 1 + 1, 0, none⟩ (.slice a l p)).setCell ⟨w.heap.size + 1 + 1 + 1, 1, none⟩ (.slice a' l' p')).setCell ⟨w.heap.size + 1 + 1 + 1, 2, none⟩ (.slice ia il ic)).setCell ⟨w.heap.size + 1 + 1 + 1 + 1, 0, none⟩ (.int .i64 3)).setCell ⟨w.heap.size + 1 + 1 + 1 + 1, 1, none⟩ (.int .i64 0) = W) := ⟨_, rfl⟩
    obtain ⟨R1, R2, R3, R4, R5⟩ := hQ.fill c0 (.slice a l p) (.slice a' l' p') (.slice ia il ic) (3) (0) HW.out
    clear hQ hO hP c0 b9
    go_wp2
    rw [HW.out]
    exact bodyPost_ret (v := .tuple #[.agg #[.slice a l p, .slice a' l' p', .slice ia il ic], .agg #[.int .i64 3, .int .i64 0]]) (results_qdo rfl rfl rfl R1 R2) rfl (givesQ_err EQ.out hD R3)
  · obtain ⟨k, rfl⟩ := Int.eq_ofNat_of_zero_le (show 0 ≤ it by omega)
    have hi0' : decide ((k : Int) < 0) = false := decide_eq_false hi0
    by_cases hk : k < il
    · have hil' : decide ((il : Int) ≤ (k : Int)) = false := decide_eq_false (by omega)
      have hki : (k : Int) < (il : Int) := by omega
      have Hkd : Hid (k < d.items.length) := by show _ < _; rw [Hil.out]; exact hk
      obtain ⟨g, rfl, hgB, hgl⟩ := row_form hO (by omega)
      rw [Hs1.out] at hgB
      obtain ⟨s0, s1, s2⟩ := itemCells_at d.items k Hkd.out
      obtain ⟨us1, HU⟩ : ∃ u, Hid ((itemAt d.items k).user = u) := ⟨_, rfl⟩
      obtain ⟨t, htr, htn, _⟩ := hinv.may k Hkd.out
      have Htr : Hid ((itemAt d.items k).tran = (t : Int)) := htr
      rw [htr] at s1
      rw [HU.out] at s0
      have htl : t < tl := by rw [← Htl.out]; exact htn
      have hti : (t : Int) < (tl : Int) := by omega
      clear htr htn hgl
      obtain ⟨ob, HO⟩ : ∃ b, Hid ((itemAt d.items k).opn = b) := ⟨_, rfl⟩
      rw [HO.out] at s2
      cases ob
      · have t2 : w3.cell? ⟨g, k * 3 + 2, none⟩ = some (.bool false) := (hO.cellAt (k * 3 + 2) (by omega)).trans s2
        have EQ : Hid (deskDo n roles d ⟨3, us, tr, (k : Int), hd⟩ = (d, ⟨3, 0⟩)) := qd_err (de_item_none (by decide) (.inr (.inr HO.out))) (by decide)
        go_wp2_with fail
        refine (qno_any 3 (w.heap.size + 1) a a' ia l p l' p' il ic w3 (by exact hQ.desk)).mono ?_
        rintro e w9 ⟨rfl, b9⟩
        replace c0 := below_then c0 b9
        replace hQ := hQ.below b9
        obtain ⟨⟨r0, r1, r2⟩, ⟨f0, f1, f2⟩, ⟨a0, a1⟩, ⟨g0, g1⟩⟩ := hQ.res
        obtain ⟨W, HW⟩ : ∃ W, Hid (((((w9.setCell ⟨w.heap.size + 1 + 1 + 1, 0, none⟩ (.slice a l p)).setCell ⟨w.heap.size + 1 + 1 + 1, 1, none⟩ (.slice a' l' p')).setCell ⟨w.heap.size + 1 + 1 + 1, 2, none⟩ (.slice ia il ic)).setCell ⟨w.heap.size + 1 + 1 + 1 + 1, 0, none⟩ (.int .i64 3)).setCell ⟨w.heap.size + 1 + 1 + 1 + 1, 1, none⟩ (.int .i64 0) = W) := ⟨_, rfl⟩
        obtain ⟨R1, R2, R3, R4, R5⟩ := hQ.fill c0 (.slice a l p) (.slice a' l' p') (.slice ia il ic) (3) (0) HW.out
        clear hQ hO hP c0 b9
        go_wp2
        rw [HW.out]
        exact bodyPost_ret (v := .tuple #[.agg #[.slice a l p, .slice a' l' p', .slice ia il ic], .agg #[.int .i64 3, .int .i64 0]]) (results_qdo rfl rfl rfl R1 R2) rfl (givesQ_err EQ.out hD R3)
      · have U : True := trivial
        have t0 : w3.cell? ⟨g, k * 3, none⟩ = some (.int .i64 us1) := (hO.cellAt (k * 3) (by omega)).trans s0
        have t1 : w3.cell? ⟨g, k * 3 + 1, none⟩ = some (.int .i64 (t : Int)) := (hO.cellAt (k * 3 + 1) (by omega)).trans s1
        have t2 : w3.cell? ⟨g, k * 3 + 2, none⟩ = some (.bool true) := (hO.cellAt (k * 3 + 2) (by omega)).trans s2
        have e0 := hO.frozenAt (k * 3)
        have e2 := hO.frozenAt (k * 3 + 2)
        by_cases hu : us1 = us
        · have HU2 : Hid ((itemAt d.items k).user = us) := HU.out.trans hu
          rw [hu] at s0 t0
          clear hu HU us1
          go_wp2_with fail
          go_quiet (fail)
          have bq := below_drewN (Below.refl w3.heap.size w3) nq
          obtain ⟨wq, Hwq⟩ : ∃ v, Hid (w3.drewN nq = v) := ⟨_, rfl⟩
          rw [Hwq.out] at bq ⊢
          clear Hwq t0 t1 t2 e0 e2 p0 p1 g0 g1
          clear n0 n1 d0 d1 d2 o0 o1 o2 o3 o4
          replace c0 := below_then c0 bq
          replace hQ := hQ.below bq
          replace hP := hP.below bq
          replace hO := own_trans hO bq
          replace Hge : Hid (w1.heap.size ≤ wq.heap.size) := Nat.le_trans Hge.out bq.size
          clear bq
          obtain ⟨⟨n0, n1⟩, ⟨d0, d1, d2⟩, ⟨o0, o1, o2, o3, o4⟩⟩ := hQ.cells
          simp only at o0 o1 o2 o3 o4
          obtain ⟨p0, p1, g0, g1⟩ := case_op hP
          have t0 : wq.cell? ⟨g, k * 3, none⟩ = some (.int .i64 us) := (hO.cellAt (k * 3) (by omega)).trans s0
          have t1 : wq.cell? ⟨g, k * 3 + 1, none⟩ = some (.int .i64 (t : Int)) := (hO.cellAt (k * 3 + 1) (by omega)).trans s1
          have t2 : wq.cell? ⟨g, k * 3 + 2, none⟩ = some (.bool true) := (hO.cellAt (k * 3 + 2) (by omega)).trans s2
          have e0 := hO.frozenAt (k * 3)
          have e2 := hO.frozenAt (k * 3 + 2)
          have EK : Hid (deskErr n roles d ⟨3, us, tr, (k : Int), hd⟩ = 0) := de_item_ok (by decide) Hkd.out HO.out HU2.out
          have Hni : Hid (newItems d ⟨3, us, tr, (k : Int), hd⟩ = (d.items.set k ⟨us, (t : Int), false⟩)) := by show _ = _; rw [show newItems d ⟨3, us, tr, (k : Int), hd⟩ = d.items.set k ⟨(itemAt d.items k).user, (itemAt d.items k).tran, false⟩ from rfl, HU2.out, Htr.out]
          have Hcs : Hid (caseOp d ⟨3, us, tr, (k : Int), hd⟩ = (4, (t : Int))) := by show _ = _; rw [show caseOp d ⟨3, us, tr, (k : Int), hd⟩ = (4, (itemAt d.items k).tran) from rfl, Htr.out]
          have HIC : Hid ((itemCells d.items).set (k * 3 + 2) (.bool false) = itemCells (d.items.set k ⟨us, (t : Int), false⟩)) := by show _ = _; rw [itemCells_open _ _ _ Hkd.out, HU2.out, Htr.out]
          go_upto_region 29 with fail
          obtain ⟨w6, Hw6⟩ : ∃ v, Hid (((wq.setCell ⟨w.heap.size + 1 + 1 + 1 + 1 + 1, 0, none⟩ (.int .i64 3)).setCell ⟨w.heap.size + 1 + 1 + 1 + 1 + 1, 1, none⟩ (.int .i64 (t : Int))) = v) := ⟨_, rfl⟩
          replace hQ := hQ.keep (B := w.heap.size + 1 + 1 + 1 + 1 + 1) (by omega) (fun kk hkk => Below.heap_setCell _ ⟨w.heap.size + 1 + 1 + 1 + 1 + 1, 0, none⟩ (.int .i64 3) kk (by show kk ≠ w.heap.size + 1 + 1 + 1 + 1 + 1; omega))
          replace c0 := c0.setCell (p := ⟨w.heap.size + 1 + 1 + 1 + 1 + 1, 0, none⟩) (by show w.heap.size ≤ w.heap.size + 1 + 1 + 1 + 1 + 1; omega) (.int .i64 3)
          replace hP := hP.put 0 (.int .i64 3)
          replace hO := ownsRow_setCell_below hO (a := ⟨w.heap.size + 1 + 1 + 1 + 1 + 1, 0, none⟩) (by show w.heap.size + 1 + 1 + 1 + 1 + 1 < w1.heap.size; rw [Hs1.out]; omega) (.int .i64 3)
          replace hQ := hQ.keep (B := w.heap.size + 1 + 1 + 1 + 1 + 1) (by omega) (fun kk hkk => Below.heap_setCell _ ⟨w.heap.size + 1 + 1 + 1 + 1 + 1, 1, none⟩ (.int .i64 (t : Int)) kk (by show kk ≠ w.heap.size + 1 + 1 + 1 + 1 + 1; omega))
          replace c0 := c0.setCell (p := ⟨w.heap.size + 1 + 1 + 1 + 1 + 1, 1, none⟩) (by show w.heap.size ≤ w.heap.size + 1 + 1 + 1 + 1 + 1; omega) (.int .i64 (t : Int))
          replace hP := hP.put 1 (.int .i64 (t : Int))
          replace hO := ownsRow_setCell_below hO (a := ⟨w.heap.size + 1 + 1 + 1 + 1 + 1, 1, none⟩) (by show w.heap.size + 1 + 1 + 1 + 1 + 1 < w1.heap.size; rw [Hs1.out]; omega) (.int .i64 (t : Int))
          replace Hge : Hid (w1.heap.size ≤ (((wq.setCell ⟨w.heap.size + 1 + 1 + 1 + 1 + 1, 0, none⟩ (.int .i64 3)).setCell ⟨w.heap.size + 1 + 1 + 1 + 1 + 1, 1, none⟩ (.int .i64 (t : Int)))).heap.size) := by show _ ≤ _; simp only [World.setCell, Array.size_modify]; exact Hge.out
          rw [Hw6.out] at hQ c0 hP hO Hge
          rw [Hw6.out]
          clear Hw6 t0 t1 t2 e0 e2 p0 p1 g0 g1
          clear n0 n1 d0 d1 d2 o0 o1 o2 o3 o4
          obtain ⟨⟨n0, n1⟩, ⟨d0, d1, d2⟩, ⟨o0, o1, o2, o3, o4⟩⟩ := hQ.cells
          simp only at o0 o1 o2 o3 o4
          obtain ⟨p0, p1, g0, g1⟩ := case_op hP
          have t0 : w6.cell? ⟨g, k * 3, none⟩ = some (.int .i64 us) := (hO.cellAt (k * 3) (by omega)).trans s0
          have t1 : w6.cell? ⟨g, k * 3 + 1, none⟩ = some (.int .i64 (t : Int)) := (hO.cellAt (k * 3 + 1) (by omega)).trans s1
          have t2 : w6.cell? ⟨g, k * 3 + 2, none⟩ = some (.bool true) := (hO.cellAt (k * 3 + 2) (by omega)).trans s2
          have e0 := hO.frozenAt (k * 3)
          have e2 := hO.frozenAt (k * 3 + 2)
          go_upto_region 31 with fail
          obtain ⟨w7, Hw7⟩ : ∃ v, Hid ((w6.setCell ⟨w.heap.size + 1 + 1 + 1 + 1 + 1, 0, none⟩ (.int .i64 4)) = v) := ⟨_, rfl⟩
          replace hQ := hQ.keep (B := w.heap.size + 1 + 1 + 1 + 1 + 1) (by omega) (fun kk hkk => Below.heap_setCell _ ⟨w.heap.size + 1 + 1 + 1 + 1 + 1, 0, none⟩ (.int .i64 4) kk (by show kk ≠ w.heap.size + 1 + 1 + 1 + 1 + 1; omega))
          replace c0 := c0.setCell (p := ⟨w.heap.size + 1 + 1 + 1 + 1 + 1, 0, none⟩) (by show w.heap.size ≤ w.heap.size + 1 + 1 + 1 + 1 + 1; omega) (.int .i64 4)
          replace hP := hP.put 0 (.int .i64 4)
          replace hO := ownsRow_setCell_below hO (a := ⟨w.heap.size + 1 + 1 + 1 + 1 + 1, 0, none⟩) (by show w.heap.size + 1 + 1 + 1 + 1 + 1 < w1.heap.size; rw [Hs1.out]; omega) (.int .i64 4)
          replace Hge : Hid (w1.heap.size ≤ ((w6.setCell ⟨w.heap.size + 1 + 1 + 1 + 1 + 1, 0, none⟩ (.int .i64 4))).heap.size) := by show _ ≤ _; simp only [World.setCell, Array.size_modify]; exact Hge.out
          rw [Hw7.out] at hQ c0 hP hO Hge
          rw [Hw7.out]
          clear Hw7 t0 t1 t2 e0 e2 p0 p1 g0 g1
          clear n0 n1 d0 d1 d2 o0 o1 o2 o3 o4
          obtain ⟨⟨n0, n1⟩, ⟨d0, d1, d2⟩, ⟨o0, o1, o2, o3, o4⟩⟩ := hQ.cells
          simp only at o0 o1 o2 o3 o4
          obtain ⟨p0, p1, g0, g1⟩ := case_op hP
          have t0 : w7.cell? ⟨g, k * 3, none⟩ = some (.int .i64 us) := (hO.cellAt (k * 3) (by omega)).trans s0
          have t1 : w7.cell? ⟨g, k * 3 + 1, none⟩ = some (.int .i64 (t : Int)) := (hO.cellAt (k * 3 + 1) (by omega)).trans s1
          have t2 : w7.cell? ⟨g, k * 3 + 2, none⟩ = some (.bool true) := (hO.cellAt (k * 3 + 2) (by omega)).trans s2
          have e0 := hO.frozenAt (k * 3)
          have e2 := hO.frozenAt (k * 3 + 2)
          go_upto_region 32 with fail
          obtain ⟨w8, Hw8⟩ : ∃ v, Hid ((w7.setCell ⟨g, k * 3 + 2, none⟩ (.bool false)) = v) := ⟨_, rfl⟩
          replace hQ := hQ.keep (B := w.heap.size + 1 + 1 + 1 + 1 + 1) (by omega) (fun kk hkk => Below.heap_setCell _ ⟨g, k * 3 + 2, none⟩ (.bool false) kk (by show kk ≠ g; omega))
          replace c0 := c0.setCell (p := ⟨g, k * 3 + 2, none⟩) (by show w.heap.size ≤ g; omega) (.bool false)
          replace hP := hP.set (p := ⟨g, k * 3 + 2, none⟩) (by show g ≠ w.heap.size + 1 + 1 + 1 + 1 + 1; omega) (.bool false)
          replace hO := ownsRow_put hO (k * 3 + 2) (.bool false)
          replace Hge : Hid (w1.heap.size ≤ ((w7.setCell ⟨g, k * 3 + 2, none⟩ (.bool false))).heap.size) := by show _ ≤ _; simp only [World.setCell, Array.size_modify]; exact Hge.out
          rw [Hw8.out] at hQ c0 hP hO Hge
          rw [Hw8.out]
          clear Hw8 t0 t1 t2 e0 e2 p0 p1 g0 g1
          clear n0 n1 d0 d1 d2 o0 o1 o2 o3 o4
          rw [HIC.out] at hO
          obtain ⟨oa, Hoa⟩ : ∃ a, Hid ((some ⟨g, 0, none⟩ : Option Addr) = a) := ⟨_, rfl⟩
          rw [Hoa.out] at hO ⊢
          clear Hoa
          obtain ⟨⟨n0, n1⟩, ⟨d0, d1, d2⟩, ⟨o0, o1, o2, o3, o4⟩⟩ := hQ.cells
          simp only at o0 o1 o2 o3 o4
          obtain ⟨p0, p1, g0, g1⟩ := case_op hP
          go_wp2_with fail
          refine (pdo_own _ _ n d.case 4 (t : Int) w8 (by exact ⟨_, rfl, hT.below c0⟩) (by exact ⟨_, _, _, _, _, _, rfl, h1.below c0, h2.below c0⟩) hsm).mono ?_
          rintro e w4 ⟨rv, rfl, hC, hCF, b⟩
          obtain ⟨za, zl, zc, za2, zl2, zc2, rfl, hZ, hZ2⟩ := hC
          obtain ⟨hf1, hf2⟩ := hCF.parts
          replace hf1 := hf1.mono Hge.out
          replace hf2 := hf2.mono Hge.out
          clear n0 n1 d0 d1 d2 o0 o1 o2 o3 o4 p0 p1 g0 g1 hP hCF
          replace c0 := below_then c0 b
          replace hQ := hQ.below b
          replace hO := own_trans hO b
          replace Hge : Hid (w1.heap.size ≤ w4.heap.size) := Nat.le_trans Hge.out b.size
          clear b
          have bn := below_new w4 (.cells #[.slice za zl zc, .slice za2 zl2 zc2] 29)
          have hbx := caseBox_new w4 za za2 zl zc zl2 zc2
          obtain ⟨Bx, HBx⟩ : ∃ B, Hid (w4.heap.size = B) := ⟨_, rfl⟩
          rw [HBx.out] at hbx
          obtain ⟨w5, Hw5⟩ : ∃ v, Hid (w4.alloc (.cells #[.slice za zl zc, .slice za2 zl2 zc2] 29) = v) := ⟨_, rfl⟩
          rw [Hw5.out] at bn hbx
          go_upto_region 33 with fail
          rw [Hw5.out, HBx.out]
          clear Hw5 HBx
          replace c0 := below_then c0 bn
          replace hQ := hQ.below bn
          replace hO := own_trans hO bn
          replace Hge : Hid (w1.heap.size ≤ w5.heap.size) := Nat.le_trans Hge.out bn.size
          replace hZ := hZ.below bn
          replace hZ2 := hZ2.below bn
          clear bn
          obtain ⟨x0, x1, _, _, _⟩ := hbx.facts
          obtain ⟨E, HE⟩ : ∃ E, Hid ((doC n d.case 4 (t : Int)).2 = E) := ⟨_, rfl⟩
          rw [HE.out]
          by_cases hE : E = 0
          · subst hE
            have EQ : Hid (deskDo n roles d ⟨3, us, tr, (k : Int), hd⟩ = (⟨(doC n d.case 4 (t : Int)).1, (d.items.set k ⟨us, (t : Int), false⟩)⟩, ⟨0, (k : Int)⟩)) := by show _ = _; rw [qd_done EK.out (by simp) Hcs.out HE.out]; rw [Hni.out]; rfl
            obtain ⟨CC, HCC⟩ : ∃ C, Hid ((doC n d.case 4 (t : Int)).1 = C) := ⟨_, rfl⟩
            rw [HCC.out] at EQ hZ hZ2
            clear hinv HCC
            obtain ⟨⟨r0, r1, r2⟩, ⟨f0, f1, f2⟩, ⟨a0, a1⟩, ⟨g0, g1⟩⟩ := hQ.res
            obtain ⟨W, HW⟩ : ∃ W, Hid (((((w5.setCell ⟨w.heap.size + 1 + 1 + 1, 0, none⟩ (.slice za zl zc)).setCell ⟨w.heap.size + 1 + 1 + 1, 1, none⟩ (.slice za2 zl2 zc2)).setCell ⟨w.heap.size + 1 + 1 + 1, 2, none⟩ (.slice oa il oc)).setCell ⟨w.heap.size + 1 + 1 + 1 + 1, 0, none⟩ (.int .i64 0)).setCell ⟨w.heap.size + 1 + 1 + 1 + 1, 1, none⟩ (.int .i64 (k : Int)) = W) := ⟨_, rfl⟩
            obtain ⟨R1, R2, R3, R4, R5⟩ := hQ.fill c0 (.slice za zl zc) (.slice za2 zl2 zc2) (.slice oa il oc) (0) ((k : Int)) HW.out
            have hZ' := hZ.toLow hf1 (Nat.le_of_eq R4.symm) (fun k _ hk => R5 k (by have := Hs1.out; omega))
            have hZ2' := hZ2.toLow hf2 (Nat.le_of_eq R4.symm) (fun k _ hk => R5 k (by have := Hs1.out; omega))
            have hO' := own_to hO (Nat.le_of_eq R4.symm) (fun k hk => R5 k (by have := Hs1.out; omega))
            have HgB : Hid (w.heap.size ≤ w1.heap.size) := by show _ ≤ _; rw [Hs1.out]; omega
            have ho : ∀ g, g < w.heap.size → DeskOff g (.agg #[.slice a l p, .slice a' l' p', .slice ia il ic]) → SlOff g (.slice za zl zc) ∧ SlOff g (.slice za2 zl2 zc2) := fun g hg _ => ⟨hf1.off (by have := HgB.out; omega), hf2.off (by have := HgB.out; omega)⟩
            have Hle : Hid (((d.items.set k ⟨us, (t : Int), false⟩) : List ItemL).length = il) := (by show _ = _; simp [Hil.out])
            have Hmx : Hid (il ≤ 5864062014805) := by show _ ≤ _; have := Hlen.out; omega
            clear hQ hO c0 hZ hZ2 hf1 hf2
            go_wp2
            rw [HW.out]
            exact bodyPost_ret (v := .tuple #[.agg #[.slice za zl zc, .slice za2 zl2 zc2, .slice oa il oc], .agg #[.int .i64 0, .int .i64 (k : Int)]]) (results_qdo rfl rfl rfl R1 R2) rfl (givesQ_ok EQ.out hZ' hZ2' Hle.out hO' Hmx.out HgB.out ho R3)
          · have hE' : (E == 0) = false := by simpa using hE
            have hE2 : (E != 0) = true := by simpa using hE
            have EQ : Hid (deskDo n roles d ⟨3, us, tr, (k : Int), hd⟩ = (d, ⟨E, 0⟩)) := qd_case EK.out (by simp) Hcs.out HE.out hE
            have hP : True := trivial
            go_wp2_with fail
            refine (qno_any E (w.heap.size + 1) a a' ia l p l' p' il ic w5 (by exact hQ.desk)).mono ?_
            rintro e w9 ⟨rfl, b9⟩
            replace c0 := below_then c0 b9
            replace hQ := hQ.below b9
            obtain ⟨⟨r0, r1, r2⟩, ⟨f0, f1, f2⟩, ⟨a0, a1⟩, ⟨g0, g1⟩⟩ := hQ.res
            obtain ⟨W, HW⟩ : ∃ W, Hid (((((w9.setCell ⟨w.heap.size + 1 + 1 + 1, 0, none⟩ (.slice a l p)).setCell ⟨w.heap.size + 1 + 1 + 1, 1, none⟩ (.slice a' l' p')).setCell ⟨w.heap.size + 1 + 1 + 1, 2, none⟩ (.slice ia il ic)).setCell ⟨w.heap.size + 1 + 1 + 1 + 1, 0, none⟩ (.int .i64 E)).setCell ⟨w.heap.size + 1 + 1 + 1 + 1, 1, none⟩ (.int .i64 0) = W) := ⟨_, rfl⟩
            obtain ⟨R1, R2, R3, R4, R5⟩ := hQ.fill c0 (.slice a l p) (.slice a' l' p') (.slice ia il ic) (E) (0) HW.out
            clear hQ hO hP c0 b9
            go_wp2
            rw [HW.out]
            exact bodyPost_ret (v := .tuple #[.agg #[.slice a l p, .slice a' l' p', .slice ia il ic], .agg #[.int .i64 E, .int .i64 0]]) (results_qdo rfl rfl rfl R1 R2) rfl (givesQ_err EQ.out hD R3)
        · have hne : (us1 != us) = true := by simpa using hu
          go_wp2_with fail
          go_quiet (fail)
          have bq := below_drewN (Below.refl w3.heap.size w3) nq
          obtain ⟨wq, Hwq⟩ : ∃ v, Hid (w3.drewN nq = v) := ⟨_, rfl⟩
          rw [Hwq.out] at bq ⊢
          clear Hwq t0 t1 t2 e0 e2 p0 p1 g0 g1
          clear n0 n1 d0 d1 d2 o0 o1 o2 o3 o4
          replace c0 := below_then c0 bq
          replace hQ := hQ.below bq
          replace hP := hP.below bq
          replace hO := own_trans hO bq
          replace Hge : Hid (w1.heap.size ≤ wq.heap.size) := Nat.le_trans Hge.out bq.size
          clear bq
          obtain ⟨⟨n0, n1⟩, ⟨d0, d1, d2⟩, ⟨o0, o1, o2, o3, o4⟩⟩ := hQ.cells
          simp only at o0 o1 o2 o3 o4
          have EQ : Hid (deskDo n roles d ⟨3, us, tr, (k : Int), hd⟩ = (d, ⟨7, 0⟩)) := qd_err (de_item_held (by decide) Hkd.out HO.out (by rw [HU.out]; exact hu)) (by decide)
          go_wp2_with fail
          refine (qno_any 7 (w.heap.size + 1) a a' ia l p l' p' il ic wq (by exact hQ.desk)).mono ?_
          rintro e w9 ⟨rfl, b9⟩
          replace c0 := below_then c0 b9
          replace hQ := hQ.below b9
          obtain ⟨⟨r0, r1, r2⟩, ⟨f0, f1, f2⟩, ⟨a0, a1⟩, ⟨g0, g1⟩⟩ := hQ.res
          obtain ⟨W, HW⟩ : ∃ W, Hid (((((w9.setCell ⟨w.heap.size + 1 + 1 + 1, 0, none⟩ (.slice a l p)).setCell ⟨w.heap.size + 1 + 1 + 1, 1, none⟩ (.slice a' l' p')).setCell ⟨w.heap.size + 1 + 1 + 1, 2, none⟩ (.slice ia il ic)).setCell ⟨w.heap.size + 1 + 1 + 1 + 1, 0, none⟩ (.int .i64 7)).setCell ⟨w.heap.size + 1 + 1 + 1 + 1, 1, none⟩ (.int .i64 0) = W) := ⟨_, rfl⟩
          obtain ⟨R1, R2, R3, R4, R5⟩ := hQ.fill c0 (.slice a l p) (.slice a' l' p') (.slice ia il ic) (7) (0) HW.out
          clear hQ hO hP c0 b9
          go_wp2
          rw [HW.out]
          exact bodyPost_ret (v := .tuple #[.agg #[.slice a l p, .slice a' l' p', .slice ia il ic], .agg #[.int .i64 7, .int .i64 0]]) (results_qdo rfl rfl rfl R1 R2) rfl (givesQ_err EQ.out hD R3)
    · have hil' : decide ((il : Int) ≤ (k : Int)) = true := decide_eq_true (by omega)
      have EQ : Hid (deskDo n roles d ⟨3, us, tr, (k : Int), hd⟩ = (d, ⟨3, 0⟩)) := qd_err (de_item_none (by decide) (.inr (.inl (by rw [Hil.out]; omega)))) (by decide)
      go_wp2_with fail
      refine (qno_any 3 (w.heap.size + 1) a a' ia l p l' p' il ic w3 (by exact hQ.desk)).mono ?_
      rintro e w9 ⟨rfl, b9⟩
      replace c0 := below_then c0 b9
      replace hQ := hQ.below b9
      obtain ⟨⟨r0, r1, r2⟩, ⟨f0, f1, f2⟩, ⟨a0, a1⟩, ⟨g0, g1⟩⟩ := hQ.res
      obtain ⟨W, HW⟩ : ∃ W, Hid (((((w9.setCell ⟨w.heap.size + 1 + 1 + 1, 0, none⟩ (.slice a l p)).setCell ⟨w.heap.size + 1 + 1 + 1, 1, none⟩ (.slice a' l' p')).setCell ⟨w.heap.size + 1 + 1 + 1, 2, none⟩ (.slice ia il ic)).setCell ⟨w.heap.size + 1 + 1 + 1 + 1, 0, none⟩ (.int .i64 3)).setCell ⟨w.heap.size + 1 + 1 + 1 + 1, 1, none⟩ (.int .i64 0) = W) := ⟨_, rfl⟩
      obtain ⟨R1, R2, R3, R4, R5⟩ := hQ.fill c0 (.slice a l p) (.slice a' l' p') (.slice ia il ic) (3) (0) HW.out
      clear hQ hO hP c0 b9
      go_wp2
      rw [HW.out]
      exact bodyPost_ret (v := .tuple #[.agg #[.slice a l p, .slice a' l' p', .slice ia il ic], .agg #[.int .i64 3, .int .i64 0]]) (results_qdo rfl rfl rfl R1 R2) rfl (givesQ_err EQ.out hD R3)

end Go.Proofs.Ytaladbcocealnaa

/- The document's own desk: one thing done, given on. (Made by tools/gen_qdo.py.) -/
namespace Go.Proofs.Ytaladbcocealnaa
open Go.RowKit
set_option linter.unusedVariables false
set_option linter.unusedSimpArgs false
set_option maxRecDepth 4000

set_option maxHeartbeats 8000000 in
theorem qdo_kind4 (v r dv : Value) (n : NetL) (roles : List (List Int)) (d : DeskL) (us tr it hd : Int) (w : World) (hv : Net w v n) (hr : Lists w r roles) (hD : DeskV w dv d) (hsm : SmallNet n) (hinv : DeskInv n roles d) (Hlen : Hid (d.items.length + 1 ≤ 5864062014805)) :
    Calls Try.prog 24 #[v, r, dv, .agg #[.int .i64 4, .int .i64 us, .int .i64 tr, .int .i64 it, .int .i64 hd]] w fun e w' => GivesQ w dv (deskDo n roles d ⟨4, us, tr, it, hd⟩) e w' := by
  obtain ⟨tv, rfl, hT⟩ := hv
  obtain ⟨ta, tl, tc, rfl, htl, htm, hts, _⟩ := id hT
  have Htl : Hid (n.trans.length = tl) := htl
  clear htl htm hts
  obtain ⟨a, l, p, a', l', p', ia, ic, rfl, h1, h2, h3⟩ := id hD
  obtain ⟨il, Hil⟩ : ∃ n, Hid (d.items.length = n) := ⟨_, rfl⟩
  have Hcl := items_cells h3
  rw [Hil.out] at h3 Hcl Hlen hD ⊢
  obtain ⟨w0, Hw0, hQ, c0, Hs0⟩ := qdo_boxes w n.places (.slice ta tl tc) (.slice a l p) (.slice a' l' p') (.slice ia il ic) ⟨4, us, tr, it, hd⟩
  have bp := below_new w0 (.cells #[.int .i64 0, .int .i64 tr] 97)
  have hP := cellsAt_new w0 #[.int .i64 0, .int .i64 tr] 97
  rw [Hs0.out] at hP
  obtain ⟨w1, Hw1⟩ : ∃ v, Hid (w0.alloc (.cells #[.int .i64 0, .int .i64 tr] 97) = v) := ⟨_, rfl⟩
  have Hs1 : Hid (w1.heap.size = w.heap.size + 1 + 1 + 1 + 1 + 1 + 1) := by show _ = _; rw [← Hw1.out]; simp [Hs0.out]
  rw [Hw1.out] at bp hP
  have bl := below_new w1 (.cells #[] 78)
  have hL := lit_row w1
  obtain ⟨w2, Hw2⟩ : ∃ v, Hid (w1.alloc (.cells #[] 78) = v) := ⟨_, rfl⟩
  rw [Hw2.out] at bl hL
  obtain ⟨⟨n0, n1⟩, ⟨d0, d1, d2⟩, ⟨o0, o1, o2, o3, o4⟩⟩ := hQ.cells
  simp only at o0 o1 o2 o3 o4
  go_enter Try.func24, Try.ntmps24
  go_upto_region 1 with fail
  rw [Hw0.out]
  go_upto_region 3 with fail
  rw [Hs0.out, Hw1.out]
  clear Hw0 Hw1
  clear n0 n1 d0 d1 d2 o0 o1 o2 o3 o4
  replace c0 := below_then c0 bp
  replace hQ := hQ.below bp
  obtain ⟨⟨n0, n1⟩, ⟨d0, d1, d2⟩, ⟨o0, o1, o2, o3, o4⟩⟩ := hQ.cells
  simp only at o0 o1 o2 o3 o4
  have q2 : (w1.alloc (.cells #[] 78)).cell? ⟨w.heap.size + 1, 2, none⟩ = some (.slice ia il ic) := by rw [Hw2.out]; exact (hQ.below bl).desk.cell 2
  have HL1 : Hid (0 + il ≤ maxLen) := by show _ ≤ _; have := Hlen.out; unfold maxLen; omega
  have HL2 : Hid ((0 + il) * 24 ≤ 140737488355328) := by show _ ≤ _; have := Hlen.out; omega
  have hC2 := (Hcl.below (below_then c0 bl) : CellsV w2 _ _ _ _ _)
  go_upto_region 19 with (rw [Hw2.out]; at_builtin; refine wp_append_cells elem_item rfl _ _ rfl w1.heap.size w1 w2 (.slice (some ⟨w1.heap.size, 0, none⟩) 0 0) (.slice ia il ic) 0 il 5864062014805 [] (itemCells d.items) hL rfl rfl hC2 HL1.out HL2.out ?_; intro v' w3 hO0 hgr; clear hgr; rw [Nat.zero_add, List.nil_append] at hO0; obtain ⟨oa, oc, rfl⟩ := hO0.slice; have bw := hO0.2.1; have Hge : Hid (w1.heap.size ≤ w3.heap.size) := hO0.2.2; have hO := hO0.1; replace c0 := below_then c0 bw; replace hQ := hQ.below bw; replace hP := hP.below bw; clear n0 n1 d0 d1 d2 o0 o1 o2 o3 o4 q2 hL hC2 bl bp bw hO0; obtain ⟨⟨n0, n1⟩, ⟨d0, d1, d2⟩, ⟨o0, o1, o2, o3, o4⟩⟩ := hQ.cells; simp only at o0 o1 o2 o3 o4; obtain ⟨p0, p1, g0, g1⟩ := case_op hP)
  by_cases hi0 : it < 0
  · have hi0' : decide (it < 0) = true := decide_eq_true hi0
    have EQ : Hid (deskDo n roles d ⟨4, us, tr, it, hd⟩ = (d, ⟨3, 0⟩)) := qd_err (de_item_none (by decide) (.inl hi0)) (by decide)
    go_wp2_with fail
    refine (qno_any 3 (w.heap.size + 1) a a' ia l p l' p' il ic w3 (by exact hQ.desk)).mono ?_
    rintro e w9 ⟨rfl, b9⟩
    replace c0 := below_then c0 b9
    replace hQ := hQ.below b9
    obtain ⟨⟨r0, r1, r2⟩, ⟨f0, f1, f2⟩, ⟨a0, a1⟩, ⟨g0, g1⟩⟩ := hQ.res
    obtain ⟨W, HW⟩ : ∃ W, Hid (((((w9.setCell ⟨w.heap.size + 1 + 1 + 1, 0, none⟩ (.slice a l p)).setCell ⟨w.heap.size + 1 + 1 + 1, 1, none⟩ (.slice a' l' p')).setCell ⟨w.heap.size + 1 + 1 + 1, 2, none⟩ (.slice ia il ic)).setCell ⟨w.heap.size + 1 + 1 + 1 + 1, 0, none⟩ (.int .i64 3)).setCell ⟨w.heap.size + 1 + 1 + 1 + 1, 1, none⟩ (.int .i64 0) = W) := ⟨_, rfl⟩
    obtain ⟨R1, R2, R3, R4, R5⟩ := hQ.fill c0 (.slice a l p) (.slice a' l' p') (.slice ia il ic) (3) (0) HW.out
    clear hQ hO hP c0 b9
    go_wp2
    rw [HW.out]
    exact bodyPost_ret (v := .tuple #[.agg #[.slice a l p, .slice a' l' p', .slice ia il ic], .agg #[.int .i64 3, .int .i64 0]]) (results_qdo rfl rfl rfl R1 R2) rfl (givesQ_err EQ.out hD R3)
  · obtain ⟨k, rfl⟩ := Int.eq_ofNat_of_zero_le (show 0 ≤ it by omega)
    have hi0' : decide ((k : Int) < 0) = false := decide_eq_false hi0
    by_cases hk : k < il
    · have hil' : decide ((il : Int) ≤ (k : Int)) = false := decide_eq_false (by omega)
      have hki : (k : Int) < (il : Int) := by omega
      have Hkd : Hid (k < d.items.length) := by show _ < _; rw [Hil.out]; exact hk
      obtain ⟨g, rfl, hgB, hgl⟩ := row_form hO (by omega)
      rw [Hs1.out] at hgB
      obtain ⟨s0, s1, s2⟩ := itemCells_at d.items k Hkd.out
      obtain ⟨us1, HU⟩ : ∃ u, Hid ((itemAt d.items k).user = u) := ⟨_, rfl⟩
      obtain ⟨t, htr, htn, _⟩ := hinv.may k Hkd.out
      have Htr : Hid ((itemAt d.items k).tran = (t : Int)) := htr
      rw [htr] at s1
      rw [HU.out] at s0
      have htl : t < tl := by rw [← Htl.out]; exact htn
      have hti : (t : Int) < (tl : Int) := by omega
      clear htr htn hgl
      obtain ⟨ob, HO⟩ : ∃ b, Hid ((itemAt d.items k).opn = b) := ⟨_, rfl⟩
      rw [HO.out] at s2
      cases ob
      · have t2 : w3.cell? ⟨g, k * 3 + 2, none⟩ = some (.bool false) := (hO.cellAt (k * 3 + 2) (by omega)).trans s2
        have EQ : Hid (deskDo n roles d ⟨4, us, tr, (k : Int), hd⟩ = (d, ⟨3, 0⟩)) := qd_err (de_item_none (by decide) (.inr (.inr HO.out))) (by decide)
        go_wp2_with fail
        refine (qno_any 3 (w.heap.size + 1) a a' ia l p l' p' il ic w3 (by exact hQ.desk)).mono ?_
        rintro e w9 ⟨rfl, b9⟩
        replace c0 := below_then c0 b9
        replace hQ := hQ.below b9
        obtain ⟨⟨r0, r1, r2⟩, ⟨f0, f1, f2⟩, ⟨a0, a1⟩, ⟨g0, g1⟩⟩ := hQ.res
        obtain ⟨W, HW⟩ : ∃ W, Hid (((((w9.setCell ⟨w.heap.size + 1 + 1 + 1, 0, none⟩ (.slice a l p)).setCell ⟨w.heap.size + 1 + 1 + 1, 1, none⟩ (.slice a' l' p')).setCell ⟨w.heap.size + 1 + 1 + 1, 2, none⟩ (.slice ia il ic)).setCell ⟨w.heap.size + 1 + 1 + 1 + 1, 0, none⟩ (.int .i64 3)).setCell ⟨w.heap.size + 1 + 1 + 1 + 1, 1, none⟩ (.int .i64 0) = W) := ⟨_, rfl⟩
        obtain ⟨R1, R2, R3, R4, R5⟩ := hQ.fill c0 (.slice a l p) (.slice a' l' p') (.slice ia il ic) (3) (0) HW.out
        clear hQ hO hP c0 b9
        go_wp2
        rw [HW.out]
        exact bodyPost_ret (v := .tuple #[.agg #[.slice a l p, .slice a' l' p', .slice ia il ic], .agg #[.int .i64 3, .int .i64 0]]) (results_qdo rfl rfl rfl R1 R2) rfl (givesQ_err EQ.out hD R3)
      · have U : True := trivial
        have t0 : w3.cell? ⟨g, k * 3, none⟩ = some (.int .i64 us1) := (hO.cellAt (k * 3) (by omega)).trans s0
        have t1 : w3.cell? ⟨g, k * 3 + 1, none⟩ = some (.int .i64 (t : Int)) := (hO.cellAt (k * 3 + 1) (by omega)).trans s1
        have t2 : w3.cell? ⟨g, k * 3 + 2, none⟩ = some (.bool true) := (hO.cellAt (k * 3 + 2) (by omega)).trans s2
        have e0 := hO.frozenAt (k * 3)
        have e2 := hO.frozenAt (k * 3 + 2)
        by_cases hu : us1 = us
        · have HU2 : Hid ((itemAt d.items k).user = us) := HU.out.trans hu
          rw [hu] at s0 t0
          clear hu HU us1
          go_wp2_with fail
          go_quiet (fail)
          have bq := below_drewN (Below.refl w3.heap.size w3) nq
          obtain ⟨wq, Hwq⟩ : ∃ v, Hid (w3.drewN nq = v) := ⟨_, rfl⟩
          rw [Hwq.out] at bq ⊢
          clear Hwq t0 t1 t2 e0 e2 p0 p1 g0 g1
          clear n0 n1 d0 d1 d2 o0 o1 o2 o3 o4
          replace c0 := below_then c0 bq
          replace hQ := hQ.below bq
          replace hP := hP.below bq
          replace hO := own_trans hO bq
          replace Hge : Hid (w1.heap.size ≤ wq.heap.size) := Nat.le_trans Hge.out bq.size
          clear bq
          obtain ⟨⟨n0, n1⟩, ⟨d0, d1, d2⟩, ⟨o0, o1, o2, o3, o4⟩⟩ := hQ.cells
          simp only at o0 o1 o2 o3 o4
          obtain ⟨p0, p1, g0, g1⟩ := case_op hP
          have t0 : wq.cell? ⟨g, k * 3, none⟩ = some (.int .i64 us) := (hO.cellAt (k * 3) (by omega)).trans s0
          have t1 : wq.cell? ⟨g, k * 3 + 1, none⟩ = some (.int .i64 (t : Int)) := (hO.cellAt (k * 3 + 1) (by omega)).trans s1
          have t2 : wq.cell? ⟨g, k * 3 + 2, none⟩ = some (.bool true) := (hO.cellAt (k * 3 + 2) (by omega)).trans s2
          have e0 := hO.frozenAt (k * 3)
          have e2 := hO.frozenAt (k * 3 + 2)
          obtain ⟨bt, ot, p1', q1', rfl, hlt, tt, _, _, _, _⟩ := (hT.below c0).at htl
          obtain ⟨L, HL⟩ : ∃ z, Hid ((tranAt n.trans t).label = z) := ⟨_, rfl⟩
          rw [HL.out] at tt
          obtain ⟨mm, HM⟩ : ∃ z, Hid (mayL roles hd L = z) := ⟨_, rfl⟩
          have HRL : Hid (∀ m, Lists (wq.drewN m) r roles) := fun m => hr.below (below_drewN c0 m)
          go_wp2_with fail
          go_quiet ((go_at_call 40; exact Calls.quiet_of_same (qmay_any _ roles hd L _ (by exact HRL.out _))))
          have bq := below_drewN (Below.refl wq.heap.size wq) nq
          obtain ⟨wx, Hwx⟩ : ∃ v, Hid (wq.drewN nq = v) := ⟨_, rfl⟩
          rw [Hwx.out] at bq ⊢
          clear Hwx HRL tt hlt t0 t1 t2 e0 e2 p0 p1 g0 g1
          clear n0 n1 d0 d1 d2 o0 o1 o2 o3 o4
          replace c0 := below_then c0 bq
          replace hQ := hQ.below bq
          replace hP := hP.below bq
          replace hO := own_trans hO bq
          replace Hge : Hid (w1.heap.size ≤ wx.heap.size) := Nat.le_trans Hge.out bq.size
          clear bq
          obtain ⟨⟨n0, n1⟩, ⟨d0, d1, d2⟩, ⟨o0, o1, o2, o3, o4⟩⟩ := hQ.cells
          simp only at o0 o1 o2 o3 o4
          have t0 : wx.cell? ⟨g, k * 3, none⟩ = some (.int .i64 us) := (hO.cellAt (k * 3) (by omega)).trans s0
          have t1 : wx.cell? ⟨g, k * 3 + 1, none⟩ = some (.int .i64 (t : Int)) := (hO.cellAt (k * 3 + 1) (by omega)).trans s1
          have t2 : wx.cell? ⟨g, k * 3 + 2, none⟩ = some (.bool true) := (hO.cellAt (k * 3 + 2) (by omega)).trans s2
          have e0 := hO.frozenAt (k * 3)
          have e2 := hO.frozenAt (k * 3 + 2)
          rw [HM.out]
          cases mm
          · have U : True := trivial
            have EQ : Hid (deskDo n roles d ⟨4, us, tr, (k : Int), hd⟩ = (d, ⟨6, 0⟩)) := qd_err (de_item_role Hkd.out HO.out HU2.out Htr.out (by rw [HL.out]; exact HM.out)) (by decide)
            go_wp2_with fail
            refine (qno_any 6 (w.heap.size + 1) a a' ia l p l' p' il ic wx (by exact hQ.desk)).mono ?_
            rintro e w9 ⟨rfl, b9⟩
            replace c0 := below_then c0 b9
            replace hQ := hQ.below b9
            obtain ⟨⟨r0, r1, r2⟩, ⟨f0, f1, f2⟩, ⟨a0, a1⟩, ⟨g0, g1⟩⟩ := hQ.res
            obtain ⟨W, HW⟩ : ∃ W, Hid (((((w9.setCell ⟨w.heap.size + 1 + 1 + 1, 0, none⟩ (.slice a l p)).setCell ⟨w.heap.size + 1 + 1 + 1, 1, none⟩ (.slice a' l' p')).setCell ⟨w.heap.size + 1 + 1 + 1, 2, none⟩ (.slice ia il ic)).setCell ⟨w.heap.size + 1 + 1 + 1 + 1, 0, none⟩ (.int .i64 6)).setCell ⟨w.heap.size + 1 + 1 + 1 + 1, 1, none⟩ (.int .i64 0) = W) := ⟨_, rfl⟩
            obtain ⟨R1, R2, R3, R4, R5⟩ := hQ.fill c0 (.slice a l p) (.slice a' l' p') (.slice ia il ic) (6) (0) HW.out
            clear hQ hO hP c0 b9
            go_wp2
            rw [HW.out]
            exact bodyPost_ret (v := .tuple #[.agg #[.slice a l p, .slice a' l' p', .slice ia il ic], .agg #[.int .i64 6, .int .i64 0]]) (results_qdo rfl rfl rfl R1 R2) rfl (givesQ_err EQ.out hD R3)
          · have EK : Hid (deskErr n roles d ⟨4, us, tr, (k : Int), hd⟩ = 0) := de_item_give Hkd.out HO.out HU2.out Htr.out (by rw [HL.out]; exact HM.out)
            have Hni : Hid (newItems d ⟨4, us, tr, (k : Int), hd⟩ = (d.items.set k ⟨hd, (t : Int), true⟩)) := by show _ = _; rw [show newItems d ⟨4, us, tr, (k : Int), hd⟩ = d.items.set k ⟨hd, (itemAt d.items k).tran, true⟩ from rfl, Htr.out]
            have HIC : Hid ((itemCells d.items).set (k * 3) (.int .i64 hd) = itemCells (d.items.set k ⟨hd, (t : Int), true⟩)) := by show _ = _; rw [itemCells_user _ _ _ Hkd.out, HO.out, Htr.out]
            have EQ : Hid (deskDo n roles d ⟨4, us, tr, (k : Int), hd⟩ = (⟨d.case, (d.items.set k ⟨hd, (t : Int), true⟩)⟩, ⟨0, (k : Int)⟩)) := by show _ = _; rw [qd_give EK.out rfl, Hni.out]; rfl
            go_upto_region 27 with fail
            obtain ⟨w8, Hw8⟩ : ∃ v, Hid ((wx.setCell ⟨g, k * 3, none⟩ (.int .i64 hd)) = v) := ⟨_, rfl⟩
            replace hQ := hQ.keep (B := w.heap.size + 1 + 1 + 1 + 1 + 1) (by omega) (fun kk hkk => Below.heap_setCell _ ⟨g, k * 3, none⟩ (.int .i64 hd) kk (by show kk ≠ g; omega))
            replace c0 := c0.setCell (p := ⟨g, k * 3, none⟩) (by show w.heap.size ≤ g; omega) (.int .i64 hd)
            replace hP := hP.set (p := ⟨g, k * 3, none⟩) (by show g ≠ w.heap.size + 1 + 1 + 1 + 1 + 1; omega) (.int .i64 hd)
            replace hO := ownsRow_put hO (k * 3) (.int .i64 hd)
            replace Hge : Hid (w1.heap.size ≤ ((wx.setCell ⟨g, k * 3, none⟩ (.int .i64 hd))).heap.size) := by show _ ≤ _; simp only [World.setCell, Array.size_modify]; exact Hge.out
            rw [Hw8.out] at hQ c0 hP hO Hge
            rw [Hw8.out]
            clear Hw8 t0 t1 t2 e0 e2
            clear n0 n1 d0 d1 d2 o0 o1 o2 o3 o4
            rw [HIC.out] at hO
            obtain ⟨⟨n0, n1⟩, ⟨d0, d1, d2⟩, ⟨o0, o1, o2, o3, o4⟩⟩ := hQ.cells
            simp only at o0 o1 o2 o3 o4
            obtain ⟨⟨r0, r1, r2⟩, ⟨f0, f1, f2⟩, ⟨a0, a1⟩, ⟨g0, g1⟩⟩ := hQ.res
            obtain ⟨W, HW⟩ : ∃ W, Hid (((((w8.setCell ⟨w.heap.size + 1 + 1 + 1, 0, none⟩ (.slice a l p)).setCell ⟨w.heap.size + 1 + 1 + 1, 1, none⟩ (.slice a' l' p')).setCell ⟨w.heap.size + 1 + 1 + 1, 2, none⟩ (.slice (some ⟨g, 0, none⟩) il oc)).setCell ⟨w.heap.size + 1 + 1 + 1 + 1, 0, none⟩ (.int .i64 0)).setCell ⟨w.heap.size + 1 + 1 + 1 + 1, 1, none⟩ (.int .i64 (k : Int)) = W) := ⟨_, rfl⟩
            obtain ⟨R1, R2, R3, R4, R5⟩ := hQ.fill c0 (.slice a l p) (.slice a' l' p') (.slice (some ⟨g, 0, none⟩) il oc) (0) ((k : Int)) HW.out
            have hO' := own_to hO (Nat.le_of_eq R4.symm) (fun k hk => R5 k (by have := Hs1.out; omega))
            have HgB : Hid (w.heap.size ≤ w1.heap.size) := by show _ ≤ _; rw [Hs1.out]; omega
            have ho : ∀ g, g < w.heap.size → DeskOff g (.agg #[.slice a l p, .slice a' l' p', .slice ia il ic]) → SlOff g (.slice a l p) ∧ SlOff g (.slice a' l' p') := fun g hg hq => ⟨hq.parts.1, hq.parts.2.1⟩
            have Hle : Hid (((d.items.set k ⟨hd, (t : Int), true⟩) : List ItemL).length = il) := by show _ = _; simp [Hil.out]
            have Hmx : Hid (il ≤ 5864062014805) := by show _ ≤ _; have := Hlen.out; omega
            clear hQ hO c0 hP
            go_wp2
            rw [HW.out]
            exact bodyPost_ret (v := .tuple #[.agg #[.slice a l p, .slice a' l' p', .slice (some ⟨g, 0, none⟩) il oc], .agg #[.int .i64 0, .int .i64 (k : Int)]]) (results_qdo rfl rfl rfl R1 R2) rfl (givesQ_ok EQ.out (h1.below R3) (h2.below R3) Hle.out hO' Hmx.out HgB.out ho R3)
        · have hne : (us1 != us) = true := by simpa using hu
          go_wp2_with fail
          go_quiet (fail)
          have bq := below_drewN (Below.refl w3.heap.size w3) nq
          obtain ⟨wq, Hwq⟩ : ∃ v, Hid (w3.drewN nq = v) := ⟨_, rfl⟩
          rw [Hwq.out] at bq ⊢
          clear Hwq t0 t1 t2 e0 e2 p0 p1 g0 g1
          clear n0 n1 d0 d1 d2 o0 o1 o2 o3 o4
          replace c0 := below_then c0 bq
          replace hQ := hQ.below bq
          replace hP := hP.below bq
          replace hO := own_trans hO bq
          replace Hge : Hid (w1.heap.size ≤ wq.heap.size) := Nat.le_trans Hge.out bq.size
          clear bq
          obtain ⟨⟨n0, n1⟩, ⟨d0, d1, d2⟩, ⟨o0, o1, o2, o3, o4⟩⟩ := hQ.cells
          simp only at o0 o1 o2 o3 o4
          have EQ : Hid (deskDo n roles d ⟨4, us, tr, (k : Int), hd⟩ = (d, ⟨7, 0⟩)) := qd_err (de_item_held (by decide) Hkd.out HO.out (by rw [HU.out]; exact hu)) (by decide)
          go_wp2_with fail
          refine (qno_any 7 (w.heap.size + 1) a a' ia l p l' p' il ic wq (by exact hQ.desk)).mono ?_
          rintro e w9 ⟨rfl, b9⟩
          replace c0 := below_then c0 b9
          replace hQ := hQ.below b9
          obtain ⟨⟨r0, r1, r2⟩, ⟨f0, f1, f2⟩, ⟨a0, a1⟩, ⟨g0, g1⟩⟩ := hQ.res
          obtain ⟨W, HW⟩ : ∃ W, Hid (((((w9.setCell ⟨w.heap.size + 1 + 1 + 1, 0, none⟩ (.slice a l p)).setCell ⟨w.heap.size + 1 + 1 + 1, 1, none⟩ (.slice a' l' p')).setCell ⟨w.heap.size + 1 + 1 + 1, 2, none⟩ (.slice ia il ic)).setCell ⟨w.heap.size + 1 + 1 + 1 + 1, 0, none⟩ (.int .i64 7)).setCell ⟨w.heap.size + 1 + 1 + 1 + 1, 1, none⟩ (.int .i64 0) = W) := ⟨_, rfl⟩
          obtain ⟨R1, R2, R3, R4, R5⟩ := hQ.fill c0 (.slice a l p) (.slice a' l' p') (.slice ia il ic) (7) (0) HW.out
          clear hQ hO hP c0 b9
          go_wp2
          rw [HW.out]
          exact bodyPost_ret (v := .tuple #[.agg #[.slice a l p, .slice a' l' p', .slice ia il ic], .agg #[.int .i64 7, .int .i64 0]]) (results_qdo rfl rfl rfl R1 R2) rfl (givesQ_err EQ.out hD R3)
    · have hil' : decide ((il : Int) ≤ (k : Int)) = true := decide_eq_true (by omega)
      have EQ : Hid (deskDo n roles d ⟨4, us, tr, (k : Int), hd⟩ = (d, ⟨3, 0⟩)) := qd_err (de_item_none (by decide) (.inr (.inl (by rw [Hil.out]; omega)))) (by decide)
      go_wp2_with fail
      refine (qno_any 3 (w.heap.size + 1) a a' ia l p l' p' il ic w3 (by exact hQ.desk)).mono ?_
      rintro e w9 ⟨rfl, b9⟩
      replace c0 := below_then c0 b9
      replace hQ := hQ.below b9
      obtain ⟨⟨r0, r1, r2⟩, ⟨f0, f1, f2⟩, ⟨a0, a1⟩, ⟨g0, g1⟩⟩ := hQ.res
      obtain ⟨W, HW⟩ : ∃ W, Hid (((((w9.setCell ⟨w.heap.size + 1 + 1 + 1, 0, none⟩ (.slice a l p)).setCell ⟨w.heap.size + 1 + 1 + 1, 1, none⟩ (.slice a' l' p')).setCell ⟨w.heap.size + 1 + 1 + 1, 2, none⟩ (.slice ia il ic)).setCell ⟨w.heap.size + 1 + 1 + 1 + 1, 0, none⟩ (.int .i64 3)).setCell ⟨w.heap.size + 1 + 1 + 1 + 1, 1, none⟩ (.int .i64 0) = W) := ⟨_, rfl⟩
      obtain ⟨R1, R2, R3, R4, R5⟩ := hQ.fill c0 (.slice a l p) (.slice a' l' p') (.slice ia il ic) (3) (0) HW.out
      clear hQ hO hP c0 b9
      go_wp2
      rw [HW.out]
      exact bodyPost_ret (v := .tuple #[.agg #[.slice a l p, .slice a' l' p', .slice ia il ic], .agg #[.int .i64 3, .int .i64 0]]) (results_qdo rfl rfl rfl R1 R2) rfl (givesQ_err EQ.out hD R3)

end Go.Proofs.Ytaladbcocealnaa

/- The document's own desk: one thing done, skipped. (Made by tools/gen_qdo.py.) -/
namespace Go.Proofs.Ytaladbcocealnaa
open Go.RowKit
set_option linter.unusedVariables false
set_option linter.unusedSimpArgs false
set_option maxRecDepth 4000

set_option maxHeartbeats 8000000 in
theorem qdo_kind5 (v r dv : Value) (n : NetL) (roles : List (List Int)) (d : DeskL) (us tr it hd : Int) (w : World) (hv : Net w v n) (hr : Lists w r roles) (hD : DeskV w dv d) (hsm : SmallNet n) (hinv : DeskInv n roles d) (Hlen : Hid (d.items.length + 1 ≤ 5864062014805)) :
    Calls Try.prog 24 #[v, r, dv, .agg #[.int .i64 5, .int .i64 us, .int .i64 tr, .int .i64 it, .int .i64 hd]] w fun e w' => GivesQ w dv (deskDo n roles d ⟨5, us, tr, it, hd⟩) e w' := by
  obtain ⟨tv, rfl, hT⟩ := hv
  obtain ⟨ta, tl, tc, rfl, htl, htm, hts, _⟩ := id hT
  have Htl : Hid (n.trans.length = tl) := htl
  clear htl htm hts
  obtain ⟨a, l, p, a', l', p', ia, ic, rfl, h1, h2, h3⟩ := id hD
  obtain ⟨il, Hil⟩ : ∃ n, Hid (d.items.length = n) := ⟨_, rfl⟩
  have Hcl := items_cells h3
  rw [Hil.out] at h3 Hcl Hlen hD ⊢
  obtain ⟨w0, Hw0, hQ, c0, Hs0⟩ := qdo_boxes w n.places (.slice ta tl tc) (.slice a l p) (.slice a' l' p') (.slice ia il ic) ⟨5, us, tr, it, hd⟩
  have bp := below_new w0 (.cells #[.int .i64 0, .int .i64 tr] 97)
  have hP := cellsAt_new w0 #[.int .i64 0, .int .i64 tr] 97
  rw [Hs0.out] at hP
  obtain ⟨w1, Hw1⟩ : ∃ v, Hid (w0.alloc (.cells #[.int .i64 0, .int .i64 tr] 97) = v) := ⟨_, rfl⟩
  have Hs1 : Hid (w1.heap.size = w.heap.size + 1 + 1 + 1 + 1 + 1 + 1) := by show _ = _; rw [← Hw1.out]; simp [Hs0.out]
  rw [Hw1.out] at bp hP
  have bl := below_new w1 (.cells #[] 78)
  have hL := lit_row w1
  obtain ⟨w2, Hw2⟩ : ∃ v, Hid (w1.alloc (.cells #[] 78) = v) := ⟨_, rfl⟩
  rw [Hw2.out] at bl hL
  obtain ⟨⟨n0, n1⟩, ⟨d0, d1, d2⟩, ⟨o0, o1, o2, o3, o4⟩⟩ := hQ.cells
  simp only at o0 o1 o2 o3 o4
  go_enter Try.func24, Try.ntmps24
  go_upto_region 1 with fail
  rw [Hw0.out]
  go_upto_region 3 with fail
  rw [Hs0.out, Hw1.out]
  clear Hw0 Hw1
  clear n0 n1 d0 d1 d2 o0 o1 o2 o3 o4
  replace c0 := below_then c0 bp
  replace hQ := hQ.below bp
  obtain ⟨⟨n0, n1⟩, ⟨d0, d1, d2⟩, ⟨o0, o1, o2, o3, o4⟩⟩ := hQ.cells
  simp only at o0 o1 o2 o3 o4
  have q2 : (w1.alloc (.cells #[] 78)).cell? ⟨w.heap.size + 1, 2, none⟩ = some (.slice ia il ic) := by rw [Hw2.out]; exact (hQ.below bl).desk.cell 2
  have HL1 : Hid (0 + il ≤ maxLen) := by show _ ≤ _; have := Hlen.out; unfold maxLen; omega
  have HL2 : Hid ((0 + il) * 24 ≤ 140737488355328) := by show _ ≤ _; have := Hlen.out; omega
  have hC2 := (Hcl.below (below_then c0 bl) : CellsV w2 _ _ _ _ _)
  go_upto_region 8 with (rw [Hw2.out]; at_builtin; refine wp_append_cells elem_item rfl _ _ rfl w1.heap.size w1 w2 (.slice (some ⟨w1.heap.size, 0, none⟩) 0 0) (.slice ia il ic) 0 il 5864062014805 [] (itemCells d.items) hL rfl rfl hC2 HL1.out HL2.out ?_; intro v' w3 hO0 hgr; clear hgr; rw [Nat.zero_add, List.nil_append] at hO0; obtain ⟨oa, oc, rfl⟩ := hO0.slice; have bw := hO0.2.1; have Hge : Hid (w1.heap.size ≤ w3.heap.size) := hO0.2.2; have hO := hO0.1; replace c0 := below_then c0 bw; replace hQ := hQ.below bw; replace hP := hP.below bw; clear n0 n1 d0 d1 d2 o0 o1 o2 o3 o4 q2 hL hC2 bl bp bw hO0; obtain ⟨⟨n0, n1⟩, ⟨d0, d1, d2⟩, ⟨o0, o1, o2, o3, o4⟩⟩ := hQ.cells; simp only at o0 o1 o2 o3 o4; obtain ⟨p0, p1, g0, g1⟩ := case_op hP)
  have EK : Hid (deskErr n roles d ⟨5, us, tr, it, hd⟩ = 0) := de_skip
  clear n0 n1 d0 d1 d2 o0 o1 o2 o3 o4
  obtain ⟨w8, Hw8⟩ : ∃ v, Hid ((w3.setCell ⟨w.heap.size + 1 + 1 + 1 + 1 + 1, 0, none⟩ (.int .i64 1)) = v) := ⟨_, rfl⟩
  replace hQ := hQ.keep (B := w.heap.size + 1 + 1 + 1 + 1 + 1) (by omega) (fun kk hkk => Below.heap_setCell _ ⟨w.heap.size + 1 + 1 + 1 + 1 + 1, 0, none⟩ (.int .i64 1) kk (by show kk ≠ w.heap.size + 1 + 1 + 1 + 1 + 1; omega))
  replace c0 := c0.setCell (p := ⟨w.heap.size + 1 + 1 + 1 + 1 + 1, 0, none⟩) (by show w.heap.size ≤ w.heap.size + 1 + 1 + 1 + 1 + 1; omega) (.int .i64 1)
  replace hP := hP.put 0 (.int .i64 1)
  replace hO := ownsRow_setCell_below hO (a := ⟨w.heap.size + 1 + 1 + 1 + 1 + 1, 0, none⟩) (by show w.heap.size + 1 + 1 + 1 + 1 + 1 < w1.heap.size; rw [Hs1.out]; omega) (.int .i64 1)
  replace Hge : Hid (w1.heap.size ≤ ((w3.setCell ⟨w.heap.size + 1 + 1 + 1 + 1 + 1, 0, none⟩ (.int .i64 1))).heap.size) := by show _ ≤ _; simp only [World.setCell, Array.size_modify]; exact Hge.out
  rw [Hw8.out] at hQ c0 hP hO Hge
  go_upto_region 32 with fail
  rw [Hw8.out]
  clear Hw8 p0 p1 g0 g1
  obtain ⟨⟨n0, n1⟩, ⟨d0, d1, d2⟩, ⟨o0, o1, o2, o3, o4⟩⟩ := hQ.cells
  simp only at o0 o1 o2 o3 o4
  obtain ⟨p0, p1, g0, g1⟩ := case_op hP
  go_wp2_with fail
  refine (pdo_own _ _ n d.case 1 tr w8 (by exact ⟨_, rfl, hT.below c0⟩) (by exact ⟨_, _, _, _, _, _, rfl, h1.below c0, h2.below c0⟩) hsm).mono ?_
  rintro e w4 ⟨rv, rfl, hC, hCF, b⟩
  obtain ⟨za, zl, zc, za2, zl2, zc2, rfl, hZ, hZ2⟩ := hC
  obtain ⟨hf1, hf2⟩ := hCF.parts
  replace hf1 := hf1.mono Hge.out
  replace hf2 := hf2.mono Hge.out
  clear n0 n1 d0 d1 d2 o0 o1 o2 o3 o4 p0 p1 g0 g1 hP hCF
  replace c0 := below_then c0 b
  replace hQ := hQ.below b
  replace hO := own_trans hO b
  replace Hge : Hid (w1.heap.size ≤ w4.heap.size) := Nat.le_trans Hge.out b.size
  clear b
  have bn := below_new w4 (.cells #[.slice za zl zc, .slice za2 zl2 zc2] 29)
  have hbx := caseBox_new w4 za za2 zl zc zl2 zc2
  obtain ⟨Bx, HBx⟩ : ∃ B, Hid (w4.heap.size = B) := ⟨_, rfl⟩
  rw [HBx.out] at hbx
  obtain ⟨w5, Hw5⟩ : ∃ v, Hid (w4.alloc (.cells #[.slice za zl zc, .slice za2 zl2 zc2] 29) = v) := ⟨_, rfl⟩
  rw [Hw5.out] at bn hbx
  go_upto_region 33 with fail
  rw [Hw5.out, HBx.out]
  clear Hw5 HBx
  replace c0 := below_then c0 bn
  replace hQ := hQ.below bn
  replace hO := own_trans hO bn
  replace Hge : Hid (w1.heap.size ≤ w5.heap.size) := Nat.le_trans Hge.out bn.size
  replace hZ := hZ.below bn
  replace hZ2 := hZ2.below bn
  clear bn
  obtain ⟨x0, x1, _, _, _⟩ := hbx.facts
  obtain ⟨E, HE⟩ : ∃ E, Hid ((doC n d.case 1 tr).2 = E) := ⟨_, rfl⟩
  rw [HE.out]
  by_cases hE : E = 0
  · subst hE
    have EQ : Hid (deskDo n roles d ⟨5, us, tr, it, hd⟩ = (⟨(doC n d.case 1 tr).1, d.items⟩, ⟨0, 0⟩)) := by show _ = _; rw [qd_done EK.out (by simp) rfl HE.out]; rfl
    obtain ⟨CC, HCC⟩ : ∃ C, Hid ((doC n d.case 1 tr).1 = C) := ⟨_, rfl⟩
    rw [HCC.out] at EQ hZ hZ2
    clear hinv HCC
    obtain ⟨⟨r0, r1, r2⟩, ⟨f0, f1, f2⟩, ⟨a0, a1⟩, ⟨g0, g1⟩⟩ := hQ.res
    obtain ⟨W, HW⟩ : ∃ W, Hid (((((w5.setCell ⟨w.heap.size + 1 + 1 + 1, 0, none⟩ (.slice za zl zc)).setCell ⟨w.heap.size + 1 + 1 + 1, 1, none⟩ (.slice za2 zl2 zc2)).setCell ⟨w.heap.size + 1 + 1 + 1, 2, none⟩ (.slice oa il oc)).setCell ⟨w.heap.size + 1 + 1 + 1 + 1, 0, none⟩ (.int .i64 0)).setCell ⟨w.heap.size + 1 + 1 + 1 + 1, 1, none⟩ (.int .i64 0) = W) := ⟨_, rfl⟩
    obtain ⟨R1, R2, R3, R4, R5⟩ := hQ.fill c0 (.slice za zl zc) (.slice za2 zl2 zc2) (.slice oa il oc) (0) (0) HW.out
    have hZ' := hZ.toLow hf1 (Nat.le_of_eq R4.symm) (fun k _ hk => R5 k (by have := Hs1.out; omega))
    have hZ2' := hZ2.toLow hf2 (Nat.le_of_eq R4.symm) (fun k _ hk => R5 k (by have := Hs1.out; omega))
    have hO' := own_to hO (Nat.le_of_eq R4.symm) (fun k hk => R5 k (by have := Hs1.out; omega))
    have HgB : Hid (w.heap.size ≤ w1.heap.size) := by show _ ≤ _; rw [Hs1.out]; omega
    have ho : ∀ g, g < w.heap.size → DeskOff g (.agg #[.slice a l p, .slice a' l' p', .slice ia il ic]) → SlOff g (.slice za zl zc) ∧ SlOff g (.slice za2 zl2 zc2) := fun g hg _ => ⟨hf1.off (by have := HgB.out; omega), hf2.off (by have := HgB.out; omega)⟩
    have Hle : Hid ((d.items : List ItemL).length = il) := Hil
    have Hmx : Hid (il ≤ 5864062014805) := by show _ ≤ _; have := Hlen.out; omega
    clear hQ hO c0 hZ hZ2 hf1 hf2
    go_wp2
    rw [HW.out]
    exact bodyPost_ret (v := .tuple #[.agg #[.slice za zl zc, .slice za2 zl2 zc2, .slice oa il oc], .agg #[.int .i64 0, .int .i64 0]]) (results_qdo rfl rfl rfl R1 R2) rfl (givesQ_ok EQ.out hZ' hZ2' Hle.out hO' Hmx.out HgB.out ho R3)
  · have hE' : (E == 0) = false := by simpa using hE
    have hE2 : (E != 0) = true := by simpa using hE
    have EQ : Hid (deskDo n roles d ⟨5, us, tr, it, hd⟩ = (d, ⟨E, 0⟩)) := qd_case EK.out (by simp) rfl HE.out hE
    have hP : True := trivial
    go_wp2_with fail
    refine (qno_any E (w.heap.size + 1) a a' ia l p l' p' il ic w5 (by exact hQ.desk)).mono ?_
    rintro e w9 ⟨rfl, b9⟩
    replace c0 := below_then c0 b9
    replace hQ := hQ.below b9
    obtain ⟨⟨r0, r1, r2⟩, ⟨f0, f1, f2⟩, ⟨a0, a1⟩, ⟨g0, g1⟩⟩ := hQ.res
    obtain ⟨W, HW⟩ : ∃ W, Hid (((((w9.setCell ⟨w.heap.size + 1 + 1 + 1, 0, none⟩ (.slice a l p)).setCell ⟨w.heap.size + 1 + 1 + 1, 1, none⟩ (.slice a' l' p')).setCell ⟨w.heap.size + 1 + 1 + 1, 2, none⟩ (.slice ia il ic)).setCell ⟨w.heap.size + 1 + 1 + 1 + 1, 0, none⟩ (.int .i64 E)).setCell ⟨w.heap.size + 1 + 1 + 1 + 1, 1, none⟩ (.int .i64 0) = W) := ⟨_, rfl⟩
    obtain ⟨R1, R2, R3, R4, R5⟩ := hQ.fill c0 (.slice a l p) (.slice a' l' p') (.slice ia il ic) (E) (0) HW.out
    clear hQ hO hP c0 b9
    go_wp2
    rw [HW.out]
    exact bodyPost_ret (v := .tuple #[.agg #[.slice a l p, .slice a' l' p', .slice ia il ic], .agg #[.int .i64 E, .int .i64 0]]) (results_qdo rfl rfl rfl R1 R2) rfl (givesQ_err EQ.out hD R3)

end Go.Proofs.Ytaladbcocealnaa

/- The document's own desk: one thing done, of no kind. (Made by tools/gen_qdo.py.) -/
namespace Go.Proofs.Ytaladbcocealnaa
open Go.RowKit
set_option linter.unusedVariables false
set_option linter.unusedSimpArgs false
set_option maxRecDepth 4000

set_option maxHeartbeats 8000000 in
theorem qdo_kind6 (v r dv : Value) (n : NetL) (roles : List (List Int)) (d : DeskL) (kd us tr it hd : Int) (w : World) (hv : Net w v n) (hr : Lists w r roles) (hD : DeskV w dv d) (hsm : SmallNet n) (hinv : DeskInv n roles d) (Hlen : Hid (d.items.length + 1 ≤ 5864062014805)) (Hk : Hid (kd < 1 ∨ 5 < kd)) :
    Calls Try.prog 24 #[v, r, dv, .agg #[.int .i64 kd, .int .i64 us, .int .i64 tr, .int .i64 it, .int .i64 hd]] w fun e w' => GivesQ w dv (deskDo n roles d ⟨kd, us, tr, it, hd⟩) e w' := by
  obtain ⟨tv, rfl, hT⟩ := hv
  obtain ⟨ta, tl, tc, rfl, htl, htm, hts, _⟩ := id hT
  have Htl : Hid (n.trans.length = tl) := htl
  clear htl htm hts
  obtain ⟨a, l, p, a', l', p', ia, ic, rfl, h1, h2, h3⟩ := id hD
  obtain ⟨il, Hil⟩ : ∃ n, Hid (d.items.length = n) := ⟨_, rfl⟩
  have Hcl := items_cells h3
  rw [Hil.out] at h3 Hcl Hlen hD ⊢
  obtain ⟨w0, Hw0, hQ, c0, Hs0⟩ := qdo_boxes w n.places (.slice ta tl tc) (.slice a l p) (.slice a' l' p') (.slice ia il ic) ⟨kd, us, tr, it, hd⟩
  have bp := below_new w0 (.cells #[.int .i64 0, .int .i64 tr] 97)
  have hP := cellsAt_new w0 #[.int .i64 0, .int .i64 tr] 97
  rw [Hs0.out] at hP
  obtain ⟨w1, Hw1⟩ : ∃ v, Hid (w0.alloc (.cells #[.int .i64 0, .int .i64 tr] 97) = v) := ⟨_, rfl⟩
  have Hs1 : Hid (w1.heap.size = w.heap.size + 1 + 1 + 1 + 1 + 1 + 1) := by show _ = _; rw [← Hw1.out]; simp [Hs0.out]
  rw [Hw1.out] at bp hP
  have bl := below_new w1 (.cells #[] 78)
  have hL := lit_row w1
  obtain ⟨w2, Hw2⟩ : ∃ v, Hid (w1.alloc (.cells #[] 78) = v) := ⟨_, rfl⟩
  rw [Hw2.out] at bl hL
  obtain ⟨⟨n0, n1⟩, ⟨d0, d1, d2⟩, ⟨o0, o1, o2, o3, o4⟩⟩ := hQ.cells
  simp only at o0 o1 o2 o3 o4
  go_enter Try.func24, Try.ntmps24
  go_upto_region 1 with fail
  rw [Hw0.out]
  go_upto_region 3 with fail
  rw [Hs0.out, Hw1.out]
  clear Hw0 Hw1
  clear n0 n1 d0 d1 d2 o0 o1 o2 o3 o4
  replace c0 := below_then c0 bp
  replace hQ := hQ.below bp
  obtain ⟨⟨n0, n1⟩, ⟨d0, d1, d2⟩, ⟨o0, o1, o2, o3, o4⟩⟩ := hQ.cells
  simp only at o0 o1 o2 o3 o4
  have q2 : (w1.alloc (.cells #[] 78)).cell? ⟨w.heap.size + 1, 2, none⟩ = some (.slice ia il ic) := by rw [Hw2.out]; exact (hQ.below bl).desk.cell 2
  have HL1 : Hid (0 + il ≤ maxLen) := by show _ ≤ _; have := Hlen.out; unfold maxLen; omega
  have HL2 : Hid ((0 + il) * 24 ≤ 140737488355328) := by show _ ≤ _; have := Hlen.out; omega
  have hC2 := (Hcl.below (below_then c0 bl) : CellsV w2 _ _ _ _ _)
  have k5 : (kd == 5) = false := by have := Hk.out; simp; omega
  have k1 : (kd == 1) = false := by have := Hk.out; simp; omega
  have k2 : (kd == 2) = false := by have := Hk.out; simp; omega
  have k3 : (kd == 3) = false := by have := Hk.out; simp; omega
  have k4 : (kd == 4) = false := by have := Hk.out; simp; omega
  go_upto_region 6 with (rw [Hw2.out]; at_builtin; refine wp_append_cells elem_item rfl _ _ rfl w1.heap.size w1 w2 (.slice (some ⟨w1.heap.size, 0, none⟩) 0 0) (.slice ia il ic) 0 il 5864062014805 [] (itemCells d.items) hL rfl rfl hC2 HL1.out HL2.out ?_; intro v' w3 hO0 hgr; clear hgr; rw [Nat.zero_add, List.nil_append] at hO0; obtain ⟨oa, oc, rfl⟩ := hO0.slice; have bw := hO0.2.1; have Hge : Hid (w1.heap.size ≤ w3.heap.size) := hO0.2.2; have hO := hO0.1; replace c0 := below_then c0 bw; replace hQ := hQ.below bw; replace hP := hP.below bw; clear n0 n1 d0 d1 d2 o0 o1 o2 o3 o4 q2 hL hC2 bl bp bw hO0; obtain ⟨⟨n0, n1⟩, ⟨d0, d1, d2⟩, ⟨o0, o1, o2, o3, o4⟩⟩ := hQ.cells; simp only at o0 o1 o2 o3 o4; obtain ⟨p0, p1, g0, g1⟩ := case_op hP)
  have EQ : Hid (deskDo n roles d ⟨kd, us, tr, it, hd⟩ = (d, ⟨5, 0⟩)) := qd_err (de_kind Hk.out) (by decide)
  go_wp2_with fail
  refine (qno_any 5 (w.heap.size + 1) a a' ia l p l' p' il ic w3 (by exact hQ.desk)).mono ?_
  rintro e w9 ⟨rfl, b9⟩
  replace c0 := below_then c0 b9
  replace hQ := hQ.below b9
  obtain ⟨⟨r0, r1, r2⟩, ⟨f0, f1, f2⟩, ⟨a0, a1⟩, ⟨g0, g1⟩⟩ := hQ.res
  obtain ⟨W, HW⟩ : ∃ W, Hid (((((w9.setCell ⟨w.heap.size + 1 + 1 + 1, 0, none⟩ (.slice a l p)).setCell ⟨w.heap.size + 1 + 1 + 1, 1, none⟩ (.slice a' l' p')).setCell ⟨w.heap.size + 1 + 1 + 1, 2, none⟩ (.slice ia il ic)).setCell ⟨w.heap.size + 1 + 1 + 1 + 1, 0, none⟩ (.int .i64 5)).setCell ⟨w.heap.size + 1 + 1 + 1 + 1, 1, none⟩ (.int .i64 0) = W) := ⟨_, rfl⟩
  obtain ⟨R1, R2, R3, R4, R5⟩ := hQ.fill c0 (.slice a l p) (.slice a' l' p') (.slice ia il ic) (5) (0) HW.out
  clear hQ hO hP c0 b9
  go_wp2
  rw [HW.out]
  exact bodyPost_ret (v := .tuple #[.agg #[.slice a l p, .slice a' l' p', .slice ia il ic], .agg #[.int .i64 5, .int .i64 0]]) (results_qdo rfl rfl rfl R1 R2) rfl (givesQ_err EQ.out hD R3)

end Go.Proofs.Ytaladbcocealnaa

/- The document's own desk: one thing done. -/
namespace Go.Proofs.Ytaladbcocealnaa
open Go.RowKit
set_option linter.unusedVariables false
set_option linter.unusedSimpArgs false
set_option maxRecDepth 4000

theorem qdo_any (v r dv : Value) (n : NetL) (roles : List (List Int)) (d : DeskL) (o : DOp) (w : World) (hv : Net w v n) (hr : Lists w r roles) (hD : DeskV w dv d) (hsm : SmallNet n) (hinv : DeskInv n roles d) (Hlen : Hid (d.items.length + 1 ≤ 5864062014805)) :
    Calls Try.prog 24 #[v, r, dv, .agg #[.int .i64 o.kind, .int .i64 o.user, .int .i64 o.tran, .int .i64 o.item, .int .i64 o.hand]] w fun e w' => GivesQ w dv (deskDo n roles d o) e w' := by
  obtain ⟨kd, us, tr, it, hd⟩ := o
  show Calls _ _ #[v, r, dv, .agg #[.int .i64 kd, .int .i64 us, .int .i64 tr, .int .i64 it, .int .i64 hd]] _ _
  by_cases h1 : kd = 1
  · subst h1; exact qdo_kind1 v r dv n roles d us tr it hd w hv hr hD hsm hinv Hlen
  by_cases h2 : kd = 2
  · subst h2; exact qdo_kind2 v r dv n roles d us tr it hd w hv hr hD hsm hinv Hlen
  by_cases h3 : kd = 3
  · subst h3; exact qdo_kind3 v r dv n roles d us tr it hd w hv hr hD hsm hinv Hlen
  by_cases h4 : kd = 4
  · subst h4; exact qdo_kind4 v r dv n roles d us tr it hd w hv hr hD hsm hinv Hlen
  by_cases h5 : kd = 5
  · subst h5; exact qdo_kind5 v r dv n roles d us tr it hd w hv hr hD hsm hinv Hlen
  exact qdo_kind6 v r dv n roles d kd us tr it hd w hv hr hD hsm hinv Hlen (show kd < 1 ∨ 5 < kd by omega)

theorem items_offHigh {w : World} {v : Value} {l : List ItemL} (h : ItemsV w v l) {g : Nat} (hg : w.heap.size ≤ g) : SlOff g v := fun b off n c e hl q => by
  subst e
  obtain ⟨a, len, cap, e, hl', hm, hs, hr⟩ := h
  injection e with e1 e2 _
  subst e2
  obtain ⟨b', off', ha, hlt, _⟩ := hr 0 (by omega)
  rw [← e1] at ha
  injection ha with ha
  injection ha with ha _ _
  omega
theorem DeskV.offHigh {w : World} {v : Value} {d : DeskL} (h : DeskV w v d) {g : Nat} (hg : w.heap.size ≤ g) : DeskOff g v := by
  obtain ⟨a, l, p, a', l', p', ia, ic, rfl, h1, h2, h3⟩ := h
  exact ⟨_, _, _, rfl, h1.offHigh hg, h2.offHigh hg, items_offHigh h3 hg⟩
theorem ints_keepOff {w w' : World} {v : Value} {xs : List Int} {Bad : Nat → Prop} (h : Ints w v xs) (hs : w.heap.size ≤ w'.heap.size) (hk : ∀ k, k < w.heap.size → ¬ Bad k → w'.heap[k]? = w.heap[k]?) (ho : ∀ g, Bad g → SlOff g v) : Ints w' v xs := by
  obtain ⟨a, len, cap, rfl, hl, hm, hs', hr⟩ := h
  refine ⟨a, len, cap, rfl, hl, hm, hs', fun j hj => ?_⟩
  obtain ⟨b, off, ha, hlt, hc⟩ := hr j hj
  exact ⟨b, off, ha, Nat.lt_of_lt_of_le hlt hs, by rw [cell_kept (p := ⟨b, off + j, none⟩) (hk b hlt (fun q => ho b q b off len cap (by rw [ha]) (by omega) rfl))]; exact hc⟩
theorem items_keepOff {w w' : World} {v : Value} {l : List ItemL} {Bad : Nat → Prop} (h : ItemsV w v l) (hs : w.heap.size ≤ w'.heap.size) (hk : ∀ k, k < w.heap.size → ¬ Bad k → w'.heap[k]? = w.heap[k]?) (ho : ∀ g, Bad g → SlOff g v) : ItemsV w' v l := by
  obtain ⟨a, len, cap, rfl, hl, hm, hs', hr⟩ := h
  refine ⟨a, len, cap, rfl, hl, hm, hs', fun j hj => ?_⟩
  obtain ⟨b, off, ha, hlt, h0, h1, h2⟩ := hr j hj
  have e := hk b hlt (fun q => ho b q b off len cap (by rw [ha]) (by omega) rfl)
  exact ⟨b, off, ha, Nat.lt_of_lt_of_le hlt hs, (World.cell?_of_block (a := ⟨b, _, none⟩) e).trans h0, (World.cell?_of_block (a := ⟨b, _, none⟩) e).trans h1, (World.cell?_of_block (a := ⟨b, _, none⟩) e).trans h2⟩
/-- A desk stands where the blocks that change are none of its own. -/
theorem DeskV.keepOff {w w' : World} {v : Value} {d : DeskL} {Bad : Nat → Prop} (h : DeskV w v d) (hs : w.heap.size ≤ w'.heap.size) (hk : ∀ k, k < w.heap.size → ¬ Bad k → w'.heap[k]? = w.heap[k]?) (ho : ∀ g, Bad g → DeskOff g v) : DeskV w' v d := by
  obtain ⟨a, l, p, a', l', p', ia, ic, rfl, h1, h2, h3⟩ := h
  exact ⟨a, l, p, a', l', p', ia, ic, rfl, ints_keepOff h1 hs hk (fun g q => (ho g q).parts.1), ints_keepOff h2 hs hk (fun g q => (ho g q).parts.2.1), items_keepOff h3 hs hk (fun g q => (ho g q).parts.2.2)⟩

end Go.Proofs.Ytaladbcocealnaa
