import Derived.Test.YtakgppoeikcepaaGr22
import Derived.Test.YtakgppoeikcepaaGr07
/- Package reach as it landed: a mark is added to a search. -/
namespace Go.Proofs.Ytakgppoeikcepaa
open Go.RowKit Go.Maps
set_option linter.unusedVariables false
set_option maxRecDepth 4000

theorem wpr_append_arc {o : Oper} {a : Act} {K : Act → World → Prop} {Q : Exit → Act → World → Prop} {Y : Nat → Option Bool} (hwt : Region.wanted o Y = true) (s x : Operand)
    (ho : o.op = .call { callee := .builtin .append, args := #[s, x], argTypes := #[47, 47] }) (B : Nat) (wr wq : World) (v : Value) (l : List ArcL) (f t g : Int) (hq : wq = wr.alloc (.cells #[.int .i64 f, .int .i64 t, .int .i64 g] 69))
    (hown : wr.ownsRow B 69 3 v l.length (arcCells l)) (hs : a.eval s = v) (hx : a.eval x = .slice (some ⟨wr.heap.size, 0, none⟩) 1 1) (hl : l.length + 1 ≤ 5864062014805) (hB : B ≤ wr.heap.size)
    (h : ∀ v' w', w'.ownsRow B 69 3 v' (l.length + 1) (arcCells l ++ [.int .i64 f, .int .i64 t, .int .i64 g]) → (wr.alloc (.cells #[.int .i64 f, .int .i64 t, .int .i64 g] 69)).grownBy w' v.ownBlock →
      (v'.ownBlock = v.ownBlock ∨ v'.ownBlock = some (wr.alloc (.cells #[.int .i64 f, .int .i64 t, .int .i64 g] 69)).heap.size) → K (a.put o.dst v') w') :
    if Region.wanted o Y = true then Oper.wp Try.prog o a wq K Q else K (a.put o.dst undef) wq := by
  subst hq
  obtain ⟨i0, hi, hz0, hz1, hz2⟩ := info_parts info_arc
  refine wp_append_at _ hwt s x 47 ho B 69 i0 _ 3 24 Try.underlying47 hi hz0 hz1 hz2 rfl (by decide) v l.length _ hs (hown.alloc _) ⟨wr.heap.size, 0, none⟩ 1 1 [.int .i64 f, .int .i64 t, .int .i64 g] hx rfl ?_ ?_ ?_ ?_ ?_ h
  · intro j u hj
    rw [addr_add, World.cell?_alloc_at _ _ _ _ rfl]
    match j, hj with
    | 0, hj => simpa using hj
    | 1, hj => simpa using hj
    | 2, hj => simpa using hj
  · intro u hu
    simp only [List.mem_cons, List.not_mem_nil, or_false] at hu
    rcases hu with rfl | rfl | rfl <;> rfl
  · unfold maxLen; omega
  · omega
  · simp; omega

theorem box3_grown {w wC : World} {b : Nat} {u0 u1 u2 : Value} {row : Option Nat} (hx : Box3 w b u0 u1 u2) (hg : w.grownBy wC row) (hr : row ≠ some b) : Box3 wC b u0 u1 u2 := by
  obtain ⟨y0, y1, y2, y3⟩ := hx
  have hq := hg.block b y0 (fun e => hr e.symm)
  exact ⟨Nat.lt_of_lt_of_le y0 hg.size, (World.cell?_of_block (a := ⟨b, 0, none⟩) hq).trans y1, (World.cell?_of_block (a := ⟨b, 1, none⟩) hq).trans y2, (World.cell?_of_block (a := ⟨b, 2, none⟩) hq).trans y3⟩

/-- The loads of a row that the same statement stores: they are not taken first. -/
abbrev byLoad : Op := Op.load 47 (Operand.tmp 33)
abbrev arcLoad : Op := Op.load 47 (Operand.tmp 49)

set_option maxHeartbeats 2000000 in
theorem search_add {A x mb B : Nat} {M : Int} {W wr : World} {ms : List (List Int)} {ar bys : List ArcL} {c : Nat} {D : DataW Unit} {mv av bv : Value} {us : List Value} (hS : SearchAt A x mb B M W wr ms ar bys c D mv av bv us)
    (r : Value) (z : List Int) (a : ArcL) (hr : On (fun k => A ≤ k ∧ ¬ mineS x mb mv av bv k) wr (fun w' => Ints w' r z)) (hz : ∀ y ∈ z, inWord y) (hc : c < maxLen) (hl : us.length + 1 ≤ 5864062014805) (hlb : bys.length + 1 ≤ 5864062014805) :
    Calls Try.prog 49 #[.pointer (some ⟨x, 0, none⟩), r, .agg #[.int .i64 a.frm, .int .i64 a.tran, .int .i64 a.dst]] wr fun e w' => e = .returned (.tuple #[]) ∧
      ∃ mv' bv', SearchAt A x mb B M W w' (ms ++ [z]) ar (bys ++ [a]) (c + 1) (D.put (keyLit z) (.lit (.int .i64 (ms.length : Int)))) mv' av bv' (us ++ [r]) ∧ Keeps wr (mineS x mb mv av bv) w' (mineS x mb mv' av bv') := by
  have b1 := below_new wr (.cells #[.int .i64 a.frm, .int .i64 a.tran, .int .i64 a.dst] 69)
  have hx3 := box3_new wr (.int .i64 a.frm) (.int .i64 a.tran) (.int .i64 a.dst) 69
  obtain ⟨w1, Hw1⟩ : ∃ w1, Hid (wr.alloc (.cells #[.int .i64 a.frm, .int .i64 a.tran, .int .i64 a.dst] 69) = w1) := ⟨_, rfl⟩
  rw [Hw1.out] at b1 hx3
  have hS1 := hS.to b1
  have hr1 := hr.below b1
  obtain ⟨am, cm, hmv⟩ := hS.sliceM
  obtain ⟨lm, Hlm⟩ : ∃ lm, Hid (ms.length = lm) := ⟨_, rfl⟩
  rw [Hlm.out] at hmv ⊢
  have Hlu : Hid (us.length = lm) := hS.len.trans Hlm.out
  obtain ⟨ax, lx, cx, hrv⟩ : ∃ ax lx cx, r = .slice ax lx cx := by obtain ⟨ax, lx, cx, e, _⟩ := hr.now; exact ⟨ax, lx, cx, e⟩
  subst hmv hrv
  obtain ⟨d0, d1, d2, d3, d4, df⟩ := hS1.at
  have Hw : Hid _ := hz
  have Hll : Hid _ := hl
  have hlm : lm + 1 ≤ 5864062014805 := by have := Hlu.out; omega
  have Hdf : Hid _ := df
  clear hz df hl
  go_enter Try.func49, Try.ntmps49
  go_upto_region 1 with fail
  rw [Hw1.out]
  clear Hw1
  go_region_held3 (fun w' => w'.cell? ⟨x, 1, none⟩ = some (.slice am lm cm) ∧ w'.cell? ⟨x, 3, none⟩ = some (.map (some mb)))
    (go_keep)
    (first
      | (go_at_call 73; refine (key_any _ z _ ?_).mono ?_; exact hr1.now.drewN 1; rintro e w5 ⟨rfl, q5⟩; have q5 := below_then (below_drewN (Below.refl w1.heap.size w1) 1) q5; have hS5 := hS1.to q5; obtain ⟨e0, e1, e2, e3, e4, ef⟩ := hS5.at; obtain ⟨w6, hrun, hm6, hg6⟩ := hS5.map.update key_law Try.underlying83 hc (keyOf_pad z Hw.out) (plainElem_int (H := Unit) Try.underlying3 (a := (lm : Int)) (WalkArith.wf_i64 (by omega))); obtain ⟨hS6, hK6⟩ := hS5.mapped hm6 hg6; obtain ⟨i0, i1, i2, i3, i4, if_⟩ := hS6.at))
  have HK6 : Hid (Keeps wr (mineS x mb (.slice am lm cm) av bv) w6 (mineS x mb (.slice am lm cm) av bv)) := (Keeps.below (below_then b1 q5) (mineS x mb (.slice am lm cm) av bv)).trans hK6
  have hr6 := hK6.onE (hr1.below q5)
  have hx36 := hK6.box3 (hS.notMine (Nat.le_refl _)) (hx3.below q5)
  have Hnm : Hid _ := hS.notMine (Nat.le_refl _)
  have j1 := if_ 1
  have hrowM := hS6.rowM
  have hB6 := hS6.base
  clear d0 d1 d2 d3 d4 e0 e1 e2 e3 e4 ef i0 i2 i3 i4 if_ hrun hS5 hK6 hm6 hg6 hr1 Hdf hx3 q5
  go_upto_region 3 with (at_builtin; refine wp_append_mark rfl _ _ rfl B w6 _ us ax lx cx hrowM rfl rfl Hll.out hB6 ?_; intro v' wC hC hgC hatC; obtain ⟨a', l', c', rfl⟩ := ownsRow_slice hC; have hS7 := hS6.to (below_new w6 (.cells #[.slice ax lx cx] 25)); obtain ⟨u0, u1, u2, u3, u4, uf⟩ := hS7.after hgC hS7.apM.1; have uf1 := uf 1; obtain ⟨hS8, hK8⟩ := hS7.mark rfl (hr6.below (below_new w6 (.cells #[.slice ax lx cx] 25))) hC hgC hatC)
  have HK8 : Hid _ := (HK6.out.trans (Keeps.below (below_new w6 (.cells #[.slice ax lx cx] 25)) _)).trans hK8
  have hx8 := hK8.box3 Hnm.out (hx36.below (below_new w6 (.cells #[.slice ax lx cx] 25)))
  have Hnm8 : Hid (¬ mineS x mb (Value.slice a' l' c') av bv wr.heap.size) := (hK8.2 wr.heap.size (hx36.below (below_new w6 (.cells #[.slice ax lx cx] 25))).1 Hnm.out).2
  obtain ⟨w8, Hw8⟩ : ∃ w8, Hid (wC.setCell ⟨x, 1, none⟩ (.slice a' l' c') = w8) := ⟨_, rfl⟩
  rw [Hw8.out] at hS8 HK8 hx8 ⊢
  clear hK8 HK6 hS7 u0 u1 u2 u3 u4 uf uf1 hC hgC hatC Hw8 hx36 hr6 hS6 hS1 hS hr Hnm i1 j1 hrowM hB6
  obtain ⟨y0, y1, y2, y3⟩ := id hx8
  obtain ⟨u0, u1, u2, u3, u4, uf⟩ := hS8.at
  have uf4 := uf 4
  have hne : ¬ x = wr.heap.size := fun e => Hnm8.out (.inl e.symm)
  have u4a := (hS8.to (below_new w8 (.cells #[.int .i64 a.frm, .int .i64 a.tran, .int .i64 a.dst] 69))).at.2.2.2.2.1
  have hS8d := hS8.to (below_drewN (Below.refl _ _) 1)
  rw [show (Op.load 47 (Operand.tmp 33) : Op) = byLoad from rfl]
  go_region_held3 (fun w' => w'.cell? ⟨wr.heap.size, 0, none⟩ = some (.int .i64 a.frm) ∧ w'.cell? ⟨wr.heap.size, 1, none⟩ = some (.int .i64 a.tran) ∧ w'.cell? ⟨wr.heap.size, 2, none⟩ = some (.int .i64 a.dst))
    (go_keep)
    (first
      | (refine wpr_append_arc rfl _ _ rfl B w8.drew _ bv bys _ _ _ rfl hS8d.rowB rfl rfl hlb hS8d.base ?_; intro v' wC hC hgC hatC; obtain ⟨a2, l2, c2, rfl⟩ := ownsRow_slice hC; have hS9 := hS8d.to (below_new w8.drew (.cells #[.int .i64 a.frm, .int .i64 a.tran, .int .i64 a.dst] 69)); obtain ⟨t0, t1, t2, t3, t4, tf⟩ := hS9.after hgC hS9.apB.1; have tf4 := tf 4; obtain ⟨s0, s1, s2, s3⟩ := box3_grown ((hx8.below (below_drewN (Below.refl _ _) 1)).below (below_new w8.drew (.cells #[.int .i64 a.frm, .int .i64 a.tran, .int .i64 a.dst] 69))) hgC (fun e => Hnm8.out (.inr (.inr (.inr (.inr e))))); obtain ⟨hS10, hK10⟩ := hS9.by hC hgC hatC))
  all_goals
    have HK : Hid _ := (HK8.out.trans (Keeps.below (below_then (below_drewN (Below.refl w8.heap.size w8) 1) (below_new w8.drew (.cells #[.int .i64 a.frm, .int .i64 a.tran, .int .i64 a.dst] 69))) _)).trans hK10
    clear hK10 hS9 t0 t1 t2 t3 t4 tf tf4 s0 s1 s2 s3 hC hgC hatC hS8 hS8d HK8 hx8 y0 y1 y2 y3 u0 u1 u2 u3 u4 uf uf4 u4a
    go_wp2
    go_end0
    exact ⟨rfl, _, _, hS10, HK.out⟩

end Go.Proofs.Ytakgppoeikcepaa

/- Package reach as it landed: a firing arrives. -/
namespace Go.Proofs.Ytakgppoeikcepaa
open Go.RowKit Go.Maps
set_option linter.unusedVariables false
set_option maxRecDepth 4000

/-- A search, whole: it knows each mark's number, and how it was found. -/
def Srch (A x mb B P M : Nat) (W wr : World) (s : SpaceL) (bys : List ArcL) (mv av bv : Value) : Prop :=
  ∃ D us, SearchAt A x mb B M W wr s.marks s.arcs bys s.marks.length D mv av bv us ∧ Says P s.marks D ∧ bys.length = s.marks.length

theorem Srch.to {A x mb B P M : Nat} {W wr w' : World} {s : SpaceL} {bys : List ArcL} {mv av bv : Value} (h : Srch A x mb B P M W wr s bys mv av bv) (hb : Below wr.heap.size wr w') : Srch A x mb B P M W w' s bys mv av bv := by
  obtain ⟨D, us, h1, h2⟩ := h
  exact ⟨D, us, h1.to hb, h2⟩

theorem look_yes {w : World} {mb c P g : Nat} {D : DataW Unit} {ms : List (List Int)} {z : List Int} (hm : w.ownsMap Try.prog 133 (plainElem Try.prog 3) mb c D) (hs : Says P ms D) (hl : z.length = P) (hw : ∀ y ∈ z, inWord y) (hf : findM ms z = some g) :
    (Instr.lookup 83 (.map (some mb)) (.agg (padV z).toArray) true).run Try.prog w = .ok (.tuple #[.int .i64 (g : Int), .bool true]) w := by
  obtain ⟨v, ps, hrun, hv⟩ := hm.look_ok key_law Try.underlying83 (e := 3) (z := .int .i64 0) (by kernel_rfl) (zd := .lit (.int .i64 0)) (zp := []) (plainElem_int Try.underlying3 (by decide)) (keyOf_pad z hw)
  obtain ⟨h1, h2⟩ := hs.yes z g hl hw hf
  rw [h2] at hv
  obtain ⟨a, rfl, e, _⟩ := plainElem_int_inv Try.underlying3 hv
  injection e with e1 e2
  injection e1 with e1
  injection e1 with _ e1
  rw [hrun, h1, ← e1]

theorem look_no {w : World} {mb c P : Nat} {D : DataW Unit} {ms : List (List Int)} {z : List Int} (hm : w.ownsMap Try.prog 133 (plainElem Try.prog 3) mb c D) (hs : Says P ms D) (hl : z.length = P) (hw : ∀ y ∈ z, inWord y) (hf : findM ms z = none) :
    ∃ a : Int, (Instr.lookup 83 (.map (some mb)) (.agg (padV z).toArray) true).run Try.prog w = .ok (.tuple #[.int .i64 a, .bool false]) w := by
  obtain ⟨v, ps, hrun, hv⟩ := hm.look_ok key_law Try.underlying83 (e := 3) (z := .int .i64 0) (by kernel_rfl) (zd := .lit (.int .i64 0)) (zp := []) (plainElem_int Try.underlying3 (by decide)) (keyOf_pad z hw)
  obtain ⟨a, rfl, e, _⟩ := plainElem_int_inv Try.underlying3 hv
  exact ⟨a, by rw [hrun, hs.no z hl hw hf]⟩

/-- What a firing that comes to z makes of a search. -/
def arriveL (M : Nat) (s : SpaceL) (bys : List ArcL) (f t : Nat) (z : List Int) : SpaceL × List ArcL × Int :=
  match findM s.marks z with
  | some g => (⟨s.marks, s.arcs ++ [⟨f, t, g⟩]⟩, bys, 0)
  | none => if s.marks.length = M then (s, bys, 4) else (⟨s.marks ++ [z], s.arcs ++ [⟨f, t, s.marks.length⟩]⟩, bys ++ [⟨f, t, s.marks.length⟩], 0)

/-- The cells of a block of three. -/
theorem box3_block {w : World} {b : Nat} {t : TypeId} {u0 u1 u2 : Value} (h : w.heap[b]? = some (.cells #[u0, u1, u2] t (0, 0))) : Box3 w b u0 u1 u2 ∧ ∀ j, w.frozen? ⟨b, j, none⟩ = false := by
  refine ⟨⟨(Array.getElem?_eq_some_iff.1 h).1, ?_, ?_, ?_⟩, fun j => ?_⟩
  all_goals simp [World.cell?, World.frozen?, h]

set_option maxHeartbeats 2000000 in
theorem search_arrive {A x mb B P M : Nat} {W wr : World} {s : SpaceL} {bys : List ArcL} {mv av bv : Value} (hQ : Srch A x mb B P M W wr s bys mv av bv)
    (r : Value) (z : List Int) (f t : Nat) (hr : On (fun k => A ≤ k ∧ ¬ mineS x mb mv av bv k) wr (fun w' => Ints w' r z)) (hz : ∀ y ∈ z, inWord y) (hzl : z.length = P) (hP : P ≤ 16) (hl : s.marks.length ≤ 300) (hla : s.arcs.length + 1 ≤ 5864062014805) :
    Calls Try.prog 76 #[.pointer (some ⟨x, 0, none⟩), r, .int .i64 f, .int .i64 t] wr fun e w' =>
      ∃ mv' av' bv', e = .returned (.int .i64 (arriveL M s bys f t z).2.2) ∧ Srch A x mb B P M W w' (arriveL M s bys f t z).1 (arriveL M s bys f t z).2.1 mv' av' bv' ∧ Keeps wr (mineS x mb mv av bv) w' (mineS x mb mv' av' bv') := by
  obtain ⟨D, us, hS, hD, hlb⟩ := hQ
  obtain ⟨am, cm, hmv⟩ := hS.sliceM
  obtain ⟨ax, lx, cx, hrv⟩ : ∃ ax lx cx, r = .slice ax lx cx := by obtain ⟨ax, lx, cx, e, _⟩ := hr.now; exact ⟨ax, lx, cx, e⟩
  subst hmv hrv
  obtain ⟨lm, Hlm⟩ : ∃ lm, Hid (s.marks.length = lm) := ⟨_, rfl⟩
  have hS0 := hS
  rw [Hlm.out] at hS0 hl
  obtain ⟨d0, d1, d2, d3, d4, df⟩ := hS0.at
  have b1 := below_new wr (.cells #[.int .i64 (f : Int), .int .i64 (t : Int), .int .i64 (lm : Int)] 69)
  have hy : (wr.alloc (.cells #[.int .i64 (f : Int), .int .i64 (t : Int), .int .i64 (lm : Int)] 69)).heap[wr.heap.size]? = some (.cells #[.int .i64 (f : Int), .int .i64 (t : Int), .int .i64 (lm : Int)] 69 (0, 0)) := heap_alloc_new wr _
  obtain ⟨w1, Hw1⟩ : ∃ w1, Hid (wr.alloc (.cells #[.int .i64 (f : Int), .int .i64 (t : Int), .int .i64 (lm : Int)] 69) = w1) := ⟨_, rfl⟩
  rw [Hw1.out] at b1 hy
  have hr1 := hr.below b1
  have Hw : Hid _ := hz
  have Hla : Hid _ := hla
  have Hnm : Hid _ := hS.notMine (Nat.le_refl _)
  have hne : ¬ x = wr.heap.size := fun e => Hnm.out (.inl e.symm)
  clear hz hla df
  go_enter Try.func76, Try.ntmps76
  go_upto_region 2 with fail
  rw [Hw1.out]
  clear Hw1 d0 d1 d2 d3 d4
  have hS1 := hS0.to b1
  obtain ⟨d0, d1, d2, d3, d4, df⟩ := hS1.at
  cases hf : findM s.marks z with
  | some g =>
    have HA : Hid (arriveL M s bys f t z = (⟨s.marks, s.arcs ++ [⟨f, t, g⟩]⟩, bys, 0)) := by show _ = _; unfold arriveL; rw [hf]
    have Hf : Hid _ := hf
    clear hf
    go_region_held3 (fun w' => w'.cell? ⟨x, 3, none⟩ = some (.map (some mb)))
      (go_keep)
      (first
        | (go_at_call 73; refine (key_any _ z _ ?_).mono ?_; exact hr1.now.drewN 1; rintro e w5 ⟨rfl, q5⟩; have q5 := below_then (below_drewN (Below.refl w1.heap.size w1) 1) q5; have hS5 := hS1.to q5; obtain ⟨e0, e1, e2, e3, e4, ef⟩ := hS5.at; have hrun := look_yes hS5.map hD hzl Hw.out Hf.out))
    have hy5 := (q5.block wr.heap.size (Array.getElem?_eq_some_iff.1 hy).1).trans hy
    obtain ⟨⟨y0, y1, y2, y3⟩, yf⟩ := box3_block hy5
    have yf2 := yf 2
    have b5 : Below wr.heap.size wr (w5.setCell ⟨wr.heap.size, 2, none⟩ (.int .i64 (g : Int))) := (below_then b1 q5).setCell (p := ⟨wr.heap.size, 2, none⟩) (Nat.le_refl _) _
    obtain ⟨hx6, _⟩ := box3_block (setCell_block (i := 2) hy5 (.int .i64 (g : Int)))
    have hS6 := hS.to b5
    obtain ⟨w6, Hw6⟩ : ∃ w6, Hid (w5.setCell ⟨wr.heap.size, 2, none⟩ (.int .i64 (g : Int)) = w6) := ⟨_, rfl⟩
    rw [Hw6.out] at b5 hx6 hS6
    clear hS5 e0 e1 e2 e3 e4 ef hrun d0 d1 d2 d3 d4 df hS1 hr1 yf
    go_upto_region 8 with fail
    rw [Hw6.out]
    clear Hw6 y0 y1 y2 y3 yf2
    obtain ⟨y0, y1, y2, y3⟩ := id hx6
    obtain ⟨u0, u1, u2, u3, u4, uf⟩ := hS6.at
    have uf2 := uf 2
    have u2a := (hS6.to (below_new w6 (.cells #[.int .i64 (f : Int), .int .i64 (t : Int), .int .i64 (g : Int)] 69))).at.2.2.1
    have hSd := hS6.to (below_drewN (Below.refl _ _) 1)
    rw [show (Op.load 47 (Operand.tmp 49) : Op) = arcLoad from rfl]
    go_region_held3 (fun w' => w'.cell? ⟨wr.heap.size, 0, none⟩ = some (.int .i64 (f : Int)) ∧ w'.cell? ⟨wr.heap.size, 1, none⟩ = some (.int .i64 (t : Int)) ∧ w'.cell? ⟨wr.heap.size, 2, none⟩ = some (.int .i64 (g : Int)))
      (go_keep)
      (first
        | (refine wpr_append_arc rfl _ _ rfl B w6.drew _ av s.arcs _ _ _ rfl hSd.rowA rfl rfl Hla.out hSd.base ?_; intro v' wC hC hgC hatC; obtain ⟨a2, l2, c2, rfl⟩ := ownsRow_slice hC; have hS9 := hSd.to (below_new w6.drew (.cells #[.int .i64 (f : Int), .int .i64 (t : Int), .int .i64 (g : Int)] 69)); obtain ⟨t0, t1, t2, t3, t4, tf⟩ := hS9.after hgC hS9.apA.1; have tf2 := tf 2; obtain ⟨s0, s1, s2, s3⟩ := box3_grown ((hx6.below (below_drewN (Below.refl _ _) 1)).below (below_new w6.drew (.cells #[.int .i64 (f : Int), .int .i64 (t : Int), .int .i64 (g : Int)] 69))) hgC (fun e => Hnm.out (.inr (.inr (.inr (.inl e))))); obtain ⟨hS10, hK10⟩ := hS9.arc (a := ⟨f, t, g⟩) hC hgC hatC))
    all_goals
      have HK : Hid _ := ((Keeps.below b5 _).trans (Keeps.below (below_then (below_drewN (Below.refl w6.heap.size w6) 1) (below_new w6.drew (.cells #[.int .i64 (f : Int), .int .i64 (t : Int), .int .i64 (g : Int)] 69))) _)).trans hK10
      clear hK10 hS9 t0 t1 t2 t3 t4 tf tf2 s0 s1 s2 s3 hC hgC hatC hSd hx6 y0 y1 y2 y3 u0 u1 u2 u3 u4 uf uf2 u2a
      go_wp2
      go_ret
      refine ⟨_, _, _, by rw [HA.out]; rfl, ?_, HK.out⟩
      rw [HA.out]
      exact ⟨_, _, hS10, hD, hlb⟩
  | none =>
    have Hf : Hid _ := hf
    clear hf
    go_region_held3 (fun w' => w'.cell? ⟨x, 3, none⟩ = some (.map (some mb)))
      (go_keep)
      (first
        | (go_at_call 73; refine (key_any _ z _ ?_).mono ?_; exact hr1.now.drewN 1; rintro e w5 ⟨rfl, q5⟩; have q5 := below_then (below_drewN (Below.refl w1.heap.size w1) 1) q5; have hS5 := hS1.to q5; obtain ⟨e0, e1, e2, e3, e4, ef⟩ := hS5.at; obtain ⟨z0, hrun⟩ := look_no hS5.map hD hzl Hw.out Hf.out))
    have hy5 := (q5.block wr.heap.size (Array.getElem?_eq_some_iff.1 hy).1).trans hy
    obtain ⟨hx5, yf⟩ := box3_block hy5
    obtain ⟨y0, y1, y2, y3⟩ := id hx5
    clear yf hrun d0 d1 d2 d3 d4 df hy hy5
    go_wp2_with fail
    go_quiet (fail)
    have q6 := below_then (below_then b1 q5) (below_drewN (Below.refl w5.heap.size w5) nq)
    obtain ⟨w6, Hw6⟩ : ∃ w6, Hid (w5.drewN nq = w6) := ⟨_, rfl⟩
    have hx6 := hx5.below (below_drewN (Below.refl w5.heap.size w5) nq)
    rw [Hw6.out] at hx6 q6 ⊢
    have hr6 := hr.below q6
    clear Hw6 hS1 hS5 e0 e1 e2 e3 e4 ef y0 y1 y2 y3 hx5 q5
    by_cases hlM : lm = M
    · have hcmp : ((lm : Int) == (M : Int)) = true := by simp [hlM]
      have HA : Hid (arriveL M s bys f t z = (s, bys, 4)) := by show _ = _; unfold arriveL; rw [Hf.out]; simp only; rw [if_pos (by rw [Hlm.out]; exact hlM)]
      have hS6 := hS.to q6
      go_wp2
      go_ret
      exact ⟨_, _, _, by rw [HA.out]; rfl, by rw [HA.out]; exact ⟨_, _, hS6, hD, hlb⟩, Keeps.below q6 _⟩
    · have hcmp : ((lm : Int) == (M : Int)) = false := by simp; omega
      have HA : Hid (arriveL M s bys f t z = (⟨s.marks ++ [z], s.arcs ++ [⟨f, t, lm⟩]⟩, bys ++ [⟨f, t, lm⟩], 0)) := by show _ = _; unfold arriveL; rw [Hf.out]; simp only; rw [if_neg (by rw [Hlm.out]; exact hlM), Hlm.out]
      have hS6 := hS.to q6
      obtain ⟨y0, y1, y2, y3⟩ := id hx6
      go_wp2_with fail
      refine (search_add hS6 _ z ⟨f, t, lm⟩ hr6 Hw.out (by rw [Hlm.out]; unfold maxLen; omega) (by rw [hS6.len, Hlm.out]; omega) (by rw [hlb, Hlm.out]; omega)).mono ?_
      rintro e w7 ⟨rfl, mv7, bv7, hS7, hK7⟩
      have HK7 : Hid _ := (Keeps.below q6 _).trans hK7
      have hx7 := hK7.box3 Hnm.out hx6
      have Hnm7 : Hid _ := (hK7.block wr.heap.size hx6.1 Hnm.out).2
      have hne7 : ¬ x = wr.heap.size := fun e => Hnm7.out (.inl e.symm)
      clear hS6 hr6 y0 y1 y2 y3 hx6 hK7
      go_upto_region 8 with fail
      obtain ⟨y0, y1, y2, y3⟩ := id hx7
      obtain ⟨u0, u1, u2, u3, u4, uf⟩ := hS7.at
      have uf2 := uf 2
      have u2a := (hS7.to (below_new w7 (.cells #[.int .i64 (f : Int), .int .i64 (t : Int), .int .i64 (lm : Int)] 69))).at.2.2.1
      have hSd := hS7.to (below_drewN (Below.refl _ _) 1)
      rw [show (Op.load 47 (Operand.tmp 49) : Op) = arcLoad from rfl]
      go_region_held3 (fun w' => w'.cell? ⟨wr.heap.size, 0, none⟩ = some (.int .i64 (f : Int)) ∧ w'.cell? ⟨wr.heap.size, 1, none⟩ = some (.int .i64 (t : Int)) ∧ w'.cell? ⟨wr.heap.size, 2, none⟩ = some (.int .i64 (lm : Int)))
        (go_keep)
        (first
          | (refine wpr_append_arc rfl _ _ rfl B w7.drew _ av s.arcs _ _ _ rfl hSd.rowA rfl rfl Hla.out hSd.base ?_; intro v' wC hC hgC hatC; obtain ⟨a2, l2, c2, rfl⟩ := ownsRow_slice hC; have hS9 := hSd.to (below_new w7.drew (.cells #[.int .i64 (f : Int), .int .i64 (t : Int), .int .i64 (lm : Int)] 69)); obtain ⟨t0, t1, t2, t3, t4, tf⟩ := hS9.after hgC hS9.apA.1; have tf2 := tf 2; obtain ⟨s0, s1, s2, s3⟩ := box3_grown ((hx7.below (below_drewN (Below.refl _ _) 1)).below (below_new w7.drew (.cells #[.int .i64 (f : Int), .int .i64 (t : Int), .int .i64 (lm : Int)] 69))) hgC (fun e => Hnm7.out (.inr (.inr (.inr (.inl e))))); obtain ⟨hS10, hK10⟩ := hS9.arc (a := ⟨f, t, lm⟩) hC hgC hatC))
      all_goals
        have HK : Hid _ := (HK7.out.trans (Keeps.below (below_then (below_drewN (Below.refl w7.heap.size w7) 1) (below_new w7.drew (.cells #[.int .i64 (f : Int), .int .i64 (t : Int), .int .i64 (lm : Int)] 69))) _)).trans hK10
        clear hK10 hS9 t0 t1 t2 t3 t4 tf tf2 s0 s1 s2 s3 hC hgC hatC hSd hx7 y0 y1 y2 y3 u0 u1 u2 u3 u4 uf uf2 u2a
        go_wp2
        go_ret
        refine ⟨_, _, _, by rw [HA.out]; rfl, ?_, HK.out⟩
        rw [HA.out]
        exact ⟨_, _, by rw [List.length_append]; exact hS10, hD.put hP hS.map.isMap hzl Hw.out Hf.out, by simp [hlb]⟩

end Go.Proofs.Ytakgppoeikcepaa
