/- Package reach as it landed: a mark is added to a search. -/
import Derived.Test.YtbpkebkblkjdhaaSearchAt
import Derived.Test.YtbpkebkblkjdhaaReach1
namespace Go.Proofs.Ytbpkebkblkjdhaa
open Go.RowKit Go.Maps
set_option linter.unusedVariables false

theorem wpr_append_arc {o : Oper} {a : Act} {K : Act → World → Prop} {Q : Exit → Act → World → Prop} {Y : Nat → Option Bool} (hwt : Region.wanted o Y = true) (s x : Operand)
    (ho : o.op = .call { callee := .builtin .append, args := #[s, x], argTypes := #[45, 45] }) (B : Nat) (wr wq : World) (v : Value) (l : List ArcL) (f t g : Int) (hq : wq = wr.alloc (.cells #[.int .i64 f, .int .i64 t, .int .i64 g] 86))
    (hown : wr.ownsRow B 86 3 v l.length (arcCells l)) (hs : a.eval s = v) (hx : a.eval x = .slice (some ⟨wr.heap.size, 0, none⟩) 1 1) (hl : l.length + 1 ≤ 5864062014805) (hB : B ≤ wr.heap.size)
    (h : ∀ v' w', w'.ownsRow B 86 3 v' (l.length + 1) (arcCells l ++ [.int .i64 f, .int .i64 t, .int .i64 g]) → (wr.alloc (.cells #[.int .i64 f, .int .i64 t, .int .i64 g] 86)).grownBy w' v.ownBlock →
      (v'.ownBlock = v.ownBlock ∨ v'.ownBlock = some (wr.alloc (.cells #[.int .i64 f, .int .i64 t, .int .i64 g] 86)).heap.size) → K (a.put o.dst v') w') :
    if Region.wanted o Y = true then Oper.wp Try.prog o a wq K Q else K (a.put o.dst undef) wq := by
  subst hq
  obtain ⟨i0, hi, hz0, hz1, hz2⟩ := info_parts info_arc
  refine wp_append_at _ hwt s x 45 ho B 86 i0 _ 3 24 Try.underlying45 hi hz0 hz1 hz2 rfl (by decide) v l.length _ hs (hown.alloc _) ⟨wr.heap.size, 0, none⟩ 1 1 [.int .i64 f, .int .i64 t, .int .i64 g] hx rfl ?_ ?_ ?_ ?_ ?_ h
  · intro j u hj
    rw [addr_add, World.cell?_alloc_at _ _ _ _ rfl]
    match j, hj with
    | 0, hj => simpa using hj
    | 1, hj => simpa using hj
    | 2, hj => simpa using hj
  · intro u hu
    simp only [List.mem_cons, List.not_mem_nil, or_false] at hu
    rcases hu with rfl | rfl | rfl <;> rfl
  · unfold maxLen; omega
  · omega
  · simp; omega

theorem box3_grown {w wC : World} {b : Nat} {u0 u1 u2 : Value} {row : Option Nat} (hx : Box3 w b u0 u1 u2) (hg : w.grownBy wC row) (hr : row ≠ some b) : Box3 wC b u0 u1 u2 := by
  obtain ⟨y0, y1, y2, y3⟩ := hx
  have hq := hg.block b y0 (fun e => hr e.symm)
  exact ⟨Nat.lt_of_lt_of_le y0 hg.size, (World.cell?_of_block (a := ⟨b, 0, none⟩) hq).trans y1, (World.cell?_of_block (a := ⟨b, 1, none⟩) hq).trans y2, (World.cell?_of_block (a := ⟨b, 2, none⟩) hq).trans y3⟩

/-- The loads of a row that the same statement stores: they are not taken first. -/
abbrev byLoad : Op := Op.load 45 (Operand.tmp 33)
abbrev arcLoad : Op := Op.load 45 (Operand.tmp 49)

set_option maxHeartbeats 2000000 in
theorem search_add {A x mb B : Nat} {M : Int} {W wr : World} {ms : List (List Int)} {ar bys : List ArcL} {c : Nat} {D : DataW Unit} {mv av bv : Value} {us : List Value} (hS : SearchAt A x mb B M W wr ms ar bys c D mv av bv us)
    (r : Value) (z : List Int) (a : ArcL) (hr : On (fun k => A ≤ k ∧ ¬ mineS x mb mv av bv k) wr (fun w' => Ints w' r z)) (hz : ∀ y ∈ z, inWord y) (hc : c < maxLen) (hl : us.length + 1 ≤ 5864062014805) (hlb : bys.length + 1 ≤ 5864062014805) :
    Calls Try.prog 53 #[.pointer (some ⟨x, 0, none⟩), r, .agg #[.int .i64 a.frm, .int .i64 a.tran, .int .i64 a.dst]] wr fun e w' => e = .returned (.tuple #[]) ∧
      ∃ mv' bv', SearchAt A x mb B M W w' (ms ++ [z]) ar (bys ++ [a]) (c + 1) (D.put (keyLit z) (.lit (.int .i64 (ms.length : Int)))) mv' av bv' (us ++ [r]) ∧ Keeps wr (mineS x mb mv av bv) w' (mineS x mb mv' av bv') := by
  have b1 := below_new wr (.cells #[.int .i64 a.frm, .int .i64 a.tran, .int .i64 a.dst] 86)
  have hx3 := box3_new wr (.int .i64 a.frm) (.int .i64 a.tran) (.int .i64 a.dst) 86
  obtain ⟨w1, Hw1⟩ : ∃ w1, Hid (wr.alloc (.cells #[.int .i64 a.frm, .int .i64 a.tran, .int .i64 a.dst] 86) = w1) := ⟨_, rfl⟩
  rw [Hw1.out] at b1 hx3
  have hS1 := hS.to b1
  have hr1 := hr.below b1
  obtain ⟨am, cm, hmv⟩ := hS.sliceM
  obtain ⟨lm, Hlm⟩ : ∃ lm, Hid (ms.length = lm) := ⟨_, rfl⟩
  rw [Hlm.out] at hmv ⊢
  have Hlu : Hid (us.length = lm) := hS.len.trans Hlm.out
  obtain ⟨ax, lx, cx, hrv⟩ : ∃ ax lx cx, r = .slice ax lx cx := by obtain ⟨ax, lx, cx, e, _⟩ := hr.now; exact ⟨ax, lx, cx, e⟩
  subst hmv hrv
  obtain ⟨d0, d1, d2, d3, d4, df⟩ := hS1.at
  have Hw : Hid _ := hz
  have Hll : Hid _ := hl
  have hlm : lm + 1 ≤ 5864062014805 := by have := Hlu.out; omega
  have Hdf : Hid _ := df
  clear hz df hl
  go_enter Try.func53, Try.ntmps53
  go_upto_region 1 with fail
  rw [Hw1.out]
  clear Hw1
  go_region_held3 (fun w' => w'.cell? ⟨x, 1, none⟩ = some (.slice am lm cm) ∧ w'.cell? ⟨x, 3, none⟩ = some (.map (some mb)))
    (go_keep)
    (first
      | (go_at_call 66; refine (key_any _ z _ ?_).mono ?_; exact hr1.now.drewN 1; rintro e w5 ⟨rfl, q5⟩; have q5 := below_then (below_drewN (Below.refl w1.heap.size w1) 1) q5; have hS5 := hS1.to q5; obtain ⟨e0, e1, e2, e3, e4, ef⟩ := hS5.at; obtain ⟨w6, hrun, hm6, hg6⟩ := hS5.map.update key_law Try.underlying70 hc (keyOf_pad z Hw.out) (plainElem_int (H := Unit) Try.underlying3 (a := (lm : Int)) (WalkArith.wf_i64 (by omega))); obtain ⟨hS6, hK6⟩ := hS5.mapped hm6 hg6; obtain ⟨i0, i1, i2, i3, i4, if_⟩ := hS6.at))
  have HK6 : Hid (Keeps wr (mineS x mb (.slice am lm cm) av bv) w6 (mineS x mb (.slice am lm cm) av bv)) := (Keeps.below (below_then b1 q5) (mineS x mb (.slice am lm cm) av bv)).trans hK6
  have hr6 := hK6.onE (hr1.below q5)
  have hx36 := hK6.box3 (hS.notMine (Nat.le_refl _)) (hx3.below q5)
  have Hnm : Hid _ := hS.notMine (Nat.le_refl _)
  have j1 := if_ 1
  have hrowM := hS6.rowM
  have hB6 := hS6.base
  clear d0 d1 d2 d3 d4 e0 e1 e2 e3 e4 ef i0 i2 i3 i4 if_ hrun hS5 hK6 hm6 hg6 hr1 Hdf hx3 q5
  go_upto_region 3 with (at_builtin; refine wp_append_mark rfl _ _ rfl B w6 _ us ax lx cx hrowM rfl rfl Hll.out hB6 ?_; intro v' wC hC hgC hatC; obtain ⟨a', l', c', rfl⟩ := ownsRow_slice hC; have hS7 := hS6.to (below_new w6 (.cells #[.slice ax lx cx] 25)); obtain ⟨u0, u1, u2, u3, u4, uf⟩ := hS7.after hgC hS7.apM.1; have uf1 := uf 1; obtain ⟨hS8, hK8⟩ := hS7.mark rfl (hr6.below (below_new w6 (.cells #[.slice ax lx cx] 25))) hC hgC hatC)
  have HK8 : Hid _ := (HK6.out.trans (Keeps.below (below_new w6 (.cells #[.slice ax lx cx] 25)) _)).trans hK8
  have hx8 := hK8.box3 Hnm.out (hx36.below (below_new w6 (.cells #[.slice ax lx cx] 25)))
  have Hnm8 : Hid (¬ mineS x mb (Value.slice a' l' c') av bv wr.heap.size) := (hK8.2 wr.heap.size (hx36.below (below_new w6 (.cells #[.slice ax lx cx] 25))).1 Hnm.out).2
  obtain ⟨w8, Hw8⟩ : ∃ w8, Hid (wC.setCell ⟨x, 1, none⟩ (.slice a' l' c') = w8) := ⟨_, rfl⟩
  rw [Hw8.out] at hS8 HK8 hx8 ⊢
  clear hK8 HK6 hS7 u0 u1 u2 u3 u4 uf uf1 hC hgC hatC Hw8 hx36 hr6 hS6 hS1 hS hr Hnm i1 j1 hrowM hB6
  obtain ⟨y0, y1, y2, y3⟩ := id hx8
  obtain ⟨u0, u1, u2, u3, u4, uf⟩ := hS8.at
  have uf4 := uf 4
  have hne : ¬ x = wr.heap.size := fun e => Hnm8.out (.inl e.symm)
  have u4a := (hS8.to (below_new w8 (.cells #[.int .i64 a.frm, .int .i64 a.tran, .int .i64 a.dst] 86))).at.2.2.2.2.1
  have hS8d := hS8.to (below_drewN (Below.refl _ _) 1)
  rw [show (Op.load 45 (Operand.tmp 33) : Op) = byLoad from rfl]
  go_region_held3 (fun w' => w'.cell? ⟨wr.heap.size, 0, none⟩ = some (.int .i64 a.frm) ∧ w'.cell? ⟨wr.heap.size, 1, none⟩ = some (.int .i64 a.tran) ∧ w'.cell? ⟨wr.heap.size, 2, none⟩ = some (.int .i64 a.dst))
    (go_keep)
    (first
      | (refine wpr_append_arc rfl _ _ rfl B w8.drew _ bv bys _ _ _ rfl hS8d.rowB rfl rfl hlb hS8d.base ?_; intro v' wC hC hgC hatC; obtain ⟨a2, l2, c2, rfl⟩ := ownsRow_slice hC; have hS9 := hS8d.to (below_new w8.drew (.cells #[.int .i64 a.frm, .int .i64 a.tran, .int .i64 a.dst] 86)); obtain ⟨t0, t1, t2, t3, t4, tf⟩ := hS9.after hgC hS9.apB.1; have tf4 := tf 4; obtain ⟨s0, s1, s2, s3⟩ := box3_grown ((hx8.below (below_drewN (Below.refl _ _) 1)).below (below_new w8.drew (.cells #[.int .i64 a.frm, .int .i64 a.tran, .int .i64 a.dst] 86))) hgC (fun e => Hnm8.out (.inr (.inr (.inr (.inr e))))); obtain ⟨hS10, hK10⟩ := hS9.by hC hgC hatC))
  all_goals
    have HK : Hid _ := (HK8.out.trans (Keeps.below (below_then (below_drewN (Below.refl w8.heap.size w8) 1) (below_new w8.drew (.cells #[.int .i64 a.frm, .int .i64 a.tran, .int .i64 a.dst] 86))) _)).trans hK10
    clear hK10 hS9 t0 t1 t2 t3 t4 tf tf4 s0 s1 s2 s3 hC hgC hatC hS8 hS8d HK8 hx8 y0 y1 y2 y3 u0 u1 u2 u3 u4 uf uf4 u4a
    go_wp2
    go_end0
    exact ⟨rfl, _, _, hS10, HK.out⟩

end Go.Proofs.Ytbpkebkblkjdhaa
