/- AlignTrue: what is laid side by side is both. (Made by tools/gen_aligntrue.py.) -/
import Derived.Test.YtakgppoeikcepaaAlive21
import Derived.Test.YtakgppoeikcepaaAlignNone
import Derived.Test.YtakgppoeikcepaaGr01
import Derived.Test.YtakgppoeikcepaaGr12
import Derived.BigQuiet
namespace Go.Proofs.Ytakgppoeikcepaa
open Go.RowKit
set_option linter.unusedVariables false
set_option linter.unusedSimpArgs false
set_option maxRecDepth 4000

/-! ### plainly -/
def seqM : List MoveL → List Int
  | [] => []
  | m :: ms => if m.kind = 2 then seqM ms else m.tran :: seqM ms
def seenM : List MoveL → List Int
  | [] => []
  | m :: ms => if m.kind = 3 then seenM ms else m.label :: seenM ms
theorem seqM_append : ∀ (a b : List MoveL), seqM (a ++ b) = seqM a ++ seqM b
  | [], b => rfl
  | m :: a, b => by
    show (if m.kind = 2 then seqM (a ++ b) else m.tran :: seqM (a ++ b)) = (if m.kind = 2 then seqM a else m.tran :: seqM a) ++ _
    rw [seqM_append a b]; split <;> simp
theorem seenM_append : ∀ (a b : List MoveL), seenM (a ++ b) = seenM a ++ seenM b
  | [], b => rfl
  | m :: a, b => by
    show (if m.kind = 3 then seenM (a ++ b) else m.label :: seenM (a ++ b)) = (if m.kind = 3 then seenM a else m.label :: seenM a) ++ _
    rw [seenM_append a b]; split <;> simp
theorem seqM_le : ∀ a : List MoveL, (seqM a).length ≤ a.length
  | [] => Nat.le_refl _
  | m :: a => by
    have := seqM_le a
    show (if m.kind = 2 then seqM a else m.tran :: seqM a).length ≤ _
    split <;> simp <;> omega
theorem seenM_le : ∀ a : List MoveL, (seenM a).length ≤ a.length
  | [] => Nat.le_refl _
  | m :: a => by
    have := seenM_le a
    show (if m.kind = 3 then seenM a else m.label :: seenM a).length ≤ _
    split <;> simp <;> omega
/-- What a move is. -/
def GoodM (n : NetL) (m : MoveL) : Prop := (m.kind = 2) ∨ ((m.kind = 1 ∨ m.kind = 3) ∧ ∃ t : Nat, m.tran = t ∧ t < n.trans.length ∧ (tranAt n.trans t).label = m.label ∧ 0 ≤ m.label ∧ (m.kind = 1 → m.label ≠ 0))
theorem whole_fits {n : NetL} {m : List Int} {s : SpaceL} (h : Whole n m s) {g : Nat} (hg : g < s.marks.length) : fitsL n (markAt s.marks g) = true := by
  obtain ⟨most, k, hF, _⟩ := h
  exact hF.fits _ (markAt_mem hg)
theorem lay_good {n : NetL} {m0 : List Int} {s : SpaceL} {tr : List Int} (hw : Whole n m0 s) (hok : netOk n = true) : ∀ {ms : List MoveL} {p q : Nat × Nat}, p.1 < s.marks.length → p.2 ≤ tr.length → Lay s.arcs (labT n) tr p ms q →
    (∀ m ∈ ms, GoodM n m) ∧ runL n (markAt s.marks p.1) (seqM ms) = (markAt s.marks q.1, 0) ∧ tr.take q.2 = tr.take p.2 ++ seenM ms
  | [], p, q, hp, h2, h => by
    obtain rfl : p = q := h
    have hf : fitsL n (markAt s.marks p.1) = true := whole_fits hw hp
    exact ⟨(fun m hm => by cases hm), (by show runL n _ [] = _; unfold runL; rw [if_pos hf]), (by show _ = _ ++ []; simp)⟩
  | m :: ms, p, q, hp, h2, h => by
    obtain ⟨r, h1, hl⟩ := h
    have hf : fitsL n (markAt s.marks p.1) = true := whole_fits hw hp
    have hr1 : r.1 < s.marks.length := h1.mark (fun a ha => (hw.sound a ha).2.1) hp
    have hr2 := h1.seen.2.2 h2
    obtain ⟨g1, g2, g3⟩ := lay_good hw hok hr1 hr2 hl
    rcases h1 with ⟨l1, rfl, rfl⟩ | ⟨a, ha, e, h⟩
    · refine ⟨fun x hx => (List.mem_cons.1 hx).elim (fun e => by rw [e]; exact .inl rfl) (g1 x), ?_, ?_⟩
      · have e1 : seqM (⟨2, nth tr p.2, 0⟩ :: ms) = seqM ms := by rw [seqM, if_pos rfl]
        rw [e1]; exact g2
      · have e1 : seenM (⟨2, nth tr p.2, 0⟩ :: ms) = nth tr p.2 :: seenM ms := by rw [seenM, if_neg (fun h => by simp at h)]
        rw [e1, g3]
        show tr.take (p.2 + 1) ++ _ = _
        rw [take_nth l1, List.append_assoc, List.singleton_append]
    · obtain ⟨a1, a2, a3, a4⟩ := hw.sound a ha
      have hlab := (lab_ok hok a.tran a3).1
      have hrun : ∀ (k : Int), k ≠ 2 → runL n (markAt s.marks p.1) (seqM (⟨k, labT n a.tran, (a.tran : Int)⟩ :: ms)) = runL n (markAt s.marks a.dst) (seqM ms) := fun k hk => by
        rw [seqM, if_neg hk]
        show (if fitsL n _ then _ else _) = _
        rw [if_pos hf, ← e, a4]
        rfl
      rcases h with ⟨rfl, rfl⟩ | ⟨l1, l2, l3, rfl, rfl⟩
      · refine ⟨fun x hx => (List.mem_cons.1 hx).elim (fun e => by rw [e]; exact .inr ⟨.inr rfl, a.tran, rfl, a3, rfl, hlab, fun q => by simp at q⟩) (g1 x), (hrun 3 (by decide)).trans g2, ?_⟩
        have e1 : seenM (⟨3, labT n a.tran, a.tran⟩ :: ms) = seenM ms := by rw [seenM, if_pos rfl]
        rw [e1]; exact g3
      · refine ⟨fun x hx => (List.mem_cons.1 hx).elim (fun e => by rw [e]; exact .inr ⟨.inl rfl, a.tran, rfl, a3, rfl, hlab, fun _ => l2⟩) (g1 x), (hrun 1 (by decide)).trans g2, ?_⟩
        have e1 : seenM (⟨1, labT n a.tran, a.tran⟩ :: ms) = labT n a.tran :: seenM ms := by rw [seenM, if_neg (fun h => by simp at h)]
        rw [e1, g3]
        show tr.take (p.2 + 1) ++ _ = _
        rw [take_nth l1, l3, List.append_assoc, List.singleton_append]
theorem ans_good {n : NetL} {i o : Int} {tr : List Int} {ms : List MoveL} {c : Int} (h : AlignAns n i o tr ms c 0) : (∀ m ∈ ms, GoodM n m) ∧ runL n (startL n.places i) (seqM ms) = (startL n.places o, 0) ∧ seenM ms = tr ∧ (costM ms : Int) = c := by
  obtain ⟨h0, _, s, e, hs, hw, h1, h2, h3, h4, _⟩ := h.zero
  obtain ⟨g1, g2, g3⟩ := lay_good hw h0.whole.1.ok (p := (0, 0)) hw.here.1 (Nat.zero_le _) h3
  refine ⟨g1, ?_, ?_, h4⟩
  · rw [hw.here.2, h2] at g2; exact g2
  · simp only [List.take_zero, List.nil_append, List.take_length] at g3
    exact g3.symm
theorem ans_zero {n : NetL} {i o : Int} {tr : List Int} {ms : List MoveL} {c d : Int} (h : AlignAns n i o tr ms c d) (hd : d ≠ 0) : c = 0 := by
  obtain ⟨d0, _, h2, h3⟩ := h.ex
  by_cases e : d0 = 0
  · rcases h3 e with ⟨_, _, q, _⟩ | ⟨_, _, _, q, _⟩ | ⟨_, q, _⟩
    · exact q
    · exact q
    · exact absurd q hd
  · exact (h2 e).2.1
theorem seq_step {ms : List MoveL} {k : Nat} {m : MoveL} (h : ms[k]? = some m) : seqM (ms.take (k + 1)) = (if m.kind = 2 then seqM (ms.take k) else seqM (ms.take k) ++ [m.tran]) ∧ seenM (ms.take (k + 1)) = (if m.kind = 3 then seenM (ms.take k) else seenM (ms.take k) ++ [m.label]) ∧ costM (ms.take (k + 1)) = costM (ms.take k) + priceM m := by
  rw [List.take_add_one, h]
  show seqM (_ ++ [m]) = _ ∧ seenM (_ ++ [m]) = _ ∧ costM (_ ++ [m]) = _
  rw [seqM_append, seenM_append, costM_append]
  refine ⟨?_, ?_, by show _ + (priceM m + 0) = _; omega⟩
  · show _ ++ (if m.kind = 2 then [] else [m.tran]) = _
    split <;> simp
  · show _ ++ (if m.kind = 3 then [] else [m.label]) = _
    split <;> simp
theorem box3_stay {w w' : World} {b : Nat} {u0 u1 u2 : Value} {v : Value} (h : Box3 w b u0 u1 u2) (hk : w.heap.size ≤ w'.heap.size ∧ ∀ k, k < w.heap.size → v.ownBlock ≠ some k → w'.heap[k]? = w.heap[k]?) (hne : v.ownBlock ≠ some b) : Box3 w' b u0 u1 u2 := by
  obtain ⟨h0, h1, h2, h3⟩ := h
  have hb := hk.2 b h0 hne
  exact ⟨Nat.lt_of_lt_of_le h0 hk.1, (World.cell?_of_block (a := ⟨b, 0, none⟩) hb).trans h1, (World.cell?_of_block (a := ⟨b, 1, none⟩) hb).trans h2, (World.cell?_of_block (a := ⟨b, 2, none⟩) hb).trans h3⟩
theorem MovesV.at_ {w : World} {a : Option Addr} {l c k : Nat} {ms : List MoveL} {m : MoveL} (h : MovesV w (.slice a l c) ms) (hk : ms[k]? = some m) : ∃ b off, a = some ⟨b, off, none⟩ ∧ b < w.heap.size ∧ w.cell? ⟨b, off + k * 3, none⟩ = some (.int .i64 m.kind) ∧ w.cell? ⟨b, off + k * 3 + 1, none⟩ = some (.int .i64 m.label) ∧ w.cell? ⟨b, off + k * 3 + 2, none⟩ = some (.int .i64 m.tran) := by
  obtain ⟨a', cap, e, hl, hm, hs, h1, hr⟩ := h
  injection e with e1 e2 e3
  subst e1
  have hkl : k < ms.length := by
    rcases Nat.lt_or_ge k ms.length with q | q
    · exact q
    · rw [List.getElem?_eq_none q] at hk; cases hk
  obtain ⟨c0, c1, c2⟩ := cellsM_at ms k hkl
  have hd : ms.getD k noMove = m := by simp [List.getD, hk]
  rw [hd] at c0 c1 c2
  obtain ⟨b, off, rfl, hlt, q0⟩ := hr _ _ c0
  obtain ⟨b1, off1, e1, _, q1⟩ := hr _ _ c1
  obtain ⟨b2, off2, e2, _, q2⟩ := hr _ _ c2
  injection e1 with e1
  injection e1 with e1 e1'
  injection e2 with e2
  injection e2 with e2 e2'
  subst e1 e1' e2 e2'
  exact ⟨b, off, rfl, hlt, q0, q1, q2⟩

set_option maxHeartbeats 8000000 in
theorem alignTrue_walk (v0 v3 : Value) (x0 : NetL) (x1 x2 : Int) (x3 : List Int) (W : World) (i0 : Net W v0 x0) (i3 : Ints W v3 x3) :
    Calls Try.prog 4 #[v0, .int .i64 x1, .int .i64 x2, v3] W fun e W' => e = .returned (.bool true) ∧ Below W.heap.size W W' := by
  obtain ⟨tv, rfl, hT⟩ := id i0
  obtain ⟨na, nl, nc, rfl, hnl, _⟩ := id hT
  have Hnl : Hid (x0.trans.length = nl) := hnl
  obtain ⟨ta, tl, tc, rfl, htl, _, _⟩ := id i3
  clear htl hnl
  have hbx := box2_new W (.int .i64 x0.places) (.slice na nl nc) 24
  have c := below_new W (.cells #[.int .i64 x0.places, .slice na nl nc] 24)
  obtain ⟨w0, H0⟩ : ∃ u, Hid (W.alloc (.cells #[.int .i64 x0.places, .slice na nl nc] 24) = u) := ⟨_, rfl⟩
  rw [H0.out] at hbx c
  obtain ⟨NB, HNB⟩ : ∃ z, Hid (W.heap.size = z) := ⟨_, rfl⟩
  have Hc : Hid (Below W.heap.size W w0) := c
  rw [HNB.out] at hbx
  clear c
  go_enter Try.func4, Try.ntmps4
  go_upto_region 1 with fail
  rw [H0.out, HNB.out]
  go_upto_region 3 with (go_at_call 8; refine (alive21_any _).mono ?_; rintro e w1 ⟨rfl, b⟩)
  have c1 := below_then Hc.out b
  have hbx1 := hbx.below b
  obtain ⟨_, y0, y1⟩ := id hbx1
  have hC := align_any (i := x1) (o := x2) (i0.below c1) (i3.below c1)
  unfold alignGoes at hC
  clear b hbx
  go_upto_region 4 with (go_at_call 6; refine hC.mono ?_; rintro e w2 ⟨r1, ms, ca, ea, rfl, hA, hM, b⟩; obtain ⟨ra, rc, rfl⟩ := hM.slice)
  have c2 := below_then c1 b
  have hbx2 := hbx1.below b
  clear hC b hbx1 c1 y0 y1
  by_cases he : ea = 0
  · subst he
    obtain ⟨hgood, hrun, hseen, hcost⟩ := ans_good hA
    have HG : Hid (∀ m ∈ ms, GoodM x0 m) := hgood
    have HRun : Hid (runL x0 (startL x0.places x1) (seqM ms) = (startL x0.places x2, 0)) := hrun
    have HSeen : Hid (seenM ms = x3) := hseen
    have HCost : Hid ((costM ms : Int) = ca) := hcost
    have HML : Hid (ms.length ≤ 1000000) := hM.len
    obtain ⟨L, HL⟩ : ∃ l, Hid (ms.length = l) := ⟨_, rfl⟩
    have hLs : L ≤ 1000000 := by rw [← HL.out]; exact HML.out
    rw [HL.out] at hM ⊢
    clear hA hgood hrun hseen hcost
    go_upto_region 6 with fail
    go_wp2_with fail
    go_loopg [12, 13, 14, 36] L (fun gk sv nv cv kv wr => ∃ k : Nat, k + gk = L ∧ kv = .int .i64 (k : Int) ∧ cv = .int .i64 ((costM (ms.take k) : Nat) : Int) ∧ Two w2.heap.size w2 wr sv nv (seqM (ms.take k)) (seenM (ms.take k)))
    case atStart => exact ⟨0, by omega, rfl, rfl, Two.start w2⟩
    case round =>
      obtain ⟨k, hkg, rfl, rfl, hTw⟩ := hrel
      by_cases hk : k < L
      · have hkl : k < ms.length := by rw [HL.out]; exact hk
        obtain ⟨m, Hm⟩ : ∃ m, Hid (ms[k]? = some m) := ⟨_, List.getElem?_eq_getElem hkl⟩
        have hgm := HG.out m (List.mem_of_getElem? Hm.out)
        obtain ⟨st1, st2, st3⟩ := seq_step Hm.out
        have hsl1 : (seqM (ms.take k)).length ≤ 1000000 := Nat.le_trans (seqM_le _) (by rw [List.length_take]; omega)
        have hsl2 : (seenM (ms.take k)).length ≤ 1000000 := Nat.le_trans (seenM_le _) (by rw [List.length_take]; omega)
        have hcl : costM (ms.take k) ≤ 1000000 := Nat.le_trans (costM_le _) (by rw [List.length_take]; omega)
        obtain ⟨CC, HCC⟩ : ∃ z, Hid (costM (ms.take k) = z) := ⟨_, rfl⟩
        rw [HCC.out] at st3 hcl
        rw [HCC.out]
        have hMr := hM.below hTw.below
        obtain ⟨b, off, rfl, hblt, q0, q1, q2⟩ := MovesV.at_ hMr Hm.out
        obtain ⟨mk, ml, mt⟩ := m
        simp only at q0 q1 q2
        have hy := box3_new wr (.int .i64 mk) (.int .i64 ml) (.int .i64 mt) 35
        have bA := below_new wr (.cells #[.int .i64 mk, .int .i64 ml, .int .i64 mt] 35)
        have hTwA := hTw.to bA
        have Hn1 : Hid (∀ j, u12.ownBlock = some j → j < wr.heap.size) := fun j hj => (ownsRow_lt hTw.own1 hj).2
        have Hn2 : Hid (∀ j, u13.ownBlock = some j → j < wr.heap.size) := fun j hj => (ownsRow_lt hTw.own2 hj).2
        obtain ⟨wA, HA⟩ : ∃ u, Hid (wr.alloc (.cells #[.int .i64 mk, .int .i64 ml, .int .i64 mt] 35) = u) := ⟨_, rfl⟩
        rw [HA.out] at hy bA hTwA
        go_upto_region 11 with fail
        rw [HA.out]
        obtain ⟨y, HY⟩ : ∃ z, Hid (wr.heap.size = z) := ⟨_, rfl⟩
        rw [HY.out] at hy Hn1 Hn2 ⊢
        have hbxA := hbx2.below (hTwA.below)
        have hTA := (i0.below c2).below hTwA.below
        clear q0 q1 q2 hTw hMr bA HA
        rcases hgm with hk2 | ⟨hk13, t, ht, htl, htlab, hl0, hl1⟩
        · simp only at hk2
          subst hk2
          rw [if_pos rfl] at st1
          rw [if_neg (fun h => by simp at h)] at st2
          have hpr : priceM ⟨2, ml, mt⟩ = 1 := by unfold priceM; simp
          rw [hpr] at st3
          obtain ⟨_, p0, p1, p2⟩ := id hy
          go_wp2_with (at_builtin; refine wp_append_two rfl _ _ rfl w2.heap.size w2 _ u13 u12 _ _ ml hTwA.swap rfl rfl (by omega) ?_; intro v1 w9 hTw3 hkp; obtain ⟨_, p0, p1, p2⟩ := box3_stay hy hkp (fun q => by have := Hn2.out _ q; omega))
          have HF : Hid (Two w2.heap.size w2 w9 u12 v1 (seqM (ms.take (k + 1))) (seenM (ms.take (k + 1)))) := by show Two _ _ _ _ _ _ _; rw [st1, st2]; exact hTw3.swap
          have HC2 : Hid (costM (ms.take (k + 1)) = CC + 1) := st3
          clear hTw3 hTwA hkp st1 st2 st3 hTA hbxA
          go_roundg (gk - 1)
          case measure => omega
          case rel => exact ⟨k + 1, by omega, by go_num, by rw [HC2.out]; go_num, HF.out⟩
        · simp only at ht htlab hl0 hl1 hk13
          subst ht
          have htn : t < nl := by rw [← Hnl.out]; exact htl
          obtain ⟨tv2, e2, hT2⟩ := hTA
          injection e2 with e2
          injection e2 with e2
          simp at e2
          subst e2
          obtain ⟨tb, tf, _, _, rfl, _, l0, _⟩ := hT2.at htn
          rw [htlab] at l0
          obtain ⟨_, z0, z1⟩ := id hbxA
          obtain ⟨_, p0, p1, p2⟩ := id hy
          have j0 : ¬ (t : Int) < 0 := by omega
          have j1 : decide ((t : Int) < 0) = false := decide_eq_false j0
          have j2 : (t : Int) < (nl : Int) := by omega
          have j3 : decide ((nl : Int) ≤ (t : Int)) = false := decide_eq_false (by omega)
          have j4 : (0 : Int) ≤ (t : Int) := by omega
          rcases hk13 with e3 | e3
          · subst e3
            have hlz := hl1 rfl
            rw [if_neg (fun h => by simp at h)] at st1 st2
            have hpr : priceM ⟨1, ml, (t : Int)⟩ = 0 := by unfold priceM; simp
            rw [hpr] at st3
            have jz : (ml == 0) = false := by rw [beq_eq_false_iff_ne]; exact hlz
            go_upto_region 12 with fail
            go_quiet (fail)
            have hTwB := hTwA.to (below_drewN (Below.refl _ _) nq)
            have hyB := hy.below (below_drewN (Below.refl _ _) nq)
            obtain ⟨wB, HwB⟩ : ∃ z, Hid (wA.drewN nq = z) := ⟨_, rfl⟩
            rw [HwB.out] at hTwB hyB ⊢
            clear HwB hTwA hy p0 p1 p2 z0 z1 l0
            obtain ⟨_, p0, p1, p2⟩ := id hyB
            go_upto_region 15 with (at_builtin; refine wp_append_two rfl _ _ rfl w2.heap.size w2 _ u12 u13 _ _ (t : Int) hTwB rfl rfl (by omega) ?_; intro v1 w9 hTw3 hkp; have hy9 := box3_stay hyB hkp (fun q => by have := Hn1.out _ q; omega); have Hv1 : Hid (Two w2.heap.size w2 w9 v1 u13 (seqM (ms.take k) ++ [(t : Int)]) (seenM (ms.take k))) := hTw3)
            clear hTw3 hkp hTwB hyB p0 p1 p2
            obtain ⟨_, p0, p1, p2⟩ := id hy9
            have hTw9 := Hv1.out
            have Hy3 : Hid (v1.ownBlock = none ∨ True) := .inr trivial
            go_wp2_with (at_builtin; refine wp_append_two rfl _ _ rfl w2.heap.size w2 _ u13 v1 _ _ ml hTw9.swap rfl rfl (by omega) ?_; intro v2 w10 hTw4 hkp; obtain ⟨_, p0, p1, p2⟩ := box3_stay hy9 hkp (fun q => by have := Hn2.out _ q; omega))
            have HF : Hid (Two w2.heap.size w2 w10 v1 v2 (seqM (ms.take (k + 1))) (seenM (ms.take (k + 1)))) := by show Two _ _ _ _ _ _ _; rw [st1, st2]; exact hTw4.swap
            have HC2 : Hid (costM (ms.take (k + 1)) = CC) := st3
            clear hTw4 hTw9 hkp st1 st2 st3 hy9 hbxA hT2
            go_roundg (gk - 1)
            case measure => omega
            case rel => exact ⟨k + 1, by omega, by go_num, by rw [HC2.out], HF.out⟩
          · subst e3
            rw [if_neg (fun h => by simp at h)] at st1
            rw [if_pos rfl] at st2
            go_upto_region 12 with fail
            go_quiet (fail)
            have hTwB := hTwA.to (below_drewN (Below.refl _ _) nq)
            have hyB := hy.below (below_drewN (Below.refl _ _) nq)
            obtain ⟨wB, HwB⟩ : ∃ z, Hid (wA.drewN nq = z) := ⟨_, rfl⟩
            rw [HwB.out] at hTwB hyB ⊢
            clear HwB hTwA hy p0 p1 p2 z0 z1 l0
            obtain ⟨_, p0, p1, p2⟩ := id hyB
            go_upto_region 15 with (at_builtin; refine wp_append_two rfl _ _ rfl w2.heap.size w2 _ u12 u13 _ _ (t : Int) hTwB rfl rfl (by omega) ?_; intro v1 w9 hTw3 hkp; have hy9 := box3_stay hyB hkp (fun q => by have := Hn1.out _ q; omega); have Hv1 : Hid (Two w2.heap.size w2 w9 v1 u13 (seqM (ms.take k) ++ [(t : Int)]) (seenM (ms.take k))) := hTw3)
            clear hTw3 hkp hTwB hyB p0 p1 p2
            obtain ⟨_, p0, p1, p2⟩ := id hy9
            have HF : Hid (Two w2.heap.size w2 w9 v1 u13 (seqM (ms.take (k + 1))) (seenM (ms.take (k + 1)))) := by show Two _ _ _ _ _ _ _; rw [st1, st2]; exact Hv1.out
            by_cases hz : ml = 0
            · subst hz
              have hpr : priceM ⟨3, 0, (t : Int)⟩ = 0 := by unfold priceM; simp
              rw [hpr] at st3
              have HC2 : Hid (costM (ms.take (k + 1)) = CC) := st3
              clear st1 st2 st3 hy9 hbxA hT2 Hv1
              go_wp2
              go_roundg (gk - 1)
              case measure => omega
              case rel => exact ⟨k + 1, by omega, by go_num, by rw [HC2.out], HF.out⟩
            · have hpr : priceM ⟨3, ml, (t : Int)⟩ = 1 := by unfold priceM; simp [hz]
              rw [hpr] at st3
              have hzp : 0 < ml := by omega
              have HC2 : Hid (costM (ms.take (k + 1)) = CC + 1) := st3
              clear st1 st2 st3 hy9 hbxA hT2 Hv1
              go_wp2
              go_roundg (gk - 1)
              case measure => omega
              case rel => exact ⟨k + 1, by omega, by go_num, by rw [HC2.out]; go_num, HF.out⟩
      · obtain rfl : k = L := by omega
        have etk : ms.take k = ms := List.take_of_length_le (by rw [HL.out]; exact Nat.le_refl _)
        rw [etk] at hTw ⊢
        have hs1 : Ints wr u12 (seqM ms) := hTw.ints1 (Nat.le_trans (seqM_le _) (by rw [HL.out]; omega))
        have hs2 : Ints wr u13 (seenM ms) := hTw.ints2 (Nat.le_trans (seenM_le _) (by rw [HL.out]; omega))
        rw [HSeen.out] at hs2
        have cR := below_then c2 (hTw.below.mono (Nat.le_refl _))
        have hbxR := hbx2.below hTw.below
        obtain ⟨sa, sl, sc, rfl, _⟩ := id hs1
        obtain ⟨na2, nl2, nc2, rfl, _⟩ := id hs2
        have HCR : Hid (Below W.heap.size W wr) := cR
        have HC0 : Hid ((costM ms : Int) = ca) := HCost.out
        clear hTw etk cR
        go_upto_region 23 with fail
        go_cut [17, 18] (fun x17 x18 wc => ∃ xa xl xc, x17 = .slice xa xl xc ∧ x18 = .int .i64 0 ∧ Ints wc (.slice xa xl xc) (startL x0.places x2) ∧ Below wr.heap.size wr wc)
        case first =>
          have HS : Hid (∀ w', Below wr.heap.size wr w' →  w'.cell? ⟨NB, 0, none⟩ = some (.int .i64 x0.places) ∧ w'.cell? ⟨NB, 1, none⟩ = some (.slice na nl nc)) := fun w' hb => by
            obtain ⟨_, q0, q1⟩ := hbxR.below hb
            exact ⟨q0, q1⟩
          have HN : Hid (∀ w', Below wr.heap.size wr w' → Net w' (.agg #[.int .i64 x0.places, .slice na nl nc]) x0) := fun w' hb => (i0.below HCR.out).below hb
          refine wp_region_held_drew (S := (fun w' => w'.cell? ⟨NB, 0, none⟩ = some (.int .i64 x0.places) ∧ w'.cell? ⟨NB, 1, none⟩ = some (.slice na nl nc))) (by kernel_rfl) (HS.out _ (Below.refl _ _).drew) (fun hH => ?_)
          have b : Below wr.heap.size wr wr.drew := (Below.refl _ _).drew
          obtain ⟨u0, Hv0⟩ : ∃ v0', Hid (wr.drew = v0') := ⟨_, rfl⟩
          rw [Hv0.out] at hH b ⊢
          clear Hv0
          refine wpAnyH_take (i := 0) (v := .agg #[.int .i64 x0.places, .slice na nl nc]) rfl (by kernel_rfl) (by kernel_rfl) (by kernel_rfl) (fun _ _ _ h => h) (.inl ⟨by rfl, fun w' hS' => by obtain ⟨s0, s1⟩ := hS'; go_simp⟩) hH ?_
          simp only [List.getElem_toArray, List.getElem_cons_succ, List.getElem_cons_zero, Act.put, List.setIfInBounds_toArray, List.set_cons_zero, List.set_cons_succ]
          refine wpAnyH_take (i := 1) (v := .agg #[.int .i64 x0.places, .slice na nl nc]) rfl (by kernel_rfl) (by kernel_rfl) (by kernel_rfl) (fun _ _ _ h => h) (.inl ⟨by rfl, fun w' hS' => by obtain ⟨s0, s1⟩ := hS'; go_simp⟩) hH ?_
          simp only [List.getElem_toArray, List.getElem_cons_succ, List.getElem_cons_zero, Act.put, List.setIfInBounds_toArray, List.set_cons_zero, List.set_cons_succ]
          refine wpAnyH_take (i := 2) (v := .int .i64 x1) rfl (by kernel_rfl) (by kernel_rfl) (by kernel_rfl) (fun _ _ _ h => h) (.inl ⟨by rfl, fun _ _ => rfl⟩) hH ?_
          simp only [List.getElem_toArray, List.getElem_cons_succ, List.getElem_cons_zero, Act.put, List.setIfInBounds_toArray, List.set_cons_zero, List.set_cons_succ]
          refine wpAnyH_take (i := 4) (v := .slice sa sl sc) rfl (by kernel_rfl) (by kernel_rfl) (by kernel_rfl) (fun _ _ _ h => h) (.inl ⟨by rfl, fun _ _ => rfl⟩) hH ?_
          simp only [List.getElem_toArray, List.getElem_cons_succ, List.getElem_cons_zero, Act.put, List.setIfInBounds_toArray, List.set_cons_zero, List.set_cons_succ]
          refine wpAnyH_ready (rs := [3]) (by kernel_rfl) (by simp) ?_
          refine AllReadyH.cons rfl (fun K hK => ?_) AllReadyH.nil
          simp only [List.getElem_toArray, List.getElem_cons_succ, List.getElem_cons_zero]
          rw [if_pos (by rfl)]
          go_wp2_with fail
          refine (shape_start_own _ x0 x1 u0 (HN.out _ b)).mono ?_
          rintro e u1 ⟨r, rfl, hO, bs⟩
          have hS0 := hO.now
          obtain ⟨qa, ql, qc, rfl, _⟩ := id hS0
          replace b := below_then b bs
          refine hK.out _ _ (HS.out _ b) (fun hH => ?_)
          clear hK
          refine wpAnyH_ready (rs := [5]) (by kernel_rfl) (by simp) ?_
          refine AllReadyH.cons rfl (fun K hK => ?_) AllReadyH.nil
          simp only [List.getElem_toArray, List.getElem_cons_succ, List.getElem_cons_zero]
          rw [if_pos (by rfl)]
          go_wp2_with fail
          have hR := net_run_own x0 (seqM ms) _ _ _ (startL x0.places x1) u1 (HN.out _ b) hS0 (hs1.below b)
          rw [HRun.out] at hR
          refine hR.mono ?_
          rintro e u2 ⟨r2, rfl, hO2, bs2⟩
          have hX := hO2.now
          obtain ⟨xa, xl, xc, rfl, _⟩ := id hX
          replace b := below_then b bs2
          refine hK.out _ _ (HS.out _ b) (fun hH => ?_)
          clear hK hR
          refine wpAnyH_take (i := 6) (v := .tuple #[.slice xa xl xc, .int .i64 0]) rfl (by kernel_rfl) (by kernel_rfl) (by kernel_rfl) (fun _ _ _ h => h) (.inl ⟨by rfl, fun _ _ => rfl⟩) hH ?_
          simp only [List.getElem_toArray, List.getElem_cons_succ, List.getElem_cons_zero, Act.put, List.setIfInBounds_toArray, List.set_cons_zero, List.set_cons_succ]
          refine wpAnyH_take (i := 7) (v := .slice xa xl xc) rfl (by kernel_rfl) (by kernel_rfl) (by kernel_rfl) (fun _ _ _ h => h) (.inl ⟨by rfl, fun w' hS' => by first | (go_simp; done) | (go_simp; rfl) | (go_simp; intro h; omega) | (go_simp; omega)⟩) hH ?_
          simp only [List.getElem_toArray, List.getElem_cons_succ, List.getElem_cons_zero, Act.put, List.setIfInBounds_toArray, List.set_cons_zero, List.set_cons_succ]
          refine wpAnyH_take (i := 8) (v := .int .i64 0) rfl (by kernel_rfl) (by kernel_rfl) (by kernel_rfl) (fun _ _ _ h => h) (.inl ⟨by rfl, fun w' hS' => by first | (go_simp; done) | (go_simp; rfl) | (go_simp; intro h; omega) | (go_simp; omega)⟩) hH ?_
          simp only [List.getElem_toArray, List.getElem_cons_succ, List.getElem_cons_zero, Act.put, List.setIfInBounds_toArray, List.set_cons_zero, List.set_cons_succ]
          refine wpAnyH_take (i := 9) (v := .slice xa xl xc) rfl (by kernel_rfl) (by kernel_rfl) (by kernel_rfl) (fun _ _ _ h => h) (.inl ⟨by rfl, fun _ _ => rfl⟩) hH ?_
          simp only [List.getElem_toArray, List.getElem_cons_succ, List.getElem_cons_zero, Act.put, List.setIfInBounds_toArray, List.set_cons_zero, List.set_cons_succ]
          refine wpAnyH_take (i := 10) (v := .int .i64 0) rfl (by kernel_rfl) (by kernel_rfl) (by kernel_rfl) (fun _ _ _ h => h) (.inl ⟨by rfl, fun _ _ => rfl⟩) hH ?_
          simp only [List.getElem_toArray, List.getElem_cons_succ, List.getElem_cons_zero, Act.put, List.setIfInBounds_toArray, List.set_cons_zero, List.set_cons_succ]
          refine wpAnyH_done (by kernel_rfl) ?_ _
          go_wp2_with fail
          go_meet
          exact ⟨xa, xl, xc, rfl, rfl, hX, b⟩
        case rest =>
          obtain ⟨xa, xl, xc, rfl, rfl, hX, bc⟩ := hcut
          obtain ⟨w5, rfl⟩ : ∃ z, z = wc := ⟨_, rfl⟩
          have c5 := below_then HCR.out bc
          have hN5 := i0.below c5
          have hSeen5 := hs2.below bc
          have hTr5 := i3.below c5
          obtain ⟨_, z0, z1⟩ := hbxR.below bc
          have hcc := HC0.out
          clear hs1 hs2 bc hbxR
          go_wp2_with (first
            | (go_at_call 10; refine (shape_start_own _ x0 x2 _ (by exact hN5)).mono ?_; rintro e w7 ⟨r7, rfl, hO7, b7⟩; have hE7 := hO7.now; obtain ⟨ea, el, ec, rfl, _⟩ := id hE7; have hX7 := hX.below b7; have hSeen7 := hSeen5.below b7; have hTr7 := hTr5.below b7)
            | (go_at_call 11; refine (equal_b _ _ (startL x0.places x2) (startL x0.places x2) _ (by exact hX7) (by exact hE7)).mono ?_; rintro e w8 ⟨rfl, b8⟩; rw [beq_self_eq_true]; have hSeen8 := hSeen7.below b8; have hTr8 := hTr7.below b8)
            | (go_at_call 11; refine (equal_b _ _ x3 x3 _ (by exact hSeen8) (by exact hTr8)).mono ?_; rintro e w9 ⟨rfl, b9⟩; rw [beq_self_eq_true]))
          have R := below_then (below_then (below_then c5 b7) b8) b9
          go_ret
          exact ⟨by simp [hcc], R⟩
  · have hz := ans_zero hA he
    subst hz
    have n1 : (ea == 0) = false := by rw [beq_eq_false_iff_ne]; exact he
    clear hA hM hbx2
    go_wp2
    go_ret
    exact ⟨rfl, c2⟩

end Go.Proofs.Ytakgppoeikcepaa