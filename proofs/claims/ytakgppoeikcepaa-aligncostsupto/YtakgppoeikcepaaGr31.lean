import Derived.Test.YtakgppoeikcepaaGr30
import Derived.Test.YtakgppoeikcepaaGr29
import Derived.Test.YtakgppoeikcepaaGr00
import Derived.Test.YtakgppoeikcepaaGr05
import Derived.Test.YtakgppoeikcepaaShapeDev
import Derived.Test.YtakgppoeikcepaaReachDev
import Derived.Test.YtakgppoeikcepaaGr22
import Derived.Test.YtakgppoeikcepaaGr14
/- wayTo: back to the beginning. (Made by tools/gen_alignway.py.) -/
namespace Go.Proofs.Ytakgppoeikcepaa
open Go.RowKit
set_option linter.unusedVariables false
set_option linter.unusedSimpArgs false
set_option maxRecDepth 4000

theorem row_lenW {w : World} {B : Nat} {e : TypeId} {size n l c : Nat} {a : Option Addr} {xs : List Value} (h : w.ownsRow B e size (.slice a l c) n xs) : l = n := by
  rcases h.2 with ⟨q, h0⟩ | ⟨g, cap, cur, q, _⟩
  · injection q with _ q _; omega
  · injection q

/-- A spot's block. -/
def BoxP (w : World) (b : Nat) (x y : Nat) : Prop := w.heap[b]? = some (.cells #[.int .i64 (x : Int), .int .i64 (y : Int)] 60 (0, 0))
theorem BoxP.lt {w : World} {b x y : Nat} (h : BoxP w b x y) : b < w.heap.size := (Array.getElem?_eq_some_iff.1 h).1
theorem BoxP.below {w w' : World} {b x y : Nat} (h : BoxP w b x y) (hb : Below w.heap.size w w') : BoxP w' b x y := (hb.block b h.lt).trans h
theorem BoxP.grown {w w' : World} {b x y : Nat} {row : Option Nat} (h : BoxP w b x y) (hg : w.grownBy w' row) (hne : row ≠ some b) : BoxP w' b x y := (hg.block b h.lt fun e => hne e.symm).trans h
theorem BoxP.cells {w : World} {b x y : Nat} (h : BoxP w b x y) : (w.cell? ⟨b, 0, none⟩ = some (.int .i64 (x : Int)) ∧ w.cell? ⟨b, 1, none⟩ = some (.int .i64 (y : Int))) ∧ w.frozen? ⟨b, 0, none⟩ = false ∧ w.frozen? ⟨b, 1, none⟩ = false := by
  unfold BoxP at h
  refine ⟨⟨?_, ?_⟩, ?_, ?_⟩
  all_goals simp [World.cell?, World.frozen?, h]
theorem boxP_new (w : World) (x y : Nat) : BoxP (w.alloc (.cells #[.int .i64 (x : Int), .int .i64 (y : Int)] 60)) w.heap.size x y := heap_alloc_new w _
theorem boxP_store {w : World} {b x y : Nat} (h : BoxP w b x y) (x' y' : Nat) : BoxP ((w.setCell ⟨b, 0, none⟩ (.int .i64 (x' : Int))).setCell ⟨b, 1, none⟩ (.int .i64 (y' : Int))) b x' y' := by
  unfold BoxP at h ⊢
  rw [setCell_block (setCell_block h _) _]
  rfl
theorem elemM : ElemT 26 35 3 24 := ElemT.of (z := .agg #[.int .i64 0, .int .i64 0, .int .i64 0]) Try.underlying26 (by kernel_rfl) rfl (by omega)
theorem OwnC.set2 {B : Nat} {w wr : World} {e : TypeId} {size n : Nat} {v : Value} {xs : List Value} (h : OwnC B w wr e size v n xs) {b : Nat} (hb : B ≤ b) (hne : v.ownBlock ≠ some b) (u0 u1 : Value) : OwnC B w ((wr.setCell ⟨b, 0, none⟩ u0).setCell ⟨b, 1, none⟩ u1) e size v n xs :=
  ⟨(((ownsRow_on h.1).set (a := ⟨b, 0, none⟩) (fun q => hne q.1) u0).set (a := ⟨b, 1, none⟩) (fun q => hne q.1) u1).now, (h.2.1.setCell (p := ⟨b, 0, none⟩) hb u0).setCell (p := ⟨b, 1, none⟩) hb u1, by simpa [World.setCell] using h.2.2⟩

set_option maxHeartbeats 8000000 in
theorem wayto_any {mb n S : Nat} {goal : Nat × Nat} {v0 v1 v2 : Value} {st : SrchL} {A : List ArcL} {lb : Nat → Int} {tr : List Int} {N c : Nat} {pend : List (Nat × Nat)} {w : World} {sg : StepL} (hm : MapA 60 spotLit okS w mb n (mapV st.by_)) (hS : Box4A w S v0 v1 v2 (.map (some mb))) (hI : InvS A lb tr N c st pend)
    (hg : st.by_ goal = some sg) (htr : tr.length ≤ 60) (hN : N ≤ 300) :
    Calls Try.prog 20 #[.pointer (some ⟨S, 0, none⟩), .agg #[.int .i64 (goal.1 : Int), .int .i64 (goal.2 : Int)]] w fun e w' => ∃ v ms, e = .returned v ∧ OwnC w.heap.size w w' 35 3 v ms.length (cellsM ms) ∧ Lay A lb tr (0, 0) ms goal ∧ costM ms = sg.cost ∧ ms.length ≤ 18300 := by
  obtain ⟨rk, hrk⟩ := hI.rank
  have Hrk : Hid (RankS A lb tr st rk) := hrk
  have HI : Hid _ := hI
  have HM : Hid (∀ w', Below w.heap.size w w' → MapA 60 spotLit okS w' mb n (mapV st.by_)) := fun w' hb => hm.below hb
  have HSb : Hid (∀ w', Below w.heap.size w w' → w'.cell? ⟨S, 3, none⟩ = some (.map (some mb))) := fun w' hb => (hS.below hb).2.2.2.2
  have hback := BackS.start (A := A) (lb := lb) (tr := tr) (N := N) (rk := rk) hg
  obtain ⟨g1, g2⟩ := goal
  simp only
  have HG : Hid (st.by_ (g1, g2) = some sg) := hg
  have HR0 : Hid (∀ p s, st.by_ p = some s → p.1 ≤ 300 ∧ p.2 ≤ 60) := fun p s h => by have := hI.range p s h; omega
  have hrm : N * (tr.length + 1) ≤ 18300 := by
    have : N * (tr.length + 1) ≤ 300 * 61 := Nat.mul_le_mul hN (by omega)
    omega
  have hx1 := boxP_new w g1 g2
  have b1 := below_new w (.cells #[.int .i64 (g1 : Int), .int .i64 (g2 : Int)] 60)
  have z1 : (w.alloc (.cells #[.int .i64 (g1 : Int), .int .i64 (g2 : Int)] 60)).heap.size = w.heap.size + 1 := by simp
  obtain ⟨w1, H1⟩ : ∃ u, Hid (w.alloc (.cells #[.int .i64 (g1 : Int), .int .i64 (g2 : Int)] 60) = u) := ⟨_, rfl⟩
  rw [H1.out] at hx1 b1 z1
  have hx2 := boxP_new w1 g1 g2
  have b2 := below_new w1 (.cells #[.int .i64 (g1 : Int), .int .i64 (g2 : Int)] 60)
  obtain ⟨w2, H2⟩ : ∃ u, Hid (w1.alloc (.cells #[.int .i64 (g1 : Int), .int .i64 (g2 : Int)] 60) = u) := ⟨_, rfl⟩
  rw [H2.out] at hx2 b2
  rw [z1] at hx2
  have b := below_then b1 b2
  have HO : Hid (OwnC w.heap.size w w2 35 3 (.slice none 0 0) 0 []) := OwnC.nil_of b b.size
  obtain ⟨X, HX⟩ : ∃ x, Hid (w.heap.size = x) := ⟨_, rfl⟩
  have Hz : Hid (w1.heap.size = X + 1) := by show _ = _; rw [z1, HX.out]
  obtain ⟨⟨y0, y1⟩, _⟩ := hx1.cells
  rw [HX.out] at hx2 y0 y1 HO HM HSb
  clear hm hS hI hg hrk b b1 b2 z1 hx1
  go_enter Try.func20, Try.ntmps20
  go_upto_region 1 with fail
  rw [H1.out, HX.out]
  go_wp2_with fail
  rw [H2.out, Hz.out]
  go_loopg [5, 6] (rk (g1, g2)) (fun gk way at_ wr => ∃ (p : Nat × Nat) (ms : List MoveL) (vs : List (Nat × Nat)) (ab : Nat), at_ = .pointer (some ⟨ab, 0, none⟩) ∧ BoxP wr ab p.1 p.2 ∧ OwnC X w wr 35 3 way ms.length (cellsM ms.reverse) ∧ way.ownBlock ≠ some ab ∧ X ≤ ab ∧ BackS A lb tr N st rk (g1, g2) sg p ms vs ∧ gk = rk p)
  case atStart => exact ⟨(g1, g2), [], [], X + 1, rfl, hx2, HO.out, by simp [Value.ownBlock], by omega, hback, rfl⟩
  case round =>
    clear hback HO hx2 y0 y1
    obtain ⟨⟨p1, p2⟩, ms, vs, ab, rfl, hP, hO, hne, hXa, hB, rfl⟩ := hrel
    obtain ⟨wa, wl, wc', rfl⟩ := ownsRow_slice hO.1
    have Hw : Hid (wl = ms.length) := row_lenW hO.1
    simp only at hP
    obtain ⟨⟨x0, x1⟩, _⟩ := hP.cells
    obtain ⟨s, hs, -⟩ := hB.at_
    by_cases hp : (p1, p2) = ((0, 0) : Nat × Nat)
    · injection hp with e1 e2
      subst e1 e2
      have HEnd : Hid (Lay A lb tr (0, 0) ms (g1, g2) ∧ costM ms = sg.cost ∧ ms.length ≤ 18300) := ⟨(hB.done HI.out).1, (hB.done HI.out).2, Nat.le_trans hB.short hrm⟩
      have hlen : ms.reverse.length = ms.length := List.length_reverse
      have hrl : ms.reverse.length ≤ 1000000 := by rw [hlen]; have := hB.short; omega
      have hC := revmoves_any X w _ ms.reverse wr (by rw [hlen]; exact hO) hrl
      rw [List.reverse_reverse, hlen] at hC
      clear hB
      go_wp2_with (go_at_call 31; refine hC.mono ?_; rintro e w6 ⟨rfl, hO6⟩)
      go_ret
      exact ⟨_, ms, rfl, by rw [HX.out]; exact hO6, HEnd.out⟩
    · have hq : ¬ ((p1 : Int) = 0 ∧ (p2 : Int) = 0) := fun q => hp (by ext <;> simp <;> omega)
      obtain ⟨hB2, hlt⟩ := hB.step Hrk.out HI.out hs hp
      have hsp := HR0.out _ _ hs
      obtain ⟨sf, hsf, -⟩ := Hrk.out _ _ hs hp
      have hfr := HR0.out _ _ hsf
      obtain ⟨⟨f1, f2⟩, ⟨mk, ml, mt⟩, sc⟩ := s
      simp only at hB2 hlt hfr hsp
      have hsh := hB.short
      have hSz : X ≤ wr.heap.size := hO.2.2
      obtain ⟨wq, rfl⟩ : ∃ z, z = wr := ⟨_, rfl⟩
      go_upto_region 5 with fail
      all_goals
        try (rename (p1 : Int) = 0 => h0; clear h0)
        try (rename p1 = 0 => h0; clear h0)
        have HLK : Hid (∀ w' : World, MapA 60 spotLit okS w' mb n (mapV st.by_) → (Instr.lookup 56 (.map (some mb)) (.agg #[.int .i64 (p1 : Int), .int .i64 (p2 : Int)]) false).run Try.prog w' = .ok (.agg #[.int .i64 (f1 : Int), .int .i64 (f2 : Int), .int .i64 mk, .int .i64 ml, .int .i64 mt, .int .i64 (sc : Int)]) w') := fun w' hm => by
          have := hm.look spot_key Try.underlying56 (e := 64) (z := stepZ) (by kernel_rfl) (x := (p1, p2)) ⟨by show p1 ≤ _; omega, by show p2 ≤ _; omega⟩
          unfold mapV at this
          rw [hs] at this
          exact this
        have HS : Hid (∀ w', Below wq.heap.size wq w' →  w'.cell? ⟨S, 3, none⟩ = some (.map (some mb)) ∧ w'.cell? ⟨ab, 0, none⟩ = some (.int .i64 (p1 : Int)) ∧ w'.cell? ⟨ab, 1, none⟩ = some (.int .i64 (p2 : Int)) ∧ MapA 60 spotLit okS w' mb n (mapV st.by_)) := fun w' hb => by
          have hbx : Below X w w' := hO.2.1.trans (hb.mono hSz)
          obtain ⟨⟨q0, q1⟩, _⟩ := (hP.below hb).cells
          exact ⟨HSb.out _ hbx, q0, q1, HM.out _ hbx⟩
        refine wp_region_held_drew (S := (fun w' => w'.cell? ⟨S, 3, none⟩ = some (.map (some mb)) ∧ w'.cell? ⟨ab, 0, none⟩ = some (.int .i64 (p1 : Int)) ∧ w'.cell? ⟨ab, 1, none⟩ = some (.int .i64 (p2 : Int)) ∧ MapA 60 spotLit okS w' mb n (mapV st.by_))) (by kernel_rfl) (HS.out _ (Below.refl _ _).drew) (fun hH => ?_)
        have b : Below wq.heap.size wq wq.drew := (Below.refl _ _).drew
        obtain ⟨v0', Hv0⟩ : ∃ v0', Hid (wq.drew = v0') := ⟨_, rfl⟩
        rw [Hv0.out] at hH b ⊢
        clear Hv0
        refine wpAnyH_take (i := 0) (v := .slice wa wl wc') rfl (by kernel_rfl) (by kernel_rfl) (by kernel_rfl) (fun _ _ _ h => h) (.inl ⟨by rfl, fun _ _ => rfl⟩) hH ?_
        simp only [List.getElem_toArray, List.getElem_cons_succ, List.getElem_cons_zero, Act.put, List.setIfInBounds_toArray, List.set_cons_zero, List.set_cons_succ]
        refine wpAnyH_take (i := 1) (v := .pointer (some ⟨S, 0, none⟩)) rfl (by kernel_rfl) (by kernel_rfl) (by kernel_rfl) (fun _ _ _ h => h) (.inl ⟨by rfl, fun _ _ => rfl⟩) hH ?_
        simp only [List.getElem_toArray, List.getElem_cons_succ, List.getElem_cons_zero, Act.put, List.setIfInBounds_toArray, List.set_cons_zero, List.set_cons_succ]
        refine wpAnyH_take (i := 2) (v := .pointer (some ⟨S, 0, none⟩)) rfl (by kernel_rfl) (by kernel_rfl) (by kernel_rfl) (fun _ _ _ h => h) (.inl ⟨by rfl, fun w' hS' => by first | (go_simp; done) | (go_simp; rfl) | (go_simp; intro h; omega) | (go_simp; omega)⟩) hH ?_
        simp only [List.getElem_toArray, List.getElem_cons_succ, List.getElem_cons_zero, Act.put, List.setIfInBounds_toArray, List.set_cons_zero, List.set_cons_succ]
        refine wpAnyH_take (i := 3) (v := .pointer (some ⟨S, 3, none⟩)) rfl (by kernel_rfl) (by kernel_rfl) (by kernel_rfl) (fun _ _ _ h => h) (.inl ⟨by rfl, fun w' hS' => by first | (go_simp; done) | (go_simp; rfl) | (go_simp; intro h; omega) | (go_simp; omega)⟩) hH ?_
        simp only [List.getElem_toArray, List.getElem_cons_succ, List.getElem_cons_zero, Act.put, List.setIfInBounds_toArray, List.set_cons_zero, List.set_cons_succ]
        refine wpAnyH_take (i := 4) (v := .map (some mb)) rfl (by kernel_rfl) (by kernel_rfl) (by kernel_rfl) (fun _ _ _ h => h) (.inl ⟨by rfl, fun w' hS' => by obtain ⟨s0, s1, s2, hm⟩ := hS'; go_simp⟩) hH ?_
        simp only [List.getElem_toArray, List.getElem_cons_succ, List.getElem_cons_zero, Act.put, List.setIfInBounds_toArray, List.set_cons_zero, List.set_cons_succ]
        refine wpAnyH_take (i := 5) (v := .agg #[.int .i64 (p1 : Int), .int .i64 (p2 : Int)]) rfl (by kernel_rfl) (by kernel_rfl) (by kernel_rfl) (fun _ _ _ h => h) (.inl ⟨by rfl, fun w' hS' => by obtain ⟨s0, s1, s2, hm⟩ := hS'; go_simp⟩) hH ?_
        simp only [List.getElem_toArray, List.getElem_cons_succ, List.getElem_cons_zero, Act.put, List.setIfInBounds_toArray, List.set_cons_zero, List.set_cons_succ]
        refine wpAnyH_take (i := 6) (v := .agg #[.int .i64 (f1 : Int), .int .i64 (f2 : Int), .int .i64 mk, .int .i64 ml, .int .i64 mt, .int .i64 (sc : Int)]) rfl (by kernel_rfl) (by kernel_rfl) (by kernel_rfl) (fun _ _ _ h => h) (.inl ⟨by rfl, fun w' hS' => by obtain ⟨s0, s1, s2, hm⟩ := hS'; have hrun := HLK.out _ hm; go_simp⟩) hH ?_
        simp only [List.getElem_toArray, List.getElem_cons_succ, List.getElem_cons_zero, Act.put, List.setIfInBounds_toArray, List.set_cons_zero, List.set_cons_succ]
        refine wpAnyH_take (i := 7) (v := .agg #[.int .i64 mk, .int .i64 ml, .int .i64 mt]) rfl (by kernel_rfl) (by kernel_rfl) (by kernel_rfl) (fun _ _ _ h => h) (.inl ⟨by rfl, fun w' hS' => by first | (go_simp; done) | (go_simp; rfl) | (go_simp; intro h; omega) | (go_simp; omega)⟩) hH ?_
        simp only [List.getElem_toArray, List.getElem_cons_succ, List.getElem_cons_zero, Act.put, List.setIfInBounds_toArray, List.set_cons_zero, List.set_cons_succ]
        have ba := below_new v0' (.cells #[.int .i64 mk, .int .i64 ml, .int .i64 mt] 35)
        have hcell : ∀ j u, (moveC ⟨mk, ml, mt⟩)[j]? = some u → (v0'.alloc (.cells #[.int .i64 mk, .int .i64 ml, .int .i64 mt] 35)).cell? (Addr.add ⟨v0'.heap.size, 0, none⟩ j) = some u := fun j u hj => by
          rw [addr_add, World.cell?_alloc_at _ _ _ _ rfl]
          match j, hj with
          | 0, hj => simpa [moveC] using hj
          | 1, hj => simpa [moveC] using hj
          | 2, hj => simpa [moveC] using hj
        obtain ⟨M, HM'⟩ : ∃ N, Hid (v0'.heap.size = N) := ⟨_, rfl⟩
        obtain ⟨v1', Hnew⟩ : ∃ v, Hid (v0'.alloc (.cells #[.int .i64 mk, .int .i64 ml, .int .i64 mt] 35) = v) := ⟨_, rfl⟩
        rw [Hnew.out] at ba hcell
        rw [HM'.out] at hcell
        refine wpAnyH_ready (rs := [8]) (by kernel_rfl) (by simp) ?_
        refine AllReadyH.cons rfl (fun K hK => ?_) AllReadyH.nil
        simp only [List.getElem_toArray, List.getElem_cons_succ, List.getElem_cons_zero]
        rw [if_pos (by rfl)]
        go_wp2_with fail
        rw [Hnew.out, HM'.out]
        replace b := below_then b ba
        refine hK.out _ _ (HS.out _ b) (fun hH => ?_)
        clear hK
        refine wpAnyH_ready (rs := [9]) (by kernel_rfl) (by simp) ?_
        refine AllReadyH.cons rfl (fun K hK => ?_) AllReadyH.nil
        simp only [List.getElem_toArray, List.getElem_cons_succ, List.getElem_cons_zero]
        refine wpr_append_cells elemM (by rfl) _ _ rfl X w v1' (.slice wa wl wc') ms.length 1 1 ⟨M, 0, none⟩ (cellsM ms.reverse) (moveC ⟨mk, ml, mt⟩) (hO.trans b) rfl rfl rfl hcell (by intro u hu; simp only [moveC, List.mem_cons, List.not_mem_nil, or_false] at hu; rcases hu with rfl | rfl | rfl <;> rfl) (by unfold maxLen; omega) (by omega) ?_
        intro v' w6 hO6 hg6
        obtain ⟨a5, l5, c5, rfl⟩ := ownsRow_slice hO6.1
        have hP6 := (hP.below b).grown hg6 hne
        have hHS :  w6.cell? ⟨S, 3, none⟩ = some (.map (some mb)) ∧ w6.cell? ⟨ab, 0, none⟩ = some (.int .i64 (p1 : Int)) ∧ w6.cell? ⟨ab, 1, none⟩ = some (.int .i64 (p2 : Int)) ∧ MapA 60 spotLit okS w6 mb n (mapV st.by_) := by
          obtain ⟨⟨q0, q1⟩, _⟩ := hP6.cells
          exact ⟨HSb.out _ hO6.2.1, q0, q1, HM.out _ hO6.2.1⟩
        refine hK.out _ _ hHS (fun hH => ?_)
        clear hK
        refine wpAnyH_take (i := 10) (v := .slice a5 l5 c5) rfl (by kernel_rfl) (by kernel_rfl) (by kernel_rfl) (fun _ _ _ h => h) (.inl ⟨by rfl, fun _ _ => rfl⟩) hH ?_
        simp only [List.getElem_toArray, List.getElem_cons_succ, List.getElem_cons_zero, Act.put, List.setIfInBounds_toArray, List.set_cons_zero, List.set_cons_succ]
        refine wpAnyH_done (by kernel_rfl) ?_ _
        go_upto_region 6 with fail
        have hO5 := hO6
        have hP5 := hP6
        obtain ⟨w5, rfl⟩ : ∃ z, z = w6 := ⟨_, rfl⟩
        clear hO6 hP6 hHS
        obtain ⟨⟨x0, x1⟩, _⟩ := hP5.cells
        have hP7 := boxP_new w5 p1 p2
        have b7 := below_new w5 (.cells #[.int .i64 (p1 : Int), .int .i64 (p2 : Int)] 60)
        have hO7 := hO5.trans b7
        have Hn7 : Hid ((Value.slice a5 l5 c5).ownBlock ≠ some w5.heap.size) := fun e => by have := (ownsRow_lt hO5.1 e).2; omega
        have Hs5 : Hid (X ≤ w5.heap.size) := hO5.2.2
        obtain ⟨w7, H7⟩ : ∃ z, Hid (w5.alloc (.cells #[.int .i64 (p1 : Int), .int .i64 (p2 : Int)] 60) = z) := ⟨_, rfl⟩
        rw [H7.out] at hP7 b7 hO7
        obtain ⟨ac, Hac⟩ : ∃ z, Hid (w5.heap.size = z) := ⟨_, rfl⟩
        rw [Hac.out] at hP7 Hn7 Hs5
        clear hO5 hP5 hO hP hne HLK HS
        go_upto_region 4 with fail
        rw [H7.out, Hac.out]
        have HLK : Hid (∀ w' : World, MapA 60 spotLit okS w' mb n (mapV st.by_) → (Instr.lookup 56 (.map (some mb)) (.agg #[.int .i64 (p1 : Int), .int .i64 (p2 : Int)]) false).run Try.prog w' = .ok (.agg #[.int .i64 (f1 : Int), .int .i64 (f2 : Int), .int .i64 mk, .int .i64 ml, .int .i64 mt, .int .i64 (sc : Int)]) w') := fun w' hm => by
          have := hm.look spot_key Try.underlying56 (e := 64) (z := stepZ) (by kernel_rfl) (x := (p1, p2)) ⟨by show p1 ≤ _; omega, by show p2 ≤ _; omega⟩
          unfold mapV at this
          rw [hs] at this
          exact this
        have HS : Hid (∀ w', Below w7.heap.size w7 w' →  w'.cell? ⟨S, 3, none⟩ = some (.map (some mb)) ∧ w'.cell? ⟨ac, 0, none⟩ = some (.int .i64 (p1 : Int)) ∧ w'.cell? ⟨ac, 1, none⟩ = some (.int .i64 (p2 : Int)) ∧ MapA 60 spotLit okS w' mb n (mapV st.by_)) := fun w' hb => by
          have hbx : Below X w w' := hO7.2.1.trans (hb.mono hO7.2.2)
          obtain ⟨⟨q0, q1⟩, _⟩ := (hP7.below hb).cells
          exact ⟨HSb.out _ hbx, q0, q1, HM.out _ hbx⟩
        refine wp_region_Z (S := (fun w' => w'.cell? ⟨S, 3, none⟩ = some (.map (some mb)) ∧ w'.cell? ⟨ac, 0, none⟩ = some (.int .i64 (p1 : Int)) ∧ w'.cell? ⟨ac, 1, none⟩ = some (.int .i64 (p2 : Int)) ∧ MapA 60 spotLit okS w' mb n (mapV st.by_))) (by kernel_rfl) 7 (HS.out _ (Below.refl _ _).drew) (fun hH => ?_)
        have b : Below w7.heap.size w7 w7.drew := (Below.refl _ _).drew
        obtain ⟨v0', Hv0⟩ : ∃ v0', Hid (w7.drew = v0') := ⟨_, rfl⟩
        rw [Hv0.out] at hH b ⊢
        clear Hv0
        refine wpZ_takeP (i := 0) (v := .pointer (some ⟨S, 0, none⟩)) rfl (by kernel_rfl) (by kernel_rfl) (by kernel_rfl) (fun _ _ _ h => h) (.inl ⟨by rfl, fun _ _ => rfl⟩) hH (by decide) ?_
        simp only [List.getElem_toArray, List.getElem_cons_succ, List.getElem_cons_zero, Act.put, List.setIfInBounds_toArray, List.set_cons_zero, List.set_cons_succ]
        refine wpZ_takeP (i := 1) (v := .pointer (some ⟨S, 0, none⟩)) rfl (by kernel_rfl) (by kernel_rfl) (by kernel_rfl) (fun _ _ _ h => h) (.inl ⟨by rfl, fun w' hS' => by first | (go_simp; done) | (go_simp; rfl) | (go_simp; intro h; omega) | (go_simp; omega)⟩) hH (by decide) ?_
        simp only [List.getElem_toArray, List.getElem_cons_succ, List.getElem_cons_zero, Act.put, List.setIfInBounds_toArray, List.set_cons_zero, List.set_cons_succ]
        refine wpZ_takeP (i := 2) (v := .pointer (some ⟨S, 3, none⟩)) rfl (by kernel_rfl) (by kernel_rfl) (by kernel_rfl) (fun _ _ _ h => h) (.inl ⟨by rfl, fun w' hS' => by first | (go_simp; done) | (go_simp; rfl) | (go_simp; intro h; omega) | (go_simp; omega)⟩) hH (by decide) ?_
        simp only [List.getElem_toArray, List.getElem_cons_succ, List.getElem_cons_zero, Act.put, List.setIfInBounds_toArray, List.set_cons_zero, List.set_cons_succ]
        refine wpZ_take (i := 3) (v := .map (some mb)) rfl (by kernel_rfl) (by kernel_rfl) (by kernel_rfl) (fun _ _ _ h => h) (.inl ⟨by rfl, fun w' hS' => by obtain ⟨s0, s1, s2, hm⟩ := hS'; go_simp⟩) hH rfl (by decide) (by kernel_rfl) (by kernel_rfl) ?_
        simp only [List.getElem_toArray, List.getElem_cons_succ, List.getElem_cons_zero, Act.put, List.setIfInBounds_toArray, List.set_cons_zero, List.set_cons_succ]
        refine wpZ_take (i := 4) (v := .agg #[.int .i64 (p1 : Int), .int .i64 (p2 : Int)]) rfl (by kernel_rfl) (by kernel_rfl) (by kernel_rfl) (fun _ _ _ h => h) (.inl ⟨by rfl, fun w' hS' => by obtain ⟨s0, s1, s2, hm⟩ := hS'; go_simp⟩) hH rfl (by decide) (by kernel_rfl) (by kernel_rfl) ?_
        simp only [List.getElem_toArray, List.getElem_cons_succ, List.getElem_cons_zero, Act.put, List.setIfInBounds_toArray, List.set_cons_zero, List.set_cons_succ]
        refine wpZ_take (i := 5) (v := .agg #[.int .i64 (f1 : Int), .int .i64 (f2 : Int), .int .i64 mk, .int .i64 ml, .int .i64 mt, .int .i64 (sc : Int)]) rfl (by kernel_rfl) (by kernel_rfl) (by kernel_rfl) (fun _ _ _ h => h) (.inl ⟨by rfl, fun w' hS' => by obtain ⟨s0, s1, s2, hm⟩ := hS'; have hrun := HLK.out _ hm; go_simp⟩) hH rfl (by decide) (by kernel_rfl) (by kernel_rfl) ?_
        simp only [List.getElem_toArray, List.getElem_cons_succ, List.getElem_cons_zero, Act.put, List.setIfInBounds_toArray, List.set_cons_zero, List.set_cons_succ]
        refine wpZ_takeP (i := 6) (v := .agg #[.int .i64 (f1 : Int), .int .i64 (f2 : Int)]) rfl (by kernel_rfl) (by kernel_rfl) (by kernel_rfl) (fun _ _ _ h => h) (.inl ⟨by rfl, fun w' hS' => by first | (go_simp; done) | (go_simp; rfl) | (go_simp; intro h; omega) | (go_simp; omega)⟩) hH (by decide) ?_
        simp only [List.getElem_toArray, List.getElem_cons_succ, List.getElem_cons_zero, Act.put, List.setIfInBounds_toArray, List.set_cons_zero, List.set_cons_succ]
        obtain ⟨⟨q0, q1⟩, r0, r1⟩ := (hP7.below b).cells
        have hP9 := boxP_store (hP7.below b) f1 f2
        have hO9 := (hO7.trans b).set2 Hs5.out Hn7.out (.int .i64 (f1 : Int)) (.int .i64 (f2 : Int))
        obtain ⟨W2, HW2⟩ : ∃ W2, Hid ((v0'.setCell ⟨ac, 0, none⟩ (.int .i64 (f1 : Int))).setCell ⟨ac, 1, none⟩ (.int .i64 (f2 : Int)) = W2) := ⟨_, rfl⟩
        rw [HW2.out] at hP9 hO9
        refine wpZ_ready (rs := [7]) (by kernel_rfl) (by simp) ?_
        refine AllZ.last rfl (by kernel_rfl) (fun K hK => ?_) AllZ.nil
        simp only [List.getElem_toArray, List.getElem_cons_succ, List.getElem_cons_zero]
        rw [if_pos (by rfl)]
        go_wp2_with fail
        rw [HW2.out]
        refine hK.out _ _ ?_
        clear hK
        refine wpZ_done (by kernel_rfl) ?_ _
        go_wp2_with fail
        have HO8 : Hid (OwnC X w W2 35 3 (.slice a5 l5 c5) ((⟨mk, ml, mt⟩ :: ms : List MoveL)).length (cellsM ((⟨mk, ml, mt⟩ :: ms : List MoveL)).reverse)) := by
          show OwnC X w W2 _ _ _ _ _
          rw [List.reverse_cons, cellsM_append, List.length_cons]
          exact hO9
        clear hO9 hO7 hP7 q0 q1 r0 r1
        go_roundg (rk (f1, f2))
        case measure => exact hlt
        case rel => exact ⟨(f1, f2), ⟨mk, ml, mt⟩ :: ms, (p1, p2) :: vs, ac, rfl, hP9, HO8.out, Hn7.out, Hs5.out, hB2, rfl⟩

end Go.Proofs.Ytakgppoeikcepaa
/- Align, whole. (Made by tools/gen_aligndev.py.) -/
namespace Go.Proofs.Ytakgppoeikcepaa
open Go.RowKit Go.Shelf
set_option linter.unusedVariables false
set_option linter.unusedSimpArgs false
set_option maxRecDepth 4000

def MovesV (w : World) (v : Value) (ms : List MoveL) : Prop := CellsV w v 3 1000000 ms.length (cellsM ms)
theorem moves_nil (w : World) : MovesV w (.slice none 0 0) [] := CellsV.nil w 3 1000000
theorem RowsOn.weaken {Q Q' : Nat → Prop} {v : Value} {N : Nat} {R : Nat → List ArcL} {w : World} (h : RowsOn Q v N R w) (hQ : ∀ k, k < w.heap.size → Q k → Q' k) : RowsOn Q' v N R w := by
  obtain ⟨b, rv, e, hlt, h⟩ := h
  exact ⟨b, rv, e, hlt, fun i hi => (h i hi).weaken hQ⟩
theorem RowsOn.fill {Q : Nat → Prop} {v : Value} {N : Nat} {R : Nat → List ArcL} {w w' : World} {S : Nat} (h : RowsOn Q v N R w) (hs : w'.heap.size = w.heap.size) (hb : ∀ k, k ≠ S → w'.heap[k]? = w.heap[k]?) (hS : ¬ Q S) : RowsOn Q v N R w' := by
  obtain ⟨b, rv, e, hlt, h⟩ := h
  exact ⟨b, rv, e, by omega, fun i hi => (h i hi).to (by omega) fun k _ hq => hb k (fun e => hS (e ▸ hq))⟩

/-- A search's block. -/
def BoxK (w : World) (b : Nat) (v0 v1 v2 v3 : Value) : Prop := w.heap[b]? = some (.cells #[v0, v1, v2, v3] 58 (0, 0))
theorem BoxK.lt {w : World} {b : Nat} {v0 v1 v2 v3 : Value} (h : BoxK w b v0 v1 v2 v3) : b < w.heap.size := (Array.getElem?_eq_some_iff.1 h).1
theorem BoxK.below {w w' : World} {b : Nat} {v0 v1 v2 v3 : Value} (h : BoxK w b v0 v1 v2 v3) (hb : Below w.heap.size w w') : BoxK w' b v0 v1 v2 v3 := (hb.block b h.lt).trans h
theorem BoxK.cells {w : World} {b : Nat} {v0 v1 v2 v3 : Value} (h : BoxK w b v0 v1 v2 v3) : Box4A w b v0 v1 v2 v3 ∧ ∀ j, w.frozen? ⟨b, j, none⟩ = false := by
  have hlt := h.lt
  unfold BoxK at h
  refine ⟨⟨hlt, ?_, ?_, ?_, ?_⟩, fun j => ?_⟩
  all_goals simp [World.cell?, World.frozen?, h]
theorem boxK_new (w : World) : BoxK (w.alloc (.cells #[.slice none 0 0, .slice none 0 0, .slice none 0 0, .map none] 58)) w.heap.size (.slice none 0 0) (.slice none 0 0) (.slice none 0 0) (.map none) := heap_alloc_new w _
theorem boxK_store {w W2 : World} {b : Nat} {z0 z1 z2 z3 : Value} (h : BoxK w b z0 z1 z2 z3) (v0 v1 v2 v3 : Value) (e : (((w.setCell ⟨b, 0, none⟩ v0).setCell ⟨b, 1, none⟩ v1).setCell ⟨b, 2, none⟩ v2).setCell ⟨b, 3, none⟩ v3 = W2) :
    BoxK W2 b v0 v1 v2 v3 ∧ W2.heap.size = w.heap.size ∧ (∀ k, k ≠ b → W2.heap[k]? = w.heap[k]?) ∧ ∀ B w0, Below B w0 w → B ≤ b → Below B w0 W2 := by
  subst e
  refine ⟨?_, by simp [World.setCell], fun k hk => ?_, fun B w0 hb hB => (((hb.setCell (p := ⟨b, 0, none⟩) hB v0).setCell (p := ⟨b, 1, none⟩) hB v1).setCell (p := ⟨b, 2, none⟩) hB v2).setCell (p := ⟨b, 3, none⟩) hB v3⟩
  · unfold BoxK at h ⊢
    rw [setCell_block (setCell_block (setCell_block (setCell_block h _) _) _) _]
    rfl
  · rw [Below.heap_setCell _ ⟨b, 3, none⟩ _ _ (fun e => hk (by simpa using e)), Below.heap_setCell _ ⟨b, 2, none⟩ _ _ (fun e => hk (by simpa using e)), Below.heap_setCell _ ⟨b, 1, none⟩ _ _ (fun e => hk (by simpa using e)), Below.heap_setCell _ ⟨b, 0, none⟩ _ _ (fun e => hk (by simpa using e))]

def alignGoes (v u : Value) (n : NetL) (i o : Int) (tr : List Int) (w : World) : Prop :=
    Calls Try.prog 6 #[v, .int .i64 i, .int .i64 o, u] w fun e w' => ∃ r ms c d, e = .returned (.tuple #[r, .int .i64 c, .int .i64 d]) ∧ AlignAns n i o tr ms c d ∧ MovesV w' r ms ∧ Below w.heap.size w w'

set_option maxRecDepth 100000 in
set_option maxHeartbeats 8000000 in
theorem align_any {v u : Value} {n : NetL} {i o : Int} {tr : List Int} {w : World} (hv : Net w v n) (hu : Ints w u tr) : alignGoes v u n i o tr w := by
  obtain ⟨tv, rfl, hT⟩ := hv
  obtain ⟨na, nl, nc, rfl, _⟩ := id hT
  obtain ⟨ta, tl, tc, rfl, htl, htm, _⟩ := id hu
  have Htl : Hid (tr.length = tl) := htl
  clear htl
  unfold alignGoes
  have c : Below w.heap.size w (w.alloc (.cells #[.int .i64 n.places, .slice na nl nc] 24)) := below_new _ _
  have hbx := box2_new w (.int .i64 n.places) (.slice na nl nc) 24
  obtain ⟨w0, Hw0⟩ : ∃ w0, Hid (w.alloc (.cells #[.int .i64 n.places, .slice na nl nc] 24) = w0) := ⟨_, rfl⟩
  rw [Hw0.out] at c hbx
  have hv : Net w0 (.agg #[.int .i64 n.places, .slice na nl nc]) n := ⟨_, rfl, hT.below c⟩
  obtain ⟨x0, x1, x2⟩ := id hbx
  go_enter Try.func6, Try.ntmps6
  go_upto_region 1 with fail
  rw [Hw0.out]
  clear Hw0
  go_wp2_with fail
  clear x0 x1 x2
  refine (shape_wrong _ n i o _ (by exact hv)).mono ?_
  rintro e w1 ⟨d, rfl, hd, b⟩
  replace hbx := hbx.below b
  replace hv := hv.below b
  replace c := below_then c b
  clear b
  by_cases hd0 : d = 0
  · subst hd0
    have HS : Hid (ShapeOk n i o) := hd.zero
    clear hd
    obtain ⟨x0, x1, x2⟩ := id hbx
    go_upto_region 4 with fail
    have hdr : Below w1.heap.size w1 w1.drew := (Below.refl _ _).drew
    have hvd := hv.below hdr
    have hvn := hvd.below (below_new w1.drew (.cells #[.slice none 0 0, .slice none 0 0] 49))
    have Hne : Hid (startL n.places i ≠ []) := by intro e; have h1 := start_len HS.out.ok i; have h2 := two_places HS.out; rw [e] at h1; simp at h1; omega
    obtain ⟨G, HG⟩ : ∃ G, Hid (graphL n (startL n.places i) 300 = G) := ⟨_, rfl⟩
    have Hfl : Hid (∀ j, j < G.1.marks.length → markAt G.1.marks j ≠ []) := by have := graph_full (n := n) (most := 300) Hne.out; rw [HG.out] at this; exact this
    go_cut [12, 13] (fun p q wc => ∃ bx mv av, p = .pointer (some ⟨bx, 0, none⟩) ∧ q = .int .i64 G.2 ∧ Box2 wc bx mv av ∧ Space wc (.agg #[mv, av]) G.1 ∧ Below w1.heap.size w1 wc)
    case first =>
      go_region_held3 (fun w' => w'.cell? ⟨w.heap.size, 0, none⟩ = some (.int .i64 n.places) ∧ w'.cell? ⟨w.heap.size, 1, none⟩ = some (.slice na nl nc))
        (first | exact ⟨f1, f2⟩ | go_keep)
        (first
          | (go_at_call 10; refine (shape_start_own _ n i _ ?_).mono ?_; (first | exact hvd | exact hvn); rintro e w2 ⟨r1, rfl, hOn, hOb⟩; have hI := hOn.now; (first | (have hnb : NilBox w2 w1.heap.size := (nilBox_new w1.drew).below hOb; have q2 := below_then (below_then hdr (below_new w1.drew (.cells #[.slice none 0 0, .slice none 0 0] 49))) hOb) | (have q2 := below_then hdr hOb)); have hv2 := hv.below q2; obtain ⟨y0, y1, y2⟩ := hbx.below q2)
          | (go_at_call 15; refine (reach_graph _ _ n (startL n.places i) 300 _ ?_ ?_).mono ?_; (first | exact hv2 | exact hv2.below (below_new w2 (.cells #[.slice none 0 0, .slice none 0 0] 49))); (first | exact hI | exact hI.below (below_new w2 (.cells #[.slice none 0 0, .slice none 0 0] 49))); rw [HG.out]; rintro e w3 ⟨r2, rfl, hSp, b3⟩; (first | (have hnb3 := (nilBox_new w2).below b3; have q3 := below_then q2 (below_then (below_new w2 (.cells #[.slice none 0 0, .slice none 0 0] 49)) b3); have hlt3 : w.heap.size < w2.heap.size := y0) | (have hnb3 := hnb.below b3; have q3 := below_then q2 b3; have hlt3 : w.heap.size < w1.heap.size := x0) | (have q3 := below_then q2 b3)); obtain ⟨mv, av, rfl, hMv, hAv⟩ := id hSp; obtain ⟨am, cm, rfl, _, _⟩ := hMv.slice; obtain ⟨aa, ca, hav, _⟩ := hAv.slice; rw [List.length_map] at hav; subst hav; obtain ⟨z0, z1, z2⟩ := hbx.below q3; (first | (obtain ⟨n0, n1, n2, n3, n4⟩ := hnb3.at; have hf := hnb3.fill hSp Hfl.out; have f1 := (hf.2.2.cell (p := ⟨w.heap.size, 0, none⟩) hlt3).trans z1; have f2 := (hf.2.2.cell (p := ⟨w.heap.size, 1, none⟩) hlt3).trans z2) | skip)))
      all_goals
        go_wp2_with fail
        go_meet
        first
          | exact ⟨_, _, _, rfl, rfl, hf.2.1, hf.1, q3.trans (hf.2.2.mono (Nat.le_refl _))⟩
          | exact ⟨_, _, _, rfl, rfl, hf.2.1, hf.1, q3.trans (hf.2.2.mono q2.size)⟩
          | exact ⟨_, _, _, rfl, rfl, box2_new w3 _ _ _, hSp.below (below_new w3 _), below_then q3 (below_new w3 _)⟩
    obtain ⟨bx, mv, av, rfl, rfl, hbs, hSp, b4⟩ := hcut
    obtain ⟨w4, rfl⟩ : ∃ w0, w0 = wc := ⟨_, rfl⟩
    replace hbx := hbx.below b4
    replace hv := hv.below b4
    replace c := below_then c b4
    clear hvd hvn hdr b4 x0 x1 x2 Hne
    obtain ⟨s, dg⟩ := G
    simp only at hSp Hfl ⊢
    by_cases hg0 : dg = 0
    · subst hg0
      clear Hfl
      have HW : Hid (Whole n (startL n.places i) s) := graphL_whole HG.out
      have Hsm : Hid (s.marks.length ≤ 300) := by have := graphL_small n (startL n.places i) 300; rw [HG.out] at this; exact this
      have Harcs : Hid (∀ a ∈ s.arcs, a.frm < s.marks.length ∧ a.dst < s.marks.length ∧ a.tran < n.trans.length) := fun a ha => by
        obtain ⟨h1, h2, h3, _⟩ := HW.out.sound a ha
        exact ⟨h1, h2, h3⟩
      have HTE : Hid (TongErr n i o 0) := .inr ⟨HS.out, by rw [HG.out]⟩
      by_cases h60 : 60 < tl
      · have i60 : (60 : Int) < (tl : Int) := by omega
        have HEnd : Hid (AlignAns n i o tr [] 0 2) := ⟨0, HTE.out, fun h => absurd rfl h, fun _ => .inl ⟨by rw [Htl.out]; exact h60, rfl, rfl, rfl⟩⟩
        clear hbs hSp hbx hv
        go_wp2
        go_ret3
        exact ⟨_, [], _, _, rfl, HEnd.out, moves_nil _, c⟩
      · have i60 : ¬ (60 : Int) < (tl : Int) := by omega
        obtain ⟨_, x1, x2⟩ := id hbx
        obtain ⟨_, y1, y2⟩ := id hbs
        go_upto_region 9 with fail
        go_upto_region 10 with (go_at_call 10; refine (shape_start_own _ n o _ (by exact hv)).mono ?_; rintro e w5 ⟨r5, rfl, hO5, b5⟩; obtain ⟨ra, rl, rc, rfl, _⟩ := id hO5.now; have hbs5 := hbs.below b5; have hbx5 := hbx.below b5)
        have hE := hO5.now
        have hSp5 := hSp.below b5
        have hv5 := hv.below b5
        have c5 := below_then c b5
        clear hbs hbx hSp hv c b5 x1 x2 y1 y2 hO5
        have hxE := box1_new w5 (.slice ra rl rc) 25
        have b6 := below_new w5 (.cells #[.slice ra rl rc] 25)
        obtain ⟨w6, H6⟩ : ∃ z, Hid (w5.alloc (.cells #[.slice ra rl rc] 25) = z) := ⟨_, rfl⟩
        rw [H6.out] at hxE b6 ⊢
        clear H6
        replace hE := hE.below b6
        have hSp6 := hSp5.below b6
        have hv6 := hv5.below b6
        have hbs6 := hbs5.below b6
        have hbx6 := hbx5.below b6
        have c6 := below_then c5 b6
        clear hSp5 hv5 hbs5 hbx5 c5 b6
        obtain ⟨EB, HEB⟩ : ∃ z, Hid (w5.heap.size = z) := ⟨_, rfl⟩
        rw [HEB.out] at hxE ⊢
        obtain ⟨hMk, hAk⟩ : Lists w6 mv s.marks ∧ Arcs w6 av (s.arcs.map arcZ) := by obtain ⟨mv', av', e, h1, h2⟩ := id hSp6; injection e with e; injection e with e; simp at e; obtain ⟨rfl, rfl⟩ := e; exact ⟨h1, h2⟩
        obtain ⟨am, cm, rfl, _, _⟩ := hMk.slice
        obtain ⟨aa, ca, rfl, hlab⟩ := hAk.slice
        obtain ⟨N, HN⟩ : ∃ N, Hid (s.marks.length = N) := ⟨_, rfl⟩
        obtain ⟨la, Hla⟩ : ∃ la, Hid ((s.arcs.map arcZ).length = la) := ⟨_, rfl⟩
        have hIdx := indexmarks_any w6 17 _ _ (align1_asks w6 EB _ _ hxE hE) align1_enters _ s.marks w6 (Below.refl _ _) hMk
        rw [HN.out] at hMk hbs6 hSp6 hIdx
        rw [Hla.out] at hAk hbs6 hSp6 hlab
        obtain ⟨_, y1, y2⟩ := id hbs6
        go_upto_region 11 with (go_at_call 16; refine hIdx.mono ?_; rintro e w7 ⟨ix, rfl, hF, b7⟩)
        have hSp7 := hSp6.below b7
        have hbs7 := hbs6.below b7
        have hbx7 := hbx6.below b7
        have c7 := below_then c6 b7
        have hv7 := hv6.below b7
        clear hSp6 hbs6 hbx6 hv6 c6 b7 hIdx hxE hE y1 y2 hMk hAk
        rcases hF with ⟨rfl, hno⟩ | ⟨k, rfl, hkl, hke, _⟩
        · have HEnd : Hid (AlignAns n i o tr [] 0 3) := ⟨0, HTE.out, fun h => absurd rfl h, fun _ => .inr (.inl ⟨by rw [Htl.out]; omega, fun e he q => by
            rw [HG.out] at he q
            have := hno e he
            rw [q] at this
            simp at this, rfl, rfl, rfl⟩)⟩
          clear hbs7 hSp7 hbx7 hno hv7
          go_wp2
          go_ret3
          exact ⟨_, [], _, _, rfl, HEnd.out, moves_nil _, c7⟩
        · have hkN : k < N := by rw [← HN.out]; exact hkl
          have hN3 : N ≤ 300 := by rw [← HN.out]; exact Hsm.out
          have HKE : Hid (markAt s.marks k = startL n.places o) := by show _ = _; simpa using hke
          have ik : ¬ (k : Int) < 0 := by omega
          have hu7 := hu.below c7
          have hT7 : Trans w7 (.slice na nl nc) n.trans := by obtain ⟨tv', e, h⟩ := hv7; injection e with e; injection e with e; simp at e; rw [e]; exact h
          obtain ⟨NB, HNB⟩ : ∃ z, Hid (w.heap.size = z) := ⟨_, rfl⟩
          have HCW : Hid (Below w.heap.size w w7) := c7
          rw [HNB.out] at hbx7
          clear c7 hke hv7
          go_upto_region 13 with fail
          rw [HNB.out]
          go_cut [16] (fun x16 wc => ∃ S mb rb, x16 = .pointer (some ⟨S, 0, none⟩) ∧ BoxK wc S (.slice ta tl tc) (.slice na nl nc) (.slice (some ⟨rb, 0, none⟩) N N) (.map (some mb)) ∧ MapA 60 spotLit okS wc mb 0 (fun _ => none) ∧ S ≠ mb ∧ w7.heap.size ≤ mb ∧ w7.heap.size ≤ S ∧ RowsOn (fun k => ¬ k = mb) (.slice (some ⟨rb, 0, none⟩) N N) N (fromL s.arcs) wc ∧ Below w7.heap.size w7 wc)
          case first =>
            have HS : Hid (∀ w', Below w7.heap.size w7 w' →  w'.cell? ⟨NB, 1, none⟩ = some (.slice na nl nc) ∧ w'.cell? ⟨bx, 0, none⟩ = some (.slice am N cm) ∧ w'.cell? ⟨bx, 1, none⟩ = some (.slice aa la ca)) := fun w' hb => by
              obtain ⟨_, q0, q1⟩ := hbx7.below hb
              obtain ⟨_, q2, q3⟩ := hbs7.below hb
              exact ⟨q1, q2, q3⟩
            refine wp_region_held_drew (S := (fun w' => w'.cell? ⟨NB, 1, none⟩ = some (.slice na nl nc) ∧ w'.cell? ⟨bx, 0, none⟩ = some (.slice am N cm) ∧ w'.cell? ⟨bx, 1, none⟩ = some (.slice aa la ca))) (by kernel_rfl) (HS.out _ (Below.refl _ _).drew) (fun hH => ?_)
            have b : Below w7.heap.size w7 w7.drew := (Below.refl _ _).drew
            obtain ⟨u0, Hv0⟩ : ∃ v0', Hid (w7.drew = v0') := ⟨_, rfl⟩
            rw [Hv0.out] at hH b ⊢
            clear Hv0
            refine wpAnyH_take (i := 0) (v := .slice ta tl tc) rfl (by kernel_rfl) (by kernel_rfl) (by kernel_rfl) (fun _ _ _ h => h) (.inl ⟨by rfl, fun _ _ => rfl⟩) hH ?_
            simp only [List.getElem_toArray, List.getElem_cons_succ, List.getElem_cons_zero, Act.put, List.setIfInBounds_toArray, List.set_cons_zero, List.set_cons_succ]
            refine wpAnyH_take (i := 1) (v := .pointer (some ⟨NB, 1, none⟩)) rfl (by kernel_rfl) (by kernel_rfl) (by kernel_rfl) (fun _ _ _ h => h) (.inl ⟨by rfl, fun w' hS' => by first | (go_simp; done) | (go_simp; rfl) | (go_simp; intro h; omega) | (go_simp; omega)⟩) hH ?_
            simp only [List.getElem_toArray, List.getElem_cons_succ, List.getElem_cons_zero, Act.put, List.setIfInBounds_toArray, List.set_cons_zero, List.set_cons_succ]
            refine wpAnyH_take (i := 2) (v := .slice na nl nc) rfl (by kernel_rfl) (by kernel_rfl) (by kernel_rfl) (fun _ _ _ h => h) (.inl ⟨by rfl, fun w' hS' => by obtain ⟨s0, s1, s2⟩ := hS'; go_simp⟩) hH ?_
            simp only [List.getElem_toArray, List.getElem_cons_succ, List.getElem_cons_zero, Act.put, List.setIfInBounds_toArray, List.set_cons_zero, List.set_cons_succ]
            refine wpAnyH_take (i := 3) (v := .agg #[.slice am N cm, .slice aa la ca]) rfl (by kernel_rfl) (by kernel_rfl) (by kernel_rfl) (fun _ _ _ h => h) (.inl ⟨by rfl, fun w' hS' => by obtain ⟨s0, s1, s2⟩ := hS'; go_simp⟩) hH ?_
            simp only [List.getElem_toArray, List.getElem_cons_succ, List.getElem_cons_zero, Act.put, List.setIfInBounds_toArray, List.set_cons_zero, List.set_cons_succ]
            have b0 := b
            refine wpAnyH_ready (rs := [4, 5, 7]) (by kernel_rfl) (by simp) ?_
            refine (AllReadyH.cons rfl (fun K hK => ?_) (AllReadyH.cons rfl (fun K hK => ?_) (AllReadyH.cons rfl (fun K hK => ?_) AllReadyH.nil)))
            · simp only [List.getElem_toArray, List.getElem_cons_succ, List.getElem_cons_zero]
              rw [if_pos (by rfl)]
              go_wp2_with fail
              refine (leaving_any (w := u0) (hSp7.below b) Hsm.out (fun a ha => (Harcs.out a ha).1)).mono ?_
              rintro e u1 ⟨r, rfl, hRr, bs⟩
              rw [HN.out] at hRr
              obtain ⟨rb, hrb⟩ : ∃ rb, r = .slice (some ⟨rb, 0, none⟩) N N := by obtain ⟨rb, _, e, _⟩ := hRr; exact ⟨rb, e⟩
              subst hrb
              have Q0 : Hid (u0.heap.size ≤ u1.heap.size) := bs.size
              obtain ⟨lo, Hlo⟩ : ∃ z, Hid (u0.heap.size = z) := ⟨_, rfl⟩
              obtain ⟨hi, Hhi⟩ : ∃ z, Hid (u1.heap.size = z) := ⟨_, rfl⟩
              rw [Hlo.out, Hhi.out] at hRr
              replace b := below_then b bs
              skip
              refine hK.out _ _ (HS.out _ b) (fun hH => ?_)
              clear hK
              refine wpAnyH_ready (rs := [5, 7]) (by kernel_rfl) (by simp) ?_
              refine (AllReadyH.cons rfl (fun K hK => ?_) (AllReadyH.cons rfl (fun K hK => ?_) AllReadyH.nil))
              · simp only [List.getElem_toArray, List.getElem_cons_succ, List.getElem_cons_zero]
                rw [if_pos (by rfl)]
                have hmm := run_makeMap (P := Try.prog) 56 u1
                have bs := below_new u1 (.map #[] 0)
                have hMp : MapA 60 spotLit okS (u1.alloc (.map #[] 0)) u1.heap.size 0 (fun _ => none) := mapA_made u1
                have q1 : (u1.alloc (.map #[] 0)).heap.size = u1.heap.size + 1 := by simp
                obtain ⟨mb, Hz1⟩ : ∃ z, Hid (u1.heap.size = z) := ⟨_, rfl⟩
                have Hmbz : Hid (u1.heap.size = mb) := Hz1.out
                obtain ⟨u2, Hn1⟩ : ∃ z, Hid (u1.alloc (.map #[] 0) = z) := ⟨_, rfl⟩
                rw [Hn1.out] at bs hMp q1 hmm
                rw [Hz1.out] at hMp hmm
                have Q1 : Hid (u2.heap.size = u1.heap.size + 1) := q1
                clear q1
                go_wp2_with fail
                clear hmm
                replace b := below_then b bs
                replace hRr := hRr.below bs
                refine hK.out _ _ (HS.out _ b) (fun hH => ?_)
                clear hK
                refine wpAnyH_take (i := 6) (v := .agg #[.slice ta tl tc, .slice na nl nc, .slice (some ⟨rb, 0, none⟩) N N, .map (some mb)]) rfl (by kernel_rfl) (by kernel_rfl) (by kernel_rfl) (fun _ _ _ h => h) (.inl ⟨by rfl, fun w' hS' => by first | (go_simp; done) | (go_simp; rfl) | (go_simp; intro h; omega) | (go_simp; omega)⟩) hH ?_
                simp only [List.getElem_toArray, List.getElem_cons_succ, List.getElem_cons_zero, Act.put, List.setIfInBounds_toArray, List.set_cons_zero, List.set_cons_succ]
                have bs := below_new u2 (.cells #[.slice none 0 0, .slice none 0 0, .slice none 0 0, .map none] 58)
                have hKb := boxK_new u2
                have q2 : (u2.alloc (.cells #[.slice none 0 0, .slice none 0 0, .slice none 0 0, .map none] 58)).heap.size = u2.heap.size + 1 := by simp
                obtain ⟨S, Hz2⟩ : ∃ z, Hid (u2.heap.size = z) := ⟨_, rfl⟩
                have HSz : Hid (u2.heap.size = S) := Hz2.out
                obtain ⟨u3, Hn2⟩ : ∃ z, Hid (u2.alloc (.cells #[.slice none 0 0, .slice none 0 0, .slice none 0 0, .map none] 58) = z) := ⟨_, rfl⟩
                rw [Hn2.out] at bs hKb q2
                rw [Hz2.out] at hKb
                have Q2 : Hid (u3.heap.size = u2.heap.size + 1) := q2
                clear q2
                refine wpAnyH_ready (rs := [7]) (by kernel_rfl) (by simp) ?_
                refine AllReadyH.cons rfl (fun K hK => ?_) AllReadyH.nil
                simp only [List.getElem_toArray, List.getElem_cons_succ, List.getElem_cons_zero]
                rw [if_pos (by rfl)]
                go_wp2_with fail
                rw [Hn2.out, Hz2.out]
                replace b := below_then b bs
                replace hRr := hRr.below bs
                replace hMp := hMp.below bs
                refine hK.out _ _ (HS.out _ b) (fun hH => ?_)
                clear hK
                obtain ⟨hb4, hfz⟩ := hKb.cells
                obtain ⟨_, k0, k1, k2, k3⟩ := hb4
                have z0 := hfz 0
                have z1 := hfz 1
                have z2 := hfz 2
                have z3 := hfz 3
                obtain ⟨W2, HW2⟩ : ∃ W2, Hid ((((u3.setCell ⟨S, 0, none⟩ (.slice ta tl tc)).setCell ⟨S, 1, none⟩ (.slice na nl nc)).setCell ⟨S, 2, none⟩ (.slice (some ⟨rb, 0, none⟩) N N)).setCell ⟨S, 3, none⟩ (.map (some mb)) = W2) := ⟨_, rfl⟩
                obtain ⟨t1, t2, t3, t4⟩ := boxK_store hKb _ _ _ _ HW2.out
                have HF : Hid (S ≠ mb ∧ w7.heap.size ≤ S ∧ w7.heap.size ≤ mb ∧ ¬ (lo ≤ S ∧ S < hi) ∧ ¬ (lo ≤ mb ∧ mb < hi)) := by
                  have qq : w7.heap.size ≤ u0.heap.size := b0.size
                  have p0 := Hmbz.out
                  have p1 := HSz.out
                  have p2 := Q0.out
                  have p3 := Q1.out
                  have p4 := Q2.out
                  have p5 := Hlo.out
                  have p6 := Hhi.out
                  show _ ∧ _
                  omega
                have bw := t4 _ _ b HF.out.2.1
                have hMp2 := hMp.block (t3 mb (fun e => HF.out.1 e.symm))
                have hRr2 : RowsOn (fun k => ¬ k = mb) (.slice (some ⟨rb, 0, none⟩) N N) N (fromL s.arcs) W2 := (hRr.fill t2 t3 HF.out.2.2.2.1).weaken fun j hj q e => HF.out.2.2.2.2 (e ▸ q)
                refine wpAnyH_ready (rs := [8]) (by kernel_rfl) (by simp) ?_
                refine AllReadyH.cons rfl (fun K hK => ?_) AllReadyH.nil
                simp only [List.getElem_toArray, List.getElem_cons_succ, List.getElem_cons_zero]
                rw [if_pos (by rfl)]
                go_wp2_with fail
                rw [HW2.out]
                refine hK.out _ _ (HS.out _ bw) (fun hH => ?_)
                refine wpAnyH_done (by kernel_rfl) ?_ _
                go_wp2_with fail
                go_meet
                exact ⟨S, mb, rb, rfl, t1, hMp2, HF.out.1, HF.out.2.2.1, HF.out.2.1, hRr2, bw⟩
              · simp only [List.getElem_toArray, List.getElem_cons_succ, List.getElem_cons_zero]
                rw [if_pos (by rfl)]
                have bs := below_new u1 (.cells #[.slice none 0 0, .slice none 0 0, .slice none 0 0, .map none] 58)
                have hKb := boxK_new u1
                have q1 : (u1.alloc (.cells #[.slice none 0 0, .slice none 0 0, .slice none 0 0, .map none] 58)).heap.size = u1.heap.size + 1 := by simp
                obtain ⟨S, Hz1⟩ : ∃ z, Hid (u1.heap.size = z) := ⟨_, rfl⟩
                have HSz : Hid (u1.heap.size = S) := Hz1.out
                obtain ⟨u2, Hn1⟩ : ∃ z, Hid (u1.alloc (.cells #[.slice none 0 0, .slice none 0 0, .slice none 0 0, .map none] 58) = z) := ⟨_, rfl⟩
                rw [Hn1.out] at bs hKb q1
                rw [Hz1.out] at hKb
                have Q1 : Hid (u2.heap.size = u1.heap.size + 1) := q1
                clear q1
                go_wp2_with fail
                rw [Hn1.out, Hz1.out]
                replace b := below_then b bs
                replace hRr := hRr.below bs
                refine hK.out _ _ (HS.out _ b) (fun hH => ?_)
                clear hK
                have hmm := run_makeMap (P := Try.prog) 56 u2
                have bs := below_new u2 (.map #[] 0)
                have hMp : MapA 60 spotLit okS (u2.alloc (.map #[] 0)) u2.heap.size 0 (fun _ => none) := mapA_made u2
                have q2 : (u2.alloc (.map #[] 0)).heap.size = u2.heap.size + 1 := by simp
                obtain ⟨mb, Hz2⟩ : ∃ z, Hid (u2.heap.size = z) := ⟨_, rfl⟩
                have Hmbz : Hid (u2.heap.size = mb) := Hz2.out
                obtain ⟨u3, Hn2⟩ : ∃ z, Hid (u2.alloc (.map #[] 0) = z) := ⟨_, rfl⟩
                rw [Hn2.out] at bs hMp q2 hmm
                rw [Hz2.out] at hMp hmm
                have Q2 : Hid (u3.heap.size = u2.heap.size + 1) := q2
                clear q2
                refine wpAnyH_ready (rs := [5]) (by kernel_rfl) (by simp) ?_
                refine AllReadyH.cons rfl (fun K hK => ?_) AllReadyH.nil
                simp only [List.getElem_toArray, List.getElem_cons_succ, List.getElem_cons_zero]
                rw [if_pos (by rfl)]
                go_wp2_with fail
                clear hmm
                replace b := below_then b bs
                replace hRr := hRr.below bs
                replace hKb := hKb.below bs
                refine hK.out _ _ (HS.out _ b) (fun hH => ?_)
                clear hK
                refine wpAnyH_take (i := 6) (v := .agg #[.slice ta tl tc, .slice na nl nc, .slice (some ⟨rb, 0, none⟩) N N, .map (some mb)]) rfl (by kernel_rfl) (by kernel_rfl) (by kernel_rfl) (fun _ _ _ h => h) (.inl ⟨by rfl, fun w' hS' => by first | (go_simp; done) | (go_simp; rfl) | (go_simp; intro h; omega) | (go_simp; omega)⟩) hH ?_
                simp only [List.getElem_toArray, List.getElem_cons_succ, List.getElem_cons_zero, Act.put, List.setIfInBounds_toArray, List.set_cons_zero, List.set_cons_succ]
                obtain ⟨hb4, hfz⟩ := hKb.cells
                obtain ⟨_, k0, k1, k2, k3⟩ := hb4
                have z0 := hfz 0
                have z1 := hfz 1
                have z2 := hfz 2
                have z3 := hfz 3
                obtain ⟨W2, HW2⟩ : ∃ W2, Hid ((((u3.setCell ⟨S, 0, none⟩ (.slice ta tl tc)).setCell ⟨S, 1, none⟩ (.slice na nl nc)).setCell ⟨S, 2, none⟩ (.slice (some ⟨rb, 0, none⟩) N N)).setCell ⟨S, 3, none⟩ (.map (some mb)) = W2) := ⟨_, rfl⟩
                obtain ⟨t1, t2, t3, t4⟩ := boxK_store hKb _ _ _ _ HW2.out
                have HF : Hid (S ≠ mb ∧ w7.heap.size ≤ S ∧ w7.heap.size ≤ mb ∧ ¬ (lo ≤ S ∧ S < hi) ∧ ¬ (lo ≤ mb ∧ mb < hi)) := by
                  have qq : w7.heap.size ≤ u0.heap.size := b0.size
                  have p0 := Hmbz.out
                  have p1 := HSz.out
                  have p2 := Q0.out
                  have p3 := Q1.out
                  have p4 := Q2.out
                  have p5 := Hlo.out
                  have p6 := Hhi.out
                  show _ ∧ _
                  omega
                have bw := t4 _ _ b HF.out.2.1
                have hMp2 := hMp.block (t3 mb (fun e => HF.out.1 e.symm))
                have hRr2 : RowsOn (fun k => ¬ k = mb) (.slice (some ⟨rb, 0, none⟩) N N) N (fromL s.arcs) W2 := (hRr.fill t2 t3 HF.out.2.2.2.1).weaken fun j hj q e => HF.out.2.2.2.2 (e ▸ q)
                refine wpAnyH_ready (rs := [8]) (by kernel_rfl) (by simp) ?_
                refine AllReadyH.cons rfl (fun K hK => ?_) AllReadyH.nil
                simp only [List.getElem_toArray, List.getElem_cons_succ, List.getElem_cons_zero]
                rw [if_pos (by rfl)]
                go_wp2_with fail
                rw [HW2.out]
                refine hK.out _ _ (HS.out _ bw) (fun hH => ?_)
                refine wpAnyH_done (by kernel_rfl) ?_ _
                go_wp2_with fail
                go_meet
                exact ⟨S, mb, rb, rfl, t1, hMp2, HF.out.1, HF.out.2.2.1, HF.out.2.1, hRr2, bw⟩
            · simp only [List.getElem_toArray, List.getElem_cons_succ, List.getElem_cons_zero]
              rw [if_pos (by rfl)]
              have hmm := run_makeMap (P := Try.prog) 56 u0
              have bs := below_new u0 (.map #[] 0)
              have hMp : MapA 60 spotLit okS (u0.alloc (.map #[] 0)) u0.heap.size 0 (fun _ => none) := mapA_made u0
              have q0 : (u0.alloc (.map #[] 0)).heap.size = u0.heap.size + 1 := by simp
              obtain ⟨mb, Hz0⟩ : ∃ z, Hid (u0.heap.size = z) := ⟨_, rfl⟩
              have Hmbz : Hid (u0.heap.size = mb) := Hz0.out
              obtain ⟨u1, Hn0⟩ : ∃ z, Hid (u0.alloc (.map #[] 0) = z) := ⟨_, rfl⟩
              rw [Hn0.out] at bs hMp q0 hmm
              rw [Hz0.out] at hMp hmm
              have Q0 : Hid (u1.heap.size = u0.heap.size + 1) := q0
              clear q0
              go_wp2_with fail
              clear hmm
              replace b := below_then b bs
              skip
              refine hK.out _ _ (HS.out _ b) (fun hH => ?_)
              clear hK
              refine wpAnyH_ready (rs := [4, 7]) (by kernel_rfl) (by simp) ?_
              refine (AllReadyH.cons rfl (fun K hK => ?_) (AllReadyH.cons rfl (fun K hK => ?_) AllReadyH.nil))
              · simp only [List.getElem_toArray, List.getElem_cons_succ, List.getElem_cons_zero]
                rw [if_pos (by rfl)]
                go_wp2_with fail
                refine (leaving_any (w := u1) (hSp7.below b) Hsm.out (fun a ha => (Harcs.out a ha).1)).mono ?_
                rintro e u2 ⟨r, rfl, hRr, bs⟩
                rw [HN.out] at hRr
                obtain ⟨rb, hrb⟩ : ∃ rb, r = .slice (some ⟨rb, 0, none⟩) N N := by obtain ⟨rb, _, e, _⟩ := hRr; exact ⟨rb, e⟩
                subst hrb
                have Q1 : Hid (u1.heap.size ≤ u2.heap.size) := bs.size
                obtain ⟨lo, Hlo⟩ : ∃ z, Hid (u1.heap.size = z) := ⟨_, rfl⟩
                obtain ⟨hi, Hhi⟩ : ∃ z, Hid (u2.heap.size = z) := ⟨_, rfl⟩
                rw [Hlo.out, Hhi.out] at hRr
                replace b := below_then b bs
                replace hMp := hMp.below bs
                refine hK.out _ _ (HS.out _ b) (fun hH => ?_)
                clear hK
                refine wpAnyH_take (i := 6) (v := .agg #[.slice ta tl tc, .slice na nl nc, .slice (some ⟨rb, 0, none⟩) N N, .map (some mb)]) rfl (by kernel_rfl) (by kernel_rfl) (by kernel_rfl) (fun _ _ _ h => h) (.inl ⟨by rfl, fun w' hS' => by first | (go_simp; done) | (go_simp; rfl) | (go_simp; intro h; omega) | (go_simp; omega)⟩) hH ?_
                simp only [List.getElem_toArray, List.getElem_cons_succ, List.getElem_cons_zero, Act.put, List.setIfInBounds_toArray, List.set_cons_zero, List.set_cons_succ]
                have bs := below_new u2 (.cells #[.slice none 0 0, .slice none 0 0, .slice none 0 0, .map none] 58)
                have hKb := boxK_new u2
                have q2 : (u2.alloc (.cells #[.slice none 0 0, .slice none 0 0, .slice none 0 0, .map none] 58)).heap.size = u2.heap.size + 1 := by simp
                obtain ⟨S, Hz2⟩ : ∃ z, Hid (u2.heap.size = z) := ⟨_, rfl⟩
                have HSz : Hid (u2.heap.size = S) := Hz2.out
                obtain ⟨u3, Hn2⟩ : ∃ z, Hid (u2.alloc (.cells #[.slice none 0 0, .slice none 0 0, .slice none 0 0, .map none] 58) = z) := ⟨_, rfl⟩
                rw [Hn2.out] at bs hKb q2
                rw [Hz2.out] at hKb
                have Q2 : Hid (u3.heap.size = u2.heap.size + 1) := q2
                clear q2
                refine wpAnyH_ready (rs := [7]) (by kernel_rfl) (by simp) ?_
                refine AllReadyH.cons rfl (fun K hK => ?_) AllReadyH.nil
                simp only [List.getElem_toArray, List.getElem_cons_succ, List.getElem_cons_zero]
                rw [if_pos (by rfl)]
                go_wp2_with fail
                rw [Hn2.out, Hz2.out]
                replace b := below_then b bs
                replace hMp := hMp.below bs
                replace hRr := hRr.below bs
                refine hK.out _ _ (HS.out _ b) (fun hH => ?_)
                clear hK
                obtain ⟨hb4, hfz⟩ := hKb.cells
                obtain ⟨_, k0, k1, k2, k3⟩ := hb4
                have z0 := hfz 0
                have z1 := hfz 1
                have z2 := hfz 2
                have z3 := hfz 3
                obtain ⟨W2, HW2⟩ : ∃ W2, Hid ((((u3.setCell ⟨S, 0, none⟩ (.slice ta tl tc)).setCell ⟨S, 1, none⟩ (.slice na nl nc)).setCell ⟨S, 2, none⟩ (.slice (some ⟨rb, 0, none⟩) N N)).setCell ⟨S, 3, none⟩ (.map (some mb)) = W2) := ⟨_, rfl⟩
                obtain ⟨t1, t2, t3, t4⟩ := boxK_store hKb _ _ _ _ HW2.out
                have HF : Hid (S ≠ mb ∧ w7.heap.size ≤ S ∧ w7.heap.size ≤ mb ∧ ¬ (lo ≤ S ∧ S < hi) ∧ ¬ (lo ≤ mb ∧ mb < hi)) := by
                  have qq : w7.heap.size ≤ u0.heap.size := b0.size
                  have p0 := Hmbz.out
                  have p1 := HSz.out
                  have p2 := Q0.out
                  have p3 := Q1.out
                  have p4 := Q2.out
                  have p5 := Hlo.out
                  have p6 := Hhi.out
                  show _ ∧ _
                  omega
                have bw := t4 _ _ b HF.out.2.1
                have hMp2 := hMp.block (t3 mb (fun e => HF.out.1 e.symm))
                have hRr2 : RowsOn (fun k => ¬ k = mb) (.slice (some ⟨rb, 0, none⟩) N N) N (fromL s.arcs) W2 := (hRr.fill t2 t3 HF.out.2.2.2.1).weaken fun j hj q e => HF.out.2.2.2.2 (e ▸ q)
                refine wpAnyH_ready (rs := [8]) (by kernel_rfl) (by simp) ?_
                refine AllReadyH.cons rfl (fun K hK => ?_) AllReadyH.nil
                simp only [List.getElem_toArray, List.getElem_cons_succ, List.getElem_cons_zero]
                rw [if_pos (by rfl)]
                go_wp2_with fail
                rw [HW2.out]
                refine hK.out _ _ (HS.out _ bw) (fun hH => ?_)
                refine wpAnyH_done (by kernel_rfl) ?_ _
                go_wp2_with fail
                go_meet
                exact ⟨S, mb, rb, rfl, t1, hMp2, HF.out.1, HF.out.2.2.1, HF.out.2.1, hRr2, bw⟩
              · simp only [List.getElem_toArray, List.getElem_cons_succ, List.getElem_cons_zero]
                rw [if_pos (by rfl)]
                have bs := below_new u1 (.cells #[.slice none 0 0, .slice none 0 0, .slice none 0 0, .map none] 58)
                have hKb := boxK_new u1
                have q1 : (u1.alloc (.cells #[.slice none 0 0, .slice none 0 0, .slice none 0 0, .map none] 58)).heap.size = u1.heap.size + 1 := by simp
                obtain ⟨S, Hz1⟩ : ∃ z, Hid (u1.heap.size = z) := ⟨_, rfl⟩
                have HSz : Hid (u1.heap.size = S) := Hz1.out
                obtain ⟨u2, Hn1⟩ : ∃ z, Hid (u1.alloc (.cells #[.slice none 0 0, .slice none 0 0, .slice none 0 0, .map none] 58) = z) := ⟨_, rfl⟩
                rw [Hn1.out] at bs hKb q1
                rw [Hz1.out] at hKb
                have Q1 : Hid (u2.heap.size = u1.heap.size + 1) := q1
                clear q1
                go_wp2_with fail
                rw [Hn1.out, Hz1.out]
                replace b := below_then b bs
                replace hMp := hMp.below bs
                refine hK.out _ _ (HS.out _ b) (fun hH => ?_)
                clear hK
                refine wpAnyH_ready (rs := [4]) (by kernel_rfl) (by simp) ?_
                refine AllReadyH.cons rfl (fun K hK => ?_) AllReadyH.nil
                simp only [List.getElem_toArray, List.getElem_cons_succ, List.getElem_cons_zero]
                rw [if_pos (by rfl)]
                go_wp2_with fail
                refine (leaving_any (w := u2) (hSp7.below b) Hsm.out (fun a ha => (Harcs.out a ha).1)).mono ?_
                rintro e u3 ⟨r, rfl, hRr, bs⟩
                rw [HN.out] at hRr
                obtain ⟨rb, hrb⟩ : ∃ rb, r = .slice (some ⟨rb, 0, none⟩) N N := by obtain ⟨rb, _, e, _⟩ := hRr; exact ⟨rb, e⟩
                subst hrb
                have Q2 : Hid (u2.heap.size ≤ u3.heap.size) := bs.size
                obtain ⟨lo, Hlo⟩ : ∃ z, Hid (u2.heap.size = z) := ⟨_, rfl⟩
                obtain ⟨hi, Hhi⟩ : ∃ z, Hid (u3.heap.size = z) := ⟨_, rfl⟩
                rw [Hlo.out, Hhi.out] at hRr
                replace b := below_then b bs
                replace hMp := hMp.below bs
                replace hKb := hKb.below bs
                refine hK.out _ _ (HS.out _ b) (fun hH => ?_)
                clear hK
                refine wpAnyH_take (i := 6) (v := .agg #[.slice ta tl tc, .slice na nl nc, .slice (some ⟨rb, 0, none⟩) N N, .map (some mb)]) rfl (by kernel_rfl) (by kernel_rfl) (by kernel_rfl) (fun _ _ _ h => h) (.inl ⟨by rfl, fun w' hS' => by first | (go_simp; done) | (go_simp; rfl) | (go_simp; intro h; omega) | (go_simp; omega)⟩) hH ?_
                simp only [List.getElem_toArray, List.getElem_cons_succ, List.getElem_cons_zero, Act.put, List.setIfInBounds_toArray, List.set_cons_zero, List.set_cons_succ]
                obtain ⟨hb4, hfz⟩ := hKb.cells
                obtain ⟨_, k0, k1, k2, k3⟩ := hb4
                have z0 := hfz 0
                have z1 := hfz 1
                have z2 := hfz 2
                have z3 := hfz 3
                obtain ⟨W2, HW2⟩ : ∃ W2, Hid ((((u3.setCell ⟨S, 0, none⟩ (.slice ta tl tc)).setCell ⟨S, 1, none⟩ (.slice na nl nc)).setCell ⟨S, 2, none⟩ (.slice (some ⟨rb, 0, none⟩) N N)).setCell ⟨S, 3, none⟩ (.map (some mb)) = W2) := ⟨_, rfl⟩
                obtain ⟨t1, t2, t3, t4⟩ := boxK_store hKb _ _ _ _ HW2.out
                have HF : Hid (S ≠ mb ∧ w7.heap.size ≤ S ∧ w7.heap.size ≤ mb ∧ ¬ (lo ≤ S ∧ S < hi) ∧ ¬ (lo ≤ mb ∧ mb < hi)) := by
                  have qq : w7.heap.size ≤ u0.heap.size := b0.size
                  have p0 := Hmbz.out
                  have p1 := HSz.out
                  have p2 := Q0.out
                  have p3 := Q1.out
                  have p4 := Q2.out
                  have p5 := Hlo.out
                  have p6 := Hhi.out
                  show _ ∧ _
                  omega
                have bw := t4 _ _ b HF.out.2.1
                have hMp2 := hMp.block (t3 mb (fun e => HF.out.1 e.symm))
                have hRr2 : RowsOn (fun k => ¬ k = mb) (.slice (some ⟨rb, 0, none⟩) N N) N (fromL s.arcs) W2 := (hRr.fill t2 t3 HF.out.2.2.2.1).weaken fun j hj q e => HF.out.2.2.2.2 (e ▸ q)
                refine wpAnyH_ready (rs := [8]) (by kernel_rfl) (by simp) ?_
                refine AllReadyH.cons rfl (fun K hK => ?_) AllReadyH.nil
                simp only [List.getElem_toArray, List.getElem_cons_succ, List.getElem_cons_zero]
                rw [if_pos (by rfl)]
                go_wp2_with fail
                rw [HW2.out]
                refine hK.out _ _ (HS.out _ bw) (fun hH => ?_)
                refine wpAnyH_done (by kernel_rfl) ?_ _
                go_wp2_with fail
                go_meet
                exact ⟨S, mb, rb, rfl, t1, hMp2, HF.out.1, HF.out.2.2.1, HF.out.2.1, hRr2, bw⟩
            · simp only [List.getElem_toArray, List.getElem_cons_succ, List.getElem_cons_zero]
              rw [if_pos (by rfl)]
              have bs := below_new u0 (.cells #[.slice none 0 0, .slice none 0 0, .slice none 0 0, .map none] 58)
              have hKb := boxK_new u0
              have q0 : (u0.alloc (.cells #[.slice none 0 0, .slice none 0 0, .slice none 0 0, .map none] 58)).heap.size = u0.heap.size + 1 := by simp
              obtain ⟨S, Hz0⟩ : ∃ z, Hid (u0.heap.size = z) := ⟨_, rfl⟩
              have HSz : Hid (u0.heap.size = S) := Hz0.out
              obtain ⟨u1, Hn0⟩ : ∃ z, Hid (u0.alloc (.cells #[.slice none 0 0, .slice none 0 0, .slice none 0 0, .map none] 58) = z) := ⟨_, rfl⟩
              rw [Hn0.out] at bs hKb q0
              rw [Hz0.out] at hKb
              have Q0 : Hid (u1.heap.size = u0.heap.size + 1) := q0
              clear q0
              go_wp2_with fail
              rw [Hn0.out, Hz0.out]
              replace b := below_then b bs
              skip
              refine hK.out _ _ (HS.out _ b) (fun hH => ?_)
              clear hK
              refine wpAnyH_ready (rs := [4, 5]) (by kernel_rfl) (by simp) ?_
              refine (AllReadyH.cons rfl (fun K hK => ?_) (AllReadyH.cons rfl (fun K hK => ?_) AllReadyH.nil))
              · simp only [List.getElem_toArray, List.getElem_cons_succ, List.getElem_cons_zero]
                rw [if_pos (by rfl)]
                go_wp2_with fail
                refine (leaving_any (w := u1) (hSp7.below b) Hsm.out (fun a ha => (Harcs.out a ha).1)).mono ?_
                rintro e u2 ⟨r, rfl, hRr, bs⟩
                rw [HN.out] at hRr
                obtain ⟨rb, hrb⟩ : ∃ rb, r = .slice (some ⟨rb, 0, none⟩) N N := by obtain ⟨rb, _, e, _⟩ := hRr; exact ⟨rb, e⟩
                subst hrb
                have Q1 : Hid (u1.heap.size ≤ u2.heap.size) := bs.size
                obtain ⟨lo, Hlo⟩ : ∃ z, Hid (u1.heap.size = z) := ⟨_, rfl⟩
                obtain ⟨hi, Hhi⟩ : ∃ z, Hid (u2.heap.size = z) := ⟨_, rfl⟩
                rw [Hlo.out, Hhi.out] at hRr
                replace b := below_then b bs
                replace hKb := hKb.below bs
                refine hK.out _ _ (HS.out _ b) (fun hH => ?_)
                clear hK
                have hmm := run_makeMap (P := Try.prog) 56 u2
                have bs := below_new u2 (.map #[] 0)
                have hMp : MapA 60 spotLit okS (u2.alloc (.map #[] 0)) u2.heap.size 0 (fun _ => none) := mapA_made u2
                have q2 : (u2.alloc (.map #[] 0)).heap.size = u2.heap.size + 1 := by simp
                obtain ⟨mb, Hz2⟩ : ∃ z, Hid (u2.heap.size = z) := ⟨_, rfl⟩
                have Hmbz : Hid (u2.heap.size = mb) := Hz2.out
                obtain ⟨u3, Hn2⟩ : ∃ z, Hid (u2.alloc (.map #[] 0) = z) := ⟨_, rfl⟩
                rw [Hn2.out] at bs hMp q2 hmm
                rw [Hz2.out] at hMp hmm
                have Q2 : Hid (u3.heap.size = u2.heap.size + 1) := q2
                clear q2
                refine wpAnyH_ready (rs := [5]) (by kernel_rfl) (by simp) ?_
                refine AllReadyH.cons rfl (fun K hK => ?_) AllReadyH.nil
                simp only [List.getElem_toArray, List.getElem_cons_succ, List.getElem_cons_zero]
                rw [if_pos (by rfl)]
                go_wp2_with fail
                clear hmm
                replace b := below_then b bs
                replace hKb := hKb.below bs
                replace hRr := hRr.below bs
                refine hK.out _ _ (HS.out _ b) (fun hH => ?_)
                clear hK
                refine wpAnyH_take (i := 6) (v := .agg #[.slice ta tl tc, .slice na nl nc, .slice (some ⟨rb, 0, none⟩) N N, .map (some mb)]) rfl (by kernel_rfl) (by kernel_rfl) (by kernel_rfl) (fun _ _ _ h => h) (.inl ⟨by rfl, fun w' hS' => by first | (go_simp; done) | (go_simp; rfl) | (go_simp; intro h; omega) | (go_simp; omega)⟩) hH ?_
                simp only [List.getElem_toArray, List.getElem_cons_succ, List.getElem_cons_zero, Act.put, List.setIfInBounds_toArray, List.set_cons_zero, List.set_cons_succ]
                obtain ⟨hb4, hfz⟩ := hKb.cells
                obtain ⟨_, k0, k1, k2, k3⟩ := hb4
                have z0 := hfz 0
                have z1 := hfz 1
                have z2 := hfz 2
                have z3 := hfz 3
                obtain ⟨W2, HW2⟩ : ∃ W2, Hid ((((u3.setCell ⟨S, 0, none⟩ (.slice ta tl tc)).setCell ⟨S, 1, none⟩ (.slice na nl nc)).setCell ⟨S, 2, none⟩ (.slice (some ⟨rb, 0, none⟩) N N)).setCell ⟨S, 3, none⟩ (.map (some mb)) = W2) := ⟨_, rfl⟩
                obtain ⟨t1, t2, t3, t4⟩ := boxK_store hKb _ _ _ _ HW2.out
                have HF : Hid (S ≠ mb ∧ w7.heap.size ≤ S ∧ w7.heap.size ≤ mb ∧ ¬ (lo ≤ S ∧ S < hi) ∧ ¬ (lo ≤ mb ∧ mb < hi)) := by
                  have qq : w7.heap.size ≤ u0.heap.size := b0.size
                  have p0 := Hmbz.out
                  have p1 := HSz.out
                  have p2 := Q0.out
                  have p3 := Q1.out
                  have p4 := Q2.out
                  have p5 := Hlo.out
                  have p6 := Hhi.out
                  show _ ∧ _
                  omega
                have bw := t4 _ _ b HF.out.2.1
                have hMp2 := hMp.block (t3 mb (fun e => HF.out.1 e.symm))
                have hRr2 : RowsOn (fun k => ¬ k = mb) (.slice (some ⟨rb, 0, none⟩) N N) N (fromL s.arcs) W2 := (hRr.fill t2 t3 HF.out.2.2.2.1).weaken fun j hj q e => HF.out.2.2.2.2 (e ▸ q)
                refine wpAnyH_ready (rs := [8]) (by kernel_rfl) (by simp) ?_
                refine AllReadyH.cons rfl (fun K hK => ?_) AllReadyH.nil
                simp only [List.getElem_toArray, List.getElem_cons_succ, List.getElem_cons_zero]
                rw [if_pos (by rfl)]
                go_wp2_with fail
                rw [HW2.out]
                refine hK.out _ _ (HS.out _ bw) (fun hH => ?_)
                refine wpAnyH_done (by kernel_rfl) ?_ _
                go_wp2_with fail
                go_meet
                exact ⟨S, mb, rb, rfl, t1, hMp2, HF.out.1, HF.out.2.2.1, HF.out.2.1, hRr2, bw⟩
              · simp only [List.getElem_toArray, List.getElem_cons_succ, List.getElem_cons_zero]
                rw [if_pos (by rfl)]
                have hmm := run_makeMap (P := Try.prog) 56 u1
                have bs := below_new u1 (.map #[] 0)
                have hMp : MapA 60 spotLit okS (u1.alloc (.map #[] 0)) u1.heap.size 0 (fun _ => none) := mapA_made u1
                have q1 : (u1.alloc (.map #[] 0)).heap.size = u1.heap.size + 1 := by simp
                obtain ⟨mb, Hz1⟩ : ∃ z, Hid (u1.heap.size = z) := ⟨_, rfl⟩
                have Hmbz : Hid (u1.heap.size = mb) := Hz1.out
                obtain ⟨u2, Hn1⟩ : ∃ z, Hid (u1.alloc (.map #[] 0) = z) := ⟨_, rfl⟩
                rw [Hn1.out] at bs hMp q1 hmm
                rw [Hz1.out] at hMp hmm
                have Q1 : Hid (u2.heap.size = u1.heap.size + 1) := q1
                clear q1
                go_wp2_with fail
                clear hmm
                replace b := below_then b bs
                replace hKb := hKb.below bs
                refine hK.out _ _ (HS.out _ b) (fun hH => ?_)
                clear hK
                refine wpAnyH_ready (rs := [4]) (by kernel_rfl) (by simp) ?_
                refine AllReadyH.cons rfl (fun K hK => ?_) AllReadyH.nil
                simp only [List.getElem_toArray, List.getElem_cons_succ, List.getElem_cons_zero]
                rw [if_pos (by rfl)]
                go_wp2_with fail
                refine (leaving_any (w := u2) (hSp7.below b) Hsm.out (fun a ha => (Harcs.out a ha).1)).mono ?_
                rintro e u3 ⟨r, rfl, hRr, bs⟩
                rw [HN.out] at hRr
                obtain ⟨rb, hrb⟩ : ∃ rb, r = .slice (some ⟨rb, 0, none⟩) N N := by obtain ⟨rb, _, e, _⟩ := hRr; exact ⟨rb, e⟩
                subst hrb
                have Q2 : Hid (u2.heap.size ≤ u3.heap.size) := bs.size
                obtain ⟨lo, Hlo⟩ : ∃ z, Hid (u2.heap.size = z) := ⟨_, rfl⟩
                obtain ⟨hi, Hhi⟩ : ∃ z, Hid (u3.heap.size = z) := ⟨_, rfl⟩
                rw [Hlo.out, Hhi.out] at hRr
                replace b := below_then b bs
                replace hKb := hKb.below bs
                replace hMp := hMp.below bs
                refine hK.out _ _ (HS.out _ b) (fun hH => ?_)
                clear hK
                refine wpAnyH_take (i := 6) (v := .agg #[.slice ta tl tc, .slice na nl nc, .slice (some ⟨rb, 0, none⟩) N N, .map (some mb)]) rfl (by kernel_rfl) (by kernel_rfl) (by kernel_rfl) (fun _ _ _ h => h) (.inl ⟨by rfl, fun w' hS' => by first | (go_simp; done) | (go_simp; rfl) | (go_simp; intro h; omega) | (go_simp; omega)⟩) hH ?_
                simp only [List.getElem_toArray, List.getElem_cons_succ, List.getElem_cons_zero, Act.put, List.setIfInBounds_toArray, List.set_cons_zero, List.set_cons_succ]
                obtain ⟨hb4, hfz⟩ := hKb.cells
                obtain ⟨_, k0, k1, k2, k3⟩ := hb4
                have z0 := hfz 0
                have z1 := hfz 1
                have z2 := hfz 2
                have z3 := hfz 3
                obtain ⟨W2, HW2⟩ : ∃ W2, Hid ((((u3.setCell ⟨S, 0, none⟩ (.slice ta tl tc)).setCell ⟨S, 1, none⟩ (.slice na nl nc)).setCell ⟨S, 2, none⟩ (.slice (some ⟨rb, 0, none⟩) N N)).setCell ⟨S, 3, none⟩ (.map (some mb)) = W2) := ⟨_, rfl⟩
                obtain ⟨t1, t2, t3, t4⟩ := boxK_store hKb _ _ _ _ HW2.out
                have HF : Hid (S ≠ mb ∧ w7.heap.size ≤ S ∧ w7.heap.size ≤ mb ∧ ¬ (lo ≤ S ∧ S < hi) ∧ ¬ (lo ≤ mb ∧ mb < hi)) := by
                  have qq : w7.heap.size ≤ u0.heap.size := b0.size
                  have p0 := Hmbz.out
                  have p1 := HSz.out
                  have p2 := Q0.out
                  have p3 := Q1.out
                  have p4 := Q2.out
                  have p5 := Hlo.out
                  have p6 := Hhi.out
                  show _ ∧ _
                  omega
                have bw := t4 _ _ b HF.out.2.1
                have hMp2 := hMp.block (t3 mb (fun e => HF.out.1 e.symm))
                have hRr2 : RowsOn (fun k => ¬ k = mb) (.slice (some ⟨rb, 0, none⟩) N N) N (fromL s.arcs) W2 := (hRr.fill t2 t3 HF.out.2.2.2.1).weaken fun j hj q e => HF.out.2.2.2.2 (e ▸ q)
                refine wpAnyH_ready (rs := [8]) (by kernel_rfl) (by simp) ?_
                refine AllReadyH.cons rfl (fun K hK => ?_) AllReadyH.nil
                simp only [List.getElem_toArray, List.getElem_cons_succ, List.getElem_cons_zero]
                rw [if_pos (by rfl)]
                go_wp2_with fail
                rw [HW2.out]
                refine hK.out _ _ (HS.out _ bw) (fun hH => ?_)
                refine wpAnyH_done (by kernel_rfl) ?_ _
                go_wp2_with fail
                go_meet
                exact ⟨S, mb, rb, rfl, t1, hMp2, HF.out.1, HF.out.2.2.1, HF.out.2.1, hRr2, bw⟩
          case rest =>
            obtain ⟨S, mb, rb, rfl, hK, hM, hne, hmb, hSl, hRows, bc⟩ := hcut
            obtain ⟨w8, rfl⟩ : ∃ z, z = wc := ⟨_, rfl⟩
            have htr : tr.length ≤ 60 := by rw [Htl.out]; omega
            have hread : ReadA (fun k => k = mb) w8 (.slice ta tl tc) (.slice na nl nc) (.slice (some ⟨rb, 0, none⟩) N N) tr n.trans N (fromL s.arcs) := by
              refine ⟨fun w' hs hk => ?_, fun w' hs hk => ?_, hRows⟩
              · refine hu7.stays (Nat.le_trans bc.size hs) fun j hj => ?_
                rw [hk j (Nat.lt_of_lt_of_le hj bc.size) (by omega), bc.block j hj]
              · have hn7 : Net w7 (.agg #[.int .i64 n.places, .slice na nl nc]) n := ⟨_, rfl, hT7⟩
                have := hn7.stays (w' := w') (Nat.le_trans bc.size hs) fun j hj => by rw [hk j (Nat.lt_of_lt_of_le hj bc.size) (by omega), bc.block j hj]
                obtain ⟨tv', e, h⟩ := this
                injection e with e
                injection e with e
                simp at e
                rw [e]; exact h
            have hx9 := box2_new w8 (.int .i64 (k : Int)) (.int .i64 (tl : Int)) 60
            have b9 := below_new w8 (.cells #[.int .i64 (k : Int), .int .i64 (tl : Int)] 60)
            have hGm : w8.heap.size ≠ mb := by have := hM.lt; omega
            obtain ⟨w9, H9⟩ : ∃ z, Hid (w8.alloc (.cells #[.int .i64 (k : Int), .int .i64 (tl : Int)] 60) = z) := ⟨_, rfl⟩
            rw [H9.out] at hx9 b9
            obtain ⟨GB, HGB⟩ : ∃ z, Hid (w8.heap.size = z) := ⟨_, rfl⟩
            rw [HGB.out] at hx9 hGm
            have hS9 := (hK.below b9).cells.1
            have hok : okS (k, tl) := ⟨by show k ≤ _; omega, by show tl ≤ _; omega⟩
            have hFi := find_any (B := w7.heap.size) (goal := (k, tl)) (A := s.arcs) (hM.below b9) hS9 hne (hread.below b9) hmb (fun i hi => rfl) (fun a ha => by have := Harcs.out a ha; rw [HN.out] at this; exact ⟨this.2.1, this.2.2⟩) htr hN3 (by omega) hok
            have HCW9 : Hid (Below w.heap.size w w9) := below_then (below_then HCW.out bc) b9
            have HNm : Hid (w7.heap.size ≤ mb) := hmb
            have HN7 : Hid (w.heap.size ≤ w7.heap.size) := HCW.out.size
            obtain ⟨_, g1, g2⟩ := id hx9
            simp only at hFi
            clear hbs7 hSp7 hbx7 hM hK hread hRows bc b9 hu7 hT7
            go_upto_region 15 with fail
            rw [H9.out, HGB.out]
            go_upto_region 16 with (go_at_call 19; refine hFi.mono ?_; rintro e w10 ⟨n', c', st, rfl, hM10, hK10, hI, hfound⟩)
            clear g1 g2 hFi
            have hx10 := (hK10.box2A hx9 hGm).1
            have hS10 := (hK10.box4A hS9 hne).1
            obtain ⟨sg, hsg⟩ : ∃ sg, st.by_ (k, tl) = some sg := by
              rcases hfound with h | h
              · exact Option.isSome_iff_exists.1 h
              · obtain ⟨ms, hl⟩ := reach_lay HW.out tr hkl
                obtain ⟨s0, h0, _⟩ := hI.base
                have := hI.all h h0 hl
                rw [Htl.out] at this
                exact this
            have HCh : Hid (Cheap s.arcs (lbT n.trans) tr (0, 0) (k, tl) sg.cost) := hI.cheap hsg
            have HK10 : Hid (KeepsA w9 (fun k => k = mb) w10 (fun k => k = mb)) := hK10
            have HB10 : Hid (Below w.heap.size w w10) := by
              have q0 := HCW9.out; have q1 := HN7.out; have q2 := HNm.out
              exact ⟨hK10.same.1.trans q0.os, hK10.same.2.1.trans q0.tape, hK10.same.2.2.trans q0.output, Nat.le_trans q0.size hK10.size, fun j hj => ((hK10.block j (Nat.lt_of_lt_of_le hj q0.size) (by omega)).1).trans (q0.block j hj)⟩
            have hmc := hM10.lt
            clear hfound hK10 hx9 hS9
            obtain ⟨⟨f1, f2⟩, ⟨mk, ml, mt⟩, sc⟩ := sg
            simp only at HCh
            have HLO : Hid (lbT n.trans = labT n) := rfl
            have HLK : Hid (∀ w' : World, MapA 60 spotLit okS w' mb n' (mapV st.by_) → (Instr.lookup 56 (.map (some mb)) (.agg #[.int .i64 (k : Int), .int .i64 (tl : Int)]) false).run Try.prog w' = .ok (.agg #[.int .i64 (f1 : Int), .int .i64 (f2 : Int), .int .i64 mk, .int .i64 ml, .int .i64 mt, .int .i64 (sc : Int)]) w') := fun w' hm => by
              have := hm.look spot_key Try.underlying56 (e := 64) (z := stepZ) (by kernel_rfl) hok
              unfold mapV at this
              rw [hsg] at this
              exact this
            have HS : Hid (∀ w', Below w10.heap.size w10 w' →  w'.cell? ⟨S, 3, none⟩ = some (.map (some mb)) ∧ w'.cell? ⟨GB, 0, none⟩ = some (.int .i64 (k : Int)) ∧ w'.cell? ⟨GB, 1, none⟩ = some (.int .i64 (tl : Int)) ∧ MapA 60 spotLit okS w' mb n' (mapV st.by_)) := fun w' hb => by
              obtain ⟨_, q0, q1, q2, q3⟩ := hS10.below hb
              obtain ⟨_, q4, q5⟩ := hx10.below hb
              exact ⟨q3, q4, q5, hM10.below hb⟩
            refine wp_region_held_drew (S := (fun w' => w'.cell? ⟨S, 3, none⟩ = some (.map (some mb)) ∧ w'.cell? ⟨GB, 0, none⟩ = some (.int .i64 (k : Int)) ∧ w'.cell? ⟨GB, 1, none⟩ = some (.int .i64 (tl : Int)) ∧ MapA 60 spotLit okS w' mb n' (mapV st.by_))) (by kernel_rfl) (HS.out _ (Below.refl _ _).drew) (fun hH => ?_)
            have b : Below w10.heap.size w10 w10.drew := (Below.refl _ _).drew
            have hWay := wayto_any (hM10.below b) (hS10.below b) hI hsg htr hN3
            simp only at hWay
            obtain ⟨u0, Hv0⟩ : ∃ v0', Hid (w10.drew = v0') := ⟨_, rfl⟩
            rw [Hv0.out] at hH b hWay ⊢
            clear Hv0
            refine wpAnyH_take (i := 0) (v := .agg #[.int .i64 (k : Int), .int .i64 (tl : Int)]) rfl (by kernel_rfl) (by kernel_rfl) (by kernel_rfl) (fun _ _ _ h => h) (.inl ⟨by rfl, fun w' hS' => by obtain ⟨s0, s1, s2, hm⟩ := hS'; go_simp⟩) hH ?_
            simp only [List.getElem_toArray, List.getElem_cons_succ, List.getElem_cons_zero, Act.put, List.setIfInBounds_toArray, List.set_cons_zero, List.set_cons_succ]
            refine wpAnyH_take (i := 2) (v := .pointer (some ⟨S, 3, none⟩)) rfl (by kernel_rfl) (by kernel_rfl) (by kernel_rfl) (fun _ _ _ h => h) (.inl ⟨by rfl, fun w' hS' => by first | (go_simp; done) | (go_simp; rfl) | (go_simp; intro h; omega) | (go_simp; omega)⟩) hH ?_
            simp only [List.getElem_toArray, List.getElem_cons_succ, List.getElem_cons_zero, Act.put, List.setIfInBounds_toArray, List.set_cons_zero, List.set_cons_succ]
            refine wpAnyH_take (i := 3) (v := .map (some mb)) rfl (by kernel_rfl) (by kernel_rfl) (by kernel_rfl) (fun _ _ _ h => h) (.inl ⟨by rfl, fun w' hS' => by obtain ⟨s0, s1, s2, hm⟩ := hS'; go_simp⟩) hH ?_
            simp only [List.getElem_toArray, List.getElem_cons_succ, List.getElem_cons_zero, Act.put, List.setIfInBounds_toArray, List.set_cons_zero, List.set_cons_succ]
            refine wpAnyH_take (i := 4) (v := .agg #[.int .i64 (k : Int), .int .i64 (tl : Int)]) rfl (by kernel_rfl) (by kernel_rfl) (by kernel_rfl) (fun _ _ _ h => h) (.inl ⟨by rfl, fun w' hS' => by obtain ⟨s0, s1, s2, hm⟩ := hS'; go_simp⟩) hH ?_
            simp only [List.getElem_toArray, List.getElem_cons_succ, List.getElem_cons_zero, Act.put, List.setIfInBounds_toArray, List.set_cons_zero, List.set_cons_succ]
            refine wpAnyH_take (i := 5) (v := .agg #[.int .i64 (f1 : Int), .int .i64 (f2 : Int), .int .i64 mk, .int .i64 ml, .int .i64 mt, .int .i64 (sc : Int)]) rfl (by kernel_rfl) (by kernel_rfl) (by kernel_rfl) (fun _ _ _ h => h) (.inl ⟨by rfl, fun w' hS' => by obtain ⟨s0, s1, s2, hm⟩ := hS'; have hrun := HLK.out _ hm; go_simp⟩) hH ?_
            simp only [List.getElem_toArray, List.getElem_cons_succ, List.getElem_cons_zero, Act.put, List.setIfInBounds_toArray, List.set_cons_zero, List.set_cons_succ]
            refine wpAnyH_take (i := 6) (v := .int .i64 (sc : Int)) rfl (by kernel_rfl) (by kernel_rfl) (by kernel_rfl) (fun _ _ _ h => h) (.inl ⟨by rfl, fun w' hS' => by first | (go_simp; done) | (go_simp; rfl) | (go_simp; intro h; omega) | (go_simp; omega)⟩) hH ?_
            simp only [List.getElem_toArray, List.getElem_cons_succ, List.getElem_cons_zero, Act.put, List.setIfInBounds_toArray, List.set_cons_zero, List.set_cons_succ]
            refine wpAnyH_ready (rs := [1]) (by kernel_rfl) (by simp) ?_
            refine AllReadyH.cons rfl (fun K hK => ?_) AllReadyH.nil
            simp only [List.getElem_toArray, List.getElem_cons_succ, List.getElem_cons_zero]
            rw [if_pos (by rfl)]
            go_wp2_with fail
            refine hWay.mono ?_
            rintro e u1 ⟨r6, ms, rfl, hO6, hLay, hcost, hml⟩
            obtain ⟨a6, l6, c6, rfl⟩ := ownsRow_slice hO6.1
            have b1 : Below u0.heap.size u0 u1 := hO6.2.1
            replace b := below_then b b1
            have HB16 : Hid (Below w.heap.size w u1) := HB10.out.trans (b.mono HB10.out.size)
            refine hK.out _ _ (HS.out _ b) (fun hH => ?_)
            clear hK
            refine wpAnyH_take (i := 7) (v := .slice a6 l6 c6) rfl (by kernel_rfl) (by kernel_rfl) (by kernel_rfl) (fun _ _ _ h => h) (.inl ⟨by rfl, fun _ _ => rfl⟩) hH ?_
            simp only [List.getElem_toArray, List.getElem_cons_succ, List.getElem_cons_zero, Act.put, List.setIfInBounds_toArray, List.set_cons_zero, List.set_cons_succ]
            refine wpAnyH_take (i := 8) (v := .int .i64 (sc : Int)) rfl (by kernel_rfl) (by kernel_rfl) (by kernel_rfl) (fun _ _ _ h => h) (.inl ⟨by rfl, fun _ _ => rfl⟩) hH ?_
            simp only [List.getElem_toArray, List.getElem_cons_succ, List.getElem_cons_zero, Act.put, List.setIfInBounds_toArray, List.set_cons_zero, List.set_cons_succ]
            refine wpAnyH_take (i := 9) (v := .int .i64 0) rfl (by kernel_rfl) (by kernel_rfl) (by kernel_rfl) (fun _ _ _ h => h) (.inl ⟨by rfl, fun _ _ => rfl⟩) hH ?_
            simp only [List.getElem_toArray, List.getElem_cons_succ, List.getElem_cons_zero, Act.put, List.setIfInBounds_toArray, List.set_cons_zero, List.set_cons_succ]
            refine wpAnyH_done (by kernel_rfl) ?_ _
            have HEnd : Hid (AlignAns n i o tr ms (sc : Int) 0) := ⟨0, HTE.out, fun h => absurd rfl h, fun _ => .inr (.inr ⟨htr, rfl, k, by rw [HG.out]; exact hkl, by rw [HG.out]; exact HKE.out, by
              rw [HG.out, Htl.out]
              refine ⟨?_, by rw [hcost], ?_⟩
              · have := hLay; rw [HLO.out] at this; exact this
              · rw [hcost]; have := HCh.out; rw [HLO.out] at this; exact this⟩)⟩
            have HMv : Hid (MovesV u1 (.slice a6 l6 c6) ms) := hO6.cells (by omega) one_cellsM
            clear hO6 hLay hcost
            go_wp2_with fail
            go_ret3
            exact ⟨_, ms, _, _, rfl, HEnd.out, HMv.out, HB16.out⟩
    · have HTE : Hid (TongErr n i o dg) := .inr ⟨HS.out, by rw [HG.out]⟩
      have HEnd : Hid (AlignAns n i o tr [] 0 dg) := ⟨dg, HTE.out, fun _ => ⟨rfl, rfl, rfl⟩, fun h => absurd h hg0⟩
      clear hbs hSp hbx hv
      go_wp2
      go_ret3
      exact ⟨_, [], _, _, rfl, HEnd.out, moves_nil _, c⟩
  · have HTE : Hid (TongErr n i o d) := .inl ⟨hd0, hd⟩
    have HEnd : Hid (AlignAns n i o tr [] 0 d) := ⟨d, HTE.out, fun _ => ⟨rfl, rfl, rfl⟩, fun h => absurd h hd0⟩
    clear hd hbx hv
    go_wp2
    go_ret3
    exact ⟨_, [], _, _, rfl, HEnd.out, moves_nil _, c⟩

end Go.Proofs.Ytakgppoeikcepaa