import Derived.Test.YtakgppoeikcepaaDoorGr29
import Derived.Test.YtakgppoeikcepaaDoorGr06
import Derived.BigRegion
import Derived.Test.YtakgppoeikcepaaDoorGr00
import Derived.Test.YtakgppoeikcepaaDoorGr05
import Derived.Test.YtakgppoeikcepaaDoorShapeDev
import Derived.Test.YtakgppoeikcepaaDoorReachDev
import Derived.Test.YtakgppoeikcepaaDoorGr22
import Derived.Test.YtakgppoeikcepaaDoorGr14
/- find: level by level. (Made by tools/gen_alignfw.py.) -/
namespace Go.Proofs.YtakgppoeikcepaaDoor
open Go.RowKit
set_option linter.unusedVariables false
set_option linter.unusedSimpArgs false
set_option maxRecDepth 4000

def zeroStep : StepL := ⟨(0, 0), ⟨0, 0, 0⟩, 0⟩
theorem mine0_keeps {w w' : World} {mb : Nat} {lv lv' : Value} (h : KeepsA w (mine0 mb lv) w' (mine0 mb lv')) (hl : ∀ k, k < w.heap.size → lv.ownBlock ≠ some k) : KeepsA w (fun k => k = mb) w' (mine0 mb lv') :=
  ⟨h.size, fun k hk hn => h.block k hk (fun q => q.elim hn (hl k hk)), h.same⟩
def roomN (N T : Nat) : Nat := 2 * (N * (T + 1))
theorem roomN_le {N T : Nat} (hN : N ≤ 300) (hT : T ≤ 60) : roomN N T ≤ 36600 := by
  unfold roomN
  have : N * (T + 1) ≤ 300 * 61 := Nat.mul_le_mul hN (by omega)
  omega

/-- find at work: between two levels. -/
structure FindA (B mb S Gb N : Nat) (goal : Nat × Nat) (v0 v1 v2 : Value) (tr : List Int) (ts : List TranL) (R : Nat → List ArcL) (A : List ArcL) (w wr : World) (c n : Nat) (st : SrchL) (lv : Value) : Prop where
  map : MapA 56 spotLit okS wr mb n (mapV st.by_)
  row : wr.ownsRow B 56 2 lv st.level.length (cellsS st.level)
  dear : st.dear = []
  srch : Box4A wr S v0 v1 v2 (.map (some mb))
  goalB : Box2 wr Gb (.int .i64 (goal.1 : Int)) (.int .i64 (goal.2 : Int))
  off : ¬ mine0 mb lv S ∧ ¬ mine0 mb lv Gb
  read : ReadA (mine0 mb lv) wr v0 v1 v2 tr ts N R
  ap : lv.ownBlock ≠ some mb
  inv : InvS A (lbT ts) tr N c st st.level
  keeps : KeepsA w (fun k => k = mb) wr (mine0 mb lv)
  small : n + phiS N tr.length c st.by_ ≤ roomN N tr.length + 1 ∧ st.level.length + phiS N tr.length c st.by_ ≤ roomN N tr.length + 1
section
variable {B mb S Gb N : Nat} {goal : Nat × Nat} {v0 v1 v2 : Value} {tr : List Int} {ts : List TranL} {R : Nat → List ArcL} {A : List ArcL} {w wr : World} {c n : Nat} {st : SrchL} {lv : Value}
theorem FindA.below {w2 : World} (h : FindA B mb S Gb N goal v0 v1 v2 tr ts R A w wr c n st lv) (hb : Below wr.heap.size wr w2) : FindA B mb S Gb N goal v0 v1 v2 tr ts R A w w2 c n st lv :=
  ⟨h.map.below hb, ((ownsRow_on h.row).below hb).now, h.dear, h.srch.below hb, h.goalB.below hb, h.off, h.read.below hb, h.ap, h.inv, h.keeps.trans (KeepsA.below hb _), h.small⟩
theorem FindA.next {w2 : World} {n' : Nat} {dv' : Value} {st' : SrchL} (h : FindA B mb S Gb N goal v0 v1 v2 tr ts R A w wr c n st lv) (h1 : MapA 56 spotLit okS w2 mb n' (mapV st'.by_)) (h2 : w2.ownsRow B 56 2 dv' st'.dear.length (cellsS st'.dear)) (h3 : dv'.ownBlock ≠ some mb)
    (h4 : KeepsA wr (mine0 mb lv) w2 (mine0 mb dv')) (h5 : InvS A (lbT ts) tr N c st' []) (h6 : n' + phiS N tr.length c st'.by_ ≤ n + phiS N tr.length c st.by_) (h7 : st'.dear.length + phiS N tr.length c st'.by_ ≤ phiS N tr.length c st.by_) :
    FindA B mb S Gb N goal v0 v1 v2 tr ts R A w w2 (c + 1) n' ⟨st'.by_, st'.dear, []⟩ dv' := by
  obtain ⟨a1, b1⟩ := h4.box4A h.srch h.off.1
  obtain ⟨a2, b2⟩ := h4.box2A h.goalB h.off.2
  have hp := phi_next N tr.length c st'.by_
  have hs := h.small
  have hpl := phi_le N tr.length c st.by_
  refine ⟨h1, h2, rfl, a1, a2, ⟨b1, b2⟩, h.read.keeps h4, h3, h5.next, h.keeps.trans h4, ?_, ?_⟩
  · simp only; omega
  · simp only; unfold roomN; omega
end

set_option maxHeartbeats 8000000 in
theorem find_any {B mb S N : Nat} {goal : Nat × Nat} {v0 v1 v2 : Value} {tr : List Int} {ts : List TranL} {R : Nat → List ArcL} {A : List ArcL} {w : World} (hm : MapA 56 spotLit okS w mb 0 (fun _ => none))
    (hS : Box4A w S v0 v1 v2 (.map (some mb))) (hoff : S ≠ mb) (hread : ReadA (fun k => k = mb) w v0 v1 v2 tr ts N R) (hBm : B ≤ mb) (hR : ∀ i, i < N → R i = A.filter fun a => a.frm == i)
    (hA : ∀ a ∈ A, a.dst < N ∧ a.tran < ts.length) (htr : tr.length ≤ 60) (hN : N ≤ 300) (hN0 : 0 < N) (hg : okS goal) :
    Calls Tryd.prog 17 #[.pointer (some ⟨S, 0, none⟩), .agg #[.int .i64 (goal.1 : Int), .int .i64 (goal.2 : Int)]] w fun e w' => ∃ n' c' st', e = .returned (.tuple #[]) ∧ MapA 56 spotLit okS w' mb n' (mapV st'.by_) ∧
      KeepsA w (fun k => k = mb) w' (fun k => k = mb) ∧ InvS A (lbT ts) tr N c' st' [] ∧ ((st'.by_ goal).isSome = true ∨ st'.dear = []) := by
  obtain ⟨g1, g2⟩ := goal
  simp only
  have hx1 := box2_new w (.int .i64 (g1 : Int)) (.int .i64 (g2 : Int)) 56
  have b1 := below_new w (.cells #[.int .i64 (g1 : Int), .int .i64 (g2 : Int)] 56)
  have z1 : (w.alloc (.cells #[.int .i64 (g1 : Int), .int .i64 (g2 : Int)] 56)).heap.size = w.heap.size + 1 := by simp
  obtain ⟨w1, H1⟩ : ∃ u, Hid (w.alloc (.cells #[.int .i64 (g1 : Int), .int .i64 (g2 : Int)] 56) = u) := ⟨_, rfl⟩
  rw [H1.out] at hx1 b1 z1
  have hx2 := box2_new w1 (.int .i64 0) (.int .i64 0) 56
  have b2 := below_new w1 (.cells #[.int .i64 0, .int .i64 0] 56)
  have z2 : (w1.alloc (.cells #[.int .i64 0, .int .i64 0] 56)).heap.size = w.heap.size + 1 + 1 := by simp [z1]
  obtain ⟨w2, H2⟩ : ∃ u, Hid (w1.alloc (.cells #[.int .i64 0, .int .i64 0] 56) = u) := ⟨_, rfl⟩
  rw [H2.out] at hx2 b2 z2
  rw [z1] at hx2
  replace hx1 := hx1.below b2
  have b := below_then b1 b2
  have hmb := hm.lt
  have hSl := hS.1
  obtain ⟨X, HX⟩ : ∃ x, Hid (w.heap.size = x) := ⟨_, rfl⟩
  have Hb : Hid (Below w.heap.size w w2) := b
  have HZ : Hid (w2.heap.size = X + 1 + 1) := by show _ = _; rw [z2, HX.out]
  rw [HX.out] at hx1 hx2 hmb hSl
  replace hm := hm.below b
  replace hS := hS.below b
  replace hread := hread.below b
  have HRR : Hid (∀ i, i < N → R i = A.filter fun a => a.frm == i) := hR
  have HAA : Hid (∀ a ∈ A, a.dst < N ∧ a.tran < ts.length) := hA
  have HP : Hid (roomN N tr.length ≤ 36600) := roomN_le hN htr
  clear hR hA b b1 b2 z1 z2
  go_enter Tryd.func17, Tryd.ntmps17
  go_upto_region 2 with fail
  rw [H1.out, H2.out, HX.out]
  go_cut [] (fun wc => MapA 56 spotLit okS wc mb 1 (mapV (putS (fun _ => none) (0, 0) zeroStep)) ∧ KeepsA w (fun k => k = mb) wc (fun k => k = mb) ∧ KeepsA w2 (fun k => k = mb) wc (fun k => k = mb))
  case first =>
    have HS : Hid (∀ w', Below w2.heap.size w2 w' →  w'.cell? ⟨S, 3, none⟩ = some (.map (some mb)) ∧ w'.cell? ⟨(X + 1), 0, none⟩ = some (.int .i64 0) ∧ w'.cell? ⟨(X + 1), 1, none⟩ = some (.int .i64 0)) := fun w' hb => by
      obtain ⟨_, q1, q2, q3, q4⟩ := hS.below hb
      obtain ⟨_, q6, q7⟩ := hx2.below hb
      exact ⟨q4, q6, q7⟩
    refine wp_region_held_drew (S := (fun w' => w'.cell? ⟨S, 3, none⟩ = some (.map (some mb)) ∧ w'.cell? ⟨(X + 1), 0, none⟩ = some (.int .i64 0) ∧ w'.cell? ⟨(X + 1), 1, none⟩ = some (.int .i64 0))) (by kernel_rfl) (HS.out _ (Below.refl _ _).drew) (fun hH => ?_)
    have b : Below w2.heap.size w2 w2.drew := (Below.refl _ _).drew
    obtain ⟨v0', Hv0⟩ : ∃ v0', Hid (w2.drew = v0') := ⟨_, rfl⟩
    rw [Hv0.out] at hH b ⊢
    clear Hv0
    refine wpAnyH_take (i := 0) (v := .pointer (some ⟨S, 0, none⟩)) rfl (by kernel_rfl) (by kernel_rfl) (by kernel_rfl) (fun _ _ _ h => h) (.inl ⟨by rfl, fun _ _ => rfl⟩) hH ?_
    simp only [List.getElem_toArray, List.getElem_cons_succ, List.getElem_cons_zero, Act.put, List.setIfInBounds_toArray, List.set_cons_zero, List.set_cons_succ]
    refine wpAnyH_take (i := 1) (v := .pointer (some ⟨S, 0, none⟩)) rfl (by kernel_rfl) (by kernel_rfl) (by kernel_rfl) (fun _ _ _ h => h) (.inl ⟨by rfl, fun w' hS' => by first | (go_simp; done) | (go_simp; rfl) | (go_simp; intro h; omega) | (go_simp; omega)⟩) hH ?_
    simp only [List.getElem_toArray, List.getElem_cons_succ, List.getElem_cons_zero, Act.put, List.setIfInBounds_toArray, List.set_cons_zero, List.set_cons_succ]
    refine wpAnyH_take (i := 2) (v := .pointer (some ⟨S, 3, none⟩)) rfl (by kernel_rfl) (by kernel_rfl) (by kernel_rfl) (fun _ _ _ h => h) (.inl ⟨by rfl, fun w' hS' => by first | (go_simp; done) | (go_simp; rfl) | (go_simp; intro h; omega) | (go_simp; omega)⟩) hH ?_
    simp only [List.getElem_toArray, List.getElem_cons_succ, List.getElem_cons_zero, Act.put, List.setIfInBounds_toArray, List.set_cons_zero, List.set_cons_succ]
    refine wpAnyH_take (i := 3) (v := .map (some mb)) rfl (by kernel_rfl) (by kernel_rfl) (by kernel_rfl) (fun _ _ _ h => h) (.inl ⟨by rfl, fun w' hS' => by obtain ⟨s0, s1, s2⟩ := hS'; go_simp⟩) hH ?_
    simp only [List.getElem_toArray, List.getElem_cons_succ, List.getElem_cons_zero, Act.put, List.setIfInBounds_toArray, List.set_cons_zero, List.set_cons_succ]
    refine wpAnyH_take (i := 4) (v := .agg #[.int .i64 0, .int .i64 0]) rfl (by kernel_rfl) (by kernel_rfl) (by kernel_rfl) (fun _ _ _ h => h) (.inl ⟨by rfl, fun w' hS' => by obtain ⟨s0, s1, s2⟩ := hS'; go_simp⟩) hH ?_
    simp only [List.getElem_toArray, List.getElem_cons_succ, List.getElem_cons_zero, Act.put, List.setIfInBounds_toArray, List.set_cons_zero, List.set_cons_succ]
    refine wpAnyH_take (i := 5) (v := .agg #[.int .i64 0, .int .i64 0, .int .i64 0, .int .i64 0, .int .i64 0, .int .i64 0]) rfl (by kernel_rfl) (by kernel_rfl) (by kernel_rfl) (fun _ _ _ h => h) (.inl ⟨by rfl, fun w' hS' => by first | (go_simp; done) | (go_simp; rfl) | (go_simp; intro h; omega) | (go_simp; omega)⟩) hH ?_
    simp only [List.getElem_toArray, List.getElem_cons_succ, List.getElem_cons_zero, Act.put, List.setIfInBounds_toArray, List.set_cons_zero, List.set_cons_succ]
    obtain ⟨w5, hrun, hput, hg5⟩ := (hm.below b).put spot_key Tryd.underlying52 (by unfold maxLen; omega) (x := (0, 0)) ⟨by show 0 ≤ _; omega, by show 0 ≤ _; omega⟩ (stepV zeroStep)
    have hm5 := hput (mapV (putS (fun _ => none) (0, 0) zeroStep)) (by unfold mapV putS; simp) (fun y hy => by unfold mapV putS; rw [if_neg hy]; rfl)
    have hK6 : KeepsA v0' (fun k => k = mb) w5 (fun k => k = mb) := ⟨hg5.size, fun k hk hn => ⟨hg5.block k hk (fun e => by injection e with e; exact hn e), hn⟩, SameO.grown hg5⟩
    have HK6 : Hid (KeepsA w (fun k => k = mb) w5 (fun k => k = mb)) := (KeepsA.below (below_then Hb.out b) _).trans hK6
    have HK7 : Hid (KeepsA w2 (fun k => k = mb) w5 (fun k => k = mb)) := (KeepsA.below b _).trans hK6
    have hrun' : (Instr.mapUpdate 52 (.map (some mb)) (.agg #[.int .i64 0, .int .i64 0]) (.agg #[.int .i64 0, .int .i64 0, .int .i64 0, .int .i64 0, .int .i64 0, .int .i64 0])).run Tryd.prog v0' = .ok () w5 := hrun
    clear hrun hput
    refine wpAnyH_ready (rs := [6]) (by kernel_rfl) (by simp) ?_
    refine AllReadyH.cons rfl (fun K hK => ?_) AllReadyH.nil
    simp only [List.getElem_toArray, List.getElem_cons_succ, List.getElem_cons_zero]
    rw [if_pos (by rfl)]
    go_wp2_with fail
    refine hK.out _ _ ?_ (fun hH => ?_)
    · obtain ⟨_, q1, q2, q3, q4⟩ := (HK7.out.box4A hS hoff).1
      obtain ⟨_, q6, q7⟩ := (HK7.out.box2A hx2 (by omega)).1
      exact ⟨q4, q6, q7⟩
    refine wpAnyH_done (by kernel_rfl) ?_ _
    go_wp2_with fail
    go_meet
    exact ⟨hm5, HK6.out, HK7.out⟩
  case rest =>
    obtain ⟨hm3, hK3, hK23⟩ := hcut
    obtain ⟨w3, rfl⟩ : ∃ z, z = wc := ⟨_, rfl⟩
    obtain ⟨hS3, _⟩ := hK23.box4A hS hoff
    obtain ⟨hG3, _⟩ := hK23.box2A hx1 (by omega)
    obtain ⟨hB3, _⟩ := hK23.box2A hx2 (by omega)
    have hr3 := hread.keeps hK23
    have hsz3 : X + 1 + 1 ≤ w3.heap.size := by rw [← HZ.out]; exact hK23.size
    clear hm hS hread hx1 hx2 hK23
    obtain ⟨_, x1, x2⟩ := id hB3
    have b4 := below_new w3 (.cells #[.int .i64 0, .int .i64 0] 56)
    obtain ⟨LB, HLB⟩ : ∃ z, Hid (w3.heap.size = z) := ⟨_, rfl⟩
    have hrow : (w3.alloc (.cells #[.int .i64 0, .int .i64 0] 56)).ownsRow B 56 2 (.slice (some ⟨w3.heap.size, 0, none⟩) 1 1) 1 (cellsS [(0, 0)]) := by
      have hB3s : B ≤ w3.heap.size := by omega
      have := World.ownsRow_lit (e := 56) (size := 2) (base := B) w3 #[.int .i64 0, .int .i64 0] 1 hB3s (by unfold maxLen; omega) rfl
      exact this
    obtain ⟨w4, H4⟩ : ∃ u, Hid (w3.alloc (.cells #[.int .i64 0, .int .i64 0] 56) = u) := ⟨_, rfl⟩
    rw [H4.out] at b4 hrow
    rw [HLB.out] at hrow
    have hFA : FindA B mb S X N (g1, g2) v0 v1 v2 tr ts R A w w4 0 1 ⟨putS (fun _ => none) (0, 0) zeroStep, [(0, 0)], []⟩ (.slice (some ⟨LB, 0, none⟩) 1 1) := by
      have hmine : ∀ k, k < w3.heap.size → ¬ k = mb → ¬ mine0 mb (.slice (some ⟨LB, 0, none⟩) 1 1) k := by
        rintro k hk hn (e | e)
        · exact hn e
        · simp [Value.ownBlock] at e; have := HLB.out; omega
      refine ⟨hm3.below b4, hrow, rfl, hS3.below b4, hG3.below b4, ⟨hmine S hS3.1 hoff, hmine X hG3.1 (by omega)⟩, ⟨(hr3.trace.weaken hmine).below b4, (hr3.trans.weaken hmine).below b4, ?_⟩, ?_, InvS.start _ rfl hN0, ?_, ?_⟩
      · obtain ⟨rb, rv, e, hrb, hrs⟩ := hr3.rows
        exact ⟨rb, rv, e, Nat.lt_of_lt_of_le hrb b4.size, fun i hi => ((hrs i hi).weaken hmine).below b4⟩
      · simp [Value.ownBlock]; have := HLB.out; omega
      · exact ⟨Nat.le_trans hK3.size b4.size, fun k hk hn => by
          obtain ⟨q1, q2⟩ := hK3.block k hk hn
          have hk3 : k < w3.heap.size := Nat.lt_of_lt_of_le hk hK3.size
          exact ⟨(b4.block k hk3).trans q1, hmine k hk3 hn⟩, hK3.same.trans (SameO.below b4)⟩
      · have h1 : phiS N tr.length 0 (putS (fun _ => none) (0, 0) zeroStep) + 1 ≤ roomN N tr.length := by
          have h2 : phiS N tr.length 0 (putS (fun _ => none) (0, 0) zeroStep) + 1 ≤ phiS N tr.length 0 (fun _ => none) := by
            unfold phiS
            refine sum_ltS (p := (0, 0)) (fun q _ => ?_) (mem_grid.2 ⟨hN0, Nat.zero_le _⟩) ?_
            · exact Nat.le_trans (phi1_le _ _) (Nat.le_refl _)
            · unfold phi1 putS zeroStep; simp
          exact Nat.le_trans h2 (phi_le _ _ _ _)
        simp only
        constructor
        · omega
        · simp; omega
    have HF4 : Hid _ := hFA
    clear hm3 hK3 hS3 hG3 hB3 hr3 b4 hrow
    go_upto_region 4 with fail
    rw [H4.out, HLB.out]
    go_wp2_with fail
    go_loopg [5, 6] 73203 (fun gk lv' c' wr => ∃ (c n : Nat) (st : SrchL) (lv : Value), lv' = lv ∧ c' = .int .i64 (c : Int) ∧ FindA B mb S X N (g1, g2) v0 v1 v2 tr ts R A w wr c n st lv ∧ 2 * phiS N tr.length c st.by_ + (if st.level = [] then 0 else 1) ≤ gk ∧ c + gk ≤ 73203)
    case atStart =>
      refine ⟨0, 1, _, _, rfl, rfl, HF4.out, ?_, by omega⟩
      have h1 := phi_le N tr.length 0 (putS (fun _ => none) (0, 0) zeroStep)
      have h2 := HP.out
      unfold roomN at h2
      simp only
      rw [if_neg (by simp)]
      omega
    case round =>
      clear hFA
      obtain ⟨c, n, st, lv, rfl, rfl, hF, hgk, hcg⟩ := hrel
      obtain ⟨la, ll, lc, rfl⟩ := ownsRow_slice hF.row
      have Hll : Hid (st.level.length = ll) := (row_len hF.row).symm
      have HPs : Hid (phiS N tr.length c st.by_ ≤ roomN N tr.length) := phi_le _ _ _ _
      by_cases hl : 0 < ll
      · have hne : st.level ≠ [] := fun e => by have := Hll.out; rw [e] at this; simp at this; omega
        rw [if_neg hne] at hgk
        have i0 : (0 : Int) < (ll : Int) := by omega
        have hC := spread_any hF.map hF.row hF.dear hF.srch hF.off.1 hF.read hF.ap hBm hF.inv HRR.out HAA.out htr hN (by omega) (by
          have h1 := hF.small; have h2 := HP.out
          unfold sizeS
          rw [hF.dear]
          simp only [List.length_nil]
          omega)
        have HGo : Hid (∀ n' dv' st' w6, MapA 56 spotLit okS w6 mb n' (mapV st'.by_) → w6.ownsRow B 56 2 dv' st'.dear.length (cellsS st'.dear) → dv'.ownBlock ≠ some mb →
            KeepsA wr (mine0 mb (.slice la ll lc)) w6 (mine0 mb dv') → InvS A (lbT ts) tr N c st' [] → n' + phiS N tr.length c st'.by_ ≤ n + phiS N tr.length c st.by_ → st'.dear.length + phiS N tr.length c st'.by_ ≤ phiS N tr.length c st.by_ →
            FindA B mb S X N (g1, g2) v0 v1 v2 tr ts R A w w6 (c + 1) n' ⟨st'.by_, st'.dear, []⟩ dv') := fun n' dv' st' w6 h1 h2 h3 h4 h5 h6 h7 => hF.next h1 h2 h3 h4 h5 h6 h7
        go_wp2_with (go_at_call 28; refine hC.mono ?_; rintro e w5 ⟨n', dv', st', rfl, h1, h2, h3, h4, h5, h6, h7⟩)
        have hF5 := HGo.out _ _ _ _ h1 h2 h3 h4 h5 h6 h7
        have HI5 : Hid (InvS A (lbT ts) tr N c st' []) := h5
        have HM5 : Hid (MapA 56 spotLit okS w5 mb n' (mapV st'.by_)) := h1
        have HGk : Hid (2 * phiS N tr.length (c + 1) st'.by_ + (if st'.dear = [] then 0 else 1) ≤ gk - 1 ∧ 1 ≤ gk) := by
          have q1 := phi_next N tr.length c st'.by_
          show _ ∧ _
          by_cases hd : st'.dear = []
          · rw [if_pos hd]; omega
          · rw [if_neg hd]
            have : 0 < st'.dear.length := List.length_pos_iff.2 hd
            omega
        have h6' : Hid (n' + phiS N tr.length c st'.by_ ≤ n + phiS N tr.length c st.by_) := h6
        clear h1 h2 h3 h4 h5 h6 h7 hC HGo hF hgk
        obtain ⟨a0, a1, a2, a3, a4, a5, q, Hla, Hlq⟩ : ∃ a0 a1 a2 a3 a4 a5 q, Hid ((mapV st'.by_ (g1, g2)).getD stepZ = .agg #[.int .i64 a0, .int .i64 a1, .int .i64 a2, .int .i64 a3, .int .i64 a4, .int .i64 a5]) ∧ Hid ((mapV st'.by_ (g1, g2)).isSome = q) := by
          obtain ⟨a0, a1, a2, a3, a4, a5, q, e1, e2, e3⟩ := mapV_at st'.by_ (g1, g2)
          exact ⟨a0, a1, a2, a3, a4, a5, q, e1, e2⟩
        go_upto_region 8 with fail
        go_cut [8] (fun x8 wc => x8 = .bool q ∧ Below w5.heap.size w5 wc)
        case first =>
          have HLK : Hid (∀ w' : World, MapA 56 spotLit okS w' mb n' (mapV st'.by_) → (Instr.lookup 52 (.map (some mb)) (.agg #[.int .i64 (g1 : Int), .int .i64 (g2 : Int)]) true).run Tryd.prog w' = .ok (.tuple #[.agg #[.int .i64 a0, .int .i64 a1, .int .i64 a2, .int .i64 a3, .int .i64 a4, .int .i64 a5], .bool q]) w') := fun w' hm => by
            have := hm.look_ok spot_key Tryd.underlying52 (e := 62) (z := stepZ) (by kernel_rfl) hg
            rw [Hla.out, Hlq.out] at this
            exact this
          have HS : Hid (∀ w', Below w5.heap.size w5 w' →  w'.cell? ⟨S, 3, none⟩ = some (.map (some mb)) ∧ w'.cell? ⟨X, 0, none⟩ = some (.int .i64 (g1 : Int)) ∧ w'.cell? ⟨X, 1, none⟩ = some (.int .i64 (g2 : Int)) ∧ MapA 56 spotLit okS w' mb n' (mapV st'.by_)) := fun w' hb => by
            have q := hF5.below hb
            obtain ⟨_, q1, q2, q3, q4⟩ := q.srch
            obtain ⟨_, q6, q7⟩ := q.goalB
            exact ⟨q4, q6, q7, HM5.out.below hb⟩
          refine wp_region_held_drew (S := (fun w' => w'.cell? ⟨S, 3, none⟩ = some (.map (some mb)) ∧ w'.cell? ⟨X, 0, none⟩ = some (.int .i64 (g1 : Int)) ∧ w'.cell? ⟨X, 1, none⟩ = some (.int .i64 (g2 : Int)) ∧ MapA 56 spotLit okS w' mb n' (mapV st'.by_))) (by kernel_rfl) (HS.out _ (Below.refl _ _).drew) (fun hH => ?_)
          have b : Below w5.heap.size w5 w5.drew := (Below.refl _ _).drew
          obtain ⟨v0', Hv0⟩ : ∃ v0', Hid (w5.drew = v0') := ⟨_, rfl⟩
          rw [Hv0.out] at hH b ⊢
          clear Hv0
          refine wpAnyH_take (i := 0) (v := .pointer (some ⟨S, 0, none⟩)) rfl (by kernel_rfl) (by kernel_rfl) (by kernel_rfl) (fun _ _ _ h => h) (.inl ⟨by rfl, fun _ _ => rfl⟩) hH ?_
          simp only [List.getElem_toArray, List.getElem_cons_succ, List.getElem_cons_zero, Act.put, List.setIfInBounds_toArray, List.set_cons_zero, List.set_cons_succ]
          refine wpAnyH_take (i := 1) (v := .pointer (some ⟨S, 0, none⟩)) rfl (by kernel_rfl) (by kernel_rfl) (by kernel_rfl) (fun _ _ _ h => h) (.inl ⟨by rfl, fun w' hS' => by first | (go_simp; done) | (go_simp; rfl) | (go_simp; intro h; omega) | (go_simp; omega)⟩) hH ?_
          simp only [List.getElem_toArray, List.getElem_cons_succ, List.getElem_cons_zero, Act.put, List.setIfInBounds_toArray, List.set_cons_zero, List.set_cons_succ]
          refine wpAnyH_take (i := 2) (v := .pointer (some ⟨S, 3, none⟩)) rfl (by kernel_rfl) (by kernel_rfl) (by kernel_rfl) (fun _ _ _ h => h) (.inl ⟨by rfl, fun w' hS' => by first | (go_simp; done) | (go_simp; rfl) | (go_simp; intro h; omega) | (go_simp; omega)⟩) hH ?_
          simp only [List.getElem_toArray, List.getElem_cons_succ, List.getElem_cons_zero, Act.put, List.setIfInBounds_toArray, List.set_cons_zero, List.set_cons_succ]
          refine wpAnyH_take (i := 3) (v := .map (some mb)) rfl (by kernel_rfl) (by kernel_rfl) (by kernel_rfl) (fun _ _ _ h => h) (.inl ⟨by rfl, fun w' hS' => by obtain ⟨s0, s1, s2, hm⟩ := hS'; go_simp⟩) hH ?_
          simp only [List.getElem_toArray, List.getElem_cons_succ, List.getElem_cons_zero, Act.put, List.setIfInBounds_toArray, List.set_cons_zero, List.set_cons_succ]
          refine wpAnyH_take (i := 4) (v := .agg #[.int .i64 (g1 : Int), .int .i64 (g2 : Int)]) rfl (by kernel_rfl) (by kernel_rfl) (by kernel_rfl) (fun _ _ _ h => h) (.inl ⟨by rfl, fun w' hS' => by obtain ⟨s0, s1, s2, hm⟩ := hS'; go_simp⟩) hH ?_
          simp only [List.getElem_toArray, List.getElem_cons_succ, List.getElem_cons_zero, Act.put, List.setIfInBounds_toArray, List.set_cons_zero, List.set_cons_succ]
          refine wpAnyH_take (i := 5) (v := .tuple #[.agg #[.int .i64 a0, .int .i64 a1, .int .i64 a2, .int .i64 a3, .int .i64 a4, .int .i64 a5], .bool q]) rfl (by kernel_rfl) (by kernel_rfl) (by kernel_rfl) (fun _ _ _ h => h) (.inl ⟨by rfl, fun w' hS' => by obtain ⟨s0, s1, s2, hm⟩ := hS'; have hrun := HLK.out _ hm; go_simp⟩) hH ?_
          simp only [List.getElem_toArray, List.getElem_cons_succ, List.getElem_cons_zero, Act.put, List.setIfInBounds_toArray, List.set_cons_zero, List.set_cons_succ]
          refine wpAnyH_take (i := 6) (v := .tuple #[.agg #[.int .i64 a0, .int .i64 a1, .int .i64 a2, .int .i64 a3, .int .i64 a4, .int .i64 a5], .bool q]) rfl (by kernel_rfl) (by kernel_rfl) (by kernel_rfl) (fun _ _ _ h => h) (.inl ⟨by rfl, fun _ _ => rfl⟩) hH ?_
          simp only [List.getElem_toArray, List.getElem_cons_succ, List.getElem_cons_zero, Act.put, List.setIfInBounds_toArray, List.set_cons_zero, List.set_cons_succ]
          refine wpAnyH_take (i := 7) (v := .agg #[.int .i64 a0, .int .i64 a1, .int .i64 a2, .int .i64 a3, .int .i64 a4, .int .i64 a5]) rfl (by kernel_rfl) (by kernel_rfl) (by kernel_rfl) (fun _ _ _ h => h) (.inl ⟨by rfl, fun w' hS' => by first | (go_simp; done) | (go_simp; rfl) | (go_simp; intro h; omega) | (go_simp; omega)⟩) hH ?_
          simp only [List.getElem_toArray, List.getElem_cons_succ, List.getElem_cons_zero, Act.put, List.setIfInBounds_toArray, List.set_cons_zero, List.set_cons_succ]
          refine wpAnyH_take (i := 8) (v := .bool q) rfl (by kernel_rfl) (by kernel_rfl) (by kernel_rfl) (fun _ _ _ h => h) (.inl ⟨by rfl, fun w' hS' => by first | (go_simp; done) | (go_simp; rfl) | (go_simp; intro h; omega) | (go_simp; omega)⟩) hH ?_
          simp only [List.getElem_toArray, List.getElem_cons_succ, List.getElem_cons_zero, Act.put, List.setIfInBounds_toArray, List.set_cons_zero, List.set_cons_succ]
          have ba := below_new v0' (.cells #[.int .i64 0, .int .i64 0, .int .i64 0, .int .i64 0, .int .i64 0, .int .i64 0] 62)
          have hR := boxS_new v0'
          obtain ⟨M, HM⟩ : ∃ N, Hid (v0'.heap.size = N) := ⟨_, rfl⟩
          have hM2 : w5.heap.size ≤ M := by rw [← HM.out]; exact b.size
          obtain ⟨v1', Hnew⟩ : ∃ v, Hid (v0'.alloc (.cells #[.int .i64 0, .int .i64 0, .int .i64 0, .int .i64 0, .int .i64 0, .int .i64 0] 62) = v) := ⟨_, rfl⟩
          rw [Hnew.out] at ba hR
          rw [HM.out] at hR
          refine wpAnyH_ready (rs := [9]) (by kernel_rfl) (by simp) ?_
          refine AllReadyH.cons rfl (fun K hK => ?_) AllReadyH.nil
          simp only [List.getElem_toArray, List.getElem_cons_succ, List.getElem_cons_zero]
          rw [if_pos (by rfl)]
          go_wp2_with fail
          rw [Hnew.out, HM.out]
          replace b := below_then b ba
          refine hK.out _ _ (HS.out _ b) (fun hH => ?_)
          clear hK
          obtain ⟨⟨c0, c1, c2, c3, c4, c5⟩, r0, r1, r2, r3, r4, r5⟩ := hR.cells
          have bw := below_store6 b (N := M) hM2 (.int .i64 a0) (.int .i64 a1) (.int .i64 a2) (.int .i64 a3) (.int .i64 a4) (.int .i64 a5)
          obtain ⟨W2, HW2⟩ : ∃ W2, Hid (((((((v1'.setCell ⟨M, 0, none⟩ (.int .i64 a0)).setCell ⟨M, 1, none⟩ (.int .i64 a1)).setCell ⟨M, 2, none⟩ (.int .i64 a2)).setCell ⟨M, 3, none⟩ (.int .i64 a3)).setCell ⟨M, 4, none⟩ (.int .i64 a4)).setCell ⟨M, 5, none⟩ (.int .i64 a5)) = W2) := ⟨_, rfl⟩
          rw [HW2.out] at bw
          refine wpAnyH_ready (rs := [10]) (by kernel_rfl) (by simp) ?_
          refine AllReadyH.cons rfl (fun K hK => ?_) AllReadyH.nil
          simp only [List.getElem_toArray, List.getElem_cons_succ, List.getElem_cons_zero]
          rw [if_pos (by rfl)]
          go_wp2_with fail
          rw [HW2.out]
          refine hK.out _ _ (HS.out _ bw) (fun hH => ?_)
          refine wpAnyH_take (i := 11) (v := .bool q) rfl (by kernel_rfl) (by kernel_rfl) (by kernel_rfl) (fun _ _ _ h => h) (.inl ⟨by rfl, fun _ _ => rfl⟩) hH ?_
          simp only [List.getElem_toArray, List.getElem_cons_succ, List.getElem_cons_zero, Act.put, List.setIfInBounds_toArray, List.set_cons_zero, List.set_cons_succ]
          refine wpAnyH_done (by kernel_rfl) ?_ _
          go_wp2_with fail
          go_meet
          exact ⟨rfl, bw⟩
        case rest =>
          obtain ⟨rfl, bc⟩ := hcut
          obtain ⟨w6, rfl⟩ : ∃ z, z = wc := ⟨_, rfl⟩
          have hF6 := hF5.below bc
          have HM6 : Hid (MapA 56 spotLit okS w6 mb n' (mapV st'.by_)) := HM5.out.below bc
          clear hF5 bc HM5
          cases q
          · have HF6 : Hid _ := hF6
            clear hF6
            go_wp2
            go_roundg (gk - 1)
            case measure => have := HGk.out; omega
            case rel => exact ⟨c + 1, n', _, dv', rfl, by go_num, HF6.out, HGk.out.1, by have := HGk.out; omega⟩
          · have HEnd : Hid (MapA 56 spotLit okS w6 mb n' (mapV st'.by_) ∧ KeepsA w (fun k => k = mb) w6 (fun k => k = mb) ∧ InvS A (lbT ts) tr N c st' [] ∧ ((st'.by_ (g1, g2)).isSome = true ∨ st'.dear = [])) :=
              ⟨HM6.out, ⟨hF6.keeps.size, fun k hk hn => ⟨(hF6.keeps.block k hk hn).1, hn⟩, hF6.keeps.same⟩, HI5.out, .inl (by have := Hlq.out; unfold mapV at this; simpa using this)⟩
            clear hF6
            go_wp2
            (try simp only [Exit.inBlock, Exit.then])
            refine bodyPost_ret (results_none rfl _ _ _) rfl ?_
            exact ⟨n', c, st', rfl, HEnd.out⟩
      · have i0 : ¬ (0 : Int) < (ll : Int) := by omega
        have hl0 : st.level = [] := List.length_eq_zero_iff.1 (by have := Hll.out; omega)
        have hI := hF.inv
        have hd := hF.dear
        rw [hl0] at hI
        have HEnd : Hid (MapA 56 spotLit okS wr mb n (mapV st.by_) ∧ KeepsA w (fun k => k = mb) wr (fun k => k = mb) ∧ InvS A (lbT ts) tr N c st [] ∧ ((st.by_ (g1, g2)).isSome = true ∨ st.dear = [])) :=
          ⟨hF.map, ⟨hF.keeps.size, fun k hk hn => ⟨(hF.keeps.block k hk hn).1, hn⟩, hF.keeps.same⟩, hI, .inr hd⟩
        clear hF hI
        go_wp2
        go_end0
        exact ⟨rfl, n, c, st, HEnd.out⟩

end Go.Proofs.YtakgppoeikcepaaDoor
/- leaving: the arcs from each mark on. (Made by tools/gen_alignleave.py.) -/
namespace Go.Proofs.YtakgppoeikcepaaDoor
open Go.RowKit
set_option linter.unusedVariables false
set_option linter.unusedSimpArgs false
set_option maxRecDepth 4000

def fromL (A : List ArcL) (i : Nat) : List ArcL := A.filter fun a => a.frm == i
theorem fromL_one {A : List ArcL} {k : Nat} {a : ArcL} (h : A[k]? = some a) : fromL (A.take (k + 1)) a.frm = fromL (A.take k) a.frm ++ [a] := by
  unfold fromL
  rw [List.take_add_one, h, List.filter_append]
  simp
theorem fromL_other {A : List ArcL} {k : Nat} {a : ArcL} (h : A[k]? = some a) (i : Nat) (hi : i ≠ a.frm) : fromL (A.take (k + 1)) i = fromL (A.take k) i := by
  unfold fromL
  rw [List.take_add_one, h, List.filter_append]
  have : ¬ a.frm = i := fun e => hi e.symm
  simp [this]
theorem arcZ_atL {l : List ArcL} {k : Nat} {a : ArcL} (h : l[k]? = some a) {hk : k < (l.map arcZ).length} : (l.map arcZ)[k] = ((a.frm : Int), (a.tran : Int), (a.dst : Int)) := by
  have hk' : k < l.length := by simpa using hk
  rw [List.getElem_map]
  rw [List.getElem?_eq_getElem hk'] at h
  injection h with h
  rw [h]; rfl
theorem arcs_row {B : Nat} {w : World} {v : Value} {l : List ArcL} (h : w.ownsRow B 83 3 v l.length (arcCells l)) (hl : l.length ≤ 5864062014805) : Arcs w v (l.map arcZ) := by
  have h0 := h
  rcases h.2 with ⟨rfl, hz⟩ | ⟨g, cap, cur, rfl, hg, hh, hn, hcap, hsz, htake⟩
  · exact ⟨none, 0, 0, rfl, by simpa using hz, by omega, ⟨by omega, by omega, fun _ => rfl⟩, fun j hj => by simp at hj; omega⟩
  · refine ⟨_, _, _, rfl, by simp, hl, ⟨hn, by unfold maxLen at hcap; omega, fun h => by cases h⟩, fun j hj => ?_⟩
    have hj' : j < l.length := by simpa using hj
    have hgl : g < w.heap.size := (Array.getElem?_eq_some_iff.1 hh).1
    obtain ⟨e0, e1, e2⟩ := arcCells_at l j hj'
    rw [List.getElem_map]
    refine ⟨g, 0, rfl, hgl, ?_, ?_, ?_⟩
    · rw [Nat.zero_add, h0.cellAt (j * 3) (by omega)]; exact e0
    · rw [Nat.zero_add, h0.cellAt (j * 3 + 1) (by omega)]; exact e1
    · rw [Nat.zero_add, h0.cellAt (j * 3 + 2) (by omega)]; exact e2

set_option maxHeartbeats 8000000 in
theorem leaving_any {v : Value} {s : SpaceL} {w : World} (hv : Space w v s) (hN : s.marks.length ≤ 300) (hA : ∀ a ∈ s.arcs, a.frm < s.marks.length) :
    Calls Tryd.prog 16 #[v] w fun e w' => ∃ r, e = .returned r ∧ RowsOn (fun k => w.heap.size ≤ k ∧ k < w'.heap.size) r s.marks.length (fromL s.arcs) w' ∧ Below w.heap.size w w' := by
  obtain ⟨mv, av, rfl, hM, hAr⟩ := hv
  obtain ⟨ma, mc, rfl, _, _⟩ := hM.slice
  obtain ⟨aa, ac, rfl, hlab⟩ := hAr.slice
  obtain ⟨N, HN⟩ : ∃ N, Hid (s.marks.length = N) := ⟨_, rfl⟩
  obtain ⟨la, Hla⟩ : ∃ N, Hid (s.arcs.length = N) := ⟨_, rfl⟩
  rw [List.length_map, Hla.out] at hAr hlab
  rw [List.length_map, Hla.out]
  rw [HN.out] at hM hN ⊢
  have HA : Hid (∀ a ∈ s.arcs, a.frm < N) := by show ∀ a ∈ s.arcs, a.frm < N; rw [← HN.out]; exact hA
  have hx := box2_new w (.slice ma N mc) (.slice aa la ac) 43
  have b1 := below_new w (.cells #[.slice ma N mc, .slice aa la ac] 43)
  have z1 : (w.alloc (.cells #[.slice ma N mc, .slice aa la ac] 43)).heap.size = w.heap.size + 1 := by simp
  obtain ⟨w1, H1⟩ : ∃ u, Hid (w.alloc (.cells #[.slice ma N mc, .slice aa la ac] 43) = u) := ⟨_, rfl⟩
  rw [H1.out] at hx b1 z1
  obtain ⟨w2, hmk, hR⟩ := make_arcs w1 N (by omega)
  have hx2 := hx.below hR.below
  have HAr : Hid (∀ w', Below w.heap.size w w' → Arcs w' (.slice aa la ac) (s.arcs.map arcZ)) := fun w' hb => hAr.below hb
  obtain ⟨W, HW⟩ : ∃ x, Hid (w.heap.size = x) := ⟨_, rfl⟩
  obtain ⟨X, HX⟩ : ∃ x, Hid (w1.heap.size = x) := ⟨_, rfl⟩
  have HWX : Hid (X = W + 1) := by show _ = _; rw [← HX.out, z1, HW.out]
  have Hb1 : Hid (Below W w w1) := by show Below W w w1; rw [← HW.out]; exact b1
  rw [HX.out] at hR hmk
  rw [HW.out] at hx hx2 HAr
  obtain ⟨_, x0, x1⟩ := id hx
  obtain ⟨_, y0, y1⟩ := id hx2
  clear hM hAr hA b1 z1
  go_enter Tryd.func16, Tryd.ntmps16
  go_upto_region 1 with fail
  rw [H1.out, HW.out]
  go_upto_region 2 with fail
  clear hmk x0 x1
  go_wp2_with fail
  go_loopg [13] la (fun gk i' wr => ∃ (k : Nat) (rv : Nat → Value), k + gk = la ∧ i' = .int .i64 (k : Int) ∧ ArcsAt X w1 wr N rv (fromL (s.arcs.take k)))
  case atStart => exact ⟨0, _, by omega, rfl, by have e : fromL (s.arcs.take 0) = fun _ => [] := (by funext i; rfl); rw [e]; exact hR⟩
  case round =>
    clear hR hx2 hx y0 y1
    obtain ⟨k, rv, hkg, rfl, hR⟩ := hrel
    have hbX : Below W w wr := Hb1.out.trans (hR.below.mono (by have := HWX.out; omega))
    by_cases hk : k < la
    · have hkl : k < s.arcs.length := by rw [Hla.out]; exact hk
      obtain ⟨a, Ha⟩ : ∃ a, Hid (s.arcs[k]? = some a) := ⟨_, List.getElem?_eq_getElem hkl⟩
      have hfr := HA.out a (List.mem_of_getElem? Ha.out)
      obtain ⟨ab, ao, rfl, hab, c0, c1, c2⟩ := (HAr.out _ hbX).at (k := k) (by simpa using hkl)
      rw [arcZ_atL Ha.out] at c0 c1 c2
      have Hone : Hid (fromL (s.arcs.take (k + 1)) a.frm = fromL (s.arcs.take k) a.frm ++ [a]) := fromL_one Ha.out
      have Hoth : Hid (∀ i, i ≠ a.frm → fromL (s.arcs.take (k + 1)) i = fromL (s.arcs.take k) i) := fun i hi => fromL_other Ha.out i hi
      have Hlen : Hid ((fromL (s.arcs.take k) a.frm).length + 1 ≤ 5864062014805) := by
        show _ ≤ _
        have h1 : (fromL (s.arcs.take k) a.frm).length ≤ (s.arcs.take k).length := List.length_filter_le _ _
        rw [List.length_take] at h1
        omega
      obtain ⟨af, at_, ad⟩ := a
      simp only at c0 c1 c2 hfr Hone Hoth Hlen
      clear hkl
      have hy := box3_new wr (.int .i64 (af : Int)) (.int .i64 (at_ : Int)) (.int .i64 (ad : Int)) 83
      have bA := below_new wr (.cells #[.int .i64 (af : Int), .int .i64 (at_ : Int), .int .i64 (ad : Int)] 83)
      have hRA := hR.to bA
      have HnY : Hid (∀ i, i < N → (rv i).ownBlock ≠ some wr.heap.size) := fun i hi e => by have := (ownsRow_lt (hR.own i hi) e).2; omega
      have HYX : Hid (X < wr.heap.size) := hR.size
      obtain ⟨wA, HwA⟩ : ∃ z, Hid (wr.alloc (.cells #[.int .i64 (af : Int), .int .i64 (at_ : Int), .int .i64 (ad : Int)] 83) = z) := ⟨_, rfl⟩
      rw [HwA.out] at hy bA hRA
      go_upto_region 5 with fail
      rw [HwA.out]
      clear c0 c1 c2 hR HwA
      obtain ⟨y, HY⟩ : ∃ y, Hid (wr.heap.size = y) := ⟨_, rfl⟩
      rw [HY.out] at hy HnY HYX ⊢
      obtain ⟨ra, rc, hrv⟩ := hRA.slice hfr
      have i0 : (0 : Int) ≤ (af : Int) := by omega
      have i1 : (af : Int) < (N : Int) := by omega
      have HS : Hid (∀ w', Below wA.heap.size wA w' →  w'.cell? ⟨y, 0, none⟩ = some (.int .i64 (af : Int)) ∧ w'.cell? ⟨y, 1, none⟩ = some (.int .i64 (at_ : Int)) ∧ w'.cell? ⟨y, 2, none⟩ = some (.int .i64 (ad : Int)) ∧ w'.cell? ⟨X, af, none⟩ = some (.slice ra (fromL (s.arcs.take k) af).length rc)) := fun w' hb => by
        obtain ⟨_, q0, q1, q2⟩ := hy.below hb
        exact ⟨q0, q1, q2, by rw [← hrv]; exact (hRA.to hb).cells af hfr⟩
      refine wp_region_Z (S := (fun w' => w'.cell? ⟨y, 0, none⟩ = some (.int .i64 (af : Int)) ∧ w'.cell? ⟨y, 1, none⟩ = some (.int .i64 (at_ : Int)) ∧ w'.cell? ⟨y, 2, none⟩ = some (.int .i64 (ad : Int)) ∧ w'.cell? ⟨X, af, none⟩ = some (.slice ra (fromL (s.arcs.take k) af).length rc))) (by kernel_rfl) 12 (HS.out _ (Below.refl _ _).drew) (fun hH => ?_)
      have b : Below wA.heap.size wA wA.drew := (Below.refl _ _).drew
      obtain ⟨v0', Hv0⟩ : ∃ v0', Hid (wA.drew = v0') := ⟨_, rfl⟩
      rw [Hv0.out] at hH b ⊢
      clear Hv0
      refine wpZ_takeP (i := 0) (v := .slice (some ⟨X, 0, none⟩) N N) rfl (by kernel_rfl) (by kernel_rfl) (by kernel_rfl) (fun _ _ _ h => h) (.inl ⟨by rfl, fun _ _ => rfl⟩) hH (by decide) ?_
      simp only [List.getElem_toArray, List.getElem_cons_succ, List.getElem_cons_zero, Act.put, List.setIfInBounds_toArray, List.set_cons_zero, List.set_cons_succ]
      refine wpZ_takeP (i := 1) (v := .pointer (some ⟨y, 0, none⟩)) rfl (by kernel_rfl) (by kernel_rfl) (by kernel_rfl) (fun _ _ _ h => h) (.inl ⟨by rfl, fun w' hS' => by first | (go_simp; done) | (go_simp; rfl) | (go_simp; intro h; omega) | (go_simp; omega)⟩) hH (by decide) ?_
      simp only [List.getElem_toArray, List.getElem_cons_succ, List.getElem_cons_zero, Act.put, List.setIfInBounds_toArray, List.set_cons_zero, List.set_cons_succ]
      refine wpZ_take (i := 2) (v := .int .i64 (af : Int)) rfl (by kernel_rfl) (by kernel_rfl) (by kernel_rfl) (fun _ _ _ h => h) (.inl ⟨by rfl, fun w' hS' => by obtain ⟨s0, s1, s2, s3⟩ := hS'; go_simp⟩) hH rfl (by decide) (by kernel_rfl) (by kernel_rfl) ?_
      simp only [List.getElem_toArray, List.getElem_cons_succ, List.getElem_cons_zero, Act.put, List.setIfInBounds_toArray, List.set_cons_zero, List.set_cons_succ]
      refine wpZ_takeP (i := 3) (v := .slice (some ⟨X, 0, none⟩) N N) rfl (by kernel_rfl) (by kernel_rfl) (by kernel_rfl) (fun _ _ _ h => h) (.inl ⟨by rfl, fun _ _ => rfl⟩) hH (by decide) ?_
      simp only [List.getElem_toArray, List.getElem_cons_succ, List.getElem_cons_zero, Act.put, List.setIfInBounds_toArray, List.set_cons_zero, List.set_cons_succ]
      refine wpZ_takeP (i := 4) (v := .pointer (some ⟨y, 0, none⟩)) rfl (by kernel_rfl) (by kernel_rfl) (by kernel_rfl) (fun _ _ _ h => h) (.inl ⟨by rfl, fun w' hS' => by first | (go_simp; done) | (go_simp; rfl) | (go_simp; intro h; omega) | (go_simp; omega)⟩) hH (by decide) ?_
      simp only [List.getElem_toArray, List.getElem_cons_succ, List.getElem_cons_zero, Act.put, List.setIfInBounds_toArray, List.set_cons_zero, List.set_cons_succ]
      refine wpZ_take (i := 5) (v := .int .i64 (af : Int)) rfl (by kernel_rfl) (by kernel_rfl) (by kernel_rfl) (fun _ _ _ h => h) (.inl ⟨by rfl, fun w' hS' => by obtain ⟨s0, s1, s2, s3⟩ := hS'; go_simp⟩) hH rfl (by decide) (by kernel_rfl) (by kernel_rfl) ?_
      simp only [List.getElem_toArray, List.getElem_cons_succ, List.getElem_cons_zero, Act.put, List.setIfInBounds_toArray, List.set_cons_zero, List.set_cons_succ]
      refine wpZ_takeP (i := 6) (v := .pointer (some ⟨X, af, none⟩)) rfl (by kernel_rfl) (by kernel_rfl) (by kernel_rfl) (fun _ _ _ h => h) (.inl ⟨by rfl, fun w' hS' => by first | (go_simp; done) | (go_simp; rfl) | (go_simp; intro h; omega) | (go_simp; omega)⟩) hH (by decide) ?_
      simp only [List.getElem_toArray, List.getElem_cons_succ, List.getElem_cons_zero, Act.put, List.setIfInBounds_toArray, List.set_cons_zero, List.set_cons_succ]
      refine wpZ_take (i := 7) (v := .slice ra (fromL (s.arcs.take k) af).length rc) rfl (by kernel_rfl) (by kernel_rfl) (by kernel_rfl) (fun _ _ _ h => h) (.inl ⟨by rfl, fun w' hS' => by obtain ⟨s0, s1, s2, s3⟩ := hS'; go_simp⟩) hH rfl (by decide) (by kernel_rfl) (by kernel_rfl) ?_
      simp only [List.getElem_toArray, List.getElem_cons_succ, List.getElem_cons_zero, Act.put, List.setIfInBounds_toArray, List.set_cons_zero, List.set_cons_succ]
      refine wpZ_take (i := 8) (v := .agg #[.int .i64 (af : Int), .int .i64 (at_ : Int), .int .i64 (ad : Int)]) rfl (by kernel_rfl) (by kernel_rfl) (by kernel_rfl) (fun _ _ _ h => h) (.inl ⟨by rfl, fun w' hS' => by obtain ⟨s0, s1, s2, s3⟩ := hS'; go_simp⟩) hH rfl (by decide) (by kernel_rfl) (by kernel_rfl) ?_
      simp only [List.getElem_toArray, List.getElem_cons_succ, List.getElem_cons_zero, Act.put, List.setIfInBounds_toArray, List.set_cons_zero, List.set_cons_succ]
      have ba := below_new v0' (.cells #[.int .i64 (af : Int), .int .i64 (at_ : Int), .int .i64 (ad : Int)] 83)
      obtain ⟨M, HM'⟩ : ∃ N, Hid (v0'.heap.size = N) := ⟨_, rfl⟩
      have hS8 := hRA.to b
      obtain ⟨v1', Hnew⟩ : ∃ v, Hid (v0'.alloc (.cells #[.int .i64 (af : Int), .int .i64 (at_ : Int), .int .i64 (ad : Int)] 83) = v) := ⟨_, rfl⟩
      rw [Hnew.out] at ba
      refine wpZ_ready (rs := [9]) (by kernel_rfl) (by simp) ?_
      refine AllZ.cons rfl (fun K hK => ?_) AllZ.nil
      simp only [List.getElem_toArray, List.getElem_cons_succ, List.getElem_cons_zero]
      rw [if_pos (by rfl)]
      go_wp2_with fail
      rw [Hnew.out]
      replace b := below_then b ba
      refine hK.out _ _ (HS.out _ b) (fun hH => ?_)
      clear hK
      refine wpZ_ready (rs := [10]) (by kernel_rfl) (by simp) ?_
      refine AllZ.cons rfl (fun K hK => ?_) AllZ.nil
      simp only [List.getElem_toArray, List.getElem_cons_succ, List.getElem_cons_zero]
      refine wpr_append_arc (by rfl) _ _ rfl (X + 1) v0' v1' (.slice ra (fromL (s.arcs.take k) af).length rc) (fromL (s.arcs.take k) af) (af : Int) (at_ : Int) (ad : Int) Hnew.out.symm (by rw [← hrv]; exact hS8.own af hfr) rfl rfl Hlen.out hS8.size ?_
      intro v' w6 hO6 hg6 hat6
      obtain ⟨a5, l5, c5, rfl⟩ := ownsRow_slice hO6
      rw [Hnew.out] at hg6 hat6
      rw [← hrv] at hg6 hat6
      have hS9 := hRA.to b
      obtain ⟨u0, u1⟩ := hS9.grown hfr hg6
      have hP9 := (hy.below b)
      have hHS :  w6.cell? ⟨y, 0, none⟩ = some (.int .i64 (af : Int)) ∧ w6.cell? ⟨y, 1, none⟩ = some (.int .i64 (at_ : Int)) ∧ w6.cell? ⟨y, 2, none⟩ = some (.int .i64 (ad : Int)) ∧ w6.cell? ⟨X, af, none⟩ = some (.slice ra (fromL (s.arcs.take k) af).length rc) := by
        have hb6 : w6.heap[y]? = v1'.heap[y]? := hg6.block y hP9.1 (fun e => HnY.out af hfr e.symm)
        obtain ⟨_, q0, q1, q2⟩ := hP9
        exact ⟨(World.cell?_of_block (a := ⟨y, 0, none⟩) hb6).trans q0, (World.cell?_of_block (a := ⟨y, 1, none⟩) hb6).trans q1, (World.cell?_of_block (a := ⟨y, 2, none⟩) hb6).trans q2, by rw [← hrv]; exact u0⟩
      have HR10 : Hid (ArcsAt X w1 (w6.setCell ⟨X, af, none⟩ (.slice a5 l5 c5)) N (fun j => if j = af then .slice a5 l5 c5 else rv j) (fromL (s.arcs.take (k + 1)))) := hS9.put (z := ⟨af, at_, ad⟩) hfr hO6 hg6 hat6 Hone.out Hoth.out
      refine hK.out _ _ hHS (fun hH => ?_)
      clear hK
      refine wpZ_takeP (i := 11) (v := .pointer (some ⟨X, af, none⟩)) rfl (by kernel_rfl) (by kernel_rfl) (by kernel_rfl) (fun _ _ _ h => h) (.inl ⟨by rfl, fun w' hS' => by first | (go_simp; done) | (go_simp; rfl) | (go_simp; intro h; omega) | (go_simp; omega)⟩) hH (by decide) ?_
      simp only [List.getElem_toArray, List.getElem_cons_succ, List.getElem_cons_zero, Act.put, List.setIfInBounds_toArray, List.set_cons_zero, List.set_cons_succ]
      rw [hrv] at u0
      refine wpZ_ready (rs := [12]) (by kernel_rfl) (by simp) ?_
      refine AllZ.last rfl (by kernel_rfl) (fun K hK => ?_) AllZ.nil
      simp only [List.getElem_toArray, List.getElem_cons_succ, List.getElem_cons_zero]
      rw [if_pos (by rfl)]
      go_wp2_with fail
      refine hK.out _ _ ?_
      clear hK
      refine wpZ_done (by kernel_rfl) ?_ _
      go_wp2_with fail
      obtain ⟨_, z0, z1⟩ : True ∧ True ∧ True := ⟨trivial, trivial, trivial⟩
      clear hRA hS9 hP9
      go_roundg (gk - 1)
      case measure => omega
      case rel => exact ⟨k + 1, _, by omega, by go_num, HR10.out⟩
    · obtain rfl : k = la := by omega
      have HEnd : Hid (RowsOn (fun k => W ≤ k ∧ k < wr.heap.size) (.slice (some ⟨X, 0, none⟩) N N) N (fromL s.arcs) wr ∧ Below W w wr) := by
        refine ⟨⟨X, rv, rfl, hR.size, fun i hi => ?_⟩, hbX⟩
        have hown := hR.own i hi
        rw [List.take_of_length_le (by rw [Hla.out]; exact Nat.le_refl _)] at hown
        have hll : (fromL s.arcs i).length ≤ 5864062014805 := by
          have : (fromL s.arcs i).length ≤ s.arcs.length := List.length_filter_le _ _
          have := Hla.out; omega
        intro w3 hs3 hk3
        refine ⟨?_, ?_⟩
        · exact (World.cell?_of_block (a := ⟨X, i, none⟩) (hk3 X hR.size ⟨by have := HWX.out; omega, hR.size⟩)).trans (hR.cells i hi)
        · exact arcs_row ((ownsRow_on hown).to hs3 fun j hj q => hk3 j hj ⟨by have := q.2; have := HWX.out; omega, hj⟩).now hll
      clear hR
      go_wp2
      go_ret
      rw [HW.out]
      exact ⟨_, rfl, HEnd.out.1, HEnd.out.2⟩

end Go.Proofs.YtakgppoeikcepaaDoor
/- Moves in rows; slices.Reverse over them. -/
namespace Go.Proofs.YtakgppoeikcepaaDoor
open Go.RowKit
set_option linter.unusedVariables false
set_option linter.unusedSimpArgs false
set_option maxRecDepth 4000

def moveC (m : MoveL) : List Value := [.int .i64 m.kind, .int .i64 m.label, .int .i64 m.tran]
def cellsM (l : List MoveL) : List Value := l.flatMap moveC
def noMove : MoveL := ⟨0, 0, 0⟩
theorem cellsM_append (l : List MoveL) (m : MoveL) : cellsM (l ++ [m]) = cellsM l ++ moveC m := by simp [cellsM]
theorem cellsM_length : ∀ l : List MoveL, (cellsM l).length = l.length * 3
  | [] => rfl
  | x :: r => by
    have e : cellsM (x :: r) = moveC x ++ cellsM r := rfl
    rw [e, List.length_append, cellsM_length r]
    show 3 + _ = _
    simp only [List.length_cons]
    omega
theorem cellsM_at : ∀ (l : List MoveL) (k : Nat), k < l.length → (cellsM l)[k * 3]? = some (.int .i64 (l.getD k noMove).kind) ∧ (cellsM l)[k * 3 + 1]? = some (.int .i64 (l.getD k noMove).label) ∧ (cellsM l)[k * 3 + 2]? = some (.int .i64 (l.getD k noMove).tran)
  | x :: l, 0, _ => ⟨rfl, rfl, rfl⟩
  | x :: l, k + 1, h => by
    have h1 := cellsM_at l k (by simpa using h)
    have e : cellsM (x :: l) = .int .i64 x.kind :: .int .i64 x.label :: .int .i64 x.tran :: cellsM l := rfl
    rw [e, show (k + 1) * 3 + 2 = k * 3 + 2 + 1 + 1 + 1 by omega, show (k + 1) * 3 + 1 = k * 3 + 1 + 1 + 1 + 1 by omega, show (k + 1) * 3 = k * 3 + 1 + 1 + 1 by omega]
    simpa using h1
theorem cellsM_set : ∀ (l : List MoveL) (k : Nat) (m : MoveL), k < l.length → cellsM (l.set k m) = (((cellsM l).set (k * 3) (.int .i64 m.kind)).set (k * 3 + 1) (.int .i64 m.label)).set (k * 3 + 2) (.int .i64 m.tran)
  | x :: l, 0, m, _ => rfl
  | x :: l, k + 1, m, h => by
    have h1 := cellsM_set l k m (by simpa using h)
    have e : ∀ y r, cellsM (y :: r) = .int .i64 y.kind :: .int .i64 y.label :: .int .i64 y.tran :: cellsM r := fun _ _ => rfl
    rw [List.set_cons_succ, e, e, h1, show (k + 1) * 3 + 2 = k * 3 + 2 + 1 + 1 + 1 by omega, show (k + 1) * 3 + 1 = k * 3 + 1 + 1 + 1 + 1 by omega, show (k + 1) * 3 = k * 3 + 1 + 1 + 1 by omega]
    rfl
theorem one_cellsM {l : List MoveL} : ∀ u ∈ cellsM l, u.oneCell' = true := by
  intro u hu
  obtain ⟨x, _, hx⟩ := List.mem_flatMap.1 hu
  unfold moveC at hx
  simp only [List.mem_cons, List.not_mem_nil, or_false] at hx
  rcases hx with rfl | rfl | rfl <;> rfl

/-- The first k are swapped with the last k. -/
def swapM (zs : List MoveL) : Nat → List MoveL
  | 0 => zs
  | k + 1 => ((swapM zs k).set k ((swapM zs k).getD (zs.length - 1 - k) noMove)).set (zs.length - 1 - k) ((swapM zs k).getD k noMove)
theorem swapM_length (zs : List MoveL) : ∀ k, (swapM zs k).length = zs.length
  | 0 => rfl
  | k + 1 => by show (((swapM zs k).set _ _).set _ _).length = _; rw [List.length_set, List.length_set, swapM_length zs k]
theorem getD_setM {l : List MoveL} {k j : Nat} {m : MoveL} (hk : k < l.length) : (l.set k m).getD j noMove = if j = k then m else l.getD j noMove := by
  rw [List.getD_eq_getElem?_getD, List.getD_eq_getElem?_getD, List.getElem?_set]
  by_cases h : k = j
  · subst h; rw [if_pos rfl, if_pos hk, if_pos rfl]; rfl
  · rw [if_neg h, if_neg fun e => h e.symm]
theorem swapM_at (zs : List MoveL) : ∀ (k : Nat), 2 * k ≤ zs.length → ∀ j, j < zs.length → (swapM zs k).getD j noMove = if j < k ∨ zs.length - 1 - j < k then zs.getD (zs.length - 1 - j) noMove else zs.getD j noMove
  | 0, _, j, hj => by rw [if_neg (by omega)]; rfl
  | k + 1, hk, j, hj => by
    have hL := swapM_length zs k
    show (((swapM zs k).set _ _).set _ _).getD j noMove = _
    rw [getD_setM (by rw [List.length_set, hL]; omega), getD_setM (by rw [hL]; omega)]
    have ih := swapM_at zs k (by omega)
    by_cases h1 : j = zs.length - 1 - k
    · rw [if_pos h1, ih k (by omega), if_neg (by omega), if_pos (by omega)]
      congr 1; omega
    · rw [if_neg h1]
      by_cases h2 : j = k
      · rw [if_pos h2, ih _ (by omega), if_neg (by omega), if_pos (by omega), h2]
      · rw [if_neg h2, ih j hj]
        by_cases h3 : j < k ∨ zs.length - 1 - j < k
        · rw [if_pos h3, if_pos (by omega)]
        · rw [if_neg h3, if_neg (by omega)]
theorem swapM_reverse (zs : List MoveL) (k : Nat) (hk : 2 * k ≤ zs.length) (hk2 : zs.length ≤ 2 * k + 1) : swapM zs k = zs.reverse := by
  apply List.ext_getElem
  · rw [swapM_length, List.length_reverse]
  · intro j h1 h2
    rw [swapM_length] at h1
    have h := swapM_at zs k hk j h1
    rw [List.getElem_reverse]
    have e1 : (swapM zs k).getD j noMove = (swapM zs k)[j] := by simp [List.getD, h1, swapM_length]
    have e2 : zs.getD (zs.length - 1 - j) noMove = zs[zs.length - 1 - j] := by simp [List.getD, show zs.length - 1 - j < zs.length by omega]
    rw [← e1, h]
    by_cases h3 : j < k ∨ zs.length - 1 - j < k
    · rw [if_pos h3, e2]
    · have e3 : zs.length - 1 - j = j := by omega
      rw [if_neg h3, ← e2, e3]

set_option maxHeartbeats 4000000 in
theorem revmoves_any (B : Nat) (w0 : World) (v : Value) (zs : List MoveL) (w : World) (h : OwnC B w0 w 60 3 v zs.length (cellsM zs)) (hm : zs.length ≤ 1000000) :
    Calls Tryd.prog 29 #[v] w fun e w' => e = .returned (.tuple #[]) ∧ OwnC B w0 w' 60 3 v zs.length (cellsM zs.reverse) := by
  obtain ⟨hown, hb, hB⟩ := h
  obtain ⟨len, Hlen⟩ : ∃ len, Hid (zs.length = len) := ⟨_, rfl⟩
  by_cases h1 : zs.length ≤ 1
  · have e : zs.reverse = zs := by rw [← swapM_reverse zs 0 (by omega) (by omega)]; rfl
    rw [e]
    obtain ⟨a, c, rfl⟩ := OwnC.slice (w := w0) ⟨hown, hb, hB⟩
    rw [Hlen.out] at hown h1 ⊢
    go_enter Tryd.func29, Tryd.ntmps29
    go_wp2
    refine wp_loop_rounds 1 ?_
    rw [rounds_succ]
    go_wp2
    go_end0
    exact ⟨rfl, hown, hb, hB⟩
  · obtain ⟨g, cap, rfl, hgB⟩ : ∃ g cap, v = .slice (some ⟨g, 0, none⟩) zs.length cap ∧ B ≤ g := by
      obtain ⟨_, hcase⟩ := hown
      rcases hcase with ⟨_, h0⟩ | ⟨g, cap', cur, rfl, hg, _⟩
      · omega
      · exact ⟨g, cap', rfl, hg⟩
    have hle : len ≤ 1000000 := by rw [← Hlen.out]; exact hm
    have hl2 : ¬ len ≤ 1 := by rw [← Hlen.out]; exact h1
    rw [Hlen.out] at hown ⊢
    clear hm h1
    go_enter Tryd.func29, Tryd.ntmps29
    go_wp2
    go_loopg [2, 3] len (fun gq i j wr => ∃ k q : Nat, k + gq = len ∧ i = .int .i64 k ∧ j = .int .i64 q ∧ q + k + 1 = len ∧ k ≤ q + 1 ∧ wr.ownsRow B 60 3 (.slice (some ⟨g, 0, none⟩) len cap) len (cellsM (swapM zs k)) ∧ Below B w0 wr ∧ B ≤ wr.heap.size)
    case atStart => exact ⟨0, len - 1, by omega, rfl, by congr 1; omega, by omega, by omega, hown, hb, hB⟩
    case round =>
      clear hown hb hB
      obtain ⟨k, q, hkg, rfl, rfl, hkq, hk1, hown, hb, hB⟩ := hrel
      by_cases hlt : k < q
      · have hL := swapM_length zs k
        rw [Hlen.out] at hL
        obtain ⟨c0, c1, c2⟩ := cellsM_at (swapM zs k) k (by omega)
        obtain ⟨d0, d1, d2⟩ := cellsM_at (swapM zs k) q (by omega)
        rw [← hown.cellAt (k * 3) (by omega)] at c0
        rw [← hown.cellAt (k * 3 + 1) (by omega)] at c1
        rw [← hown.cellAt (k * 3 + 2) (by omega)] at c2
        rw [← hown.cellAt (q * 3) (by omega)] at d0
        rw [← hown.cellAt (q * 3 + 1) (by omega)] at d1
        rw [← hown.cellAt (q * 3 + 2) (by omega)] at d2
        obtain ⟨mk, Hmk⟩ : ∃ m, Hid ((swapM zs k).getD k noMove = m) := ⟨_, rfl⟩
        obtain ⟨mq, Hmq⟩ : ∃ m, Hid ((swapM zs k).getD q noMove = m) := ⟨_, rfl⟩
        rw [Hmk.out] at c0 c1 c2
        rw [Hmq.out] at d0 d1 d2
        obtain ⟨k0, k1, k2⟩ := mk
        obtain ⟨q0, q1, q2⟩ := mq
        simp only at c0 c1 c2 d0 d1 d2
        have hne : ¬ k = q := by omega
        have hne2 : ¬ q = k := by omega
        have hkl : k < len := by omega
        have hql : q < len := by omega
        have n0 : ¬ k * 3 = q * 3 := by omega
        have st := (((((hown.stored (k * 3) (.int .i64 q0)).1.stored (k * 3 + 1) (.int .i64 q1)).1.stored (k * 3 + 2) (.int .i64 q2)).1.stored (q * 3) (.int .i64 k0)).1.stored (q * 3 + 1) (.int .i64 k1)).1.stored (q * 3 + 2) (.int .i64 k2)
        obtain ⟨W2, HW2⟩ : ∃ W2, Hid ((((((wr.setCell ⟨g, k * 3, none⟩ (.int .i64 q0)).setCell ⟨g, k * 3 + 1, none⟩ (.int .i64 q1)).setCell ⟨g, k * 3 + 2, none⟩ (.int .i64 q2)).setCell ⟨g, q * 3, none⟩ (.int .i64 k0)).setCell ⟨g, q * 3 + 1, none⟩ (.int .i64 k1)).setCell ⟨g, q * 3 + 2, none⟩ (.int .i64 k2) = W2) := ⟨_, rfl⟩
        have HR : Hid (W2.ownsRow B 60 3 (.slice (some ⟨g, 0, none⟩) len cap) len (cellsM (swapM zs (k + 1)))) := by
          have e : zs.length - 1 - k = q := by have := Hlen.out; omega
          have e2 : cellsM (swapM zs (k + 1)) = ((((((cellsM (swapM zs k)).set (k * 3) (.int .i64 q0)).set (k * 3 + 1) (.int .i64 q1)).set (k * 3 + 2) (.int .i64 q2)).set (q * 3) (.int .i64 k0)).set (q * 3 + 1) (.int .i64 k1)).set (q * 3 + 2) (.int .i64 k2) := by
            rw [swapM, e, Hmk.out, Hmq.out, cellsM_set _ _ _ (by rw [List.length_set]; omega), cellsM_set _ _ _ (by omega)]
          show W2.ownsRow _ _ _ _ _ _
          rw [e2, ← HW2.out]
          exact st.1
        have HB : Hid (Below B w0 W2) := by
          show Below B w0 W2
          rw [← HW2.out]
          exact (((((hb.setCell (p := ⟨g, k * 3, none⟩) hgB _).setCell (p := ⟨g, k * 3 + 1, none⟩) hgB _).setCell (p := ⟨g, k * 3 + 2, none⟩) hgB _).setCell (p := ⟨g, q * 3, none⟩) hgB _).setCell (p := ⟨g, q * 3 + 1, none⟩) hgB _).setCell (p := ⟨g, q * 3 + 2, none⟩) hgB _
        have HBs : Hid (B ≤ W2.heap.size) := by show B ≤ _; rw [← HW2.out]; simpa [World.setCell] using hB
        have f0 := hown.frozenAt (k * 3)
        have f1 := hown.frozenAt (k * 3 + 1)
        have f2 := hown.frozenAt (k * 3 + 2)
        have f3 := hown.frozenAt (q * 3)
        have f4 := hown.frozenAt (q * 3 + 1)
        have f5 := hown.frozenAt (q * 3 + 2)
        clear st hown hb hL
        go_wp2
        go_region
        all_goals go_wp2
        rw [HW2.out]
        go_roundg (gk - 1)
        case measure => omega
        case rel => exact ⟨k + 1, q - 1, by omega, by go_num, by congr 1; omega, by omega, by omega, HR.out.drew, HB.out.drew, HBs.out⟩
      · have e : swapM zs k = zs.reverse := swapM_reverse zs k (by have := Hlen.out; omega) (by have := Hlen.out; omega)
        rw [e] at hown
        go_wp2
        go_end0
        exact ⟨rfl, hown, hb, hB⟩

end Go.Proofs.YtakgppoeikcepaaDoor

/- wayTo: back to the beginning. (Made by tools/gen_alignway.py.) -/
namespace Go.Proofs.YtakgppoeikcepaaDoor
open Go.RowKit
set_option linter.unusedVariables false
set_option linter.unusedSimpArgs false
set_option maxRecDepth 4000

theorem row_lenW {w : World} {B : Nat} {e : TypeId} {size n l c : Nat} {a : Option Addr} {xs : List Value} (h : w.ownsRow B e size (.slice a l c) n xs) : l = n := by
  rcases h.2 with ⟨q, h0⟩ | ⟨g, cap, cur, q, _⟩
  · injection q with _ q _; omega
  · injection q

/-- A spot's block. -/
def BoxP (w : World) (b : Nat) (x y : Nat) : Prop := w.heap[b]? = some (.cells #[.int .i64 (x : Int), .int .i64 (y : Int)] 56 (0, 0))
theorem BoxP.lt {w : World} {b x y : Nat} (h : BoxP w b x y) : b < w.heap.size := (Array.getElem?_eq_some_iff.1 h).1
theorem BoxP.below {w w' : World} {b x y : Nat} (h : BoxP w b x y) (hb : Below w.heap.size w w') : BoxP w' b x y := (hb.block b h.lt).trans h
theorem BoxP.grown {w w' : World} {b x y : Nat} {row : Option Nat} (h : BoxP w b x y) (hg : w.grownBy w' row) (hne : row ≠ some b) : BoxP w' b x y := (hg.block b h.lt fun e => hne e.symm).trans h
theorem BoxP.cells {w : World} {b x y : Nat} (h : BoxP w b x y) : (w.cell? ⟨b, 0, none⟩ = some (.int .i64 (x : Int)) ∧ w.cell? ⟨b, 1, none⟩ = some (.int .i64 (y : Int))) ∧ w.frozen? ⟨b, 0, none⟩ = false ∧ w.frozen? ⟨b, 1, none⟩ = false := by
  unfold BoxP at h
  refine ⟨⟨?_, ?_⟩, ?_, ?_⟩
  all_goals simp [World.cell?, World.frozen?, h]
theorem boxP_new (w : World) (x y : Nat) : BoxP (w.alloc (.cells #[.int .i64 (x : Int), .int .i64 (y : Int)] 56)) w.heap.size x y := heap_alloc_new w _
theorem boxP_store {w : World} {b x y : Nat} (h : BoxP w b x y) (x' y' : Nat) : BoxP ((w.setCell ⟨b, 0, none⟩ (.int .i64 (x' : Int))).setCell ⟨b, 1, none⟩ (.int .i64 (y' : Int))) b x' y' := by
  unfold BoxP at h ⊢
  rw [setCell_block (setCell_block h _) _]
  rfl
theorem elemM : ElemT 27 60 3 24 := ElemT.of (z := .agg #[.int .i64 0, .int .i64 0, .int .i64 0]) Tryd.underlying27 (by kernel_rfl) rfl (by omega)
theorem OwnC.set2 {B : Nat} {w wr : World} {e : TypeId} {size n : Nat} {v : Value} {xs : List Value} (h : OwnC B w wr e size v n xs) {b : Nat} (hb : B ≤ b) (hne : v.ownBlock ≠ some b) (u0 u1 : Value) : OwnC B w ((wr.setCell ⟨b, 0, none⟩ u0).setCell ⟨b, 1, none⟩ u1) e size v n xs :=
  ⟨(((ownsRow_on h.1).set (a := ⟨b, 0, none⟩) (fun q => hne q.1) u0).set (a := ⟨b, 1, none⟩) (fun q => hne q.1) u1).now, (h.2.1.setCell (p := ⟨b, 0, none⟩) hb u0).setCell (p := ⟨b, 1, none⟩) hb u1, by simpa [World.setCell] using h.2.2⟩

set_option maxHeartbeats 8000000 in
theorem wayto_any {mb n S : Nat} {goal : Nat × Nat} {v0 v1 v2 : Value} {st : SrchL} {A : List ArcL} {lb : Nat → Int} {tr : List Int} {N c : Nat} {pend : List (Nat × Nat)} {w : World} {sg : StepL} (hm : MapA 56 spotLit okS w mb n (mapV st.by_)) (hS : Box4A w S v0 v1 v2 (.map (some mb))) (hI : InvS A lb tr N c st pend)
    (hg : st.by_ goal = some sg) (htr : tr.length ≤ 60) (hN : N ≤ 300) :
    Calls Tryd.prog 18 #[.pointer (some ⟨S, 0, none⟩), .agg #[.int .i64 (goal.1 : Int), .int .i64 (goal.2 : Int)]] w fun e w' => ∃ v ms, e = .returned v ∧ OwnC w.heap.size w w' 60 3 v ms.length (cellsM ms) ∧ Lay A lb tr (0, 0) ms goal ∧ costM ms = sg.cost ∧ ms.length ≤ 18300 := by
  obtain ⟨rk, hrk⟩ := hI.rank
  have Hrk : Hid (RankS A lb tr st rk) := hrk
  have HI : Hid _ := hI
  have HM : Hid (∀ w', Below w.heap.size w w' → MapA 56 spotLit okS w' mb n (mapV st.by_)) := fun w' hb => hm.below hb
  have HSb : Hid (∀ w', Below w.heap.size w w' → w'.cell? ⟨S, 3, none⟩ = some (.map (some mb))) := fun w' hb => (hS.below hb).2.2.2.2
  have hback := BackS.start (A := A) (lb := lb) (tr := tr) (N := N) (rk := rk) hg
  obtain ⟨g1, g2⟩ := goal
  simp only
  have HG : Hid (st.by_ (g1, g2) = some sg) := hg
  have HR0 : Hid (∀ p s, st.by_ p = some s → p.1 ≤ 300 ∧ p.2 ≤ 60) := fun p s h => by have := hI.range p s h; omega
  have hrm : N * (tr.length + 1) ≤ 18300 := by
    have : N * (tr.length + 1) ≤ 300 * 61 := Nat.mul_le_mul hN (by omega)
    omega
  have hx1 := boxP_new w g1 g2
  have b1 := below_new w (.cells #[.int .i64 (g1 : Int), .int .i64 (g2 : Int)] 56)
  have z1 : (w.alloc (.cells #[.int .i64 (g1 : Int), .int .i64 (g2 : Int)] 56)).heap.size = w.heap.size + 1 := by simp
  obtain ⟨w1, H1⟩ : ∃ u, Hid (w.alloc (.cells #[.int .i64 (g1 : Int), .int .i64 (g2 : Int)] 56) = u) := ⟨_, rfl⟩
  rw [H1.out] at hx1 b1 z1
  have hx2 := boxP_new w1 g1 g2
  have b2 := below_new w1 (.cells #[.int .i64 (g1 : Int), .int .i64 (g2 : Int)] 56)
  obtain ⟨w2, H2⟩ : ∃ u, Hid (w1.alloc (.cells #[.int .i64 (g1 : Int), .int .i64 (g2 : Int)] 56) = u) := ⟨_, rfl⟩
  rw [H2.out] at hx2 b2
  rw [z1] at hx2
  have b := below_then b1 b2
  have HO : Hid (OwnC w.heap.size w w2 60 3 (.slice none 0 0) 0 []) := OwnC.nil_of b b.size
  obtain ⟨X, HX⟩ : ∃ x, Hid (w.heap.size = x) := ⟨_, rfl⟩
  have Hz : Hid (w1.heap.size = X + 1) := by show _ = _; rw [z1, HX.out]
  obtain ⟨⟨y0, y1⟩, _⟩ := hx1.cells
  rw [HX.out] at hx2 y0 y1 HO HM HSb
  clear hm hS hI hg hrk b b1 b2 z1 hx1
  go_enter Tryd.func18, Tryd.ntmps18
  go_upto_region 1 with fail
  rw [H1.out, HX.out]
  go_wp2_with fail
  rw [H2.out, Hz.out]
  go_loopg [5, 6] (rk (g1, g2)) (fun gk way at_ wr => ∃ (p : Nat × Nat) (ms : List MoveL) (vs : List (Nat × Nat)) (ab : Nat), at_ = .pointer (some ⟨ab, 0, none⟩) ∧ BoxP wr ab p.1 p.2 ∧ OwnC X w wr 60 3 way ms.length (cellsM ms.reverse) ∧ way.ownBlock ≠ some ab ∧ X ≤ ab ∧ BackS A lb tr N st rk (g1, g2) sg p ms vs ∧ gk = rk p)
  case atStart => exact ⟨(g1, g2), [], [], X + 1, rfl, hx2, HO.out, by simp [Value.ownBlock], by omega, hback, rfl⟩
  case round =>
    clear hback HO hx2 y0 y1
    obtain ⟨⟨p1, p2⟩, ms, vs, ab, rfl, hP, hO, hne, hXa, hB, rfl⟩ := hrel
    obtain ⟨wa, wl, wc', rfl⟩ := ownsRow_slice hO.1
    have Hw : Hid (wl = ms.length) := row_lenW hO.1
    simp only at hP
    obtain ⟨⟨x0, x1⟩, _⟩ := hP.cells
    obtain ⟨s, hs, -⟩ := hB.at_
    by_cases hp : (p1, p2) = ((0, 0) : Nat × Nat)
    · injection hp with e1 e2
      subst e1 e2
      have HEnd : Hid (Lay A lb tr (0, 0) ms (g1, g2) ∧ costM ms = sg.cost ∧ ms.length ≤ 18300) := ⟨(hB.done HI.out).1, (hB.done HI.out).2, Nat.le_trans hB.short hrm⟩
      have hlen : ms.reverse.length = ms.length := List.length_reverse
      have hrl : ms.reverse.length ≤ 1000000 := by rw [hlen]; have := hB.short; omega
      have hC := revmoves_any X w _ ms.reverse wr (by rw [hlen]; exact hO) hrl
      rw [List.reverse_reverse, hlen] at hC
      clear hB
      go_wp2_with (go_at_call 29; refine hC.mono ?_; rintro e w6 ⟨rfl, hO6⟩)
      go_ret
      exact ⟨_, ms, rfl, by rw [HX.out]; exact hO6, HEnd.out⟩
    · have hq : ¬ ((p1 : Int) = 0 ∧ (p2 : Int) = 0) := fun q => hp (by ext <;> simp <;> omega)
      obtain ⟨hB2, hlt⟩ := hB.step Hrk.out HI.out hs hp
      have hsp := HR0.out _ _ hs
      obtain ⟨sf, hsf, -⟩ := Hrk.out _ _ hs hp
      have hfr := HR0.out _ _ hsf
      obtain ⟨⟨f1, f2⟩, ⟨mk, ml, mt⟩, sc⟩ := s
      simp only at hB2 hlt hfr hsp
      have hsh := hB.short
      have hSz : X ≤ wr.heap.size := hO.2.2
      obtain ⟨wq, rfl⟩ : ∃ z, z = wr := ⟨_, rfl⟩
      go_upto_region 5 with fail
      all_goals
        try (rename (p1 : Int) = 0 => h0; clear h0)
        try (rename p1 = 0 => h0; clear h0)
        have HLK : Hid (∀ w' : World, MapA 56 spotLit okS w' mb n (mapV st.by_) → (Instr.lookup 52 (.map (some mb)) (.agg #[.int .i64 (p1 : Int), .int .i64 (p2 : Int)]) false).run Tryd.prog w' = .ok (.agg #[.int .i64 (f1 : Int), .int .i64 (f2 : Int), .int .i64 mk, .int .i64 ml, .int .i64 mt, .int .i64 (sc : Int)]) w') := fun w' hm => by
          have := hm.look spot_key Tryd.underlying52 (e := 62) (z := stepZ) (by kernel_rfl) (x := (p1, p2)) ⟨by show p1 ≤ _; omega, by show p2 ≤ _; omega⟩
          unfold mapV at this
          rw [hs] at this
          exact this
        have HS : Hid (∀ w', Below wq.heap.size wq w' →  w'.cell? ⟨S, 3, none⟩ = some (.map (some mb)) ∧ w'.cell? ⟨ab, 0, none⟩ = some (.int .i64 (p1 : Int)) ∧ w'.cell? ⟨ab, 1, none⟩ = some (.int .i64 (p2 : Int)) ∧ MapA 56 spotLit okS w' mb n (mapV st.by_)) := fun w' hb => by
          have hbx : Below X w w' := hO.2.1.trans (hb.mono hSz)
          obtain ⟨⟨q0, q1⟩, _⟩ := (hP.below hb).cells
          exact ⟨HSb.out _ hbx, q0, q1, HM.out _ hbx⟩
        refine wp_region_held_drew (S := (fun w' => w'.cell? ⟨S, 3, none⟩ = some (.map (some mb)) ∧ w'.cell? ⟨ab, 0, none⟩ = some (.int .i64 (p1 : Int)) ∧ w'.cell? ⟨ab, 1, none⟩ = some (.int .i64 (p2 : Int)) ∧ MapA 56 spotLit okS w' mb n (mapV st.by_))) (by kernel_rfl) (HS.out _ (Below.refl _ _).drew) (fun hH => ?_)
        have b : Below wq.heap.size wq wq.drew := (Below.refl _ _).drew
        obtain ⟨v0', Hv0⟩ : ∃ v0', Hid (wq.drew = v0') := ⟨_, rfl⟩
        rw [Hv0.out] at hH b ⊢
        clear Hv0
        refine wpAnyH_take (i := 0) (v := .slice wa wl wc') rfl (by kernel_rfl) (by kernel_rfl) (by kernel_rfl) (fun _ _ _ h => h) (.inl ⟨by rfl, fun _ _ => rfl⟩) hH ?_
        simp only [List.getElem_toArray, List.getElem_cons_succ, List.getElem_cons_zero, Act.put, List.setIfInBounds_toArray, List.set_cons_zero, List.set_cons_succ]
        refine wpAnyH_take (i := 1) (v := .pointer (some ⟨S, 0, none⟩)) rfl (by kernel_rfl) (by kernel_rfl) (by kernel_rfl) (fun _ _ _ h => h) (.inl ⟨by rfl, fun _ _ => rfl⟩) hH ?_
        simp only [List.getElem_toArray, List.getElem_cons_succ, List.getElem_cons_zero, Act.put, List.setIfInBounds_toArray, List.set_cons_zero, List.set_cons_succ]
        refine wpAnyH_take (i := 2) (v := .pointer (some ⟨S, 0, none⟩)) rfl (by kernel_rfl) (by kernel_rfl) (by kernel_rfl) (fun _ _ _ h => h) (.inl ⟨by rfl, fun w' hS' => by first | (go_simp; done) | (go_simp; rfl) | (go_simp; intro h; omega) | (go_simp; omega)⟩) hH ?_
        simp only [List.getElem_toArray, List.getElem_cons_succ, List.getElem_cons_zero, Act.put, List.setIfInBounds_toArray, List.set_cons_zero, List.set_cons_succ]
        refine wpAnyH_take (i := 3) (v := .pointer (some ⟨S, 3, none⟩)) rfl (by kernel_rfl) (by kernel_rfl) (by kernel_rfl) (fun _ _ _ h => h) (.inl ⟨by rfl, fun w' hS' => by first | (go_simp; done) | (go_simp; rfl) | (go_simp; intro h; omega) | (go_simp; omega)⟩) hH ?_
        simp only [List.getElem_toArray, List.getElem_cons_succ, List.getElem_cons_zero, Act.put, List.setIfInBounds_toArray, List.set_cons_zero, List.set_cons_succ]
        refine wpAnyH_take (i := 4) (v := .map (some mb)) rfl (by kernel_rfl) (by kernel_rfl) (by kernel_rfl) (fun _ _ _ h => h) (.inl ⟨by rfl, fun w' hS' => by obtain ⟨s0, s1, s2, hm⟩ := hS'; go_simp⟩) hH ?_
        simp only [List.getElem_toArray, List.getElem_cons_succ, List.getElem_cons_zero, Act.put, List.setIfInBounds_toArray, List.set_cons_zero, List.set_cons_succ]
        refine wpAnyH_take (i := 5) (v := .agg #[.int .i64 (p1 : Int), .int .i64 (p2 : Int)]) rfl (by kernel_rfl) (by kernel_rfl) (by kernel_rfl) (fun _ _ _ h => h) (.inl ⟨by rfl, fun w' hS' => by obtain ⟨s0, s1, s2, hm⟩ := hS'; go_simp⟩) hH ?_
        simp only [List.getElem_toArray, List.getElem_cons_succ, List.getElem_cons_zero, Act.put, List.setIfInBounds_toArray, List.set_cons_zero, List.set_cons_succ]
        refine wpAnyH_take (i := 6) (v := .agg #[.int .i64 (f1 : Int), .int .i64 (f2 : Int), .int .i64 mk, .int .i64 ml, .int .i64 mt, .int .i64 (sc : Int)]) rfl (by kernel_rfl) (by kernel_rfl) (by kernel_rfl) (fun _ _ _ h => h) (.inl ⟨by rfl, fun w' hS' => by obtain ⟨s0, s1, s2, hm⟩ := hS'; have hrun := HLK.out _ hm; go_simp⟩) hH ?_
        simp only [List.getElem_toArray, List.getElem_cons_succ, List.getElem_cons_zero, Act.put, List.setIfInBounds_toArray, List.set_cons_zero, List.set_cons_succ]
        refine wpAnyH_take (i := 7) (v := .agg #[.int .i64 mk, .int .i64 ml, .int .i64 mt]) rfl (by kernel_rfl) (by kernel_rfl) (by kernel_rfl) (fun _ _ _ h => h) (.inl ⟨by rfl, fun w' hS' => by first | (go_simp; done) | (go_simp; rfl) | (go_simp; intro h; omega) | (go_simp; omega)⟩) hH ?_
        simp only [List.getElem_toArray, List.getElem_cons_succ, List.getElem_cons_zero, Act.put, List.setIfInBounds_toArray, List.set_cons_zero, List.set_cons_succ]
        have ba := below_new v0' (.cells #[.int .i64 mk, .int .i64 ml, .int .i64 mt] 60)
        have hcell : ∀ j u, (moveC ⟨mk, ml, mt⟩)[j]? = some u → (v0'.alloc (.cells #[.int .i64 mk, .int .i64 ml, .int .i64 mt] 60)).cell? (Addr.add ⟨v0'.heap.size, 0, none⟩ j) = some u := fun j u hj => by
          rw [addr_add, World.cell?_alloc_at _ _ _ _ rfl]
          match j, hj with
          | 0, hj => simpa [moveC] using hj
          | 1, hj => simpa [moveC] using hj
          | 2, hj => simpa [moveC] using hj
        obtain ⟨M, HM'⟩ : ∃ N, Hid (v0'.heap.size = N) := ⟨_, rfl⟩
        obtain ⟨v1', Hnew⟩ : ∃ v, Hid (v0'.alloc (.cells #[.int .i64 mk, .int .i64 ml, .int .i64 mt] 60) = v) := ⟨_, rfl⟩
        rw [Hnew.out] at ba hcell
        rw [HM'.out] at hcell
        refine wpAnyH_ready (rs := [8]) (by kernel_rfl) (by simp) ?_
        refine AllReadyH.cons rfl (fun K hK => ?_) AllReadyH.nil
        simp only [List.getElem_toArray, List.getElem_cons_succ, List.getElem_cons_zero]
        rw [if_pos (by rfl)]
        go_wp2_with fail
        rw [Hnew.out, HM'.out]
        replace b := below_then b ba
        refine hK.out _ _ (HS.out _ b) (fun hH => ?_)
        clear hK
        refine wpAnyH_ready (rs := [9]) (by kernel_rfl) (by simp) ?_
        refine AllReadyH.cons rfl (fun K hK => ?_) AllReadyH.nil
        simp only [List.getElem_toArray, List.getElem_cons_succ, List.getElem_cons_zero]
        refine wpr_append_cells elemM (by rfl) _ _ rfl X w v1' (.slice wa wl wc') ms.length 1 1 ⟨M, 0, none⟩ (cellsM ms.reverse) (moveC ⟨mk, ml, mt⟩) (hO.trans b) rfl rfl rfl hcell (by intro u hu; simp only [moveC, List.mem_cons, List.not_mem_nil, or_false] at hu; rcases hu with rfl | rfl | rfl <;> rfl) (by unfold maxLen; omega) (by omega) ?_
        intro v' w6 hO6 hg6
        obtain ⟨a5, l5, c5, rfl⟩ := ownsRow_slice hO6.1
        have hP6 := (hP.below b).grown hg6 hne
        have hHS :  w6.cell? ⟨S, 3, none⟩ = some (.map (some mb)) ∧ w6.cell? ⟨ab, 0, none⟩ = some (.int .i64 (p1 : Int)) ∧ w6.cell? ⟨ab, 1, none⟩ = some (.int .i64 (p2 : Int)) ∧ MapA 56 spotLit okS w6 mb n (mapV st.by_) := by
          obtain ⟨⟨q0, q1⟩, _⟩ := hP6.cells
          exact ⟨HSb.out _ hO6.2.1, q0, q1, HM.out _ hO6.2.1⟩
        refine hK.out _ _ hHS (fun hH => ?_)
        clear hK
        refine wpAnyH_take (i := 10) (v := .slice a5 l5 c5) rfl (by kernel_rfl) (by kernel_rfl) (by kernel_rfl) (fun _ _ _ h => h) (.inl ⟨by rfl, fun _ _ => rfl⟩) hH ?_
        simp only [List.getElem_toArray, List.getElem_cons_succ, List.getElem_cons_zero, Act.put, List.setIfInBounds_toArray, List.set_cons_zero, List.set_cons_succ]
        refine wpAnyH_done (by kernel_rfl) ?_ _
        go_upto_region 6 with fail
        have hO5 := hO6
        have hP5 := hP6
        obtain ⟨w5, rfl⟩ : ∃ z, z = w6 := ⟨_, rfl⟩
        clear hO6 hP6 hHS
        obtain ⟨⟨x0, x1⟩, _⟩ := hP5.cells
        have hP7 := boxP_new w5 p1 p2
        have b7 := below_new w5 (.cells #[.int .i64 (p1 : Int), .int .i64 (p2 : Int)] 56)
        have hO7 := hO5.trans b7
        have Hn7 : Hid ((Value.slice a5 l5 c5).ownBlock ≠ some w5.heap.size) := fun e => by have := (ownsRow_lt hO5.1 e).2; omega
        have Hs5 : Hid (X ≤ w5.heap.size) := hO5.2.2
        obtain ⟨w7, H7⟩ : ∃ z, Hid (w5.alloc (.cells #[.int .i64 (p1 : Int), .int .i64 (p2 : Int)] 56) = z) := ⟨_, rfl⟩
        rw [H7.out] at hP7 b7 hO7
        obtain ⟨ac, Hac⟩ : ∃ z, Hid (w5.heap.size = z) := ⟨_, rfl⟩
        rw [Hac.out] at hP7 Hn7 Hs5
        clear hO5 hP5 hO hP hne HLK HS
        go_upto_region 4 with fail
        rw [H7.out, Hac.out]
        have HLK : Hid (∀ w' : World, MapA 56 spotLit okS w' mb n (mapV st.by_) → (Instr.lookup 52 (.map (some mb)) (.agg #[.int .i64 (p1 : Int), .int .i64 (p2 : Int)]) false).run Tryd.prog w' = .ok (.agg #[.int .i64 (f1 : Int), .int .i64 (f2 : Int), .int .i64 mk, .int .i64 ml, .int .i64 mt, .int .i64 (sc : Int)]) w') := fun w' hm => by
          have := hm.look spot_key Tryd.underlying52 (e := 62) (z := stepZ) (by kernel_rfl) (x := (p1, p2)) ⟨by show p1 ≤ _; omega, by show p2 ≤ _; omega⟩
          unfold mapV at this
          rw [hs] at this
          exact this
        have HS : Hid (∀ w', Below w7.heap.size w7 w' →  w'.cell? ⟨S, 3, none⟩ = some (.map (some mb)) ∧ w'.cell? ⟨ac, 0, none⟩ = some (.int .i64 (p1 : Int)) ∧ w'.cell? ⟨ac, 1, none⟩ = some (.int .i64 (p2 : Int)) ∧ MapA 56 spotLit okS w' mb n (mapV st.by_)) := fun w' hb => by
          have hbx : Below X w w' := hO7.2.1.trans (hb.mono hO7.2.2)
          obtain ⟨⟨q0, q1⟩, _⟩ := (hP7.below hb).cells
          exact ⟨HSb.out _ hbx, q0, q1, HM.out _ hbx⟩
        refine wp_region_Z (S := (fun w' => w'.cell? ⟨S, 3, none⟩ = some (.map (some mb)) ∧ w'.cell? ⟨ac, 0, none⟩ = some (.int .i64 (p1 : Int)) ∧ w'.cell? ⟨ac, 1, none⟩ = some (.int .i64 (p2 : Int)) ∧ MapA 56 spotLit okS w' mb n (mapV st.by_))) (by kernel_rfl) 7 (HS.out _ (Below.refl _ _).drew) (fun hH => ?_)
        have b : Below w7.heap.size w7 w7.drew := (Below.refl _ _).drew
        obtain ⟨v0', Hv0⟩ : ∃ v0', Hid (w7.drew = v0') := ⟨_, rfl⟩
        rw [Hv0.out] at hH b ⊢
        clear Hv0
        refine wpZ_takeP (i := 0) (v := .pointer (some ⟨S, 0, none⟩)) rfl (by kernel_rfl) (by kernel_rfl) (by kernel_rfl) (fun _ _ _ h => h) (.inl ⟨by rfl, fun _ _ => rfl⟩) hH (by decide) ?_
        simp only [List.getElem_toArray, List.getElem_cons_succ, List.getElem_cons_zero, Act.put, List.setIfInBounds_toArray, List.set_cons_zero, List.set_cons_succ]
        refine wpZ_takeP (i := 1) (v := .pointer (some ⟨S, 0, none⟩)) rfl (by kernel_rfl) (by kernel_rfl) (by kernel_rfl) (fun _ _ _ h => h) (.inl ⟨by rfl, fun w' hS' => by first | (go_simp; done) | (go_simp; rfl) | (go_simp; intro h; omega) | (go_simp; omega)⟩) hH (by decide) ?_
        simp only [List.getElem_toArray, List.getElem_cons_succ, List.getElem_cons_zero, Act.put, List.setIfInBounds_toArray, List.set_cons_zero, List.set_cons_succ]
        refine wpZ_takeP (i := 2) (v := .pointer (some ⟨S, 3, none⟩)) rfl (by kernel_rfl) (by kernel_rfl) (by kernel_rfl) (fun _ _ _ h => h) (.inl ⟨by rfl, fun w' hS' => by first | (go_simp; done) | (go_simp; rfl) | (go_simp; intro h; omega) | (go_simp; omega)⟩) hH (by decide) ?_
        simp only [List.getElem_toArray, List.getElem_cons_succ, List.getElem_cons_zero, Act.put, List.setIfInBounds_toArray, List.set_cons_zero, List.set_cons_succ]
        refine wpZ_take (i := 3) (v := .map (some mb)) rfl (by kernel_rfl) (by kernel_rfl) (by kernel_rfl) (fun _ _ _ h => h) (.inl ⟨by rfl, fun w' hS' => by obtain ⟨s0, s1, s2, hm⟩ := hS'; go_simp⟩) hH rfl (by decide) (by kernel_rfl) (by kernel_rfl) ?_
        simp only [List.getElem_toArray, List.getElem_cons_succ, List.getElem_cons_zero, Act.put, List.setIfInBounds_toArray, List.set_cons_zero, List.set_cons_succ]
        refine wpZ_take (i := 4) (v := .agg #[.int .i64 (p1 : Int), .int .i64 (p2 : Int)]) rfl (by kernel_rfl) (by kernel_rfl) (by kernel_rfl) (fun _ _ _ h => h) (.inl ⟨by rfl, fun w' hS' => by obtain ⟨s0, s1, s2, hm⟩ := hS'; go_simp⟩) hH rfl (by decide) (by kernel_rfl) (by kernel_rfl) ?_
        simp only [List.getElem_toArray, List.getElem_cons_succ, List.getElem_cons_zero, Act.put, List.setIfInBounds_toArray, List.set_cons_zero, List.set_cons_succ]
        refine wpZ_take (i := 5) (v := .agg #[.int .i64 (f1 : Int), .int .i64 (f2 : Int), .int .i64 mk, .int .i64 ml, .int .i64 mt, .int .i64 (sc : Int)]) rfl (by kernel_rfl) (by kernel_rfl) (by kernel_rfl) (fun _ _ _ h => h) (.inl ⟨by rfl, fun w' hS' => by obtain ⟨s0, s1, s2, hm⟩ := hS'; have hrun := HLK.out _ hm; go_simp⟩) hH rfl (by decide) (by kernel_rfl) (by kernel_rfl) ?_
        simp only [List.getElem_toArray, List.getElem_cons_succ, List.getElem_cons_zero, Act.put, List.setIfInBounds_toArray, List.set_cons_zero, List.set_cons_succ]
        refine wpZ_takeP (i := 6) (v := .agg #[.int .i64 (f1 : Int), .int .i64 (f2 : Int)]) rfl (by kernel_rfl) (by kernel_rfl) (by kernel_rfl) (fun _ _ _ h => h) (.inl ⟨by rfl, fun w' hS' => by first | (go_simp; done) | (go_simp; rfl) | (go_simp; intro h; omega) | (go_simp; omega)⟩) hH (by decide) ?_
        simp only [List.getElem_toArray, List.getElem_cons_succ, List.getElem_cons_zero, Act.put, List.setIfInBounds_toArray, List.set_cons_zero, List.set_cons_succ]
        obtain ⟨⟨q0, q1⟩, r0, r1⟩ := (hP7.below b).cells
        have hP9 := boxP_store (hP7.below b) f1 f2
        have hO9 := (hO7.trans b).set2 Hs5.out Hn7.out (.int .i64 (f1 : Int)) (.int .i64 (f2 : Int))
        obtain ⟨W2, HW2⟩ : ∃ W2, Hid ((v0'.setCell ⟨ac, 0, none⟩ (.int .i64 (f1 : Int))).setCell ⟨ac, 1, none⟩ (.int .i64 (f2 : Int)) = W2) := ⟨_, rfl⟩
        rw [HW2.out] at hP9 hO9
        refine wpZ_ready (rs := [7]) (by kernel_rfl) (by simp) ?_
        refine AllZ.last rfl (by kernel_rfl) (fun K hK => ?_) AllZ.nil
        simp only [List.getElem_toArray, List.getElem_cons_succ, List.getElem_cons_zero]
        rw [if_pos (by rfl)]
        go_wp2_with fail
        rw [HW2.out]
        refine hK.out _ _ ?_
        clear hK
        refine wpZ_done (by kernel_rfl) ?_ _
        go_wp2_with fail
        have HO8 : Hid (OwnC X w W2 60 3 (.slice a5 l5 c5) ((⟨mk, ml, mt⟩ :: ms : List MoveL)).length (cellsM ((⟨mk, ml, mt⟩ :: ms : List MoveL)).reverse)) := by
          show OwnC X w W2 _ _ _ _ _
          rw [List.reverse_cons, cellsM_append, List.length_cons]
          exact hO9
        clear hO9 hO7 hP7 q0 q1 r0 r1
        go_roundg (rk (f1, f2))
        case measure => exact hlt
        case rel => exact ⟨(f1, f2), ⟨mk, ml, mt⟩ :: ms, (p1, p2) :: vs, ac, rfl, hP9, HO8.out, Hn7.out, Hs5.out, hB2, rfl⟩

end Go.Proofs.YtakgppoeikcepaaDoor
/- Align, whole. (Made by tools/gen_aligndev.py.) -/
namespace Go.Proofs.YtakgppoeikcepaaDoor
open Go.RowKit Go.Shelf
set_option linter.unusedVariables false
set_option linter.unusedSimpArgs false
set_option maxRecDepth 4000

def MovesV (w : World) (v : Value) (ms : List MoveL) : Prop := CellsV w v 3 1000000 ms.length (cellsM ms)
theorem moves_nil (w : World) : MovesV w (.slice none 0 0) [] := CellsV.nil w 3 1000000
theorem RowsOn.weaken {Q Q' : Nat → Prop} {v : Value} {N : Nat} {R : Nat → List ArcL} {w : World} (h : RowsOn Q v N R w) (hQ : ∀ k, k < w.heap.size → Q k → Q' k) : RowsOn Q' v N R w := by
  obtain ⟨b, rv, e, hlt, h⟩ := h
  exact ⟨b, rv, e, hlt, fun i hi => (h i hi).weaken hQ⟩
theorem RowsOn.fill {Q : Nat → Prop} {v : Value} {N : Nat} {R : Nat → List ArcL} {w w' : World} {S : Nat} (h : RowsOn Q v N R w) (hs : w'.heap.size = w.heap.size) (hb : ∀ k, k ≠ S → w'.heap[k]? = w.heap[k]?) (hS : ¬ Q S) : RowsOn Q v N R w' := by
  obtain ⟨b, rv, e, hlt, h⟩ := h
  exact ⟨b, rv, e, by omega, fun i hi => (h i hi).to (by omega) fun k _ hq => hb k (fun e => hS (e ▸ hq))⟩

/-- A search's block. -/
def BoxK (w : World) (b : Nat) (v0 v1 v2 v3 : Value) : Prop := w.heap[b]? = some (.cells #[v0, v1, v2, v3] 54 (0, 0))
theorem BoxK.lt {w : World} {b : Nat} {v0 v1 v2 v3 : Value} (h : BoxK w b v0 v1 v2 v3) : b < w.heap.size := (Array.getElem?_eq_some_iff.1 h).1
theorem BoxK.below {w w' : World} {b : Nat} {v0 v1 v2 v3 : Value} (h : BoxK w b v0 v1 v2 v3) (hb : Below w.heap.size w w') : BoxK w' b v0 v1 v2 v3 := (hb.block b h.lt).trans h
theorem BoxK.cells {w : World} {b : Nat} {v0 v1 v2 v3 : Value} (h : BoxK w b v0 v1 v2 v3) : Box4A w b v0 v1 v2 v3 ∧ ∀ j, w.frozen? ⟨b, j, none⟩ = false := by
  have hlt := h.lt
  unfold BoxK at h
  refine ⟨⟨hlt, ?_, ?_, ?_, ?_⟩, fun j => ?_⟩
  all_goals simp [World.cell?, World.frozen?, h]
theorem boxK_new (w : World) : BoxK (w.alloc (.cells #[.slice none 0 0, .slice none 0 0, .slice none 0 0, .map none] 54)) w.heap.size (.slice none 0 0) (.slice none 0 0) (.slice none 0 0) (.map none) := heap_alloc_new w _
theorem boxK_store {w W2 : World} {b : Nat} {z0 z1 z2 z3 : Value} (h : BoxK w b z0 z1 z2 z3) (v0 v1 v2 v3 : Value) (e : (((w.setCell ⟨b, 0, none⟩ v0).setCell ⟨b, 1, none⟩ v1).setCell ⟨b, 2, none⟩ v2).setCell ⟨b, 3, none⟩ v3 = W2) :
    BoxK W2 b v0 v1 v2 v3 ∧ W2.heap.size = w.heap.size ∧ (∀ k, k ≠ b → W2.heap[k]? = w.heap[k]?) ∧ ∀ B w0, Below B w0 w → B ≤ b → Below B w0 W2 := by
  subst e
  refine ⟨?_, by simp [World.setCell], fun k hk => ?_, fun B w0 hb hB => (((hb.setCell (p := ⟨b, 0, none⟩) hB v0).setCell (p := ⟨b, 1, none⟩) hB v1).setCell (p := ⟨b, 2, none⟩) hB v2).setCell (p := ⟨b, 3, none⟩) hB v3⟩
  · unfold BoxK at h ⊢
    rw [setCell_block (setCell_block (setCell_block (setCell_block h _) _) _) _]
    rfl
  · rw [Below.heap_setCell _ ⟨b, 3, none⟩ _ _ (fun e => hk (by simpa using e)), Below.heap_setCell _ ⟨b, 2, none⟩ _ _ (fun e => hk (by simpa using e)), Below.heap_setCell _ ⟨b, 1, none⟩ _ _ (fun e => hk (by simpa using e)), Below.heap_setCell _ ⟨b, 0, none⟩ _ _ (fun e => hk (by simpa using e))]

def alignGoes (v u : Value) (n : NetL) (i o : Int) (tr : List Int) (w : World) : Prop :=
    Calls Tryd.prog 6 #[v, .int .i64 i, .int .i64 o, u] w fun e w' => ∃ r ms c d, e = .returned (.tuple #[r, .int .i64 c, .int .i64 d]) ∧ AlignAns n i o tr ms c d ∧ MovesV w' r ms ∧ Below w.heap.size w w'

set_option maxRecDepth 100000 in
set_option maxHeartbeats 8000000 in
theorem align_any {v u : Value} {n : NetL} {i o : Int} {tr : List Int} {w : World} (hv : Net w v n) (hu : Ints w u tr) : alignGoes v u n i o tr w := by
  obtain ⟨tv, rfl, hT⟩ := hv
  obtain ⟨na, nl, nc, rfl, _⟩ := id hT
  obtain ⟨ta, tl, tc, rfl, htl, htm, _⟩ := id hu
  have Htl : Hid (tr.length = tl) := htl
  clear htl
  unfold alignGoes
  have c : Below w.heap.size w (w.alloc (.cells #[.int .i64 n.places, .slice na nl nc] 24)) := below_new _ _
  have hbx := box2_new w (.int .i64 n.places) (.slice na nl nc) 24
  obtain ⟨w0, Hw0⟩ : ∃ w0, Hid (w.alloc (.cells #[.int .i64 n.places, .slice na nl nc] 24) = w0) := ⟨_, rfl⟩
  rw [Hw0.out] at c hbx
  have hv : Net w0 (.agg #[.int .i64 n.places, .slice na nl nc]) n := ⟨_, rfl, hT.below c⟩
  obtain ⟨x0, x1, x2⟩ := id hbx
  go_enter Tryd.func6, Tryd.ntmps6
  go_upto_region 1 with fail
  rw [Hw0.out]
  clear Hw0
  go_wp2_with fail
  clear x0 x1 x2
  refine (shape_wrong _ n i o _ (by exact hv)).mono ?_
  rintro e w1 ⟨d, rfl, hd, b⟩
  replace hbx := hbx.below b
  replace hv := hv.below b
  replace c := below_then c b
  clear b
  by_cases hd0 : d = 0
  · subst hd0
    have HS : Hid (ShapeOk n i o) := hd.zero
    clear hd
    obtain ⟨x0, x1, x2⟩ := id hbx
    go_upto_region 4 with fail
    have hdr : Below w1.heap.size w1 w1.drew := (Below.refl _ _).drew
    have hvd := hv.below hdr
    have hvn := hvd.below (below_new w1.drew (.cells #[.slice none 0 0, .slice none 0 0] 43))
    have Hne : Hid (startL n.places i ≠ []) := by intro e; have h1 := start_len HS.out.ok i; have h2 := two_places HS.out; rw [e] at h1; simp at h1; omega
    obtain ⟨G, HG⟩ : ∃ G, Hid (graphL n (startL n.places i) 300 = G) := ⟨_, rfl⟩
    have Hfl : Hid (∀ j, j < G.1.marks.length → markAt G.1.marks j ≠ []) := by have := graph_full (n := n) (most := 300) Hne.out; rw [HG.out] at this; exact this
    go_cut [12, 13] (fun p q wc => ∃ bx mv av, p = .pointer (some ⟨bx, 0, none⟩) ∧ q = .int .i64 G.2 ∧ Box2 wc bx mv av ∧ Space wc (.agg #[mv, av]) G.1 ∧ Below w1.heap.size w1 wc)
    case first =>
      go_region_held3 (fun w' => w'.cell? ⟨w.heap.size, 0, none⟩ = some (.int .i64 n.places) ∧ w'.cell? ⟨w.heap.size, 1, none⟩ = some (.slice na nl nc))
        (first | exact ⟨f1, f2⟩ | go_keep)
        (first
          | (go_at_call 12; refine (shape_start_own _ n i _ ?_).mono ?_; (first | exact hvd | exact hvn); rintro e w2 ⟨r1, rfl, hOn, hOb⟩; have hI := hOn.now; (first | (have hnb : NilBox w2 w1.heap.size := (nilBox_new w1.drew).below hOb; have q2 := below_then (below_then hdr (below_new w1.drew (.cells #[.slice none 0 0, .slice none 0 0] 43))) hOb) | (have q2 := below_then hdr hOb)); have hv2 := hv.below q2; obtain ⟨y0, y1, y2⟩ := hbx.below q2)
          | (go_at_call 11; refine (reach_graph _ _ n (startL n.places i) 300 _ ?_ ?_).mono ?_; (first | exact hv2 | exact hv2.below (below_new w2 (.cells #[.slice none 0 0, .slice none 0 0] 43))); (first | exact hI | exact hI.below (below_new w2 (.cells #[.slice none 0 0, .slice none 0 0] 43))); rw [HG.out]; rintro e w3 ⟨r2, rfl, hSp, b3⟩; (first | (have hnb3 := (nilBox_new w2).below b3; have q3 := below_then q2 (below_then (below_new w2 (.cells #[.slice none 0 0, .slice none 0 0] 43)) b3); have hlt3 : w.heap.size < w2.heap.size := y0) | (have hnb3 := hnb.below b3; have q3 := below_then q2 b3; have hlt3 : w.heap.size < w1.heap.size := x0) | (have q3 := below_then q2 b3)); obtain ⟨mv, av, rfl, hMv, hAv⟩ := id hSp; obtain ⟨am, cm, rfl, _, _⟩ := hMv.slice; obtain ⟨aa, ca, hav, _⟩ := hAv.slice; rw [List.length_map] at hav; subst hav; obtain ⟨z0, z1, z2⟩ := hbx.below q3; (first | (obtain ⟨n0, n1, n2, n3, n4⟩ := hnb3.at; have hf := hnb3.fill hSp Hfl.out; have f1 := (hf.2.2.cell (p := ⟨w.heap.size, 0, none⟩) hlt3).trans z1; have f2 := (hf.2.2.cell (p := ⟨w.heap.size, 1, none⟩) hlt3).trans z2) | skip)))
      all_goals
        go_wp2_with fail
        go_meet
        first
          | exact ⟨_, _, _, rfl, rfl, hf.2.1, hf.1, q3.trans (hf.2.2.mono (Nat.le_refl _))⟩
          | exact ⟨_, _, _, rfl, rfl, hf.2.1, hf.1, q3.trans (hf.2.2.mono q2.size)⟩
          | exact ⟨_, _, _, rfl, rfl, box2_new w3 _ _ _, hSp.below (below_new w3 _), below_then q3 (below_new w3 _)⟩
    obtain ⟨bx, mv, av, rfl, rfl, hbs, hSp, b4⟩ := hcut
    obtain ⟨w4, rfl⟩ : ∃ w0, w0 = wc := ⟨_, rfl⟩
    replace hbx := hbx.below b4
    replace hv := hv.below b4
    replace c := below_then c b4
    clear hvd hvn hdr b4 x0 x1 x2 Hne
    obtain ⟨s, dg⟩ := G
    simp only at hSp Hfl ⊢
    by_cases hg0 : dg = 0
    · subst hg0
      clear Hfl
      have HW : Hid (Whole n (startL n.places i) s) := graphL_whole HG.out
      have Hsm : Hid (s.marks.length ≤ 300) := by have := graphL_small n (startL n.places i) 300; rw [HG.out] at this; exact this
      have Harcs : Hid (∀ a ∈ s.arcs, a.frm < s.marks.length ∧ a.dst < s.marks.length ∧ a.tran < n.trans.length) := fun a ha => by
        obtain ⟨h1, h2, h3, _⟩ := HW.out.sound a ha
        exact ⟨h1, h2, h3⟩
      have HTE : Hid (TongErr n i o 0) := .inr ⟨HS.out, by rw [HG.out]⟩
      by_cases h60 : 60 < tl
      · have i60 : (60 : Int) < (tl : Int) := by omega
        have HEnd : Hid (AlignAns n i o tr [] 0 2) := ⟨0, HTE.out, fun h => absurd rfl h, fun _ => .inl ⟨by rw [Htl.out]; exact h60, rfl, rfl, rfl⟩⟩
        clear hbs hSp hbx hv
        go_wp2
        go_ret3
        exact ⟨_, [], _, _, rfl, HEnd.out, moves_nil _, c⟩
      · have i60 : ¬ (60 : Int) < (tl : Int) := by omega
        obtain ⟨_, x1, x2⟩ := id hbx
        obtain ⟨_, y1, y2⟩ := id hbs
        go_upto_region 9 with fail
        go_upto_region 10 with (go_at_call 12; refine (shape_start_own _ n o _ (by exact hv)).mono ?_; rintro e w5 ⟨r5, rfl, hO5, b5⟩; obtain ⟨ra, rl, rc, rfl, _⟩ := id hO5.now; have hbs5 := hbs.below b5; have hbx5 := hbx.below b5)
        have hE := hO5.now
        have hSp5 := hSp.below b5
        have hv5 := hv.below b5
        have c5 := below_then c b5
        clear hbs hbx hSp hv c b5 x1 x2 y1 y2 hO5
        have hxE := box1_new w5 (.slice ra rl rc) 25
        have b6 := below_new w5 (.cells #[.slice ra rl rc] 25)
        obtain ⟨w6, H6⟩ : ∃ z, Hid (w5.alloc (.cells #[.slice ra rl rc] 25) = z) := ⟨_, rfl⟩
        rw [H6.out] at hxE b6 ⊢
        clear H6
        replace hE := hE.below b6
        have hSp6 := hSp5.below b6
        have hv6 := hv5.below b6
        have hbs6 := hbs5.below b6
        have hbx6 := hbx5.below b6
        have c6 := below_then c5 b6
        clear hSp5 hv5 hbs5 hbx5 c5 b6
        obtain ⟨EB, HEB⟩ : ∃ z, Hid (w5.heap.size = z) := ⟨_, rfl⟩
        rw [HEB.out] at hxE ⊢
        obtain ⟨hMk, hAk⟩ : Lists w6 mv s.marks ∧ Arcs w6 av (s.arcs.map arcZ) := by obtain ⟨mv', av', e, h1, h2⟩ := id hSp6; injection e with e; injection e with e; simp at e; obtain ⟨rfl, rfl⟩ := e; exact ⟨h1, h2⟩
        obtain ⟨am, cm, rfl, _, _⟩ := hMk.slice
        obtain ⟨aa, ca, rfl, hlab⟩ := hAk.slice
        obtain ⟨N, HN⟩ : ∃ N, Hid (s.marks.length = N) := ⟨_, rfl⟩
        obtain ⟨la, Hla⟩ : ∃ la, Hid ((s.arcs.map arcZ).length = la) := ⟨_, rfl⟩
        have hIdx := indexmarks_any w6 14 _ _ (align1_asks w6 EB _ _ hxE hE) align1_enters _ s.marks w6 (Below.refl _ _) hMk
        rw [HN.out] at hMk hbs6 hSp6 hIdx
        rw [Hla.out] at hAk hbs6 hSp6 hlab
        obtain ⟨_, y1, y2⟩ := id hbs6
        go_upto_region 11 with (go_at_call 13; refine hIdx.mono ?_; rintro e w7 ⟨ix, rfl, hF, b7⟩)
        have hSp7 := hSp6.below b7
        have hbs7 := hbs6.below b7
        have hbx7 := hbx6.below b7
        have c7 := below_then c6 b7
        have hv7 := hv6.below b7
        clear hSp6 hbs6 hbx6 hv6 c6 b7 hIdx hxE hE y1 y2 hMk hAk
        rcases hF with ⟨rfl, hno⟩ | ⟨k, rfl, hkl, hke, _⟩
        · have HEnd : Hid (AlignAns n i o tr [] 0 3) := ⟨0, HTE.out, fun h => absurd rfl h, fun _ => .inr (.inl ⟨by rw [Htl.out]; omega, fun e he q => by
            rw [HG.out] at he q
            have := hno e he
            rw [q] at this
            simp at this, rfl, rfl, rfl⟩)⟩
          clear hbs7 hSp7 hbx7 hno hv7
          go_wp2
          go_ret3
          exact ⟨_, [], _, _, rfl, HEnd.out, moves_nil _, c7⟩
        · have hkN : k < N := by rw [← HN.out]; exact hkl
          have hN3 : N ≤ 300 := by rw [← HN.out]; exact Hsm.out
          have HKE : Hid (markAt s.marks k = startL n.places o) := by show _ = _; simpa using hke
          have ik : ¬ (k : Int) < 0 := by omega
          have hu7 := hu.below c7
          have hT7 : Trans w7 (.slice na nl nc) n.trans := by obtain ⟨tv', e, h⟩ := hv7; injection e with e; injection e with e; simp at e; rw [e]; exact h
          obtain ⟨NB, HNB⟩ : ∃ z, Hid (w.heap.size = z) := ⟨_, rfl⟩
          have HCW : Hid (Below w.heap.size w w7) := c7
          rw [HNB.out] at hbx7
          clear c7 hke hv7
          go_upto_region 13 with fail
          rw [HNB.out]
          go_cut [16] (fun x16 wc => ∃ S mb rb, x16 = .pointer (some ⟨S, 0, none⟩) ∧ BoxK wc S (.slice ta tl tc) (.slice na nl nc) (.slice (some ⟨rb, 0, none⟩) N N) (.map (some mb)) ∧ MapA 56 spotLit okS wc mb 0 (fun _ => none) ∧ S ≠ mb ∧ w7.heap.size ≤ mb ∧ w7.heap.size ≤ S ∧ RowsOn (fun k => ¬ k = mb) (.slice (some ⟨rb, 0, none⟩) N N) N (fromL s.arcs) wc ∧ Below w7.heap.size w7 wc)
          case first =>
            have HS : Hid (∀ w', Below w7.heap.size w7 w' →  w'.cell? ⟨NB, 1, none⟩ = some (.slice na nl nc) ∧ w'.cell? ⟨bx, 0, none⟩ = some (.slice am N cm) ∧ w'.cell? ⟨bx, 1, none⟩ = some (.slice aa la ca)) := fun w' hb => by
              obtain ⟨_, q0, q1⟩ := hbx7.below hb
              obtain ⟨_, q2, q3⟩ := hbs7.below hb
              exact ⟨q1, q2, q3⟩
            refine wp_region_held_drew (S := (fun w' => w'.cell? ⟨NB, 1, none⟩ = some (.slice na nl nc) ∧ w'.cell? ⟨bx, 0, none⟩ = some (.slice am N cm) ∧ w'.cell? ⟨bx, 1, none⟩ = some (.slice aa la ca))) (by kernel_rfl) (HS.out _ (Below.refl _ _).drew) (fun hH => ?_)
            have b : Below w7.heap.size w7 w7.drew := (Below.refl _ _).drew
            obtain ⟨u0, Hv0⟩ : ∃ v0', Hid (w7.drew = v0') := ⟨_, rfl⟩
            rw [Hv0.out] at hH b ⊢
            clear Hv0
            refine wpAnyH_take (i := 0) (v := .slice ta tl tc) rfl (by kernel_rfl) (by kernel_rfl) (by kernel_rfl) (fun _ _ _ h => h) (.inl ⟨by rfl, fun _ _ => rfl⟩) hH ?_
            simp only [List.getElem_toArray, List.getElem_cons_succ, List.getElem_cons_zero, Act.put, List.setIfInBounds_toArray, List.set_cons_zero, List.set_cons_succ]
            refine wpAnyH_take (i := 1) (v := .pointer (some ⟨NB, 1, none⟩)) rfl (by kernel_rfl) (by kernel_rfl) (by kernel_rfl) (fun _ _ _ h => h) (.inl ⟨by rfl, fun w' hS' => by first | (go_simp; done) | (go_simp; rfl) | (go_simp; intro h; omega) | (go_simp; omega)⟩) hH ?_
            simp only [List.getElem_toArray, List.getElem_cons_succ, List.getElem_cons_zero, Act.put, List.setIfInBounds_toArray, List.set_cons_zero, List.set_cons_succ]
            refine wpAnyH_take (i := 2) (v := .slice na nl nc) rfl (by kernel_rfl) (by kernel_rfl) (by kernel_rfl) (fun _ _ _ h => h) (.inl ⟨by rfl, fun w' hS' => by obtain ⟨s0, s1, s2⟩ := hS'; go_simp⟩) hH ?_
            simp only [List.getElem_toArray, List.getElem_cons_succ, List.getElem_cons_zero, Act.put, List.setIfInBounds_toArray, List.set_cons_zero, List.set_cons_succ]
            refine wpAnyH_take (i := 3) (v := .agg #[.slice am N cm, .slice aa la ca]) rfl (by kernel_rfl) (by kernel_rfl) (by kernel_rfl) (fun _ _ _ h => h) (.inl ⟨by rfl, fun w' hS' => by obtain ⟨s0, s1, s2⟩ := hS'; go_simp⟩) hH ?_
            simp only [List.getElem_toArray, List.getElem_cons_succ, List.getElem_cons_zero, Act.put, List.setIfInBounds_toArray, List.set_cons_zero, List.set_cons_succ]
            have b0 := b
            refine wpAnyH_ready (rs := [4, 5, 7]) (by kernel_rfl) (by simp) ?_
            refine (AllReadyH.cons rfl (fun K hK => ?_) (AllReadyH.cons rfl (fun K hK => ?_) (AllReadyH.cons rfl (fun K hK => ?_) AllReadyH.nil)))
            · simp only [List.getElem_toArray, List.getElem_cons_succ, List.getElem_cons_zero]
              rw [if_pos (by rfl)]
              go_wp2_with fail
              refine (leaving_any (w := u0) (hSp7.below b) Hsm.out (fun a ha => (Harcs.out a ha).1)).mono ?_
              rintro e u1 ⟨r, rfl, hRr, bs⟩
              rw [HN.out] at hRr
              obtain ⟨rb, hrb⟩ : ∃ rb, r = .slice (some ⟨rb, 0, none⟩) N N := by obtain ⟨rb, _, e, _⟩ := hRr; exact ⟨rb, e⟩
              subst hrb
              have Q0 : Hid (u0.heap.size ≤ u1.heap.size) := bs.size
              obtain ⟨lo, Hlo⟩ : ∃ z, Hid (u0.heap.size = z) := ⟨_, rfl⟩
              obtain ⟨hi, Hhi⟩ : ∃ z, Hid (u1.heap.size = z) := ⟨_, rfl⟩
              rw [Hlo.out, Hhi.out] at hRr
              replace b := below_then b bs
              skip
              refine hK.out _ _ (HS.out _ b) (fun hH => ?_)
              clear hK
              refine wpAnyH_ready (rs := [5, 7]) (by kernel_rfl) (by simp) ?_
              refine (AllReadyH.cons rfl (fun K hK => ?_) (AllReadyH.cons rfl (fun K hK => ?_) AllReadyH.nil))
              · simp only [List.getElem_toArray, List.getElem_cons_succ, List.getElem_cons_zero]
                rw [if_pos (by rfl)]
                have hmm := run_makeMap (P := Tryd.prog) 52 u1
                have bs := below_new u1 (.map #[] 0)
                have hMp : MapA 56 spotLit okS (u1.alloc (.map #[] 0)) u1.heap.size 0 (fun _ => none) := mapA_made u1
                have q1 : (u1.alloc (.map #[] 0)).heap.size = u1.heap.size + 1 := by simp
                obtain ⟨mb, Hz1⟩ : ∃ z, Hid (u1.heap.size = z) := ⟨_, rfl⟩
                have Hmbz : Hid (u1.heap.size = mb) := Hz1.out
                obtain ⟨u2, Hn1⟩ : ∃ z, Hid (u1.alloc (.map #[] 0) = z) := ⟨_, rfl⟩
                rw [Hn1.out] at bs hMp q1 hmm
                rw [Hz1.out] at hMp hmm
                have Q1 : Hid (u2.heap.size = u1.heap.size + 1) := q1
                clear q1
                go_wp2_with fail
                clear hmm
                replace b := below_then b bs
                replace hRr := hRr.below bs
                refine hK.out _ _ (HS.out _ b) (fun hH => ?_)
                clear hK
                refine wpAnyH_take (i := 6) (v := .agg #[.slice ta tl tc, .slice na nl nc, .slice (some ⟨rb, 0, none⟩) N N, .map (some mb)]) rfl (by kernel_rfl) (by kernel_rfl) (by kernel_rfl) (fun _ _ _ h => h) (.inl ⟨by rfl, fun w' hS' => by first | (go_simp; done) | (go_simp; rfl) | (go_simp; intro h; omega) | (go_simp; omega)⟩) hH ?_
                simp only [List.getElem_toArray, List.getElem_cons_succ, List.getElem_cons_zero, Act.put, List.setIfInBounds_toArray, List.set_cons_zero, List.set_cons_succ]
                have bs := below_new u2 (.cells #[.slice none 0 0, .slice none 0 0, .slice none 0 0, .map none] 54)
                have hKb := boxK_new u2
                have q2 : (u2.alloc (.cells #[.slice none 0 0, .slice none 0 0, .slice none 0 0, .map none] 54)).heap.size = u2.heap.size + 1 := by simp
                obtain ⟨S, Hz2⟩ : ∃ z, Hid (u2.heap.size = z) := ⟨_, rfl⟩
                have HSz : Hid (u2.heap.size = S) := Hz2.out
                obtain ⟨u3, Hn2⟩ : ∃ z, Hid (u2.alloc (.cells #[.slice none 0 0, .slice none 0 0, .slice none 0 0, .map none] 54) = z) := ⟨_, rfl⟩
                rw [Hn2.out] at bs hKb q2
                rw [Hz2.out] at hKb
                have Q2 : Hid (u3.heap.size = u2.heap.size + 1) := q2
                clear q2
                refine wpAnyH_ready (rs := [7]) (by kernel_rfl) (by simp) ?_
                refine AllReadyH.cons rfl (fun K hK => ?_) AllReadyH.nil
                simp only [List.getElem_toArray, List.getElem_cons_succ, List.getElem_cons_zero]
                rw [if_pos (by rfl)]
                go_wp2_with fail
                rw [Hn2.out, Hz2.out]
                replace b := below_then b bs
                replace hRr := hRr.below bs
                replace hMp := hMp.below bs
                refine hK.out _ _ (HS.out _ b) (fun hH => ?_)
                clear hK
                obtain ⟨hb4, hfz⟩ := hKb.cells
                obtain ⟨_, k0, k1, k2, k3⟩ := hb4
                have z0 := hfz 0
                have z1 := hfz 1
                have z2 := hfz 2
                have z3 := hfz 3
                obtain ⟨W2, HW2⟩ : ∃ W2, Hid ((((u3.setCell ⟨S, 0, none⟩ (.slice ta tl tc)).setCell ⟨S, 1, none⟩ (.slice na nl nc)).setCell ⟨S, 2, none⟩ (.slice (some ⟨rb, 0, none⟩) N N)).setCell ⟨S, 3, none⟩ (.map (some mb)) = W2) := ⟨_, rfl⟩
                obtain ⟨t1, t2, t3, t4⟩ := boxK_store hKb _ _ _ _ HW2.out
                have HF : Hid (S ≠ mb ∧ w7.heap.size ≤ S ∧ w7.heap.size ≤ mb ∧ ¬ (lo ≤ S ∧ S < hi) ∧ ¬ (lo ≤ mb ∧ mb < hi)) := by
                  have qq : w7.heap.size ≤ u0.heap.size := b0.size
                  have p0 := Hmbz.out
                  have p1 := HSz.out
                  have p2 := Q0.out
                  have p3 := Q1.out
                  have p4 := Q2.out
                  have p5 := Hlo.out
                  have p6 := Hhi.out
                  show _ ∧ _
                  omega
                have bw := t4 _ _ b HF.out.2.1
                have hMp2 := hMp.block (t3 mb (fun e => HF.out.1 e.symm))
                have hRr2 : RowsOn (fun k => ¬ k = mb) (.slice (some ⟨rb, 0, none⟩) N N) N (fromL s.arcs) W2 := (hRr.fill t2 t3 HF.out.2.2.2.1).weaken fun j hj q e => HF.out.2.2.2.2 (e ▸ q)
                refine wpAnyH_ready (rs := [8]) (by kernel_rfl) (by simp) ?_
                refine AllReadyH.cons rfl (fun K hK => ?_) AllReadyH.nil
                simp only [List.getElem_toArray, List.getElem_cons_succ, List.getElem_cons_zero]
                rw [if_pos (by rfl)]
                go_wp2_with fail
                rw [HW2.out]
                refine hK.out _ _ (HS.out _ bw) (fun hH => ?_)
                refine wpAnyH_done (by kernel_rfl) ?_ _
                go_wp2_with fail
                go_meet
                exact ⟨S, mb, rb, rfl, t1, hMp2, HF.out.1, HF.out.2.2.1, HF.out.2.1, hRr2, bw⟩
              · simp only [List.getElem_toArray, List.getElem_cons_succ, List.getElem_cons_zero]
                rw [if_pos (by rfl)]
                have bs := below_new u1 (.cells #[.slice none 0 0, .slice none 0 0, .slice none 0 0, .map none] 54)
                have hKb := boxK_new u1
                have q1 : (u1.alloc (.cells #[.slice none 0 0, .slice none 0 0, .slice none 0 0, .map none] 54)).heap.size = u1.heap.size + 1 := by simp
                obtain ⟨S, Hz1⟩ : ∃ z, Hid (u1.heap.size = z) := ⟨_, rfl⟩
                have HSz : Hid (u1.heap.size = S) := Hz1.out
                obtain ⟨u2, Hn1⟩ : ∃ z, Hid (u1.alloc (.cells #[.slice none 0 0, .slice none 0 0, .slice none 0 0, .map none] 54) = z) := ⟨_, rfl⟩
                rw [Hn1.out] at bs hKb q1
                rw [Hz1.out] at hKb
                have Q1 : Hid (u2.heap.size = u1.heap.size + 1) := q1
                clear q1
                go_wp2_with fail
                rw [Hn1.out, Hz1.out]
                replace b := below_then b bs
                replace hRr := hRr.below bs
                refine hK.out _ _ (HS.out _ b) (fun hH => ?_)
                clear hK
                have hmm := run_makeMap (P := Tryd.prog) 52 u2
                have bs := below_new u2 (.map #[] 0)
                have hMp : MapA 56 spotLit okS (u2.alloc (.map #[] 0)) u2.heap.size 0 (fun _ => none) := mapA_made u2
                have q2 : (u2.alloc (.map #[] 0)).heap.size = u2.heap.size + 1 := by simp
                obtain ⟨mb, Hz2⟩ : ∃ z, Hid (u2.heap.size = z) := ⟨_, rfl⟩
                have Hmbz : Hid (u2.heap.size = mb) := Hz2.out
                obtain ⟨u3, Hn2⟩ : ∃ z, Hid (u2.alloc (.map #[] 0) = z) := ⟨_, rfl⟩
                rw [Hn2.out] at bs hMp q2 hmm
                rw [Hz2.out] at hMp hmm
                have Q2 : Hid (u3.heap.size = u2.heap.size + 1) := q2
                clear q2
                refine wpAnyH_ready (rs := [5]) (by kernel_rfl) (by simp) ?_
                refine AllReadyH.cons rfl (fun K hK => ?_) AllReadyH.nil
                simp only [List.getElem_toArray, List.getElem_cons_succ, List.getElem_cons_zero]
                rw [if_pos (by rfl)]
                go_wp2_with fail
                clear hmm
                replace b := below_then b bs
                replace hRr := hRr.below bs
                replace hKb := hKb.below bs
                refine hK.out _ _ (HS.out _ b) (fun hH => ?_)
                clear hK
                refine wpAnyH_take (i := 6) (v := .agg #[.slice ta tl tc, .slice na nl nc, .slice (some ⟨rb, 0, none⟩) N N, .map (some mb)]) rfl (by kernel_rfl) (by kernel_rfl) (by kernel_rfl) (fun _ _ _ h => h) (.inl ⟨by rfl, fun w' hS' => by first | (go_simp; done) | (go_simp; rfl) | (go_simp; intro h; omega) | (go_simp; omega)⟩) hH ?_
                simp only [List.getElem_toArray, List.getElem_cons_succ, List.getElem_cons_zero, Act.put, List.setIfInBounds_toArray, List.set_cons_zero, List.set_cons_succ]
                obtain ⟨hb4, hfz⟩ := hKb.cells
                obtain ⟨_, k0, k1, k2, k3⟩ := hb4
                have z0 := hfz 0
                have z1 := hfz 1
                have z2 := hfz 2
                have z3 := hfz 3
                obtain ⟨W2, HW2⟩ : ∃ W2, Hid ((((u3.setCell ⟨S, 0, none⟩ (.slice ta tl tc)).setCell ⟨S, 1, none⟩ (.slice na nl nc)).setCell ⟨S, 2, none⟩ (.slice (some ⟨rb, 0, none⟩) N N)).setCell ⟨S, 3, none⟩ (.map (some mb)) = W2) := ⟨_, rfl⟩
                obtain ⟨t1, t2, t3, t4⟩ := boxK_store hKb _ _ _ _ HW2.out
                have HF : Hid (S ≠ mb ∧ w7.heap.size ≤ S ∧ w7.heap.size ≤ mb ∧ ¬ (lo ≤ S ∧ S < hi) ∧ ¬ (lo ≤ mb ∧ mb < hi)) := by
                  have qq : w7.heap.size ≤ u0.heap.size := b0.size
                  have p0 := Hmbz.out
                  have p1 := HSz.out
                  have p2 := Q0.out
                  have p3 := Q1.out
                  have p4 := Q2.out
                  have p5 := Hlo.out
                  have p6 := Hhi.out
                  show _ ∧ _
                  omega
                have bw := t4 _ _ b HF.out.2.1
                have hMp2 := hMp.block (t3 mb (fun e => HF.out.1 e.symm))
                have hRr2 : RowsOn (fun k => ¬ k = mb) (.slice (some ⟨rb, 0, none⟩) N N) N (fromL s.arcs) W2 := (hRr.fill t2 t3 HF.out.2.2.2.1).weaken fun j hj q e => HF.out.2.2.2.2 (e ▸ q)
                refine wpAnyH_ready (rs := [8]) (by kernel_rfl) (by simp) ?_
                refine AllReadyH.cons rfl (fun K hK => ?_) AllReadyH.nil
                simp only [List.getElem_toArray, List.getElem_cons_succ, List.getElem_cons_zero]
                rw [if_pos (by rfl)]
                go_wp2_with fail
                rw [HW2.out]
                refine hK.out _ _ (HS.out _ bw) (fun hH => ?_)
                refine wpAnyH_done (by kernel_rfl) ?_ _
                go_wp2_with fail
                go_meet
                exact ⟨S, mb, rb, rfl, t1, hMp2, HF.out.1, HF.out.2.2.1, HF.out.2.1, hRr2, bw⟩
            · simp only [List.getElem_toArray, List.getElem_cons_succ, List.getElem_cons_zero]
              rw [if_pos (by rfl)]
              have hmm := run_makeMap (P := Tryd.prog) 52 u0
              have bs := below_new u0 (.map #[] 0)
              have hMp : MapA 56 spotLit okS (u0.alloc (.map #[] 0)) u0.heap.size 0 (fun _ => none) := mapA_made u0
              have q0 : (u0.alloc (.map #[] 0)).heap.size = u0.heap.size + 1 := by simp
              obtain ⟨mb, Hz0⟩ : ∃ z, Hid (u0.heap.size = z) := ⟨_, rfl⟩
              have Hmbz : Hid (u0.heap.size = mb) := Hz0.out
              obtain ⟨u1, Hn0⟩ : ∃ z, Hid (u0.alloc (.map #[] 0) = z) := ⟨_, rfl⟩
              rw [Hn0.out] at bs hMp q0 hmm
              rw [Hz0.out] at hMp hmm
              have Q0 : Hid (u1.heap.size = u0.heap.size + 1) := q0
              clear q0
              go_wp2_with fail
              clear hmm
              replace b := below_then b bs
              skip
              refine hK.out _ _ (HS.out _ b) (fun hH => ?_)
              clear hK
              refine wpAnyH_ready (rs := [4, 7]) (by kernel_rfl) (by simp) ?_
              refine (AllReadyH.cons rfl (fun K hK => ?_) (AllReadyH.cons rfl (fun K hK => ?_) AllReadyH.nil))
              · simp only [List.getElem_toArray, List.getElem_cons_succ, List.getElem_cons_zero]
                rw [if_pos (by rfl)]
                go_wp2_with fail
                refine (leaving_any (w := u1) (hSp7.below b) Hsm.out (fun a ha => (Harcs.out a ha).1)).mono ?_
                rintro e u2 ⟨r, rfl, hRr, bs⟩
                rw [HN.out] at hRr
                obtain ⟨rb, hrb⟩ : ∃ rb, r = .slice (some ⟨rb, 0, none⟩) N N := by obtain ⟨rb, _, e, _⟩ := hRr; exact ⟨rb, e⟩
                subst hrb
                have Q1 : Hid (u1.heap.size ≤ u2.heap.size) := bs.size
                obtain ⟨lo, Hlo⟩ : ∃ z, Hid (u1.heap.size = z) := ⟨_, rfl⟩
                obtain ⟨hi, Hhi⟩ : ∃ z, Hid (u2.heap.size = z) := ⟨_, rfl⟩
                rw [Hlo.out, Hhi.out] at hRr
                replace b := below_then b bs
                replace hMp := hMp.below bs
                refine hK.out _ _ (HS.out _ b) (fun hH => ?_)
                clear hK
                refine wpAnyH_take (i := 6) (v := .agg #[.slice ta tl tc, .slice na nl nc, .slice (some ⟨rb, 0, none⟩) N N, .map (some mb)]) rfl (by kernel_rfl) (by kernel_rfl) (by kernel_rfl) (fun _ _ _ h => h) (.inl ⟨by rfl, fun w' hS' => by first | (go_simp; done) | (go_simp; rfl) | (go_simp; intro h; omega) | (go_simp; omega)⟩) hH ?_
                simp only [List.getElem_toArray, List.getElem_cons_succ, List.getElem_cons_zero, Act.put, List.setIfInBounds_toArray, List.set_cons_zero, List.set_cons_succ]
                have bs := below_new u2 (.cells #[.slice none 0 0, .slice none 0 0, .slice none 0 0, .map none] 54)
                have hKb := boxK_new u2
                have q2 : (u2.alloc (.cells #[.slice none 0 0, .slice none 0 0, .slice none 0 0, .map none] 54)).heap.size = u2.heap.size + 1 := by simp
                obtain ⟨S, Hz2⟩ : ∃ z, Hid (u2.heap.size = z) := ⟨_, rfl⟩
                have HSz : Hid (u2.heap.size = S) := Hz2.out
                obtain ⟨u3, Hn2⟩ : ∃ z, Hid (u2.alloc (.cells #[.slice none 0 0, .slice none 0 0, .slice none 0 0, .map none] 54) = z) := ⟨_, rfl⟩
                rw [Hn2.out] at bs hKb q2
                rw [Hz2.out] at hKb
                have Q2 : Hid (u3.heap.size = u2.heap.size + 1) := q2
                clear q2
                refine wpAnyH_ready (rs := [7]) (by kernel_rfl) (by simp) ?_
                refine AllReadyH.cons rfl (fun K hK => ?_) AllReadyH.nil
                simp only [List.getElem_toArray, List.getElem_cons_succ, List.getElem_cons_zero]
                rw [if_pos (by rfl)]
                go_wp2_with fail
                rw [Hn2.out, Hz2.out]
                replace b := below_then b bs
                replace hMp := hMp.below bs
                replace hRr := hRr.below bs
                refine hK.out _ _ (HS.out _ b) (fun hH => ?_)
                clear hK
                obtain ⟨hb4, hfz⟩ := hKb.cells
                obtain ⟨_, k0, k1, k2, k3⟩ := hb4
                have z0 := hfz 0
                have z1 := hfz 1
                have z2 := hfz 2
                have z3 := hfz 3
                obtain ⟨W2, HW2⟩ : ∃ W2, Hid ((((u3.setCell ⟨S, 0, none⟩ (.slice ta tl tc)).setCell ⟨S, 1, none⟩ (.slice na nl nc)).setCell ⟨S, 2, none⟩ (.slice (some ⟨rb, 0, none⟩) N N)).setCell ⟨S, 3, none⟩ (.map (some mb)) = W2) := ⟨_, rfl⟩
                obtain ⟨t1, t2, t3, t4⟩ := boxK_store hKb _ _ _ _ HW2.out
                have HF : Hid (S ≠ mb ∧ w7.heap.size ≤ S ∧ w7.heap.size ≤ mb ∧ ¬ (lo ≤ S ∧ S < hi) ∧ ¬ (lo ≤ mb ∧ mb < hi)) := by
                  have qq : w7.heap.size ≤ u0.heap.size := b0.size
                  have p0 := Hmbz.out
                  have p1 := HSz.out
                  have p2 := Q0.out
                  have p3 := Q1.out
                  have p4 := Q2.out
                  have p5 := Hlo.out
                  have p6 := Hhi.out
                  show _ ∧ _
                  omega
                have bw := t4 _ _ b HF.out.2.1
                have hMp2 := hMp.block (t3 mb (fun e => HF.out.1 e.symm))
                have hRr2 : RowsOn (fun k => ¬ k = mb) (.slice (some ⟨rb, 0, none⟩) N N) N (fromL s.arcs) W2 := (hRr.fill t2 t3 HF.out.2.2.2.1).weaken fun j hj q e => HF.out.2.2.2.2 (e ▸ q)
                refine wpAnyH_ready (rs := [8]) (by kernel_rfl) (by simp) ?_
                refine AllReadyH.cons rfl (fun K hK => ?_) AllReadyH.nil
                simp only [List.getElem_toArray, List.getElem_cons_succ, List.getElem_cons_zero]
                rw [if_pos (by rfl)]
                go_wp2_with fail
                rw [HW2.out]
                refine hK.out _ _ (HS.out _ bw) (fun hH => ?_)
                refine wpAnyH_done (by kernel_rfl) ?_ _
                go_wp2_with fail
                go_meet
                exact ⟨S, mb, rb, rfl, t1, hMp2, HF.out.1, HF.out.2.2.1, HF.out.2.1, hRr2, bw⟩
              · simp only [List.getElem_toArray, List.getElem_cons_succ, List.getElem_cons_zero]
                rw [if_pos (by rfl)]
                have bs := below_new u1 (.cells #[.slice none 0 0, .slice none 0 0, .slice none 0 0, .map none] 54)
                have hKb := boxK_new u1
                have q1 : (u1.alloc (.cells #[.slice none 0 0, .slice none 0 0, .slice none 0 0, .map none] 54)).heap.size = u1.heap.size + 1 := by simp
                obtain ⟨S, Hz1⟩ : ∃ z, Hid (u1.heap.size = z) := ⟨_, rfl⟩
                have HSz : Hid (u1.heap.size = S) := Hz1.out
                obtain ⟨u2, Hn1⟩ : ∃ z, Hid (u1.alloc (.cells #[.slice none 0 0, .slice none 0 0, .slice none 0 0, .map none] 54) = z) := ⟨_, rfl⟩
                rw [Hn1.out] at bs hKb q1
                rw [Hz1.out] at hKb
                have Q1 : Hid (u2.heap.size = u1.heap.size + 1) := q1
                clear q1
                go_wp2_with fail
                rw [Hn1.out, Hz1.out]
                replace b := below_then b bs
                replace hMp := hMp.below bs
                refine hK.out _ _ (HS.out _ b) (fun hH => ?_)
                clear hK
                refine wpAnyH_ready (rs := [4]) (by kernel_rfl) (by simp) ?_
                refine AllReadyH.cons rfl (fun K hK => ?_) AllReadyH.nil
                simp only [List.getElem_toArray, List.getElem_cons_succ, List.getElem_cons_zero]
                rw [if_pos (by rfl)]
                go_wp2_with fail
                refine (leaving_any (w := u2) (hSp7.below b) Hsm.out (fun a ha => (Harcs.out a ha).1)).mono ?_
                rintro e u3 ⟨r, rfl, hRr, bs⟩
                rw [HN.out] at hRr
                obtain ⟨rb, hrb⟩ : ∃ rb, r = .slice (some ⟨rb, 0, none⟩) N N := by obtain ⟨rb, _, e, _⟩ := hRr; exact ⟨rb, e⟩
                subst hrb
                have Q2 : Hid (u2.heap.size ≤ u3.heap.size) := bs.size
                obtain ⟨lo, Hlo⟩ : ∃ z, Hid (u2.heap.size = z) := ⟨_, rfl⟩
                obtain ⟨hi, Hhi⟩ : ∃ z, Hid (u3.heap.size = z) := ⟨_, rfl⟩
                rw [Hlo.out, Hhi.out] at hRr
                replace b := below_then b bs
                replace hMp := hMp.below bs
                replace hKb := hKb.below bs
                refine hK.out _ _ (HS.out _ b) (fun hH => ?_)
                clear hK
                refine wpAnyH_take (i := 6) (v := .agg #[.slice ta tl tc, .slice na nl nc, .slice (some ⟨rb, 0, none⟩) N N, .map (some mb)]) rfl (by kernel_rfl) (by kernel_rfl) (by kernel_rfl) (fun _ _ _ h => h) (.inl ⟨by rfl, fun w' hS' => by first | (go_simp; done) | (go_simp; rfl) | (go_simp; intro h; omega) | (go_simp; omega)⟩) hH ?_
                simp only [List.getElem_toArray, List.getElem_cons_succ, List.getElem_cons_zero, Act.put, List.setIfInBounds_toArray, List.set_cons_zero, List.set_cons_succ]
                obtain ⟨hb4, hfz⟩ := hKb.cells
                obtain ⟨_, k0, k1, k2, k3⟩ := hb4
                have z0 := hfz 0
                have z1 := hfz 1
                have z2 := hfz 2
                have z3 := hfz 3
                obtain ⟨W2, HW2⟩ : ∃ W2, Hid ((((u3.setCell ⟨S, 0, none⟩ (.slice ta tl tc)).setCell ⟨S, 1, none⟩ (.slice na nl nc)).setCell ⟨S, 2, none⟩ (.slice (some ⟨rb, 0, none⟩) N N)).setCell ⟨S, 3, none⟩ (.map (some mb)) = W2) := ⟨_, rfl⟩
                obtain ⟨t1, t2, t3, t4⟩ := boxK_store hKb _ _ _ _ HW2.out
                have HF : Hid (S ≠ mb ∧ w7.heap.size ≤ S ∧ w7.heap.size ≤ mb ∧ ¬ (lo ≤ S ∧ S < hi) ∧ ¬ (lo ≤ mb ∧ mb < hi)) := by
                  have qq : w7.heap.size ≤ u0.heap.size := b0.size
                  have p0 := Hmbz.out
                  have p1 := HSz.out
                  have p2 := Q0.out
                  have p3 := Q1.out
                  have p4 := Q2.out
                  have p5 := Hlo.out
                  have p6 := Hhi.out
                  show _ ∧ _
                  omega
                have bw := t4 _ _ b HF.out.2.1
                have hMp2 := hMp.block (t3 mb (fun e => HF.out.1 e.symm))
                have hRr2 : RowsOn (fun k => ¬ k = mb) (.slice (some ⟨rb, 0, none⟩) N N) N (fromL s.arcs) W2 := (hRr.fill t2 t3 HF.out.2.2.2.1).weaken fun j hj q e => HF.out.2.2.2.2 (e ▸ q)
                refine wpAnyH_ready (rs := [8]) (by kernel_rfl) (by simp) ?_
                refine AllReadyH.cons rfl (fun K hK => ?_) AllReadyH.nil
                simp only [List.getElem_toArray, List.getElem_cons_succ, List.getElem_cons_zero]
                rw [if_pos (by rfl)]
                go_wp2_with fail
                rw [HW2.out]
                refine hK.out _ _ (HS.out _ bw) (fun hH => ?_)
                refine wpAnyH_done (by kernel_rfl) ?_ _
                go_wp2_with fail
                go_meet
                exact ⟨S, mb, rb, rfl, t1, hMp2, HF.out.1, HF.out.2.2.1, HF.out.2.1, hRr2, bw⟩
            · simp only [List.getElem_toArray, List.getElem_cons_succ, List.getElem_cons_zero]
              rw [if_pos (by rfl)]
              have bs := below_new u0 (.cells #[.slice none 0 0, .slice none 0 0, .slice none 0 0, .map none] 54)
              have hKb := boxK_new u0
              have q0 : (u0.alloc (.cells #[.slice none 0 0, .slice none 0 0, .slice none 0 0, .map none] 54)).heap.size = u0.heap.size + 1 := by simp
              obtain ⟨S, Hz0⟩ : ∃ z, Hid (u0.heap.size = z) := ⟨_, rfl⟩
              have HSz : Hid (u0.heap.size = S) := Hz0.out
              obtain ⟨u1, Hn0⟩ : ∃ z, Hid (u0.alloc (.cells #[.slice none 0 0, .slice none 0 0, .slice none 0 0, .map none] 54) = z) := ⟨_, rfl⟩
              rw [Hn0.out] at bs hKb q0
              rw [Hz0.out] at hKb
              have Q0 : Hid (u1.heap.size = u0.heap.size + 1) := q0
              clear q0
              go_wp2_with fail
              rw [Hn0.out, Hz0.out]
              replace b := below_then b bs
              skip
              refine hK.out _ _ (HS.out _ b) (fun hH => ?_)
              clear hK
              refine wpAnyH_ready (rs := [4, 5]) (by kernel_rfl) (by simp) ?_
              refine (AllReadyH.cons rfl (fun K hK => ?_) (AllReadyH.cons rfl (fun K hK => ?_) AllReadyH.nil))
              · simp only [List.getElem_toArray, List.getElem_cons_succ, List.getElem_cons_zero]
                rw [if_pos (by rfl)]
                go_wp2_with fail
                refine (leaving_any (w := u1) (hSp7.below b) Hsm.out (fun a ha => (Harcs.out a ha).1)).mono ?_
                rintro e u2 ⟨r, rfl, hRr, bs⟩
                rw [HN.out] at hRr
                obtain ⟨rb, hrb⟩ : ∃ rb, r = .slice (some ⟨rb, 0, none⟩) N N := by obtain ⟨rb, _, e, _⟩ := hRr; exact ⟨rb, e⟩
                subst hrb
                have Q1 : Hid (u1.heap.size ≤ u2.heap.size) := bs.size
                obtain ⟨lo, Hlo⟩ : ∃ z, Hid (u1.heap.size = z) := ⟨_, rfl⟩
                obtain ⟨hi, Hhi⟩ : ∃ z, Hid (u2.heap.size = z) := ⟨_, rfl⟩
                rw [Hlo.out, Hhi.out] at hRr
                replace b := below_then b bs
                replace hKb := hKb.below bs
                refine hK.out _ _ (HS.out _ b) (fun hH => ?_)
                clear hK
                have hmm := run_makeMap (P := Tryd.prog) 52 u2
                have bs := below_new u2 (.map #[] 0)
                have hMp : MapA 56 spotLit okS (u2.alloc (.map #[] 0)) u2.heap.size 0 (fun _ => none) := mapA_made u2
                have q2 : (u2.alloc (.map #[] 0)).heap.size = u2.heap.size + 1 := by simp
                obtain ⟨mb, Hz2⟩ : ∃ z, Hid (u2.heap.size = z) := ⟨_, rfl⟩
                have Hmbz : Hid (u2.heap.size = mb) := Hz2.out
                obtain ⟨u3, Hn2⟩ : ∃ z, Hid (u2.alloc (.map #[] 0) = z) := ⟨_, rfl⟩
                rw [Hn2.out] at bs hMp q2 hmm
                rw [Hz2.out] at hMp hmm
                have Q2 : Hid (u3.heap.size = u2.heap.size + 1) := q2
                clear q2
                refine wpAnyH_ready (rs := [5]) (by kernel_rfl) (by simp) ?_
                refine AllReadyH.cons rfl (fun K hK => ?_) AllReadyH.nil
                simp only [List.getElem_toArray, List.getElem_cons_succ, List.getElem_cons_zero]
                rw [if_pos (by rfl)]
                go_wp2_with fail
                clear hmm
                replace b := below_then b bs
                replace hKb := hKb.below bs
                replace hRr := hRr.below bs
                refine hK.out _ _ (HS.out _ b) (fun hH => ?_)
                clear hK
                refine wpAnyH_take (i := 6) (v := .agg #[.slice ta tl tc, .slice na nl nc, .slice (some ⟨rb, 0, none⟩) N N, .map (some mb)]) rfl (by kernel_rfl) (by kernel_rfl) (by kernel_rfl) (fun _ _ _ h => h) (.inl ⟨by rfl, fun w' hS' => by first | (go_simp; done) | (go_simp; rfl) | (go_simp; intro h; omega) | (go_simp; omega)⟩) hH ?_
                simp only [List.getElem_toArray, List.getElem_cons_succ, List.getElem_cons_zero, Act.put, List.setIfInBounds_toArray, List.set_cons_zero, List.set_cons_succ]
                obtain ⟨hb4, hfz⟩ := hKb.cells
                obtain ⟨_, k0, k1, k2, k3⟩ := hb4
                have z0 := hfz 0
                have z1 := hfz 1
                have z2 := hfz 2
                have z3 := hfz 3
                obtain ⟨W2, HW2⟩ : ∃ W2, Hid ((((u3.setCell ⟨S, 0, none⟩ (.slice ta tl tc)).setCell ⟨S, 1, none⟩ (.slice na nl nc)).setCell ⟨S, 2, none⟩ (.slice (some ⟨rb, 0, none⟩) N N)).setCell ⟨S, 3, none⟩ (.map (some mb)) = W2) := ⟨_, rfl⟩
                obtain ⟨t1, t2, t3, t4⟩ := boxK_store hKb _ _ _ _ HW2.out
                have HF : Hid (S ≠ mb ∧ w7.heap.size ≤ S ∧ w7.heap.size ≤ mb ∧ ¬ (lo ≤ S ∧ S < hi) ∧ ¬ (lo ≤ mb ∧ mb < hi)) := by
                  have qq : w7.heap.size ≤ u0.heap.size := b0.size
                  have p0 := Hmbz.out
                  have p1 := HSz.out
                  have p2 := Q0.out
                  have p3 := Q1.out
                  have p4 := Q2.out
                  have p5 := Hlo.out
                  have p6 := Hhi.out
                  show _ ∧ _
                  omega
                have bw := t4 _ _ b HF.out.2.1
                have hMp2 := hMp.block (t3 mb (fun e => HF.out.1 e.symm))
                have hRr2 : RowsOn (fun k => ¬ k = mb) (.slice (some ⟨rb, 0, none⟩) N N) N (fromL s.arcs) W2 := (hRr.fill t2 t3 HF.out.2.2.2.1).weaken fun j hj q e => HF.out.2.2.2.2 (e ▸ q)
                refine wpAnyH_ready (rs := [8]) (by kernel_rfl) (by simp) ?_
                refine AllReadyH.cons rfl (fun K hK => ?_) AllReadyH.nil
                simp only [List.getElem_toArray, List.getElem_cons_succ, List.getElem_cons_zero]
                rw [if_pos (by rfl)]
                go_wp2_with fail
                rw [HW2.out]
                refine hK.out _ _ (HS.out _ bw) (fun hH => ?_)
                refine wpAnyH_done (by kernel_rfl) ?_ _
                go_wp2_with fail
                go_meet
                exact ⟨S, mb, rb, rfl, t1, hMp2, HF.out.1, HF.out.2.2.1, HF.out.2.1, hRr2, bw⟩
              · simp only [List.getElem_toArray, List.getElem_cons_succ, List.getElem_cons_zero]
                rw [if_pos (by rfl)]
                have hmm := run_makeMap (P := Tryd.prog) 52 u1
                have bs := below_new u1 (.map #[] 0)
                have hMp : MapA 56 spotLit okS (u1.alloc (.map #[] 0)) u1.heap.size 0 (fun _ => none) := mapA_made u1
                have q1 : (u1.alloc (.map #[] 0)).heap.size = u1.heap.size + 1 := by simp
                obtain ⟨mb, Hz1⟩ : ∃ z, Hid (u1.heap.size = z) := ⟨_, rfl⟩
                have Hmbz : Hid (u1.heap.size = mb) := Hz1.out
                obtain ⟨u2, Hn1⟩ : ∃ z, Hid (u1.alloc (.map #[] 0) = z) := ⟨_, rfl⟩
                rw [Hn1.out] at bs hMp q1 hmm
                rw [Hz1.out] at hMp hmm
                have Q1 : Hid (u2.heap.size = u1.heap.size + 1) := q1
                clear q1
                go_wp2_with fail
                clear hmm
                replace b := below_then b bs
                replace hKb := hKb.below bs
                refine hK.out _ _ (HS.out _ b) (fun hH => ?_)
                clear hK
                refine wpAnyH_ready (rs := [4]) (by kernel_rfl) (by simp) ?_
                refine AllReadyH.cons rfl (fun K hK => ?_) AllReadyH.nil
                simp only [List.getElem_toArray, List.getElem_cons_succ, List.getElem_cons_zero]
                rw [if_pos (by rfl)]
                go_wp2_with fail
                refine (leaving_any (w := u2) (hSp7.below b) Hsm.out (fun a ha => (Harcs.out a ha).1)).mono ?_
                rintro e u3 ⟨r, rfl, hRr, bs⟩
                rw [HN.out] at hRr
                obtain ⟨rb, hrb⟩ : ∃ rb, r = .slice (some ⟨rb, 0, none⟩) N N := by obtain ⟨rb, _, e, _⟩ := hRr; exact ⟨rb, e⟩
                subst hrb
                have Q2 : Hid (u2.heap.size ≤ u3.heap.size) := bs.size
                obtain ⟨lo, Hlo⟩ : ∃ z, Hid (u2.heap.size = z) := ⟨_, rfl⟩
                obtain ⟨hi, Hhi⟩ : ∃ z, Hid (u3.heap.size = z) := ⟨_, rfl⟩
                rw [Hlo.out, Hhi.out] at hRr
                replace b := below_then b bs
                replace hKb := hKb.below bs
                replace hMp := hMp.below bs
                refine hK.out _ _ (HS.out _ b) (fun hH => ?_)
                clear hK
                refine wpAnyH_take (i := 6) (v := .agg #[.slice ta tl tc, .slice na nl nc, .slice (some ⟨rb, 0, none⟩) N N, .map (some mb)]) rfl (by kernel_rfl) (by kernel_rfl) (by kernel_rfl) (fun _ _ _ h => h) (.inl ⟨by rfl, fun w' hS' => by first | (go_simp; done) | (go_simp; rfl) | (go_simp; intro h; omega) | (go_simp; omega)⟩) hH ?_
                simp only [List.getElem_toArray, List.getElem_cons_succ, List.getElem_cons_zero, Act.put, List.setIfInBounds_toArray, List.set_cons_zero, List.set_cons_succ]
                obtain ⟨hb4, hfz⟩ := hKb.cells
                obtain ⟨_, k0, k1, k2, k3⟩ := hb4
                have z0 := hfz 0
                have z1 := hfz 1
                have z2 := hfz 2
                have z3 := hfz 3
                obtain ⟨W2, HW2⟩ : ∃ W2, Hid ((((u3.setCell ⟨S, 0, none⟩ (.slice ta tl tc)).setCell ⟨S, 1, none⟩ (.slice na nl nc)).setCell ⟨S, 2, none⟩ (.slice (some ⟨rb, 0, none⟩) N N)).setCell ⟨S, 3, none⟩ (.map (some mb)) = W2) := ⟨_, rfl⟩
                obtain ⟨t1, t2, t3, t4⟩ := boxK_store hKb _ _ _ _ HW2.out
                have HF : Hid (S ≠ mb ∧ w7.heap.size ≤ S ∧ w7.heap.size ≤ mb ∧ ¬ (lo ≤ S ∧ S < hi) ∧ ¬ (lo ≤ mb ∧ mb < hi)) := by
                  have qq : w7.heap.size ≤ u0.heap.size := b0.size
                  have p0 := Hmbz.out
                  have p1 := HSz.out
                  have p2 := Q0.out
                  have p3 := Q1.out
                  have p4 := Q2.out
                  have p5 := Hlo.out
                  have p6 := Hhi.out
                  show _ ∧ _
                  omega
                have bw := t4 _ _ b HF.out.2.1
                have hMp2 := hMp.block (t3 mb (fun e => HF.out.1 e.symm))
                have hRr2 : RowsOn (fun k => ¬ k = mb) (.slice (some ⟨rb, 0, none⟩) N N) N (fromL s.arcs) W2 := (hRr.fill t2 t3 HF.out.2.2.2.1).weaken fun j hj q e => HF.out.2.2.2.2 (e ▸ q)
                refine wpAnyH_ready (rs := [8]) (by kernel_rfl) (by simp) ?_
                refine AllReadyH.cons rfl (fun K hK => ?_) AllReadyH.nil
                simp only [List.getElem_toArray, List.getElem_cons_succ, List.getElem_cons_zero]
                rw [if_pos (by rfl)]
                go_wp2_with fail
                rw [HW2.out]
                refine hK.out _ _ (HS.out _ bw) (fun hH => ?_)
                refine wpAnyH_done (by kernel_rfl) ?_ _
                go_wp2_with fail
                go_meet
                exact ⟨S, mb, rb, rfl, t1, hMp2, HF.out.1, HF.out.2.2.1, HF.out.2.1, hRr2, bw⟩
          case rest =>
            obtain ⟨S, mb, rb, rfl, hK, hM, hne, hmb, hSl, hRows, bc⟩ := hcut
            obtain ⟨w8, rfl⟩ : ∃ z, z = wc := ⟨_, rfl⟩
            have htr : tr.length ≤ 60 := by rw [Htl.out]; omega
            have hread : ReadA (fun k => k = mb) w8 (.slice ta tl tc) (.slice na nl nc) (.slice (some ⟨rb, 0, none⟩) N N) tr n.trans N (fromL s.arcs) := by
              refine ⟨fun w' hs hk => ?_, fun w' hs hk => ?_, hRows⟩
              · refine hu7.stays (Nat.le_trans bc.size hs) fun j hj => ?_
                rw [hk j (Nat.lt_of_lt_of_le hj bc.size) (by omega), bc.block j hj]
              · have hn7 : Net w7 (.agg #[.int .i64 n.places, .slice na nl nc]) n := ⟨_, rfl, hT7⟩
                have := hn7.stays (w' := w') (Nat.le_trans bc.size hs) fun j hj => by rw [hk j (Nat.lt_of_lt_of_le hj bc.size) (by omega), bc.block j hj]
                obtain ⟨tv', e, h⟩ := this
                injection e with e
                injection e with e
                simp at e
                rw [e]; exact h
            have hx9 := box2_new w8 (.int .i64 (k : Int)) (.int .i64 (tl : Int)) 56
            have b9 := below_new w8 (.cells #[.int .i64 (k : Int), .int .i64 (tl : Int)] 56)
            have hGm : w8.heap.size ≠ mb := by have := hM.lt; omega
            obtain ⟨w9, H9⟩ : ∃ z, Hid (w8.alloc (.cells #[.int .i64 (k : Int), .int .i64 (tl : Int)] 56) = z) := ⟨_, rfl⟩
            rw [H9.out] at hx9 b9
            obtain ⟨GB, HGB⟩ : ∃ z, Hid (w8.heap.size = z) := ⟨_, rfl⟩
            rw [HGB.out] at hx9 hGm
            have hS9 := (hK.below b9).cells.1
            have hok : okS (k, tl) := ⟨by show k ≤ _; omega, by show tl ≤ _; omega⟩
            have hFi := find_any (B := w7.heap.size) (goal := (k, tl)) (A := s.arcs) (hM.below b9) hS9 hne (hread.below b9) hmb (fun i hi => rfl) (fun a ha => by have := Harcs.out a ha; rw [HN.out] at this; exact ⟨this.2.1, this.2.2⟩) htr hN3 (by omega) hok
            have HCW9 : Hid (Below w.heap.size w w9) := below_then (below_then HCW.out bc) b9
            have HNm : Hid (w7.heap.size ≤ mb) := hmb
            have HN7 : Hid (w.heap.size ≤ w7.heap.size) := HCW.out.size
            obtain ⟨_, g1, g2⟩ := id hx9
            simp only at hFi
            clear hbs7 hSp7 hbx7 hM hK hread hRows bc b9 hu7 hT7
            go_upto_region 15 with fail
            rw [H9.out, HGB.out]
            go_upto_region 16 with (go_at_call 17; refine hFi.mono ?_; rintro e w10 ⟨n', c', st, rfl, hM10, hK10, hI, hfound⟩)
            clear g1 g2 hFi
            have hx10 := (hK10.box2A hx9 hGm).1
            have hS10 := (hK10.box4A hS9 hne).1
            obtain ⟨sg, hsg⟩ : ∃ sg, st.by_ (k, tl) = some sg := by
              rcases hfound with h | h
              · exact Option.isSome_iff_exists.1 h
              · obtain ⟨ms, hl⟩ := reach_lay HW.out tr hkl
                obtain ⟨s0, h0, _⟩ := hI.base
                have := hI.all h h0 hl
                rw [Htl.out] at this
                exact this
            have HCh : Hid (Cheap s.arcs (lbT n.trans) tr (0, 0) (k, tl) sg.cost) := hI.cheap hsg
            have HK10 : Hid (KeepsA w9 (fun k => k = mb) w10 (fun k => k = mb)) := hK10
            have HB10 : Hid (Below w.heap.size w w10) := by
              have q0 := HCW9.out; have q1 := HN7.out; have q2 := HNm.out
              exact ⟨hK10.same.1.trans q0.os, hK10.same.2.1.trans q0.tape, hK10.same.2.2.trans q0.output, Nat.le_trans q0.size hK10.size, fun j hj => ((hK10.block j (Nat.lt_of_lt_of_le hj q0.size) (by omega)).1).trans (q0.block j hj)⟩
            have hmc := hM10.lt
            clear hfound hK10 hx9 hS9
            obtain ⟨⟨f1, f2⟩, ⟨mk, ml, mt⟩, sc⟩ := sg
            simp only at HCh
            have HLO : Hid (lbT n.trans = labT n) := rfl
            have HLK : Hid (∀ w' : World, MapA 56 spotLit okS w' mb n' (mapV st.by_) → (Instr.lookup 52 (.map (some mb)) (.agg #[.int .i64 (k : Int), .int .i64 (tl : Int)]) false).run Tryd.prog w' = .ok (.agg #[.int .i64 (f1 : Int), .int .i64 (f2 : Int), .int .i64 mk, .int .i64 ml, .int .i64 mt, .int .i64 (sc : Int)]) w') := fun w' hm => by
              have := hm.look spot_key Tryd.underlying52 (e := 62) (z := stepZ) (by kernel_rfl) hok
              unfold mapV at this
              rw [hsg] at this
              exact this
            have HS : Hid (∀ w', Below w10.heap.size w10 w' →  w'.cell? ⟨S, 3, none⟩ = some (.map (some mb)) ∧ w'.cell? ⟨GB, 0, none⟩ = some (.int .i64 (k : Int)) ∧ w'.cell? ⟨GB, 1, none⟩ = some (.int .i64 (tl : Int)) ∧ MapA 56 spotLit okS w' mb n' (mapV st.by_)) := fun w' hb => by
              obtain ⟨_, q0, q1, q2, q3⟩ := hS10.below hb
              obtain ⟨_, q4, q5⟩ := hx10.below hb
              exact ⟨q3, q4, q5, hM10.below hb⟩
            refine wp_region_held_drew (S := (fun w' => w'.cell? ⟨S, 3, none⟩ = some (.map (some mb)) ∧ w'.cell? ⟨GB, 0, none⟩ = some (.int .i64 (k : Int)) ∧ w'.cell? ⟨GB, 1, none⟩ = some (.int .i64 (tl : Int)) ∧ MapA 56 spotLit okS w' mb n' (mapV st.by_))) (by kernel_rfl) (HS.out _ (Below.refl _ _).drew) (fun hH => ?_)
            have b : Below w10.heap.size w10 w10.drew := (Below.refl _ _).drew
            have hWay := wayto_any (hM10.below b) (hS10.below b) hI hsg htr hN3
            simp only at hWay
            obtain ⟨u0, Hv0⟩ : ∃ v0', Hid (w10.drew = v0') := ⟨_, rfl⟩
            rw [Hv0.out] at hH b hWay ⊢
            clear Hv0
            refine wpAnyH_take (i := 0) (v := .agg #[.int .i64 (k : Int), .int .i64 (tl : Int)]) rfl (by kernel_rfl) (by kernel_rfl) (by kernel_rfl) (fun _ _ _ h => h) (.inl ⟨by rfl, fun w' hS' => by obtain ⟨s0, s1, s2, hm⟩ := hS'; go_simp⟩) hH ?_
            simp only [List.getElem_toArray, List.getElem_cons_succ, List.getElem_cons_zero, Act.put, List.setIfInBounds_toArray, List.set_cons_zero, List.set_cons_succ]
            refine wpAnyH_take (i := 2) (v := .pointer (some ⟨S, 3, none⟩)) rfl (by kernel_rfl) (by kernel_rfl) (by kernel_rfl) (fun _ _ _ h => h) (.inl ⟨by rfl, fun w' hS' => by first | (go_simp; done) | (go_simp; rfl) | (go_simp; intro h; omega) | (go_simp; omega)⟩) hH ?_
            simp only [List.getElem_toArray, List.getElem_cons_succ, List.getElem_cons_zero, Act.put, List.setIfInBounds_toArray, List.set_cons_zero, List.set_cons_succ]
            refine wpAnyH_take (i := 3) (v := .map (some mb)) rfl (by kernel_rfl) (by kernel_rfl) (by kernel_rfl) (fun _ _ _ h => h) (.inl ⟨by rfl, fun w' hS' => by obtain ⟨s0, s1, s2, hm⟩ := hS'; go_simp⟩) hH ?_
            simp only [List.getElem_toArray, List.getElem_cons_succ, List.getElem_cons_zero, Act.put, List.setIfInBounds_toArray, List.set_cons_zero, List.set_cons_succ]
            refine wpAnyH_take (i := 4) (v := .agg #[.int .i64 (k : Int), .int .i64 (tl : Int)]) rfl (by kernel_rfl) (by kernel_rfl) (by kernel_rfl) (fun _ _ _ h => h) (.inl ⟨by rfl, fun w' hS' => by obtain ⟨s0, s1, s2, hm⟩ := hS'; go_simp⟩) hH ?_
            simp only [List.getElem_toArray, List.getElem_cons_succ, List.getElem_cons_zero, Act.put, List.setIfInBounds_toArray, List.set_cons_zero, List.set_cons_succ]
            refine wpAnyH_take (i := 5) (v := .agg #[.int .i64 (f1 : Int), .int .i64 (f2 : Int), .int .i64 mk, .int .i64 ml, .int .i64 mt, .int .i64 (sc : Int)]) rfl (by kernel_rfl) (by kernel_rfl) (by kernel_rfl) (fun _ _ _ h => h) (.inl ⟨by rfl, fun w' hS' => by obtain ⟨s0, s1, s2, hm⟩ := hS'; have hrun := HLK.out _ hm; go_simp⟩) hH ?_
            simp only [List.getElem_toArray, List.getElem_cons_succ, List.getElem_cons_zero, Act.put, List.setIfInBounds_toArray, List.set_cons_zero, List.set_cons_succ]
            refine wpAnyH_take (i := 6) (v := .int .i64 (sc : Int)) rfl (by kernel_rfl) (by kernel_rfl) (by kernel_rfl) (fun _ _ _ h => h) (.inl ⟨by rfl, fun w' hS' => by first | (go_simp; done) | (go_simp; rfl) | (go_simp; intro h; omega) | (go_simp; omega)⟩) hH ?_
            simp only [List.getElem_toArray, List.getElem_cons_succ, List.getElem_cons_zero, Act.put, List.setIfInBounds_toArray, List.set_cons_zero, List.set_cons_succ]
            refine wpAnyH_ready (rs := [1]) (by kernel_rfl) (by simp) ?_
            refine AllReadyH.cons rfl (fun K hK => ?_) AllReadyH.nil
            simp only [List.getElem_toArray, List.getElem_cons_succ, List.getElem_cons_zero]
            rw [if_pos (by rfl)]
            go_wp2_with fail
            refine hWay.mono ?_
            rintro e u1 ⟨r6, ms, rfl, hO6, hLay, hcost, hml⟩
            obtain ⟨a6, l6, c6, rfl⟩ := ownsRow_slice hO6.1
            have b1 : Below u0.heap.size u0 u1 := hO6.2.1
            replace b := below_then b b1
            have HB16 : Hid (Below w.heap.size w u1) := HB10.out.trans (b.mono HB10.out.size)
            refine hK.out _ _ (HS.out _ b) (fun hH => ?_)
            clear hK
            refine wpAnyH_take (i := 7) (v := .slice a6 l6 c6) rfl (by kernel_rfl) (by kernel_rfl) (by kernel_rfl) (fun _ _ _ h => h) (.inl ⟨by rfl, fun _ _ => rfl⟩) hH ?_
            simp only [List.getElem_toArray, List.getElem_cons_succ, List.getElem_cons_zero, Act.put, List.setIfInBounds_toArray, List.set_cons_zero, List.set_cons_succ]
            refine wpAnyH_take (i := 8) (v := .int .i64 (sc : Int)) rfl (by kernel_rfl) (by kernel_rfl) (by kernel_rfl) (fun _ _ _ h => h) (.inl ⟨by rfl, fun _ _ => rfl⟩) hH ?_
            simp only [List.getElem_toArray, List.getElem_cons_succ, List.getElem_cons_zero, Act.put, List.setIfInBounds_toArray, List.set_cons_zero, List.set_cons_succ]
            refine wpAnyH_take (i := 9) (v := .int .i64 0) rfl (by kernel_rfl) (by kernel_rfl) (by kernel_rfl) (fun _ _ _ h => h) (.inl ⟨by rfl, fun _ _ => rfl⟩) hH ?_
            simp only [List.getElem_toArray, List.getElem_cons_succ, List.getElem_cons_zero, Act.put, List.setIfInBounds_toArray, List.set_cons_zero, List.set_cons_succ]
            refine wpAnyH_done (by kernel_rfl) ?_ _
            have HEnd : Hid (AlignAns n i o tr ms (sc : Int) 0) := ⟨0, HTE.out, fun h => absurd rfl h, fun _ => .inr (.inr ⟨htr, rfl, k, by rw [HG.out]; exact hkl, by rw [HG.out]; exact HKE.out, by
              rw [HG.out, Htl.out]
              refine ⟨?_, by rw [hcost], ?_⟩
              · have := hLay; rw [HLO.out] at this; exact this
              · rw [hcost]; have := HCh.out; rw [HLO.out] at this; exact this⟩)⟩
            have HMv : Hid (MovesV u1 (.slice a6 l6 c6) ms) := hO6.cells (by omega) one_cellsM
            clear hO6 hLay hcost
            go_wp2_with fail
            go_ret3
            exact ⟨_, ms, _, _, rfl, HEnd.out, HMv.out, HB16.out⟩
    · have HTE : Hid (TongErr n i o dg) := .inr ⟨HS.out, by rw [HG.out]⟩
      have HEnd : Hid (AlignAns n i o tr [] 0 dg) := ⟨dg, HTE.out, fun _ => ⟨rfl, rfl, rfl⟩, fun h => absurd h hg0⟩
      clear hbs hSp hbx hv
      go_wp2
      go_ret3
      exact ⟨_, [], _, _, rfl, HEnd.out, moves_nil _, c⟩
  · have HTE : Hid (TongErr n i o d) := .inl ⟨hd0, hd⟩
    have HEnd : Hid (AlignAns n i o tr [] 0 d) := ⟨d, HTE.out, fun _ => ⟨rfl, rfl, rfl⟩, fun h => absurd h hd0⟩
    clear hd hbx hv
    go_wp2
    go_ret3
    exact ⟨_, [], _, _, rfl, HEnd.out, moves_nil _, c⟩

end Go.Proofs.YtakgppoeikcepaaDoor