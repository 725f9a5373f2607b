/- The law CoverAll, walked: it answers true, and writes nothing that was there. -/
import Derived.Test.YtbpkebkblkjdhaaAlive5b
import Derived.Test.YtbpkebkblkjdhaaKnotFun
namespace Go.Proofs.Ytbpkebkblkjdhaa
open Go.RowKit
set_option linter.unusedVariables false

theorem all1_any (w0 : World) (bx : Nat) (u : Value) (x : List Int) (hlt : bx < w0.heap.size) (hc : w0.cell? ⟨bx, 0, none⟩ = some u) (hu : Ints w0 u x) :
    AsksKQ w0 16 (.pointer (some ⟨bx, 0, none⟩)) (fun k => covL k.mark x) := by
  intro v k w hb hv
  have b1 := below_new w (.cells #[.int .i64 k.up, .int .i64 k.tran, v] 39)
  have hc' := ((below_then hb b1).cell (p := ⟨bx, 0, none⟩) hlt).trans hc
  have hu' := (hu.below hb).below b1
  have hv1 := hv.below b1
  obtain ⟨av, lv, cv, rfl, _, _, _, _⟩ := id hv1
  obtain ⟨au, lu, cu, rfl, _, _, _, _⟩ := id hu'
  have hne : bx ≠ w.heap.size := by have := Nat.lt_of_lt_of_le hlt hb.size; omega
  have hc0 := (hb.cell (p := ⟨bx, 0, none⟩) hlt).trans hc
  clear hc hu
  go_enter Try.func16, Try.ntmps16
  obtain ⟨wt, Hwt⟩ : ∃ wt, Hid (w.alloc (.cells #[.int .i64 k.up, .int .i64 k.tran, .slice av lv cv] 39) = wt) := ⟨_, rfl⟩
  have hbx3 := box3_new w (.int .i64 k.up) (.int .i64 k.tran) (.slice av lv cv) 39
  rw [Hwt.out] at b1 hc' hu' hv1 hbx3
  go_upto_region 1 with fail
  rw [Hwt.out]
  clear Hwt
  obtain ⟨z0, z1, z2, z3⟩ := hbx3
  go_wp2_with fail
  refine (covers_law _ _ k.mark x _ (by exact hv1) (by exact hu')).mono ?_
  rintro e w1 ⟨rfl, h⟩
  have b2 := below_then b1 (below_of_drewN h)
  clear h
  go_wp2
  go_ret
  exact ⟨rfl, b2⟩

set_option maxHeartbeats 2000000 in
theorem coverAll_walk (v u sv : Value) (n : NetL) (m : List Int) (most : Int) (seq : List Int) (w : World) (hv : Net w v n) (hu : Ints w u m) (hs : Ints w sv seq) :
    Calls Try.prog 4 #[v, u, .int .i64 most, sv] w fun e w' => e = .returned (.bool true) ∧ Below w.heap.size w w' := by
  obtain ⟨tv, rfl, hT⟩ := hv
  have c := below_new w (.cells #[.int .i64 n.places, tv] 24)
  have hbx := box2_new w (.int .i64 n.places) tv 24
  have hv : Net _ (.agg #[.int .i64 n.places, tv]) n := ⟨_, rfl, hT.below c⟩
  replace hu := hu.below c
  replace hs := hs.below c
  clear hT
  go_enter Try.func4, Try.ntmps4
  go_wp2_with fail
  refine (alive5_any _).mono ?_
  rintro e w1 ⟨rfl, b⟩
  replace hv := hv.below b
  replace hu := hu.below b
  replace hs := hs.below b
  replace hbx := hbx.below b
  replace c := below_then c b
  clear b
  obtain ⟨x0, x1, x2⟩ := id hbx
  go_wp2_with fail
  refine (cover_tree _ _ n m most _ (by exact hv) (by exact hu)).mono ?_
  rintro e w2 ⟨r, rfl, hr, b⟩
  replace hv := hv.below b
  replace hu := hu.below b
  replace hs := hs.below b
  replace hbx := hbx.below b
  replace c := below_then c b
  clear b x0 x1 x2
  obtain ⟨x0, x1, x2⟩ := id hbx
  go_wp2_with fail
  refine (net_run n seq _ _ _ m _ (by exact hv) (by exact hu) (by exact hs)).mono ?_
  rintro e w3 ⟨r3, rfl, hr3, b⟩
  replace hr := hr.below b
  replace c := below_then c b
  clear b x0 x1 x2 hbx hv hu hs
  have HT : Hid (∀ l x, treeL n m most = (l, 0) → runL n m seq = (x, 0) → l.any (fun k => covL k.mark x) = true) := fun l x h1 h2 => by
    obtain ⟨s, rfl, hs⟩ := treeL_ok h1
    obtain ⟨k, hk, hc⟩ := hs.covers h2
    rw [List.any_eq_true]
    exact ⟨(knotAt s k).knot, List.mem_map.2 ⟨knotAt s k, by rw [knotAt_get hk]; exact List.getElem_mem hk, rfl⟩, (covL_iff _ _).2 hc⟩
  have HE : Hid ((treeL n m most).2 ≠ 0 → (treeL n m most).1 = []) := treeL_err
  generalize treeL n m most = q at *
  generalize runL n m seq = q2 at *
  obtain ⟨l, cd⟩ := q
  obtain ⟨x, ce⟩ := q2
  simp only at hr hr3 HE ⊢
  obtain ⟨ak, ck, rfl, _, _⟩ := hr.slice
  obtain ⟨ar, lr, cr, rfl, _, _, _, _⟩ := id hr3
  have bx := below_new w3 (.cells #[.slice ar lr cr] 25)
  have hcx : (w3.alloc (.cells #[.slice ar lr cr] 25)).cell? ⟨w3.heap.size, 0, none⟩ = some (.slice ar lr cr) := by simp
  have hltx : w3.heap.size < (w3.alloc (.cells #[.slice ar lr cr] 25)).heap.size := by simp
  replace hr := hr.below bx
  replace hr3 := hr3.below bx
  replace c := below_then c bx
  obtain ⟨wx, Hwx⟩ : ∃ wx, Hid (w3.alloc (.cells #[.slice ar lr cr] 25) = wx) := ⟨_, rfl⟩
  rw [Hwx.out] at hr hr3 c hcx hltx
  clear bx
  by_cases h0 : cd = 0
  case neg =>
    have n0 : (cd != 0) = true := by simpa using h0
    have n1 : (cd == 0) = false := by simpa using h0
    have hl : l = [] := HE.out h0
    subst hl
    simp only [List.length_nil] at hr ⊢
    clear HE HT
    go_upto_region 5 with fail
    rw [Hwx.out]
    clear Hwx
    go_wp2
    go_ret
    exact ⟨rfl, c⟩
  subst h0
  by_cases h1 : ce = 0
  case neg =>
    have n0 : (ce != 0) = true := by simpa using h1
    clear HE HT
    go_upto_region 5 with fail
    rw [Hwx.out]
    clear Hwx
    go_wp2
    go_ret
    exact ⟨rfl, c⟩
  subst h1
  have F : Hid _ := HT.out l x rfl rfl
  have HA : Hid _ := all1_any wx _ _ x hltx hcx hr3
  clear HE HT hcx
  go_upto_region 5 with fail
  rw [Hwx.out]
  clear Hwx
  go_wp2_with fail
  refine (containsknotsQ wx 16 _ _ HA.out Try.call16 _ l _ (Below.refl _ _) (by exact hr)).mono ?_
  rintro e w8 ⟨rfl, b⟩
  rw [F.out]
  replace c := below_then c b
  clear b
  go_wp2
  go_ret
  exact ⟨rfl, c⟩

end Go.Proofs.Ytbpkebkblkjdhaa
