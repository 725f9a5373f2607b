/- AlignCosts: what Align tells costs what the document's own search tells. -/
import Derived.Test.YtakgppoeikcepaaGr30
import Derived.Test.YtakgppoeikcepaaGr31
namespace Go.Proofs.Ytakgppoeikcepaa
open Go.RowKit
set_option linter.unusedVariables false
set_option linter.unusedSimpArgs false
set_option maxRecDepth 4000

theorem MovesV.lenC {w : World} {v : Value} {ms : List MoveL} (h : MovesV w v ms) : ms.length ≤ 1000000 := by
  obtain ⟨a, c, _, h, _⟩ := CellsV.slice h
  exact h
theorem MovesV.sliceC {w : World} {v : Value} {ms : List MoveL} (h : MovesV w v ms) : ∃ a c, v = .slice a ms.length c := by
  obtain ⟨a, c, e, _⟩ := CellsV.slice h
  exact ⟨a, c, e⟩
theorem Lsp.errC {n : NetL} {i o : Int} {s : SpaceL} {a d : Int} (h : Lsp n i o s a d) : TongErr n i o d := by
  rcases h with h | ⟨h1, h2, _⟩
  · exact .inl h
  · exact .inr ⟨h1, by rw [h2]⟩
/-- Both tell the same. -/
theorem costs_same {n : NetL} {i o : Int} {tr : List Int} {ms : List MoveL} {c e d f : Int} (hA : AlignAns n i o tr ms c e) (hm : ms.length ≤ 1000000) (hU : UAns n i o tr d f) : c = d ∧ e = f ∧ (e = 0 ∨ ms = []) := by
  obtain ⟨s, a, d0, hL, hU⟩ := hU
  obtain ⟨d1, h1, h2, h3⟩ := hA.ex
  obtain rfl := h1.unique hL.errC
  by_cases hd : d1 = 0
  · subst hd
    rcases hL with ⟨q, _⟩ | ⟨hSh, hG, hE⟩
    · exact absurd rfl q
    · have hW : Whole n (startL n.places i) s := graphL_whole hG
      have h3 := h3 rfl
      rw [hG] at h3
      simp only at h3
      rcases hU with ⟨q, _⟩ | ⟨_, q1, q2, q3⟩ | ⟨_, q1, q2, q3, q4⟩ | ⟨_, q1, q2, q3, g, g1, g2, g3⟩
      · exact absurd rfl q
      · rcases h3 with ⟨p1, p2, p3, p4⟩ | ⟨p1, _⟩ | ⟨p1, _⟩
        · exact ⟨by omega, by omega, .inr p4⟩
        · omega
        · omega
      · rcases h3 with ⟨p1, _⟩ | ⟨_, _, p3, p4, p5⟩ | ⟨_, _, e', k1, k2, _⟩
        · omega
        · exact ⟨by omega, by omega, .inr p5⟩
        · exfalso
          rcases hE with ⟨_, q⟩ | ⟨g, q, _⟩
          · exact q e' k1 k2
          · omega
      · rcases h3 with ⟨p1, _⟩ | ⟨_, p2, _⟩ | ⟨_, p2, e', k1, k2, k3, k4, k5⟩
        · omega
        · exfalso
          rcases hE with ⟨q, _⟩ | ⟨g, q, hg, hm⟩
          · omega
          · exact p2 g hg hm
        · have hea : e' = a.toNat := by
            rcases hE with ⟨q, _⟩ | ⟨g, q, hg, hm⟩
            · omega
            · rw [q]; exact mark_inj hW.nodup k1 hg (k2.trans hm.symm)
          have hcm : (costM ms : Int) < farC := by have := costM_le ms; have : farC = 1073741824 := rfl; omega
          obtain ⟨c', r1, r2⟩ := cost_cheap g1 g2 (fun x hx => (hW.sound x hx).2.1) (fun x hx => (label_okU hSh.ok (hW.sound x hx).2.2.1).1) hW.here.1 k1 k3 hcm
          have := k5.one r2
          subst hea
          exact ⟨by omega, by omega, .inl p2⟩
  · obtain ⟨p1, p2, p3⟩ := h2 hd
    rcases hU with ⟨_, q1, q2⟩ | ⟨q, _⟩ | ⟨q, _⟩ | ⟨q, _⟩
    · exact ⟨by omega, by omega, .inr p3⟩
    all_goals exact absurd q hd

set_option maxHeartbeats 4000000 in
theorem alignCosts_walk (v0 v3 : Value) (x0 : NetL) (x1 x2 : Int) (x3 : List Int) (W : World) (i0 : Net W v0 x0) (i3 : Ints W v3 x3) (hbn : BulkNet x0) (hbs : x3.length ≤ 1048576) :
    Calls Try.prog 3 #[v0, .int .i64 x1, .int .i64 x2, v3] W fun e W' => e = .returned (.bool true) ∧ Below W.heap.size W W' := by
  have hsm := hbn.small
  obtain ⟨tv, rfl, hT⟩ := id i0
  have hbx := box2_new W (.int .i64 x0.places) tv 24
  have c := below_new W (.cells #[.int .i64 x0.places, tv] 24)
  obtain ⟨w0, H0⟩ : ∃ u, Hid (W.alloc (.cells #[.int .i64 x0.places, tv] 24) = u) := ⟨_, rfl⟩
  rw [H0.out] at hbx c
  clear hT
  obtain ⟨_, y0, y1⟩ := id hbx
  go_enter Try.func3, Try.ntmps3
  go_upto_region 1 with fail
  rw [H0.out]
  clear H0
  go_wp2_with fail
  have hC := align_any (i := x1) (o := x2) (i0.below c) (i3.below c)
  unfold alignGoes at hC
  refine hC.mono ?_
  rintro e w1 ⟨r, ms, ca, ea, rfl, hA, hM, b1⟩
  clear hC
  obtain ⟨ra, rc, rfl⟩ := hM.sliceC
  have HA : Hid (AlignAns x0 x1 x2 x3 ms ca ea) := hA
  have hml := hM.lenC
  replace hbx := hbx.below b1
  have c1 := below_then c b1
  clear b1 hA hM c y0 y1
  obtain ⟨_, y0, y1⟩ := id hbx
  go_wp2_with fail
  refine (ucost_any _ _ x0 x1 x2 x3 _ (i0.below c1) (i3.below c1) hsm).mono ?_
  rintro e w2 ⟨d, f, rfl, hU, b2⟩
  obtain ⟨rfl, rfl, he⟩ := costs_same HA.out hml hU
  have c2 := below_then c1 b2
  clear b2 hU HA hbx y0 y1
  have g1 : (ea == ea) = true := by simp
  have g2 : (ca == ca) = true := by simp
  rcases he with he | he
  · subst he
    go_wp2
    go_ret
    exact ⟨rfl, c2⟩
  · subst he
    by_cases hz : ea = 0
    · subst hz
      go_wp2
      go_ret
      exact ⟨rfl, c2⟩
    · have g3 : (ea == 0) = false := by rw [beq_eq_false_iff_ne]; exact hz
      go_wp2
      go_ret
      exact ⟨rfl, c2⟩

end Go.Proofs.Ytakgppoeikcepaa
