/- Whether a transition fires in some run from a mark: plainly. -/
import Derived.Test.YtlejaeecfeiajaaLiveBase
import Derived.Test.YtlejaeecfeiajaaSlices2
namespace Go.Proofs.Ytlejaeecfeiajaa
set_option linter.unusedVariables false

def ableL (n : NetL) (t : Int) (x : List Int) : Bool := (graphL n x 300).2 == 0 && ((graphL n x 300).1.arcs.map arcZ).any fun a => a.2.1 == t

theorem able_iff {n : NetL} {t : Int} {x : List Int} {u : SpaceL} (h : graphL n x 300 = (u, 0)) : ableL n t x = true ↔ ∃ a ∈ u.arcs, (a.tran : Int) = t := by
  unfold ableL
  rw [h]
  simp [arcZ]

theorem Whole.fires {n : NetL} {m : List Int} {s : SpaceL} (h : Whole n m s) {i : Nat} (hi : i < s.marks.length) {b : ArcL} (hb : b ∈ s.arcs) {seq : List Int} (hs : runL n (markAt s.marks i) seq = (markAt s.marks b.frm, 0)) :
    ∃ z, runL n (markAt s.marks i) (seq ++ [(b.tran : Int)]) = (z, 0) := by
  obtain ⟨b1, b2, b3, b4⟩ := h.sound b hb
  have hfit : fitsL n (markAt s.marks b.dst) = true := by obtain ⟨most, k, hF, hk⟩ := h; exact hF.fits _ (markAt_mem b2)
  refine ⟨markAt s.marks b.dst, ?_⟩
  rw [run_append, hs]
  simp only [BEq.rfl, if_true]
  exact run_cons.2 ⟨_, b4, run_nil.2 ⟨hfit, rfl⟩⟩

theorem live_able {n : NetL} {m x seq xs : List Int} {s : SpaceL} {t T : Int} (hg : graphL n m 60 = (s, 0)) (hr : runL n m seq = (x, 0)) (hL : IsLive (toZ s) T xs) (ht : hasL xs t = true) : ableL n t x = true := by
  have hW := graphL_whole hg
  have hl : s.marks.length < 300 := by have := (graphL_ok hg).2.2.2.2.most_le; simp at this; omega
  obtain ⟨h0, e0⟩ := hW.here
  rw [← e0] at hr
  obtain ⟨⟨j, hj, rfl, _⟩, _⟩ := hW.run_comes seq (k := 0) h0 (.here _) hr
  have hx : t ∈ xs := by unfold hasL at ht; simpa using ht
  obtain ⟨_, _, _, hall⟩ := (hL.mem t).1 hx
  obtain ⟨a, ha, e, hc⟩ := hall j (by omega) (by simp only [toZ]; omega)
  obtain ⟨b, hb, rfl⟩ := mem_arcZ.1 ha
  obtain ⟨j2, ej, hj2, sq, hsq⟩ := hW.comes_run hj hc
  simp only [arcZ] at ej e
  obtain rfl : b.frm = j2 := by omega
  obtain ⟨z, hz⟩ := hW.fires hj hb hsq
  obtain ⟨u, hu⟩ := hW.again hl hj
  have hU := graphL_whole hu
  obtain ⟨u0, f0⟩ := hU.here
  rw [← f0] at hz
  obtain ⟨_, hall2⟩ := hU.run_comes _ (k := 0) u0 (.here _) hz
  obtain ⟨a', ha', e', _⟩ := hall2 b.tran (by simp)
  exact (able_iff hu).2 ⟨a', ha', by rw [e', e]⟩

theorem live_unable {n : NetL} {m xs : List Int} {s : SpaceL} {t : Int} (hg : graphL n m 60 = (s, 0)) (h0 : 0 ≤ t) (h1 : t < n.trans.length) (hL : IsLive (toZ s) n.trans.length xs) (ht : hasL xs t = false) : (s.marks.any fun y => !ableL n t y) = true := by
  have hW := graphL_whole hg
  have hl : s.marks.length < 300 := by have := (graphL_ok hg).2.2.2.2.most_le; simp at this; omega
  have hT : n.trans.length ≤ 24 := by
    have hn := (fits_net (graphL_ok hg).2.2.1).1
    simp only [netOk, headOk, Bool.and_eq_true, decide_eq_true_eq] at hn
    exact hn.1.2
  refine Classical.byContradiction fun hno => ?_
  have hx : t ∈ xs := by
    refine (hL.mem t).2 ⟨hW.right, h0, by omega, fun k hk0 hk1 => ?_⟩
    obtain ⟨i, rfl⟩ := Int.eq_ofNat_of_zero_le hk0
    have hi : i < s.marks.length := by simp only [toZ] at hk1; omega
    obtain ⟨u, hu⟩ := hW.again hl hi
    have hab : ableL n t (markAt s.marks i) = true := by
      cases hb : ableL n t (markAt s.marks i) with
      | true => rfl
      | false => exact absurd (List.any_eq_true.2 ⟨_, markAt_mem hi, by rw [hb]; rfl⟩) hno
    obtain ⟨a, ha, e⟩ := (able_iff hu).1 hab
    have hU := graphL_whole hu
    obtain ⟨u0, f0⟩ := hU.here
    have hp := hU.path a.frm (hU.sound a ha).1
    rw [← f0] at hp
    obtain ⟨z, hz⟩ := hU.fires u0 ha (by rw [f0]; rw [f0] at hp; exact hp)
    rw [f0] at hz
    obtain ⟨_, hall⟩ := hW.run_comes _ (k := i) hi (.here _) hz
    obtain ⟨a', ha', e', hc⟩ := hall a.tran (by simp)
    exact ⟨arcZ a', mem_arcZ.2 ⟨a', ha', rfl⟩, by simp only [arcZ]; rw [e', e], hc⟩
  unfold hasL at ht
  simp at ht
  exact ht hx

end Go.Proofs.Ytlejaeecfeiajaa
