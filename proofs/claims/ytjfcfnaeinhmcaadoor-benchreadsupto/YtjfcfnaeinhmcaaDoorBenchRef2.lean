/- The document's own text of a block: XPrint. -/
import Derived.Test.YtjfcfnaeinhmcaaDoorBenchRef1
import Derived.Test.YtjfcfnaeinhmcaaDoorBenchDev2
import Derived.Test.YtjfcfnaeinhmcaaDoorBlock1
namespace Go.Proofs.YtjfcfnaeinhmcaaDoor
open Go.RowKit
set_option linter.unusedVariables false
set_option linter.unusedSimpArgs false
set_option maxRecDepth 4000

set_option maxHeartbeats 4000000 in
theorem xprintB_any (v : Value) (b : BlockL) (w : World) (hv : BlockV w v b) :
    Calls Tryd.prog 5 #[v] w fun e w' => ∃ s d, e = .returned (.tuple #[.string (bs s), .int .i64 d]) ∧ PrintB b s d ∧ Below w.heap.size w w' := by
  obtain ⟨kv, rfl, hK⟩ := blockV_iff.1 hv
  obtain ⟨a, cap, rfl⟩ := slice_of hK
  have c := below_new w (.cells #[.int .i64 b.kind, .int .i64 b.label, .slice a b.kids.length cap] 24)
  have hbx := box3_new w (.int .i64 b.kind) (.int .i64 b.label) (.slice a b.kids.length cap) 24
  replace hv := hv.below c
  obtain ⟨w0, Hw0⟩ : ∃ w0, Hid (w.alloc (.cells #[.int .i64 b.kind, .int .i64 b.label, .slice a b.kids.length cap] 24) = w0) := ⟨_, rfl⟩
  obtain ⟨B, HB⟩ : ∃ z, Hid (w.heap.size = z) := ⟨_, rfl⟩
  rw [Hw0.out] at c hbx hv
  rw [HB.out] at hbx
  go_enter Tryd.func5, Tryd.ntmps5
  go_upto_region 1 with fail
  rw [Hw0.out, HB.out]
  clear Hw0 hK
  obtain ⟨x0, x1, x2, x3⟩ := id hbx
  go_upto_region 2 with (go_at_call 11; refine (jwrong0_any _ b _ (by exact hv)).mono ?_; rintro e w1 ⟨rfl, b1⟩)
  have c1 := below_then c b1
  have hv1 := hv.below b1
  have hbx1 := hbx.below b1
  clear x0 x1 x2 x3
  obtain ⟨x0, x1, x2, x3⟩ := id hbx1
  by_cases he : wrongB b = 0
  · have hR := wrong_zero.1 he
    have R : Hid (PrintB b (textB 41 b) 0) := .inl ⟨he, rfl, rfl⟩
    have hS := xtext_any 41 b hR.fit hR
    obtain ⟨T, HT⟩ := hideEx (textB 41 b)
    have hcl := hS _ w1 (by exact hv1)
    rw [HT.out] at hcl R
    rw [he]
    clear hS hR he
    go_wp2_with (go_at_call 12; refine hcl.mono ?_; rintro e w2 ⟨rfl, b2⟩)
    go_ret2
    exact ⟨T, 0, rfl, R.out, below_then c1 b2⟩
  · have R : Hid (PrintB b [] (wrongB b)) := .inr ⟨he, rfl, rfl⟩
    have hne : (wrongB b != 0) = true := by rw [bne_iff_ne]; exact he
    obtain ⟨E, HE⟩ : ∃ z, Hid (wrongB b = z) := ⟨_, rfl⟩
    rw [HE.out] at hne R
    rw [HE.out]
    clear he
    go_wp2
    go_ret2
    exact ⟨[], E, rfl, R.out, c1⟩

end Go.Proofs.YtjfcfnaeinhmcaaDoor
