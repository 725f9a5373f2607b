/- The answers of the document itself for siphon: the functions that FMost makes. -/
import Derived.Test.YtnklepfommakpaaSiph2
import Derived.Test.YtnklepfommakpaaTranFun
import Derived.Test.YtnklepfommakpaaSlices7
import Derived.Test.YtnklepfommakpaaBox1
namespace Go.Proofs.Ytnklepfommakpaa
open Go.RowKit
set_option linter.unusedVariables false

def aloneT (l : List Int) (p : Nat) (t : TranL) : Bool := decide (nth t.post p > 0) && !anyAt t.pre l

set_option maxHeartbeats 1000000 in
theorem most11_any (w0 : World) (bp bi p : Nat) (iv : Value) (l : List Int) (hp : Box1 w0 bp (.int .i64 p)) (hi : Box1 w0 bi iv) (hl : Ints w0 iv l) :
    AsksT2 w0 41 (.pointer (some ⟨bp, 0, none⟩)) (.pointer (some ⟨bi, 0, none⟩)) (fun t => p < t.post.length) (aloneT l p) := by
  intro u1 u2 t w hC hb i1 i2
  have b1 := below_new w (.cells #[.int .i64 t.label, u1, u2] 45)
  have hbx := box3_new w (.int .i64 t.label) u1 u2 45
  have hp2 := (hp.below hb).below b1
  have hi2 := (hi.below hb).below b1
  have hl2 := (hl.below hb).below b1
  have j1 := i1.below b1
  have j2 := i2.below b1
  obtain ⟨a1, l1, p1, rfl, _, _, _, _⟩ := id j1
  obtain ⟨a2, l2, p2, rfl, hl2', _, _, hr2⟩ := id j2
  obtain ⟨al, ll, cl, rfl, _, _, _, _⟩ := id hl2
  obtain ⟨ans, E⟩ : ∃ ans, Hid (aloneT l p t = ans) := ⟨_, rfl⟩
  rw [E.out]
  go_enter Try.func41, Try.ntmps41
  obtain ⟨wt, Hwt⟩ : ∃ wt, Hid (w.alloc (.cells #[.int .i64 t.label, .slice a1 l1 p1, .slice a2 l2 p2] 45) = wt) := ⟨_, rfl⟩
  rw [Hwt.out] at b1 hbx hp2 hi2 hl2 j1 j2 hr2
  go_upto_region 1 with fail
  rw [Hwt.out]
  clear Hwt
  obtain ⟨z0, z1, z2, z3⟩ := hbx
  obtain ⟨y0, y1⟩ := hp2
  obtain ⟨x0, x1⟩ := hi2
  obtain ⟨b2, o2, rfl, hb2, c2⟩ := hr2 p hC
  have hpl : p < l2 := by omega
  clear i1 i2 hp hi hl hC hr2
  replace E : Hid ((decide (nth t.post p > 0) && !anyAt t.pre l) = ans) := E.out
  generalize nth t.post p = x at *
  by_cases h0 : 0 < x
  · replace E : Hid ((!anyAt t.pre l) = ans) := by have := E.out; rw [decide_eq_true (show x > 0 by omega)] at this; exact this
    go_wp2_with fail
    refine (fany_any _ _ t.pre l _ (by exact j1) (by exact hl2)).mono ?_
    rintro e w3 ⟨rfl, rfl⟩
    go_wp2
    go_ret
    exact ⟨by rw [← E.out]; rfl, b1⟩
  · replace E : Hid (false = ans) := by have := E.out; rw [decide_eq_false (show ¬ x > 0 by omega)] at this; exact this
    go_wp2
    go_ret
    exact ⟨by rw [← E.out]; rfl, b1⟩

set_option maxHeartbeats 1000000 in
theorem most1_any (w0 : World) (bn bi : Nat) (tv iv : Value) (n : NetL) (l : List Int) (hn : Box2 w0 bn (.int .i64 n.places) tv) (hT : Trans w0 tv n.trans) (hi : Box1 w0 bi iv) (hl : Ints w0 iv l) (hok : netOk n = true) :
    AsksC2 w0 39 (.pointer (some ⟨bn, 0, none⟩)) (.pointer (some ⟨bi, 0, none⟩)) (fun p => 0 ≤ p ∧ p < n.places) (fun p => n.trans.any (aloneT l p.toNat)) := by
  intro z w hC hb
  obtain ⟨p, rfl⟩ := Int.eq_ofNat_of_zero_le hC.1
  have b1 := below_new w (.cells #[.int .i64 (p : Int)] 3)
  have hp := box1_new w (.int .i64 (p : Int)) 3
  have hn2 := (hn.below hb).below b1
  have hT2 := (hT.below hb).below b1
  have hi2 := (hi.below hb).below b1
  have hl2 := (hl.below hb).below b1
  have hCC : ∀ j, j < n.trans.length → p < (tranAt n.trans j).post.length := fun j hj => by have := (tran_length hok hj).2; have := hC.2; omega
  obtain ⟨wt, Hwt⟩ : ∃ wt, Hid (w.alloc (.cells #[.int .i64 (p : Int)] 3) = wt) := ⟨_, rfl⟩
  rw [Hwt.out] at b1 hp hn2 hT2 hi2 hl2
  obtain ⟨x0, x1, x2⟩ := hn2
  have HE : Hid (n.trans.any (aloneT l ((p : Int)).toNat) = n.trans.any (aloneT l p)) := by rw [Int.toNat_natCast]; exact rfl
  dsimp only
  rw [HE.out]
  clear HE hn hT hi hl hC
  go_enter Try.func39, Try.ntmps39
  go_upto_region 1 with fail
  rw [Hwt.out]
  clear Hwt
  go_wp2_with fail
  refine (containstransQ _ 41 _ _ _ _ (most11_any _ w.heap.size bi p iv l hp hi2 hl2) Try.call41 _ n.trans hCC _ (Below.refl _ _) (by exact hT2)).mono ?_
  rintro e w3 ⟨rfl, b⟩
  replace b1 := below_then b1 b
  clear b
  go_wp2
  go_ret
  exact ⟨rfl, b1⟩

end Go.Proofs.Ytnklepfommakpaa
