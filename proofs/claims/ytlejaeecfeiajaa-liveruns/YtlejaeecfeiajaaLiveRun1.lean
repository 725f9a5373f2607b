/- The functions that the law LiveRuns makes. -/
import Derived.Test.YtlejaeecfeiajaaLiveAble
import Derived.Test.YtlejaeecfeiajaaArcFun
import Derived.Test.YtlejaeecfeiajaaReachFun
import Derived.Test.YtlejaeecfeiajaaReachDev
import Derived.Test.YtlejaeecfeiajaaSmallAll
namespace Go.Proofs.Ytlejaeecfeiajaa
open Go.RowKit
set_option linter.unusedVariables false

theorem runs11_any (w0 : World) (bt : Nat) (t : Int) (ht : Box1 w0 bt (.int .i64 t)) :
    AsksA w0 25 (.pointer (some ⟨bt, 0, none⟩)) (fun a => a.2.1 == t) := by
  intro x y z w hb
  have b1 := below_new w (.cells #[.int .i64 x, .int .i64 y, .int .i64 z] 44)
  obtain ⟨h0, h1⟩ := (ht.below hb).below b1
  clear ht
  go_enter Try.func25, Try.ntmps25
  go_wp2
  go_ret
  exact ⟨rfl, b1⟩

set_option maxHeartbeats 1000000 in
theorem runs1_any (w0 : World) (bx bt : Nat) (tv : Value) (n : NetL) (t : Int) (hx : Box2 w0 bx (.int .i64 n.places) tv) (hn : Net w0 (.agg #[.int .i64 n.places, tv]) n) (ht : Box1 w0 bt (.int .i64 t))
    (v : Value) (x : List Int) (w : World) (hb : Below w0.heap.size w0 w) (hv : Ints w v x) :
    Calls Try.prog 23 #[v, .pointer (some ⟨bx, 0, none⟩), .pointer (some ⟨bt, 0, none⟩)] w fun e w' => e = .returned (.bool (ableL n t x)) ∧ Below w.heap.size w w' := by
  replace hx := hx.below hb
  replace hn := hn.below hb
  replace ht := ht.below hb
  obtain ⟨x0, x1, x2⟩ := id hx
  obtain ⟨ans, HE⟩ : ∃ ans, Hid (ableL n t x = ans) := ⟨_, rfl⟩
  rw [HE.out]
  go_enter Try.func23, Try.ntmps23
  go_wp2_with fail
  refine (reach_graph _ _ n x 300 _ (by exact hn) (by exact hv)).mono ?_
  rintro e w2 ⟨r1, rfl, hr1, b⟩
  replace ht := ht.below b
  clear x0 x1 x2 hx hn hv
  replace HE : Hid (((graphL n x 300).2 == 0 && ((graphL n x 300).1.arcs.map arcZ).any fun a => a.2.1 == t) = ans) := HE.out
  generalize graphL n x 300 = p1 at *
  obtain ⟨s, cd⟩ := p1
  simp only at hr1 ⊢
  obtain ⟨mv, av, rfl, hM, hA⟩ := hr1
  obtain ⟨am, cm, rfl, _⟩ := hM.slice
  obtain ⟨aa, ca, rfl, _⟩ := hA.slice
  obtain ⟨lm, Hlm⟩ : ∃ lm, Hid (s.marks.length = lm) := ⟨_, rfl⟩
  obtain ⟨la, Hla⟩ : ∃ la, Hid ((s.arcs.map arcZ).length = la) := ⟨_, rfl⟩
  rw [Hla.out] at hA
  rw [Hlm.out, Hla.out]
  clear hM
  have bs := below_new w2 (.cells #[.slice am lm cm, .slice aa la ca] 25)
  have hbs := box2_new w2 (.slice am lm cm) (.slice aa la ca) 25
  obtain ⟨ws, Hws⟩ : ∃ ws, Hid (w2.alloc (.cells #[.slice am lm cm, .slice aa la ca] 25) = ws) := ⟨_, rfl⟩
  rw [Hws.out] at bs hbs
  replace hA := hA.below bs
  replace ht := ht.below bs
  have R := below_then b bs
  clear b bs
  obtain ⟨y0, y1, y2⟩ := id hbs
  go_upto_region 2 with fail
  rw [Hws.out]
  clear Hws
  by_cases h0 : cd = 0
  · subst h0
    go_wp2_with fail
    refine (containsarcs_any _ 25 _ _ (runs11_any _ bt t ht) Try.call25 _ _ _ (Below.refl _ _) (by exact hA)).mono ?_
    rintro e w3 ⟨rfl, b⟩
    replace R := below_then R b
    clear b
    go_wp2
    go_ret
    exact ⟨by rw [← HE.out]; simp, R⟩
  · have hne : (cd == 0) = false := by simpa using h0
    replace HE : Hid (false = ans) := by have := HE.out; rw [hne] at this; exact this
    go_wp2
    go_ret
    exact ⟨by rw [← HE.out]; rfl, R⟩

theorem runs2_any (w0 : World) (bf bx bt : Nat) (tv : Value) (n : NetL) (t : Int) (hx : Box2 w0 bx (.int .i64 n.places) tv) (hn : Net w0 (.agg #[.int .i64 n.places, tv]) n) (ht : Box1 w0 bt (.int .i64 t))
    (hf : Box1 w0 bf (.func (.func 23) #[] #[.pointer (some ⟨bx, 0, none⟩), .pointer (some ⟨bt, 0, none⟩)])) :
    AsksQ w0 28 (.pointer (some ⟨bf, 0, none⟩)) (fun y => !ableL n t y) := by
  intro v y w hb hv
  obtain ⟨h0, h1⟩ := hf.below hb
  clear hf
  go_enter Try.func28, Try.ntmps28
  go_wp2_with fail
  refine (runs1_any w0 bx bt tv n t hx hn ht _ y _ hb (by exact hv)).mono ?_
  rintro e w1 ⟨rfl, b⟩
  go_wp2
  go_ret
  exact ⟨rfl, b⟩

end Go.Proofs.Ytlejaeecfeiajaa
