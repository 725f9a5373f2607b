/- The law CoverMany, walked: it answers true, and writes nothing that was there. -/
import Derived.Test.YtbpkebkblkjdhaaAliveAll
import Derived.Test.YtbpkebkblkjdhaaKnotFun
import Derived.Test.YtbpkebkblkjdhaaReachDev
import Derived.Test.YtbpkebkblkjdhaaSlices2
namespace Go.Proofs.Ytbpkebkblkjdhaa
open Go.RowKit
set_option linter.unusedVariables false

theorem nth_of_has {xs : List Int} {x : Int} (h : hasL xs x = true) : ∃ p, nth xs p = x := by
  unfold hasL at h
  rw [List.contains_iff_mem] at h
  obtain ⟨j, hj, rfl⟩ := List.getElem_of_mem h
  exact ⟨j, by simp [nth, List.getD, List.getElem?_eq_getElem hj]⟩

def manyK (k : KnotL) : Bool := hasL k.mark (-1)
theorem many_of {s : List KnotX} (h : (s.map KnotX.knot).any manyK = true) : ∃ i p, i < s.length ∧ nth (knotAt s i).mark p = -1 := by
  rw [List.any_eq_true] at h
  obtain ⟨k, hk, hm⟩ := h
  obtain ⟨x, hx, rfl⟩ := List.mem_map.1 hk
  obtain ⟨i, hi, rfl⟩ := List.getElem_of_mem hx
  obtain ⟨p, hp⟩ := nth_of_has hm
  exact ⟨i, p, hi, by rw [knotAt_get hi]; exact hp⟩

theorem many1_any (w0 : World) : AsksK0 w0 27 manyK := by
  intro u x w hb hu
  have b1 := below_new w (.cells #[.int .i64 x.up, .int .i64 x.tran, u] 39)
  have hu1 := hu.below b1
  obtain ⟨au, lu, cu, rfl, _, _, _, _⟩ := id hu1
  go_enter Try.func27, Try.ntmps27
  go_wp2_with fail
  refine (contains_any _ x.mark (-1) _ (by exact hu1)).mono ?_
  rintro e w1 ⟨rfl, rfl⟩
  go_wp2
  go_ret
  exact ⟨rfl, b1⟩

set_option maxHeartbeats 2000000 in
theorem coverMany_walk (v u : Value) (n : NetL) (m : List Int) (most : Int) (w : World) (hv : Net w v n) (hu : Ints w u m) :
    Calls Try.prog 6 #[v, u, .int .i64 most] w fun e w' => e = .returned (.bool true) ∧ Below w.heap.size w w' := by
  obtain ⟨tv, rfl, hT⟩ := hv
  have c := below_new w (.cells #[.int .i64 n.places, tv] 24)
  have hbx := box2_new w (.int .i64 n.places) tv 24
  have hv : Net _ (.agg #[.int .i64 n.places, tv]) n := ⟨_, rfl, hT.below c⟩
  replace hu := hu.below c
  clear hT
  go_enter Try.func6, Try.ntmps6
  go_wp2_with fail
  refine (alive5_any _).mono ?_
  rintro e w1 ⟨rfl, b⟩
  replace hv := hv.below b
  replace hu := hu.below b
  replace hbx := hbx.below b
  replace c := below_then c b
  clear b
  obtain ⟨x0, x1, x2⟩ := id hbx
  go_wp2_with fail
  refine (cover_tree _ _ n m most _ (by exact hv) (by exact hu)).mono ?_
  rintro e w2 ⟨r, rfl, hr, b⟩
  replace hv := hv.below b
  replace hu := hu.below b
  replace hbx := hbx.below b
  replace c := below_then c b
  clear b x0 x1 x2
  have HT : Hid (∀ l, treeL n m most = (l, 0) → l.any manyK = true → (graphL n m 300).2 = 4) := fun l h1 h2 => by
    obtain ⟨s, rfl, hs⟩ := treeL_ok h1
    exact hs.many (many_of h2)
  generalize treeL n m most = q at *
  obtain ⟨l, cd⟩ := q
  simp only at hr ⊢
  by_cases h0 : cd = 0
  case neg =>
    have n0 : (cd != 0) = true := by simpa using h0
    clear HT
    go_wp2
    go_ret
    exact ⟨rfl, c⟩
  subst h0
  go_wp2_with fail
  refine (containsknots0 w2 27 manyK (many1_any w2) Try.call27 _ l _ (Below.refl _ _) (by exact hr)).mono ?_
  rintro e w3 ⟨rfl, b⟩
  replace hv := hv.below b
  replace hu := hu.below b
  replace hbx := hbx.below b
  replace c := below_then c b
  clear b hr
  cases ha : l.any manyK
  · clear HT
    go_wp2
    go_ret
    exact ⟨rfl, c⟩
  have E : Hid _ := HT.out l rfl ha
  clear HT ha
  obtain ⟨x0, x1, x2⟩ := id hbx
  go_wp2_with fail
  refine (reach_graph _ _ n m 300 _ (by exact hv) (by exact hu)).mono ?_
  rintro e w4 ⟨r4, rfl, hr4, b⟩
  rw [E.out]
  replace c := below_then c b
  clear b x0 x1 x2
  obtain ⟨mv, av, rfl, hM, hA⟩ := hr4
  obtain ⟨am, cm, rfl, _, _⟩ := hM.slice
  obtain ⟨aa, ca, rfl, _⟩ := hA.slice
  clear hM hA
  generalize (graphL n m 300).1.marks.length = lm at *
  generalize (List.map arcZ (graphL n m 300).1.arcs).length = la at *
  replace c := below_then c (below_new w4 (.cells #[.slice am lm cm, .slice aa la ca] 47))
  go_wp2
  go_ret
  exact ⟨rfl, c⟩

end Go.Proofs.Ytbpkebkblkjdhaa
