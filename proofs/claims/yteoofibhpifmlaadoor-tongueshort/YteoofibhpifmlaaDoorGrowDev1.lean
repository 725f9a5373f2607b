/- Package grow as it landed: a place more, a transition more. -/
import Derived.Test.YteoofibhpifmlaaDoorGrowMem
import Derived.WalkLawsBesides
namespace Go.Proofs.YteoofibhpifmlaaDoor
open Go.RowKit
set_option linter.unusedVariables false
set_option maxRecDepth 4000

theorem info_link : (Tryd.prog.info? 123).map (fun i => (i.zero, i.size, i.bytes)) = some (some (.agg #[.int .i64 0, .slice none 0 0, .slice none 0 0]), 3, 56) := by kernel_rfl

theorem wp_append_link {ops : Array Oper} {rest : List Oper} {o : Oper} {a : Act} {Q : Exit → Act → World → Prop} (hgd : o.guard = none) (s x : Operand)
    (ho : o.op = .call { callee := .builtin .append, args := #[s, x], argTypes := #[92, 92] }) (B : Nat) (wr : World) (v : Value) (n : Nat) (xs : List Value) (lab : Int) (a1 a2 : Option Addr) (l1 l2 c1 c2 : Nat)
    (hown : wr.ownsRow B 123 3 v n xs) (hs : a.eval s = v) (hx : a.eval x = .slice (some ⟨wr.heap.size, 0, none⟩) 1 1) (hl : n ≤ 1000) (hB : B ≤ wr.heap.size)
    (h : ∀ v' w', w'.ownsRow B 123 3 v' (n + 1) (xs ++ [.int .i64 lab, .slice a1 l1 c1, .slice a2 l2 c2]) → (wr.alloc (.cells #[.int .i64 lab, .slice a1 l1 c1, .slice a2 l2 c2] 123)).grownBy w' v.ownBlock →
      (v'.ownBlock = v.ownBlock ∨ v'.ownBlock = some (wr.alloc (.cells #[.int .i64 lab, .slice a1 l1 c1, .slice a2 l2 c2] 123)).heap.size) → wpList Tryd.prog ops Q rest (a.put o.dst v') w') :
    wpList Tryd.prog ops Q (o :: rest) a (wr.alloc (.cells #[.int .i64 lab, .slice a1 l1 c1, .slice a2 l2 c2] 123)) := by
  obtain ⟨i0, hi, hz0, hz1, hz2⟩ := info_parts info_link
  refine wpList_append_own_at _ hgd s x 92 ho B 123 i0 _ 3 56 Tryd.underlying92 hi hz0 hz1 hz2 rfl (by decide) v n _ hs (hown.alloc _) ⟨wr.heap.size, 0, none⟩ 1 1 [.int .i64 lab, .slice a1 l1 c1, .slice a2 l2 c2] hx rfl ?_ ?_ ?_ ?_ ?_ ?_
  · intro j u hj
    rw [addr_add, World.cell?_alloc_at _ _ _ _ rfl]
    match j, hj with
    | 0, hj => simpa using hj
    | 1, hj => simpa using hj
    | 2, hj => simpa using hj
  · intro u hu
    simp only [List.mem_cons, List.not_mem_nil, or_false] at hu
    rcases hu with rfl | rfl | rfl <;> rfl
  · unfold maxLen; omega
  · omega
  · simp; omega
  · intro v' w' h1 h2 _ h3
    exact h v' w' h1 h2 h3

section
variable {B x : Nat} {W wr : World} {g : GrowL} {lv : Value} {us vs : List Value}

theorem place_any (h : GrowAt B x W wr g lv us vs) (hf : FitG g) :
    Calls Tryd.prog 93 #[.pointer (some ⟨x, 0, none⟩)] wr (Grew B x W wr lv ⟨g.places + 1, g.links⟩ (.int .i64 (g.places : Int))) := by
  obtain ⟨d0, d1, f0, f1⟩ := h.at
  obtain ⟨n, Hn⟩ : ∃ n, Hid (g.places = n) := ⟨_, rfl⟩
  rw [Hn.out] at d0
  have h16 : n ≤ 16 := by rw [← Hn.out]; exact hf.1
  by_cases hn : n = 16
  · subst hn
    have R : Hid (¬ FitG ⟨g.places + 1, g.links⟩) := fun q => by have := q.1; have := Hn.out; simp at *; omega
    go_enter Tryd.func93, Tryd.ntmps93
    go_wp2
    exact ⟨rfl, .inr ⟨R.out, rfl, h.below⟩⟩
  · have hn' : ((n : Int) == 16) = false := by rw [beq_eq_false_iff_ne]; omega
    obtain ⟨hG, hK⟩ := h.place (n + 1)
    have HR : Hid (Grew B x W wr lv ⟨g.places + 1, g.links⟩ (.int .i64 (g.places : Int)) (.returned (.int .i64 (n : Int))) (wr.setCell ⟨x, 0, none⟩ (.int .i64 ((n : Int) + 1)))) := by
      rw [Hn.out]
      have e : ((n + 1 : Nat) : Int) = (n : Int) + 1 := by omega
      rw [e] at hG hK
      exact .inl ⟨⟨by show n + 1 ≤ 16; omega, hf.2⟩, rfl, _, _, _, hG, hK⟩
    clear hG hK
    go_enter Tryd.func93, Tryd.ntmps93
    go_wp2
    go_ret
    exact HR.out

theorem tran_any (hG : GrowAt B x W wr g lv us vs) (hf : FitG g) (lab : Int) (a b : List Nat) (u v : Value) (hu : On (fun k => ¬ mineG x lv k) wr (fun w' => Ints w' u (intsN a))) (hv : On (fun k => ¬ mineG x lv k) wr (fun w' => Ints w' v (intsN b))) :
    Calls Tryd.prog 68 #[.pointer (some ⟨x, 0, none⟩), .int .i64 lab, u, v] wr (Grew B x W wr lv (putG g lab a b) (.tuple #[])) := by
  obtain ⟨d0, d1, f0, f1⟩ := hG.at
  obtain ⟨al, cl, hlv⟩ := hG.slice
  obtain ⟨n, Hn⟩ : ∃ n, Hid (g.links.length = n) := ⟨_, rfl⟩
  rw [Hn.out] at hlv
  have h24 : n ≤ 24 := by rw [← Hn.out]; exact hf.2
  obtain ⟨a1, l1, c1, e1⟩ : ∃ a1 l1 c1, u = .slice a1 l1 c1 := by obtain ⟨a1, l1, c1, e, _⟩ := hu.now; exact ⟨a1, l1, c1, e⟩
  obtain ⟨a2, l2, c2, e2⟩ : ∃ a2 l2 c2, v = .slice a2 l2 c2 := by obtain ⟨a1, l1, c1, e, _⟩ := hv.now; exact ⟨a1, l1, c1, e⟩
  subst e1 e2 hlv
  by_cases hn : n = 24
  · subst hn
    have R : Hid (¬ FitG (putG g lab a b)) := fun q => by have := q.2; have := Hn.out; simp [putG] at *; omega
    go_enter Tryd.func68, Tryd.ntmps68
    go_wp2
    exact ⟨rfl, .inr ⟨R.out, rfl, hG.below⟩⟩
  · have hn' : ((n : Int) == 24) = false := by rw [beq_eq_false_iff_ne]; omega
    have hrow := hG.row
    rw [Hn.out] at hrow
    have hB := hG.base
    have hF : Hid (FitG (putG g lab a b)) := ⟨hf.1, by have := Hn.out; simp [putG]; omega⟩
    go_enter Tryd.func68, Tryd.ntmps68
    have hG1 := hG.to (below_new wr (.cells #[.int .i64 lab, .slice a1 l1 c1, .slice a2 l2 c2] 123))
    have hu1 := hu.below (below_new wr (.cells #[.int .i64 lab, .slice a1 l1 c1, .slice a2 l2 c2] 123))
    have hv1 := hv.below (below_new wr (.cells #[.int .i64 lab, .slice a1 l1 c1, .slice a2 l2 c2] 123))
    have HK1 : Hid _ := Keeps.below (below_new wr (.cells #[.int .i64 lab, .slice a1 l1 c1, .slice a2 l2 c2] 123)) (mineG x (.slice al n cl))
    go_wp2_with (at_builtin; refine wp_append_link rfl _ _ rfl B wr _ n _ lab a1 a2 l1 l2 c1 c2 hrow rfl rfl (by omega) hB ?_; intro v' wC hC hgC hatC; obtain ⟨a', l', c', rfl⟩ := ownsRow_slice hC; obtain ⟨q0, q1⟩ := hG1.after hgC)
    obtain ⟨hG2, hK2⟩ := hG1.link ⟨lab, a, b⟩ hu1 hv1 (by rw [Hn.out]; exact hC) hgC hatC
    go_end0
    exact .inl ⟨hF.out, rfl, _, _, _, hG2, HK1.out.trans hK2⟩

end

end Go.Proofs.YteoofibhpifmlaaDoor
