/- Lists of numbers that the call itself gathers, one behind the other: the row grows, what it holds lies elsewhere. -/
import Derived.Test.YtjfcfnaeinhmcaaDoorFoot
import Derived.Test.YtjfcfnaeinhmcaaDoorNetBase
namespace Go.Proofs.YtjfcfnaeinhmcaaDoor
open Go.RowKit
set_option linter.unusedVariables false
set_option maxRecDepth 4000

/-- The row v of the call's own holds these lists; they lie beside it. -/
structure LsOut (B : Nat) (w0 wr : World) (v : Value) (cs : List (Value × List Int)) : Prop where
  own : wr.ownsRow B 38 1 v cs.length (cs.map (·.1))
  below : Below B w0 wr
  size : B ≤ wr.heap.size
  row : ∀ j (hj : j < cs.length), On (fun k => B ≤ k ∧ some k ≠ v.ownBlock) wr (fun w' => Ints w' cs[j].1 cs[j].2)
theorem LsOut.start {w w0 : World} (B : Nat) (hb : Below B w0 w) (hB : B ≤ w.heap.size) : LsOut B w0 w (.slice none 0 0) [] := ⟨World.ownsRow_nil _ _ _ _, hb, hB, fun j hj => absurd hj (by simp)⟩
theorem LsOut.to {B : Nat} {w0 wr w' : World} {v : Value} {cs : List (Value × List Int)} (h : LsOut B w0 wr v cs) (hb : Below wr.heap.size wr w') : LsOut B w0 w' v cs :=
  ⟨((ownsRow_on h.own).below hb).now, h.below.trans (hb.mono h.size), Nat.le_trans h.size hb.size, fun j hj => (h.row j hj).below hb⟩
theorem ls_apart {v v' : Value} {b m : Nat} (hat : v'.ownBlock = v.ownBlock ∨ v'.ownBlock = some m) (h : some b ≠ v.ownBlock) (hb : b < m) : some b ≠ v'.ownBlock := by
  rcases hat with e | e
  · rw [e]; exact h
  · rw [e]; intro q; injection q with q; omega
theorem On.ls_grown {B : Nat} {W wC : World} {v v' : Value} {R : World → Prop} (hR : On (fun k => B ≤ k ∧ some k ≠ v.ownBlock) W R) (hg : W.grownBy wC v.ownBlock) (hat : v'.ownBlock = v.ownBlock ∨ v'.ownBlock = some W.heap.size) : On (fun k => B ≤ k ∧ some k ≠ v'.ownBlock) wC R := by
  intro w2 hs hk
  refine hR w2 (Nat.le_trans hg.size hs) fun k hlt ⟨hkx, hkr⟩ => ?_
  rw [hk k (Nat.lt_of_lt_of_le hlt hg.size) ⟨hkx, ls_apart hat hkr hlt⟩]
  exact hg.block k hlt hkr
theorem LsOut.step {B : Nat} {w0 W wC : World} {v v' c : Value} {cs : List (Value × List Int)} {xs : List Int} (h : LsOut B w0 W v cs)
    (k1 : On (fun k => B ≤ k ∧ some k ≠ v.ownBlock) W (fun w' => Ints w' c xs))
    (hown : wC.ownsRow B 38 1 v' (cs.length + 1) (cs.map (·.1) ++ [c])) (hg : W.grownBy wC v.ownBlock)
    (hat : v'.ownBlock = v.ownBlock ∨ v'.ownBlock = some W.heap.size) : LsOut B w0 wC v' (cs ++ [(c, xs)]) := by
  refine ⟨?_, h.below.grown hg h.size (fun k hk => (ownsRow_lt h.own hk).1), Nat.le_trans h.size hg.size, fun j hj => ?_⟩
  · rw [List.map_append, List.length_append]
    simpa using hown
  · by_cases hjl : j < cs.length
    · rw [List.getElem_append_left hjl]
      exact (h.row j hjl).ls_grown hg hat
    · have e : j = cs.length := by simp at hj; omega
      subst e
      rw [List.getElem_append_right (Nat.le_refl _)]
      simp only [Nat.sub_self, List.getElem_cons_zero]
      exact k1.ls_grown hg hat
theorem LsOut.lists {B : Nat} {w0 wr : World} {v : Value} {cs : List (Value × List Int)} (h : LsOut B w0 wr v cs) (hl : cs.length ≤ 5864062014805) : Lists wr v (cs.map (·.2)) := by
  have hown0 := h.own
  obtain ⟨_, hcase⟩ := id h.own
  rcases hcase with ⟨rfl, h0⟩ | ⟨g, cap', cur, rfl, hg, hh, hn, hcap, hsz, htake⟩
  · have e : cs = [] := List.length_eq_zero_iff.1 h0
    subst e
    exact ⟨none, 0, 0, rfl, rfl, by omega, ⟨by omega, by omega, fun _ => rfl⟩, fun j hj => absurd hj (by simp)⟩
  · refine ⟨_, _, _, rfl, by simp, by omega, ⟨hn, by unfold maxLen at hcap; omega, fun h => by cases h⟩, fun j hj => ?_⟩
    have hj' : j < cs.length := by simpa using hj
    refine ⟨g, 0, cs[j].1, rfl, (Array.getElem?_eq_some_iff.1 hh).1, ?_, ?_⟩
    · rw [Nat.zero_add, hown0.cellAt j (by omega)]
      simp [hj']
    · have := (h.row j hj').now
      simpa [List.getD, hj'] using this
theorem LsOut.slice {B : Nat} {w0 wr : World} {v : Value} {cs : List (Value × List Int)} (h : LsOut B w0 wr v cs) : ∃ a l c, v = .slice a l c := ownsRow_slice h.own

theorem info_ls : (Tryd.prog.info? 38).map (fun i => (i.zero, i.size, i.bytes)) = some (some (.slice none 0 0), 1, 24) := by kernel_rfl

/-- One more, made by the call behind the row's start: it stands at block B' and behind, where the row does not. -/
theorem wp_append_ls {ops : Array Oper} {rest : List Oper} {o : Oper} {a : Act} {Q : Exit → Act → World → Prop} (hgd : o.guard = none) (s x : Operand)
    (ho : o.op = .call { callee := .builtin .append, args := #[s, x], argTypes := #[28, 28] }) (B : Nat) (w0 wr : World) (v : Value) (cs : List (Value × List Int)) (xs : List Int)
    (a1 : Option Addr) (l1 p1 : Nat) (hG : LsOut B w0 wr v cs) (k1 : On (fun k => B ≤ k ∧ some k ≠ v.ownBlock) wr (fun w' => Ints w' (.slice a1 l1 p1) xs))
    (hs : a.eval s = v) (hx : a.eval x = .slice (some ⟨wr.heap.size, 0, none⟩) 1 1) (hl : cs.length + 1 ≤ 5864062014805)
    (h : ∀ v' w', LsOut B w0 w' v' (cs ++ [(.slice a1 l1 p1, xs)]) → Below B w0 w' → wpList Tryd.prog ops Q rest (a.put o.dst v') w') :
    wpList Tryd.prog ops Q (o :: rest) a (wr.alloc (.cells #[.slice a1 l1 p1] 38)) := by
  obtain ⟨i0, hi, hz0, hz1, hz2⟩ := info_parts info_ls
  have hwt : Region.wanted o (yielded ops a.tmps) = true := by simp [Region.wanted, hgd]
  have hn := below_new wr (.cells #[.slice a1 l1 p1] 38)
  have hB := hG.size
  refine wpList_step fun K hK => ?_
  refine wp_append_at _ hwt s x 28 ho B 38 i0 _ 1 24 Tryd.underlying28 hi hz0 hz1 hz2 rfl (by decide) v cs.length _ hs (hG.own.alloc _) ⟨wr.heap.size, 0, none⟩ 1 1 [.slice a1 l1 p1] hx rfl ?_ ?_ ?_ ?_ ?_ ?_
  · intro j u hj
    rw [addr_add, World.cell?_alloc_at _ _ _ _ rfl]
    match j, hj with
    | 0, hj => simpa using hj
  · intro u hu
    simp only [List.mem_cons, List.not_mem_nil, or_false] at hu
    rcases hu with rfl <;> rfl
  · unfold maxLen; omega
  · omega
  · simp; omega
  · intro v' w' hown hg hat
    have R := (hG.to hn).step (k1.below hn) hown hg hat
    exact hK _ _ (h v' w' R R.below)

end Go.Proofs.YtjfcfnaeinhmcaaDoor
