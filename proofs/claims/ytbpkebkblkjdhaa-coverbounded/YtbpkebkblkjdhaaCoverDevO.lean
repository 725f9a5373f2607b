/- Package cover as it landed: each knot's mark lies in a row of its own. -/
import Derived.Test.YtbpkebkblkjdhaaCoverBd2
import Derived.Test.YtbpkebkblkjdhaaTreeAll
namespace Go.Proofs.Ytbpkebkblkjdhaa
open Go.RowKit
set_option linter.unusedVariables false

theorem cellsOf_map (s : List KnotX) (ms : List Value) : cellsOf (s.map KnotX.knot) ms = knotCells s ms := by
  unfold cellsOf knotCells
  rw [List.length_map]
  exact triTo_congr fun j hj => by rw [knotOf_map hj]; exact ⟨rfl, rfl, rfl⟩

theorem row_base {w : World} {B B' : Nat} {e : TypeId} {size : Nat} {v : Value} {n : Nat} {xs : List Value} (h : w.ownsRow B e size v n xs) (hB : B' ≤ B) : w.ownsRow B' e size v n xs := by
  refine ⟨h.1, ?_⟩
  rcases h.2 with e | ⟨g, cap, cur, e, z1, z2⟩
  · exact .inl e
  · exact .inr ⟨g, cap, cur, e, Nat.le_trans hB z1, z2⟩

theorem cover_tree_own (v u : Value) (n : NetL) (m : List Int) (most : Int) (w : World) (hv : Net w v n) (hu : Ints w u m) :
    Calls Try.prog 8 #[v, u, .int .i64 most] w fun e w' => ∃ r ms, e = .returned (.tuple #[r, .int .i64 (treeL n m most).2]) ∧ KnotsOwn w.heap.size w' r (treeL n m most).1 ms 0 ∧ Below w.heap.size w w' :=
  (tree_core v u n m most w hv hu).mono fun e w' h => by
    obtain ⟨r, he, hb, hr | ⟨s, ms, x, M, W, h1, h2, h3, h4⟩⟩ := h
    · refine ⟨r, [], he, ?_, hb⟩
      rw [hr.1, hr.2]
      exact ⟨by simp, World.ownsRow_nil _ _ _ _, hb.size, fun j _ hj => absurd hj (by simp), fun j _ hj => absurd hj (by simp)⟩
    · refine ⟨r, ms, he, ?_, hb⟩
      rw [h1]
      refine ⟨by simpa using h2, by rw [cellsOf_map, List.length_map]; exact row_base h4.rowK h3, hb.size, fun j _ hj => ?_, fun j _ hj b hbk => ?_⟩
      · rw [List.length_map] at hj
        rw [knotOf_map hj]
        exact ⟨(h4.marks j hj).1, row_base (h4.marks j hj).2 h3⟩
      · rw [List.length_map] at hj ⊢
        obtain ⟨q1, q2, q3⟩ := h4.apM j hj b hbk
        exact ⟨q2, q3⟩

end Go.Proofs.Ytbpkebkblkjdhaa
