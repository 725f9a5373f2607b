/- A block that came in, read. -/
import Derived.Test.YtjfcfnaeinhmcaaDoorRead
import Derived.Test.YtjfcfnaeinhmcaaDoorBlockMem
namespace Go.Proofs.YtjfcfnaeinhmcaaDoor
open Go.ChangeShapes Go.WideShapes Go.ChangeAt Go.RowKit Go.Joins Go.Deep
set_option linter.unusedVariables false
set_option maxRecDepth 4000

theorem cells_block : Tryd.prog.cellsOf 24 = 3 := by kernel_rfl
theorem cells_blocks : Tryd.prog.cellsOf 22 = 1 := by kernel_rfl
theorem bytes_block : Tryd.prog.bytesOf 24 = 40 := by kernel_rfl

theorem kids_nil0 (w : World) : KidsV w (.slice none 0 0) [] := ⟨none, 0, 0, rfl, rfl, by omega, ⟨by omega, by omega, fun _ => rfl⟩, fun j hj => absurd hj (by simp)⟩

set_option maxHeartbeats 400000 in
theorem block_fuel {H : Type} {enc : TypeId × Value → H} {W : World} (N : Nat) : ∀ {fuel : Nat} {c0 c1 c2 : Value} {d : DataW H} {p : List MemPlace}, Rows.uptoBulk d ≤ N →
    DataW.trod enc Tryd.prog W 0 (fun _ => true) true fuel 24 [c0, c1, c2] = some (d, p) → Fits 24 d → ∃ b : BlockL, BlockV W (.agg #[c0, c1, c2]) b := by
  induction N with
  | zero => intro fuel c0 c1 c2 d p hN hf hw; have := bulk_pos d; omega
  | succ N ih =>
    intro fuel c0 c1 c2 d p hN hf hw
    obtain ⟨y0, y1, y2, n, hx, _, h0, h1, h2⟩ := trod_struct3 Tryd.underlying24 hf
    simp only [Prod.mk.injEq] at hx
    obtain ⟨rfl, _⟩ := hx
    simp only [cells_int, cells_blocks, List.drop_zero, List.take_succ_cons, List.take_zero, List.drop_succ_cons] at h0 h1 h2
    obtain ⟨k, e0, _, _⟩ := DataW.trod_int Tryd.underlying3 h0
    obtain ⟨l, e1, _, _⟩ := DataW.trod_int Tryd.underlying3 h1
    simp only [List.cons.injEq, and_true] at e0 e1
    subst e0 e1
    have hw2 : Fits 22 y2.1 := fun x hx => hw x (by
      simp only [DataW.weights, Tryd.underlying24, DataW.weightsEach, List.map_cons, List.mem_append]
      exact .inr (.inr (.inl hx)))
    have hb2 : Rows.uptoBulk y2.1 ≤ N := by
      have := bulk_pos y0.1
      simp only [Rows.uptoBulk, Rows.uptoBulkAll] at hN
      omega
    obtain ⟨d2, p2⟩ := y2
    simp only at hw2 hb2
    have hkids : ∃ ls : List BlockL, KidsV W c2 ls := by
      rcases open_slice Tryd.underlying22 h2 with ⟨hcs, hx⟩ | ⟨a, len, cap, m, n', D, Pl, hcs, _, hl, hm, hmm, hx, hel⟩
      · simp only [List.cons.injEq, and_true] at hcs
        subst hcs
        exact ⟨[], kids_nil0 W⟩
      · simp only [List.cons.injEq, and_true] at hcs
        subst hcs
        simp only [Prod.mk.injEq] at hx
        obtain ⟨rfl, _⟩ := hx
        simp only [if_true] at hmm
        obtain rfl : cap = m := hmm.symm
        have hs := hw2 ((len + (cap - len)) * 40) (by
          simp only [DataW.weights, Tryd.underlying22, List.mem_cons]
          left
          rw [bytes_block]
          simp)
        simp only [reachBytes] at hs
        have hone : ∀ i, i < len → ∃ t : BlockL, ∃ bk off x y z, a = ⟨bk, off, none⟩ ∧ bk < W.heap.size ∧ W.cell? ⟨bk, off + i * 3, none⟩ = some x ∧ W.cell? ⟨bk, off + i * 3 + 1, none⟩ = some y ∧ W.cell? ⟨bk, off + i * 3 + 2, none⟩ = some z ∧ BlockV W (.agg #[x, y, z]) t := by
          intro i hi
          obtain ⟨cs', hc, ht⟩ := hel i (by omega)
          rw [cells_block] at hc
          obtain ⟨x0, x1, x2, rfl, k0, k1, k2⟩ := cells3 hc
          have hmem : D i ∈ (List.range len).map D := List.mem_map.2 ⟨i, by simpa using hi, rfl⟩
          have hbi : Rows.uptoBulk (D i) ≤ N := by
            have := bulk_part hmem
            simp only [Rows.uptoBulk] at hb2
            omega
          obtain ⟨t, hb⟩ := ih hbi ht (fun x hx => hw2 x (by
            simp only [DataW.weights, Tryd.underlying22, List.mem_cons, List.mem_append]
            exact .inr (.inl (weights_part hmem hx))))
          obtain ⟨z0, hz0⟩ : ∃ z, W.cell? (a.add 0) = some z := by
            obtain ⟨cs0, hc0, _⟩ := hel 0 (by omega)
            rw [cells_block, Nat.zero_mul] at hc0
            have ha : a.add 0 = a := by simp [Addr.add]
            rw [ha] at hc0
            obtain ⟨q0, q1, q2, _, r0, _, _⟩ := cells3 hc0
            exact ⟨q0, r0⟩
          obtain ⟨bk, off, spot⟩ := a
          have hspot : spot = none := by simpa [Addr.add] using World.cell?_spot hz0
          subst hspot
          rw [addr_add, addr_add] at k0 k1 k2
          exact ⟨t, bk, off, x0, x1, x2, rfl, cell_lt k0, by simpa using k0, by simpa using k1, by simpa using k2, hb⟩
        haveI : Inhabited BlockL := ⟨⟨0, 0, []⟩⟩
        obtain ⟨T, hT⟩ := choose_lt hone
        refine ⟨(List.range len).map T, some a, len, cap, rfl, by simp, by omega, ⟨hl, by unfold maxLen at hm; omega, fun h => by cases h⟩, fun j hj => ?_⟩
        have hj' : j < len := by simpa using hj
        obtain ⟨bk, off, x, y, z, ha, r1, r2, r3, r4, r5⟩ := hT j hj'
        refine ⟨bk, off, x, y, z, by rw [ha], r1, r2, r3, r4, ?_⟩
        simpa using r5
    obtain ⟨ls, hls⟩ := hkids
    exact ⟨⟨k, l, ls⟩, blockV_iff.2 ⟨_, rfl, hls⟩⟩

theorem block_read {H : Type} {enc : TypeId × Value → H} {W : World} {base : Nat} {v : Value} {d : DataW H} {p : List MemPlace}
    (hval : Value.okWide Tryd.prog W .any base 24 v) (h : DataW.Trod enc Tryd.prog W 0 (fun _ => true) true 24 v d p) (hw : Fits 24 d) : ∃ b, BlockV W v b ∧ 1 ≤ Rows.uptoBulk d := by
  obtain ⟨cs, rfl, hsz⟩ := okWide_struct Tryd.underlying24 hval
  obtain ⟨c0, c1, c2, rfl⟩ : ∃ c0 c1 c2, cs = #[c0, c1, c2] := by
    rw [cells_block] at hsz
    obtain ⟨l⟩ := cs
    match l, hsz with
    | [c0, c1, c2], _ => exact ⟨c0, c1, c2, rfl⟩
  obtain ⟨fuel, hf⟩ := h
  obtain ⟨b, hb⟩ := block_fuel (Rows.uptoBulk d) (Nat.le_refl _) hf hw
  exact ⟨b, hb, bulk_pos d⟩

end Go.Proofs.YtjfcfnaeinhmcaaDoor
