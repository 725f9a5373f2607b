/- rising over a set of numbers. -/
import Derived.Test.YtlknegihhcdhbaaGr00
import Derived.Test.YtlknegihhcdhbaaGr09
namespace Go.Proofs.Ytlknegihhcdhbaa
open Go.RowKit
set_option linter.unusedVariables false
set_option linter.unusedSimpArgs false
set_option maxRecDepth 4000

theorem info_cellI : (Try.prog.info? 3).map (fun i => (i.zero, i.size, i.bytes)) = some (some (.int .i64 0), 1, 8) := by kernel_rfl
theorem make_capI (w : World) (n : Nat) (hn : n ≤ 17592186044416) :
    ∃ w1, (Instr.makeSlice 23 (.int .i64 0) (.int .i64 (n : Int))).run Try.prog w = .ok (.slice (some ⟨w.heap.size, 0, none⟩) 0 n) w1 ∧ Own w.heap.size w w1 (.slice (some ⟨w.heap.size, 0, none⟩) 0 n) [] ∧ w.grownBy w1 none ∧ w1.heap.size = w.heap.size + 1 := by
  obtain ⟨i0, hi, hz0, hz1, hz2⟩ := info_parts info_cellI
  have h := run_make (P := Try.prog) w 23 3 i0 (.int .i64 0) Try.underlying23 hi hz0 .i64 .i64 0 n (by omega) (by omega) (by rw [hz2]; omega) (by omega)
  simp only [Int.toNat_natCast] at h
  refine ⟨_, h, ⟨World.ownsRow_made w _ n (Nat.le_refl _) (by unfold maxLen; omega) (by simp [madeCells, hz1]), (Below.refl _ _).alloc (Nat.le_refl _) _, by simp⟩, World.grownBy_alloc w _ none, by simp⟩

set_option maxHeartbeats 2000000 in
/-- rising(s, byNumber). -/
theorem risingI_any (b n : Nat) (S : Int → Prop) (w : World) (h : SetI w b n S) (hn : n ≤ 17592186044416) :
    Calls Try.prog 59 #[.map (some b), .func (.func 60) #[] #[]] w fun e w' => ∃ v zs, e = .returned v ∧ Own w.heap.size w w' v zs ∧ zs.Pairwise (· < ·) ∧ (∀ x ∈ zs, okI x) ∧ ∀ x, okI x → (x ∈ zs ↔ S x) := by
  have hbl := h.lt
  obtain ⟨D, hD1, hD2⟩ := id h
  have Hc : Hid (Maps.size D ≤ n) := size_le hD1
  obtain ⟨c, HC⟩ : ∃ c, Hid (Maps.size D = c) := ⟨_, rfl⟩
  rw [HC.out] at Hc
  have hlen := fun o => hD1.len (P := Try.prog) Try.underlying54 o
  rw [HC.out] at hlen
  clear hD1 hD2
  obtain ⟨w1, hmk, hO1, hg1, hs1⟩ := make_capI w c (Nat.le_trans Hc.out hn)
  have h1 := h.kept hg1 (by simp)
  clear h
  go_enter Try.func59, Try.ntmps59
  go_wp2_with (at_range; refine wp_set_range keyI Try.underlying54 rfl _ rfl w1 b n S h1 rfl ?_; intro w2 cnt0 hcn hI2 hg2 hs2)
  go_frame
  have hO2 := hO1.trans (w2 := w2) ((Below.refl _ _).grown hg2 (Nat.le_refl _) (fun j hj => by cases hj))
  have H1 : Hid (w1.heap.size = w.heap.size + 1) := hs1
  rw [H1.out] at hI2 ⊢
  clear hO1 hg1 h1 hg2 hs2 hs1 hmk hlen
  go_loopg [5] cnt0 (fun gk v5 wr => ∃ (left : Int → Prop) (v : Value) (zs : List Int), v5 = v ∧ IterA 3 (Lit.int .i64) okI wr b (w.heap.size + 1) n S left gk ∧ Own w.heap.size w wr v zs ∧ zs.length + gk ≤ n ∧ Hid (Coll okI S left zs) ∧ Hid (∃ a c, v = .slice (some a) zs.length c))
  case atStart => exact ⟨S, _, [], rfl, hI2, hO2, by simpa using hcn, Coll.start, ⟨_, _, rfl⟩⟩
  case round =>
    clear hO2 hI2 hcn
    obtain ⟨left, v, zs, rfl, hI, hO, hzl, HCo, HV⟩ := hrel
    go_wp2_with (at_next; refine wp_set_next keyI rfl _ rfl wr b (w.heap.size + 1) n S left gk hI rfl ?_ ?_)
    · intro hc0 hl0
      have HD : Hid (zs.Nodup ∧ (∀ x ∈ zs, okI x) ∧ ∀ x, okI x → (x ∈ zs ↔ S x)) := HCo.out.done hl0
      go_wp2_with fail
      refine (sortFI_own _ _ _ u5 zs hO (by omega) HV.out).mono ?_
      rintro e w4 ⟨rfl, ts, hp, hs, hO4, hg4⟩
      go_wp2
      go_ret
      obtain ⟨q1, q2, q3⟩ := HD.out
      refine ⟨u5, ts, rfl, hO4, ?_, fun x hx => q2 x (hp.mem_iff.1 hx), fun x hx => by rw [hp.mem_iff]; exact q3 x hx⟩
      have hnd : ts.Nodup := hp.nodup_iff.2 q1
      exact pw_mono (fun x y hxy => by have := hxy.1; have := hxy.2; omega) (hs.and hnd)
    · intro x w3 cnt' hx hlx hSx hI3 hlt hg3 hs3 hen
      have hO3 : Own w.heap.size w w3 u5 zs := ⟨hO.1.kept hg3 (.inr (hI.apart hO.1).symm), hO.2.1.grown hg3 hO.2.2 (fun j hj => by cases hj; omega), Nat.le_trans hO.2.2 hg3.size⟩
      have HC3 : Hid (Coll okI S (fun z => left z ∧ z ≠ x) (zs ++ [x])) := HCo.out.step hx hlx hSx
      have hbl' : b ≠ w.heap.size + 1 := by omega
      have HA3 := hI3.apart hO3.1
      clear hI hO HCo HV hs3
      go_wp2_with (at_builtin; go_loud (refine wp_append_int_at rfl _ _ rfl w.heap.size w3 u5 zs x hO3.1 rfl rfl (by omega) hO3.2.2 ?_; intro v' w4 hr4 hg4 ha4))
      have hga : w3.grownBy w4 u5.ownBlock := ((World.grownBy_alloc w3 (.cells #[.int .i64 x] 3) none).but _).andThen hg4 (fun j e => .inr e)
      have hne : some b ≠ u5.ownBlock := row_ne_low hO3.1 hbl
      have hI4 := hI3.kept hga hne HA3
      have hr4' : w4.ownsRow w.heap.size 3 1 v' (zs ++ [x]).length ((zs ++ [x]).map (Value.int .i64)) := by simpa using hr4
      have hO4 : Own w.heap.size w w4 v' (zs ++ [x]) := ⟨hr4', hO3.2.1.grown hga hO3.2.2 (fun j hj => (hO3.1.lt j hj).1), Nat.le_trans hO3.2.2 hga.size⟩
      have HV4 : Hid (∃ a c, v' = .slice (some a) (zs ++ [x]).length c) := by
        rcases hr4'.2 with ⟨_, h0⟩ | ⟨g, cap, cur, e, _⟩
        · simp at h0
        · exact ⟨_, _, e⟩
      clear hr4 hg4 ha4 hga hI3 hO3 hg3
      go_wp2
      go_roundg cnt'
      case measure => omega
      case rel => exact ⟨_, v', zs ++ [x], rfl, hI4, hO4, by simp; omega, HC3, HV4⟩

end Go.Proofs.Ytlknegihhcdhbaa
