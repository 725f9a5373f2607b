import Derived.Test.YtlknegihhcdhbaaGr07
import Derived.Test.YtlknegihhcdhbaaGr00
/- What functions of package slices answer over slices of []int: Clone, Grow, Concat. (Made by tools/gen_rows.py.) -/
namespace Go.Proofs.Ytlknegihhcdhbaa
open Go.RowKit
set_option linter.unusedVariables false
set_option linter.unusedSimpArgs false
set_option maxRecDepth 4000

theorem info_rls : (Try.prog.info? 23).map (fun i => (i.zero, i.size, i.bytes)) = some (some (.slice none 0 0), 1, 24) := by kernel_rfl

theorem elem_rls : ElemT 22 23 1 24 := ElemT.of Try.underlying22 info_rls rfl (by decide)

set_option maxHeartbeats 400000 in
theorem grow_rls (n : Nat) (w : World) (hn : n ≤ 5864062014805) :
    Calls Try.prog 46 #[.slice none 0 0, .int .i64 n] w fun e w' => ∃ r, e = .returned r ∧ OwnC w.heap.size w w' 23 1 r 0 [] := by
  by_cases h0 : n = 0
  · subst h0
    go_enter Try.func46, Try.ntmps46
    go_wp2
    go_ret
    exact ⟨_, rfl, OwnC.nil _ _ _⟩
  · obtain ⟨i0, hi, hz0, hz1, hz2⟩ := info_parts info_rls
    have hpos : 0 < n := by omega
    have hrun := fun ty => Lib.run_append_nil_zeros (P := Try.prog) w 22 3 ty 23 i0 (.slice none 0 0) .i64 .i64 Try.underlying22 Try.underlying3 hi hz0 n hpos (by rw [hz1]; decide) (by omega) (by rw [hz2]; omega)
    have hge := grownCap_ge w n 0 23
    have hle := grownCap_le_maxLen w n 0 23 (by unfold maxLen; omega)
    have Hge : Hid (n ≤ grownCap w n 0 23) := hge
    have Hle : Hid (grownCap w n 0 23 ≤ maxLen) := hle
    have Hrun : Hid _ := hrun
    clear hrun hge hle hi hz0 hz1 hz2
    generalize grownCap w n 0 23 = cp at *
    go_enter Try.func46, Try.ntmps46
    go_wp2_with (at_builtin; refine Lib.wpList_append_run _ rfl _ _ _ _ rfl _ _ rfl rfl _ _ (Hrun.out _) ?_)
    go_ret
    refine ⟨_, rfl, ?_, ?_, ?_⟩
    · exact World.ownsRow.drew (World.ownsRow_made w _ _ (Nat.le_refl _) Hle.out (by have := Hge.out; simp [size_zeroCells, Value.cells]; omega))
    · exact (below_new w _).drew
    · simp

set_option maxHeartbeats 400000 in
theorem concat_rls (v : Value) (ls : List (Nat × List Value)) (w : World) (h : LisC w v 1 5864062014805 ls) (hb : catN ls ls.length ≤ 5864062014805) :
    Calls Try.prog 16 #[v] w fun e w' => ∃ r, e = .returned r ∧ OwnC w.heap.size w w' 23 1 r (catN ls ls.length) (catC ls ls.length) := by
  obtain ⟨a, len, cap, rfl, hlen, hmx, hsh, hr⟩ := h
  have Hr : Hid _ := hr
  have Hb : Hid _ := hb
  have Hlen : Hid (ls.length = len) := hlen
  clear hr hb hlen
  rw [Hlen.out]
  go_enter Try.func16, Try.ntmps16
  go_wp2
  go_loopg [3, 11] len (fun gk s i wr => ∃ k : Nat, k + gk = len ∧ i = .int .i64 k ∧ s = .int .i64 (catN ls k : Nat) ∧ w = wr)
  case atStart => exact ⟨0, by omega, rfl, rfl, rfl⟩
  case round =>
    obtain ⟨k, hk, rfl, rfl, rfl⟩ := hrel
    have Hle : Hid _ := catN_le (ls := ls) (k := k) (by rw [Hlen.out]; omega)
    by_cases hkn : k < len
    · obtain ⟨b, off, u, rfl, hlt, hc, hu⟩ := Hr.out k (by rw [Hlen.out]; omega)
      obtain ⟨ax, cx, hux, _, _, hmx2, hsx, _⟩ := id hu
      have Hst : Hid (catN ls (k + 1) = catN ls k + (atC ls k).1) := catN_succ (by rw [Hlen.out]; exact hkn)
      have Hle2 : Hid _ := catN_le (ls := ls) (k := k + 1) (by rw [Hlen.out]; omega)
      obtain ⟨sz, Hsz⟩ : ∃ sz, Hid (catN ls k = sz) := ⟨_, rfl⟩
      obtain ⟨lx, Hlx⟩ : ∃ sz, Hid ((atC ls k).1 = sz) := ⟨_, rfl⟩
      have hsz : sz + lx ≤ 5864062014805 := by have := Hb.out; have := Hle2.out; have := Hst.out; have := Hsz.out; have := Hlx.out; omega
      rw [Hlx.out] at hux
      subst hux
      rw [Hsz.out]
      clear hu hmx2 hsx
      go_wp2
      go_roundg (gk - 1)
      case measure => omega
      case rel => exact ⟨k + 1, by omega, by go_num, by rw [Hst.out, Hsz.out, Hlx.out]; go_num, rfl⟩
    · obtain rfl : k = len := by omega
      have Htot : Hid (catN ls ls.length ≤ 5864062014805) := Hb.out
      rw [Hlen.out] at Htot
      obtain ⟨sz, Hsz⟩ : ∃ sz, Hid (catN ls k = sz) := ⟨_, rfl⟩
      rw [Hsz.out] at Htot ⊢
      have hsz : sz ≤ 5864062014805 := Htot.out
      go_wp2_with fail
      refine (grow_rls sz _ hsz).mono ?_
      rintro e w1 ⟨r, rfl, hG⟩
      go_wp2_with fail
      go_loopg [6, 27] k (fun gk o i wr => ∃ j : Nat, j + gk = k ∧ i = .int .i64 j ∧ OwnC w.heap.size w wr 23 1 o (catN ls j) (catC ls j))
      case atStart => exact ⟨0, by omega, rfl, by simpa [catN, catC] using hG⟩
      case round =>
        clear hG hkn
        obtain ⟨j, hj, rfl, hG⟩ := hrel
        by_cases hjn : j < k
        · obtain ⟨b, off, u, rfl, hlt, hc, hu⟩ := Hr.out j (by rw [Hlen.out]; omega)
          have hc' := (hG.2.1.cell (p := ⟨b, off + j, none⟩) hlt).trans hc
          have hu' := hu.below hG.2.1
          have Hst : Hid (catN ls (j + 1) = catN ls j + (atC ls j).1) := catN_succ (by rw [Hlen.out]; exact hjn)
          have Hst2 : Hid (catC ls (j + 1) = catC ls j ++ (atC ls j).2) := catC_succ (by rw [Hlen.out]; exact hjn)
          have Hle2 : Hid _ := catN_le (ls := ls) (k := j + 1) (by rw [Hlen.out]; omega)
          have HL : Hid (catN ls j + (atC ls j).1 ≤ 5864062014805) := by
            have := Hb.out; have := Hle2.out; rw [Hst.out] at this; show _ ≤ _; omega
          obtain ⟨sj, Hsj⟩ : ∃ sz, Hid (catN ls j = sz) := ⟨_, rfl⟩
          obtain ⟨lj, Hlj⟩ : ∃ sz, Hid ((atC ls j).1 = sz) := ⟨_, rfl⟩
          rw [Hsj.out] at hG HL Hst
          rw [Hlj.out] at hu' HL Hst
          have HL1 : Hid (sj + lj ≤ maxLen) := by have := HL.out; show _ ≤ _; unfold maxLen; omega
          have HL2 : Hid ((sj + lj) * 24 ≤ 140737488355328) := by have := HL.out; show _ ≤ _; omega
          clear hc hu
          go_wp2_with (at_builtin; refine wp_append_cells elem_rls rfl _ _ rfl w.heap.size w _ _ u sj lj 5864062014805 (catC ls j) (atC ls j).2 hG rfl rfl hu' HL1.out HL2.out ?_; intro v' w2 hG' _)
          have R : OwnC w.heap.size w w2 23 1 v' (catN ls (j + 1)) (catC ls (j + 1)) := by rw [Hst.out, Hst2.out]; exact hG'
          clear hG hG' hu' hc'
          go_wp2
          go_roundg (gk - 1)
          case measure => omega
          case rel => exact ⟨j + 1, by omega, by go_num, R⟩
        · obtain rfl : j = k := by omega
          go_wp2
          go_ret
          exact ⟨_, rfl, hG⟩

end Go.Proofs.Ytlknegihhcdhbaa

/- What functions of package slices answer over slices of [2]int: Clone, Grow, Concat. (Made by tools/gen_rows.py.) -/
namespace Go.Proofs.Ytlknegihhcdhbaa
open Go.RowKit
set_option linter.unusedVariables false
set_option linter.unusedSimpArgs false
set_option maxRecDepth 4000

theorem info_rq : (Try.prog.info? 38).map (fun i => (i.zero, i.size, i.bytes)) = some (some (.agg #[.int .i64 0, .int .i64 0]), 2, 16) := by kernel_rfl

theorem elem_rq : ElemT 24 38 2 16 := ElemT.of Try.underlying24 info_rq rfl (by decide)

set_option maxHeartbeats 400000 in
theorem grow_rq (n : Nat) (w : World) (hn : n ≤ 8796093022208) :
    Calls Try.prog 47 #[.slice none 0 0, .int .i64 n] w fun e w' => ∃ r, e = .returned r ∧ OwnC w.heap.size w w' 38 2 r 0 [] := by
  by_cases h0 : n = 0
  · subst h0
    go_enter Try.func47, Try.ntmps47
    go_wp2
    go_ret
    exact ⟨_, rfl, OwnC.nil _ _ _⟩
  · obtain ⟨i0, hi, hz0, hz1, hz2⟩ := info_parts info_rq
    have hpos : 0 < n := by omega
    have hrun := fun ty => Lib.run_append_nil_zeros (P := Try.prog) w 24 3 ty 38 i0 (.agg #[.int .i64 0, .int .i64 0]) .i64 .i64 Try.underlying24 Try.underlying3 hi hz0 n hpos (by rw [hz1]; decide) (by omega) (by rw [hz2]; omega)
    have hge := grownCap_ge w n 0 38
    have hle := grownCap_le_maxLen w n 0 38 (by unfold maxLen; omega)
    have Hge : Hid (n ≤ grownCap w n 0 38) := hge
    have Hle : Hid (grownCap w n 0 38 ≤ maxLen) := hle
    have Hrun : Hid _ := hrun
    clear hrun hge hle hi hz0 hz1 hz2
    generalize grownCap w n 0 38 = cp at *
    go_enter Try.func47, Try.ntmps47
    go_wp2_with (at_builtin; refine Lib.wpList_append_run _ rfl _ _ _ _ rfl _ _ rfl rfl _ _ (Hrun.out _) ?_)
    go_ret
    refine ⟨_, rfl, ?_, ?_, ?_⟩
    · exact World.ownsRow.drew (World.ownsRow_made w _ _ (Nat.le_refl _) Hle.out (by have := Hge.out; simp [size_zeroCells, Value.cells]; omega))
    · exact (below_new w _).drew
    · simp

set_option maxHeartbeats 400000 in
theorem concat_rq (v : Value) (ls : List (Nat × List Value)) (w : World) (h : LisC w v 2 8796093022208 ls) (hb : catN ls ls.length ≤ 8796093022208) :
    Calls Try.prog 17 #[v] w fun e w' => ∃ r, e = .returned r ∧ OwnC w.heap.size w w' 38 2 r (catN ls ls.length) (catC ls ls.length) := by
  obtain ⟨a, len, cap, rfl, hlen, hmx, hsh, hr⟩ := h
  have Hr : Hid _ := hr
  have Hb : Hid _ := hb
  have Hlen : Hid (ls.length = len) := hlen
  clear hr hb hlen
  rw [Hlen.out]
  go_enter Try.func17, Try.ntmps17
  go_wp2
  go_loopg [3, 11] len (fun gk s i wr => ∃ k : Nat, k + gk = len ∧ i = .int .i64 k ∧ s = .int .i64 (catN ls k : Nat) ∧ w = wr)
  case atStart => exact ⟨0, by omega, rfl, rfl, rfl⟩
  case round =>
    obtain ⟨k, hk, rfl, rfl, rfl⟩ := hrel
    have Hle : Hid _ := catN_le (ls := ls) (k := k) (by rw [Hlen.out]; omega)
    by_cases hkn : k < len
    · obtain ⟨b, off, u, rfl, hlt, hc, hu⟩ := Hr.out k (by rw [Hlen.out]; omega)
      obtain ⟨ax, cx, hux, _, _, hmx2, hsx, _⟩ := id hu
      have Hst : Hid (catN ls (k + 1) = catN ls k + (atC ls k).1) := catN_succ (by rw [Hlen.out]; exact hkn)
      have Hle2 : Hid _ := catN_le (ls := ls) (k := k + 1) (by rw [Hlen.out]; omega)
      obtain ⟨sz, Hsz⟩ : ∃ sz, Hid (catN ls k = sz) := ⟨_, rfl⟩
      obtain ⟨lx, Hlx⟩ : ∃ sz, Hid ((atC ls k).1 = sz) := ⟨_, rfl⟩
      have hsz : sz + lx ≤ 8796093022208 := by have := Hb.out; have := Hle2.out; have := Hst.out; have := Hsz.out; have := Hlx.out; omega
      rw [Hlx.out] at hux
      subst hux
      rw [Hsz.out]
      clear hu hmx2 hsx
      go_wp2
      go_roundg (gk - 1)
      case measure => omega
      case rel => exact ⟨k + 1, by omega, by go_num, by rw [Hst.out, Hsz.out, Hlx.out]; go_num, rfl⟩
    · obtain rfl : k = len := by omega
      have Htot : Hid (catN ls ls.length ≤ 8796093022208) := Hb.out
      rw [Hlen.out] at Htot
      obtain ⟨sz, Hsz⟩ : ∃ sz, Hid (catN ls k = sz) := ⟨_, rfl⟩
      rw [Hsz.out] at Htot ⊢
      have hsz : sz ≤ 8796093022208 := Htot.out
      go_wp2_with fail
      refine (grow_rq sz _ hsz).mono ?_
      rintro e w1 ⟨r, rfl, hG⟩
      go_wp2_with fail
      go_loopg [6, 27] k (fun gk o i wr => ∃ j : Nat, j + gk = k ∧ i = .int .i64 j ∧ OwnC w.heap.size w wr 38 2 o (catN ls j) (catC ls j))
      case atStart => exact ⟨0, by omega, rfl, by simpa [catN, catC] using hG⟩
      case round =>
        clear hG hkn
        obtain ⟨j, hj, rfl, hG⟩ := hrel
        by_cases hjn : j < k
        · obtain ⟨b, off, u, rfl, hlt, hc, hu⟩ := Hr.out j (by rw [Hlen.out]; omega)
          have hc' := (hG.2.1.cell (p := ⟨b, off + j, none⟩) hlt).trans hc
          have hu' := hu.below hG.2.1
          have Hst : Hid (catN ls (j + 1) = catN ls j + (atC ls j).1) := catN_succ (by rw [Hlen.out]; exact hjn)
          have Hst2 : Hid (catC ls (j + 1) = catC ls j ++ (atC ls j).2) := catC_succ (by rw [Hlen.out]; exact hjn)
          have Hle2 : Hid _ := catN_le (ls := ls) (k := j + 1) (by rw [Hlen.out]; omega)
          have HL : Hid (catN ls j + (atC ls j).1 ≤ 8796093022208) := by
            have := Hb.out; have := Hle2.out; rw [Hst.out] at this; show _ ≤ _; omega
          obtain ⟨sj, Hsj⟩ : ∃ sz, Hid (catN ls j = sz) := ⟨_, rfl⟩
          obtain ⟨lj, Hlj⟩ : ∃ sz, Hid ((atC ls j).1 = sz) := ⟨_, rfl⟩
          rw [Hsj.out] at hG HL Hst
          rw [Hlj.out] at hu' HL Hst
          have HL1 : Hid (sj + lj ≤ maxLen) := by have := HL.out; show _ ≤ _; unfold maxLen; omega
          have HL2 : Hid ((sj + lj) * 16 ≤ 140737488355328) := by have := HL.out; show _ ≤ _; omega
          clear hc hu
          go_wp2_with (at_builtin; refine wp_append_cells elem_rq rfl _ _ rfl w.heap.size w _ _ u sj lj 8796093022208 (catC ls j) (atC ls j).2 hG rfl rfl hu' HL1.out HL2.out ?_; intro v' w2 hG' _)
          have R : OwnC w.heap.size w w2 38 2 v' (catN ls (j + 1)) (catC ls (j + 1)) := by rw [Hst.out, Hst2.out]; exact hG'
          clear hG hG' hu' hc'
          go_wp2
          go_roundg (gk - 1)
          case measure => omega
          case rel => exact ⟨j + 1, by omega, by go_num, R⟩
        · obtain rfl : j = k := by omega
          go_wp2
          go_ret
          exact ⟨_, rfl, hG⟩

end Go.Proofs.Ytlknegihhcdhbaa
