/- What functions of package slices answer over slices of ints. -/
import Derived.Test.YteeogdihaajicaaDoorOwn
import Derived.Test.YteeogdihaajicaaDoorNetBase
import Derived.Lib.AppendZeros
namespace Go.Proofs.YteeogdihaajicaaDoor
open Go.RowKit
set_option linter.unusedVariables false
set_option maxRecDepth 4000

set_option maxHeartbeats 400000 in
theorem grow_nil (n : Nat) (w : World) (hn : n ≤ 17592186044416) :
    Calls Tryd.prog 52 #[.slice none 0 0, .int .i64 n] w fun e w' => ∃ r, e = .returned r ∧ Own w.heap.size w w' r [] := by
  by_cases h0 : n = 0
  · subst h0
    go_enter Tryd.func52, Tryd.ntmps52
    go_wp2
    go_ret
    exact ⟨_, rfl, Own.nil _⟩
  · obtain ⟨i0, hi, hz0, hz1, hz2⟩ := info_parts info_int
    have hpos : 0 < n := by omega
    have hrun := fun ty => Lib.run_append_nil_zeros (P := Tryd.prog) w 41 3 ty 3 i0 (.int .i64 0) .i64 .i64 Tryd.underlying41 Tryd.underlying3 hi hz0 n hpos (by rw [hz1]; decide) (by omega) (by rw [hz2]; omega)
    have hge := grownCap_ge w n 0 3
    have hle := grownCap_le_maxLen w n 0 3 (by unfold maxLen; omega)
    have Hge : Hid (n ≤ grownCap w n 0 3) := hge
    have Hle : Hid (grownCap w n 0 3 ≤ maxLen) := hle
    have Hrun : Hid _ := hrun
    clear hrun hge hle hi hz0 hz1 hz2
    generalize grownCap w n 0 3 = cp at *
    go_enter Tryd.func52, Tryd.ntmps52
    go_wp2_with (at_builtin; refine Lib.wpList_append_run _ rfl _ _ _ _ rfl _ _ rfl rfl _ _ (Hrun.out _) ?_)
    go_ret
    refine ⟨_, rfl, ?_, ?_, ?_⟩
    · exact World.ownsRow.drew (World.ownsRow_made w _ _ (Nat.le_refl _) Hle.out (by have := Hge.out; simp [size_zeroCells]; omega))
    · exact (below_new w _).drew
    · simp

theorem flatten_take_succ (ls : List (List Int)) (k : Nat) (h : k < ls.length) : (ls.take (k + 1)).flatten = (ls.take k).flatten ++ ls.getD k [] := by
  rw [List.take_succ_eq_append_getElem h, List.flatten_append]
  simp [List.getD, List.getElem?_eq_getElem h]
theorem flatten_take_le (ls : List (List Int)) (k : Nat) : (ls.take k).flatten.length ≤ ls.flatten.length := by
  conv => rhs; rw [← List.take_append_drop k ls, List.flatten_append, List.length_append]
  omega

set_option maxHeartbeats 400000 in
theorem concat_own (v : Value) (ls : List (List Int)) (w : World) (h : Lists w v ls) (hb : ls.flatten.length ≤ 17592186044416) :
    Calls Tryd.prog 40 #[v] w fun e w' => ∃ r, e = .returned r ∧ Own w.heap.size w w' r ls.flatten := by
  obtain ⟨a, len, cap, rfl, hlen, hmx, hsh, hr⟩ := h
  have Hr : Hid _ := hr
  have Hb : Hid _ := hb
  clear hr hb
  go_enter Tryd.func40, Tryd.ntmps40
  go_wp2
  go_loop [3, 11] (fun s i => ∃ k : Nat, k ≤ len ∧ i = .int .i64 k ∧ s = .int .i64 ((ls.take k).flatten.length : Nat)) (fun _ i => len - (intOf i).toNat)
  case atStart => exact ⟨0, Nat.zero_le _, rfl, rfl⟩
  case round =>
    obtain ⟨k, hk, rfl, rfl⟩ := hrel
    have Hle : Hid _ := flatten_take_le ls k
    by_cases hkn : k < len
    · obtain ⟨b, off, u, rfl, hlt, hc, hu⟩ := Hr.out k (by omega)
      obtain ⟨ax, lx, cx, rfl, hlx, hmx2, hsx, hrx⟩ := hu
      have Hle2 := flatten_take_le ls (k + 1)
      have Hstep : Hid ((ls.take (k + 1)).flatten.length = (ls.take k).flatten.length + lx) := by
        show _ = _
        rw [flatten_take_succ ls k (by omega), List.length_append, hlx]
      obtain ⟨sz, Hsz⟩ : ∃ sz, Hid ((ls.take k).flatten.length = sz) := ⟨_, rfl⟩
      have hsz : sz + lx ≤ 17592186044416 := by have := Hb.out; have := Hstep.out; have := Hsz.out; omega
      rw [Hsz.out]
      clear Hle2 hlx hrx Hle
      go_wp2
      go_round
      case rel => exact ⟨k + 1, by omega, by go_num, by rw [Hstep.out, Hsz.out]; go_num⟩
      case measure => simp [intOf]; omega
    · have hkl : k = len := by omega
      have hf : ls.take k = ls := List.take_of_length_le (by omega)
      rw [hf]
      clear hf Hle
      obtain ⟨sz, Hsz⟩ : ∃ sz, Hid (ls.flatten.length = sz) := ⟨_, rfl⟩
      rw [Hsz.out]
      have hsz : sz ≤ 17592186044416 := by have := Hb.out; have := Hsz.out; omega
      go_wp2_with fail
      refine (grow_nil sz _ hsz).mono ?_
      rintro e w1 ⟨r, rfl, hG⟩
      go_wp2_with fail
      go_loopw [6, 27] (fun o i wr => ∃ k : Nat, k ≤ len ∧ i = .int .i64 k ∧ Own w.heap.size w wr o (ls.take k).flatten) (fun _ i _ => len - (intOf i).toNat)
      case atStart => exact ⟨0, Nat.zero_le _, rfl, hG⟩
      case round =>
        clear hG hk hkn hkl
        obtain ⟨j, hj, rfl, hG⟩ := hrel
        by_cases hjn : j < len
        · obtain ⟨b, off, u, rfl, hlt, hc, hu⟩ := Hr.out j (by omega)
          have hc' := (hG.2.1.cell (p := ⟨b, off + j, none⟩) hlt).trans hc
          have hu' := hu.below hG.2.1
          have Hle2 := flatten_take_le ls (j + 1)
          have Hst := flatten_take_succ ls j (by omega)
          have HL : Hid ((ls.take j).flatten.length + (ls.getD j []).length ≤ 17592186044416) := by
            have := Hb.out; rw [Hst, List.length_append] at Hle2; show _ ≤ _; omega
          have HS : Hid _ := Hst
          clear Hle2 Hst hc hu
          go_wp2_with (at_builtin; refine wp_append_ints rfl _ _ rfl w.heap.size w _ _ u _ _ hG rfl rfl hu' HL.out ?_; intro v' w2 hG')
          have R : Own w.heap.size w w2 v' (ls.take (j + 1)).flatten := by rw [HS.out]; exact hG'
          clear hG hG' hu' hc'
          go_wp2
          go_roundw
          case rel => exact ⟨j + 1, by omega, by go_num, R⟩
          case measure => simp [intOf]; omega
        · have hf : ls.take j = ls := List.take_of_length_le (by omega)
          rw [hf] at hG
          go_wp2
          go_ret
          exact ⟨_, rfl, hG⟩

theorem concat_any (v : Value) (ls : List (List Int)) (w : World) (h : Lists w v ls) (hb : ls.flatten.length ≤ 17592186044416) :
    Calls Tryd.prog 40 #[v] w fun e w' => ∃ r, e = .returned r ∧ Ints w' r ls.flatten ∧ Below w.heap.size w w' :=
  (concat_own v ls w h hb).mono fun e w' ⟨r, he, hO⟩ => ⟨r, he, hO.ints hb, hO.2.1⟩

end Go.Proofs.YteeogdihaajicaaDoor
