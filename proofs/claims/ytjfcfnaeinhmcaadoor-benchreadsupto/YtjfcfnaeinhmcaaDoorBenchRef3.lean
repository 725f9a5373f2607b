/- The document's own reading of a log: XLog. -/
import Derived.Test.YtjfcfnaeinhmcaaDoorBenchDev4
import Derived.Lib.ConvBytes
import Derived.Lib.AtoiErrMem
namespace Go.Proofs.YtjfcfnaeinhmcaaDoor
open Go.RowKit
set_option linter.unusedVariables false
set_option linter.unusedSimpArgs false
set_option maxRecDepth 4000

theorem bytes_of (s : Bytes) (w : World) : ∃ w1 cap, (convert 9 40 (.string (bs s))).run Tryd.prog w = .ok (.slice (some ⟨w.heap.size, 0, none⟩) s.length cap) w1 ∧ Below w.heap.size w w1 ∧ w.heap.size < w1.heap.size ∧
    ∀ j x, s[j]? = some x → w1.cell? ⟨w.heap.size, j, none⟩ = some (.int .u8 (x.toNat : Int)) := by
  refine ⟨Lib.bytesWorld w 5 (bs s), grownCap w (bs s).size 0 5, ?_, Lib.bytesWorld_below _ _ _, by rw [Lib.bytesWorld_size]; omega, fun j x h => ?_⟩
  · rw [Lib.run_convert_string_bytes w 9 40 5 (bs s) Tryd.underlying9 Tryd.underlying40 Tryd.underlying5, bs_size]
  · have hj : j < s.length := (List.getElem?_eq_some_iff.1 h).1
    rw [Lib.bytesWorld_cell w 5 (bs s) j (by rw [bs_size]; exact hj), bs_list, List.getD_eq_getElem?_getD, h]
    rfl
theorem word_snoc (t : List Int) (c : UInt8) (hc : isLet c) : wordT (t ++ [valW c]) = wordT t ++ [c] := by
  unfold wordT
  rw [List.map_append, List.map_cons, List.map_nil, letter_val hc]
theorem log_last {l : List (List Int)} (h : l ≠ []) : ∃ X, logT l = X ++ [10] := by
  obtain ⟨m, t, rfl⟩ : ∃ m t, l = m ++ [t] := ⟨l.dropLast, l.getLast h, (List.dropLast_concat_getLast h).symm⟩
  rw [logT_append]
  exact ⟨logT m ++ wordT t, by show logT m ++ (wordT t ++ 10 :: []) = _; simp⟩
theorem at_last {X : Bytes} {c : UInt8} {n : Nat} (h : (X ++ [c]).length = n) : (X ++ [c])[n - 1]? = some c := by
  subst h
  simp

set_option maxHeartbeats 8000000 in
theorem xlog_any (s : Bytes) (w : World) (hs : s.length ≤ 1048576) :
    Calls Tryd.prog 7 #[.string (bs s)] w fun e w' => LogOut s w' e ∧ Below w.heap.size w w' := by
  have z1 : (bs s).size = s.length := bs_size s
  obtain ⟨w1, cap, hcv, bc, hlt, hcell⟩ := bytes_of s w
  obtain ⟨n, Hn⟩ : ∃ z, Hid (s.length = z) := ⟨_, rfl⟩
  rw [Hn.out] at hs z1 hcv
  have Hcell : Hid (∀ j x, s[j]? = some x → w1.cell? ⟨w.heap.size, j, none⟩ = some (.int .u8 (x.toNat : Int))) := hcell
  obtain ⟨Z, HZ⟩ : ∃ z, Hid (w.heap.size = z) := ⟨_, rfl⟩
  rw [HZ.out] at hcv hlt Hcell
  clear hcell
  go_enter Tryd.func7, Tryd.ntmps7
  go_upto_region 4 with fail
  clear hcv
  go_loopg [5, 6, 12] n (fun gk r5 r6 r12 wr => ∃ (k : Nat) (pre : List (List Int)) (now : List Int) (cs : List (Value × List Int)) (wn : World), k + gk = n ∧ r12 = .int .i64 (k : Int) ∧ LsOut w1.heap.size w1 wn r5 cs ∧ Own wn.heap.size wn wr r6 now ∧ Hid (cs.map (·.2) = pre) ∧ Hid (∀ t ∈ pre, TraceOk t) ∧ Hid (TraceOk now) ∧ Hid (s = logT pre ++ (wordT now ++ s.drop k)))
  case atStart => exact ⟨0, [], [], [], w1, by omega, rfl, LsOut.start _ (Below.refl _ _) (Nat.le_refl _), Own.nil w1, rfl, fun t ht => absurd ht (by simp), fun z hz => absurd hz (by simp), rfl⟩
  case round =>
    obtain ⟨k, pre, now, cs, wn, hg, rfl, hO0, hN, Hcs, Hok, Hnow, HS⟩ := hrel
    obtain ⟨g1, rfl⟩ : ∃ z, z = gk := ⟨_, rfl⟩
    have hO := hO0.to hN.2.1
    have hb := hO.below
    have hbw := below_then bc hb
    have hsl : pre.length + now.length ≤ 1048576 := by
      have h1 := congrArg List.length HS.out
      rw [List.length_append, List.length_append] at h1
      have h2 := logT_len pre
      have h3 : (wordT now).length = now.length := List.length_map ..
      have h4 := Hn.out
      omega
    have hcl : cs.length = pre.length := by rw [← Hcs.out, List.length_map]
    have hLs := hO.lists (by omega)
    rw [Hcs.out] at hLs
    have HLs : Hid (Lists wr _ pre) := hLs
    obtain ⟨oa, ol, oc, rfl, hol, _⟩ := id hLs
    obtain ⟨na, nl, nc, rfl⟩ := hN.slice
    obtain ⟨m, Hm⟩ : ∃ z, Hid (pre.length = z) := ⟨_, rfl⟩
    rw [Hm.out] at hsl hcl hol
    subst hol
    have hB := hO0.size
    have HLt : Hid (∀ q, some q = (Value.slice oa m oc).ownBlock → q < wn.heap.size) := fun q e => (ownsRow_lt hO0.own e.symm).2
    have HO : Hid (LsOut w1.heap.size w1 wn (.slice oa m oc) cs) := hO0
    clear hLs hO0
    by_cases hk : k < n
    · obtain ⟨c, hc⟩ : ∃ x, s[k]? = some x := ⟨_, List.getElem?_eq_getElem (by rw [Hn.out]; exact hk)⟩
      have hcc := (hb.cell (p := ⟨Z, k, none⟩) hlt).trans (Hcell.out k c hc)
      have HD : Hid (s.drop k = c :: s.drop (k + 1)) := by
        obtain ⟨h1, h2⟩ := List.getElem?_eq_some_iff.1 hc
        show _ = _
        rw [List.drop_eq_getElem_cons h1, h2]
      have HN8 : Hid (c.toNat < 256) := UInt8.toNat_lt c
      obtain ⟨N, HNc⟩ : ∃ z, Hid (c.toNat = z) := ⟨_, rfl⟩
      rw [HNc.out] at hcc HN8
      clear hc
      by_cases h10 : c = 10
      · have n1 : ((N : Int) == 10) = true := by rw [← HNc.out, h10]; rfl
        have HS2 : Hid (s = logT (pre ++ [now]) ++ (wordT [] ++ s.drop (k + 1))) := by
          show _ = _
          have h1 := HS.out
          rw [HD.out, h10, logT_snoc] at h1
          exact h1
        have Hok2 : Hid (∀ t ∈ pre ++ [now], TraceOk t) := fun t ht => by
          rcases List.mem_append.1 ht with h | h
          · exact Hok.out t h
          · rw [List.mem_singleton.1 h]; exact Hnow.out
        have hon := (hN.on (by omega)).weaken (D' := fun q => w1.heap.size ≤ q ∧ some q ≠ (Value.slice oa m oc).ownBlock) (fun q _ hq => ⟨Nat.le_trans hB hq, fun e => by have := HLt.out q e; omega⟩)
        clear h10
        go_upto_region 11 with (at_builtin; refine wp_append_ls rfl _ _ rfl w1.heap.size w1 wr _ cs now na nl nc hO hon rfl rfl (by omega) ?_; intro v' w5 hO5 b5; obtain ⟨oa', ol', oc', rfl⟩ := hO5.slice)
        have HO5 : Hid (LsOut w1.heap.size w1 w5 (.slice oa' ol' oc') (cs ++ [(.slice na nl nc, now)])) := hO5
        have Hcs2 : Hid ((cs ++ [((.slice na nl nc : Value), now)]).map (·.2) = pre ++ [now]) := by show _ = _; rw [List.map_append, Hcs.out]; rfl
        clear hO hN hO5 hon hcc n1
        go_wp2
        go_roundg (g1 - 1)
        case measure => omega
        case rel => exact ⟨k + 1, pre ++ [now], [], _, w5, by omega, by go_num, HO5.out, Own.nil w5, Hcs2, Hok2.out, fun z hz => absurd hz (by simp), HS2⟩
      · have n1 : ((N : Int) == 10) = false := by
          rw [beq_eq_false_iff_ne]
          intro q
          apply h10
          apply UInt8.toNat_inj.1
          rw [HNc.out]
          show N = 10
          omega
        by_cases hl : isLet c
        · have hN1 : 97 ≤ N ∧ N ≤ 122 := by have := HNc.out; unfold isLet at hl; omega
          have n2 : decide ((N : Int) < 97) = false := by rw [decide_eq_false_iff_not]; omega
          have n3 : decide ((N : Int) > 122) = false := by rw [decide_eq_false_iff_not]; omega
          have HV : Hid (valW c = (N : Int) - 96) := by show _ = _; unfold valW; rw [HNc.out]
          have e1 : IntKind.i64.wrap ((N : Int) - 96) = (N : Int) - 96 := Go.IntWalk.i64_in _ ⟨by omega, by omega⟩
          have e2 : IntKind.i64.wrap (N : Int) = (N : Int) := Go.IntWalk.i64_in _ ⟨by omega, by omega⟩
          have HS2 : Hid (s = logT pre ++ (wordT (now ++ [(N : Int) - 96]) ++ s.drop (k + 1))) := by
            show _ = _
            have h1 := HS.out
            rw [HD.out] at h1
            rw [← HV.out, word_snoc now c hl]
            simpa using h1
          have Hnow2 : Hid (TraceOk (now ++ [(N : Int) - 96])) := fun z hz => by
            rcases List.mem_append.1 hz with h | h
            · exact Hnow.out z h
            · rw [List.mem_singleton.1 h]; omega
          clear hl h10 hO
          go_upto_region 11 with (at_builtin; refine wp_append_int rfl _ _ rfl wn.heap.size wn wr _ now ((N : Int) - 96) hN rfl rfl (by omega) ?_; intro v' w5 hN5; obtain ⟨na', nl', nc', rfl⟩ := hN5.slice)
          have HN5 : Hid (Own wn.heap.size wn w5 (.slice na' nl' nc') (now ++ [(N : Int) - 96])) := hN5
          clear hN hN5 hcc n1 n2 n3 e1 e2
          go_wp2
          go_roundg (g1 - 1)
          case measure => omega
          case rel => exact ⟨k + 1, pre, _, cs, wn, by omega, by go_num, HO.out, HN5.out, Hcs, Hok, Hnow2.out, HS2⟩
        · have Hbad : Hid (BadLine (wordT now ++ s.drop k)) := by rw [HD.out]; exact bad_char (word_let Hnow.out) hl h10
          have hor : N < 97 ∨ 122 < N := by have := HNc.out; unfold isLet at hl; omega
          clear hl h10 hO hN
          by_cases h97 : N < 97
          · have n2 : decide ((N : Int) < 97) = true := by rw [decide_eq_true_eq]; omega
            clear h97 hor
            go_wp2
            go_ret3
            exact ⟨log_no Hok.out HS.out Hbad.out (by rw [Hm.out]), hbw⟩
          · have n2 : decide ((N : Int) < 97) = false := by rw [decide_eq_false_iff_not]; omega
            have n3 : decide ((N : Int) > 122) = true := by rw [decide_eq_true_eq]; omega
            clear h97 hor
            go_wp2
            go_ret3
            exact ⟨log_no Hok.out HS.out Hbad.out (by rw [Hm.out]), hbw⟩
    · have hkn : k = n := by omega
      have HS1 : Hid (s = logT pre ++ wordT now) := by
        have h1 := HS.out
        rw [List.drop_of_length_le (by rw [Hn.out]; omega), List.append_nil] at h1
        exact h1
      subst hkn
      clear hO hN
      by_cases hnow : now = []
      · have HL : Hid (LogIs s pre 0 0) := .inl ⟨rfl, rfl, Hok.out, by have h1 := HS1.out; rw [hnow] at h1; simpa [wordT] using h1⟩
        by_cases h0 : k = 0
        · subst h0
          clear hnow
          go_wp2
          go_ret3
          exact ⟨⟨_, pre, 0, 0, rfl, HLs.out, HL.out⟩, hbw⟩
        · have n1 : decide ((k : Int) > 0) = true := by rw [decide_eq_true_eq]; omega
          have hx : s[k - 1]? = some 10 := by
            have h1 := HS1.out
            rw [hnow] at h1
            have hp : pre ≠ [] := by
              intro q
              rw [q] at h1
              have := congrArg List.length h1
              rw [Hn.out] at this
              exact h0 (by simpa [wordT, logT] using this)
            obtain ⟨X, hX⟩ := log_last hp
            have h2 : s = X ++ [10] := by rw [h1, hX]; simp [wordT]
            rw [h2]
            exact at_last (by rw [← h2, Hn.out])
          have hIx := fun w => str_at hx w
          have e0 : ((10 : UInt8).toNat : Int) = 10 := rfl
          rw [e0] at hIx
          have e1 : IntKind.i64.wrap ((k : Int) - 1) = ((k - 1 : Nat) : Int) := by rw [show (k : Int) - 1 = ((k - 1 : Nat) : Int) by omega]; exact Go.IntWalk.i64_in _ ⟨by omega, by omega⟩
          have hk0 : 0 < k := by omega
          clear hnow h0 hx e0
          go_wp2
          go_ret3
          exact ⟨⟨_, pre, 0, 0, rfl, HLs.out, HL.out⟩, hbw⟩
      · have Hbad : Hid (BadLine (wordT now)) := bad_end (by intro q; exact hnow (List.map_eq_nil_iff.1 q)) (word_no10 Hnow.out)
        obtain ⟨t, z, ht⟩ : ∃ t z, now = t ++ [z] := ⟨now.dropLast, now.getLast hnow, (List.dropLast_concat_getLast hnow).symm⟩
        have hz := Hnow.out z (by rw [ht]; simp)
        have hzl := letter_at hz.1 hz.2
        have h2 : s = (logT pre ++ wordT t) ++ [letterT z] := by rw [HS1.out, ht]; unfold wordT; simp
        have hk0 : 0 < k := by have := Hn.out; rw [h2] at this; simp at this; omega
        have hx : s[k - 1]? = some (letterT z) := by
          rw [h2]
          exact at_last (by rw [← h2, Hn.out])
        have hIx := fun w => str_at hx w
        obtain ⟨V, HV⟩ : ∃ q, Hid ((letterT z).toNat = q) := ⟨_, rfl⟩
        rw [HV.out] at hIx hzl
        have n1 : decide ((k : Int) > 0) = true := by rw [decide_eq_true_eq]; omega
        have n2 : ((V : Int) != 10) = true := by rw [bne_iff_ne]; omega
        have e1 : IntKind.i64.wrap ((k : Int) - 1) = ((k - 1 : Nat) : Int) := by rw [show (k : Int) - 1 = ((k - 1 : Nat) : Int) by omega]; exact Go.IntWalk.i64_in _ ⟨by omega, by omega⟩
        clear hnow hx h2 ht hz hzl
        go_wp2
        go_ret3
        exact ⟨log_no Hok.out HS1.out Hbad.out (by rw [Hm.out]), hbw⟩

end Go.Proofs.YtjfcfnaeinhmcaaDoor
