/- Package bench: Log. -/
import Derived.Test.YtjfcfnaeinhmcaaDoorBenchDev3
namespace Go.Proofs.YtjfcfnaeinhmcaaDoor
open Go.RowKit
set_option linter.unusedVariables false
set_option linter.unusedSimpArgs false
set_option maxRecDepth 4000

/-- What Log answers, in memory. -/
def LogOut (s : Bytes) (w' : World) (e : Ending) : Prop := ∃ v ls k d, e = .returned (.tuple #[v, .int .i64 k, .int .i64 d]) ∧ Lists w' v ls ∧ LogIs s ls k d
theorem lists_none (w : World) : Lists w (.slice none 0 0) [] := ⟨none, 0, 0, rfl, rfl, by omega, ⟨Nat.le_refl _, by omega, fun _ => rfl⟩, fun j hj => absurd hj (Nat.not_lt_zero _)⟩
theorem log_no {s R : Bytes} {pre : List (List Int)} {w' : World} {k : Int} (h1 : ∀ t ∈ pre, TraceOk t) (h2 : s = logT pre ++ R) (h3 : BadLine R) (h4 : k = (pre.length : Int)) : LogOut s w' (.returned (.tuple #[.slice none 0 0, .int .i64 k, .int .i64 1])) :=
  ⟨_, _, _, _, rfl, lists_none _, .inr ⟨rfl, rfl, pre, R, h1, h2, h3, h4⟩⟩
theorem logT_len (l : List (List Int)) : l.length ≤ (logT l).length := by
  induction l with
  | nil => exact Nat.le_refl _
  | cons t l ih =>
    show l.length + 1 ≤ (wordT t ++ 10 :: logT l).length
    simp
    omega

set_option maxHeartbeats 8000000 in
theorem log_any (s : Bytes) (w : World) (hv : VarM w) (hs : s.length ≤ 1048576) :
    Calls Tryd.prog 6 #[.string (bs s)] w fun e w' => LogOut s w' e ∧ Below w.heap.size w w' := by
  have Hs : Hid (s.length ≤ 1048576) := hs
  clear hs
  go_enter Tryd.func6, Tryd.ntmps6
  go_upto_region 2 with fail
  go_loopg [0, 5] (s.length) (fun gk r0 r5 wr => ∃ (R : Bytes) (pre : List (List Int)) (cs : List (Value × List Int)), r0 = .string (bs R) ∧ gk = R.length ∧ LsOut w.heap.size w wr r5 cs ∧ Hid (cs.map (·.2) = pre) ∧ (∀ t ∈ pre, TraceOk t) ∧ Hid (s = logT pre ++ R))
  case atStart => exact ⟨s, [], [], rfl, rfl, LsOut.start _ (Below.refl _ _) (Nat.le_refl _), rfl, fun t ht => absurd ht (by simp), rfl⟩
  case round =>
    obtain ⟨R, pre, cs, rfl, hg, hO, Hcs, hok, HS⟩ := hrel
    obtain ⟨g1, rfl⟩ : ∃ z, z = gk := ⟨_, rfl⟩
    have Hok : Hid (∀ t ∈ pre, TraceOk t) := hok
    have hsl : pre.length + R.length ≤ 1048576 := by
      have h1 := congrArg List.length HS.out
      rw [List.length_append] at h1
      have h2 := logT_len pre
      have h3 := Hs.out
      omega
    have hcl : cs.length = pre.length := by rw [← Hcs.out, List.length_map]
    have hLs := hO.lists (by omega)
    rw [Hcs.out] at hLs
    have HLs : Hid (Lists wr _ pre) := hLs
    obtain ⟨oa, ol, oc, rfl, hol, _⟩ := id hLs
    have hb := hO.below
    have hvr := hv.below hb
    obtain ⟨n, Hn⟩ : ∃ z, Hid (pre.length = z) := ⟨_, rfl⟩
    rw [Hn.out] at hsl hcl hol
    subst hol
    clear hLs hok
    by_cases hR : R = []
    · have n1 := bs_nil hR
      have HL : Hid (LogIs s pre 0 0) := .inl ⟨rfl, rfl, Hok.out, by rw [HS.out, hR, List.append_nil]⟩
      clear hR hO hvr hcl hg
      go_wp2
      go_ret3
      exact ⟨⟨_, pre, 0, 0, rfl, HLs.out, HL.out⟩, hb⟩
    · have n1 := bs_nonnil hR
      have HRne : Hid (R ≠ []) := hR
      have hC := cut_any R [10] ⟨#[10]⟩ wr rfl hvr (by omega)
      clear hR hvr
      rcases cut_one R 10 with ⟨a, r, hRe, hna, hcut⟩ | ⟨hn10, hcut⟩
      · rw [hcut] at hC
        simp only at hC
        have HRe : Hid (R = a ++ 10 :: r) := hRe
        have Hna : Hid ((10 : UInt8) ∉ a) := hna
        have hRl : R.length = a.length + 1 + r.length := by rw [hRe]; simp; omega
        have hal : a.length ≤ 1048576 := by omega
        clear hcut hRe hna
        go_upto_region 4 with (go_at_call 13; refine hC.mono ?_; rintro e w2 ⟨rfl, b2⟩)
        have hO2 := hO.to b2
        clear hC hO
        by_cases hlet : ∀ b ∈ a, isLet b
        · have ht := trim_letters.2 hlet
          have hT := trim_any a ⟨#[97, 98, 99, 100, 101, 102, 103, 104, 105, 106, 107, 108, 109, 110, 111, 112, 113, 114, 115, 116, 117, 118, 119, 120, 121, 122]⟩ rfl w2
          have n2 := bs_nil ht
          rw [ht] at hT
          rw [ht] at n2
          obtain ⟨hw1, hw2⟩ := word_back hlet
          have hLb := fun w => labels_any a hlet (by omega) w
          obtain ⟨xs, Hxs⟩ : ∃ z, Hid (a.map valW = z) := ⟨_, rfl⟩
          rw [Hxs.out] at hw1 hw2 hLb
          have HS2 : Hid (s = logT (pre ++ [xs]) ++ r) := by show _ = _; rw [HS.out, HRe.out, ← hw2, logT_snoc]
          have Hok2 : Hid (∀ t ∈ pre ++ [xs], TraceOk t) := fun t ht => by
            rcases List.mem_append.1 ht with h | h
            · exact Hok.out t h
            · rw [List.mem_singleton.1 h]; exact hw1
          clear ht hw1 hw2 hlet
          go_upto_region 6 with (go_at_call 14; refine hT.mono ?_; rintro e w3 ⟨rfl, b3⟩)
          have hO3 := hO2.to b3
          clear hT hO2 n2
          go_upto_region 7 with (first
            | (go_at_call 15; refine (hLb _).mono ?_; rintro e w4 ⟨xa, xc, rfl, hOn, b4⟩; have hO4 := hO3.to b4; have hon := hOn.weaken (D' := fun k => w.heap.size ≤ k ∧ some k ≠ (Value.slice oa n oc).ownBlock) (fun k _ hk => ⟨Nat.le_trans hO3.size hk, fun q => by have := (ownsRow_lt hO3.own q.symm).2; omega⟩))
            | (at_builtin; refine wp_append_ls rfl _ _ rfl w.heap.size w w4 _ cs xs xa a.length xc hO4 hon rfl rfl (by omega) ?_; intro v' w5 hO5 b5; obtain ⟨oa', ol', oc', rfl⟩ := hO5.slice))
          have HO5 : Hid (LsOut w.heap.size w w5 (.slice oa' ol' oc') (cs ++ [(.slice xa a.length xc, xs)])) := hO5
          have Hcs2 : Hid ((cs ++ [((.slice xa a.length xc : Value), xs)]).map (·.2) = pre ++ [xs]) := by show _ = _; rw [List.map_append, Hcs.out]; rfl
          clear hO3 hO4 hO5 hon hOn hLb n1 b2 b3 b4
          go_wp2
          go_roundg r.length
          case measure => omega
          case rel => exact ⟨r, pre ++ [xs], _, rfl, rfl, HO5.out, Hcs2, Hok2.out, HS2⟩
        · have hne : Lib.trimLeftS a lettersL ≠ [] := fun q => hlet (trim_letters.1 q)
          have hT := trim_any a ⟨#[97, 98, 99, 100, 101, 102, 103, 104, 105, 106, 107, 108, 109, 110, 111, 112, 113, 114, 115, 116, 117, 118, 119, 120, 121, 122]⟩ rfl w2
          have n2 := bs_nonnil hne
          obtain ⟨Z, HZ⟩ := hideEx (Lib.trimLeftS a lettersL)
          rw [HZ.out] at hT n2
          have Hbad : Hid (BadLine R) := by rw [HRe.out]; exact bad_line Hna.out hlet
          clear hne hlet
          go_upto_region 5 with (go_at_call 14; refine hT.mono ?_; rintro e w3 ⟨rfl, b3⟩)
          have hb3 := below_then (below_then hb b2) b3
          clear hT hO2 n2 n1
          go_wp2
          go_ret3
          exact ⟨log_no Hok.out HS.out Hbad.out (by rw [Hn.out]), by first | exact hb3 | exact below_then (below_then hb b2) b3⟩
      · rw [hcut] at hC
        simp only at hC
        have Hbad : Hid (BadLine R) := bad_end HRne.out hn10
        clear hcut hn10
        go_upto_region 4 with (go_at_call 13; refine hC.mono ?_; rintro e w2 ⟨rfl, b2⟩)
        have hb2 := below_then hb b2
        clear hC hO n1
        go_wp2
        go_ret3
        exact ⟨log_no Hok.out HS.out Hbad.out (by rw [Hn.out]), hb2⟩

end Go.Proofs.YtjfcfnaeinhmcaaDoor
