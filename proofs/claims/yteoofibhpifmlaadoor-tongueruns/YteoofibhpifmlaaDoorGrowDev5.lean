/- Package grow as it landed: a block grows. -/
import Derived.Test.YteoofibhpifmlaaDoorGrowDev4
namespace Go.Proofs.YteoofibhpifmlaaDoor
open Go.RowKit
set_option linter.unusedVariables false
set_option linter.unusedSimpArgs false
set_option maxRecDepth 4000

theorem grew_more {B x : Nat} {W w w1 : World} {lv : Value} {g : GrowL} {r : Value} {e : Ending} {w' : World} (hb : Below w.heap.size w w1) (h : Grew B x W w1 lv g r e w') : Grew B x W w lv g r e w' := by
  rcases h with ⟨h1, h2, lv', us', vs', h3, h4⟩ | h
  · exact .inl ⟨h1, h2, lv', us', vs', h3, (Keeps.below hb _).trans h4⟩
  · exact .inr h

theorem growAlt_step {K : GrowT} {l : List BlockL} {k : Nat} (h : k < l.length) (p q : Nat) (g : GrowL) : growAlt K (l.drop k) p q g = growAlt K (l.drop (k + 1)) p q (K l[k] p q g) := by
  rw [List.drop_eq_getElem_cons h]; rfl

theorem kid_W {W : World} {a : Option Addr} {len cap : Nat} {l : List BlockL} (hK : KidsV W (.slice a len cap) l) {j : Nat} (hj : j < l.length) :
    ∃ bk off ka kl kc, a = some ⟨bk, off, none⟩ ∧ bk < W.heap.size ∧ (∀ w', Below W.heap.size W w' → w'.cell? ⟨bk, off + j * 3, none⟩ = some (.int .i64 l[j].kind) ∧ w'.cell? ⟨bk, off + j * 3 + 1, none⟩ = some (.int .i64 l[j].label) ∧ w'.cell? ⟨bk, off + j * 3 + 2, none⟩ = some (.slice ka kl kc)) ∧
      BlockV W (.agg #[.int .i64 l[j].kind, .int .i64 l[j].label, .slice ka kl kc]) l[j] := by
  obtain ⟨bk, off, kv, ha, hlt, c0, c1, c2, hkid⟩ := hK.at hj
  obtain ⟨kv', e, hk'⟩ := blockV_iff.1 hkid
  obtain ⟨ka, kc, e2, _⟩ := hk'.slice
  injection e with e
  simp only [Array.mk.injEq, List.cons.injEq, and_true, true_and] at e
  subst e e2
  exact ⟨bk, off, ka, _, kc, ha, hlt, fun w' hb => ⟨(hb.cell (p := ⟨bk, _, none⟩) hlt).trans c0, (hb.cell (p := ⟨bk, _, none⟩) hlt).trans c1, (hb.cell (p := ⟨bk, _, none⟩) hlt).trans c2⟩, hkid⟩

set_option maxHeartbeats 4000000 in
theorem block_one {B x : Nat} {W : World} (hB : W.heap.size ≤ B) (f : Nat) (b : BlockL) (hform : formB b) (hk : ∀ k ∈ b.kids, BlockGrows B x W f k) : BlockGrows B x W (f + 1) b := by
  intro v p q g lv us vs wr hv hG hf
  obtain ⟨f1, f2, f3, f4, f5, f6⟩ := hform
  obtain ⟨T, HT⟩ : ∃ T, Hid (growK (f + 1) b p q g = T) := ⟨_, rfl⟩
  have HT1 : Hid (growF (growK f) b p q g = T) := HT.out
  rw [HT.out]
  clear HT
  obtain ⟨kv, rfl, hK⟩ := blockV_iff.1 hv
  obtain ⟨a, cap, rfl, hmx, hsh⟩ := hK.slice
  obtain ⟨n, Hn⟩ : ∃ n, Hid (b.kids.length = n) := ⟨_, rfl⟩
  obtain ⟨K, HK⟩ : ∃ K, Hid (b.kind = K) := ⟨_, rfl⟩
  obtain ⟨L, HL⟩ : ∃ L, Hid (b.label = L) := ⟨_, rfl⟩
  rw [HK.out] at f1 f2 f3 f4 f5 f6
  rw [Hn.out] at f4 f5 f6 hK hmx
  rw [HK.out, HL.out, Hn.out]
  have c := below_new wr (.cells #[.int .i64 K, .int .i64 L, .slice a n cap] 68)
  have hbx := box3_new wr (.int .i64 K) (.int .i64 L) (.slice a n cap) 68
  have hG1 := hG.to c
  have Hc : Hid _ := c
  have Hnm : Hid _ := hG.notMine (Nat.le_refl wr.heap.size)
  have Hk : Hid _ := hk
  have Hf : Hid _ := hf
  obtain ⟨w1, Hw1⟩ : ∃ w1, Hid (wr.alloc (.cells #[.int .i64 K, .int .i64 L, .slice a n cap] 68) = w1) := ⟨_, rfl⟩
  rw [Hw1.out] at hbx hG1 Hc
  clear hv hsh c hG hk hf
  go_enter Tryd.func41, Tryd.ntmps41
  go_upto_region 1 with fail
  rw [Hw1.out]
  clear Hw1
  obtain ⟨x0, x1, x2, x3⟩ := id hbx
  obtain rfl | rfl | rfl | rfl | rfl | rfl : K = 1 ∨ K = 2 ∨ K = 3 ∨ K = 4 ∨ K = 5 ∨ K = 6 := by omega
  · have R : Hid (putG g 0 [p] [q] = T) := by show _ = _; rw [← HT1.out]; simp only [growF]; rw [if_pos HK.out]
    clear f1 f2 f3 f4 f5 f6
    go_wp2_with fail
    refine (tran_one_any hG1 Hf.out 0 p q).mono ?_
    rintro e w2 hgrew
    have RG : Hid (Grew B x W wr lv T (.tuple #[]) e w2) := by rw [← R.out]; exact grew_more Hc.out hgrew
    rcases hgrew with ⟨_, rfl, _⟩ | ⟨_, rfl, _⟩
    · go_wp2
      go_end0
      exact RG.out
    · go_wp2
      exact ⟨rfl, RG.out⟩
  · have R : Hid (putG g L [p] [q] = T) := by show _ = _; rw [← HT1.out]; simp only [growF]; rw [if_neg (by rw [HK.out]; decide), if_pos HK.out, HL.out]
    clear f1 f2 f3 f4 f5 f6
    go_wp2_with fail
    refine (tran_one_any hG1 Hf.out L p q).mono ?_
    rintro e w2 hgrew
    have RG : Hid (Grew B x W wr lv T (.tuple #[]) e w2) := by rw [← R.out]; exact grew_more Hc.out hgrew
    rcases hgrew with ⟨_, rfl, _⟩ | ⟨_, rfl, _⟩
    · go_wp2
      go_end0
      exact RG.out
    · go_wp2
      exact ⟨rfl, RG.out⟩
  · have R : Hid (growSeq (growK f) b.kids p q g = T) := by show _ = _; rw [← HT1.out]; simp only [growF]; rw [if_neg (by rw [HK.out]; decide), if_neg (by rw [HK.out]; decide), if_pos HK.out]
    have hne : b.kids ≠ [] := fun e => f5 (by omega) (by rw [← Hn.out, e]; rfl)
    clear f1 f2 f3 f4 f5 f6
    go_wp2_with fail
    refine (row_any f b.kids Hk.out hne _ hK hB p q hG1 Hf.out).mono ?_
    rintro e w2 hgrew
    have RG : Hid (Grew B x W wr lv T (.tuple #[]) e w2) := by rw [← R.out]; exact grew_more Hc.out hgrew
    rcases hgrew with ⟨_, rfl, _⟩ | ⟨_, rfl, _⟩
    · go_wp2
      go_end0
      exact RG.out
    · go_wp2
      exact ⟨rfl, RG.out⟩
  · have R : Hid (growAlt (growK f) (b.kids.drop 0) p q g = T) := by show _ = _; rw [← HT1.out]; simp only [growF]; rw [if_neg (by rw [HK.out]; decide), if_neg (by rw [HK.out]; decide), if_neg (by rw [HK.out]; decide), if_pos HK.out, List.drop_zero]
    clear f1 f2 f3 f4 f5 f6 HT1
    have HG : Hid _ := hG1
    have HKR : Hid _ := Keeps.below Hc.out (mineG x lv)
    go_wp2_with fail
    clear x0 x1 x2 x3 hbx hG1
    obtain ⟨w, Hwr⟩ : ∃ w, Hid (wr = w) := ⟨_, rfl⟩
    rw [Hwr.out] at HKR Hc
    rw [Hwr.out]
    clear Hwr
    go_loopg [43] n (fun gk i wr => ∃ (k : Nat) (g' : GrowL) (lv' : Value) (us' vs' : List Value), k + gk = n ∧ i = .int .i64 k ∧ Hid (GrowAt B x W wr g' lv' us' vs') ∧ Hid (FitG g') ∧ Hid (Keeps w (mineG x lv) wr (mineG x lv')) ∧ Hid (growAlt (growK f) (b.kids.drop k) p q g' = T))
    case atStart => exact ⟨0, g, lv, us, vs, by omega, rfl, HG, Hf, HKR, R⟩
    case round =>
      clear HG HKR R Hf
      obtain ⟨k, g', lv', us', vs', hkg, rfl, HG, Hf, HKR, HT⟩ := hrel
      by_cases hk : k < n
      · have Hkl : Hid (k < b.kids.length) := by show k < b.kids.length; rw [Hn.out]; exact hk
        obtain ⟨bk, off, ka, kl, kc, ea, hlt, c0, c1, c2, hkid⟩ := kid_now HG.out hB hK Hkl.out
        subst ea
        have Hgr : Hid (BlockGrows B x W f (b.kids[k]'Hkl.out)) := Hk.out _ (List.getElem_mem _)
        have Hst : Hid _ := growAlt_step (K := growK f) Hkl.out p q g'
        obtain ⟨kb, Hkb⟩ : ∃ kb, Hid (b.kids[k]'Hkl.out = kb) := ⟨_, rfl⟩
        rw [Hkb.out] at c0 c1 hkid Hgr Hst
        have b3 := below_new wr (.cells #[.int .i64 kb.kind, .int .i64 kb.label, .slice ka kl kc] 68)
        have hx3 := box3_new wr (.int .i64 kb.kind) (.int .i64 kb.label) (.slice ka kl kc) 68
        have hG1 := HG.out.to b3
        have HK1 : Hid _ := HKR.out.trans (Keeps.below b3 (mineG x lv'))
        obtain ⟨w4, Hw4⟩ : ∃ w4, Hid (wr.alloc (.cells #[.int .i64 kb.kind, .int .i64 kb.label, .slice ka kl kc] 68) = w4) := ⟨_, rfl⟩
        rw [Hw4.out] at hx3 hG1 HK1
        go_upto_region 12 with fail
        rw [Hw4.out]
        clear Hw4 c0 c1 c2 b3 hlt HG HKR
        obtain ⟨z0, z1, z2, z3⟩ := hx3
        go_wp2_with fail
        refine (Hgr.out _ p q g' lv' us' vs' w4 (by exact hkid) hG1 Hf.out).mono ?_
        rintro e w6 (⟨hf6, rfl, lv6, us6, vs6, hG6, hK6⟩ | ⟨hf6, rfl, hb6⟩)
        · have R1 : Hid _ := hG6
          have R2 : Hid _ := hf6
          have R3 : Hid _ := HK1.out.trans hK6
          have R4 : Hid (growAlt (growK f) (b.kids.drop (k + 1)) p q (growK f kb p q g') = T) := by rw [← Hst.out]; exact HT.out
          clear hG6 hf6 hK6 HK1 z0 z1 z2 z3 hG1 hkid Hst HT
          go_wp2
          go_roundg (gk - 1)
          case measure => omega
          case rel => exact ⟨k + 1, _, lv6, us6, vs6, by omega, by go_num, R1, R2, R3, R4⟩
        · have R : Hid (¬ FitG T) := by
            show ¬ FitG T
            rw [← HT.out, Hst.out]
            exact (growAlt_le (growK_le f) _ _ _ _).not hf6
          clear z0 z1 z2 z3 hG1 hkid Hst HT
          go_wp2
          exact ⟨rfl, .inr ⟨R.out, rfl, hb6⟩⟩
      · have R : Hid (Grew B x W w lv T (.tuple #[]) (.returned (.tuple #[])) wr) := by
          have e : g' = T := by rw [← HT.out, List.drop_of_length_le (by rw [Hn.out]; omega)]; rfl
          rw [← e]
          exact .inl ⟨Hf.out, rfl, _, _, _, HG.out, HKR.out⟩
        clear HG HKR HT
        go_wp2
        go_end0
        exact R.out
  · have R : Hid (putG (growBoth (growK f) b.kids g.places (putG ⟨g.places + 2 * b.kids.length, g.links⟩ 0 [p] (insG b.kids.length g.places))) 0 (outsG b.kids.length g.places) [q] = T) := by
      show _ = _; rw [← HT1.out]; simp only [growF]; rw [if_neg (by rw [HK.out]; decide), if_neg (by rw [HK.out]; decide), if_neg (by rw [HK.out]; decide), if_neg (by rw [HK.out]; decide), if_pos HK.out]
    clear f1 f2 f3 f4 f5 f6 HT1
    go_wp2_with fail
    refine (beside_any f b.kids Hk.out _ hK hB p q hG1 Hf.out).mono ?_
    rintro e w2 hgrew
    have RG : Hid (Grew B x W wr lv T (.tuple #[]) e w2) := by rw [← R.out]; exact grew_more Hc.out hgrew
    rcases hgrew with ⟨_, rfl, _⟩ | ⟨_, rfl, _⟩
    · go_wp2
      go_end0
      exact RG.out
    · go_wp2
      exact ⟨rfl, RG.out⟩
  · have h2 : n = 2 := f6 rfl
    subst h2
    have Hl0 : Hid (0 < b.kids.length) := by show _ < _; rw [Hn.out]; omega
    have Hl1 : Hid (1 < b.kids.length) := by show _ < _; rw [Hn.out]; omega
    have R : Hid (putG (growK f (kidB b 1) (g.places + 1) g.places (growK f (kidB b 0) g.places (g.places + 1) (putG ⟨g.places + 2, g.links⟩ 0 [p] [g.places]))) 0 [g.places + 1] [q] = T) := by
      show _ = _; rw [← HT1.out]; simp only [growF]; rw [if_neg (by rw [HK.out]; decide), if_neg (by rw [HK.out]; decide), if_neg (by rw [HK.out]; decide), if_neg (by rw [HK.out]; decide), if_neg (by rw [HK.out]; decide)]
    have e0 : Hid (b.kids[0]'Hl0.out = kidB b 0) := by show _ = _; simp [kidB, List.getD, List.getElem?_eq_getElem Hl0.out]
    have e1 : Hid (b.kids[1]'Hl1.out = kidB b 1) := by show _ = _; simp [kidB, List.getD, List.getElem?_eq_getElem Hl1.out]
    have Hg0 : Hid (BlockGrows B x W f (kidB b 0)) := by rw [← e0.out]; exact Hk.out _ (List.getElem_mem _)
    have Hg1 : Hid (BlockGrows B x W f (kidB b 1)) := by rw [← e1.out]; exact Hk.out _ (List.getElem_mem _)
    obtain ⟨bk, off, ka0, kl0, kc0, ea, hlt, cc, hkid0⟩ := kid_W hK Hl0.out
    obtain ⟨bk', off', ka1, kl1, kc1, ea', hlt', dd, hkid1⟩ := kid_W hK Hl1.out
    subst ea
    injection ea' with ea'
    injection ea' with ea1 ea2
    subst ea1 ea2
    rw [e0.out] at cc hkid0
    rw [e1.out] at dd hkid1
    obtain ⟨k0, Hk0⟩ : ∃ k0, Hid (kidB b 0 = k0) := ⟨_, rfl⟩
    obtain ⟨k1, Hk1⟩ : ∃ k1, Hid (kidB b 1 = k1) := ⟨_, rfl⟩
    rw [Hk0.out] at cc hkid0 Hg0 R
    rw [Hk1.out] at dd hkid1 Hg1 R
    simp only [Nat.zero_mul, Nat.add_zero, Nat.one_mul] at cc dd
    have HC : Hid (∀ w', Below W.heap.size W w' → w'.cell? ⟨bk, off, none⟩ = some (.int .i64 k0.kind) ∧ w'.cell? ⟨bk, off + 1, none⟩ = some (.int .i64 k0.label) ∧ w'.cell? ⟨bk, off + 2, none⟩ = some (.slice ka0 kl0 kc0) ∧ w'.cell? ⟨bk, off + 3, none⟩ = some (.int .i64 k1.kind) ∧ w'.cell? ⟨bk, off + 4, none⟩ = some (.int .i64 k1.label) ∧ w'.cell? ⟨bk, off + 5, none⟩ = some (.slice ka1 kl1 kc1)) :=
      fun w' hb => ⟨(cc w' hb).1, (cc w' hb).2.1, (cc w' hb).2.2, (dd w' hb).1, (dd w' hb).2.1, (dd w' hb).2.2⟩
    clear cc dd
    obtain ⟨c0, c1, c2, d0, d1, d2⟩ := HC.out w1 (hG1.below.mono hB)
    clear f1 f2 f3 f4 f5 f6 HT1 e0 e1 Hk0 Hk1
    go_upto_region 17 with fail
    have bd := below_drewN (Below.refl w1.heap.size w1) 1
    have hG2 := hG1.to bd
    have Hbd : Hid _ := below_then Hc.out bd
    refine wp_region_held_drew (S := (fun w' => w'.cell? ⟨wr.heap.size, 2, none⟩ = some (.slice (some ⟨bk, off, none⟩) 2 cap) ∧ w'.cell? ⟨bk, off, none⟩ = some (.int .i64 k0.kind) ∧ w'.cell? ⟨bk, off + 1, none⟩ = some (.int .i64 k0.label) ∧ w'.cell? ⟨bk, off + 2, none⟩ = some (.slice ka0 kl0 kc0) ∧ w'.cell? ⟨bk, off + 3, none⟩ = some (.int .i64 k1.kind) ∧ w'.cell? ⟨bk, off + 4, none⟩ = some (.int .i64 k1.label) ∧ w'.cell? ⟨bk, off + 5, none⟩ = some (.slice ka1 kl1 kc1))) (by kernel_rfl) ⟨by simpa using x3, by simpa using c0, by simpa using c1, by simpa using c2, by simpa using d0, by simpa using d1, by simpa using d2⟩ (fun hH => ?_)
    refine wpAnyH_take (i := 0) rfl (by kernel_rfl) (by kernel_rfl) (by kernel_rfl) (fun _ _ _ h => h) (.inl ⟨by rfl, fun _ _ => rfl⟩) hH ?_
    simp only [List.getElem_toArray, List.getElem_cons_succ, List.getElem_cons_zero, Act.put, List.setIfInBounds_toArray, List.set_cons_zero, List.set_cons_succ]
    refine wpAnyH_take (i := 1) (v := .pointer (some ⟨wr.heap.size, 2, none⟩)) rfl (by kernel_rfl) (by kernel_rfl) (by kernel_rfl) (fun _ _ _ h => h) (.inl ⟨by rfl, fun w' hS' => by first | (go_simp; done) | (go_simp; rfl)⟩) hH ?_
    simp only [List.getElem_toArray, List.getElem_cons_succ, List.getElem_cons_zero, Act.put, List.setIfInBounds_toArray, List.set_cons_zero, List.set_cons_succ]
    refine wpAnyH_take (i := 2) (v := .slice (some ⟨bk, off, none⟩) 2 cap) rfl (by kernel_rfl) (by kernel_rfl) (by kernel_rfl) (fun _ _ _ h => h) (.inl ⟨by rfl, fun w' hS' => by obtain ⟨e0, e1, e2, e3, e4, e5, e6⟩ := hS'; go_simp⟩) hH ?_
    simp only [List.getElem_toArray, List.getElem_cons_succ, List.getElem_cons_zero, Act.put, List.setIfInBounds_toArray, List.set_cons_zero, List.set_cons_succ]
    refine wpAnyH_take (i := 3) (v := .pointer (some ⟨bk, off, none⟩)) rfl (by kernel_rfl) (by kernel_rfl) (by kernel_rfl) (fun _ _ _ h => h) (.inl ⟨by rfl, fun w' hS' => by first | (go_simp; done) | (go_simp; rfl)⟩) hH ?_
    simp only [List.getElem_toArray, List.getElem_cons_succ, List.getElem_cons_zero, Act.put, List.setIfInBounds_toArray, List.set_cons_zero, List.set_cons_succ]
    refine wpAnyH_take (i := 4) (v := .agg #[.int .i64 k0.kind, .int .i64 k0.label, .slice ka0 kl0 kc0]) rfl (by kernel_rfl) (by kernel_rfl) (by kernel_rfl) (fun _ _ _ h => h) (.inl ⟨by rfl, fun w' hS' => by obtain ⟨e0, e1, e2, e3, e4, e5, e6⟩ := hS'; go_simp⟩) hH ?_
    simp only [List.getElem_toArray, List.getElem_cons_succ, List.getElem_cons_zero, Act.put, List.setIfInBounds_toArray, List.set_cons_zero, List.set_cons_succ]
    refine wpAnyH_take (i := 5) (v := .pointer (some ⟨wr.heap.size, 2, none⟩)) rfl (by kernel_rfl) (by kernel_rfl) (by kernel_rfl) (fun _ _ _ h => h) (.inl ⟨by rfl, fun w' hS' => by first | (go_simp; done) | (go_simp; rfl)⟩) hH ?_
    simp only [List.getElem_toArray, List.getElem_cons_succ, List.getElem_cons_zero, Act.put, List.setIfInBounds_toArray, List.set_cons_zero, List.set_cons_succ]
    refine wpAnyH_take (i := 6) (v := .slice (some ⟨bk, off, none⟩) 2 cap) rfl (by kernel_rfl) (by kernel_rfl) (by kernel_rfl) (fun _ _ _ h => h) (.inl ⟨by rfl, fun w' hS' => by obtain ⟨e0, e1, e2, e3, e4, e5, e6⟩ := hS'; go_simp⟩) hH ?_
    simp only [List.getElem_toArray, List.getElem_cons_succ, List.getElem_cons_zero, Act.put, List.setIfInBounds_toArray, List.set_cons_zero, List.set_cons_succ]
    refine wpAnyH_take (i := 7) (v := .pointer (some ⟨bk, off + 3, none⟩)) rfl (by kernel_rfl) (by kernel_rfl) (by kernel_rfl) (fun _ _ _ h => h) (.inl ⟨by rfl, fun w' hS' => by first | (go_simp; done) | (go_simp; rfl)⟩) hH ?_
    simp only [List.getElem_toArray, List.getElem_cons_succ, List.getElem_cons_zero, Act.put, List.setIfInBounds_toArray, List.set_cons_zero, List.set_cons_succ]
    refine wpAnyH_take (i := 8) (v := .agg #[.int .i64 k1.kind, .int .i64 k1.label, .slice ka1 kl1 kc1]) rfl (by kernel_rfl) (by kernel_rfl) (by kernel_rfl) (fun _ _ _ h => h) (.inl ⟨by rfl, fun w' hS' => by obtain ⟨e0, e1, e2, e3, e4, e5, e6⟩ := hS'; go_simp⟩) hH ?_
    simp only [List.getElem_toArray, List.getElem_cons_succ, List.getElem_cons_zero, Act.put, List.setIfInBounds_toArray, List.set_cons_zero, List.set_cons_succ]
    refine wpAnyH_take (i := 9) rfl (by kernel_rfl) (by kernel_rfl) (by kernel_rfl) (fun _ _ _ h => h) (.inl ⟨by rfl, fun _ _ => rfl⟩) hH ?_
    simp only [List.getElem_toArray, List.getElem_cons_succ, List.getElem_cons_zero, Act.put, List.setIfInBounds_toArray, List.set_cons_zero, List.set_cons_succ]
    refine wpAnyH_take (i := 10) rfl (by kernel_rfl) (by kernel_rfl) (by kernel_rfl) (fun _ _ _ h => h) (.inl ⟨by rfl, fun _ _ => rfl⟩) hH ?_
    simp only [List.getElem_toArray, List.getElem_cons_succ, List.getElem_cons_zero, Act.put, List.setIfInBounds_toArray, List.set_cons_zero, List.set_cons_succ]
    refine wpAnyH_ready (rs := [11]) (by kernel_rfl) (by simp) ?_
    refine AllReadyH.cons rfl (fun K hK => ?_) AllReadyH.nil
    simp only [List.getElem_toArray, List.getElem_cons_succ, List.getElem_cons_zero]
    rw [if_pos (by rfl)]
    go_wp2_with fail
    refine (rounds_any f k0 k1 Hg0.out Hg1.out _ _ hkid0 hkid1 hB p q hG2 Hf.out).mono ?_
    rintro e w2 hgrew
    have RG : Hid (Grew B x W wr lv T (.tuple #[]) e w2) := by rw [← R.out]; exact grew_more Hbd.out hgrew
    rcases hgrew with ⟨_, rfl, lv2, us2, vs2, hG3, hK3⟩ | ⟨_, rfl, _⟩
    · obtain ⟨_, _, _, t3⟩ := hK3.box3 Hnm.out (hbx.below bd)
      refine hK.out _ _ ⟨t3, HC.out w2 (hG3.below.mono hB)⟩ (fun hH => ?_)
      refine wpAnyH_done (by kernel_rfl) ?_ _
      clear hH t3 hG3 hK3 hG2 hG1 bd hK
      go_wp2
      go_end0
      exact RG.out
    · go_wp2
      exact ⟨rfl, RG.out⟩

theorem block_any {B x : Nat} {W : World} (hB : W.heap.size ≤ B) : ∀ (f : Nat) (b : BlockL), okB f b → Fit f b → BlockGrows B x W f b
  | 0, b, _, h => h.elim
  | f + 1, b, h, k => block_one hB f b h.1 fun y hy => block_any hB f y (h.2 y hy) (k y hy)

end Go.Proofs.YteoofibhpifmlaaDoor
