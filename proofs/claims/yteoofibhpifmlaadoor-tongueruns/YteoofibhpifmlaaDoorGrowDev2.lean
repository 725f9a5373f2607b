/- Package grow as it landed: one behind the other. -/
import Derived.Test.YteoofibhpifmlaaDoorGrowDev1
import Derived.Test.YteoofibhpifmlaaDoorBlockMem
namespace Go.Proofs.YteoofibhpifmlaaDoor
open Go.RowKit
set_option linter.unusedVariables false
set_option maxRecDepth 4000

/-- A block grows as it should. -/
def BlockGrows (B x : Nat) (W : World) (f : Nat) (b : BlockL) : Prop := ∀ (v : Value) (p q : Nat) (g : GrowL) (lv : Value) (us vs : List Value) (wr : World), BlockV W v b → GrowAt B x W wr g lv us vs → FitG g →
  Calls Tryd.prog 41 #[.pointer (some ⟨x, 0, none⟩), v, .int .i64 (p : Int), .int .i64 (q : Int)] wr (Grew B x W wr lv (growK f b p q g) (.tuple #[]))

/-- The j-th kid, where it lies now. -/
theorem kid_now {B x : Nat} {W wr : World} {g : GrowL} {lv : Value} {us vs : List Value} (hG : GrowAt B x W wr g lv us vs) (hB : W.heap.size ≤ B) {a : Option Addr} {len cap : Nat} {l : List BlockL} (hK : KidsV W (.slice a len cap) l) {j : Nat} (hj : j < l.length) :
    ∃ bk off ka kl kc, a = some ⟨bk, off, none⟩ ∧ bk < wr.heap.size ∧ wr.cell? ⟨bk, off + j * 3, none⟩ = some (.int .i64 l[j].kind) ∧ wr.cell? ⟨bk, off + j * 3 + 1, none⟩ = some (.int .i64 l[j].label) ∧ wr.cell? ⟨bk, off + j * 3 + 2, none⟩ = some (.slice ka kl kc) ∧
      BlockV W (.agg #[.int .i64 l[j].kind, .int .i64 l[j].label, .slice ka kl kc]) l[j] := by
  obtain ⟨bk, off, kv, ha, hlt, c0, c1, c2, hkid⟩ := hK.at hj
  have hb : Below W.heap.size W wr := hG.below.mono hB
  obtain ⟨kv', e, hk'⟩ := blockV_iff.1 hkid
  obtain ⟨ka, kc, e2, _⟩ := hk'.slice
  injection e with e
  simp only [Array.mk.injEq, List.cons.injEq, and_true, true_and] at e
  subst e e2
  exact ⟨bk, off, ka, _, kc, ha, Nat.lt_of_lt_of_le hlt hb.size, (hb.cell (p := ⟨bk, _, none⟩) hlt).trans c0, (hb.cell (p := ⟨bk, _, none⟩) hlt).trans c1, (hb.cell (p := ⟨bk, _, none⟩) hlt).trans c2, hkid⟩

theorem growSeq_step {K : GrowT} {l : List BlockL} {k m : Nat} (hl : l.length = m + 1) (hk : k < m) (h : k < l.length) (p q : Nat) (g : GrowL) :
    growSeq K (l.drop k) p q g = growSeq K (l.drop (k + 1)) g.places q (K l[k] p g.places ⟨g.places + 1, g.links⟩) := by
  rw [List.drop_eq_getElem_cons h, List.drop_eq_getElem_cons (show k + 1 < l.length by omega)]
  rfl
theorem growSeq_last {K : GrowT} {l : List BlockL} {m : Nat} (hl : l.length = m + 1) (h : m < l.length) (p q : Nat) (g : GrowL) : growSeq K (l.drop m) p q g = K l[m] p q g := by
  rw [List.drop_eq_getElem_cons h, List.drop_of_length_le (by omega)]
  rfl

section
variable {B x : Nat} {W w : World} {g : GrowL} {lv : Value} {us vs : List Value}

set_option maxHeartbeats 1000000 in
theorem row_any (f : Nat) (l : List BlockL) (hk : ∀ k ∈ l, BlockGrows B x W f k) (hl : l ≠ []) (kv : Value) (hK : KidsV W kv l) (hB : W.heap.size ≤ B) (p q : Nat) (hG : GrowAt B x W w g lv us vs) (hf : FitG g) :
    Calls Tryd.prog 69 #[.pointer (some ⟨x, 0, none⟩), kv, .int .i64 (p : Int), .int .i64 (q : Int)] w (Grew B x W w lv (growSeq (growK f) l p q g) (.tuple #[])) := by
  obtain ⟨a, cap, rfl, hmx, hsh⟩ := hK.slice
  obtain ⟨m, Hm⟩ : ∃ m, Hid (l.length = m + 1) := ⟨l.length - 1, by show _ = _; have : l.length ≠ 0 := fun e => hl (List.eq_nil_of_length_eq_zero e); omega⟩
  rw [Hm.out] at hK hmx hsh ⊢
  have hcap : m + 1 ≤ cap := hsh.1
  have hcap2 : cap ≤ 9223372036854775807 := hsh.2.1
  have Hk : Hid _ := hk
  have HG : Hid _ := hG
  have Hf : Hid _ := hf
  have HK : Hid _ := hK
  have HKR : Hid _ := Keeps.refl w (mineG x lv)
  obtain ⟨T, HT⟩ : ∃ T, Hid (growSeq (growK f) l p q g = T) := ⟨_, rfl⟩
  rw [HT.out]
  clear hk hl hsh hG hf hK
  obtain ⟨bk, off, ha⟩ : ∃ bk off, a = some ⟨bk, off, none⟩ := by
    obtain ⟨bk, off, ka, kl, kc, e, _⟩ := kid_now HG.out hB HK.out (j := m) (by rw [Hm.out]; omega)
    exact ⟨bk, off, e⟩
  subst ha
  go_enter Tryd.func69, Tryd.ntmps69
  go_wp2_with fail
  go_loopg [2, 19] m (fun gk pv i wr => ∃ (k p' : Nat) (g' : GrowL) (lv' : Value) (us' vs' : List Value), k + gk = m ∧ i = .int .i64 k ∧ pv = .int .i64 (p' : Int) ∧ Hid (GrowAt B x W wr g' lv' us' vs') ∧ Hid (FitG g') ∧ Hid (Keeps w (mineG x lv) wr (mineG x lv')) ∧ Hid (growSeq (growK f) (l.drop k) p' q g' = T))
  case atStart => exact ⟨0, p, g, lv, us, vs, by omega, rfl, rfl, HG, Hf, HKR, HT⟩
  case round =>
    clear HG Hf HKR HT
    obtain ⟨k, p', g', lv', us', vs', hkg, rfl, rfl, HG, Hf, HKR, HT⟩ := hrel
    by_cases hk : k < m
    · have Hkl : Hid (k < l.length) := by show k < l.length; rw [Hm.out]; omega
      obtain ⟨bk', off', ka, kl, kc, e, hlt, c0, c1, c2, hkid⟩ := kid_now HG.out hB HK.out Hkl.out
      injection e with e
      injection e with e1 e2
      subst e1 e2
      have Hgr : Hid (BlockGrows B x W f (l[k]'Hkl.out)) := Hk.out _ (List.getElem_mem _)
      have Hst : Hid _ := growSeq_step (K := growK f) Hm.out hk Hkl.out p' q g'
      obtain ⟨kb, Hkb⟩ : ∃ kb, Hid (l[k]'Hkl.out = kb) := ⟨_, rfl⟩
      rw [Hkb.out] at c0 c1 hkid Hgr Hst
      have b3 := below_new wr (.cells #[.int .i64 kb.kind, .int .i64 kb.label, .slice ka kl kc] 68)
      have hx3 := box3_new wr (.int .i64 kb.kind) (.int .i64 kb.label) (.slice ka kl kc) 68
      have hG1 := HG.out.to b3
      have Hnm : Hid _ := HG.out.notMine (Nat.le_refl _)
      have HK1 : Hid _ := HKR.out.trans (Keeps.below b3 (mineG x lv'))
      obtain ⟨w4, Hw4⟩ : ∃ w4, Hid (wr.alloc (.cells #[.int .i64 kb.kind, .int .i64 kb.label, .slice ka kl kc] 68) = w4) := ⟨_, rfl⟩
      rw [Hw4.out] at hx3 hG1 HK1
      go_upto_region 4 with fail
      rw [Hw4.out]
      clear Hw4 c0 c1 c2 b3 hlt HG HKR
      go_wp2_with fail
      refine (place_any hG1 Hf.out).mono ?_
      rintro e w5 (⟨hf5, rfl, lv5, us5, vs5, hG5, hK5⟩ | ⟨hf5, rfl, hb5⟩)
      · obtain ⟨z0, z1, z2, z3⟩ := hK5.box3 Hnm.out hx3
        have HK5 : Hid _ := HK1.out.trans hK5
        have Hf5 : Hid _ := hf5
        clear hK5 HK1 hx3 hG1 hf5
        go_wp2_with fail
        refine (Hgr.out _ p' g'.places ⟨g'.places + 1, g'.links⟩ lv5 us5 vs5 w5 (by exact hkid) hG5 Hf5.out).mono ?_
        rintro e w6 (⟨hf6, rfl, lv6, us6, vs6, hG6, hK6⟩ | ⟨hf6, rfl, hb6⟩)
        · have R1 : Hid _ := hG6
          have R2 : Hid _ := hf6
          have R3 : Hid _ := HK5.out.trans hK6
          have R4 : Hid (growSeq (growK f) (l.drop (k + 1)) g'.places q (growK f kb p' g'.places ⟨g'.places + 1, g'.links⟩) = T) := by rw [← Hst.out]; exact HT.out
          clear hG6 hf6 hK6 HK5 z0 z1 z2 z3 hG5 hkid Hst HT
          go_wp2
          go_roundg (gk - 1)
          case measure => omega
          case rel => exact ⟨k + 1, g'.places, _, lv6, us6, vs6, by omega, by go_num, rfl, R1, R2, R3, R4⟩
        · have R : Hid (¬ FitG T) := by
            show ¬ FitG T
            rw [← HT.out, Hst.out]
            exact (growSeq_le (growK_le f) _ _ _ _).not hf6
          clear z0 z1 z2 z3 hG5 hkid Hst HT
          go_wp2
          exact ⟨rfl, .inr ⟨R.out, rfl, hb6⟩⟩
      · have R : Hid (¬ FitG T) := by
          show ¬ FitG T
          rw [← HT.out, Hst.out]
          exact ((growK_le f _ _ _ _).trans (growSeq_le (growK_le f) _ _ _ _)).not hf5
        clear hG1 hkid Hst HT hx3
        go_wp2
        exact ⟨rfl, .inr ⟨R.out, rfl, hb5⟩⟩
    · have ek : k = m := by omega
      subst ek
      have Hkl : Hid (k < l.length) := by show k < l.length; rw [Hm.out]; omega
      obtain ⟨bk', off', ka, kl, kc, e, hlt, c0, c1, c2, hkid⟩ := kid_now HG.out hB HK.out Hkl.out
      injection e with e
      injection e with e1 e2
      subst e1 e2
      have Hgr : Hid (BlockGrows B x W f (l[k]'Hkl.out)) := Hk.out _ (List.getElem_mem _)
      have Hst : Hid _ := growSeq_last (K := growK f) Hm.out Hkl.out p' q g'
      obtain ⟨kb, Hkb⟩ : ∃ kb, Hid (l[k]'Hkl.out = kb) := ⟨_, rfl⟩
      rw [Hkb.out] at c0 c1 hkid Hgr Hst
      go_wp2_with fail
      refine (Hgr.out _ p' q g' lv' us' vs' wr (by exact hkid) HG.out Hf.out).mono ?_
      rintro e w6 (⟨hf6, rfl, lv6, us6, vs6, hG6, hK6⟩ | ⟨hf6, rfl, hb6⟩)
      · have R : Hid (Grew B x W w lv T (.tuple #[]) (.returned (.tuple #[])) w6) := by
          rw [← HT.out, Hst.out]
          exact .inl ⟨hf6, rfl, _, _, _, hG6, HKR.out.trans hK6⟩
        clear hG6 hK6 hkid c0 c1 c2
        go_wp2
        go_end0
        exact R.out
      · have R : Hid (¬ FitG T) := by
          show ¬ FitG T
          rw [← HT.out, Hst.out]
          exact hf6
        clear hkid c0 c1 c2
        go_wp2
        exact ⟨rfl, .inr ⟨R.out, rfl, hb6⟩⟩

end

end Go.Proofs.YteoofibhpifmlaaDoor
