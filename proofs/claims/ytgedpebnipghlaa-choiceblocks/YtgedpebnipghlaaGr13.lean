import Derived.Test.YtgedpebnipghlaaGr12
import Derived.WalkLawsBesides
import Derived.Test.YtgedpebnipghlaaGr00
import Derived.Deep.RegionHeld3
/- Package grow as it landed: a place more, a transition more. -/
namespace Go.Proofs.Ytgedpebnipghlaa
open Go.RowKit
set_option linter.unusedVariables false
set_option maxRecDepth 4000

theorem info_link : (Try.prog.info? 90).map (fun i => (i.zero, i.size, i.bytes)) = some (some (.agg #[.int .i64 0, .slice none 0 0, .slice none 0 0]), 3, 56) := by kernel_rfl

theorem wp_append_link {ops : Array Oper} {rest : List Oper} {o : Oper} {a : Act} {Q : Exit → Act → World → Prop} (hgd : o.guard = none) (s x : Operand)
    (ho : o.op = .call { callee := .builtin .append, args := #[s, x], argTypes := #[67, 67] }) (B : Nat) (wr : World) (v : Value) (n : Nat) (xs : List Value) (lab : Int) (a1 a2 : Option Addr) (l1 l2 c1 c2 : Nat)
    (hown : wr.ownsRow B 90 3 v n xs) (hs : a.eval s = v) (hx : a.eval x = .slice (some ⟨wr.heap.size, 0, none⟩) 1 1) (hl : n ≤ 1000) (hB : B ≤ wr.heap.size)
    (h : ∀ v' w', w'.ownsRow B 90 3 v' (n + 1) (xs ++ [.int .i64 lab, .slice a1 l1 c1, .slice a2 l2 c2]) → (wr.alloc (.cells #[.int .i64 lab, .slice a1 l1 c1, .slice a2 l2 c2] 90)).grownBy w' v.ownBlock →
      (v'.ownBlock = v.ownBlock ∨ v'.ownBlock = some (wr.alloc (.cells #[.int .i64 lab, .slice a1 l1 c1, .slice a2 l2 c2] 90)).heap.size) → wpList Try.prog ops Q rest (a.put o.dst v') w') :
    wpList Try.prog ops Q (o :: rest) a (wr.alloc (.cells #[.int .i64 lab, .slice a1 l1 c1, .slice a2 l2 c2] 90)) := by
  obtain ⟨i0, hi, hz0, hz1, hz2⟩ := info_parts info_link
  refine wpList_append_own_at _ hgd s x 67 ho B 90 i0 _ 3 56 Try.underlying67 hi hz0 hz1 hz2 rfl (by decide) v n _ hs (hown.alloc _) ⟨wr.heap.size, 0, none⟩ 1 1 [.int .i64 lab, .slice a1 l1 c1, .slice a2 l2 c2] hx rfl ?_ ?_ ?_ ?_ ?_ ?_
  · intro j u hj
    rw [addr_add, World.cell?_alloc_at _ _ _ _ rfl]
    match j, hj with
    | 0, hj => simpa using hj
    | 1, hj => simpa using hj
    | 2, hj => simpa using hj
  · intro u hu
    simp only [List.mem_cons, List.not_mem_nil, or_false] at hu
    rcases hu with rfl | rfl | rfl <;> rfl
  · unfold maxLen; omega
  · omega
  · simp; omega
  · intro v' w' h1 h2 _ h3
    exact h v' w' h1 h2 h3

section
variable {B x : Nat} {W wr : World} {g : GrowL} {lv : Value} {us vs : List Value}

theorem place_any (h : GrowAt B x W wr g lv us vs) (hf : FitG g) :
    Calls Try.prog 80 #[.pointer (some ⟨x, 0, none⟩)] wr (Grew B x W wr lv ⟨g.places + 1, g.links⟩ (.int .i64 (g.places : Int))) := by
  obtain ⟨d0, d1, f0, f1⟩ := h.at
  obtain ⟨n, Hn⟩ : ∃ n, Hid (g.places = n) := ⟨_, rfl⟩
  rw [Hn.out] at d0
  have h16 : n ≤ 16 := by rw [← Hn.out]; exact hf.1
  by_cases hn : n = 16
  · subst hn
    have R : Hid (¬ FitG ⟨g.places + 1, g.links⟩) := fun q => by have := q.1; have := Hn.out; simp at *; omega
    go_enter Try.func80, Try.ntmps80
    go_wp2
    exact ⟨rfl, .inr ⟨R.out, rfl, h.below⟩⟩
  · have hn' : ((n : Int) == 16) = false := by rw [beq_eq_false_iff_ne]; omega
    obtain ⟨hG, hK⟩ := h.place (n + 1)
    have HR : Hid (Grew B x W wr lv ⟨g.places + 1, g.links⟩ (.int .i64 (g.places : Int)) (.returned (.int .i64 (n : Int))) (wr.setCell ⟨x, 0, none⟩ (.int .i64 ((n : Int) + 1)))) := by
      rw [Hn.out]
      have e : ((n + 1 : Nat) : Int) = (n : Int) + 1 := by omega
      rw [e] at hG hK
      exact .inl ⟨⟨by show n + 1 ≤ 16; omega, hf.2⟩, rfl, _, _, _, hG, hK⟩
    clear hG hK
    go_enter Try.func80, Try.ntmps80
    go_wp2
    go_ret
    exact HR.out

theorem tran_any (hG : GrowAt B x W wr g lv us vs) (hf : FitG g) (lab : Int) (a b : List Nat) (u v : Value) (hu : On (fun k => ¬ mineG x lv k) wr (fun w' => Ints w' u (intsN a))) (hv : On (fun k => ¬ mineG x lv k) wr (fun w' => Ints w' v (intsN b))) :
    Calls Try.prog 64 #[.pointer (some ⟨x, 0, none⟩), .int .i64 lab, u, v] wr (Grew B x W wr lv (putG g lab a b) (.tuple #[])) := by
  obtain ⟨d0, d1, f0, f1⟩ := hG.at
  obtain ⟨al, cl, hlv⟩ := hG.slice
  obtain ⟨n, Hn⟩ : ∃ n, Hid (g.links.length = n) := ⟨_, rfl⟩
  rw [Hn.out] at hlv
  have h24 : n ≤ 24 := by rw [← Hn.out]; exact hf.2
  obtain ⟨a1, l1, c1, e1⟩ : ∃ a1 l1 c1, u = .slice a1 l1 c1 := by obtain ⟨a1, l1, c1, e, _⟩ := hu.now; exact ⟨a1, l1, c1, e⟩
  obtain ⟨a2, l2, c2, e2⟩ : ∃ a2 l2 c2, v = .slice a2 l2 c2 := by obtain ⟨a1, l1, c1, e, _⟩ := hv.now; exact ⟨a1, l1, c1, e⟩
  subst e1 e2 hlv
  by_cases hn : n = 24
  · subst hn
    have R : Hid (¬ FitG (putG g lab a b)) := fun q => by have := q.2; have := Hn.out; simp [putG] at *; omega
    go_enter Try.func64, Try.ntmps64
    go_wp2
    exact ⟨rfl, .inr ⟨R.out, rfl, hG.below⟩⟩
  · have hn' : ((n : Int) == 24) = false := by rw [beq_eq_false_iff_ne]; omega
    have hrow := hG.row
    rw [Hn.out] at hrow
    have hB := hG.base
    have hF : Hid (FitG (putG g lab a b)) := ⟨hf.1, by have := Hn.out; simp [putG]; omega⟩
    go_enter Try.func64, Try.ntmps64
    have hG1 := hG.to (below_new wr (.cells #[.int .i64 lab, .slice a1 l1 c1, .slice a2 l2 c2] 90))
    have hu1 := hu.below (below_new wr (.cells #[.int .i64 lab, .slice a1 l1 c1, .slice a2 l2 c2] 90))
    have hv1 := hv.below (below_new wr (.cells #[.int .i64 lab, .slice a1 l1 c1, .slice a2 l2 c2] 90))
    have HK1 : Hid _ := Keeps.below (below_new wr (.cells #[.int .i64 lab, .slice a1 l1 c1, .slice a2 l2 c2] 90)) (mineG x (.slice al n cl))
    go_wp2_with (at_builtin; refine wp_append_link rfl _ _ rfl B wr _ n _ lab a1 a2 l1 l2 c1 c2 hrow rfl rfl (by omega) hB ?_; intro v' wC hC hgC hatC; obtain ⟨a', l', c', rfl⟩ := ownsRow_slice hC; obtain ⟨q0, q1⟩ := hG1.after hgC)
    obtain ⟨hG2, hK2⟩ := hG1.link ⟨lab, a, b⟩ hu1 hv1 (by rw [Hn.out]; exact hC) hgC hatC
    go_end0
    exact .inl ⟨hF.out, rfl, _, _, _, hG2, HK1.out.trans hK2⟩

end

end Go.Proofs.Ytgedpebnipghlaa

/- Package grow as it landed: one behind the other. -/
namespace Go.Proofs.Ytgedpebnipghlaa
open Go.RowKit
set_option linter.unusedVariables false
set_option maxRecDepth 4000

/-- A block grows as it should. -/
def BlockGrows (B x : Nat) (W : World) (f : Nat) (b : BlockL) : Prop := ∀ (v : Value) (p q : Nat) (g : GrowL) (lv : Value) (us vs : List Value) (wr : World), BlockV W v b → GrowAt B x W wr g lv us vs → FitG g →
  Calls Try.prog 43 #[.pointer (some ⟨x, 0, none⟩), v, .int .i64 (p : Int), .int .i64 (q : Int)] wr (Grew B x W wr lv (growK f b p q g) (.tuple #[]))

/-- The j-th kid, where it lies now. -/
theorem kid_now {B x : Nat} {W wr : World} {g : GrowL} {lv : Value} {us vs : List Value} (hG : GrowAt B x W wr g lv us vs) (hB : W.heap.size ≤ B) {a : Option Addr} {len cap : Nat} {l : List BlockL} (hK : KidsV W (.slice a len cap) l) {j : Nat} (hj : j < l.length) :
    ∃ bk off ka kl kc, a = some ⟨bk, off, none⟩ ∧ bk < wr.heap.size ∧ wr.cell? ⟨bk, off + j * 3, none⟩ = some (.int .i64 l[j].kind) ∧ wr.cell? ⟨bk, off + j * 3 + 1, none⟩ = some (.int .i64 l[j].label) ∧ wr.cell? ⟨bk, off + j * 3 + 2, none⟩ = some (.slice ka kl kc) ∧
      BlockV W (.agg #[.int .i64 l[j].kind, .int .i64 l[j].label, .slice ka kl kc]) l[j] := by
  obtain ⟨bk, off, kv, ha, hlt, c0, c1, c2, hkid⟩ := hK.at hj
  have hb : Below W.heap.size W wr := hG.below.mono hB
  obtain ⟨kv', e, hk'⟩ := blockV_iff.1 hkid
  obtain ⟨ka, kc, e2, _⟩ := hk'.slice
  injection e with e
  simp only [Array.mk.injEq, List.cons.injEq, and_true, true_and] at e
  subst e e2
  exact ⟨bk, off, ka, _, kc, ha, Nat.lt_of_lt_of_le hlt hb.size, (hb.cell (p := ⟨bk, _, none⟩) hlt).trans c0, (hb.cell (p := ⟨bk, _, none⟩) hlt).trans c1, (hb.cell (p := ⟨bk, _, none⟩) hlt).trans c2, hkid⟩

theorem growSeq_step {K : GrowT} {l : List BlockL} {k m : Nat} (hl : l.length = m + 1) (hk : k < m) (h : k < l.length) (p q : Nat) (g : GrowL) :
    growSeq K (l.drop k) p q g = growSeq K (l.drop (k + 1)) g.places q (K l[k] p g.places ⟨g.places + 1, g.links⟩) := by
  rw [List.drop_eq_getElem_cons h, List.drop_eq_getElem_cons (show k + 1 < l.length by omega)]
  rfl
theorem growSeq_last {K : GrowT} {l : List BlockL} {m : Nat} (hl : l.length = m + 1) (h : m < l.length) (p q : Nat) (g : GrowL) : growSeq K (l.drop m) p q g = K l[m] p q g := by
  rw [List.drop_eq_getElem_cons h, List.drop_of_length_le (by omega)]
  rfl

section
variable {B x : Nat} {W w : World} {g : GrowL} {lv : Value} {us vs : List Value}

set_option maxHeartbeats 1000000 in
theorem row_any (f : Nat) (l : List BlockL) (hk : ∀ k ∈ l, BlockGrows B x W f k) (hl : l ≠ []) (kv : Value) (hK : KidsV W kv l) (hB : W.heap.size ≤ B) (p q : Nat) (hG : GrowAt B x W w g lv us vs) (hf : FitG g) :
    Calls Try.prog 65 #[.pointer (some ⟨x, 0, none⟩), kv, .int .i64 (p : Int), .int .i64 (q : Int)] w (Grew B x W w lv (growSeq (growK f) l p q g) (.tuple #[])) := by
  obtain ⟨a, cap, rfl, hmx, hsh⟩ := hK.slice
  obtain ⟨m, Hm⟩ : ∃ m, Hid (l.length = m + 1) := ⟨l.length - 1, by show _ = _; have : l.length ≠ 0 := fun e => hl (List.eq_nil_of_length_eq_zero e); omega⟩
  rw [Hm.out] at hK hmx hsh ⊢
  have hcap : m + 1 ≤ cap := hsh.1
  have hcap2 : cap ≤ 9223372036854775807 := hsh.2.1
  have Hk : Hid _ := hk
  have HG : Hid _ := hG
  have Hf : Hid _ := hf
  have HK : Hid _ := hK
  have HKR : Hid _ := Keeps.refl w (mineG x lv)
  obtain ⟨T, HT⟩ : ∃ T, Hid (growSeq (growK f) l p q g = T) := ⟨_, rfl⟩
  rw [HT.out]
  clear hk hl hsh hG hf hK
  obtain ⟨bk, off, ha⟩ : ∃ bk off, a = some ⟨bk, off, none⟩ := by
    obtain ⟨bk, off, ka, kl, kc, e, _⟩ := kid_now HG.out hB HK.out (j := m) (by rw [Hm.out]; omega)
    exact ⟨bk, off, e⟩
  subst ha
  go_enter Try.func65, Try.ntmps65
  go_wp2_with fail
  go_loopg [2, 19] m (fun gk pv i wr => ∃ (k p' : Nat) (g' : GrowL) (lv' : Value) (us' vs' : List Value), k + gk = m ∧ i = .int .i64 k ∧ pv = .int .i64 (p' : Int) ∧ Hid (GrowAt B x W wr g' lv' us' vs') ∧ Hid (FitG g') ∧ Hid (Keeps w (mineG x lv) wr (mineG x lv')) ∧ Hid (growSeq (growK f) (l.drop k) p' q g' = T))
  case atStart => exact ⟨0, p, g, lv, us, vs, by omega, rfl, rfl, HG, Hf, HKR, HT⟩
  case round =>
    clear HG Hf HKR HT
    obtain ⟨k, p', g', lv', us', vs', hkg, rfl, rfl, HG, Hf, HKR, HT⟩ := hrel
    by_cases hk : k < m
    · have Hkl : Hid (k < l.length) := by show k < l.length; rw [Hm.out]; omega
      obtain ⟨bk', off', ka, kl, kc, e, hlt, c0, c1, c2, hkid⟩ := kid_now HG.out hB HK.out Hkl.out
      injection e with e
      injection e with e1 e2
      subst e1 e2
      have Hgr : Hid (BlockGrows B x W f (l[k]'Hkl.out)) := Hk.out _ (List.getElem_mem _)
      have Hst : Hid _ := growSeq_step (K := growK f) Hm.out hk Hkl.out p' q g'
      obtain ⟨kb, Hkb⟩ : ∃ kb, Hid (l[k]'Hkl.out = kb) := ⟨_, rfl⟩
      rw [Hkb.out] at c0 c1 hkid Hgr Hst
      have b3 := below_new wr (.cells #[.int .i64 kb.kind, .int .i64 kb.label, .slice ka kl kc] 48)
      have hx3 := box3_new wr (.int .i64 kb.kind) (.int .i64 kb.label) (.slice ka kl kc) 48
      have hG1 := HG.out.to b3
      have Hnm : Hid _ := HG.out.notMine (Nat.le_refl _)
      have HK1 : Hid _ := HKR.out.trans (Keeps.below b3 (mineG x lv'))
      obtain ⟨w4, Hw4⟩ : ∃ w4, Hid (wr.alloc (.cells #[.int .i64 kb.kind, .int .i64 kb.label, .slice ka kl kc] 48) = w4) := ⟨_, rfl⟩
      rw [Hw4.out] at hx3 hG1 HK1
      go_upto_region 4 with fail
      rw [Hw4.out]
      clear Hw4 c0 c1 c2 b3 hlt HG HKR
      go_wp2_with fail
      refine (place_any hG1 Hf.out).mono ?_
      rintro e w5 (⟨hf5, rfl, lv5, us5, vs5, hG5, hK5⟩ | ⟨hf5, rfl, hb5⟩)
      · obtain ⟨z0, z1, z2, z3⟩ := hK5.box3 Hnm.out hx3
        have HK5 : Hid _ := HK1.out.trans hK5
        have Hf5 : Hid _ := hf5
        clear hK5 HK1 hx3 hG1 hf5
        go_wp2_with fail
        refine (Hgr.out _ p' g'.places ⟨g'.places + 1, g'.links⟩ lv5 us5 vs5 w5 (by exact hkid) hG5 Hf5.out).mono ?_
        rintro e w6 (⟨hf6, rfl, lv6, us6, vs6, hG6, hK6⟩ | ⟨hf6, rfl, hb6⟩)
        · have R1 : Hid _ := hG6
          have R2 : Hid _ := hf6
          have R3 : Hid _ := HK5.out.trans hK6
          have R4 : Hid (growSeq (growK f) (l.drop (k + 1)) g'.places q (growK f kb p' g'.places ⟨g'.places + 1, g'.links⟩) = T) := by rw [← Hst.out]; exact HT.out
          clear hG6 hf6 hK6 HK5 z0 z1 z2 z3 hG5 hkid Hst HT
          go_wp2
          go_roundg (gk - 1)
          case measure => omega
          case rel => exact ⟨k + 1, g'.places, _, lv6, us6, vs6, by omega, by go_num, rfl, R1, R2, R3, R4⟩
        · have R : Hid (¬ FitG T) := by
            show ¬ FitG T
            rw [← HT.out, Hst.out]
            exact (growSeq_le (growK_le f) _ _ _ _).not hf6
          clear z0 z1 z2 z3 hG5 hkid Hst HT
          go_wp2
          exact ⟨rfl, .inr ⟨R.out, rfl, hb6⟩⟩
      · have R : Hid (¬ FitG T) := by
          show ¬ FitG T
          rw [← HT.out, Hst.out]
          exact ((growK_le f _ _ _ _).trans (growSeq_le (growK_le f) _ _ _ _)).not hf5
        clear hG1 hkid Hst HT hx3
        go_wp2
        exact ⟨rfl, .inr ⟨R.out, rfl, hb5⟩⟩
    · have ek : k = m := by omega
      subst ek
      have Hkl : Hid (k < l.length) := by show k < l.length; rw [Hm.out]; omega
      obtain ⟨bk', off', ka, kl, kc, e, hlt, c0, c1, c2, hkid⟩ := kid_now HG.out hB HK.out Hkl.out
      injection e with e
      injection e with e1 e2
      subst e1 e2
      have Hgr : Hid (BlockGrows B x W f (l[k]'Hkl.out)) := Hk.out _ (List.getElem_mem _)
      have Hst : Hid _ := growSeq_last (K := growK f) Hm.out Hkl.out p' q g'
      obtain ⟨kb, Hkb⟩ : ∃ kb, Hid (l[k]'Hkl.out = kb) := ⟨_, rfl⟩
      rw [Hkb.out] at c0 c1 hkid Hgr Hst
      go_wp2_with fail
      refine (Hgr.out _ p' q g' lv' us' vs' wr (by exact hkid) HG.out Hf.out).mono ?_
      rintro e w6 (⟨hf6, rfl, lv6, us6, vs6, hG6, hK6⟩ | ⟨hf6, rfl, hb6⟩)
      · have R : Hid (Grew B x W w lv T (.tuple #[]) (.returned (.tuple #[])) w6) := by
          rw [← HT.out, Hst.out]
          exact .inl ⟨hf6, rfl, _, _, _, hG6, HKR.out.trans hK6⟩
        clear hG6 hK6 hkid c0 c1 c2
        go_wp2
        go_end0
        exact R.out
      · have R : Hid (¬ FitG T) := by
          show ¬ FitG T
          rw [← HT.out, Hst.out]
          exact hf6
        clear hkid c0 c1 c2
        go_wp2
        exact ⟨rfl, .inr ⟨R.out, rfl, hb6⟩⟩

end

end Go.Proofs.Ytgedpebnipghlaa

/- Package grow as it landed: there and back. -/
namespace Go.Proofs.Ytgedpebnipghlaa
open Go.RowKit
set_option linter.unusedVariables false
set_option maxRecDepth 4000

theorem ints_lit_on (w : World) (b : Nat) (zs : List Int) (t : TypeId) (n : Nat) (hn : zs.length = n) (h : n ≤ 17592186044416) (hb : b = w.heap.size) :
    On (fun k => k = b) (w.alloc (.cells (zs.map (Value.int .i64)).toArray t)) (fun w' => Ints w' (.slice (some ⟨b, 0, none⟩) n n) zs) := by
  intro w2 hs hk
  obtain ⟨a, len, cap, e, h1, h2, h3, h4⟩ := ints_lit w b zs t n hn h hb
  refine ⟨a, len, cap, e, h1, h2, h3, fun j hj => ?_⟩
  obtain ⟨b', off, ha, hlt, hc⟩ := h4 j hj
  injection e with e
  have hbb : b' = b := by rw [ha] at e; injection e with e; injection e with e; exact e.symm
  refine ⟨b', off, ha, Nat.lt_of_lt_of_le hlt hs, ?_⟩
  rw [World.cell?_of_block (a := ⟨b', off + j, none⟩) (hk b' hlt hbb)]
  exact hc

/-- Two new lists of one place each, and what they say. -/
theorem two_lits {B x : Nat} {W w : World} {g : GrowL} {lv : Value} {us vs : List Value} (hG : GrowAt B x W w g lv us vs) (p q : Nat) (t : TypeId) :
    On (fun k => ¬ mineG x lv k) ((w.alloc (.cells #[.int .i64 (p : Int)] t)).alloc (.cells #[.int .i64 (q : Int)] t)) (fun w' => Ints w' (.slice (some ⟨w.heap.size, 0, none⟩) 1 1) (intsN [p])) ∧
    On (fun k => ¬ mineG x lv k) ((w.alloc (.cells #[.int .i64 (p : Int)] t)).alloc (.cells #[.int .i64 (q : Int)] t)) (fun w' => Ints w' (.slice (some ⟨w.heap.size + 1, 0, none⟩) 1 1) (intsN [q])) := by
  have b2 := below_new (w.alloc (.cells #[.int .i64 (p : Int)] t)) (.cells #[.int .i64 (q : Int)] t)
  have h1 := ints_lit_on w w.heap.size [(p : Int)] t 1 rfl (by omega) rfl
  have h2 := ints_lit_on (w.alloc (.cells #[.int .i64 (p : Int)] t)) (w.heap.size + 1) [(q : Int)] t 1 rfl (by omega) (by simp)
  exact ⟨(h1.below b2).weaken fun k _ hk => hG.notMine (by omega), h2.weaken fun k _ hk => hG.notMine (by omega)⟩

/-- A box of three cells that is none of those that are written. -/
structure StandsB (S : Nat → Prop) (w : World) (b : Nat) (u0 u1 u2 : Value) : Prop where
  box : Box3 w b u0 u1 u2
  out : ¬ S b
theorem StandsB.keep {S S' : Nat → Prop} {w w' : World} {b : Nat} {u0 u1 u2 : Value} (h : StandsB S w b u0 u1 u2) (k : Keeps w S w' S') : StandsB S' w' b u0 u1 u2 := ⟨k.box3 h.out h.box, (k.2 b h.box.1 h.out).2⟩

/-- A transition from one place to another one: the lists are made, the call follows. -/
theorem tran_one_any {B x : Nat} {W w : World} {g : GrowL} {lv : Value} {us vs : List Value} (hG : GrowAt B x W w g lv us vs) (hf : FitG g) (lab : Int) (p q : Nat) :
    Calls Try.prog 64 #[.pointer (some ⟨x, 0, none⟩), .int .i64 lab, .slice (some ⟨w.heap.size, 0, none⟩) 1 1, .slice (some ⟨w.heap.size + 1, 0, none⟩) 1 1] ((w.alloc (.cells #[.int .i64 (p : Int)] 3)).alloc (.cells #[.int .i64 (q : Int)] 3)) (Grew B x W w lv (putG g lab [p] [q]) (.tuple #[])) := by
  have b1 := below_new w (.cells #[.int .i64 (p : Int)] 3)
  have b2 := below_new (w.alloc (.cells #[.int .i64 (p : Int)] 3)) (.cells #[.int .i64 (q : Int)] 3)
  obtain ⟨h1, h2⟩ := two_lits hG p q 3
  refine (tran_any ((hG.to b1).to b2) hf lab [p] [q] _ _ h1 h2).mono ?_
  rintro e w' (⟨hf2, rfl, lv2, us2, vs2, hG2, hK2⟩ | ⟨hf2, rfl, hb2⟩)
  · exact .inl ⟨hf2, rfl, _, _, _, hG2, ((Keeps.below b1 _).trans (Keeps.below b2 _)).trans hK2⟩
  · exact .inr ⟨hf2, rfl, hb2⟩

section
variable {B x : Nat} {W w : World} {g : GrowL} {lv : Value} {us vs : List Value}

set_option maxHeartbeats 1000000 in
theorem rounds_any (f : Nat) (k0 k1 : BlockL) (hk0 : BlockGrows B x W f k0) (hk1 : BlockGrows B x W f k1) (v0 v1 : Value) (hv0 : BlockV W v0 k0) (hv1 : BlockV W v1 k1) (hB : W.heap.size ≤ B) (p q : Nat) (hG : GrowAt B x W w g lv us vs) (hf : FitG g) :
    Calls Try.prog 67 #[.pointer (some ⟨x, 0, none⟩), v0, v1, .int .i64 (p : Int), .int .i64 (q : Int)] w (Grew B x W w lv (putG (growK f k1 (g.places + 1) g.places (growK f k0 g.places (g.places + 1) (putG ⟨g.places + 2, g.links⟩ 0 [p] [g.places]))) 0 [g.places + 1] [q]) (.tuple #[])) := by
  obtain ⟨T, HT⟩ : ∃ T, Hid (putG (growK f k1 (g.places + 1) g.places (growK f k0 g.places (g.places + 1) (putG ⟨g.places + 2, g.links⟩ 0 [p] [g.places]))) 0 [g.places + 1] [q] = T) := ⟨_, rfl⟩
  rw [HT.out]
  have Hle : Hid (LeG (growK f k1 (g.places + 1) g.places (growK f k0 g.places (g.places + 1) (putG ⟨g.places + 2, g.links⟩ 0 [p] [g.places]))) T) := by rw [← HT.out]; exact putG_le _ _ _ _
  have Hle1 : Hid (LeG (growK f k0 g.places (g.places + 1) (putG ⟨g.places + 2, g.links⟩ 0 [p] [g.places])) T) := (growK_le f _ _ _ _).trans Hle.out
  have Hle2 : Hid (LeG (putG ⟨g.places + 2, g.links⟩ 0 [p] [g.places]) T) := (growK_le f _ _ _ _).trans Hle1.out
  have Hle3 : Hid (LeG ⟨g.places + 2, g.links⟩ T) := (putG_le _ _ _ _).trans Hle2.out
  have Hle4 : Hid (LeG ⟨g.places + 1, g.links⟩ T) := (show LeG ⟨g.places + 1, g.links⟩ ⟨g.places + 2, g.links⟩ from ⟨by simp, Nat.le_refl _⟩).trans Hle3.out
  obtain ⟨a0, l0, c0, e0⟩ : ∃ a l c, v0 = .agg #[.int .i64 k0.kind, .int .i64 k0.label, .slice a l c] := by obtain ⟨kv, e, hK⟩ := blockV_iff.1 hv0; obtain ⟨a, c, e2, _⟩ := hK.slice; exact ⟨a, _, c, by rw [e, e2]⟩
  obtain ⟨a1, l1, c1, e1⟩ : ∃ a l c, v1 = .agg #[.int .i64 k1.kind, .int .i64 k1.label, .slice a l c] := by obtain ⟨kv, e, hK⟩ := blockV_iff.1 hv1; obtain ⟨a, c, e2, _⟩ := hK.slice; exact ⟨a, _, c, by rw [e, e2]⟩
  subst e0 e1
  have b1 := below_new w (.cells #[.int .i64 k0.kind, .int .i64 k0.label, .slice a0 l0 c0] 48)
  have b2 := below_new (w.alloc (.cells #[.int .i64 k0.kind, .int .i64 k0.label, .slice a0 l0 c0] 48)) (.cells #[.int .i64 k1.kind, .int .i64 k1.label, .slice a1 l1 c1] 48)
  have hx0 := (box3_new w (.int .i64 k0.kind) (.int .i64 k0.label) (.slice a0 l0 c0) 48).below b2
  have hx1 := box3_new (w.alloc (.cells #[.int .i64 k0.kind, .int .i64 k0.label, .slice a0 l0 c0] 48)) (.int .i64 k1.kind) (.int .i64 k1.label) (.slice a1 l1 c1) 48
  rw [show (w.alloc (.cells #[.int .i64 k0.kind, .int .i64 k0.label, .slice a0 l0 c0] 48)).heap.size = w.heap.size + 1 by simp] at hx1
  have hn0 := hG.notMine (Nat.le_refl w.heap.size)
  have hn1 := hG.notMine (Nat.le_succ w.heap.size)
  have hG1 := (hG.to b1).to b2
  have HK1 : Hid _ := (Keeps.below b1 (mineG x lv)).trans (Keeps.below b2 (mineG x lv))
  obtain ⟨w1, Hw1⟩ : ∃ w1, Hid ((w.alloc (.cells #[.int .i64 k0.kind, .int .i64 k0.label, .slice a0 l0 c0] 48)).alloc (.cells #[.int .i64 k1.kind, .int .i64 k1.label, .slice a1 l1 c1] 48) = w1) := ⟨_, rfl⟩
  rw [Hw1.out] at hx0 hx1 hG1 HK1
  have S0 : StandsB (mineG x lv) w1 w.heap.size (.int .i64 k0.kind) (.int .i64 k0.label) (.slice a0 l0 c0) := ⟨hx0, hn0⟩
  have S1 : StandsB (mineG x lv) w1 (w.heap.size + 1) (.int .i64 k1.kind) (.int .i64 k1.label) (.slice a1 l1 c1) := ⟨hx1, hn1⟩
  have H0 : Hid _ := hk0
  have H1 : Hid _ := hk1
  have Hv0 : Hid _ := hv0
  have Hv1 : Hid _ := hv1
  clear hG b1 b2 hk0 hk1 hx0 hx1 hn0 hn1 hv0 hv1
  go_enter Try.func67, Try.ntmps67
  go_upto_region 1 with fail
  rw [Hw1.out]
  clear Hw1
  go_wp2_with fail
  refine (place_any hG1 hf).mono ?_
  rintro e w2 (⟨hf2, rfl, lv2, us2, vs2, hG2, hK2⟩ | ⟨hf2, rfl, hb2⟩)
  case inr =>
    have R : Hid (¬ FitG T) := Hle4.out.not hf2
    go_wp2
    exact ⟨rfl, .inr ⟨R.out, rfl, hb2⟩⟩
  replace S0 := S0.keep hK2
  replace S1 := S1.keep hK2
  have HK2 : Hid _ := HK1.out.trans hK2
  clear hK2 HK1 hG1 hf
  go_wp2_with fail
  refine (place_any hG2 hf2).mono ?_
  rintro e w3 (⟨hf3, rfl, lv3, us3, vs3, hG3, hK3⟩ | ⟨hf3, rfl, hb3⟩)
  case inr =>
    have R : Hid (¬ FitG T) := Hle3.out.not hf3
    go_wp2
    exact ⟨rfl, .inr ⟨R.out, rfl, hb3⟩⟩
  replace S0 := S0.keep hK3
  replace S1 := S1.keep hK3
  have HK3 : Hid _ := HK2.out.trans hK3
  have Hf3 : Hid (FitG ⟨g.places + 2, g.links⟩) := hf3
  clear hK3 HK2 hG2 hf2 hf3
  obtain ⟨y, Hy⟩ : ∃ y, Hid (g.places + 1 = y) := ⟨_, rfl⟩
  obtain ⟨n, Hn⟩ : ∃ n, Hid (g.places = n) := ⟨_, rfl⟩
  rw [Hy.out, Hn.out]
  replace hG3 : GrowAt B x W w3 ⟨g.places + 2, g.links⟩ lv3 us3 vs3 := hG3
  rw [Hn.out] at hG3 Hf3
  go_wp2_with fail
  refine (tran_one_any hG3 Hf3.out 0 p n).mono ?_
  rintro e w4 (⟨hf4, rfl, lv4, us4, vs4, hG4, hK4⟩ | ⟨hf4, rfl, hb4⟩)
  case inr =>
    have R : Hid (¬ FitG T) := Hle2.out.not (by rw [Hn.out]; exact hf4)
    go_wp2
    exact ⟨rfl, .inr ⟨R.out, rfl, hb4⟩⟩
  replace S0 := S0.keep hK4
  replace S1 := S1.keep hK4
  have HK4 : Hid _ := HK3.out.trans hK4
  have Hf4 : Hid _ := hf4
  clear hK4 HK3 hG3 hf4 Hf3
  obtain ⟨z0, z1, z2, z3⟩ := S0.box
  go_wp2_with fail
  refine (H0.out _ n y _ lv4 us4 vs4 w4 (by exact Hv0.out) hG4 Hf4.out).mono ?_
  rintro e w5 (⟨hf5, rfl, lv5, us5, vs5, hG5, hK5⟩ | ⟨hf5, rfl, hb5⟩)
  case inr =>
    have R : Hid (¬ FitG T) := Hle1.out.not (by rw [Hy.out, Hn.out]; exact hf5)
    clear z0 z1 z2 z3
    go_wp2
    exact ⟨rfl, .inr ⟨R.out, rfl, hb5⟩⟩
  clear z0 z1 z2 z3 S0
  replace S1 := S1.keep hK5
  have HK5 : Hid _ := HK4.out.trans hK5
  have Hf5 : Hid _ := hf5
  clear hK5 HK4 hG4 hf5 Hf4
  obtain ⟨z0, z1, z2, z3⟩ := S1.box
  go_wp2_with fail
  refine (H1.out _ y n _ lv5 us5 vs5 w5 (by exact Hv1.out) hG5 Hf5.out).mono ?_
  rintro e w6 (⟨hf6, rfl, lv6, us6, vs6, hG6, hK6⟩ | ⟨hf6, rfl, hb6⟩)
  case inr =>
    have R : Hid (¬ FitG T) := Hle.out.not (by rw [Hy.out, Hn.out]; exact hf6)
    clear z0 z1 z2 z3
    go_wp2
    exact ⟨rfl, .inr ⟨R.out, rfl, hb6⟩⟩
  clear z0 z1 z2 z3 S1
  have HK6 : Hid _ := HK5.out.trans hK6
  clear hK6 HK5 hG5 Hf5
  go_wp2_with fail
  refine (tran_one_any hG6 hf6 0 y q).mono ?_
  rintro e w7 (⟨hf7, rfl, lv7, us7, vs7, hG7, hK7⟩ | ⟨hf7, rfl, hb7⟩)
  case inr =>
    have R : Hid (¬ FitG T) := by show ¬ FitG T; rw [← HT.out, Hy.out, Hn.out]; exact hf7
    go_wp2
    exact ⟨rfl, .inr ⟨R.out, rfl, hb7⟩⟩
  have R : Hid (Grew B x W w lv T (.tuple #[]) (.returned (.tuple #[])) w7) := by
    rw [← HT.out, Hy.out, Hn.out]
    exact .inl ⟨hf7, rfl, _, _, _, hG7, HK6.out.trans hK7⟩
  clear hG7 hK7 hG6
  go_wp2
  go_end0
  exact R.out

end

end Go.Proofs.Ytgedpebnipghlaa

/- Package grow as it landed: side by side. -/
namespace Go.Proofs.Ytgedpebnipghlaa
open Go.RowKit
set_option linter.unusedVariables false
set_option maxRecDepth 4000
set_option linter.unusedSimpArgs false

theorem wp_append_intR {ops : Array Oper} {rest : List Oper} {o : Oper} {a : Act} {Q : Exit → Act → World → Prop} (hgd : o.guard = none) (s x : Operand)
    (ho : o.op = .call { callee := .builtin .append, args := #[s, x], argTypes := #[29, 29] }) (B : Nat) (wr : World) (v : Value) (n : Nat) (xs : List Value) (z : Int)
    (hown : wr.ownsRow B 3 1 v n xs) (hs : a.eval s = v) (hx : a.eval x = .slice (some ⟨wr.heap.size, 0, none⟩) 1 1) (hl : n ≤ 1000000) (hB : B ≤ wr.heap.size)
    (h : ∀ v' w', w'.ownsRow B 3 1 v' (n + 1) (xs ++ [.int .i64 z]) → (wr.alloc (.cells #[.int .i64 z] 3)).grownBy w' v.ownBlock →
      (v'.ownBlock = v.ownBlock ∨ v'.ownBlock = some (wr.alloc (.cells #[.int .i64 z] 3)).heap.size) → wpList Try.prog ops Q rest (a.put o.dst v') w') :
    wpList Try.prog ops Q (o :: rest) a (wr.alloc (.cells #[.int .i64 z] 3)) := by
  obtain ⟨i0, hi, hz0, hz1, hz2⟩ := info_parts info_int
  refine wpList_append_own_at _ hgd s x 29 ho B 3 i0 _ 1 8 Try.underlying29 hi hz0 hz1 hz2 rfl (by decide) v n _ hs (hown.alloc _) ⟨wr.heap.size, 0, none⟩ 1 1 [.int .i64 z] hx rfl (cell_one_new _ _ _) ?_ ?_ ?_ ?_ ?_
  · intro u hu; simp at hu; subst hu; rfl
  · unfold maxLen; omega
  · omega
  · simp; omega
  · intro v' w' h1 h2 _ h3
    exact h v' w' h1 h2 h3

/-- A place more, where it lies. -/
theorem place_at {x n : Nat} {w : World} {lv : Value} (hc : w.heap[x]? = some (.cells #[.int .i64 (n : Int), lv] 69 (0, 0))) (hn : n < 16) :
    Calls Try.prog 80 #[.pointer (some ⟨x, 0, none⟩)] w fun e w' => e = .returned (.int .i64 (n : Int)) ∧ w' = w.setCell ⟨x, 0, none⟩ (.int .i64 ((n : Int) + 1)) := by
  have d0 : w.cell? ⟨x, 0, none⟩ = some (.int .i64 (n : Int)) := by simp [World.cell?, hc]
  have f0 : w.frozen? ⟨x, 0, none⟩ = false := by simp [World.frozen?, hc]
  have hn' : ((n : Int) == 16) = false := by rw [beq_eq_false_iff_ne]; omega
  go_enter Try.func80, Try.ntmps80
  go_wp2
  go_ret
  exact ⟨rfl, rfl⟩
theorem place_full {x : Nat} {w : World} {lv : Value} (hc : w.heap[x]? = some (.cells #[.int .i64 16, lv] 69 (0, 0))) :
    Calls Try.prog 80 #[.pointer (some ⟨x, 0, none⟩)] w fun e w' => e = .panicked fullP ∧ w' = w := by
  have d0 : w.cell? ⟨x, 0, none⟩ = some (.int .i64 16) := by simp [World.cell?, hc]
  go_enter Try.func80, Try.ntmps80
  go_wp2
  exact ⟨rfl, rfl, rfl⟩

theorem GrowAt.move {B x n : Nat} {W w w' : World} {g : GrowL} {lv : Value} {us vs : List Value} (h : GrowAt B x W w g lv us vs) (hO : OnlyB x w w') (hc : w'.heap[x]? = some (.cells #[.int .i64 (n : Int), lv] 69 (0, 0))) :
    GrowAt B x W w' ⟨n, g.links⟩ lv us vs ∧ Keeps w (mineG x lv) w' (mineG x lv) := by
  have hK : Keeps w (mineG x lv) w' (mineG x lv) := ⟨hO.size, fun k hk hn => ⟨hO.block k hk (fun e => hn (.inl e)), hn⟩⟩
  exact ⟨⟨((ownsRow_on h.row).to hO.size fun k hk q => hO.block k hk (fun e => h.ap (e ▸ q.1))).now, hc, h.below.trans (hO.below.mono h.hx), h.hx, h.ap, h.lenU, h.lenV, fun j hj => ⟨hK.on (h.els j hj).1, hK.on (h.els j hj).2⟩⟩, hK⟩

/-- Ins and outs while they are made. -/
structure DoorsAt (x n0 : Nat) (lv : Value) (w wr : World) (n : Nat) (iv ov : Value) (ki ko : Nat) : Prop where
  only : OnlyB x w wr
  lt : x < w.heap.size
  cells : wr.heap[x]? = some (.cells #[.int .i64 (n : Int), lv] 69 (0, 0))
  ins : wr.ownsRow w.heap.size 3 1 iv ki ((intsN (insG ki n0)).map (Value.int .i64))
  outs : wr.ownsRow w.heap.size 3 1 ov ko ((intsN (outsG ko n0)).map (Value.int .i64))
  apart : ∀ k, iv.ownBlock = some k → ov.ownBlock ≠ some k

section
variable {x n0 n ki ko : Nat} {lv iv ov : Value} {w wr : World}

theorem DoorsAt.to {w' : World} (h : DoorsAt x n0 lv w wr n iv ov ki ko) (hb : Below wr.heap.size wr w') : DoorsAt x n0 lv w w' n iv ov ki ko := by
  have hlt := (Array.getElem?_eq_some_iff.1 h.cells).1
  exact ⟨h.only.trans ⟨hb.mono (Nat.le_of_lt hlt), hb.size, fun k hk _ => hb.block k hk⟩, h.lt, by rw [hb.block x hlt]; exact h.cells, ((ownsRow_on h.ins).below hb).now, ((ownsRow_on h.outs).below hb).now, h.apart⟩
theorem DoorsAt.base (h : DoorsAt x n0 lv w wr n iv ov ki ko) : w.heap.size ≤ wr.heap.size := h.only.size
theorem DoorsAt.place (h : DoorsAt x n0 lv w wr n iv ov ki ko) (m : Nat) : DoorsAt x n0 lv w (wr.setCell ⟨x, 0, none⟩ (.int .i64 (m : Int))) m iv ov ki ko := by
  refine ⟨h.only.trans (OnlyB.set x 0 wr _), h.lt, by rw [setCell_blockK h.cells]; rfl, ?_, ?_, h.apart⟩
  · exact ((ownsRow_on h.ins).set (a := ⟨x, 0, none⟩) (fun e => by have := h.lt; have := e.2; simp at this; omega) _).now
  · exact ((ownsRow_on h.outs).set (a := ⟨x, 0, none⟩) (fun e => by have := h.lt; have := e.2; simp at this; omega) _).now
theorem insG_last (k n : Nat) : insG (k + 1) n = insG k n ++ [n + 2 * k] := by simp [insG, List.range_succ]
theorem outsG_last (k n : Nat) : outsG (k + 1) n = outsG k n ++ [n + 2 * k + 1] := by simp [outsG, List.range_succ]
theorem DoorsAt.grown {wC : World} {row : Option Nat} (h : DoorsAt x n0 lv w wr n iv ov ki ko) (hg : wr.grownBy wC row) (hr : ∀ k, row = some k → w.heap.size ≤ k) : OnlyB x w wC ∧ wC.heap[x]? = some (.cells #[.int .i64 (n : Int), lv] 69 (0, 0)) := by
  have hlt := h.lt
  have hs := h.base
  have hxw : x < wr.heap.size := by omega
  refine ⟨⟨(h.only.below).grown hg (by omega) (fun k hk => by have := hr k hk; omega), Nat.le_trans h.only.size hg.size, fun k hk hne => ?_⟩, ?_⟩
  · rw [hg.block k (by omega) (fun e => by have := hr k e.symm; omega)]; exact h.only.block k hk hne
  · rw [hg.block x hxw (fun e => by have := hr x e.symm; omega)]; exact h.cells
theorem DoorsAt.addIn {wC : World} {iv' : Value} (h : DoorsAt x n0 lv w wr n iv ov ki ko) (hown : wC.ownsRow w.heap.size 3 1 iv' (ki + 1) ((intsN (insG ki n0)).map (Value.int .i64) ++ [.int .i64 ((n0 + 2 * ki : Nat) : Int)])) (hg : wr.grownBy wC iv.ownBlock)
    (hat : iv'.ownBlock = iv.ownBlock ∨ iv'.ownBlock = some wr.heap.size) : DoorsAt x n0 lv w wC n iv' ov (ki + 1) ko := by
  obtain ⟨h1, h2⟩ := h.grown hg (fun k hk => (ownsRow_lt h.ins hk).1)
  refine ⟨h1, h.lt, h2, by rw [insG_last]; simpa [intsN] using hown, ((ownsRow_on h.outs).grown hg fun k _ hk e => h.apart k e.symm hk.1).now, fun k hk e => ?_⟩
  rcases hat with q | q
  · exact h.apart k (by rw [← q]; exact hk) e
  · rw [q] at hk; injection hk with hk; have := (ownsRow_lt h.outs e).2; omega
theorem DoorsAt.addOut {wC : World} {ov' : Value} (h : DoorsAt x n0 lv w wr n iv ov ki ko) (hown : wC.ownsRow w.heap.size 3 1 ov' (ko + 1) ((intsN (outsG ko n0)).map (Value.int .i64) ++ [.int .i64 ((n0 + 2 * ko + 1 : Nat) : Int)])) (hg : wr.grownBy wC ov.ownBlock)
    (hat : ov'.ownBlock = ov.ownBlock ∨ ov'.ownBlock = some wr.heap.size) : DoorsAt x n0 lv w wC n iv ov' ki (ko + 1) := by
  obtain ⟨h1, h2⟩ := h.grown hg (fun k hk => (ownsRow_lt h.outs hk).1)
  refine ⟨h1, h.lt, h2, ((ownsRow_on h.ins).grown hg fun k _ hk e => h.apart k hk.1 e.symm).now, by rw [outsG_last]; simpa [intsN] using hown, fun k hk e => ?_⟩
  rcases hat with q | q
  · exact h.apart k hk (by rw [← q]; exact e)
  · rw [q] at e; injection e with e; have := (ownsRow_lt h.ins hk).2; omega
end

theorem insG_length (n x : Nat) : (insG n x).length = n := by simp [insG]
theorem outsG_length (n x : Nat) : (outsG n x).length = n := by simp [outsG]
theorem insG_at {n x k : Nat} (h : k < n) : nth (intsN (insG n x)) k = ((x + 2 * k : Nat) : Int) := by
  simp [nth, intsN, insG, List.getD, List.getElem?_map, List.getElem?_range h]
theorem outsG_at {n x k : Nat} (h : k < n) : nth (intsN (outsG n x)) k = ((x + 2 * k + 1 : Nat) : Int) := by
  simp [nth, intsN, outsG, List.getD, List.getElem?_map, List.getElem?_range h]

/-- Ins and outs are read as long as they stand. -/
theorem DoorsAt.reads {x n0 n k : Nat} {lv iv ov : Value} {w wr : World} (h : DoorsAt x n0 lv w wr n iv ov k k) (hk : k ≤ 1000000) (hm : ∀ b, w.heap.size ≤ b → ¬ mineG x lv b) :
    On (fun b => ¬ mineG x lv b) wr (fun w' => Ints w' iv (intsN (insG k n0))) ∧ On (fun b => ¬ mineG x lv b) wr (fun w' => Ints w' ov (intsN (outsG k n0))) := by
  have l1 : (intsN (insG k n0)).length = k := by rw [intsN_length, insG_length]
  have l2 : (intsN (outsG k n0)).length = k := by rw [intsN_length, outsG_length]
  constructor
  · refine ((ownsRow_on h.ins).weaken fun b _ hb => hm b hb.2).mono fun w' hw => ownsRow_ints (B := w.heap.size) (by rw [l1]; exact hw) (by omega)
  · refine ((ownsRow_on h.outs).weaken fun b _ hb => hm b hb.2).mono fun w' hw => ownsRow_ints (B := w.heap.size) (by rw [l2]; exact hw) (by omega)

theorem ints_cell_at {w : World} {b off len cap : Nat} {xs : List Int} (h : Ints w (.slice (some ⟨b, off, none⟩) len cap) xs) {j : Nat} (hj : j < xs.length) : w.cell? ⟨b, off + j, none⟩ = some (.int .i64 (nth xs j)) := by
  obtain ⟨a', len', cap', e, hl, _, _, hr⟩ := h
  injection e with e1 e2 e3
  subst e1
  obtain ⟨b', off', ha, hlt, hc⟩ := hr j hj
  injection ha with ha
  injection ha with h1 h2
  subst h1 h2
  exact hc
/-- A number of a list that is read, where it lies. -/
theorem ints_cell {w : World} {a : Option Addr} {len cap : Nat} {xs : List Int} (h : Ints w (.slice a len cap) xs) {j : Nat} (hj : j < xs.length) : ∃ b off, a = some ⟨b, off, none⟩ ∧ xs.length = len ∧ b < w.heap.size ∧ w.cell? ⟨b, off + j, none⟩ = some (.int .i64 (nth xs j)) := by
  obtain ⟨a', len', cap', e, hl, _, _, hr⟩ := h
  injection e with e1 e2 e3
  subst e1 e2 e3
  obtain ⟨b, off, ha, hlt, hc⟩ := hr j hj
  exact ⟨b, off, ha, hl, hlt, hc⟩

theorem growBoth_step {K : GrowT} {l : List BlockL} {k : Nat} (h : k < l.length) (x : Nat) (g : GrowL) : growBoth K (l.drop k) x g = growBoth K (l.drop (k + 1)) (x + 2) (K l[k] x (x + 1) g) := by
  rw [List.drop_eq_getElem_cons h]; rfl

section
variable {B x : Nat} {W w : World} {g : GrowL} {lv : Value} {us vs : List Value}

set_option maxHeartbeats 2000000 in
theorem beside_any (f : Nat) (l : List BlockL) (hk : ∀ k ∈ l, BlockGrows B x W f k) (kv : Value) (hK : KidsV W kv l) (hB : W.heap.size ≤ B) (p q : Nat) (hG : GrowAt B x W w g lv us vs) (hf : FitG g) :
    Calls Try.prog 66 #[.pointer (some ⟨x, 0, none⟩), kv, .int .i64 (p : Int), .int .i64 (q : Int)] w (Grew B x W w lv (putG (growBoth (growK f) l g.places (putG ⟨g.places + 2 * l.length, g.links⟩ 0 [p] (insG l.length g.places))) 0 (outsG l.length g.places) [q]) (.tuple #[])) := by
  obtain ⟨a, cap, rfl, hmx, hsh⟩ := hK.slice
  obtain ⟨m, Hm⟩ : ∃ m, Hid (l.length = m) := ⟨_, rfl⟩
  obtain ⟨n0, Hn0⟩ : ∃ n0, Hid (g.places = n0) := ⟨_, rfl⟩
  obtain ⟨T, HT⟩ : ∃ T, Hid (putG (growBoth (growK f) l g.places (putG ⟨g.places + 2 * l.length, g.links⟩ 0 [p] (insG l.length g.places))) 0 (outsG l.length g.places) [q] = T) := ⟨_, rfl⟩
  rw [HT.out]
  rw [Hm.out, Hn0.out] at HT
  rw [Hm.out] at hK hmx ⊢
  have Hle : Hid (LeG (growBoth (growK f) l n0 (putG ⟨n0 + 2 * m, g.links⟩ 0 [p] (insG m n0))) T) := by rw [← HT.out]; exact putG_le _ _ _ _
  have Hle1 : Hid (LeG (putG ⟨n0 + 2 * m, g.links⟩ 0 [p] (insG m n0)) T) := (growBoth_le (growK_le f) _ _ _).trans Hle.out
  have Hle2 : Hid (LeG ⟨n0 + 2 * m, g.links⟩ T) := (putG_le _ _ _ _).trans Hle1.out
  have Hk : Hid _ := hk
  have HG : Hid _ := hG
  have Hf : Hid _ := hf
  have HK : Hid _ := hK
  have h16 : n0 ≤ 16 := by rw [← Hn0.out]; exact hf.1
  have hD : DoorsAt x n0 lv w w n0 (.slice none 0 0) (.slice none 0 0) 0 0 := ⟨OnlyB.refl _ _, hG.lt, by rw [← Hn0.out]; exact hG.cells, World.ownsRow_nil _ _ _ _, World.ownsRow_nil _ _ _ _, fun k hk => by cases hk⟩
  have HD : Hid _ := hD
  clear hk hG hf hK hsh hD
  go_enter Try.func66, Try.ntmps66
  go_wp2_with fail
  go_loopg [8, 9, 14] m (fun gk iv ov i wr => ∃ (k : Nat), k + gk = m ∧ i = .int .i64 k ∧ n0 + 2 * k ≤ 16 ∧ Hid (DoorsAt x n0 lv w wr (n0 + 2 * k) iv ov k k))
  case atStart => exact ⟨0, by omega, rfl, by omega, HD⟩
  case round =>
    clear HD
    obtain ⟨k, hkg, rfl, hk16, HD⟩ := hrel
    by_cases hk : k < m
    · by_cases h1 : n0 + 2 * k = 16
      · have R : Hid (¬ FitG T) := Hle2.out.not fun q => by have := q.1; simp at this; omega
        have RB : Hid (Below B W wr) := HG.out.below.trans (HD.out.only.below.mono HG.out.hx)
        rw [h1] at HD
        go_wp2_with fail
        refine (place_full HD.out.cells).mono ?_
        rintro e w' ⟨rfl, rfl⟩
        go_wp2
        exact ⟨rfl, .inr ⟨R.out, rfl, RB.out⟩⟩
      · have h2 : n0 + 2 * k < 16 := by omega
        go_wp2_with fail
        refine (place_at HD.out.cells h2).mono ?_
        rintro e w1 ⟨rfl, Hw1⟩
        have hD1 := HD.out.place (n0 + 2 * k + 1)
        rw [show ((n0 + 2 * k + 1 : Nat) : Int) = ((n0 + 2 * k : Nat) : Int) + 1 by omega, ← Hw1] at hD1
        have RB1 : Hid (Below B W w1) := HG.out.below.trans (hD1.only.below.mono HG.out.hx)
        have hD2 := hD1.to (below_new w1 (.cells #[.int .i64 ((n0 + 2 * k : Nat) : Int)] 3))
        have hrow := hD1.ins
        have hbase := hD1.base
        clear Hw1 HD hD1
        obtain ⟨y, Hy⟩ : ∃ y, Hid (n0 + 2 * k = y) := ⟨_, rfl⟩
        rw [Hy.out] at hD2 ⊢
        have hkk : k ≤ 1000000 := by omega
        go_upto_region 4 with (at_builtin; refine wp_append_intR rfl _ _ rfl w.heap.size w1 _ k _ (y : Int) hrow rfl rfl hkk hbase ?_; intro iv' wC hC hgC hatC)
        have hD3 := hD2.addIn (by rw [Hy.out]; exact hC) hgC hatC
        clear hD2 hC hgC hatC hrow hbase RB1
        have RB3 : Hid (Below B W wC) := HG.out.below.trans (hD3.only.below.mono HG.out.hx)
        by_cases h3 : y + 1 = 16
        · have R : Hid (¬ FitG T) := Hle2.out.not fun q => by have := q.1; have := Hy.out; simp at *; omega
          rw [h3] at hD3
          go_wp2_with fail
          refine (place_full hD3.cells).mono ?_
          rintro e w' ⟨rfl, rfl⟩
          go_wp2
          exact ⟨rfl, .inr ⟨R.out, rfl, RB3.out⟩⟩
        · have h4 : y + 1 < 16 := by have := Hy.out; omega
          go_wp2_with fail
          refine (place_at hD3.cells h4).mono ?_
          rintro e w4 ⟨rfl, Hw4⟩
          have hD4 := hD3.place (n0 + 2 * (k + 1))
          rw [show ((n0 + 2 * (k + 1) : Nat) : Int) = ((y + 1 : Nat) : Int) + 1 by have := Hy.out; omega, ← Hw4] at hD4
          have hD5 := hD4.to (below_new w4 (.cells #[.int .i64 ((y + 1 : Nat) : Int)] 3))
          have hrow := hD4.outs
          have hbase := hD4.base
          have ey : Hid (n0 + 2 * k + 1 = y + 1) := by show _ = _; rw [Hy.out]
          have h16' : n0 + 2 * (k + 1) ≤ 16 := by have := Hy.out; omega
          clear Hw4 hD3 hD4 RB3
          obtain ⟨y1, Hy1⟩ : ∃ y1, Hid (y + 1 = y1) := ⟨_, rfl⟩
          rw [Hy1.out] at hD5 ⊢
          go_wp2_with (at_builtin; refine wp_append_intR rfl _ _ rfl w.heap.size w4 _ k _ (y1 : Int) hrow rfl rfl hkk hbase ?_; intro ov' wD hC hgC hatC)
          have HD6 : Hid _ := hD5.addOut (by rw [ey.out, Hy1.out]; exact hC) hgC hatC
          clear hD5 hC hgC hatC hrow hbase
          go_roundg (gk - 1)
          case measure => omega
          case rel => exact ⟨k + 1, by omega, by go_num, h16', HD6⟩
    · have ek : k = m := by omega
      subst ek
      have hm16 : k ≤ 1000000 := by omega
      have hnm : ∀ b, w.heap.size ≤ b → ¬ mineG x lv b := fun b hb => HG.out.notMine hb
      obtain ⟨hI, hO⟩ := HD.out.reads hm16 hnm
      obtain ⟨hG1, hK1⟩ := HG.out.move HD.out.only HD.out.cells
      have Hf1 : Hid (FitG ⟨n0 + 2 * k, g.links⟩) := ⟨hk16, Hf.out.2⟩
      have b1 := below_new wr (.cells #[.int .i64 (p : Int)] 3)
      have hP : On (fun b => ¬ mineG x lv b) (wr.alloc (.cells #[.int .i64 (p : Int)] 3)) (fun w' => Ints w' (.slice (some ⟨wr.heap.size, 0, none⟩) 1 1) (intsN [p])) :=
        (ints_lit_on wr wr.heap.size [(p : Int)] 3 1 rfl (by omega) rfl).weaken fun b _ hb => hG1.notMine (by omega)
      have hG2 := hG1.to b1
      have HK2 : Hid _ := hK1.trans (Keeps.below b1 (mineG x lv))
      replace hI := hI.below b1
      replace hO := hO.below b1
      have HDc : Hid _ := HD.out.apart
      clear HD hK1 hG1 b1
      go_wp2_with fail
      refine (tran_any hG2 Hf1.out 0 [p] (insG k n0) _ _ hP hI).mono ?_
      rintro e w3 (⟨hf3, rfl, lv3, us3, vs3, hG3, hK3⟩ | ⟨hf3, rfl, hb3⟩)
      case inr =>
        have R : Hid (¬ FitG T) := Hle1.out.not hf3
        go_wp2
        exact ⟨rfl, .inr ⟨R.out, rfl, hb3⟩⟩
      have HG3 : Hid _ := hG3
      have Hf3 : Hid _ := hf3
      have HK3 : Hid _ := HK2.out.trans hK3
      have HI3 : Hid (On (fun b => ¬ mineG x lv3 b) w3 (fun w' => Ints w' u8 (intsN (insG k n0)))) := hK3.on hI
      have HO3 : Hid (On (fun b => ¬ mineG x lv3 b) w3 (fun w' => Ints w' u9 (intsN (outsG k n0)))) := hK3.on hO
      have HT3 : Hid (putG (growBoth (growK f) (l.drop 0) n0 (putG ⟨n0 + 2 * k, g.links⟩ 0 [p] (insG k n0))) 0 (outsG k n0) [q] = T) := HT.out
      clear hG3 hf3 hK3 HK2 hI hO hP hG2 Hf1 HT Hle Hle1 Hle2
      obtain ⟨ai, li, ci, ei⟩ : ∃ ai li ci, u8 = .slice ai li ci := by obtain ⟨a1, l1, c1, e, _⟩ := HI3.out.now; exact ⟨a1, l1, c1, e⟩
      obtain ⟨ao, lo, co, eo⟩ : ∃ ai li ci, u9 = .slice ai li ci := by obtain ⟨a1, l1, c1, e, _⟩ := HO3.out.now; exact ⟨a1, l1, c1, e⟩
      subst ei eo
      go_wp2_with fail
      go_loopg [34] k (fun gk i wr => ∃ (j : Nat) (g' : GrowL) (lv' : Value) (us' vs' : List Value), j + gk = k ∧ i = .int .i64 j ∧ Hid (GrowAt B x W wr g' lv' us' vs') ∧ Hid (FitG g') ∧ Hid (Keeps w (mineG x lv) wr (mineG x lv')) ∧ Hid (On (fun b => ¬ mineG x lv' b) wr (fun w' => Ints w' (.slice ai li ci) (intsN (insG k n0)))) ∧
        Hid (On (fun b => ¬ mineG x lv' b) wr (fun w' => Ints w' (.slice ao lo co) (intsN (outsG k n0)))) ∧ Hid (putG (growBoth (growK f) (l.drop j) (n0 + 2 * j) g') 0 (outsG k n0) [q] = T))
      case atStart => exact ⟨0, _, lv3, us3, vs3, by omega, rfl, HG3, Hf3, HK3, HI3, HO3, HT3⟩
      case round =>
        clear HG3 Hf3 HK3 HI3 HO3 HT3 hkg hk16 hm16 hnm HDc hk
        obtain ⟨j, g', lv', us', vs', hjg, rfl, HG', Hf', HKR, HI, HO, HT⟩ := hrel
        by_cases hj : j < k
        · have Hjl : Hid (j < l.length) := by show j < l.length; rw [Hm.out]; exact hj
          obtain ⟨bk, off, ka, kl, kc, ea, hlt, c0, c1, c2, hkid⟩ := kid_now HG'.out hB HK.out Hjl.out
          subst ea
          have Hgr : Hid (BlockGrows B x W f (l[j]'Hjl.out)) := Hk.out _ (List.getElem_mem _)
          have Hst : Hid _ := growBoth_step (K := growK f) Hjl.out (n0 + 2 * j) g'
          obtain ⟨kb, Hkb⟩ : ∃ kb, Hid (l[j]'Hjl.out = kb) := ⟨_, rfl⟩
          rw [Hkb.out] at c0 c1 hkid Hgr Hst
          have b3 := below_new wr (.cells #[.int .i64 kb.kind, .int .i64 kb.label, .slice ka kl kc] 48)
          have hx3 := box3_new wr (.int .i64 kb.kind) (.int .i64 kb.label) (.slice ka kl kc) 48
          have HG4 : Hid _ := HG'.out
          have hG4 := HG'.out.to b3
          have HK4 : Hid _ := HKR.out.trans (Keeps.below b3 (mineG x lv'))
          have hI4 := HI.out.below b3
          have hO4 := HO.out.below b3
          obtain ⟨w4, Hw4⟩ : ∃ w4, Hid (wr.alloc (.cells #[.int .i64 kb.kind, .int .i64 kb.label, .slice ka kl kc] 48) = w4) := ⟨_, rfl⟩
          rw [Hw4.out] at hx3 hG4 HK4 hI4 hO4
          go_upto_region 10 with fail
          rw [Hw4.out]
          clear Hw4 c0 c1 c2 b3 hlt HG' HKR HI HO
          obtain ⟨bi, oi, ei, eli, ilt, ic⟩ := ints_cell hI4.now (j := j) (by rw [intsN_length, insG_length]; exact hj)
          obtain ⟨bo, oo, eo, elo, olt, oc⟩ := ints_cell hO4.now (j := j) (by rw [intsN_length, outsG_length]; exact hj)
          rw [intsN_length, insG_length] at eli
          rw [intsN_length, outsG_length] at elo
          rw [insG_at hj] at ic
          rw [outsG_at hj] at oc
          subst ei eo eli elo
          obtain ⟨y, Hy⟩ : ∃ y, Hid (n0 + 2 * j = y) := ⟨_, rfl⟩
          obtain ⟨y1, Hy1⟩ : ∃ y1, Hid (n0 + 2 * j + 1 = y1) := ⟨_, rfl⟩
          rw [Hy1.out] at oc
          rw [Hy.out] at ic
          obtain ⟨z0, z1, z2, z3⟩ := id hx3
          have hnm := HG4.out.notMine (Nat.le_refl wr.heap.size)
          have bd := below_drewN (Below.refl w4.heap.size w4) 1
          have hG4d := hG4.to bd
          have hI5 := hI4.below bd
          have hO5 := hO4.below bd
          have hx5 := hx3.below bd
          have HK5 : Hid _ := HK4.out.trans (Keeps.below bd (mineG x lv'))
          refine wp_region_held_drew (S := (fun w' => w'.cell? ⟨wr.heap.size, 0, none⟩ = some (.int .i64 kb.kind) ∧ w'.cell? ⟨wr.heap.size, 1, none⟩ = some (.int .i64 kb.label) ∧ w'.cell? ⟨wr.heap.size, 2, none⟩ = some (.slice ka kl kc) ∧ w'.cell? ⟨bi, oi + j, none⟩ = some (.int .i64 (y : Int)) ∧ w'.cell? ⟨bo, oo + j, none⟩ = some (.int .i64 (y1 : Int)))) (by kernel_rfl) ⟨by simpa using z1, by simpa using z2, by simpa using z3, by simpa using ic, by simpa using oc⟩ (fun hH => ?_)
          refine wpAnyH_take (i := 0) rfl (by kernel_rfl) (by kernel_rfl) (by kernel_rfl) (fun _ _ _ h => h) (.inl ⟨by rfl, fun _ _ => rfl⟩) hH ?_
          simp only [List.getElem_toArray, List.getElem_cons_succ, List.getElem_cons_zero, Act.put, List.setIfInBounds_toArray, List.set_cons_zero, List.set_cons_succ]
          refine wpAnyH_take (i := 1) (v := .agg #[.int .i64 kb.kind, .int .i64 kb.label, .slice ka kl kc]) rfl (by kernel_rfl) (by kernel_rfl) (by kernel_rfl) (fun _ _ _ h => h) (.inl ⟨by rfl, fun w' hS' => by obtain ⟨e0, e1, e2, e3, e4⟩ := hS'; go_simp⟩) hH ?_
          simp only [List.getElem_toArray, List.getElem_cons_succ, List.getElem_cons_zero, Act.put, List.setIfInBounds_toArray, List.set_cons_zero, List.set_cons_succ]
          refine wpAnyH_take (i := 2) rfl (by kernel_rfl) (by kernel_rfl) (by kernel_rfl) (fun _ _ _ h => h) (.inl ⟨by rfl, fun _ _ => rfl⟩) hH ?_
          simp only [List.getElem_toArray, List.getElem_cons_succ, List.getElem_cons_zero, Act.put, List.setIfInBounds_toArray, List.set_cons_zero, List.set_cons_succ]
          refine wpAnyH_take (i := 3) rfl (by kernel_rfl) (by kernel_rfl) (by kernel_rfl) (fun _ _ _ h => h) (.inl ⟨by rfl, fun _ _ => rfl⟩) hH ?_
          simp only [List.getElem_toArray, List.getElem_cons_succ, List.getElem_cons_zero, Act.put, List.setIfInBounds_toArray, List.set_cons_zero, List.set_cons_succ]
          refine wpAnyH_take (i := 4) (v := .pointer (some ⟨bi, oi + j, none⟩)) rfl (by kernel_rfl) (by kernel_rfl) (by kernel_rfl) (fun _ _ _ h => h) (.inl ⟨by rfl, fun w' hS' => by first | (go_simp; done) | (go_simp; rfl)⟩) hH ?_
          simp only [List.getElem_toArray, List.getElem_cons_succ, List.getElem_cons_zero, Act.put, List.setIfInBounds_toArray, List.set_cons_zero, List.set_cons_succ]
          refine wpAnyH_take (i := 5) (v := .int .i64 (y : Int)) rfl (by kernel_rfl) (by kernel_rfl) (by kernel_rfl) (fun _ _ _ h => h) (.inl ⟨by rfl, fun w' hS' => by obtain ⟨e0, e1, e2, e3, e4⟩ := hS'; go_simp⟩) hH ?_
          simp only [List.getElem_toArray, List.getElem_cons_succ, List.getElem_cons_zero, Act.put, List.setIfInBounds_toArray, List.set_cons_zero, List.set_cons_succ]
          refine wpAnyH_take (i := 6) rfl (by kernel_rfl) (by kernel_rfl) (by kernel_rfl) (fun _ _ _ h => h) (.inl ⟨by rfl, fun _ _ => rfl⟩) hH ?_
          simp only [List.getElem_toArray, List.getElem_cons_succ, List.getElem_cons_zero, Act.put, List.setIfInBounds_toArray, List.set_cons_zero, List.set_cons_succ]
          refine wpAnyH_take (i := 7) rfl (by kernel_rfl) (by kernel_rfl) (by kernel_rfl) (fun _ _ _ h => h) (.inl ⟨by rfl, fun _ _ => rfl⟩) hH ?_
          simp only [List.getElem_toArray, List.getElem_cons_succ, List.getElem_cons_zero, Act.put, List.setIfInBounds_toArray, List.set_cons_zero, List.set_cons_succ]
          refine wpAnyH_take (i := 8) (v := .pointer (some ⟨bo, oo + j, none⟩)) rfl (by kernel_rfl) (by kernel_rfl) (by kernel_rfl) (fun _ _ _ h => h) (.inl ⟨by rfl, fun w' hS' => by first | (go_simp; done) | (go_simp; rfl)⟩) hH ?_
          simp only [List.getElem_toArray, List.getElem_cons_succ, List.getElem_cons_zero, Act.put, List.setIfInBounds_toArray, List.set_cons_zero, List.set_cons_succ]
          refine wpAnyH_take (i := 9) (v := .int .i64 (y1 : Int)) rfl (by kernel_rfl) (by kernel_rfl) (by kernel_rfl) (fun _ _ _ h => h) (.inl ⟨by rfl, fun w' hS' => by obtain ⟨e0, e1, e2, e3, e4⟩ := hS'; go_simp⟩) hH ?_
          simp only [List.getElem_toArray, List.getElem_cons_succ, List.getElem_cons_zero, Act.put, List.setIfInBounds_toArray, List.set_cons_zero, List.set_cons_succ]
          refine wpAnyH_ready (rs := [10]) (by kernel_rfl) (by simp) ?_
          refine AllReadyH.cons rfl (fun K hK => ?_) AllReadyH.nil
          simp only [List.getElem_toArray, List.getElem_cons_succ, List.getElem_cons_zero]
          rw [if_pos (by rfl)]
          go_wp2_with fail
          refine (Hgr.out _ y y1 g' lv' us' vs' _ (by exact hkid) hG4d Hf'.out).mono ?_
          rintro e w6 (⟨hf6, rfl, lv6, us6, vs6, hG6, hK6⟩ | ⟨hf6, rfl, hb6⟩)
          · have R1 : Hid _ := hG6
            have R2 : Hid _ := hf6
            have R3 : Hid _ := HK5.out.trans hK6
            have R4 : Hid (On (fun b => ¬ mineG x lv6 b) w6 (fun w' => Ints w' (.slice (some ⟨bi, oi, none⟩) k ci) (intsN (insG k n0)))) := hK6.on hI5
            have R5 : Hid (On (fun b => ¬ mineG x lv6 b) w6 (fun w' => Ints w' (.slice (some ⟨bo, oo, none⟩) k co) (intsN (outsG k n0)))) := hK6.on hO5
            have R6 : Hid (putG (growBoth (growK f) (l.drop (j + 1)) (n0 + 2 * (j + 1)) (growK f kb y y1 g')) 0 (outsG k n0) [q] = T) := by rw [← HT.out, Hst.out, Hy1.out, Hy.out, show n0 + 2 * (j + 1) = y + 2 by have := Hy.out; omega]; rfl
            obtain ⟨t0, t1, t2, t3⟩ := hK6.box3 hnm hx5
            have t4 : w6.cell? ⟨bi, oi + j, none⟩ = some (.int .i64 (y : Int)) := by rw [ints_cell_at R4.out.now (by rw [intsN_length, insG_length]; exact hj), insG_at hj, Hy.out]
            have t5 : w6.cell? ⟨bo, oo + j, none⟩ = some (.int .i64 (y1 : Int)) := by rw [ints_cell_at R5.out.now (by rw [intsN_length, outsG_length]; exact hj), outsG_at hj, Hy1.out]
            refine hK.out _ _ ⟨t1, t2, t3, t4, t5⟩ (fun hH => ?_)
            refine wpAnyH_done (by kernel_rfl) ?_ _
            clear hG6 hf6 hK6 hH t0 t1 t2 t3 t4 t5 hK hI5 hO5 hx5 hG4d bd hI4 hO4 hG4 hx3 z0 z1 z2 z3 ic oc hkid Hst HT
            go_wp2
            go_roundg (gk - 1)
            case measure => omega
            case rel => exact ⟨j + 1, _, lv6, us6, vs6, by omega, by go_num, R1, R2, R3, R4, R5, R6⟩
          · have R : Hid (¬ FitG T) := by
              show ¬ FitG T
              rw [← HT.out, Hst.out, Hy1.out, Hy.out]
              exact ((growBoth_le (growK_le f) _ _ _).trans (putG_le _ _ _ _)).not hf6
            go_wp2
            exact ⟨rfl, .inr ⟨R.out, rfl, hb6⟩⟩
        · have ej : j = k := by omega
          subst ej
          have HT2 : Hid (putG g' 0 (outsG j n0) [q] = T) := by rw [← HT.out, List.drop_of_length_le (by rw [Hm.out]; exact Nat.le_refl _)]; rfl
          have b1 := below_new wr (.cells #[.int .i64 (q : Int)] 3)
          have hQ : On (fun b => ¬ mineG x lv' b) (wr.alloc (.cells #[.int .i64 (q : Int)] 3)) (fun w' => Ints w' (.slice (some ⟨wr.heap.size, 0, none⟩) 1 1) (intsN [q])) :=
            (ints_lit_on wr wr.heap.size [(q : Int)] 3 1 rfl (by omega) rfl).weaken fun b _ hb => HG'.out.notMine (by omega)
          have hG4 := HG'.out.to b1
          have hO4 := HO.out.below b1
          have HK4 : Hid _ := HKR.out.trans (Keeps.below b1 (mineG x lv'))
          clear b1 HG' HKR HI HO HT
          go_wp2_with fail
          refine (tran_any hG4 Hf'.out 0 (outsG j n0) [q] _ _ hO4 hQ).mono ?_
          rintro e w6 (⟨hf6, rfl, lv6, us6, vs6, hG6, hK6⟩ | ⟨hf6, rfl, hb6⟩)
          · have R : Hid (Grew B x W w lv T (.tuple #[]) (.returned (.tuple #[])) w6) := by
              rw [← HT2.out]
              exact .inl ⟨hf6, rfl, _, _, _, hG6, HK4.out.trans hK6⟩
            clear hG6 hK6 hG4 hO4 hQ
            go_wp2
            go_end0
            exact R.out
          · have R : Hid (¬ FitG T) := by rw [← HT2.out]; exact hf6
            clear hG4 hO4 hQ
            go_wp2
            exact ⟨rfl, .inr ⟨R.out, rfl, hb6⟩⟩

end

end Go.Proofs.Ytgedpebnipghlaa

/- Package grow as it landed: a block grows. -/
namespace Go.Proofs.Ytgedpebnipghlaa
open Go.RowKit
set_option linter.unusedVariables false
set_option linter.unusedSimpArgs false
set_option maxRecDepth 4000

theorem grew_more {B x : Nat} {W w w1 : World} {lv : Value} {g : GrowL} {r : Value} {e : Ending} {w' : World} (hb : Below w.heap.size w w1) (h : Grew B x W w1 lv g r e w') : Grew B x W w lv g r e w' := by
  rcases h with ⟨h1, h2, lv', us', vs', h3, h4⟩ | h
  · exact .inl ⟨h1, h2, lv', us', vs', h3, (Keeps.below hb _).trans h4⟩
  · exact .inr h

theorem growAlt_step {K : GrowT} {l : List BlockL} {k : Nat} (h : k < l.length) (p q : Nat) (g : GrowL) : growAlt K (l.drop k) p q g = growAlt K (l.drop (k + 1)) p q (K l[k] p q g) := by
  rw [List.drop_eq_getElem_cons h]; rfl

theorem kid_W {W : World} {a : Option Addr} {len cap : Nat} {l : List BlockL} (hK : KidsV W (.slice a len cap) l) {j : Nat} (hj : j < l.length) :
    ∃ bk off ka kl kc, a = some ⟨bk, off, none⟩ ∧ bk < W.heap.size ∧ (∀ w', Below W.heap.size W w' → w'.cell? ⟨bk, off + j * 3, none⟩ = some (.int .i64 l[j].kind) ∧ w'.cell? ⟨bk, off + j * 3 + 1, none⟩ = some (.int .i64 l[j].label) ∧ w'.cell? ⟨bk, off + j * 3 + 2, none⟩ = some (.slice ka kl kc)) ∧
      BlockV W (.agg #[.int .i64 l[j].kind, .int .i64 l[j].label, .slice ka kl kc]) l[j] := by
  obtain ⟨bk, off, kv, ha, hlt, c0, c1, c2, hkid⟩ := hK.at hj
  obtain ⟨kv', e, hk'⟩ := blockV_iff.1 hkid
  obtain ⟨ka, kc, e2, _⟩ := hk'.slice
  injection e with e
  simp only [Array.mk.injEq, List.cons.injEq, and_true, true_and] at e
  subst e e2
  exact ⟨bk, off, ka, _, kc, ha, hlt, fun w' hb => ⟨(hb.cell (p := ⟨bk, _, none⟩) hlt).trans c0, (hb.cell (p := ⟨bk, _, none⟩) hlt).trans c1, (hb.cell (p := ⟨bk, _, none⟩) hlt).trans c2⟩, hkid⟩

set_option maxHeartbeats 4000000 in
theorem block_one {B x : Nat} {W : World} (hB : W.heap.size ≤ B) (f : Nat) (b : BlockL) (hform : formB b) (hk : ∀ k ∈ b.kids, BlockGrows B x W f k) : BlockGrows B x W (f + 1) b := by
  intro v p q g lv us vs wr hv hG hf
  obtain ⟨f1, f2, f3, f4, f5, f6⟩ := hform
  obtain ⟨T, HT⟩ : ∃ T, Hid (growK (f + 1) b p q g = T) := ⟨_, rfl⟩
  have HT1 : Hid (growF (growK f) b p q g = T) := HT.out
  rw [HT.out]
  clear HT
  obtain ⟨kv, rfl, hK⟩ := blockV_iff.1 hv
  obtain ⟨a, cap, rfl, hmx, hsh⟩ := hK.slice
  obtain ⟨n, Hn⟩ : ∃ n, Hid (b.kids.length = n) := ⟨_, rfl⟩
  obtain ⟨K, HK⟩ : ∃ K, Hid (b.kind = K) := ⟨_, rfl⟩
  obtain ⟨L, HL⟩ : ∃ L, Hid (b.label = L) := ⟨_, rfl⟩
  rw [HK.out] at f1 f2 f3 f4 f5 f6
  rw [Hn.out] at f4 f5 f6 hK hmx
  rw [HK.out, HL.out, Hn.out]
  have c := below_new wr (.cells #[.int .i64 K, .int .i64 L, .slice a n cap] 48)
  have hbx := box3_new wr (.int .i64 K) (.int .i64 L) (.slice a n cap) 48
  have hG1 := hG.to c
  have Hc : Hid _ := c
  have Hnm : Hid _ := hG.notMine (Nat.le_refl wr.heap.size)
  have Hk : Hid _ := hk
  have Hf : Hid _ := hf
  obtain ⟨w1, Hw1⟩ : ∃ w1, Hid (wr.alloc (.cells #[.int .i64 K, .int .i64 L, .slice a n cap] 48) = w1) := ⟨_, rfl⟩
  rw [Hw1.out] at hbx hG1 Hc
  clear hv hsh c hG hk hf
  go_enter Try.func43, Try.ntmps43
  go_upto_region 1 with fail
  rw [Hw1.out]
  clear Hw1
  obtain ⟨x0, x1, x2, x3⟩ := id hbx
  obtain rfl | rfl | rfl | rfl | rfl | rfl : K = 1 ∨ K = 2 ∨ K = 3 ∨ K = 4 ∨ K = 5 ∨ K = 6 := by omega
  · have R : Hid (putG g 0 [p] [q] = T) := by show _ = _; rw [← HT1.out]; simp only [growF]; rw [if_pos HK.out]
    clear f1 f2 f3 f4 f5 f6
    go_wp2_with fail
    refine (tran_one_any hG1 Hf.out 0 p q).mono ?_
    rintro e w2 hgrew
    have RG : Hid (Grew B x W wr lv T (.tuple #[]) e w2) := by rw [← R.out]; exact grew_more Hc.out hgrew
    rcases hgrew with ⟨_, rfl, _⟩ | ⟨_, rfl, _⟩
    · go_wp2
      go_end0
      exact RG.out
    · go_wp2
      exact ⟨rfl, RG.out⟩
  · have R : Hid (putG g L [p] [q] = T) := by show _ = _; rw [← HT1.out]; simp only [growF]; rw [if_neg (by rw [HK.out]; decide), if_pos HK.out, HL.out]
    clear f1 f2 f3 f4 f5 f6
    go_wp2_with fail
    refine (tran_one_any hG1 Hf.out L p q).mono ?_
    rintro e w2 hgrew
    have RG : Hid (Grew B x W wr lv T (.tuple #[]) e w2) := by rw [← R.out]; exact grew_more Hc.out hgrew
    rcases hgrew with ⟨_, rfl, _⟩ | ⟨_, rfl, _⟩
    · go_wp2
      go_end0
      exact RG.out
    · go_wp2
      exact ⟨rfl, RG.out⟩
  · have R : Hid (growSeq (growK f) b.kids p q g = T) := by show _ = _; rw [← HT1.out]; simp only [growF]; rw [if_neg (by rw [HK.out]; decide), if_neg (by rw [HK.out]; decide), if_pos HK.out]
    have hne : b.kids ≠ [] := fun e => f5 (by omega) (by rw [← Hn.out, e]; rfl)
    clear f1 f2 f3 f4 f5 f6
    go_wp2_with fail
    refine (row_any f b.kids Hk.out hne _ hK hB p q hG1 Hf.out).mono ?_
    rintro e w2 hgrew
    have RG : Hid (Grew B x W wr lv T (.tuple #[]) e w2) := by rw [← R.out]; exact grew_more Hc.out hgrew
    rcases hgrew with ⟨_, rfl, _⟩ | ⟨_, rfl, _⟩
    · go_wp2
      go_end0
      exact RG.out
    · go_wp2
      exact ⟨rfl, RG.out⟩
  · have R : Hid (growAlt (growK f) (b.kids.drop 0) p q g = T) := by show _ = _; rw [← HT1.out]; simp only [growF]; rw [if_neg (by rw [HK.out]; decide), if_neg (by rw [HK.out]; decide), if_neg (by rw [HK.out]; decide), if_pos HK.out, List.drop_zero]
    clear f1 f2 f3 f4 f5 f6 HT1
    have HG : Hid _ := hG1
    have HKR : Hid _ := Keeps.below Hc.out (mineG x lv)
    go_wp2_with fail
    clear x0 x1 x2 x3 hbx hG1
    obtain ⟨w, Hwr⟩ : ∃ w, Hid (wr = w) := ⟨_, rfl⟩
    rw [Hwr.out] at HKR Hc
    rw [Hwr.out]
    clear Hwr
    go_loopg [43] n (fun gk i wr => ∃ (k : Nat) (g' : GrowL) (lv' : Value) (us' vs' : List Value), k + gk = n ∧ i = .int .i64 k ∧ Hid (GrowAt B x W wr g' lv' us' vs') ∧ Hid (FitG g') ∧ Hid (Keeps w (mineG x lv) wr (mineG x lv')) ∧ Hid (growAlt (growK f) (b.kids.drop k) p q g' = T))
    case atStart => exact ⟨0, g, lv, us, vs, by omega, rfl, HG, Hf, HKR, R⟩
    case round =>
      clear HG HKR R Hf
      obtain ⟨k, g', lv', us', vs', hkg, rfl, HG, Hf, HKR, HT⟩ := hrel
      by_cases hk : k < n
      · have Hkl : Hid (k < b.kids.length) := by show k < b.kids.length; rw [Hn.out]; exact hk
        obtain ⟨bk, off, ka, kl, kc, ea, hlt, c0, c1, c2, hkid⟩ := kid_now HG.out hB hK Hkl.out
        subst ea
        have Hgr : Hid (BlockGrows B x W f (b.kids[k]'Hkl.out)) := Hk.out _ (List.getElem_mem _)
        have Hst : Hid _ := growAlt_step (K := growK f) Hkl.out p q g'
        obtain ⟨kb, Hkb⟩ : ∃ kb, Hid (b.kids[k]'Hkl.out = kb) := ⟨_, rfl⟩
        rw [Hkb.out] at c0 c1 hkid Hgr Hst
        have b3 := below_new wr (.cells #[.int .i64 kb.kind, .int .i64 kb.label, .slice ka kl kc] 48)
        have hx3 := box3_new wr (.int .i64 kb.kind) (.int .i64 kb.label) (.slice ka kl kc) 48
        have hG1 := HG.out.to b3
        have HK1 : Hid _ := HKR.out.trans (Keeps.below b3 (mineG x lv'))
        obtain ⟨w4, Hw4⟩ : ∃ w4, Hid (wr.alloc (.cells #[.int .i64 kb.kind, .int .i64 kb.label, .slice ka kl kc] 48) = w4) := ⟨_, rfl⟩
        rw [Hw4.out] at hx3 hG1 HK1
        go_upto_region 12 with fail
        rw [Hw4.out]
        clear Hw4 c0 c1 c2 b3 hlt HG HKR
        obtain ⟨z0, z1, z2, z3⟩ := hx3
        go_wp2_with fail
        refine (Hgr.out _ p q g' lv' us' vs' w4 (by exact hkid) hG1 Hf.out).mono ?_
        rintro e w6 (⟨hf6, rfl, lv6, us6, vs6, hG6, hK6⟩ | ⟨hf6, rfl, hb6⟩)
        · have R1 : Hid _ := hG6
          have R2 : Hid _ := hf6
          have R3 : Hid _ := HK1.out.trans hK6
          have R4 : Hid (growAlt (growK f) (b.kids.drop (k + 1)) p q (growK f kb p q g') = T) := by rw [← Hst.out]; exact HT.out
          clear hG6 hf6 hK6 HK1 z0 z1 z2 z3 hG1 hkid Hst HT
          go_wp2
          go_roundg (gk - 1)
          case measure => omega
          case rel => exact ⟨k + 1, _, lv6, us6, vs6, by omega, by go_num, R1, R2, R3, R4⟩
        · have R : Hid (¬ FitG T) := by
            show ¬ FitG T
            rw [← HT.out, Hst.out]
            exact (growAlt_le (growK_le f) _ _ _ _).not hf6
          clear z0 z1 z2 z3 hG1 hkid Hst HT
          go_wp2
          exact ⟨rfl, .inr ⟨R.out, rfl, hb6⟩⟩
      · have R : Hid (Grew B x W w lv T (.tuple #[]) (.returned (.tuple #[])) wr) := by
          have e : g' = T := by rw [← HT.out, List.drop_of_length_le (by rw [Hn.out]; omega)]; rfl
          rw [← e]
          exact .inl ⟨Hf.out, rfl, _, _, _, HG.out, HKR.out⟩
        clear HG HKR HT
        go_wp2
        go_end0
        exact R.out
  · have R : Hid (putG (growBoth (growK f) b.kids g.places (putG ⟨g.places + 2 * b.kids.length, g.links⟩ 0 [p] (insG b.kids.length g.places))) 0 (outsG b.kids.length g.places) [q] = T) := by
      show _ = _; rw [← HT1.out]; simp only [growF]; rw [if_neg (by rw [HK.out]; decide), if_neg (by rw [HK.out]; decide), if_neg (by rw [HK.out]; decide), if_neg (by rw [HK.out]; decide), if_pos HK.out]
    clear f1 f2 f3 f4 f5 f6 HT1
    go_wp2_with fail
    refine (beside_any f b.kids Hk.out _ hK hB p q hG1 Hf.out).mono ?_
    rintro e w2 hgrew
    have RG : Hid (Grew B x W wr lv T (.tuple #[]) e w2) := by rw [← R.out]; exact grew_more Hc.out hgrew
    rcases hgrew with ⟨_, rfl, _⟩ | ⟨_, rfl, _⟩
    · go_wp2
      go_end0
      exact RG.out
    · go_wp2
      exact ⟨rfl, RG.out⟩
  · have h2 : n = 2 := f6 rfl
    subst h2
    have Hl0 : Hid (0 < b.kids.length) := by show _ < _; rw [Hn.out]; omega
    have Hl1 : Hid (1 < b.kids.length) := by show _ < _; rw [Hn.out]; omega
    have R : Hid (putG (growK f (kidB b 1) (g.places + 1) g.places (growK f (kidB b 0) g.places (g.places + 1) (putG ⟨g.places + 2, g.links⟩ 0 [p] [g.places]))) 0 [g.places + 1] [q] = T) := by
      show _ = _; rw [← HT1.out]; simp only [growF]; rw [if_neg (by rw [HK.out]; decide), if_neg (by rw [HK.out]; decide), if_neg (by rw [HK.out]; decide), if_neg (by rw [HK.out]; decide), if_neg (by rw [HK.out]; decide)]
    have e0 : Hid (b.kids[0]'Hl0.out = kidB b 0) := by show _ = _; simp [kidB, List.getD, List.getElem?_eq_getElem Hl0.out]
    have e1 : Hid (b.kids[1]'Hl1.out = kidB b 1) := by show _ = _; simp [kidB, List.getD, List.getElem?_eq_getElem Hl1.out]
    have Hg0 : Hid (BlockGrows B x W f (kidB b 0)) := by rw [← e0.out]; exact Hk.out _ (List.getElem_mem _)
    have Hg1 : Hid (BlockGrows B x W f (kidB b 1)) := by rw [← e1.out]; exact Hk.out _ (List.getElem_mem _)
    obtain ⟨bk, off, ka0, kl0, kc0, ea, hlt, cc, hkid0⟩ := kid_W hK Hl0.out
    obtain ⟨bk', off', ka1, kl1, kc1, ea', hlt', dd, hkid1⟩ := kid_W hK Hl1.out
    subst ea
    injection ea' with ea'
    injection ea' with ea1 ea2
    subst ea1 ea2
    rw [e0.out] at cc hkid0
    rw [e1.out] at dd hkid1
    obtain ⟨k0, Hk0⟩ : ∃ k0, Hid (kidB b 0 = k0) := ⟨_, rfl⟩
    obtain ⟨k1, Hk1⟩ : ∃ k1, Hid (kidB b 1 = k1) := ⟨_, rfl⟩
    rw [Hk0.out] at cc hkid0 Hg0 R
    rw [Hk1.out] at dd hkid1 Hg1 R
    simp only [Nat.zero_mul, Nat.add_zero, Nat.one_mul] at cc dd
    have HC : Hid (∀ w', Below W.heap.size W w' → w'.cell? ⟨bk, off, none⟩ = some (.int .i64 k0.kind) ∧ w'.cell? ⟨bk, off + 1, none⟩ = some (.int .i64 k0.label) ∧ w'.cell? ⟨bk, off + 2, none⟩ = some (.slice ka0 kl0 kc0) ∧ w'.cell? ⟨bk, off + 3, none⟩ = some (.int .i64 k1.kind) ∧ w'.cell? ⟨bk, off + 4, none⟩ = some (.int .i64 k1.label) ∧ w'.cell? ⟨bk, off + 5, none⟩ = some (.slice ka1 kl1 kc1)) :=
      fun w' hb => ⟨(cc w' hb).1, (cc w' hb).2.1, (cc w' hb).2.2, (dd w' hb).1, (dd w' hb).2.1, (dd w' hb).2.2⟩
    clear cc dd
    obtain ⟨c0, c1, c2, d0, d1, d2⟩ := HC.out w1 (hG1.below.mono hB)
    clear f1 f2 f3 f4 f5 f6 HT1 e0 e1 Hk0 Hk1
    go_upto_region 17 with fail
    have bd := below_drewN (Below.refl w1.heap.size w1) 1
    have hG2 := hG1.to bd
    have Hbd : Hid _ := below_then Hc.out bd
    refine wp_region_held_drew (S := (fun w' => w'.cell? ⟨wr.heap.size, 2, none⟩ = some (.slice (some ⟨bk, off, none⟩) 2 cap) ∧ w'.cell? ⟨bk, off, none⟩ = some (.int .i64 k0.kind) ∧ w'.cell? ⟨bk, off + 1, none⟩ = some (.int .i64 k0.label) ∧ w'.cell? ⟨bk, off + 2, none⟩ = some (.slice ka0 kl0 kc0) ∧ w'.cell? ⟨bk, off + 3, none⟩ = some (.int .i64 k1.kind) ∧ w'.cell? ⟨bk, off + 4, none⟩ = some (.int .i64 k1.label) ∧ w'.cell? ⟨bk, off + 5, none⟩ = some (.slice ka1 kl1 kc1))) (by kernel_rfl) ⟨by simpa using x3, by simpa using c0, by simpa using c1, by simpa using c2, by simpa using d0, by simpa using d1, by simpa using d2⟩ (fun hH => ?_)
    refine wpAnyH_take (i := 0) rfl (by kernel_rfl) (by kernel_rfl) (by kernel_rfl) (fun _ _ _ h => h) (.inl ⟨by rfl, fun _ _ => rfl⟩) hH ?_
    simp only [List.getElem_toArray, List.getElem_cons_succ, List.getElem_cons_zero, Act.put, List.setIfInBounds_toArray, List.set_cons_zero, List.set_cons_succ]
    refine wpAnyH_take (i := 1) (v := .pointer (some ⟨wr.heap.size, 2, none⟩)) rfl (by kernel_rfl) (by kernel_rfl) (by kernel_rfl) (fun _ _ _ h => h) (.inl ⟨by rfl, fun w' hS' => by first | (go_simp; done) | (go_simp; rfl)⟩) hH ?_
    simp only [List.getElem_toArray, List.getElem_cons_succ, List.getElem_cons_zero, Act.put, List.setIfInBounds_toArray, List.set_cons_zero, List.set_cons_succ]
    refine wpAnyH_take (i := 2) (v := .slice (some ⟨bk, off, none⟩) 2 cap) rfl (by kernel_rfl) (by kernel_rfl) (by kernel_rfl) (fun _ _ _ h => h) (.inl ⟨by rfl, fun w' hS' => by obtain ⟨e0, e1, e2, e3, e4, e5, e6⟩ := hS'; go_simp⟩) hH ?_
    simp only [List.getElem_toArray, List.getElem_cons_succ, List.getElem_cons_zero, Act.put, List.setIfInBounds_toArray, List.set_cons_zero, List.set_cons_succ]
    refine wpAnyH_take (i := 3) (v := .pointer (some ⟨bk, off, none⟩)) rfl (by kernel_rfl) (by kernel_rfl) (by kernel_rfl) (fun _ _ _ h => h) (.inl ⟨by rfl, fun w' hS' => by first | (go_simp; done) | (go_simp; rfl)⟩) hH ?_
    simp only [List.getElem_toArray, List.getElem_cons_succ, List.getElem_cons_zero, Act.put, List.setIfInBounds_toArray, List.set_cons_zero, List.set_cons_succ]
    refine wpAnyH_take (i := 4) (v := .agg #[.int .i64 k0.kind, .int .i64 k0.label, .slice ka0 kl0 kc0]) rfl (by kernel_rfl) (by kernel_rfl) (by kernel_rfl) (fun _ _ _ h => h) (.inl ⟨by rfl, fun w' hS' => by obtain ⟨e0, e1, e2, e3, e4, e5, e6⟩ := hS'; go_simp⟩) hH ?_
    simp only [List.getElem_toArray, List.getElem_cons_succ, List.getElem_cons_zero, Act.put, List.setIfInBounds_toArray, List.set_cons_zero, List.set_cons_succ]
    refine wpAnyH_take (i := 5) (v := .pointer (some ⟨wr.heap.size, 2, none⟩)) rfl (by kernel_rfl) (by kernel_rfl) (by kernel_rfl) (fun _ _ _ h => h) (.inl ⟨by rfl, fun w' hS' => by first | (go_simp; done) | (go_simp; rfl)⟩) hH ?_
    simp only [List.getElem_toArray, List.getElem_cons_succ, List.getElem_cons_zero, Act.put, List.setIfInBounds_toArray, List.set_cons_zero, List.set_cons_succ]
    refine wpAnyH_take (i := 6) (v := .slice (some ⟨bk, off, none⟩) 2 cap) rfl (by kernel_rfl) (by kernel_rfl) (by kernel_rfl) (fun _ _ _ h => h) (.inl ⟨by rfl, fun w' hS' => by obtain ⟨e0, e1, e2, e3, e4, e5, e6⟩ := hS'; go_simp⟩) hH ?_
    simp only [List.getElem_toArray, List.getElem_cons_succ, List.getElem_cons_zero, Act.put, List.setIfInBounds_toArray, List.set_cons_zero, List.set_cons_succ]
    refine wpAnyH_take (i := 7) (v := .pointer (some ⟨bk, off + 3, none⟩)) rfl (by kernel_rfl) (by kernel_rfl) (by kernel_rfl) (fun _ _ _ h => h) (.inl ⟨by rfl, fun w' hS' => by first | (go_simp; done) | (go_simp; rfl)⟩) hH ?_
    simp only [List.getElem_toArray, List.getElem_cons_succ, List.getElem_cons_zero, Act.put, List.setIfInBounds_toArray, List.set_cons_zero, List.set_cons_succ]
    refine wpAnyH_take (i := 8) (v := .agg #[.int .i64 k1.kind, .int .i64 k1.label, .slice ka1 kl1 kc1]) rfl (by kernel_rfl) (by kernel_rfl) (by kernel_rfl) (fun _ _ _ h => h) (.inl ⟨by rfl, fun w' hS' => by obtain ⟨e0, e1, e2, e3, e4, e5, e6⟩ := hS'; go_simp⟩) hH ?_
    simp only [List.getElem_toArray, List.getElem_cons_succ, List.getElem_cons_zero, Act.put, List.setIfInBounds_toArray, List.set_cons_zero, List.set_cons_succ]
    refine wpAnyH_take (i := 9) rfl (by kernel_rfl) (by kernel_rfl) (by kernel_rfl) (fun _ _ _ h => h) (.inl ⟨by rfl, fun _ _ => rfl⟩) hH ?_
    simp only [List.getElem_toArray, List.getElem_cons_succ, List.getElem_cons_zero, Act.put, List.setIfInBounds_toArray, List.set_cons_zero, List.set_cons_succ]
    refine wpAnyH_take (i := 10) rfl (by kernel_rfl) (by kernel_rfl) (by kernel_rfl) (fun _ _ _ h => h) (.inl ⟨by rfl, fun _ _ => rfl⟩) hH ?_
    simp only [List.getElem_toArray, List.getElem_cons_succ, List.getElem_cons_zero, Act.put, List.setIfInBounds_toArray, List.set_cons_zero, List.set_cons_succ]
    refine wpAnyH_ready (rs := [11]) (by kernel_rfl) (by simp) ?_
    refine AllReadyH.cons rfl (fun K hK => ?_) AllReadyH.nil
    simp only [List.getElem_toArray, List.getElem_cons_succ, List.getElem_cons_zero]
    rw [if_pos (by rfl)]
    go_wp2_with fail
    refine (rounds_any f k0 k1 Hg0.out Hg1.out _ _ hkid0 hkid1 hB p q hG2 Hf.out).mono ?_
    rintro e w2 hgrew
    have RG : Hid (Grew B x W wr lv T (.tuple #[]) e w2) := by rw [← R.out]; exact grew_more Hbd.out hgrew
    rcases hgrew with ⟨_, rfl, lv2, us2, vs2, hG3, hK3⟩ | ⟨_, rfl, _⟩
    · obtain ⟨_, _, _, t3⟩ := hK3.box3 Hnm.out (hbx.below bd)
      refine hK.out _ _ ⟨t3, HC.out w2 (hG3.below.mono hB)⟩ (fun hH => ?_)
      refine wpAnyH_done (by kernel_rfl) ?_ _
      clear hH t3 hG3 hK3 hG2 hG1 bd hK
      go_wp2
      go_end0
      exact RG.out
    · go_wp2
      exact ⟨rfl, RG.out⟩

theorem block_any {B x : Nat} {W : World} (hB : W.heap.size ≤ B) : ∀ (f : Nat) (b : BlockL), okB f b → Fit f b → BlockGrows B x W f b
  | 0, b, _, h => h.elim
  | f + 1, b, h, k => block_one hB f b h.1 fun y hy => block_any hB f y (h.2 y hy) (k y hy)

end Go.Proofs.Ytgedpebnipghlaa
