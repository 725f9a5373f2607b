/- Package blocks as it landed: what is wrong. -/
import Derived.Test.YtjfcfnaeinhmcaaDoorBlock1
import Derived.Test.YtjfcfnaeinhmcaaDoorBox1
import Derived.Test.YtjfcfnaeinhmcaaDoorMarked
import Derived.Laws.EntriesVeiled
namespace Go.Proofs.YtjfcfnaeinhmcaaDoor
open Go.RowKit
set_option linter.unusedVariables false
set_option maxRecDepth 4000

theorem badB_small (b : BlockL) {had : Nat} (h : had ≤ 40) : badB b had = badB b 1 := by
  unfold badB; rw [if_neg (show ¬ 40 < had by omega), if_neg (show ¬ 40 < 1 by omega)]
theorem badB_one (b : BlockL) : badB b 1 = (if b.kind < 1 ∨ 6 < b.kind then 5 else if b.kind = 2 ∧ (b.label < 1 ∨ 26 < b.label) then 2 else if (b.kind ≤ 2 ∧ b.kids.length ≠ 0) ∨ (3 ≤ b.kind ∧ b.kids.length = 0) ∨ (b.kind = 6 ∧ b.kids.length ≠ 2) then 1 else 0) := by
  unfold badB; rw [if_neg (show ¬ 40 < 1 by omega)]
theorem bad_cases {K L E : Int} {n : Nat} (h : (if K < 1 ∨ 6 < K then (5 : Int) else if K = 2 ∧ (L < 1 ∨ 26 < L) then 2 else if (K ≤ 2 ∧ n ≠ 0) ∨ (3 ≤ K ∧ n = 0) ∨ (K = 6 ∧ n ≠ 2) then 1 else 0) = E) :
    (K < 1 ∧ E = 5) ∨ (6 < K ∧ E = 5) ∨ (K = 1 ∧ n = 0 ∧ E = 0) ∨ (K = 1 ∧ n ≠ 0 ∧ E = 1) ∨ (K = 2 ∧ L < 1 ∧ E = 2) ∨ (K = 2 ∧ 26 < L ∧ E = 2) ∨ (K = 2 ∧ 1 ≤ L ∧ L ≤ 26 ∧ n = 0 ∧ E = 0) ∨ (K = 2 ∧ 1 ≤ L ∧ L ≤ 26 ∧ n ≠ 0 ∧ E = 1) ∨
      (K = 3 ∧ n = 0 ∧ E = 1) ∨ (K = 3 ∧ 0 < n ∧ E = 0) ∨ (K = 4 ∧ n = 0 ∧ E = 1) ∨ (K = 4 ∧ 0 < n ∧ E = 0) ∨ (K = 5 ∧ n = 0 ∧ E = 1) ∨ (K = 5 ∧ 0 < n ∧ E = 0) ∨ (K = 6 ∧ n = 2 ∧ E = 0) ∨ (K = 6 ∧ n ≠ 2 ∧ E = 1) := by
  by_cases h1 : K < 1
  · rw [if_pos (.inl h1)] at h; exact .inl ⟨h1, h.symm⟩
  · right
    by_cases h2 : 6 < K
    · rw [if_pos (.inr h2)] at h; exact .inl ⟨h2, h.symm⟩
    · right
      rw [if_neg (by omega)] at h
      obtain rfl | rfl | rfl | rfl | rfl | rfl : K = 1 ∨ K = 2 ∨ K = 3 ∨ K = 4 ∨ K = 5 ∨ K = 6 := by omega
      all_goals by_cases hn : n = 0
      all_goals simp [hn] at h
      · simp [hn, h.symm]
      · simp [hn, h.symm]
      all_goals first
        | (simp [hn, h.symm]; done)
        | (simp [hn]; omega)
        | (by_cases hl : L < 1 ∨ 26 < L
           · rw [if_pos hl] at h; simp [hn]; omega
           · rw [if_neg hl] at h; simp [hn]; omega)
        | (by_cases h6 : n = 2
           · simp [h6] at h ⊢; omega
           · simp [h6] at h ⊢; omega)

set_option maxHeartbeats 1000000 in
theorem wrongAlone_any (b : BlockL) (v : Value) (w : World) (hv : BlockV w v b) :
    Calls Tryd.prog 20 #[v] w fun e w' => e = .returned (.int .i64 (badB b 1)) ∧ Below w.heap.size w w' := by
  obtain ⟨kv, rfl, hK⟩ := blockV_iff.1 hv
  obtain ⟨a, cap, rfl, hmx, hsh⟩ := hK.slice
  obtain ⟨n, Hn⟩ : ∃ n, Hid (b.kids.length = n) := ⟨_, rfl⟩
  have HB : Hid _ := badB_one b
  replace HB : Hid _ := HB.out
  obtain ⟨E, HE⟩ : ∃ E, Hid (badB b 1 = E) := ⟨_, rfl⟩
  rw [HE.out] at HB ⊢
  rw [Hn.out] at HB hmx ⊢
  obtain ⟨K, HK⟩ : ∃ K, Hid (b.kind = K) := ⟨_, rfl⟩
  obtain ⟨L, HL⟩ : ∃ L, Hid (b.label = L) := ⟨_, rfl⟩
  rw [HK.out, HL.out] at HB ⊢
  have c := below_new w (.cells #[.int .i64 K, .int .i64 L, .slice a n cap] 24)
  have hbx := box3_new w (.int .i64 K) (.int .i64 L) (.slice a n cap) 24
  obtain ⟨w0, Hw0⟩ : ∃ w0, Hid (w.alloc (.cells #[.int .i64 K, .int .i64 L, .slice a n cap] 24) = w0) := ⟨_, rfl⟩
  rw [Hw0.out] at c hbx
  clear hv hsh hK HE Hn HK HL
  go_enter Tryd.func20, Tryd.ntmps20
  go_upto_region 1 with fail
  rw [Hw0.out]
  clear Hw0
  obtain ⟨x0, x1, x2, x3⟩ := id hbx
  have hcase := bad_cases HB.out.symm
  clear HB
  rcases hcase with ⟨h1, rfl⟩ | ⟨h1, rfl⟩ | ⟨rfl, rfl, rfl⟩ | ⟨rfl, h2, rfl⟩ | ⟨rfl, h2, rfl⟩ | ⟨rfl, h2, rfl⟩ | ⟨rfl, h2, h3, rfl, rfl⟩ | ⟨rfl, h2, h3, h4, rfl⟩ | ⟨rfl, rfl, rfl⟩ | ⟨rfl, h2, rfl⟩ | ⟨rfl, rfl, rfl⟩ | ⟨rfl, h2, rfl⟩ | ⟨rfl, rfl, rfl⟩ | ⟨rfl, h2, rfl⟩ | ⟨rfl, rfl, rfl⟩ | ⟨rfl, h2, rfl⟩
  · have k1 : (K == 1) = false := by rw [beq_eq_false_iff_ne]; omega
    have k2 : (K == 2) = false := by rw [beq_eq_false_iff_ne]; omega
    have k3 : (K == 3) = false := by rw [beq_eq_false_iff_ne]; omega
    have k4 : (K == 4) = false := by rw [beq_eq_false_iff_ne]; omega
    have k5 : (K == 5) = false := by rw [beq_eq_false_iff_ne]; omega
    have k6 : (K == 6) = false := by rw [beq_eq_false_iff_ne]; omega
    clear h1
    go_wp2
    go_ret
    exact ⟨rfl, c⟩
  · have k1 : (K == 1) = false := by rw [beq_eq_false_iff_ne]; omega
    have k2 : (K == 2) = false := by rw [beq_eq_false_iff_ne]; omega
    have k3 : (K == 3) = false := by rw [beq_eq_false_iff_ne]; omega
    have k4 : (K == 4) = false := by rw [beq_eq_false_iff_ne]; omega
    have k5 : (K == 5) = false := by rw [beq_eq_false_iff_ne]; omega
    have k6 : (K == 6) = false := by rw [beq_eq_false_iff_ne]; omega
    clear h1
    go_wp2
    go_ret
    exact ⟨rfl, c⟩
  · go_wp2
    go_ret
    exact ⟨rfl, c⟩
  · have hn' : ((n : Int) == 0) = false := by rw [beq_eq_false_iff_ne]; omega
    go_wp2
    go_ret
    exact ⟨rfl, c⟩
  · go_wp2
    go_ret
    exact ⟨rfl, c⟩
  · have l1 : decide (L < 1) = false := decide_eq_false (by omega)
    go_wp2
    go_ret
    exact ⟨rfl, c⟩
  · have l1 : decide (L < 1) = false := decide_eq_false (by omega)
    have l2 : decide (26 < L) = false := decide_eq_false (by omega)
    clear h2 h3
    go_wp2
    go_ret
    exact ⟨rfl, c⟩
  · have l1 : decide (L < 1) = false := decide_eq_false (by omega)
    have l2 : decide (26 < L) = false := decide_eq_false (by omega)
    have hn' : ((n : Int) == 0) = false := by rw [beq_eq_false_iff_ne]; omega
    clear h2 h3
    go_wp2
    go_ret
    exact ⟨rfl, c⟩
  · go_wp2
    go_ret
    exact ⟨rfl, c⟩
  · have hn' : (0 : Int) < (n : Int) := by omega
    go_wp2
    go_ret
    exact ⟨rfl, c⟩
  · go_wp2
    go_ret
    exact ⟨rfl, c⟩
  · have hn' : (0 : Int) < (n : Int) := by omega
    go_wp2
    go_ret
    exact ⟨rfl, c⟩
  · go_wp2
    go_ret
    exact ⟨rfl, c⟩
  · have hn' : (0 : Int) < (n : Int) := by omega
    go_wp2
    go_ret
    exact ⟨rfl, c⟩
  · go_wp2
    go_ret
    exact ⟨rfl, c⟩
  · have hn' : ((n : Int) == 2) = false := by rw [beq_eq_false_iff_ne]; omega
    go_wp2
    go_ret
    exact ⟨rfl, c⟩

/-- Where the search for what is wrong has its count, and itself. -/
structure CountAt (bc bl : Nat) (w : World) (had : Nat) : Prop where
  cell : w.heap[bc]? = some (.cells #[.int .i64 (had : Int)] 3 (0, 0))
  look : Box1 w bl (.func (.func 19) #[] #[.pointer (some ⟨bc, 0, none⟩), .pointer (some ⟨bl, 0, none⟩)])
  ne : bl ≠ bc

theorem CountAt.lt {bc bl : Nat} {w : World} {had : Nat} (h : CountAt bc bl w had) : bc < w.heap.size := (Array.getElem?_eq_some_iff.1 h.cell).1
theorem CountAt.below {bc bl : Nat} {w w' : World} {had : Nat} (h : CountAt bc bl w had) (hb : Below w.heap.size w w') : CountAt bc bl w' had :=
  ⟨by rw [hb.block bc h.lt]; exact h.cell, h.look.below hb, h.ne⟩
theorem CountAt.only {bc bl : Nat} {w w' : World} {had : Nat} (h : CountAt bc bl w had) (hb : Below w.heap.size w w') : OnlyB bc w w' := ⟨hb.mono (Nat.le_of_lt h.lt), hb.size, fun k hk _ => hb.block k hk⟩
theorem CountAt.put {bc bl : Nat} {w : World} {had : Nat} (h : CountAt bc bl w had) (k : Nat) : CountAt bc bl (w.setCell ⟨bc, 0, none⟩ (.int .i64 (k : Int))) k ∧ OnlyB bc w (w.setCell ⟨bc, 0, none⟩ (.int .i64 (k : Int))) := by
  have O := OnlyB.set bc 0 w (.int .i64 (k : Int))
  exact ⟨⟨setBox h.cell, ⟨Nat.lt_of_lt_of_le h.look.1 O.size, O.cell h.ne h.look.2⟩, h.ne⟩, O⟩

set_option maxHeartbeats 4000000 in
theorem look_any (bc bl : Nat) (w0 : World) (hw0 : w0.heap.size ≤ bc) (f : Nat) : ∀ (b : BlockL) (v : Value) (had : Nat) (w : World), BlockV w0 v b → Below w0.heap.size w0 w → CountAt bc bl w had → had ≤ 40 → 41 ≤ f + had →
    Calls Tryd.prog 19 #[v, .pointer (some ⟨bc, 0, none⟩), .pointer (some ⟨bl, 0, none⟩)] w fun e w' => e = .returned (.int .i64 (jw f b had).2) ∧ OnlyB bc w w' ∧ CountAt bc bl w' (jw f b had).1 := by
  induction f with
  | zero => intro b v had w hv hb hC h0 h1; omega
  | succ f ih =>
    intro b v had w hv hb hC h0 h1
    have IH : Hid _ := ih
    clear ih
    have hv0 := hv
    obtain ⟨kv, rfl, hK⟩ := blockV_iff.1 hv
    obtain ⟨a, cap, rfl, hmx, hsh⟩ := hK.slice
    obtain ⟨n, Hn⟩ : ∃ n, Hid (b.kids.length = n) := ⟨_, rfl⟩
    obtain ⟨K, HK⟩ : ∃ K, Hid (b.kind = K) := ⟨_, rfl⟩
    obtain ⟨L, HL⟩ : ∃ L, Hid (b.label = L) := ⟨_, rfl⟩
    rw [HK.out, HL.out, Hn.out] at hv0 ⊢
    rw [Hn.out] at hK hmx
    have c := below_new w (.cells #[.int .i64 K, .int .i64 L, .slice a n cap] 24)
    have hbx := box3_new w (.int .i64 K) (.int .i64 L) (.slice a n cap) 24
    have Hbxs : Hid (bc < w.heap.size) := hC.lt
    have HO1 : Hid _ := hC.only c
    have hC1 := hC.below c
    obtain ⟨w1, Hw1⟩ : ∃ w1, Hid (w.alloc (.cells #[.int .i64 K, .int .i64 L, .slice a n cap] 24) = w1) := ⟨_, rfl⟩
    rw [Hw1.out] at hbx HO1 hC1
    obtain ⟨hC2, hO2⟩ := hC1.put (had + 1)
    have HO2 : Hid _ := HO1.out.trans hO2
    have hbx2 : Box3 (w1.setCell ⟨bc, 0, none⟩ (.int .i64 ((had + 1 : Nat) : Int))) w.heap.size (.int .i64 K) (.int .i64 L) (.slice a n cap) := by
      have hne : w.heap.size ≠ bc := by have := Hbxs.out; omega
      exact ⟨Nat.lt_of_lt_of_le hbx.1 hO2.size, hO2.cell hne hbx.2.1, hO2.cell hne hbx.2.2.1, hO2.cell hne hbx.2.2.2⟩
    obtain ⟨w2, Hw2⟩ : ∃ w2, Hid (w1.setCell ⟨bc, 0, none⟩ (.int .i64 ((had : Int) + 1)) = w2) := ⟨_, rfl⟩
    rw [show ((had + 1 : Nat) : Int) = (had : Int) + 1 by simp] at hbx2 hC2 HO2
    rw [Hw2.out] at hbx2 hC2 HO2
    obtain ⟨d0, d1⟩ := box_cell hC1.cell
    clear hv hsh hC c hO2 HO1
    go_enter Tryd.func19, Tryd.ntmps19
    go_upto_region 1 with fail
    rw [Hw1.out]
    clear Hw1
    go_upto_region 2 with fail
    rw [Hw2.out]
    clear Hw2 d0 d1 hC1 hbx
    obtain ⟨d0, d1⟩ := box_cell hC2.cell
    obtain ⟨x0, x1, x2, x3⟩ := id hbx2
    by_cases p1 : 40 < had + 1
    · have R : Hid (jw (f + 1) b had = (had + 1, 4)) := jw_bad (by unfold badB; rw [if_pos p1]) (by decide)
      have q1 : (40 : Int) < (had : Int) + 1 := by omega
      have RC : Hid _ := hC2
      clear p1 hC2 hbx2
      go_wp2
      go_ret
      exact ⟨by rw [R.out]; rfl, HO2.out, by rw [R.out]; exact RC.out⟩
    · have q1 : decide ((40 : Int) < (had : Int) + 1) = false := decide_eq_false (by omega)
      have h39 : had + 1 ≤ 40 := by omega
      have hbd : Hid (badB b (had + 1) = badB b 1) := badB_small b h39
      clear p1
      have hb2 : Below w0.heap.size w0 w2 := hb.trans (HO2.out.below.mono hw0)
      have hv2 := hv0.below hb2
      go_wp2_with fail
      refine (wrongAlone_any b _ _ (by exact hv2)).mono ?_
      rintro e w3 ⟨rfl, b3⟩
      have hC3 := hC2.below b3
      have HO3 : Hid _ := HO2.out.trans (hC2.only b3)
      have hb3 := hb.trans (HO3.out.below.mono hw0)
      have hbx3 := hbx2.below b3
      clear hC2 HO2 hbx2 x0 x1 x2 x3 d0 d1 b3 hv2 hb2
      obtain ⟨E, HE⟩ : ∃ E, Hid (badB b 1 = E) := ⟨_, rfl⟩
      rw [HE.out] at hbd ⊢
      obtain ⟨x0, x1, x2, x3⟩ := id hbx3
      by_cases he : E = 0
      · subst he
        have R : Hid (jw (f + 1) b had = jwAll (jw f) b.kids (had + 1)) := jw_good hbd.out
        clear HE hbd
        go_wp2_with fail
        clear x0 x1 x2 x3
        have RC : Hid _ := hC3
        have Hbb : Hid _ := hb
        clear hb hb3 hbx3 hC3
        go_loopg [21] n (fun g i wr => ∃ k h : Nat, k + g = n ∧ i = .int .i64 k ∧ had + 1 ≤ h ∧ h ≤ 40 ∧ Hid (jwAll (jw f) b.kids (had + 1) = jwAll (jw f) (b.kids.drop k) h) ∧ Hid (OnlyB bc w wr) ∧ Hid (CountAt bc bl wr h))
        case atStart => exact ⟨0, had + 1, by omega, rfl, by omega, by omega, rfl, HO3, RC⟩
        case round =>
          clear HO3 RC
          obtain ⟨k, h, hkg, rfl, hh1, hh2, Hj, HO, HC⟩ := hrel
          have Hbw : Hid (Below w0.heap.size w0 wr) := Hbb.out.trans (HO.out.below.mono hw0)
          by_cases hk : k < n
          · have Hkl : Hid (k < b.kids.length) := by show k < b.kids.length; rw [Hn.out]; exact hk
            obtain ⟨bk, off, kv, rfl, hlt, c0, c1, c2, hkid⟩ := hK.at Hkl.out
            replace c0 := (Hbw.out.cell (p := ⟨bk, off + k * 3, none⟩) hlt).trans c0
            replace c1 := (Hbw.out.cell (p := ⟨bk, off + k * 3 + 1, none⟩) hlt).trans c1
            replace c2 := (Hbw.out.cell (p := ⟨bk, off + k * 3 + 2, none⟩) hlt).trans c2
            have Hok : Hid _ := jwAll_cons_ok (g := jw f) (l := b.kids) (k := k) (h := h) Hkl.out
            have Hbd : Hid _ := jwAll_cons_bad (g := jw f) (l := b.kids) (k := k) (h := h) Hkl.out
            have Hz : Hid _ := (jw_zero (f := f) (b := b.kids[k]'Hkl.out) (had := h) hh2 (by omega))
            obtain ⟨kb, Hkb⟩ : ∃ kb, Hid (b.kids[k]'Hkl.out = kb) := ⟨_, rfl⟩
            rw [Hkb.out] at c0 c1 hkid Hok Hbd Hz
            obtain ⟨ka, kl, kc, rfl, _⟩ : ∃ ka kl kc, kv = .slice ka kl kc ∧ True := by obtain ⟨kv', e, hk'⟩ := blockV_iff.1 hkid; obtain ⟨ka, kc, e2, _⟩ := hk'.slice; injection e with e; simp only [Array.mk.injEq, List.cons.injEq, and_true, true_and] at e; exact ⟨ka, _, kc, by rw [e, e2], trivial⟩
            have b3 := below_new wr (.cells #[.int .i64 kb.kind, .int .i64 kb.label, .slice ka kl kc] 24)
            have hx3 := box3_new wr (.int .i64 kb.kind) (.int .i64 kb.label) (.slice ka kl kc) 24
            have hC3 := HC.out.below b3
            have HO3 : Hid _ := HO.out.trans (HC.out.only b3)
            obtain ⟨w4, Hw4⟩ : ∃ w4, Hid (wr.alloc (.cells #[.int .i64 kb.kind, .int .i64 kb.label, .slice ka kl kc] 24) = w4) := ⟨_, rfl⟩
            rw [Hw4.out] at hx3 hC3 HO3
            go_upto_region 10 with fail
            rw [Hw4.out]
            clear Hw4 c0 c1 c2 b3 hlt
            obtain ⟨z0, z1, z2, z3⟩ := hx3
            obtain ⟨y0, y1⟩ := hC3.look
            have Hb4 : Hid (Below w0.heap.size w0 w4) := Hbb.out.trans (HO3.out.below.mono hw0)
            go_wp2_with fail
            refine (IH.out kb _ h _ (by exact hkid) Hb4.out hC3 hh2 (by omega)).mono ?_
            rintro e w5 ⟨rfl, O5, C5⟩
            have HO5 : Hid _ := HO3.out.trans O5
            clear z0 z1 z2 z3 y0 y1 hkid hC3 O5 Hb4 HO3 HO HC Hbw
            generalize jw f kb h = A at *
            obtain ⟨A1, A2⟩ := A
            simp only at Hok Hbd Hz C5 ⊢
            have HC5 : Hid _ := C5
            clear C5
            by_cases he : A2 = 0
            · subst he
              have hA1 : h ≤ A1 ∧ A1 ≤ 40 := by have q := Hz.out.2 rfl; have q2 := (Hz.out.1.1 rfl).2; omega
              have Hj2 : Hid (jwAll (jw f) b.kids (had + 1) = jwAll (jw f) (b.kids.drop (k + 1)) A1) := by rw [Hj.out]; exact Hok.out rfl
              clear Hok Hbd Hz Hj
              go_wp2
              go_roundg (gk - 1)
              case measure => omega
              case rel => exact ⟨k + 1, A1, by omega, by go_num, by omega, by omega, Hj2, HO5, HC5⟩
            · have he' : (A2 != 0) = true := by simpa using he
              have R2 : Hid (jw (f + 1) b had = (A1, A2)) := by rw [R.out, Hj.out]; exact Hbd.out he
              clear Hok Hbd Hz Hj he
              go_wp2
              go_ret
              exact ⟨by rw [R2.out]; rfl, HO5.out, by rw [R2.out]; exact HC5.out⟩
          · have R2 : Hid (jw (f + 1) b had = (h, 0)) := by rw [R.out, Hj.out, List.drop_of_length_le (by rw [Hn.out]; omega)]; rfl
            clear Hj
            go_wp2
            go_ret
            exact ⟨by rw [R2.out]; rfl, HO.out, by rw [R2.out]; exact HC.out⟩
      · have he' : (E != 0) = true := by simpa using he
        have R : Hid (jw (f + 1) b had = (had + 1, E)) := jw_bad hbd.out he
        have RC : Hid _ := hC3
        clear HE hbd he hC3 hbx3 hb3
        go_wp2
        go_ret
        exact ⟨by rw [R.out]; rfl, HO3.out, by rw [R.out]; exact RC.out⟩

theorem blocks_wrong (v : Value) (b : BlockL) (w : World) (hv : BlockV w v b) :
    Calls Tryd.prog 9 #[v] w fun e w' => e = .returned (.int .i64 (wrongB b)) ∧ Below w.heap.size w w' := by
  obtain ⟨kv, rfl, hK⟩ := blockV_iff.1 hv
  obtain ⟨a, cap, rfl, hmx, hsh⟩ := hK.slice
  obtain ⟨n, Hn⟩ : ∃ n, Hid (b.kids.length = n) := ⟨_, rfl⟩
  rw [Hn.out] at hv ⊢
  have c := below_new w (.cells #[.int .i64 b.kind, .int .i64 b.label, .slice a n cap] 24)
  have hbx := box3_new w (.int .i64 b.kind) (.int .i64 b.label) (.slice a n cap) 24
  replace hv := hv.below c
  obtain ⟨w0, Hw0⟩ : ∃ w0, Hid (w.alloc (.cells #[.int .i64 b.kind, .int .i64 b.label, .slice a n cap] 24) = w0) := ⟨_, rfl⟩
  rw [Hw0.out] at c hbx hv
  have hmf : ∀ (fn : Fn) (first cap : Array Value) (w : World), (Instr.makeFunc fn first cap).run Tryd.prog w = .ok (.func fn first cap) w := fun _ _ _ _ => rfl
  go_enter Tryd.func9, Tryd.ntmps9
  go_upto_region 1 with fail
  rw [Hw0.out]
  clear Hw0
  go_upto_region 4 with fail
  have hC : CountAt w0.heap.size (w0.heap.size + 1) ((w0.alloc (.cells #[.int .i64 0] 3)).alloc (.cells #[.func (.func 19) #[] #[.pointer (some ⟨w0.heap.size, 0, none⟩), .pointer (some ⟨w0.heap.size + 1, 0, none⟩)]] 33)) 0 := by
    refine ⟨?_, ?_, by omega⟩
    · rw [(below_new (w0.alloc (.cells #[.int .i64 0] 3)) _).block _ (by simp)]
      exact heap_alloc_at _ _
    · have := box1_new (w0.alloc (.cells #[.int .i64 0] 3)) (.func (.func 19) #[] #[.pointer (some ⟨w0.heap.size, 0, none⟩), .pointer (some ⟨w0.heap.size + 1, 0, none⟩)]) 33
      simpa using this
  have hb := below_then (below_new w0 (.cells #[.int .i64 0] 3)) (below_new (w0.alloc (.cells #[.int .i64 0] 3)) (.cells #[.func (.func 19) #[] #[.pointer (some ⟨w0.heap.size, 0, none⟩), .pointer (some ⟨w0.heap.size + 1, 0, none⟩)]] 33))
  obtain ⟨w2, Hw2⟩ : ∃ w2, Hid ((w0.alloc (.cells #[.int .i64 0] 3)).alloc (.cells #[.func (.func 19) #[] #[.pointer (some ⟨w0.heap.size, 0, none⟩), .pointer (some ⟨w0.heap.size + 1, 0, none⟩)]] 33) = w2) := ⟨_, rfl⟩
  rw [Hw2.out] at hC hb ⊢
  clear Hw2
  obtain ⟨x0, x1, x2, x3⟩ := hbx.below hb
  obtain ⟨y0, y1⟩ := hC.look
  have Hc : Hid _ := below_then c hb
  have Hsz : Hid (w.heap.size ≤ w0.heap.size) := c.size
  go_wp2_with fail
  refine (look_any w0.heap.size (w0.heap.size + 1) w0 (Nat.le_refl _) 41 b _ 0 _ (by exact hv) hb hC (by omega) (by omega)).mono ?_
  rintro e w3 ⟨rfl, O3, C3⟩
  have R : Hid (Below w.heap.size w w3) := Hc.out.trans (O3.below.mono Hsz.out)
  clear x0 x1 x2 x3 y0 y1 O3 C3 hC hb
  go_wp2
  go_ret
  exact ⟨rfl, R.out⟩

end Go.Proofs.YtjfcfnaeinhmcaaDoor
