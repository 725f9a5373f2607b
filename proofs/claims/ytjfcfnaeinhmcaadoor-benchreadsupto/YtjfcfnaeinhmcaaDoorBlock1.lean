/- The answers of the document itself for blocks: what is wrong. -/
import Derived.Test.YtjfcfnaeinhmcaaDoorBlockMem
namespace Go.Proofs.YtjfcfnaeinhmcaaDoor
open Go.RowKit
set_option linter.unusedVariables false
set_option maxRecDepth 4000

theorem jwAll_cons_ok {g : BlockL → Nat → Nat × Int} {l : List BlockL} {k h : Nat} (hk : k < l.length) (e : (g l[k] h).2 = 0) : jwAll g (l.drop k) h = jwAll g (l.drop (k + 1)) (g l[k] h).1 := by
  rw [List.drop_eq_getElem_cons hk]
  simp only [jwAll]
  rw [if_pos e]
theorem jwAll_cons_bad {g : BlockL → Nat → Nat × Int} {l : List BlockL} {k h : Nat} (hk : k < l.length) (e : (g l[k] h).2 ≠ 0) : jwAll g (l.drop k) h = g l[k] h := by
  rw [List.drop_eq_getElem_cons hk]
  simp only [jwAll]
  rw [if_neg e]
theorem jw_bad {f : Nat} {b : BlockL} {had : Nat} {e : Int} (h : badB b (had + 1) = e) (he : e ≠ 0) : jw (f + 1) b had = (had + 1, e) := by
  simp only [jw]
  rw [h, if_neg he]
theorem jw_good {f : Nat} {b : BlockL} {had : Nat} (h : badB b (had + 1) = 0) : jw (f + 1) b had = jwAll (jw f) b.kids (had + 1) := by
  simp only [jw]
  rw [if_pos h]

set_option maxHeartbeats 4000000 in
theorem jwrong_any (f : Nat) : ∀ (b : BlockL) (v : Value) (had : Nat) (w : World), BlockV w v b → had ≤ 40 → 41 ≤ f + had →
    Calls Tryd.prog 22 #[v, .int .i64 had] w fun e w' => e = .returned (.tuple #[.int .i64 ((jw f b had).1 : Int), .int .i64 (jw f b had).2]) ∧ Below w.heap.size w w' := by
  induction f with
  | zero => intro b v had w hv h0 h1; omega
  | succ f ih =>
    intro b v had w hv h0 h1
    have IH : Hid _ := ih
    clear ih
    obtain ⟨kv, rfl, hK⟩ := blockV_iff.1 hv
    obtain ⟨a, cap, rfl, hmx, hsh⟩ := hK.slice
    obtain ⟨n, Hn⟩ : ∃ n, Hid (b.kids.length = n) := ⟨_, rfl⟩
    have c := below_new w (.cells #[.int .i64 b.kind, .int .i64 b.label, .slice a b.kids.length cap] 24)
    have hbx := box3_new w (.int .i64 b.kind) (.int .i64 b.label) (.slice a b.kids.length cap) 24
    replace hK := hK.below c
    obtain ⟨w0, Hw0⟩ : ∃ w0, Hid (w.alloc (.cells #[.int .i64 b.kind, .int .i64 b.label, .slice a b.kids.length cap] 24) = w0) := ⟨_, rfl⟩
    rw [Hw0.out] at c hbx hK
    rw [Hn.out] at Hw0 hbx hK hmx ⊢
    obtain ⟨E, HE⟩ : ∃ E, Hid (badB b (had + 1) = E) := ⟨_, rfl⟩
    have HB : Hid _ := HE.out
    replace HB : Hid ((if 40 < had + 1 then (4 : Int) else if b.kind < 1 ∨ 6 < b.kind then 5 else if b.kind = 2 ∧ (b.label < 1 ∨ 26 < b.label) then 2 else if (b.kind ≤ 2 ∧ n ≠ 0) ∨ (3 ≤ b.kind ∧ n = 0) ∨ (b.kind = 6 ∧ n ≠ 2) then 1 else 0) = E) := by rw [← Hn.out]; exact HE.out
    obtain ⟨K, HK⟩ : ∃ K, Hid (b.kind = K) := ⟨_, rfl⟩
    obtain ⟨L, HL⟩ : ∃ L, Hid (b.label = L) := ⟨_, rfl⟩
    rw [HK.out, HL.out] at HB hbx Hw0 ⊢
    clear hv hsh
    go_enter Tryd.func22, Tryd.ntmps22
    go_upto_region 1 with fail
    rw [Hw0.out]
    clear Hw0
    obtain ⟨x0, x1, x2, x3⟩ := id hbx
    by_cases p1 : 40 < had + 1
    · have R : Hid (jw (f + 1) b had = (had + 1, 4)) := jw_bad (by rw [HE.out, ← HB.out, if_pos p1]) (by decide)
      have q1 : (40 : Int) < (had : Int) + 1 := by omega
      go_wp2
      go_ret2
      exact ⟨by rw [R.out]; simp, c⟩
    · have q1 : decide ((40 : Int) < (had : Int) + 1) = false := decide_eq_false (by omega)
      have h39 : had + 1 ≤ 40 := by omega
      rw [if_neg p1] at HB
      clear p1
      by_cases p2 : K < 1
      · have R : Hid (jw (f + 1) b had = (had + 1, 5)) := jw_bad (by rw [HE.out, ← HB.out, if_pos (.inl p2)]) (by decide)
        go_wp2
        go_ret2
        exact ⟨by rw [R.out]; simp, c⟩
      · by_cases p3 : 6 < K
        · have R : Hid (jw (f + 1) b had = (had + 1, 5)) := jw_bad (by rw [HE.out, ← HB.out, if_pos (.inr p3)]) (by decide)
          have p2' : decide (K < 1) = false := decide_eq_false p2
          clear p2
          go_wp2
          go_ret2
          exact ⟨by rw [R.out]; simp, c⟩
        · rw [if_neg (by omega)] at HB
          by_cases p4 : K = 2 ∧ (L < 1 ∨ 26 < L)
          · have R : Hid (jw (f + 1) b had = (had + 1, 2)) := jw_bad (by rw [HE.out, ← HB.out, if_pos p4]) (by decide)
            clear p2 p3
            obtain ⟨rfl, p4⟩ := p4
            by_cases p5 : L < 1
            · go_wp2
              go_ret2
              exact ⟨by rw [R.out]; simp, c⟩
            · have p6 : 26 < L := by omega
              have p5' : decide (L < 1) = false := decide_eq_false p5
              clear p5 p4
              go_wp2
              go_ret2
              exact ⟨by rw [R.out]; simp, c⟩
          · rw [if_neg p4] at HB
            by_cases p5 : (K ≤ 2 ∧ n ≠ 0) ∨ (3 ≤ K ∧ n = 0) ∨ (K = 6 ∧ n ≠ 2)
            · have R : Hid (jw (f + 1) b had = (had + 1, 1)) := jw_bad (by rw [HE.out, ← HB.out, if_pos p5]) (by decide)
              have hcase : (K = 1 ∧ n ≠ 0) ∨ (K = 2 ∧ n ≠ 0 ∧ 1 ≤ L ∧ L ≤ 26) ∨ (K = 3 ∧ n = 0) ∨ (K = 4 ∧ n = 0) ∨ (K = 5 ∧ n = 0) ∨ (K = 6 ∧ n = 0) ∨ (K = 6 ∧ n ≠ 0 ∧ n ≠ 2) := by omega
              clear p2 p3 p4 p5 HB HE HK
              rcases hcase with ⟨rfl, hn⟩ | ⟨rfl, hn, hl1, hl2⟩ | ⟨rfl, rfl⟩ | ⟨rfl, rfl⟩ | ⟨rfl, rfl⟩ | ⟨rfl, rfl⟩ | ⟨rfl, hn, hn2⟩
              · have hn' : ((n : Int) != 0) = true := by rw [bne_iff_ne]; omega
                go_wp2
                go_ret2
                exact ⟨by rw [R.out]; simp, c⟩
              · have hn' : ((n : Int) != 0) = true := by rw [bne_iff_ne]; omega
                have l1 : decide (L < 1) = false := decide_eq_false (by omega)
                have l2 : decide (26 < L) = false := decide_eq_false (by omega)
                go_wp2
                go_ret2
                exact ⟨by rw [R.out]; simp, c⟩
              · go_wp2
                go_ret2
                exact ⟨by rw [R.out]; simp, c⟩
              · go_wp2
                go_ret2
                exact ⟨by rw [R.out]; simp, c⟩
              · go_wp2
                go_ret2
                exact ⟨by rw [R.out]; simp, c⟩
              · go_wp2
                go_ret2
                exact ⟨by rw [R.out]; simp, c⟩
              · have hn' : ((n : Int) == 0) = false := by rw [beq_eq_false_iff_ne]; omega
                have hn2' : ((n : Int) != 2) = true := by rw [bne_iff_ne]; omega
                go_wp2
                go_ret2
                exact ⟨by rw [R.out]; simp, c⟩
            · have R : Hid (jw (f + 1) b had = jwAll (jw f) b.kids (had + 1)) := jw_good (by rw [HE.out, ← HB.out, if_neg p5])
              have hcase : (K = 1 ∧ ((n : Int) != 0) = false) ∨ (K = 2 ∧ ((n : Int) != 0) = false ∧ decide (L < 1) = false ∧ decide (26 < L) = false) ∨ (K = 3 ∧ ((n : Int) == 0) = false) ∨ (K = 4 ∧ ((n : Int) == 0) = false) ∨ (K = 5 ∧ ((n : Int) == 0) = false) ∨ (K = 6 ∧ ((n : Int) == 0) = false ∧ ((n : Int) != 2) = false) := by
                simp only [bne_eq_false_iff_eq, beq_eq_false_iff_ne, decide_eq_false_iff_not]
                omega
              clear p2 p3 p4 p5 HB HE HK
              have hfl : 41 ≤ f + (had + 1) := by omega
              rcases hcase with ⟨rfl, g1⟩ | ⟨rfl, g1, g2, g3⟩ | ⟨rfl, g1⟩ | ⟨rfl, g1⟩ | ⟨rfl, g1⟩ | ⟨rfl, g1, g2⟩
              all_goals
                go_upto_region 13 with fail
                go_wp2_with fail
                clear x0 x1 x2 x3
                go_loopg [1, 70] n (fun g o i wr => ∃ k h : Nat, k + g = n ∧ i = .int .i64 k ∧ o = .int .i64 h ∧ had + 1 ≤ h ∧ h ≤ 40 ∧ Hid (jwAll (jw f) b.kids (had + 1) = jwAll (jw f) (b.kids.drop k) h) ∧ Below w0.heap.size w0 wr)
                case atStart => exact ⟨0, had + 1, by omega, rfl, by simp, by omega, by omega, rfl, Below.refl _ _⟩
                case round =>
                  obtain ⟨k, h, hkg, rfl, rfl, hh1, hh2, Hj, hb⟩ := hrel
                  by_cases hk : k < n
                  · have Hkl : Hid (k < b.kids.length) := by show k < b.kids.length; rw [Hn.out]; exact hk
                    obtain ⟨bk, off, kv, rfl, hlt, c0, c1, c2, hkid⟩ := (hK.below hb).at Hkl.out
                    have Hok : Hid _ := jwAll_cons_ok (g := jw f) (l := b.kids) (k := k) (h := h) Hkl.out
                    have Hbd : Hid _ := jwAll_cons_bad (g := jw f) (l := b.kids) (k := k) (h := h) Hkl.out
                    have Hz : Hid _ := (jw_zero (f := f) (b := b.kids[k]'Hkl.out) (had := h) hh2 (by omega))
                    obtain ⟨kb, Hkb⟩ : ∃ kb, Hid (b.kids[k]'Hkl.out = kb) := ⟨_, rfl⟩
                    rw [Hkb.out] at c0 c1 hkid Hok Hbd Hz
                    obtain ⟨ka, kl, kc, rfl, _⟩ : ∃ ka kl kc, kv = .slice ka kl kc ∧ True := by obtain ⟨kv', e, hk'⟩ := blockV_iff.1 hkid; obtain ⟨ka, kc, e2, _⟩ := hk'.slice; injection e with e; simp only [Array.mk.injEq, List.cons.injEq, and_true, true_and] at e; exact ⟨ka, _, kc, by rw [e, e2], trivial⟩
                    have b3 := below_new wr (.cells #[.int .i64 kb.kind, .int .i64 kb.label, .slice ka kl kc] 24)
                    have hx3 := box3_new wr (.int .i64 kb.kind) (.int .i64 kb.label) (.slice ka kl kc) 24
                    replace hkid := hkid.below b3
                    have hbn := below_then hb b3
                    obtain ⟨w1, Hw1⟩ : ∃ w1, Hid (wr.alloc (.cells #[.int .i64 kb.kind, .int .i64 kb.label, .slice ka kl kc] 24) = w1) := ⟨_, rfl⟩
                    rw [Hw1.out] at hx3 hkid hbn
                    go_upto_region 16 with fail
                    rw [Hw1.out]
                    clear Hw1 c0 c1 c2 b3 hb hlt
                    obtain ⟨z0, z1, z2, z3⟩ := id hx3
                    go_wp2_with fail
                    refine (IH.out kb _ h _ (by exact hkid) hh2 (by omega)).mono ?_
                    rintro e w2 ⟨rfl, b2⟩
                    have hb2 := below_then hbn b2
                    clear z0 z1 z2 z3 hx3 hkid hbn b2
                    generalize jw f kb h = A at *
                    obtain ⟨A1, A2⟩ := A
                    simp only at Hok Hbd Hz ⊢
                    by_cases he : A2 = 0
                    · subst he
                      have hA1 : h ≤ A1 ∧ A1 ≤ 40 := by have q := Hz.out.2 rfl; have q2 := (Hz.out.1.1 rfl).2; omega
                      have Hj2 : Hid (jwAll (jw f) b.kids (had + 1) = jwAll (jw f) (b.kids.drop (k + 1)) A1) := by rw [Hj.out]; exact Hok.out rfl
                      clear Hok Hbd Hz Hj
                      go_wp2
                      go_roundg (gk - 1)
                      case measure => omega
                      case rel => exact ⟨k + 1, A1, by omega, by go_num, rfl, by omega, by omega, Hj2, hb2⟩
                    · have he' : (A2 != 0) = true := by simpa using he
                      have R2 : Hid (jw (f + 1) b had = (A1, A2)) := by rw [R.out, Hj.out]; exact Hbd.out he
                      have R3 := below_then c hb2
                      clear Hok Hbd Hz Hj he
                      go_wp2
                      go_ret2
                      exact ⟨by rw [R2.out]; rfl, R3⟩
                  · have R2 : Hid (jw (f + 1) b had = (h, 0)) := by rw [R.out, Hj.out, List.drop_of_length_le (by rw [Hn.out]; omega)]; rfl
                    have R3 := below_then c hb
                    clear hb Hj
                    go_wp2
                    go_ret2
                    exact ⟨by rw [R2.out]; rfl, R3⟩

theorem jwrong0_any (v : Value) (b : BlockL) (w : World) (hv : BlockV w v b) :
    Calls Tryd.prog 11 #[v] w fun e w' => e = .returned (.int .i64 (wrongB b)) ∧ Below w.heap.size w w' := by
  obtain ⟨kv, rfl, hK⟩ := blockV_iff.1 hv
  obtain ⟨a, cap, rfl, hmx, hsh⟩ := hK.slice
  obtain ⟨n, Hn⟩ : ∃ n, Hid (b.kids.length = n) := ⟨_, rfl⟩
  rw [Hn.out] at hv ⊢
  have c := below_new w (.cells #[.int .i64 b.kind, .int .i64 b.label, .slice a n cap] 24)
  have hbx := box3_new w (.int .i64 b.kind) (.int .i64 b.label) (.slice a n cap) 24
  replace hv := hv.below c
  obtain ⟨w0, Hw0⟩ : ∃ w0, Hid (w.alloc (.cells #[.int .i64 b.kind, .int .i64 b.label, .slice a n cap] 24) = w0) := ⟨_, rfl⟩
  rw [Hw0.out] at c hbx hv
  obtain ⟨x0, x1, x2, x3⟩ := id hbx
  go_enter Tryd.func11, Tryd.ntmps11
  go_upto_region 1 with fail
  rw [Hw0.out]
  clear Hw0
  go_wp2_with fail
  refine (jwrong_any 41 b _ 0 _ (by exact hv) (by omega) (by omega)).mono ?_
  rintro e w2 ⟨rfl, b2⟩
  have R := below_then c b2
  clear b2
  go_wp2
  go_ret
  exact ⟨rfl, R⟩

end Go.Proofs.YtjfcfnaeinhmcaaDoor
