/- Package bench: the text of a block. -/
import Derived.Test.YtjfcfnaeinhmcaaDoorBenchStr
import Derived.Test.YtjfcfnaeinhmcaaDoorBlocksDev1
namespace Go.Proofs.YtjfcfnaeinhmcaaDoor
open Go.RowKit
set_option linter.unusedVariables false
set_option linter.unusedSimpArgs false
set_option maxRecDepth 4000

abbrev lettersB3 : ByteArray := ⟨#[97, 98, 99, 100, 101, 102, 103, 104, 105, 106, 107, 108, 109, 110, 111, 112, 113, 114, 115, 116, 117, 118, 119, 120, 121, 122]⟩
theorem letters_cut3_fin : ∀ i : Fin 26, (lettersB3.extract i.val (i.val + 1)).data.toList = [letterT ((i.val : Int) + 1)] := by decide +kernel
theorem letters_slice3 {L : Int} (h : 0 < L ∧ L ≤ 26) (w : World) : (Instr.slice 9 (.string lettersB3) (some (.int .i64 (L - 1))) (some (.int .i64 L)) none).run Tryd.prog w = .ok (.string (bs [letterT L])) w := by
  have hz : lettersB3.size = 26 := by decide +kernel
  rw [run_slice_string (P := Tryd.prog) w 9 lettersB3 .i64 .i64 (L - 1) L Tryd.underlying9 (by omega) (by omega) (by rw [hz]; omega)]
  have := letters_cut3_fin ⟨(L - 1).toNat, by omega⟩
  have e : lettersB3.extract (L - 1).toNat L.toNat = bs [letterT L] := by
    rw [← bs_of (lettersB3.extract (L - 1).toNat L.toNat), show L.toNat = (L - 1).toNat + 1 by omega, this]
    congr 2
    show letterT ((((L - 1).toNat : Nat) : Int) + 1) = _
    rw [show (((L - 1).toNat : Nat) : Int) + 1 = L by omega]
  rw [e]
theorem info_str : (Tryd.prog.info? 9).map (fun i => (i.zero, i.size, i.bytes)) = some (some (.string ⟨#[]⟩), 1, 16) := by kernel_rfl
theorem elem_str : ElemT 46 9 1 16 := ElemT.of Tryd.underlying46 info_str rfl (by decide)

/-- What is said of the text of a block. -/
def SaysT (k : BlockL) : Prop := ∀ v w, BlockV w v k → Calls Tryd.prog 10 #[v] w fun e w' => e = .returned (.string (bs (textB 41 k))) ∧ Below w.heap.size w w'
abbrev textsB (l : List BlockL) : List Bytes := l.map (textB 41)

set_option maxHeartbeats 4000000 in
theorem within_any (l : List BlockL) (hS : ∀ k ∈ l, SaysT k) (kv : Value) (w : World) (hK : KidsV w kv l) (hn : l ≠ []) (h40 : l.length ≤ 40) (hlen : (pieceB 0 (textsB l)).length ≤ 118) :
    Calls Tryd.prog 21 #[kv] w fun e w' => e = .returned (.string (bs (pieceB 0 (textsB l) ++ [41]))) ∧ Below w.heap.size w w' := by
  obtain ⟨a, cap, rfl, hmx, hsh⟩ := hK.slice
  obtain ⟨n, Hn⟩ : ∃ n, Hid (l.length = n) := ⟨_, rfl⟩
  have HS : Hid (∀ k ∈ l, SaysT k) := hS
  have Hne : Hid (l ≠ []) := hn
  have Hlen : Hid ((pieceB 0 (textsB l)).length ≤ 118) := hlen
  rw [Hn.out] at hmx h40 ⊢
  clear hS hn hlen hsh
  go_enter Tryd.func21, Tryd.ntmps21
  go_upto_region 3 with fail
  go_loopg [3, 8] n (fun gk r3 r8 wr => ∃ k : Nat, k + gk = n ∧ r8 = .int .i64 (k : Int) ∧ OwnC w.heap.size w wr 9 1 r3 k ((textsB (l.take k)).map strV))
  case atStart => exact ⟨0, by omega, rfl, OwnC.nil _ _ _⟩
  case round =>
    obtain ⟨k, hkg, rfl, hO⟩ := hrel
    obtain ⟨sa, sl, rfl⟩ := hO.slice
    have hb := hO.2.1
    by_cases hk : k < n
    · have Hkl : Hid (k < l.length) := by show k < l.length; rw [Hn.out]; exact hk
      obtain ⟨bk, off, kv, rfl, hlt, c0, c1, c2, hkid⟩ := (hK.below hb).at Hkl.out
      have Hs : Hid (SaysT (l[k]'Hkl.out)) := HS.out _ (List.getElem_mem _)
      have Htk : Hid (textsB (l.take (k + 1)) = textsB (l.take k) ++ [textB 41 (l[k]'Hkl.out)]) := by
        show List.map _ _ = _
        rw [List.take_succ_eq_append_getElem Hkl.out, List.map_append]
        rfl
      obtain ⟨kb, Hkb⟩ : ∃ kb, Hid (l[k]'Hkl.out = kb) := ⟨_, rfl⟩
      rw [Hkb.out] at c0 c1 hkid Hs Htk
      obtain ⟨ka, kl, kc, rfl, _⟩ : ∃ ka kl kc, kv = .slice ka kl kc ∧ True := by obtain ⟨kv', e, hk'⟩ := blockV_iff.1 hkid; obtain ⟨ka, kc, e2, _⟩ := hk'.slice; injection e with e; simp only [Array.mk.injEq, List.cons.injEq, and_true, true_and] at e; exact ⟨ka, _, kc, by rw [e, e2], trivial⟩
      have b3 := below_new wr (.cells #[.int .i64 kb.kind, .int .i64 kb.label, .slice ka kl kc] 24)
      have hx3 := box3_new wr (.int .i64 kb.kind) (.int .i64 kb.label) (.slice ka kl kc) 24
      replace hkid := hkid.below b3
      have hO1 := hO.trans b3
      obtain ⟨w1, Hw1⟩ : ∃ w1, Hid (wr.alloc (.cells #[.int .i64 kb.kind, .int .i64 kb.label, .slice ka kl kc] 24) = w1) := ⟨_, rfl⟩
      rw [Hw1.out] at hx3 hkid hO1
      go_upto_region 5 with fail
      rw [Hw1.out]
      clear Hw1 c0 c1 c2 b3 hb hlt hO
      obtain ⟨z0, z1, z2, z3⟩ := id hx3
      obtain ⟨K, HK⟩ : ∃ z, Hid (textB 41 kb = z) := ⟨_, rfl⟩
      rw [HK.out] at Htk
      have hcl := Hs.out _ w1 (by exact hkid)
      rw [HK.out] at hcl
      go_upto_region 6 with (first | (go_at_call 10; refine hcl.mono ?_; rintro e w2 ⟨rfl, b2⟩; have hO2 := hO1.trans b2) | (at_builtin; refine wp_append_cell1 elem_str rfl _ _ rfl w.heap.size w w2 _ k _ #[strV K] hO2 rfl (fun u hu => by obtain rfl : u = strV K := (by simpa using hu); rfl) rfl rfl (by unfold maxLen; omega) (by omega) ?_; intro v' w3 hO3 hg3; obtain ⟨sa', sc', rfl⟩ := hO3.slice))
      clear z0 z1 z2 z3 hx3 hkid hO1 hO2 hcl
      go_wp2
      go_roundg (gk - 1)
      case measure => omega
      case rel => exact ⟨k + 1, by omega, by go_num, by rw [Htk.out, List.map_append]; exact hO3⟩
    · have hkn : k = n := by omega
      subst hkn
      have hC : CellsV wr (.slice sa k sl) 1 1000000 (textsB l).length ((textsB l).map strV) := by
        have h1 := hO.cells (most := 1000000) (by omega) (by intro u hu; obtain ⟨x, _, e⟩ := List.mem_map.1 hu; rw [← e]; rfl)
        rw [List.take_of_length_le (Nat.le_of_eq Hn.out)] at h1
        rw [show (textsB l).length = k by show (List.map _ _).length = k; rw [List.length_map, Hn.out]]
        exact h1
      have hne : textsB l ≠ [] := by intro q; exact Hne.out (List.map_eq_nil_iff.1 q)
      have Hj := piece_join hne
      have Hjl : (Lib.join (textsB l) [44]).length ≤ 117 := by have h1 := Hlen.out; rw [Hj] at h1; simp at h1; exact h1
      have hJ := join_any (textsB l) [44] ⟨#[44]⟩ rfl _ wr hC hne (by omega)
      obtain ⟨J, HJ⟩ := hideEx (Lib.join (textsB l) [44])
      rw [HJ.out] at hJ Hjl Hj
      have HP : Hid (pieceB 0 (textsB l) = 40 :: J) := Hj
      have s1 := bs_add2 (a := [40]) (b := J) (s := ⟨#[40]⟩) rfl (by simp; omega)
      obtain ⟨J1, HJ1⟩ := hideEx ([40] ++ J)
      rw [HJ1.out] at s1
      have hl1 : J1.length ≤ 118 := by rw [← HJ1.out]; simp; omega
      have s2 := bs_add1 (a := J1) (b := [41]) (s := ⟨#[41]⟩) rfl (by simp; omega)
      obtain ⟨J2, HJ2⟩ := hideEx (J1 ++ [41])
      rw [HJ2.out] at s2
      have HR : Hid (40 :: J ++ [41] = J2) := by show _ = _; rw [← HJ2.out, ← HJ1.out]; rfl
      clear Hj hC hne hO Hjl hl1
      go_wp2_with (go_at_call 29; refine hJ.mono ?_; rintro e w2 ⟨rfl, b2⟩)
      go_ret
      exact ⟨by rw [HP.out, HR.out]; rfl, below_then hb b2⟩

theorem slice_of {kv : Value} {w : World} {b : BlockL} (h : KidsV w kv b.kids) : ∃ a cap, kv = .slice a b.kids.length cap := by
  obtain ⟨a, cap, e, _⟩ := h.slice
  exact ⟨a, cap, e⟩

set_option maxHeartbeats 4000000 in
theorem written_any (f : Nat) : ∀ (b : BlockL), Fit f b → RightB b → SaysT b := by
  induction f with
  | zero => intro b h; cases h
  | succ f ih =>
    intro b hf hR v w hv
    obtain ⟨kv, rfl, hK⟩ := blockV_iff.1 hv
    have hS : ∀ k ∈ b.kids, SaysT k := fun k hk => ih k (hf k hk) (hR.kid hk)
    obtain ⟨f1, f2, f3, f4, f5, f6⟩ := hR.form
    have HT : Hid (textB 41 b = if b.kind = 1 then [45] else if b.kind = 2 then [letterT b.label] else signB b.kind :: (pieceB 0 (b.kids.map (textB 41)) ++ [41])) := hR.text
    have hl := hR.text_len
    have hk40 : b.kids.length ≤ 40 := by
      have h1 := hR.2
      have h2 : b.kids.length ≤ sumB (cntB 40) b.kids := by
        have : ∀ l : List BlockL, l.length ≤ sumB (cntB 40) l := by
          intro l
          induction l with
          | nil => simp
          | cons x r ih => show r.length + 1 ≤ cntB 40 x + sumB (cntB 40) r; have : 1 ≤ cntB 40 x := by show 1 ≤ 1 + _; omega
                           omega
        exact this _
      have h3 : cntB 41 b = 1 + sumB (cntB 40) b.kids := rfl
      omega
    clear ih hf hv hR
    obtain ⟨a, cap, rfl⟩ := slice_of hK
    have c := below_new w (.cells #[.int .i64 b.kind, .int .i64 b.label, .slice a b.kids.length cap] 24)
    have hbx := box3_new w (.int .i64 b.kind) (.int .i64 b.label) (.slice a b.kids.length cap) 24
    replace hK := hK.below c
    obtain ⟨w0, Hw0⟩ : ∃ w0, Hid (w.alloc (.cells #[.int .i64 b.kind, .int .i64 b.label, .slice a b.kids.length cap] 24) = w0) := ⟨_, rfl⟩
    obtain ⟨B, HB⟩ : ∃ z, Hid (w.heap.size = z) := ⟨_, rfl⟩
    rw [Hw0.out] at c hbx hK
    rw [HB.out] at hbx
    have hwi : 3 ≤ b.kind → Calls Tryd.prog 21 #[.slice a b.kids.length cap] w0 fun e w' => e = .returned (.string (bs (pieceB 0 (textsB b.kids) ++ [41]))) ∧ Below w0.heap.size w0 w' := fun h3 =>
      within_any b.kids hS _ w0 hK (by intro q; exact f5 h3 (by rw [q]; rfl)) hk40 (by
        rw [HT.out, if_neg (by omega), if_neg (by omega)] at hl
        simp at hl
        show (pieceB 0 (b.kids.map (textB 41))).length ≤ 118
        omega)
    obtain ⟨n, Hn⟩ : ∃ n, Hid (b.kids.length = n) := ⟨_, rfl⟩
    rw [Hn.out] at Hw0 hbx hwi ⊢
    obtain ⟨K, HK⟩ : ∃ K, Hid (b.kind = K) := ⟨_, rfl⟩
    obtain ⟨L, HL⟩ : ∃ L, Hid (b.label = L) := ⟨_, rfl⟩
    obtain ⟨T, HTT⟩ := hideEx (textB 41 b)
    obtain ⟨P, HP⟩ := hideEx (pieceB 0 (textsB b.kids) ++ [41])
    have HT2 : Hid (T = if K = 1 then [45] else if K = 2 then [letterT L] else signB K :: P) := by
      show _ = _
      rw [← HTT.out, HT.out, ← HK.out, ← HL.out, ← HP.out]
    rw [HTT.out] at hl
    rw [HP.out] at hwi
    rw [HK.out] at f1 f2 f3 hwi Hw0 hbx ⊢
    rw [HL.out] at f3 Hw0 hbx ⊢
    clear hS HT f4 f5 f6 hK hk40
    go_enter Tryd.func10, Tryd.ntmps10
    go_upto_region 1 with fail
    rw [Hw0.out, HB.out]
    clear Hw0
    obtain ⟨x0, x1, x2, x3⟩ := id hbx
    have hcase : K = 1 ∨ K = 2 ∨ K = 3 ∨ K = 4 ∨ K = 5 ∨ K = 6 := by omega
    rcases hcase with rfl | rfl | rfl | rfl | rfl | rfl
    · have R0 : T = [45] := by have := HT2.out; simpa using this
      have R : Hid (T = [45]) := R0
      clear R0
      clear HT2 hwi f3
      go_wp2
      go_ret
      exact ⟨by rw [HTT.out, R.out]; rfl, c⟩
    · have R0 : T = [letterT L] := by have := HT2.out; simpa using this
      have R : Hid (T = [letterT L]) := R0
      clear R0
      have hL := f3 rfl
      have n1 : IntKind.i64.wrap (L - 1) = L - 1 := Go.IntWalk.i64_in _ ⟨by omega, by omega⟩
      have s1 := fun w => letters_slice3 (L := L) ⟨by omega, by omega⟩ w
      clear HT2 hwi f3
      go_wp2
      go_ret
      exact ⟨by rw [HTT.out, R.out]; rfl, c⟩
    · have R0 : T = 62 :: P := by have := HT2.out; simpa [signB] using this
      have R : Hid (T = 62 :: P) := R0
      clear R0
      have hwj := hwi (by decide)
      have hPl : P.length ≤ 118 := by have h1 := R.out; rw [h1] at hl; simp at hl; omega
      have s1 := bs_add2 (a := [62]) (b := P) (s := ⟨#[62]⟩) rfl (by simp; omega)
      obtain ⟨J, HJ⟩ := hideEx ([62] ++ P)
      rw [HJ.out] at s1
      clear HT2 hwi f3
      go_wp2_with (go_at_call 21; refine hwj.mono ?_; rintro e w2 ⟨rfl, b2⟩)
      go_ret
      exact ⟨by rw [HTT.out, R.out, ← HJ.out]; rfl, below_then c b2⟩
    · have R0 : T = 63 :: P := by have := HT2.out; simpa [signB] using this
      have R : Hid (T = 63 :: P) := R0
      clear R0
      have hwj := hwi (by decide)
      have hPl : P.length ≤ 118 := by have h1 := R.out; rw [h1] at hl; simp at hl; omega
      have s1 := bs_add2 (a := [63]) (b := P) (s := ⟨#[63]⟩) rfl (by simp; omega)
      obtain ⟨J, HJ⟩ := hideEx ([63] ++ P)
      rw [HJ.out] at s1
      clear HT2 hwi f3
      go_wp2_with (go_at_call 21; refine hwj.mono ?_; rintro e w2 ⟨rfl, b2⟩)
      go_ret
      exact ⟨by rw [HTT.out, R.out, ← HJ.out]; rfl, below_then c b2⟩
    · have R0 : T = 38 :: P := by have := HT2.out; simpa [signB] using this
      have R : Hid (T = 38 :: P) := R0
      clear R0
      have hwj := hwi (by decide)
      have hPl : P.length ≤ 118 := by have h1 := R.out; rw [h1] at hl; simp at hl; omega
      have s1 := bs_add2 (a := [38]) (b := P) (s := ⟨#[38]⟩) rfl (by simp; omega)
      obtain ⟨J, HJ⟩ := hideEx ([38] ++ P)
      rw [HJ.out] at s1
      clear HT2 hwi f3
      go_wp2_with (go_at_call 21; refine hwj.mono ?_; rintro e w2 ⟨rfl, b2⟩)
      go_ret
      exact ⟨by rw [HTT.out, R.out, ← HJ.out]; rfl, below_then c b2⟩
    · have R0 : T = 42 :: P := by have := HT2.out; simpa [signB] using this
      have R : Hid (T = 42 :: P) := R0
      clear R0
      have hwj := hwi (by decide)
      have hPl : P.length ≤ 118 := by have h1 := R.out; rw [h1] at hl; simp at hl; omega
      have s1 := bs_add2 (a := [42]) (b := P) (s := ⟨#[42]⟩) rfl (by simp; omega)
      obtain ⟨J, HJ⟩ := hideEx ([42] ++ P)
      rw [HJ.out] at s1
      clear HT2 hwi f3
      go_wp2_with (go_at_call 21; refine hwj.mono ?_; rintro e w2 ⟨rfl, b2⟩)
      go_ret
      exact ⟨by rw [HTT.out, R.out, ← HJ.out]; rfl, below_then c b2⟩

end Go.Proofs.YtjfcfnaeinhmcaaDoor
