/- The document's own text of a block. (Made by tools/gen_benchref1.py.) -/
import Derived.Test.YtjfcfnaeinhmcaaDoorBenchDev1
namespace Go.Proofs.YtjfcfnaeinhmcaaDoor
open Go.RowKit
set_option linter.unusedVariables false
set_option linter.unusedSimpArgs false
set_option maxRecDepth 4000

abbrev lettersB4 : ByteArray := ⟨#[45, 97, 98, 99, 100, 101, 102, 103, 104, 105, 106, 107, 108, 109, 110, 111, 112, 113, 114, 115, 116, 117, 118, 119, 120, 121, 122]⟩
theorem letters_cut4_fin : ∀ i : Fin 27, (lettersB4.extract i.val (i.val + 1)).data.toList = [letterT (i.val : Int)] := by decide +kernel
theorem letters_slice4 {L : Int} (h : 0 ≤ L ∧ L ≤ 26) (w : World) : (Instr.slice 9 (.string lettersB4) (some (.int .i64 L)) (some (.int .i64 (L + 1))) none).run Tryd.prog w = .ok (.string (bs [letterT L])) w := by
  have hz : lettersB4.size = 27 := by decide +kernel
  rw [run_slice_string (P := Tryd.prog) w 9 lettersB4 .i64 .i64 L (L + 1) Tryd.underlying9 (by omega) (by omega) (by rw [hz]; omega)]
  have := letters_cut4_fin ⟨L.toNat, by omega⟩
  have e : lettersB4.extract L.toNat (L + 1).toNat = bs [letterT L] := by
    rw [← bs_of (lettersB4.extract L.toNat (L + 1).toNat), show (L + 1).toNat = L.toNat + 1 by omega, this]
    congr 2
    show letterT ((L.toNat : Nat) : Int) = _
    rw [show ((L.toNat : Nat) : Int) = L by omega]
  rw [e]
def SaysX (k : BlockL) : Prop := ∀ v w, BlockV w v k → Calls Tryd.prog 12 #[v] w fun e w' => e = .returned (.string (bs (textB 41 k))) ∧ Below w.heap.size w w'

set_option maxHeartbeats 8000000 in
theorem xtext_any (f : Nat) : ∀ (b : BlockL), Fit f b → RightB b → SaysX b := by
  induction f with
  | zero => intro b h; cases h
  | succ f ih =>
    intro b hf hR v w hv
    obtain ⟨kv, rfl, hK⟩ := blockV_iff.1 hv
    have HS : Hid (∀ k ∈ b.kids, SaysX k) := fun k hk => ih k (hf k hk) (hR.kid hk)
    obtain ⟨f1, f2, f3, f4, f5, f6⟩ := hR.form
    have HT : Hid (textB 41 b = if b.kind = 1 then [45] else if b.kind = 2 then [letterT b.label] else signB b.kind :: (pieceB 0 (b.kids.map (textB 41)) ++ [41])) := hR.text
    have hl := hR.text_len
    have HR : Hid (RightB b) := hR
    clear ih hf hv hR
    obtain ⟨a, cap, rfl⟩ := slice_of hK
    have c := below_new w (.cells #[.int .i64 b.kind, .int .i64 b.label, .slice a b.kids.length cap] 24)
    have hbx := box3_new w (.int .i64 b.kind) (.int .i64 b.label) (.slice a b.kids.length cap) 24
    replace hK := hK.below c
    obtain ⟨w0, Hw0⟩ : ∃ w0, Hid (w.alloc (.cells #[.int .i64 b.kind, .int .i64 b.label, .slice a b.kids.length cap] 24) = w0) := ⟨_, rfl⟩
    obtain ⟨B, HB⟩ : ∃ z, Hid (w.heap.size = z) := ⟨_, rfl⟩
    rw [Hw0.out] at c hbx hK
    rw [HB.out] at hbx
    obtain ⟨n, Hn⟩ : ∃ n, Hid (b.kids.length = n) := ⟨_, rfl⟩
    have hmx : n ≤ 3518437208780 := by obtain ⟨_, _, _, h, _⟩ := hK.slice; rw [Hn.out] at h; exact h
    rw [Hn.out] at Hw0 hbx ⊢
    obtain ⟨K, HK⟩ : ∃ K, Hid (b.kind = K) := ⟨_, rfl⟩
    obtain ⟨L, HL⟩ : ∃ L, Hid (b.label = L) := ⟨_, rfl⟩
    obtain ⟨TT, HTT⟩ := hideEx (textB 41 b)
    have HT2 : Hid (TT = if K = 1 then [45] else if K = 2 then [letterT L] else signB K :: (pieceB 0 (textsB b.kids) ++ [41])) := by
      show _ = _
      rw [← HTT.out, HT.out, ← HK.out, ← HL.out]
    rw [HTT.out] at hl
    rw [HK.out] at f1 f2 f3 Hw0 hbx ⊢
    rw [HL.out] at f3 Hw0 hbx ⊢
    clear HT f4 f5 f6
    go_enter Tryd.func12, Tryd.ntmps12
    go_upto_region 1 with fail
    rw [Hw0.out, HB.out]
    clear Hw0
    obtain ⟨x0, x1, x2, x3⟩ := id hbx
    have hcase : K = 1 ∨ K = 2 ∨ K = 3 ∨ K = 4 ∨ K = 5 ∨ K = 6 := by omega
    rcases hcase with rfl | rfl | rfl | rfl | rfl | rfl
    · have R0 : TT = [45] := by have := HT2.out; simpa using this
      have R : Hid (TT = [45]) := R0
      have s1 := fun w => letters_slice4 (L := 0) ⟨by omega, by omega⟩ w
      have e0 : letterT 0 = 45 := rfl
      rw [e0] at s1
      clear HT2 f3 R0 hK
      go_wp2
      go_ret
      exact ⟨by rw [HTT.out, R.out]; rfl, c⟩
    · have R0 : TT = [letterT L] := by have := HT2.out; simpa using this
      have R : Hid (TT = [letterT L]) := R0
      have hL := f3 rfl
      have n1 : IntKind.i64.wrap L = L := Go.IntWalk.i64_in _ ⟨by omega, by omega⟩
      have n2 : IntKind.i64.wrap (L + 1) = L + 1 := Go.IntWalk.i64_in _ ⟨by omega, by omega⟩
      have s1 := fun w => letters_slice4 (L := L) ⟨by omega, by omega⟩ w
      clear HT2 f3 R0 hK
      go_wp2
      go_ret
      exact ⟨by rw [HTT.out, R.out]; rfl, c⟩
    · have R0 : TT = 62 :: (pieceB 0 (textsB b.kids) ++ [41]) := by have := HT2.out; simpa [signB] using this
      have R : Hid (TT = 62 :: (pieceB 0 (textsB b.kids) ++ [41])) := R0
      have hPl : (pieceB 0 (textsB b.kids)).length ≤ 116 := by rw [R0] at hl; simp at hl; show (pieceB 0 (b.kids.map (textB 41))).length ≤ 116; omega
      have HPl : Hid ((pieceB 0 (textsB b.kids)).length ≤ 116) := hPl
      clear HT2 f3 R0 hPl hl
      go_upto_region 4 with fail
      have bA := below_new w0 (.cells #[.string ⟨#[62]⟩, .string ⟨#[63]⟩, .string ⟨#[38]⟩, .string ⟨#[42]⟩] 9)
      obtain ⟨wa, Ha⟩ : ∃ u, Hid (w0.alloc (.cells #[.string ⟨#[62]⟩, .string ⟨#[63]⟩, .string ⟨#[38]⟩, .string ⟨#[42]⟩] 9) = u) := ⟨_, rfl⟩
      rw [Ha.out] at bA
      rw [Ha.out]
      have hba := hbx.below bA
      clear x0 x1 x2 x3
      obtain ⟨x0, x1, x2, x3⟩ := id hba
      go_upto_region 5 with fail
      clear x0 x1 x2 x3 hba
      go_loopg [3, 32] n (fun gk r3 r32 wr => ∃ k : Nat, k + gk = n ∧ r32 = .int .i64 (k : Int) ∧ r3 = .string (bs (62 :: pieceB 0 (textsB (b.kids.take k)))) ∧ Below w0.heap.size w0 wr)
      case atStart => exact ⟨0, by omega, rfl, rfl, bA⟩
      case round =>
        obtain ⟨k, hkg, rfl, rfl, hb⟩ := hrel
        obtain ⟨A, HA⟩ := hideEx (62 :: pieceB 0 (textsB (b.kids.take k)))
        have hAl : A.length ≤ 117 := by
          rw [← HA.out]
          have h1 := piece_take_len (n := 0) (l := textsB b.kids) k
          have h2 := HPl.out
          have e : (textsB b.kids).take k = textsB (b.kids.take k) := by show (List.map _ _).take k = List.map _ _; rw [List.map_take]
          rw [e] at h1
          show (pieceB 0 (textsB (b.kids.take k))).length + 1 ≤ 117
          omega
        rw [HA.out]
        by_cases hk : k < n
        · have Hkl : Hid (k < b.kids.length) := by show k < b.kids.length; rw [Hn.out]; exact hk
          obtain ⟨bk, off, kv, rfl, hlt, c0, c1, c2, hkid⟩ := (hK.below hb).at Hkl.out
          have Hs : Hid (SaysX (b.kids[k]'Hkl.out)) := HS.out _ (List.getElem_mem _)
          have Htk : Hid (textsB (b.kids.take (k + 1)) = textsB (b.kids.take k) ++ [textB 41 (b.kids[k]'Hkl.out)]) := by
            show List.map _ _ = _
            rw [List.take_succ_eq_append_getElem Hkl.out, List.map_append]
            rfl
          have hTl : (textB 41 (b.kids[k]'Hkl.out)).length ≤ 118 := (HR.out.kid (List.getElem_mem _)).text_len
          obtain ⟨kb, Hkb⟩ : ∃ kb, Hid (b.kids[k]'Hkl.out = kb) := ⟨_, rfl⟩
          rw [Hkb.out] at c0 c1 hkid Hs Htk hTl
          obtain ⟨ka, kl, kc, rfl, _⟩ : ∃ ka kl kc, kv = .slice ka kl kc ∧ True := by obtain ⟨kv', e, hk'⟩ := blockV_iff.1 hkid; obtain ⟨ka, kc, e2, _⟩ := hk'.slice; injection e with e; simp only [Array.mk.injEq, List.cons.injEq, and_true, true_and] at e; exact ⟨ka, _, kc, by rw [e, e2], trivial⟩
          have b3 := below_new wr (.cells #[.int .i64 kb.kind, .int .i64 kb.label, .slice ka kl kc] 24)
          have hx3 := box3_new wr (.int .i64 kb.kind) (.int .i64 kb.label) (.slice ka kl kc) 24
          replace hkid := hkid.below b3
          have hbn := below_then hb b3
          obtain ⟨w1, Hw1⟩ : ∃ w1, Hid (wr.alloc (.cells #[.int .i64 kb.kind, .int .i64 kb.label, .slice ka kl kc] 24) = w1) := ⟨_, rfl⟩
          obtain ⟨Y, HY⟩ : ∃ z, Hid (wr.heap.size = z) := ⟨_, rfl⟩
          rw [Hw1.out] at hx3 hkid hbn
          rw [HY.out] at hx3
          go_upto_region 7 with fail
          rw [Hw1.out, HY.out]
          clear Hw1 c0 c1 c2 b3 hb hlt
          obtain ⟨z0, z1, z2, z3⟩ := id hx3
          obtain ⟨T, HTx⟩ := hideEx (textB 41 kb)
          obtain ⟨E, HE⟩ := hideEx (62 :: pieceB 0 (textsB (b.kids.take (k + 1))))
          have hcl : ∀ w', Below w1.heap.size w1 w' → Calls Tryd.prog 12 #[.agg #[.int .i64 kb.kind, .int .i64 kb.label, .slice ka kl kc]] w' fun e w2 => e = .returned (.string (bs T)) ∧ Below w'.heap.size w' w2 := fun w' hw => by
            have := Hs.out _ w' (hkid.below hw)
            rw [HTx.out] at this
            exact this
          rw [HTx.out] at hTl Htk
          have hdr : Below w1.heap.size w1 w1.drew := (Below.refl _ _).drew
          have hdn := below_then hdr (below_new w1.drew (.cells #[.string ⟨#[40]⟩, .string ⟨#[44]⟩] 9))
          by_cases hk0 : k = 0
          · have hmin : min (k : Int) 1 = 0 := by omega
            have HE0 : Hid (A ++ ([40] ++ T) = E) := by
              show _ = _
              rw [← HE.out, ← HA.out, Htk.out, piece_snoc]
              have hlk : (textsB (b.kids.take k)).length = k := by show (List.map _ _).length = k; rw [List.length_map, List.length_take]; have := Hkl.out; omega
              rw [hlk, if_pos (by omega)]
              simp
            have s1 := bs_add2 (a := [40]) (b := T) (s := ⟨#[40]⟩) rfl (by simp; omega)
            obtain ⟨J, HJ⟩ := hideEx ([40] ++ T)
            rw [HJ.out] at s1 HE0
            have hJl : J.length ≤ 119 := by rw [← HJ.out]; simp; omega
            have s2 := bs_add (a := A) (b := J) (by omega)
            rw [HE0.out] at s2
            clear hk0 hAl hTl hJl
            refine wp_region_held_drew (S := fun w' => w'.cell? ⟨Y, 0, none⟩ = some (.int .i64 kb.kind) ∧ w'.cell? ⟨Y, 1, none⟩ = some (.int .i64 kb.label) ∧ w'.cell? ⟨Y, 2, none⟩ = some (.slice ka kl kc)) (by kernel_rfl) ⟨z1, z2, z3⟩ (fun hH => ?_)
            refine wpAnyH_take (i := 0) (v := .string (bs A)) rfl (by kernel_rfl) (by kernel_rfl) (by kernel_rfl) (fun _ _ _ h => h) (.inl ⟨by rfl, fun _ _ => rfl⟩) hH ?_
            simp only [List.getElem_toArray, List.getElem_cons_succ, List.getElem_cons_zero, Act.put, List.setIfInBounds_toArray, List.set_cons_zero, List.set_cons_succ]
            refine wpAnyH_take (i := 2) (v := .int .i64 (k : Int)) rfl (by kernel_rfl) (by kernel_rfl) (by kernel_rfl) (fun _ _ _ h => h) (.inl ⟨by rfl, fun _ _ => rfl⟩) hH ?_
            simp only [List.getElem_toArray, List.getElem_cons_succ, List.getElem_cons_zero, Act.put, List.setIfInBounds_toArray, List.set_cons_zero, List.set_cons_succ]
            refine wpAnyH_take (i := 3) (v := .int .i64 0) rfl (by kernel_rfl) (by kernel_rfl) (by kernel_rfl) (fun _ _ _ h => h) (.inl ⟨by rfl, fun w' hS' => by first | (go_simp; done) | (go_simp; rfl) | (go_simp; intro h; omega) | (go_simp; omega)⟩) hH ?_
            simp only [List.getElem_toArray, List.getElem_cons_succ, List.getElem_cons_zero, Act.put, List.setIfInBounds_toArray, List.set_cons_zero, List.set_cons_succ]
            refine wpAnyH_take (i := 6) (v := .agg #[.int .i64 kb.kind, .int .i64 kb.label, .slice ka kl kc]) rfl (by kernel_rfl) (by kernel_rfl) (by kernel_rfl) (fun _ _ _ h => h) (.inl ⟨by rfl, fun w' hS' => by obtain ⟨s1, s2, s3⟩ := hS'; go_simp⟩) hH ?_
            simp only [List.getElem_toArray, List.getElem_cons_succ, List.getElem_cons_zero, Act.put, List.setIfInBounds_toArray, List.set_cons_zero, List.set_cons_succ]
            refine wpAnyH_ready (rs := [1, 7]) (by kernel_rfl) (by simp) ?_
            refine (AllReadyH.cons rfl (fun K hK => ?_) (AllReadyH.cons rfl (fun K hK => ?_) AllReadyH.nil))
            · simp only [List.getElem_toArray, List.getElem_cons_succ, List.getElem_cons_zero]
              rw [if_pos (by rfl)]
              go_wp2_with fail
              obtain ⟨_, n1, n2, n3⟩ := hx3.below (hdn)
              refine hK.out _ _ ⟨n1, n2, n3⟩ (fun hH => ?_)
              clear hK
              refine wpAnyH_take (i := 4) (v := .pointer (some ⟨w1.heap.size, 0, none⟩)) rfl (by kernel_rfl) (by kernel_rfl) (by kernel_rfl) (fun _ _ _ h => h) (.inl ⟨by rfl, fun w' hS' => by first | (go_simp; done) | (go_simp; rfl) | (go_simp; intro h; omega) | (go_simp; omega)⟩) hH ?_
              simp only [List.getElem_toArray, List.getElem_cons_succ, List.getElem_cons_zero, Act.put, List.setIfInBounds_toArray, List.set_cons_zero, List.set_cons_succ]
              refine wpAnyH_ready (rs := [5, 7]) (by kernel_rfl) (by simp) ?_
              refine (AllReadyH.cons rfl (fun K hK => ?_) (AllReadyH.cons rfl (fun K hK => ?_) AllReadyH.nil))
              · simp only [List.getElem_toArray, List.getElem_cons_succ, List.getElem_cons_zero]
                rw [if_pos (by rfl)]
                have v1 : (w1.drew.alloc (.cells #[.string ⟨#[40]⟩, .string ⟨#[44]⟩] 9)).cell? ⟨w1.heap.size, 0, none⟩ = some (.string ⟨#[40]⟩) := (box2_new w1.drew (.string ⟨#[40]⟩) (.string ⟨#[44]⟩) 9).2.1
                go_wp2_with fail
                refine hK.out _ _ ⟨n1, n2, n3⟩ (fun hH => ?_)
                clear hK
                refine wpAnyH_ready (rs := [7]) (by kernel_rfl) (by simp) ?_
                refine AllReadyH.cons rfl (fun K hK => ?_) AllReadyH.nil
                simp only [List.getElem_toArray, List.getElem_cons_succ, List.getElem_cons_zero]
                rw [if_pos (by rfl)]
                go_wp2_with (go_at_call 12; refine (hcl _ hdn).mono ?_; rintro e w2 ⟨rfl, b2⟩)
                have q2 := below_then hdn b2
                obtain ⟨_, y1, y2, y3⟩ := hx3.below q2
                refine hK.out _ _ ⟨y1, y2, y3⟩ (fun hH => ?_)
                clear hK
                refine wpAnyH_take (i := 8) (v := .string (bs J)) rfl (by kernel_rfl) (by kernel_rfl) (by kernel_rfl) (fun _ _ _ h => h) (.inl ⟨by rfl, fun w' hS' => by first | (go_simp; done) | (go_simp; rfl) | (go_simp; intro h; omega) | (go_simp; omega)⟩) hH ?_
                simp only [List.getElem_toArray, List.getElem_cons_succ, List.getElem_cons_zero, Act.put, List.setIfInBounds_toArray, List.set_cons_zero, List.set_cons_succ]
                refine wpAnyH_take (i := 9) (v := .string (bs E)) rfl (by kernel_rfl) (by kernel_rfl) (by kernel_rfl) (fun _ _ _ h => h) (.inl ⟨by rfl, fun w' hS' => by first | (go_simp; done) | (go_simp; rfl) | (go_simp; intro h; omega) | (go_simp; omega)⟩) hH ?_
                simp only [List.getElem_toArray, List.getElem_cons_succ, List.getElem_cons_zero, Act.put, List.setIfInBounds_toArray, List.set_cons_zero, List.set_cons_succ]
                refine wpAnyH_take (i := 10) (v := .string (bs E)) rfl (by kernel_rfl) (by kernel_rfl) (by kernel_rfl) (fun _ _ _ h => h) (.inl ⟨by rfl, fun _ _ => rfl⟩) hH ?_
                simp only [List.getElem_toArray, List.getElem_cons_succ, List.getElem_cons_zero, Act.put, List.setIfInBounds_toArray, List.set_cons_zero, List.set_cons_succ]
                refine wpAnyH_done (by kernel_rfl) ?_ _
                have HE1 := below_then hbn (q2)
                clear hx3 hcl s1 s2 hbn hdr hdn hmin
                go_wp2
                go_roundg (gk - 1)
                case measure => omega
                case rel => exact ⟨k + 1, by omega, by go_num, by rw [HE.out], HE1⟩
              · simp only [List.getElem_toArray, List.getElem_cons_succ, List.getElem_cons_zero]
                rw [if_pos (by rfl)]
                go_wp2_with (go_at_call 12; refine (hcl _ hdn).mono ?_; rintro e w2 ⟨rfl, b2⟩)
                have q2 := below_then hdn b2
                obtain ⟨_, y1, y2, y3⟩ := hx3.below q2
                refine hK.out _ _ ⟨y1, y2, y3⟩ (fun hH => ?_)
                clear hK
                refine wpAnyH_ready (rs := [5]) (by kernel_rfl) (by simp) ?_
                refine AllReadyH.cons rfl (fun K hK => ?_) AllReadyH.nil
                simp only [List.getElem_toArray, List.getElem_cons_succ, List.getElem_cons_zero]
                rw [if_pos (by rfl)]
                have v1 : w2.cell? ⟨w1.heap.size, 0, none⟩ = some (.string ⟨#[40]⟩) := ((box2_new w1.drew (.string ⟨#[40]⟩) (.string ⟨#[44]⟩) 9).below b2).2.1
                go_wp2_with fail
                refine hK.out _ _ ⟨y1, y2, y3⟩ (fun hH => ?_)
                clear hK
                refine wpAnyH_take (i := 8) (v := .string (bs J)) rfl (by kernel_rfl) (by kernel_rfl) (by kernel_rfl) (fun _ _ _ h => h) (.inl ⟨by rfl, fun w' hS' => by first | (go_simp; done) | (go_simp; rfl) | (go_simp; intro h; omega) | (go_simp; omega)⟩) hH ?_
                simp only [List.getElem_toArray, List.getElem_cons_succ, List.getElem_cons_zero, Act.put, List.setIfInBounds_toArray, List.set_cons_zero, List.set_cons_succ]
                refine wpAnyH_take (i := 9) (v := .string (bs E)) rfl (by kernel_rfl) (by kernel_rfl) (by kernel_rfl) (fun _ _ _ h => h) (.inl ⟨by rfl, fun w' hS' => by first | (go_simp; done) | (go_simp; rfl) | (go_simp; intro h; omega) | (go_simp; omega)⟩) hH ?_
                simp only [List.getElem_toArray, List.getElem_cons_succ, List.getElem_cons_zero, Act.put, List.setIfInBounds_toArray, List.set_cons_zero, List.set_cons_succ]
                refine wpAnyH_take (i := 10) (v := .string (bs E)) rfl (by kernel_rfl) (by kernel_rfl) (by kernel_rfl) (fun _ _ _ h => h) (.inl ⟨by rfl, fun _ _ => rfl⟩) hH ?_
                simp only [List.getElem_toArray, List.getElem_cons_succ, List.getElem_cons_zero, Act.put, List.setIfInBounds_toArray, List.set_cons_zero, List.set_cons_succ]
                refine wpAnyH_done (by kernel_rfl) ?_ _
                have HE1 := below_then hbn (q2)
                clear hx3 hcl s1 s2 hbn hdr hdn hmin
                go_wp2
                go_roundg (gk - 1)
                case measure => omega
                case rel => exact ⟨k + 1, by omega, by go_num, by rw [HE.out], HE1⟩
            · simp only [List.getElem_toArray, List.getElem_cons_succ, List.getElem_cons_zero]
              rw [if_pos (by rfl)]
              go_wp2_with (go_at_call 12; refine (hcl _ hdr).mono ?_; rintro e w2 ⟨rfl, b2⟩)
              have q2 := below_then hdr b2
              obtain ⟨_, y1, y2, y3⟩ := hx3.below q2
              refine hK.out _ _ ⟨y1, y2, y3⟩ (fun hH => ?_)
              clear hK
              refine wpAnyH_ready (rs := [1]) (by kernel_rfl) (by simp) ?_
              refine AllReadyH.cons rfl (fun K hK => ?_) AllReadyH.nil
              simp only [List.getElem_toArray, List.getElem_cons_succ, List.getElem_cons_zero]
              rw [if_pos (by rfl)]
              go_wp2_with fail
              obtain ⟨_, n1, n2, n3⟩ := hx3.below (below_then q2 (below_new w2 (.cells #[.string ⟨#[40]⟩, .string ⟨#[44]⟩] 9)))
              refine hK.out _ _ ⟨n1, n2, n3⟩ (fun hH => ?_)
              clear hK
              refine wpAnyH_take (i := 4) (v := .pointer (some ⟨w2.heap.size, 0, none⟩)) rfl (by kernel_rfl) (by kernel_rfl) (by kernel_rfl) (fun _ _ _ h => h) (.inl ⟨by rfl, fun w' hS' => by first | (go_simp; done) | (go_simp; rfl) | (go_simp; intro h; omega) | (go_simp; omega)⟩) hH ?_
              simp only [List.getElem_toArray, List.getElem_cons_succ, List.getElem_cons_zero, Act.put, List.setIfInBounds_toArray, List.set_cons_zero, List.set_cons_succ]
              refine wpAnyH_ready (rs := [5]) (by kernel_rfl) (by simp) ?_
              refine AllReadyH.cons rfl (fun K hK => ?_) AllReadyH.nil
              simp only [List.getElem_toArray, List.getElem_cons_succ, List.getElem_cons_zero]
              rw [if_pos (by rfl)]
              have v1 : (w2.alloc (.cells #[.string ⟨#[40]⟩, .string ⟨#[44]⟩] 9)).cell? ⟨w2.heap.size, 0, none⟩ = some (.string ⟨#[40]⟩) := (box2_new w2 (.string ⟨#[40]⟩) (.string ⟨#[44]⟩) 9).2.1
              go_wp2_with fail
              refine hK.out _ _ ⟨n1, n2, n3⟩ (fun hH => ?_)
              clear hK
              refine wpAnyH_take (i := 8) (v := .string (bs J)) rfl (by kernel_rfl) (by kernel_rfl) (by kernel_rfl) (fun _ _ _ h => h) (.inl ⟨by rfl, fun w' hS' => by first | (go_simp; done) | (go_simp; rfl) | (go_simp; intro h; omega) | (go_simp; omega)⟩) hH ?_
              simp only [List.getElem_toArray, List.getElem_cons_succ, List.getElem_cons_zero, Act.put, List.setIfInBounds_toArray, List.set_cons_zero, List.set_cons_succ]
              refine wpAnyH_take (i := 9) (v := .string (bs E)) rfl (by kernel_rfl) (by kernel_rfl) (by kernel_rfl) (fun _ _ _ h => h) (.inl ⟨by rfl, fun w' hS' => by first | (go_simp; done) | (go_simp; rfl) | (go_simp; intro h; omega) | (go_simp; omega)⟩) hH ?_
              simp only [List.getElem_toArray, List.getElem_cons_succ, List.getElem_cons_zero, Act.put, List.setIfInBounds_toArray, List.set_cons_zero, List.set_cons_succ]
              refine wpAnyH_take (i := 10) (v := .string (bs E)) rfl (by kernel_rfl) (by kernel_rfl) (by kernel_rfl) (fun _ _ _ h => h) (.inl ⟨by rfl, fun _ _ => rfl⟩) hH ?_
              simp only [List.getElem_toArray, List.getElem_cons_succ, List.getElem_cons_zero, Act.put, List.setIfInBounds_toArray, List.set_cons_zero, List.set_cons_succ]
              refine wpAnyH_done (by kernel_rfl) ?_ _
              have HE1 := below_then hbn (below_then q2 (below_new w2 (.cells #[.string ⟨#[40]⟩, .string ⟨#[44]⟩] 9)))
              clear hx3 hcl s1 s2 hbn hdr hdn hmin
              go_wp2
              go_roundg (gk - 1)
              case measure => omega
              case rel => exact ⟨k + 1, by omega, by go_num, by rw [HE.out], HE1⟩
          · have hmin : min (k : Int) 1 = 1 := by omega
            have HE0 : Hid (A ++ ([44] ++ T) = E) := by
              show _ = _
              rw [← HE.out, ← HA.out, Htk.out, piece_snoc]
              have hlk : (textsB (b.kids.take k)).length = k := by show (List.map _ _).length = k; rw [List.length_map, List.length_take]; have := Hkl.out; omega
              rw [hlk, if_neg (by omega)]
              simp
            have s1 := bs_add2 (a := [44]) (b := T) (s := ⟨#[44]⟩) rfl (by simp; omega)
            obtain ⟨J, HJ⟩ := hideEx ([44] ++ T)
            rw [HJ.out] at s1 HE0
            have hJl : J.length ≤ 119 := by rw [← HJ.out]; simp; omega
            have s2 := bs_add (a := A) (b := J) (by omega)
            rw [HE0.out] at s2
            clear hk0 hAl hTl hJl
            refine wp_region_held_drew (S := fun w' => w'.cell? ⟨Y, 0, none⟩ = some (.int .i64 kb.kind) ∧ w'.cell? ⟨Y, 1, none⟩ = some (.int .i64 kb.label) ∧ w'.cell? ⟨Y, 2, none⟩ = some (.slice ka kl kc)) (by kernel_rfl) ⟨z1, z2, z3⟩ (fun hH => ?_)
            refine wpAnyH_take (i := 0) (v := .string (bs A)) rfl (by kernel_rfl) (by kernel_rfl) (by kernel_rfl) (fun _ _ _ h => h) (.inl ⟨by rfl, fun _ _ => rfl⟩) hH ?_
            simp only [List.getElem_toArray, List.getElem_cons_succ, List.getElem_cons_zero, Act.put, List.setIfInBounds_toArray, List.set_cons_zero, List.set_cons_succ]
            refine wpAnyH_take (i := 2) (v := .int .i64 (k : Int)) rfl (by kernel_rfl) (by kernel_rfl) (by kernel_rfl) (fun _ _ _ h => h) (.inl ⟨by rfl, fun _ _ => rfl⟩) hH ?_
            simp only [List.getElem_toArray, List.getElem_cons_succ, List.getElem_cons_zero, Act.put, List.setIfInBounds_toArray, List.set_cons_zero, List.set_cons_succ]
            refine wpAnyH_take (i := 3) (v := .int .i64 1) rfl (by kernel_rfl) (by kernel_rfl) (by kernel_rfl) (fun _ _ _ h => h) (.inl ⟨by rfl, fun w' hS' => by first | (go_simp; done) | (go_simp; rfl) | (go_simp; intro h; omega) | (go_simp; omega)⟩) hH ?_
            simp only [List.getElem_toArray, List.getElem_cons_succ, List.getElem_cons_zero, Act.put, List.setIfInBounds_toArray, List.set_cons_zero, List.set_cons_succ]
            refine wpAnyH_take (i := 6) (v := .agg #[.int .i64 kb.kind, .int .i64 kb.label, .slice ka kl kc]) rfl (by kernel_rfl) (by kernel_rfl) (by kernel_rfl) (fun _ _ _ h => h) (.inl ⟨by rfl, fun w' hS' => by obtain ⟨s1, s2, s3⟩ := hS'; go_simp⟩) hH ?_
            simp only [List.getElem_toArray, List.getElem_cons_succ, List.getElem_cons_zero, Act.put, List.setIfInBounds_toArray, List.set_cons_zero, List.set_cons_succ]
            refine wpAnyH_ready (rs := [1, 7]) (by kernel_rfl) (by simp) ?_
            refine (AllReadyH.cons rfl (fun K hK => ?_) (AllReadyH.cons rfl (fun K hK => ?_) AllReadyH.nil))
            · simp only [List.getElem_toArray, List.getElem_cons_succ, List.getElem_cons_zero]
              rw [if_pos (by rfl)]
              go_wp2_with fail
              obtain ⟨_, n1, n2, n3⟩ := hx3.below (hdn)
              refine hK.out _ _ ⟨n1, n2, n3⟩ (fun hH => ?_)
              clear hK
              refine wpAnyH_take (i := 4) (v := .pointer (some ⟨w1.heap.size, 1, none⟩)) rfl (by kernel_rfl) (by kernel_rfl) (by kernel_rfl) (fun _ _ _ h => h) (.inl ⟨by rfl, fun w' hS' => by first | (go_simp; done) | (go_simp; rfl) | (go_simp; intro h; omega) | (go_simp; omega)⟩) hH ?_
              simp only [List.getElem_toArray, List.getElem_cons_succ, List.getElem_cons_zero, Act.put, List.setIfInBounds_toArray, List.set_cons_zero, List.set_cons_succ]
              refine wpAnyH_ready (rs := [5, 7]) (by kernel_rfl) (by simp) ?_
              refine (AllReadyH.cons rfl (fun K hK => ?_) (AllReadyH.cons rfl (fun K hK => ?_) AllReadyH.nil))
              · simp only [List.getElem_toArray, List.getElem_cons_succ, List.getElem_cons_zero]
                rw [if_pos (by rfl)]
                have v1 : (w1.drew.alloc (.cells #[.string ⟨#[40]⟩, .string ⟨#[44]⟩] 9)).cell? ⟨w1.heap.size, 1, none⟩ = some (.string ⟨#[44]⟩) := (box2_new w1.drew (.string ⟨#[40]⟩) (.string ⟨#[44]⟩) 9).2.2
                go_wp2_with fail
                refine hK.out _ _ ⟨n1, n2, n3⟩ (fun hH => ?_)
                clear hK
                refine wpAnyH_ready (rs := [7]) (by kernel_rfl) (by simp) ?_
                refine AllReadyH.cons rfl (fun K hK => ?_) AllReadyH.nil
                simp only [List.getElem_toArray, List.getElem_cons_succ, List.getElem_cons_zero]
                rw [if_pos (by rfl)]
                go_wp2_with (go_at_call 12; refine (hcl _ hdn).mono ?_; rintro e w2 ⟨rfl, b2⟩)
                have q2 := below_then hdn b2
                obtain ⟨_, y1, y2, y3⟩ := hx3.below q2
                refine hK.out _ _ ⟨y1, y2, y3⟩ (fun hH => ?_)
                clear hK
                refine wpAnyH_take (i := 8) (v := .string (bs J)) rfl (by kernel_rfl) (by kernel_rfl) (by kernel_rfl) (fun _ _ _ h => h) (.inl ⟨by rfl, fun w' hS' => by first | (go_simp; done) | (go_simp; rfl) | (go_simp; intro h; omega) | (go_simp; omega)⟩) hH ?_
                simp only [List.getElem_toArray, List.getElem_cons_succ, List.getElem_cons_zero, Act.put, List.setIfInBounds_toArray, List.set_cons_zero, List.set_cons_succ]
                refine wpAnyH_take (i := 9) (v := .string (bs E)) rfl (by kernel_rfl) (by kernel_rfl) (by kernel_rfl) (fun _ _ _ h => h) (.inl ⟨by rfl, fun w' hS' => by first | (go_simp; done) | (go_simp; rfl) | (go_simp; intro h; omega) | (go_simp; omega)⟩) hH ?_
                simp only [List.getElem_toArray, List.getElem_cons_succ, List.getElem_cons_zero, Act.put, List.setIfInBounds_toArray, List.set_cons_zero, List.set_cons_succ]
                refine wpAnyH_take (i := 10) (v := .string (bs E)) rfl (by kernel_rfl) (by kernel_rfl) (by kernel_rfl) (fun _ _ _ h => h) (.inl ⟨by rfl, fun _ _ => rfl⟩) hH ?_
                simp only [List.getElem_toArray, List.getElem_cons_succ, List.getElem_cons_zero, Act.put, List.setIfInBounds_toArray, List.set_cons_zero, List.set_cons_succ]
                refine wpAnyH_done (by kernel_rfl) ?_ _
                have HE1 := below_then hbn (q2)
                clear hx3 hcl s1 s2 hbn hdr hdn hmin
                go_wp2
                go_roundg (gk - 1)
                case measure => omega
                case rel => exact ⟨k + 1, by omega, by go_num, by rw [HE.out], HE1⟩
              · simp only [List.getElem_toArray, List.getElem_cons_succ, List.getElem_cons_zero]
                rw [if_pos (by rfl)]
                go_wp2_with (go_at_call 12; refine (hcl _ hdn).mono ?_; rintro e w2 ⟨rfl, b2⟩)
                have q2 := below_then hdn b2
                obtain ⟨_, y1, y2, y3⟩ := hx3.below q2
                refine hK.out _ _ ⟨y1, y2, y3⟩ (fun hH => ?_)
                clear hK
                refine wpAnyH_ready (rs := [5]) (by kernel_rfl) (by simp) ?_
                refine AllReadyH.cons rfl (fun K hK => ?_) AllReadyH.nil
                simp only [List.getElem_toArray, List.getElem_cons_succ, List.getElem_cons_zero]
                rw [if_pos (by rfl)]
                have v1 : w2.cell? ⟨w1.heap.size, 1, none⟩ = some (.string ⟨#[44]⟩) := ((box2_new w1.drew (.string ⟨#[40]⟩) (.string ⟨#[44]⟩) 9).below b2).2.2
                go_wp2_with fail
                refine hK.out _ _ ⟨y1, y2, y3⟩ (fun hH => ?_)
                clear hK
                refine wpAnyH_take (i := 8) (v := .string (bs J)) rfl (by kernel_rfl) (by kernel_rfl) (by kernel_rfl) (fun _ _ _ h => h) (.inl ⟨by rfl, fun w' hS' => by first | (go_simp; done) | (go_simp; rfl) | (go_simp; intro h; omega) | (go_simp; omega)⟩) hH ?_
                simp only [List.getElem_toArray, List.getElem_cons_succ, List.getElem_cons_zero, Act.put, List.setIfInBounds_toArray, List.set_cons_zero, List.set_cons_succ]
                refine wpAnyH_take (i := 9) (v := .string (bs E)) rfl (by kernel_rfl) (by kernel_rfl) (by kernel_rfl) (fun _ _ _ h => h) (.inl ⟨by rfl, fun w' hS' => by first | (go_simp; done) | (go_simp; rfl) | (go_simp; intro h; omega) | (go_simp; omega)⟩) hH ?_
                simp only [List.getElem_toArray, List.getElem_cons_succ, List.getElem_cons_zero, Act.put, List.setIfInBounds_toArray, List.set_cons_zero, List.set_cons_succ]
                refine wpAnyH_take (i := 10) (v := .string (bs E)) rfl (by kernel_rfl) (by kernel_rfl) (by kernel_rfl) (fun _ _ _ h => h) (.inl ⟨by rfl, fun _ _ => rfl⟩) hH ?_
                simp only [List.getElem_toArray, List.getElem_cons_succ, List.getElem_cons_zero, Act.put, List.setIfInBounds_toArray, List.set_cons_zero, List.set_cons_succ]
                refine wpAnyH_done (by kernel_rfl) ?_ _
                have HE1 := below_then hbn (q2)
                clear hx3 hcl s1 s2 hbn hdr hdn hmin
                go_wp2
                go_roundg (gk - 1)
                case measure => omega
                case rel => exact ⟨k + 1, by omega, by go_num, by rw [HE.out], HE1⟩
            · simp only [List.getElem_toArray, List.getElem_cons_succ, List.getElem_cons_zero]
              rw [if_pos (by rfl)]
              go_wp2_with (go_at_call 12; refine (hcl _ hdr).mono ?_; rintro e w2 ⟨rfl, b2⟩)
              have q2 := below_then hdr b2
              obtain ⟨_, y1, y2, y3⟩ := hx3.below q2
              refine hK.out _ _ ⟨y1, y2, y3⟩ (fun hH => ?_)
              clear hK
              refine wpAnyH_ready (rs := [1]) (by kernel_rfl) (by simp) ?_
              refine AllReadyH.cons rfl (fun K hK => ?_) AllReadyH.nil
              simp only [List.getElem_toArray, List.getElem_cons_succ, List.getElem_cons_zero]
              rw [if_pos (by rfl)]
              go_wp2_with fail
              obtain ⟨_, n1, n2, n3⟩ := hx3.below (below_then q2 (below_new w2 (.cells #[.string ⟨#[40]⟩, .string ⟨#[44]⟩] 9)))
              refine hK.out _ _ ⟨n1, n2, n3⟩ (fun hH => ?_)
              clear hK
              refine wpAnyH_take (i := 4) (v := .pointer (some ⟨w2.heap.size, 1, none⟩)) rfl (by kernel_rfl) (by kernel_rfl) (by kernel_rfl) (fun _ _ _ h => h) (.inl ⟨by rfl, fun w' hS' => by first | (go_simp; done) | (go_simp; rfl) | (go_simp; intro h; omega) | (go_simp; omega)⟩) hH ?_
              simp only [List.getElem_toArray, List.getElem_cons_succ, List.getElem_cons_zero, Act.put, List.setIfInBounds_toArray, List.set_cons_zero, List.set_cons_succ]
              refine wpAnyH_ready (rs := [5]) (by kernel_rfl) (by simp) ?_
              refine AllReadyH.cons rfl (fun K hK => ?_) AllReadyH.nil
              simp only [List.getElem_toArray, List.getElem_cons_succ, List.getElem_cons_zero]
              rw [if_pos (by rfl)]
              have v1 : (w2.alloc (.cells #[.string ⟨#[40]⟩, .string ⟨#[44]⟩] 9)).cell? ⟨w2.heap.size, 1, none⟩ = some (.string ⟨#[44]⟩) := (box2_new w2 (.string ⟨#[40]⟩) (.string ⟨#[44]⟩) 9).2.2
              go_wp2_with fail
              refine hK.out _ _ ⟨n1, n2, n3⟩ (fun hH => ?_)
              clear hK
              refine wpAnyH_take (i := 8) (v := .string (bs J)) rfl (by kernel_rfl) (by kernel_rfl) (by kernel_rfl) (fun _ _ _ h => h) (.inl ⟨by rfl, fun w' hS' => by first | (go_simp; done) | (go_simp; rfl) | (go_simp; intro h; omega) | (go_simp; omega)⟩) hH ?_
              simp only [List.getElem_toArray, List.getElem_cons_succ, List.getElem_cons_zero, Act.put, List.setIfInBounds_toArray, List.set_cons_zero, List.set_cons_succ]
              refine wpAnyH_take (i := 9) (v := .string (bs E)) rfl (by kernel_rfl) (by kernel_rfl) (by kernel_rfl) (fun _ _ _ h => h) (.inl ⟨by rfl, fun w' hS' => by first | (go_simp; done) | (go_simp; rfl) | (go_simp; intro h; omega) | (go_simp; omega)⟩) hH ?_
              simp only [List.getElem_toArray, List.getElem_cons_succ, List.getElem_cons_zero, Act.put, List.setIfInBounds_toArray, List.set_cons_zero, List.set_cons_succ]
              refine wpAnyH_take (i := 10) (v := .string (bs E)) rfl (by kernel_rfl) (by kernel_rfl) (by kernel_rfl) (fun _ _ _ h => h) (.inl ⟨by rfl, fun _ _ => rfl⟩) hH ?_
              simp only [List.getElem_toArray, List.getElem_cons_succ, List.getElem_cons_zero, Act.put, List.setIfInBounds_toArray, List.set_cons_zero, List.set_cons_succ]
              refine wpAnyH_done (by kernel_rfl) ?_ _
              have HE1 := below_then hbn (below_then q2 (below_new w2 (.cells #[.string ⟨#[40]⟩, .string ⟨#[44]⟩] 9)))
              clear hx3 hcl s1 s2 hbn hdr hdn hmin
              go_wp2
              go_roundg (gk - 1)
              case measure => omega
              case rel => exact ⟨k + 1, by omega, by go_num, by rw [HE.out], HE1⟩
        · have hkn : k = n := by omega
          subst hkn
          have s1 := bs_add1 (a := A) (b := [41]) (s := ⟨#[41]⟩) rfl (by simp; omega)
          have HF : Hid (A ++ [41] = TT) := by
            show _ = _
            rw [R.out, ← HA.out, List.take_of_length_le (Nat.le_of_eq Hn.out)]
            rfl
          rw [HF.out] at s1
          have HE1 : Hid (Below w.heap.size w wr) := below_then c hb
          clear hb hAl bA
          go_wp2
          go_ret
          exact ⟨by rw [HTT.out]; rfl, HE1.out⟩
    · have R0 : TT = 63 :: (pieceB 0 (textsB b.kids) ++ [41]) := by have := HT2.out; simpa [signB] using this
      have R : Hid (TT = 63 :: (pieceB 0 (textsB b.kids) ++ [41])) := R0
      have hPl : (pieceB 0 (textsB b.kids)).length ≤ 116 := by rw [R0] at hl; simp at hl; show (pieceB 0 (b.kids.map (textB 41))).length ≤ 116; omega
      have HPl : Hid ((pieceB 0 (textsB b.kids)).length ≤ 116) := hPl
      clear HT2 f3 R0 hPl hl
      go_upto_region 4 with fail
      have bA := below_new w0 (.cells #[.string ⟨#[62]⟩, .string ⟨#[63]⟩, .string ⟨#[38]⟩, .string ⟨#[42]⟩] 9)
      obtain ⟨wa, Ha⟩ : ∃ u, Hid (w0.alloc (.cells #[.string ⟨#[62]⟩, .string ⟨#[63]⟩, .string ⟨#[38]⟩, .string ⟨#[42]⟩] 9) = u) := ⟨_, rfl⟩
      rw [Ha.out] at bA
      rw [Ha.out]
      have hba := hbx.below bA
      clear x0 x1 x2 x3
      obtain ⟨x0, x1, x2, x3⟩ := id hba
      go_upto_region 5 with fail
      clear x0 x1 x2 x3 hba
      go_loopg [3, 32] n (fun gk r3 r32 wr => ∃ k : Nat, k + gk = n ∧ r32 = .int .i64 (k : Int) ∧ r3 = .string (bs (63 :: pieceB 0 (textsB (b.kids.take k)))) ∧ Below w0.heap.size w0 wr)
      case atStart => exact ⟨0, by omega, rfl, rfl, bA⟩
      case round =>
        obtain ⟨k, hkg, rfl, rfl, hb⟩ := hrel
        obtain ⟨A, HA⟩ := hideEx (63 :: pieceB 0 (textsB (b.kids.take k)))
        have hAl : A.length ≤ 117 := by
          rw [← HA.out]
          have h1 := piece_take_len (n := 0) (l := textsB b.kids) k
          have h2 := HPl.out
          have e : (textsB b.kids).take k = textsB (b.kids.take k) := by show (List.map _ _).take k = List.map _ _; rw [List.map_take]
          rw [e] at h1
          show (pieceB 0 (textsB (b.kids.take k))).length + 1 ≤ 117
          omega
        rw [HA.out]
        by_cases hk : k < n
        · have Hkl : Hid (k < b.kids.length) := by show k < b.kids.length; rw [Hn.out]; exact hk
          obtain ⟨bk, off, kv, rfl, hlt, c0, c1, c2, hkid⟩ := (hK.below hb).at Hkl.out
          have Hs : Hid (SaysX (b.kids[k]'Hkl.out)) := HS.out _ (List.getElem_mem _)
          have Htk : Hid (textsB (b.kids.take (k + 1)) = textsB (b.kids.take k) ++ [textB 41 (b.kids[k]'Hkl.out)]) := by
            show List.map _ _ = _
            rw [List.take_succ_eq_append_getElem Hkl.out, List.map_append]
            rfl
          have hTl : (textB 41 (b.kids[k]'Hkl.out)).length ≤ 118 := (HR.out.kid (List.getElem_mem _)).text_len
          obtain ⟨kb, Hkb⟩ : ∃ kb, Hid (b.kids[k]'Hkl.out = kb) := ⟨_, rfl⟩
          rw [Hkb.out] at c0 c1 hkid Hs Htk hTl
          obtain ⟨ka, kl, kc, rfl, _⟩ : ∃ ka kl kc, kv = .slice ka kl kc ∧ True := by obtain ⟨kv', e, hk'⟩ := blockV_iff.1 hkid; obtain ⟨ka, kc, e2, _⟩ := hk'.slice; injection e with e; simp only [Array.mk.injEq, List.cons.injEq, and_true, true_and] at e; exact ⟨ka, _, kc, by rw [e, e2], trivial⟩
          have b3 := below_new wr (.cells #[.int .i64 kb.kind, .int .i64 kb.label, .slice ka kl kc] 24)
          have hx3 := box3_new wr (.int .i64 kb.kind) (.int .i64 kb.label) (.slice ka kl kc) 24
          replace hkid := hkid.below b3
          have hbn := below_then hb b3
          obtain ⟨w1, Hw1⟩ : ∃ w1, Hid (wr.alloc (.cells #[.int .i64 kb.kind, .int .i64 kb.label, .slice ka kl kc] 24) = w1) := ⟨_, rfl⟩
          obtain ⟨Y, HY⟩ : ∃ z, Hid (wr.heap.size = z) := ⟨_, rfl⟩
          rw [Hw1.out] at hx3 hkid hbn
          rw [HY.out] at hx3
          go_upto_region 7 with fail
          rw [Hw1.out, HY.out]
          clear Hw1 c0 c1 c2 b3 hb hlt
          obtain ⟨z0, z1, z2, z3⟩ := id hx3
          obtain ⟨T, HTx⟩ := hideEx (textB 41 kb)
          obtain ⟨E, HE⟩ := hideEx (63 :: pieceB 0 (textsB (b.kids.take (k + 1))))
          have hcl : ∀ w', Below w1.heap.size w1 w' → Calls Tryd.prog 12 #[.agg #[.int .i64 kb.kind, .int .i64 kb.label, .slice ka kl kc]] w' fun e w2 => e = .returned (.string (bs T)) ∧ Below w'.heap.size w' w2 := fun w' hw => by
            have := Hs.out _ w' (hkid.below hw)
            rw [HTx.out] at this
            exact this
          rw [HTx.out] at hTl Htk
          have hdr : Below w1.heap.size w1 w1.drew := (Below.refl _ _).drew
          have hdn := below_then hdr (below_new w1.drew (.cells #[.string ⟨#[40]⟩, .string ⟨#[44]⟩] 9))
          by_cases hk0 : k = 0
          · have hmin : min (k : Int) 1 = 0 := by omega
            have HE0 : Hid (A ++ ([40] ++ T) = E) := by
              show _ = _
              rw [← HE.out, ← HA.out, Htk.out, piece_snoc]
              have hlk : (textsB (b.kids.take k)).length = k := by show (List.map _ _).length = k; rw [List.length_map, List.length_take]; have := Hkl.out; omega
              rw [hlk, if_pos (by omega)]
              simp
            have s1 := bs_add2 (a := [40]) (b := T) (s := ⟨#[40]⟩) rfl (by simp; omega)
            obtain ⟨J, HJ⟩ := hideEx ([40] ++ T)
            rw [HJ.out] at s1 HE0
            have hJl : J.length ≤ 119 := by rw [← HJ.out]; simp; omega
            have s2 := bs_add (a := A) (b := J) (by omega)
            rw [HE0.out] at s2
            clear hk0 hAl hTl hJl
            refine wp_region_held_drew (S := fun w' => w'.cell? ⟨Y, 0, none⟩ = some (.int .i64 kb.kind) ∧ w'.cell? ⟨Y, 1, none⟩ = some (.int .i64 kb.label) ∧ w'.cell? ⟨Y, 2, none⟩ = some (.slice ka kl kc)) (by kernel_rfl) ⟨z1, z2, z3⟩ (fun hH => ?_)
            refine wpAnyH_take (i := 0) (v := .string (bs A)) rfl (by kernel_rfl) (by kernel_rfl) (by kernel_rfl) (fun _ _ _ h => h) (.inl ⟨by rfl, fun _ _ => rfl⟩) hH ?_
            simp only [List.getElem_toArray, List.getElem_cons_succ, List.getElem_cons_zero, Act.put, List.setIfInBounds_toArray, List.set_cons_zero, List.set_cons_succ]
            refine wpAnyH_take (i := 2) (v := .int .i64 (k : Int)) rfl (by kernel_rfl) (by kernel_rfl) (by kernel_rfl) (fun _ _ _ h => h) (.inl ⟨by rfl, fun _ _ => rfl⟩) hH ?_
            simp only [List.getElem_toArray, List.getElem_cons_succ, List.getElem_cons_zero, Act.put, List.setIfInBounds_toArray, List.set_cons_zero, List.set_cons_succ]
            refine wpAnyH_take (i := 3) (v := .int .i64 0) rfl (by kernel_rfl) (by kernel_rfl) (by kernel_rfl) (fun _ _ _ h => h) (.inl ⟨by rfl, fun w' hS' => by first | (go_simp; done) | (go_simp; rfl) | (go_simp; intro h; omega) | (go_simp; omega)⟩) hH ?_
            simp only [List.getElem_toArray, List.getElem_cons_succ, List.getElem_cons_zero, Act.put, List.setIfInBounds_toArray, List.set_cons_zero, List.set_cons_succ]
            refine wpAnyH_take (i := 6) (v := .agg #[.int .i64 kb.kind, .int .i64 kb.label, .slice ka kl kc]) rfl (by kernel_rfl) (by kernel_rfl) (by kernel_rfl) (fun _ _ _ h => h) (.inl ⟨by rfl, fun w' hS' => by obtain ⟨s1, s2, s3⟩ := hS'; go_simp⟩) hH ?_
            simp only [List.getElem_toArray, List.getElem_cons_succ, List.getElem_cons_zero, Act.put, List.setIfInBounds_toArray, List.set_cons_zero, List.set_cons_succ]
            refine wpAnyH_ready (rs := [1, 7]) (by kernel_rfl) (by simp) ?_
            refine (AllReadyH.cons rfl (fun K hK => ?_) (AllReadyH.cons rfl (fun K hK => ?_) AllReadyH.nil))
            · simp only [List.getElem_toArray, List.getElem_cons_succ, List.getElem_cons_zero]
              rw [if_pos (by rfl)]
              go_wp2_with fail
              obtain ⟨_, n1, n2, n3⟩ := hx3.below (hdn)
              refine hK.out _ _ ⟨n1, n2, n3⟩ (fun hH => ?_)
              clear hK
              refine wpAnyH_take (i := 4) (v := .pointer (some ⟨w1.heap.size, 0, none⟩)) rfl (by kernel_rfl) (by kernel_rfl) (by kernel_rfl) (fun _ _ _ h => h) (.inl ⟨by rfl, fun w' hS' => by first | (go_simp; done) | (go_simp; rfl) | (go_simp; intro h; omega) | (go_simp; omega)⟩) hH ?_
              simp only [List.getElem_toArray, List.getElem_cons_succ, List.getElem_cons_zero, Act.put, List.setIfInBounds_toArray, List.set_cons_zero, List.set_cons_succ]
              refine wpAnyH_ready (rs := [5, 7]) (by kernel_rfl) (by simp) ?_
              refine (AllReadyH.cons rfl (fun K hK => ?_) (AllReadyH.cons rfl (fun K hK => ?_) AllReadyH.nil))
              · simp only [List.getElem_toArray, List.getElem_cons_succ, List.getElem_cons_zero]
                rw [if_pos (by rfl)]
                have v1 : (w1.drew.alloc (.cells #[.string ⟨#[40]⟩, .string ⟨#[44]⟩] 9)).cell? ⟨w1.heap.size, 0, none⟩ = some (.string ⟨#[40]⟩) := (box2_new w1.drew (.string ⟨#[40]⟩) (.string ⟨#[44]⟩) 9).2.1
                go_wp2_with fail
                refine hK.out _ _ ⟨n1, n2, n3⟩ (fun hH => ?_)
                clear hK
                refine wpAnyH_ready (rs := [7]) (by kernel_rfl) (by simp) ?_
                refine AllReadyH.cons rfl (fun K hK => ?_) AllReadyH.nil
                simp only [List.getElem_toArray, List.getElem_cons_succ, List.getElem_cons_zero]
                rw [if_pos (by rfl)]
                go_wp2_with (go_at_call 12; refine (hcl _ hdn).mono ?_; rintro e w2 ⟨rfl, b2⟩)
                have q2 := below_then hdn b2
                obtain ⟨_, y1, y2, y3⟩ := hx3.below q2
                refine hK.out _ _ ⟨y1, y2, y3⟩ (fun hH => ?_)
                clear hK
                refine wpAnyH_take (i := 8) (v := .string (bs J)) rfl (by kernel_rfl) (by kernel_rfl) (by kernel_rfl) (fun _ _ _ h => h) (.inl ⟨by rfl, fun w' hS' => by first | (go_simp; done) | (go_simp; rfl) | (go_simp; intro h; omega) | (go_simp; omega)⟩) hH ?_
                simp only [List.getElem_toArray, List.getElem_cons_succ, List.getElem_cons_zero, Act.put, List.setIfInBounds_toArray, List.set_cons_zero, List.set_cons_succ]
                refine wpAnyH_take (i := 9) (v := .string (bs E)) rfl (by kernel_rfl) (by kernel_rfl) (by kernel_rfl) (fun _ _ _ h => h) (.inl ⟨by rfl, fun w' hS' => by first | (go_simp; done) | (go_simp; rfl) | (go_simp; intro h; omega) | (go_simp; omega)⟩) hH ?_
                simp only [List.getElem_toArray, List.getElem_cons_succ, List.getElem_cons_zero, Act.put, List.setIfInBounds_toArray, List.set_cons_zero, List.set_cons_succ]
                refine wpAnyH_take (i := 10) (v := .string (bs E)) rfl (by kernel_rfl) (by kernel_rfl) (by kernel_rfl) (fun _ _ _ h => h) (.inl ⟨by rfl, fun _ _ => rfl⟩) hH ?_
                simp only [List.getElem_toArray, List.getElem_cons_succ, List.getElem_cons_zero, Act.put, List.setIfInBounds_toArray, List.set_cons_zero, List.set_cons_succ]
                refine wpAnyH_done (by kernel_rfl) ?_ _
                have HE1 := below_then hbn (q2)
                clear hx3 hcl s1 s2 hbn hdr hdn hmin
                go_wp2
                go_roundg (gk - 1)
                case measure => omega
                case rel => exact ⟨k + 1, by omega, by go_num, by rw [HE.out], HE1⟩
              · simp only [List.getElem_toArray, List.getElem_cons_succ, List.getElem_cons_zero]
                rw [if_pos (by rfl)]
                go_wp2_with (go_at_call 12; refine (hcl _ hdn).mono ?_; rintro e w2 ⟨rfl, b2⟩)
                have q2 := below_then hdn b2
                obtain ⟨_, y1, y2, y3⟩ := hx3.below q2
                refine hK.out _ _ ⟨y1, y2, y3⟩ (fun hH => ?_)
                clear hK
                refine wpAnyH_ready (rs := [5]) (by kernel_rfl) (by simp) ?_
                refine AllReadyH.cons rfl (fun K hK => ?_) AllReadyH.nil
                simp only [List.getElem_toArray, List.getElem_cons_succ, List.getElem_cons_zero]
                rw [if_pos (by rfl)]
                have v1 : w2.cell? ⟨w1.heap.size, 0, none⟩ = some (.string ⟨#[40]⟩) := ((box2_new w1.drew (.string ⟨#[40]⟩) (.string ⟨#[44]⟩) 9).below b2).2.1
                go_wp2_with fail
                refine hK.out _ _ ⟨y1, y2, y3⟩ (fun hH => ?_)
                clear hK
                refine wpAnyH_take (i := 8) (v := .string (bs J)) rfl (by kernel_rfl) (by kernel_rfl) (by kernel_rfl) (fun _ _ _ h => h) (.inl ⟨by rfl, fun w' hS' => by first | (go_simp; done) | (go_simp; rfl) | (go_simp; intro h; omega) | (go_simp; omega)⟩) hH ?_
                simp only [List.getElem_toArray, List.getElem_cons_succ, List.getElem_cons_zero, Act.put, List.setIfInBounds_toArray, List.set_cons_zero, List.set_cons_succ]
                refine wpAnyH_take (i := 9) (v := .string (bs E)) rfl (by kernel_rfl) (by kernel_rfl) (by kernel_rfl) (fun _ _ _ h => h) (.inl ⟨by rfl, fun w' hS' => by first | (go_simp; done) | (go_simp; rfl) | (go_simp; intro h; omega) | (go_simp; omega)⟩) hH ?_
                simp only [List.getElem_toArray, List.getElem_cons_succ, List.getElem_cons_zero, Act.put, List.setIfInBounds_toArray, List.set_cons_zero, List.set_cons_succ]
                refine wpAnyH_take (i := 10) (v := .string (bs E)) rfl (by kernel_rfl) (by kernel_rfl) (by kernel_rfl) (fun _ _ _ h => h) (.inl ⟨by rfl, fun _ _ => rfl⟩) hH ?_
                simp only [List.getElem_toArray, List.getElem_cons_succ, List.getElem_cons_zero, Act.put, List.setIfInBounds_toArray, List.set_cons_zero, List.set_cons_succ]
                refine wpAnyH_done (by kernel_rfl) ?_ _
                have HE1 := below_then hbn (q2)
                clear hx3 hcl s1 s2 hbn hdr hdn hmin
                go_wp2
                go_roundg (gk - 1)
                case measure => omega
                case rel => exact ⟨k + 1, by omega, by go_num, by rw [HE.out], HE1⟩
            · simp only [List.getElem_toArray, List.getElem_cons_succ, List.getElem_cons_zero]
              rw [if_pos (by rfl)]
              go_wp2_with (go_at_call 12; refine (hcl _ hdr).mono ?_; rintro e w2 ⟨rfl, b2⟩)
              have q2 := below_then hdr b2
              obtain ⟨_, y1, y2, y3⟩ := hx3.below q2
              refine hK.out _ _ ⟨y1, y2, y3⟩ (fun hH => ?_)
              clear hK
              refine wpAnyH_ready (rs := [1]) (by kernel_rfl) (by simp) ?_
              refine AllReadyH.cons rfl (fun K hK => ?_) AllReadyH.nil
              simp only [List.getElem_toArray, List.getElem_cons_succ, List.getElem_cons_zero]
              rw [if_pos (by rfl)]
              go_wp2_with fail
              obtain ⟨_, n1, n2, n3⟩ := hx3.below (below_then q2 (below_new w2 (.cells #[.string ⟨#[40]⟩, .string ⟨#[44]⟩] 9)))
              refine hK.out _ _ ⟨n1, n2, n3⟩ (fun hH => ?_)
              clear hK
              refine wpAnyH_take (i := 4) (v := .pointer (some ⟨w2.heap.size, 0, none⟩)) rfl (by kernel_rfl) (by kernel_rfl) (by kernel_rfl) (fun _ _ _ h => h) (.inl ⟨by rfl, fun w' hS' => by first | (go_simp; done) | (go_simp; rfl) | (go_simp; intro h; omega) | (go_simp; omega)⟩) hH ?_
              simp only [List.getElem_toArray, List.getElem_cons_succ, List.getElem_cons_zero, Act.put, List.setIfInBounds_toArray, List.set_cons_zero, List.set_cons_succ]
              refine wpAnyH_ready (rs := [5]) (by kernel_rfl) (by simp) ?_
              refine AllReadyH.cons rfl (fun K hK => ?_) AllReadyH.nil
              simp only [List.getElem_toArray, List.getElem_cons_succ, List.getElem_cons_zero]
              rw [if_pos (by rfl)]
              have v1 : (w2.alloc (.cells #[.string ⟨#[40]⟩, .string ⟨#[44]⟩] 9)).cell? ⟨w2.heap.size, 0, none⟩ = some (.string ⟨#[40]⟩) := (box2_new w2 (.string ⟨#[40]⟩) (.string ⟨#[44]⟩) 9).2.1
              go_wp2_with fail
              refine hK.out _ _ ⟨n1, n2, n3⟩ (fun hH => ?_)
              clear hK
              refine wpAnyH_take (i := 8) (v := .string (bs J)) rfl (by kernel_rfl) (by kernel_rfl) (by kernel_rfl) (fun _ _ _ h => h) (.inl ⟨by rfl, fun w' hS' => by first | (go_simp; done) | (go_simp; rfl) | (go_simp; intro h; omega) | (go_simp; omega)⟩) hH ?_
              simp only [List.getElem_toArray, List.getElem_cons_succ, List.getElem_cons_zero, Act.put, List.setIfInBounds_toArray, List.set_cons_zero, List.set_cons_succ]
              refine wpAnyH_take (i := 9) (v := .string (bs E)) rfl (by kernel_rfl) (by kernel_rfl) (by kernel_rfl) (fun _ _ _ h => h) (.inl ⟨by rfl, fun w' hS' => by first | (go_simp; done) | (go_simp; rfl) | (go_simp; intro h; omega) | (go_simp; omega)⟩) hH ?_
              simp only [List.getElem_toArray, List.getElem_cons_succ, List.getElem_cons_zero, Act.put, List.setIfInBounds_toArray, List.set_cons_zero, List.set_cons_succ]
              refine wpAnyH_take (i := 10) (v := .string (bs E)) rfl (by kernel_rfl) (by kernel_rfl) (by kernel_rfl) (fun _ _ _ h => h) (.inl ⟨by rfl, fun _ _ => rfl⟩) hH ?_
              simp only [List.getElem_toArray, List.getElem_cons_succ, List.getElem_cons_zero, Act.put, List.setIfInBounds_toArray, List.set_cons_zero, List.set_cons_succ]
              refine wpAnyH_done (by kernel_rfl) ?_ _
              have HE1 := below_then hbn (below_then q2 (below_new w2 (.cells #[.string ⟨#[40]⟩, .string ⟨#[44]⟩] 9)))
              clear hx3 hcl s1 s2 hbn hdr hdn hmin
              go_wp2
              go_roundg (gk - 1)
              case measure => omega
              case rel => exact ⟨k + 1, by omega, by go_num, by rw [HE.out], HE1⟩
          · have hmin : min (k : Int) 1 = 1 := by omega
            have HE0 : Hid (A ++ ([44] ++ T) = E) := by
              show _ = _
              rw [← HE.out, ← HA.out, Htk.out, piece_snoc]
              have hlk : (textsB (b.kids.take k)).length = k := by show (List.map _ _).length = k; rw [List.length_map, List.length_take]; have := Hkl.out; omega
              rw [hlk, if_neg (by omega)]
              simp
            have s1 := bs_add2 (a := [44]) (b := T) (s := ⟨#[44]⟩) rfl (by simp; omega)
            obtain ⟨J, HJ⟩ := hideEx ([44] ++ T)
            rw [HJ.out] at s1 HE0
            have hJl : J.length ≤ 119 := by rw [← HJ.out]; simp; omega
            have s2 := bs_add (a := A) (b := J) (by omega)
            rw [HE0.out] at s2
            clear hk0 hAl hTl hJl
            refine wp_region_held_drew (S := fun w' => w'.cell? ⟨Y, 0, none⟩ = some (.int .i64 kb.kind) ∧ w'.cell? ⟨Y, 1, none⟩ = some (.int .i64 kb.label) ∧ w'.cell? ⟨Y, 2, none⟩ = some (.slice ka kl kc)) (by kernel_rfl) ⟨z1, z2, z3⟩ (fun hH => ?_)
            refine wpAnyH_take (i := 0) (v := .string (bs A)) rfl (by kernel_rfl) (by kernel_rfl) (by kernel_rfl) (fun _ _ _ h => h) (.inl ⟨by rfl, fun _ _ => rfl⟩) hH ?_
            simp only [List.getElem_toArray, List.getElem_cons_succ, List.getElem_cons_zero, Act.put, List.setIfInBounds_toArray, List.set_cons_zero, List.set_cons_succ]
            refine wpAnyH_take (i := 2) (v := .int .i64 (k : Int)) rfl (by kernel_rfl) (by kernel_rfl) (by kernel_rfl) (fun _ _ _ h => h) (.inl ⟨by rfl, fun _ _ => rfl⟩) hH ?_
            simp only [List.getElem_toArray, List.getElem_cons_succ, List.getElem_cons_zero, Act.put, List.setIfInBounds_toArray, List.set_cons_zero, List.set_cons_succ]
            refine wpAnyH_take (i := 3) (v := .int .i64 1) rfl (by kernel_rfl) (by kernel_rfl) (by kernel_rfl) (fun _ _ _ h => h) (.inl ⟨by rfl, fun w' hS' => by first | (go_simp; done) | (go_simp; rfl) | (go_simp; intro h; omega) | (go_simp; omega)⟩) hH ?_
            simp only [List.getElem_toArray, List.getElem_cons_succ, List.getElem_cons_zero, Act.put, List.setIfInBounds_toArray, List.set_cons_zero, List.set_cons_succ]
            refine wpAnyH_take (i := 6) (v := .agg #[.int .i64 kb.kind, .int .i64 kb.label, .slice ka kl kc]) rfl (by kernel_rfl) (by kernel_rfl) (by kernel_rfl) (fun _ _ _ h => h) (.inl ⟨by rfl, fun w' hS' => by obtain ⟨s1, s2, s3⟩ := hS'; go_simp⟩) hH ?_
            simp only [List.getElem_toArray, List.getElem_cons_succ, List.getElem_cons_zero, Act.put, List.setIfInBounds_toArray, List.set_cons_zero, List.set_cons_succ]
            refine wpAnyH_ready (rs := [1, 7]) (by kernel_rfl) (by simp) ?_
            refine (AllReadyH.cons rfl (fun K hK => ?_) (AllReadyH.cons rfl (fun K hK => ?_) AllReadyH.nil))
            · simp only [List.getElem_toArray, List.getElem_cons_succ, List.getElem_cons_zero]
              rw [if_pos (by rfl)]
              go_wp2_with fail
              obtain ⟨_, n1, n2, n3⟩ := hx3.below (hdn)
              refine hK.out _ _ ⟨n1, n2, n3⟩ (fun hH => ?_)
              clear hK
              refine wpAnyH_take (i := 4) (v := .pointer (some ⟨w1.heap.size, 1, none⟩)) rfl (by kernel_rfl) (by kernel_rfl) (by kernel_rfl) (fun _ _ _ h => h) (.inl ⟨by rfl, fun w' hS' => by first | (go_simp; done) | (go_simp; rfl) | (go_simp; intro h; omega) | (go_simp; omega)⟩) hH ?_
              simp only [List.getElem_toArray, List.getElem_cons_succ, List.getElem_cons_zero, Act.put, List.setIfInBounds_toArray, List.set_cons_zero, List.set_cons_succ]
              refine wpAnyH_ready (rs := [5, 7]) (by kernel_rfl) (by simp) ?_
              refine (AllReadyH.cons rfl (fun K hK => ?_) (AllReadyH.cons rfl (fun K hK => ?_) AllReadyH.nil))
              · simp only [List.getElem_toArray, List.getElem_cons_succ, List.getElem_cons_zero]
                rw [if_pos (by rfl)]
                have v1 : (w1.drew.alloc (.cells #[.string ⟨#[40]⟩, .string ⟨#[44]⟩] 9)).cell? ⟨w1.heap.size, 1, none⟩ = some (.string ⟨#[44]⟩) := (box2_new w1.drew (.string ⟨#[40]⟩) (.string ⟨#[44]⟩) 9).2.2
                go_wp2_with fail
                refine hK.out _ _ ⟨n1, n2, n3⟩ (fun hH => ?_)
                clear hK
                refine wpAnyH_ready (rs := [7]) (by kernel_rfl) (by simp) ?_
                refine AllReadyH.cons rfl (fun K hK => ?_) AllReadyH.nil
                simp only [List.getElem_toArray, List.getElem_cons_succ, List.getElem_cons_zero]
                rw [if_pos (by rfl)]
                go_wp2_with (go_at_call 12; refine (hcl _ hdn).mono ?_; rintro e w2 ⟨rfl, b2⟩)
                have q2 := below_then hdn b2
                obtain ⟨_, y1, y2, y3⟩ := hx3.below q2
                refine hK.out _ _ ⟨y1, y2, y3⟩ (fun hH => ?_)
                clear hK
                refine wpAnyH_take (i := 8) (v := .string (bs J)) rfl (by kernel_rfl) (by kernel_rfl) (by kernel_rfl) (fun _ _ _ h => h) (.inl ⟨by rfl, fun w' hS' => by first | (go_simp; done) | (go_simp; rfl) | (go_simp; intro h; omega) | (go_simp; omega)⟩) hH ?_
                simp only [List.getElem_toArray, List.getElem_cons_succ, List.getElem_cons_zero, Act.put, List.setIfInBounds_toArray, List.set_cons_zero, List.set_cons_succ]
                refine wpAnyH_take (i := 9) (v := .string (bs E)) rfl (by kernel_rfl) (by kernel_rfl) (by kernel_rfl) (fun _ _ _ h => h) (.inl ⟨by rfl, fun w' hS' => by first | (go_simp; done) | (go_simp; rfl) | (go_simp; intro h; omega) | (go_simp; omega)⟩) hH ?_
                simp only [List.getElem_toArray, List.getElem_cons_succ, List.getElem_cons_zero, Act.put, List.setIfInBounds_toArray, List.set_cons_zero, List.set_cons_succ]
                refine wpAnyH_take (i := 10) (v := .string (bs E)) rfl (by kernel_rfl) (by kernel_rfl) (by kernel_rfl) (fun _ _ _ h => h) (.inl ⟨by rfl, fun _ _ => rfl⟩) hH ?_
                simp only [List.getElem_toArray, List.getElem_cons_succ, List.getElem_cons_zero, Act.put, List.setIfInBounds_toArray, List.set_cons_zero, List.set_cons_succ]
                refine wpAnyH_done (by kernel_rfl) ?_ _
                have HE1 := below_then hbn (q2)
                clear hx3 hcl s1 s2 hbn hdr hdn hmin
                go_wp2
                go_roundg (gk - 1)
                case measure => omega
                case rel => exact ⟨k + 1, by omega, by go_num, by rw [HE.out], HE1⟩
              · simp only [List.getElem_toArray, List.getElem_cons_succ, List.getElem_cons_zero]
                rw [if_pos (by rfl)]
                go_wp2_with (go_at_call 12; refine (hcl _ hdn).mono ?_; rintro e w2 ⟨rfl, b2⟩)
                have q2 := below_then hdn b2
                obtain ⟨_, y1, y2, y3⟩ := hx3.below q2
                refine hK.out _ _ ⟨y1, y2, y3⟩ (fun hH => ?_)
                clear hK
                refine wpAnyH_ready (rs := [5]) (by kernel_rfl) (by simp) ?_
                refine AllReadyH.cons rfl (fun K hK => ?_) AllReadyH.nil
                simp only [List.getElem_toArray, List.getElem_cons_succ, List.getElem_cons_zero]
                rw [if_pos (by rfl)]
                have v1 : w2.cell? ⟨w1.heap.size, 1, none⟩ = some (.string ⟨#[44]⟩) := ((box2_new w1.drew (.string ⟨#[40]⟩) (.string ⟨#[44]⟩) 9).below b2).2.2
                go_wp2_with fail
                refine hK.out _ _ ⟨y1, y2, y3⟩ (fun hH => ?_)
                clear hK
                refine wpAnyH_take (i := 8) (v := .string (bs J)) rfl (by kernel_rfl) (by kernel_rfl) (by kernel_rfl) (fun _ _ _ h => h) (.inl ⟨by rfl, fun w' hS' => by first | (go_simp; done) | (go_simp; rfl) | (go_simp; intro h; omega) | (go_simp; omega)⟩) hH ?_
                simp only [List.getElem_toArray, List.getElem_cons_succ, List.getElem_cons_zero, Act.put, List.setIfInBounds_toArray, List.set_cons_zero, List.set_cons_succ]
                refine wpAnyH_take (i := 9) (v := .string (bs E)) rfl (by kernel_rfl) (by kernel_rfl) (by kernel_rfl) (fun _ _ _ h => h) (.inl ⟨by rfl, fun w' hS' => by first | (go_simp; done) | (go_simp; rfl) | (go_simp; intro h; omega) | (go_simp; omega)⟩) hH ?_
                simp only [List.getElem_toArray, List.getElem_cons_succ, List.getElem_cons_zero, Act.put, List.setIfInBounds_toArray, List.set_cons_zero, List.set_cons_succ]
                refine wpAnyH_take (i := 10) (v := .string (bs E)) rfl (by kernel_rfl) (by kernel_rfl) (by kernel_rfl) (fun _ _ _ h => h) (.inl ⟨by rfl, fun _ _ => rfl⟩) hH ?_
                simp only [List.getElem_toArray, List.getElem_cons_succ, List.getElem_cons_zero, Act.put, List.setIfInBounds_toArray, List.set_cons_zero, List.set_cons_succ]
                refine wpAnyH_done (by kernel_rfl) ?_ _
                have HE1 := below_then hbn (q2)
                clear hx3 hcl s1 s2 hbn hdr hdn hmin
                go_wp2
                go_roundg (gk - 1)
                case measure => omega
                case rel => exact ⟨k + 1, by omega, by go_num, by rw [HE.out], HE1⟩
            · simp only [List.getElem_toArray, List.getElem_cons_succ, List.getElem_cons_zero]
              rw [if_pos (by rfl)]
              go_wp2_with (go_at_call 12; refine (hcl _ hdr).mono ?_; rintro e w2 ⟨rfl, b2⟩)
              have q2 := below_then hdr b2
              obtain ⟨_, y1, y2, y3⟩ := hx3.below q2
              refine hK.out _ _ ⟨y1, y2, y3⟩ (fun hH => ?_)
              clear hK
              refine wpAnyH_ready (rs := [1]) (by kernel_rfl) (by simp) ?_
              refine AllReadyH.cons rfl (fun K hK => ?_) AllReadyH.nil
              simp only [List.getElem_toArray, List.getElem_cons_succ, List.getElem_cons_zero]
              rw [if_pos (by rfl)]
              go_wp2_with fail
              obtain ⟨_, n1, n2, n3⟩ := hx3.below (below_then q2 (below_new w2 (.cells #[.string ⟨#[40]⟩, .string ⟨#[44]⟩] 9)))
              refine hK.out _ _ ⟨n1, n2, n3⟩ (fun hH => ?_)
              clear hK
              refine wpAnyH_take (i := 4) (v := .pointer (some ⟨w2.heap.size, 1, none⟩)) rfl (by kernel_rfl) (by kernel_rfl) (by kernel_rfl) (fun _ _ _ h => h) (.inl ⟨by rfl, fun w' hS' => by first | (go_simp; done) | (go_simp; rfl) | (go_simp; intro h; omega) | (go_simp; omega)⟩) hH ?_
              simp only [List.getElem_toArray, List.getElem_cons_succ, List.getElem_cons_zero, Act.put, List.setIfInBounds_toArray, List.set_cons_zero, List.set_cons_succ]
              refine wpAnyH_ready (rs := [5]) (by kernel_rfl) (by simp) ?_
              refine AllReadyH.cons rfl (fun K hK => ?_) AllReadyH.nil
              simp only [List.getElem_toArray, List.getElem_cons_succ, List.getElem_cons_zero]
              rw [if_pos (by rfl)]
              have v1 : (w2.alloc (.cells #[.string ⟨#[40]⟩, .string ⟨#[44]⟩] 9)).cell? ⟨w2.heap.size, 1, none⟩ = some (.string ⟨#[44]⟩) := (box2_new w2 (.string ⟨#[40]⟩) (.string ⟨#[44]⟩) 9).2.2
              go_wp2_with fail
              refine hK.out _ _ ⟨n1, n2, n3⟩ (fun hH => ?_)
              clear hK
              refine wpAnyH_take (i := 8) (v := .string (bs J)) rfl (by kernel_rfl) (by kernel_rfl) (by kernel_rfl) (fun _ _ _ h => h) (.inl ⟨by rfl, fun w' hS' => by first | (go_simp; done) | (go_simp; rfl) | (go_simp; intro h; omega) | (go_simp; omega)⟩) hH ?_
              simp only [List.getElem_toArray, List.getElem_cons_succ, List.getElem_cons_zero, Act.put, List.setIfInBounds_toArray, List.set_cons_zero, List.set_cons_succ]
              refine wpAnyH_take (i := 9) (v := .string (bs E)) rfl (by kernel_rfl) (by kernel_rfl) (by kernel_rfl) (fun _ _ _ h => h) (.inl ⟨by rfl, fun w' hS' => by first | (go_simp; done) | (go_simp; rfl) | (go_simp; intro h; omega) | (go_simp; omega)⟩) hH ?_
              simp only [List.getElem_toArray, List.getElem_cons_succ, List.getElem_cons_zero, Act.put, List.setIfInBounds_toArray, List.set_cons_zero, List.set_cons_succ]
              refine wpAnyH_take (i := 10) (v := .string (bs E)) rfl (by kernel_rfl) (by kernel_rfl) (by kernel_rfl) (fun _ _ _ h => h) (.inl ⟨by rfl, fun _ _ => rfl⟩) hH ?_
              simp only [List.getElem_toArray, List.getElem_cons_succ, List.getElem_cons_zero, Act.put, List.setIfInBounds_toArray, List.set_cons_zero, List.set_cons_succ]
              refine wpAnyH_done (by kernel_rfl) ?_ _
              have HE1 := below_then hbn (below_then q2 (below_new w2 (.cells #[.string ⟨#[40]⟩, .string ⟨#[44]⟩] 9)))
              clear hx3 hcl s1 s2 hbn hdr hdn hmin
              go_wp2
              go_roundg (gk - 1)
              case measure => omega
              case rel => exact ⟨k + 1, by omega, by go_num, by rw [HE.out], HE1⟩
        · have hkn : k = n := by omega
          subst hkn
          have s1 := bs_add1 (a := A) (b := [41]) (s := ⟨#[41]⟩) rfl (by simp; omega)
          have HF : Hid (A ++ [41] = TT) := by
            show _ = _
            rw [R.out, ← HA.out, List.take_of_length_le (Nat.le_of_eq Hn.out)]
            rfl
          rw [HF.out] at s1
          have HE1 : Hid (Below w.heap.size w wr) := below_then c hb
          clear hb hAl bA
          go_wp2
          go_ret
          exact ⟨by rw [HTT.out]; rfl, HE1.out⟩
    · have R0 : TT = 38 :: (pieceB 0 (textsB b.kids) ++ [41]) := by have := HT2.out; simpa [signB] using this
      have R : Hid (TT = 38 :: (pieceB 0 (textsB b.kids) ++ [41])) := R0
      have hPl : (pieceB 0 (textsB b.kids)).length ≤ 116 := by rw [R0] at hl; simp at hl; show (pieceB 0 (b.kids.map (textB 41))).length ≤ 116; omega
      have HPl : Hid ((pieceB 0 (textsB b.kids)).length ≤ 116) := hPl
      clear HT2 f3 R0 hPl hl
      go_upto_region 4 with fail
      have bA := below_new w0 (.cells #[.string ⟨#[62]⟩, .string ⟨#[63]⟩, .string ⟨#[38]⟩, .string ⟨#[42]⟩] 9)
      obtain ⟨wa, Ha⟩ : ∃ u, Hid (w0.alloc (.cells #[.string ⟨#[62]⟩, .string ⟨#[63]⟩, .string ⟨#[38]⟩, .string ⟨#[42]⟩] 9) = u) := ⟨_, rfl⟩
      rw [Ha.out] at bA
      rw [Ha.out]
      have hba := hbx.below bA
      clear x0 x1 x2 x3
      obtain ⟨x0, x1, x2, x3⟩ := id hba
      go_upto_region 5 with fail
      clear x0 x1 x2 x3 hba
      go_loopg [3, 32] n (fun gk r3 r32 wr => ∃ k : Nat, k + gk = n ∧ r32 = .int .i64 (k : Int) ∧ r3 = .string (bs (38 :: pieceB 0 (textsB (b.kids.take k)))) ∧ Below w0.heap.size w0 wr)
      case atStart => exact ⟨0, by omega, rfl, rfl, bA⟩
      case round =>
        obtain ⟨k, hkg, rfl, rfl, hb⟩ := hrel
        obtain ⟨A, HA⟩ := hideEx (38 :: pieceB 0 (textsB (b.kids.take k)))
        have hAl : A.length ≤ 117 := by
          rw [← HA.out]
          have h1 := piece_take_len (n := 0) (l := textsB b.kids) k
          have h2 := HPl.out
          have e : (textsB b.kids).take k = textsB (b.kids.take k) := by show (List.map _ _).take k = List.map _ _; rw [List.map_take]
          rw [e] at h1
          show (pieceB 0 (textsB (b.kids.take k))).length + 1 ≤ 117
          omega
        rw [HA.out]
        by_cases hk : k < n
        · have Hkl : Hid (k < b.kids.length) := by show k < b.kids.length; rw [Hn.out]; exact hk
          obtain ⟨bk, off, kv, rfl, hlt, c0, c1, c2, hkid⟩ := (hK.below hb).at Hkl.out
          have Hs : Hid (SaysX (b.kids[k]'Hkl.out)) := HS.out _ (List.getElem_mem _)
          have Htk : Hid (textsB (b.kids.take (k + 1)) = textsB (b.kids.take k) ++ [textB 41 (b.kids[k]'Hkl.out)]) := by
            show List.map _ _ = _
            rw [List.take_succ_eq_append_getElem Hkl.out, List.map_append]
            rfl
          have hTl : (textB 41 (b.kids[k]'Hkl.out)).length ≤ 118 := (HR.out.kid (List.getElem_mem _)).text_len
          obtain ⟨kb, Hkb⟩ : ∃ kb, Hid (b.kids[k]'Hkl.out = kb) := ⟨_, rfl⟩
          rw [Hkb.out] at c0 c1 hkid Hs Htk hTl
          obtain ⟨ka, kl, kc, rfl, _⟩ : ∃ ka kl kc, kv = .slice ka kl kc ∧ True := by obtain ⟨kv', e, hk'⟩ := blockV_iff.1 hkid; obtain ⟨ka, kc, e2, _⟩ := hk'.slice; injection e with e; simp only [Array.mk.injEq, List.cons.injEq, and_true, true_and] at e; exact ⟨ka, _, kc, by rw [e, e2], trivial⟩
          have b3 := below_new wr (.cells #[.int .i64 kb.kind, .int .i64 kb.label, .slice ka kl kc] 24)
          have hx3 := box3_new wr (.int .i64 kb.kind) (.int .i64 kb.label) (.slice ka kl kc) 24
          replace hkid := hkid.below b3
          have hbn := below_then hb b3
          obtain ⟨w1, Hw1⟩ : ∃ w1, Hid (wr.alloc (.cells #[.int .i64 kb.kind, .int .i64 kb.label, .slice ka kl kc] 24) = w1) := ⟨_, rfl⟩
          obtain ⟨Y, HY⟩ : ∃ z, Hid (wr.heap.size = z) := ⟨_, rfl⟩
          rw [Hw1.out] at hx3 hkid hbn
          rw [HY.out] at hx3
          go_upto_region 7 with fail
          rw [Hw1.out, HY.out]
          clear Hw1 c0 c1 c2 b3 hb hlt
          obtain ⟨z0, z1, z2, z3⟩ := id hx3
          obtain ⟨T, HTx⟩ := hideEx (textB 41 kb)
          obtain ⟨E, HE⟩ := hideEx (38 :: pieceB 0 (textsB (b.kids.take (k + 1))))
          have hcl : ∀ w', Below w1.heap.size w1 w' → Calls Tryd.prog 12 #[.agg #[.int .i64 kb.kind, .int .i64 kb.label, .slice ka kl kc]] w' fun e w2 => e = .returned (.string (bs T)) ∧ Below w'.heap.size w' w2 := fun w' hw => by
            have := Hs.out _ w' (hkid.below hw)
            rw [HTx.out] at this
            exact this
          rw [HTx.out] at hTl Htk
          have hdr : Below w1.heap.size w1 w1.drew := (Below.refl _ _).drew
          have hdn := below_then hdr (below_new w1.drew (.cells #[.string ⟨#[40]⟩, .string ⟨#[44]⟩] 9))
          by_cases hk0 : k = 0
          · have hmin : min (k : Int) 1 = 0 := by omega
            have HE0 : Hid (A ++ ([40] ++ T) = E) := by
              show _ = _
              rw [← HE.out, ← HA.out, Htk.out, piece_snoc]
              have hlk : (textsB (b.kids.take k)).length = k := by show (List.map _ _).length = k; rw [List.length_map, List.length_take]; have := Hkl.out; omega
              rw [hlk, if_pos (by omega)]
              simp
            have s1 := bs_add2 (a := [40]) (b := T) (s := ⟨#[40]⟩) rfl (by simp; omega)
            obtain ⟨J, HJ⟩ := hideEx ([40] ++ T)
            rw [HJ.out] at s1 HE0
            have hJl : J.length ≤ 119 := by rw [← HJ.out]; simp; omega
            have s2 := bs_add (a := A) (b := J) (by omega)
            rw [HE0.out] at s2
            clear hk0 hAl hTl hJl
            refine wp_region_held_drew (S := fun w' => w'.cell? ⟨Y, 0, none⟩ = some (.int .i64 kb.kind) ∧ w'.cell? ⟨Y, 1, none⟩ = some (.int .i64 kb.label) ∧ w'.cell? ⟨Y, 2, none⟩ = some (.slice ka kl kc)) (by kernel_rfl) ⟨z1, z2, z3⟩ (fun hH => ?_)
            refine wpAnyH_take (i := 0) (v := .string (bs A)) rfl (by kernel_rfl) (by kernel_rfl) (by kernel_rfl) (fun _ _ _ h => h) (.inl ⟨by rfl, fun _ _ => rfl⟩) hH ?_
            simp only [List.getElem_toArray, List.getElem_cons_succ, List.getElem_cons_zero, Act.put, List.setIfInBounds_toArray, List.set_cons_zero, List.set_cons_succ]
            refine wpAnyH_take (i := 2) (v := .int .i64 (k : Int)) rfl (by kernel_rfl) (by kernel_rfl) (by kernel_rfl) (fun _ _ _ h => h) (.inl ⟨by rfl, fun _ _ => rfl⟩) hH ?_
            simp only [List.getElem_toArray, List.getElem_cons_succ, List.getElem_cons_zero, Act.put, List.setIfInBounds_toArray, List.set_cons_zero, List.set_cons_succ]
            refine wpAnyH_take (i := 3) (v := .int .i64 0) rfl (by kernel_rfl) (by kernel_rfl) (by kernel_rfl) (fun _ _ _ h => h) (.inl ⟨by rfl, fun w' hS' => by first | (go_simp; done) | (go_simp; rfl) | (go_simp; intro h; omega) | (go_simp; omega)⟩) hH ?_
            simp only [List.getElem_toArray, List.getElem_cons_succ, List.getElem_cons_zero, Act.put, List.setIfInBounds_toArray, List.set_cons_zero, List.set_cons_succ]
            refine wpAnyH_take (i := 6) (v := .agg #[.int .i64 kb.kind, .int .i64 kb.label, .slice ka kl kc]) rfl (by kernel_rfl) (by kernel_rfl) (by kernel_rfl) (fun _ _ _ h => h) (.inl ⟨by rfl, fun w' hS' => by obtain ⟨s1, s2, s3⟩ := hS'; go_simp⟩) hH ?_
            simp only [List.getElem_toArray, List.getElem_cons_succ, List.getElem_cons_zero, Act.put, List.setIfInBounds_toArray, List.set_cons_zero, List.set_cons_succ]
            refine wpAnyH_ready (rs := [1, 7]) (by kernel_rfl) (by simp) ?_
            refine (AllReadyH.cons rfl (fun K hK => ?_) (AllReadyH.cons rfl (fun K hK => ?_) AllReadyH.nil))
            · simp only [List.getElem_toArray, List.getElem_cons_succ, List.getElem_cons_zero]
              rw [if_pos (by rfl)]
              go_wp2_with fail
              obtain ⟨_, n1, n2, n3⟩ := hx3.below (hdn)
              refine hK.out _ _ ⟨n1, n2, n3⟩ (fun hH => ?_)
              clear hK
              refine wpAnyH_take (i := 4) (v := .pointer (some ⟨w1.heap.size, 0, none⟩)) rfl (by kernel_rfl) (by kernel_rfl) (by kernel_rfl) (fun _ _ _ h => h) (.inl ⟨by rfl, fun w' hS' => by first | (go_simp; done) | (go_simp; rfl) | (go_simp; intro h; omega) | (go_simp; omega)⟩) hH ?_
              simp only [List.getElem_toArray, List.getElem_cons_succ, List.getElem_cons_zero, Act.put, List.setIfInBounds_toArray, List.set_cons_zero, List.set_cons_succ]
              refine wpAnyH_ready (rs := [5, 7]) (by kernel_rfl) (by simp) ?_
              refine (AllReadyH.cons rfl (fun K hK => ?_) (AllReadyH.cons rfl (fun K hK => ?_) AllReadyH.nil))
              · simp only [List.getElem_toArray, List.getElem_cons_succ, List.getElem_cons_zero]
                rw [if_pos (by rfl)]
                have v1 : (w1.drew.alloc (.cells #[.string ⟨#[40]⟩, .string ⟨#[44]⟩] 9)).cell? ⟨w1.heap.size, 0, none⟩ = some (.string ⟨#[40]⟩) := (box2_new w1.drew (.string ⟨#[40]⟩) (.string ⟨#[44]⟩) 9).2.1
                go_wp2_with fail
                refine hK.out _ _ ⟨n1, n2, n3⟩ (fun hH => ?_)
                clear hK
                refine wpAnyH_ready (rs := [7]) (by kernel_rfl) (by simp) ?_
                refine AllReadyH.cons rfl (fun K hK => ?_) AllReadyH.nil
                simp only [List.getElem_toArray, List.getElem_cons_succ, List.getElem_cons_zero]
                rw [if_pos (by rfl)]
                go_wp2_with (go_at_call 12; refine (hcl _ hdn).mono ?_; rintro e w2 ⟨rfl, b2⟩)
                have q2 := below_then hdn b2
                obtain ⟨_, y1, y2, y3⟩ := hx3.below q2
                refine hK.out _ _ ⟨y1, y2, y3⟩ (fun hH => ?_)
                clear hK
                refine wpAnyH_take (i := 8) (v := .string (bs J)) rfl (by kernel_rfl) (by kernel_rfl) (by kernel_rfl) (fun _ _ _ h => h) (.inl ⟨by rfl, fun w' hS' => by first | (go_simp; done) | (go_simp; rfl) | (go_simp; intro h; omega) | (go_simp; omega)⟩) hH ?_
                simp only [List.getElem_toArray, List.getElem_cons_succ, List.getElem_cons_zero, Act.put, List.setIfInBounds_toArray, List.set_cons_zero, List.set_cons_succ]
                refine wpAnyH_take (i := 9) (v := .string (bs E)) rfl (by kernel_rfl) (by kernel_rfl) (by kernel_rfl) (fun _ _ _ h => h) (.inl ⟨by rfl, fun w' hS' => by first | (go_simp; done) | (go_simp; rfl) | (go_simp; intro h; omega) | (go_simp; omega)⟩) hH ?_
                simp only [List.getElem_toArray, List.getElem_cons_succ, List.getElem_cons_zero, Act.put, List.setIfInBounds_toArray, List.set_cons_zero, List.set_cons_succ]
                refine wpAnyH_take (i := 10) (v := .string (bs E)) rfl (by kernel_rfl) (by kernel_rfl) (by kernel_rfl) (fun _ _ _ h => h) (.inl ⟨by rfl, fun _ _ => rfl⟩) hH ?_
                simp only [List.getElem_toArray, List.getElem_cons_succ, List.getElem_cons_zero, Act.put, List.setIfInBounds_toArray, List.set_cons_zero, List.set_cons_succ]
                refine wpAnyH_done (by kernel_rfl) ?_ _
                have HE1 := below_then hbn (q2)
                clear hx3 hcl s1 s2 hbn hdr hdn hmin
                go_wp2
                go_roundg (gk - 1)
                case measure => omega
                case rel => exact ⟨k + 1, by omega, by go_num, by rw [HE.out], HE1⟩
              · simp only [List.getElem_toArray, List.getElem_cons_succ, List.getElem_cons_zero]
                rw [if_pos (by rfl)]
                go_wp2_with (go_at_call 12; refine (hcl _ hdn).mono ?_; rintro e w2 ⟨rfl, b2⟩)
                have q2 := below_then hdn b2
                obtain ⟨_, y1, y2, y3⟩ := hx3.below q2
                refine hK.out _ _ ⟨y1, y2, y3⟩ (fun hH => ?_)
                clear hK
                refine wpAnyH_ready (rs := [5]) (by kernel_rfl) (by simp) ?_
                refine AllReadyH.cons rfl (fun K hK => ?_) AllReadyH.nil
                simp only [List.getElem_toArray, List.getElem_cons_succ, List.getElem_cons_zero]
                rw [if_pos (by rfl)]
                have v1 : w2.cell? ⟨w1.heap.size, 0, none⟩ = some (.string ⟨#[40]⟩) := ((box2_new w1.drew (.string ⟨#[40]⟩) (.string ⟨#[44]⟩) 9).below b2).2.1
                go_wp2_with fail
                refine hK.out _ _ ⟨y1, y2, y3⟩ (fun hH => ?_)
                clear hK
                refine wpAnyH_take (i := 8) (v := .string (bs J)) rfl (by kernel_rfl) (by kernel_rfl) (by kernel_rfl) (fun _ _ _ h => h) (.inl ⟨by rfl, fun w' hS' => by first | (go_simp; done) | (go_simp; rfl) | (go_simp; intro h; omega) | (go_simp; omega)⟩) hH ?_
                simp only [List.getElem_toArray, List.getElem_cons_succ, List.getElem_cons_zero, Act.put, List.setIfInBounds_toArray, List.set_cons_zero, List.set_cons_succ]
                refine wpAnyH_take (i := 9) (v := .string (bs E)) rfl (by kernel_rfl) (by kernel_rfl) (by kernel_rfl) (fun _ _ _ h => h) (.inl ⟨by rfl, fun w' hS' => by first | (go_simp; done) | (go_simp; rfl) | (go_simp; intro h; omega) | (go_simp; omega)⟩) hH ?_
                simp only [List.getElem_toArray, List.getElem_cons_succ, List.getElem_cons_zero, Act.put, List.setIfInBounds_toArray, List.set_cons_zero, List.set_cons_succ]
                refine wpAnyH_take (i := 10) (v := .string (bs E)) rfl (by kernel_rfl) (by kernel_rfl) (by kernel_rfl) (fun _ _ _ h => h) (.inl ⟨by rfl, fun _ _ => rfl⟩) hH ?_
                simp only [List.getElem_toArray, List.getElem_cons_succ, List.getElem_cons_zero, Act.put, List.setIfInBounds_toArray, List.set_cons_zero, List.set_cons_succ]
                refine wpAnyH_done (by kernel_rfl) ?_ _
                have HE1 := below_then hbn (q2)
                clear hx3 hcl s1 s2 hbn hdr hdn hmin
                go_wp2
                go_roundg (gk - 1)
                case measure => omega
                case rel => exact ⟨k + 1, by omega, by go_num, by rw [HE.out], HE1⟩
            · simp only [List.getElem_toArray, List.getElem_cons_succ, List.getElem_cons_zero]
              rw [if_pos (by rfl)]
              go_wp2_with (go_at_call 12; refine (hcl _ hdr).mono ?_; rintro e w2 ⟨rfl, b2⟩)
              have q2 := below_then hdr b2
              obtain ⟨_, y1, y2, y3⟩ := hx3.below q2
              refine hK.out _ _ ⟨y1, y2, y3⟩ (fun hH => ?_)
              clear hK
              refine wpAnyH_ready (rs := [1]) (by kernel_rfl) (by simp) ?_
              refine AllReadyH.cons rfl (fun K hK => ?_) AllReadyH.nil
              simp only [List.getElem_toArray, List.getElem_cons_succ, List.getElem_cons_zero]
              rw [if_pos (by rfl)]
              go_wp2_with fail
              obtain ⟨_, n1, n2, n3⟩ := hx3.below (below_then q2 (below_new w2 (.cells #[.string ⟨#[40]⟩, .string ⟨#[44]⟩] 9)))
              refine hK.out _ _ ⟨n1, n2, n3⟩ (fun hH => ?_)
              clear hK
              refine wpAnyH_take (i := 4) (v := .pointer (some ⟨w2.heap.size, 0, none⟩)) rfl (by kernel_rfl) (by kernel_rfl) (by kernel_rfl) (fun _ _ _ h => h) (.inl ⟨by rfl, fun w' hS' => by first | (go_simp; done) | (go_simp; rfl) | (go_simp; intro h; omega) | (go_simp; omega)⟩) hH ?_
              simp only [List.getElem_toArray, List.getElem_cons_succ, List.getElem_cons_zero, Act.put, List.setIfInBounds_toArray, List.set_cons_zero, List.set_cons_succ]
              refine wpAnyH_ready (rs := [5]) (by kernel_rfl) (by simp) ?_
              refine AllReadyH.cons rfl (fun K hK => ?_) AllReadyH.nil
              simp only [List.getElem_toArray, List.getElem_cons_succ, List.getElem_cons_zero]
              rw [if_pos (by rfl)]
              have v1 : (w2.alloc (.cells #[.string ⟨#[40]⟩, .string ⟨#[44]⟩] 9)).cell? ⟨w2.heap.size, 0, none⟩ = some (.string ⟨#[40]⟩) := (box2_new w2 (.string ⟨#[40]⟩) (.string ⟨#[44]⟩) 9).2.1
              go_wp2_with fail
              refine hK.out _ _ ⟨n1, n2, n3⟩ (fun hH => ?_)
              clear hK
              refine wpAnyH_take (i := 8) (v := .string (bs J)) rfl (by kernel_rfl) (by kernel_rfl) (by kernel_rfl) (fun _ _ _ h => h) (.inl ⟨by rfl, fun w' hS' => by first | (go_simp; done) | (go_simp; rfl) | (go_simp; intro h; omega) | (go_simp; omega)⟩) hH ?_
              simp only [List.getElem_toArray, List.getElem_cons_succ, List.getElem_cons_zero, Act.put, List.setIfInBounds_toArray, List.set_cons_zero, List.set_cons_succ]
              refine wpAnyH_take (i := 9) (v := .string (bs E)) rfl (by kernel_rfl) (by kernel_rfl) (by kernel_rfl) (fun _ _ _ h => h) (.inl ⟨by rfl, fun w' hS' => by first | (go_simp; done) | (go_simp; rfl) | (go_simp; intro h; omega) | (go_simp; omega)⟩) hH ?_
              simp only [List.getElem_toArray, List.getElem_cons_succ, List.getElem_cons_zero, Act.put, List.setIfInBounds_toArray, List.set_cons_zero, List.set_cons_succ]
              refine wpAnyH_take (i := 10) (v := .string (bs E)) rfl (by kernel_rfl) (by kernel_rfl) (by kernel_rfl) (fun _ _ _ h => h) (.inl ⟨by rfl, fun _ _ => rfl⟩) hH ?_
              simp only [List.getElem_toArray, List.getElem_cons_succ, List.getElem_cons_zero, Act.put, List.setIfInBounds_toArray, List.set_cons_zero, List.set_cons_succ]
              refine wpAnyH_done (by kernel_rfl) ?_ _
              have HE1 := below_then hbn (below_then q2 (below_new w2 (.cells #[.string ⟨#[40]⟩, .string ⟨#[44]⟩] 9)))
              clear hx3 hcl s1 s2 hbn hdr hdn hmin
              go_wp2
              go_roundg (gk - 1)
              case measure => omega
              case rel => exact ⟨k + 1, by omega, by go_num, by rw [HE.out], HE1⟩
          · have hmin : min (k : Int) 1 = 1 := by omega
            have HE0 : Hid (A ++ ([44] ++ T) = E) := by
              show _ = _
              rw [← HE.out, ← HA.out, Htk.out, piece_snoc]
              have hlk : (textsB (b.kids.take k)).length = k := by show (List.map _ _).length = k; rw [List.length_map, List.length_take]; have := Hkl.out; omega
              rw [hlk, if_neg (by omega)]
              simp
            have s1 := bs_add2 (a := [44]) (b := T) (s := ⟨#[44]⟩) rfl (by simp; omega)
            obtain ⟨J, HJ⟩ := hideEx ([44] ++ T)
            rw [HJ.out] at s1 HE0
            have hJl : J.length ≤ 119 := by rw [← HJ.out]; simp; omega
            have s2 := bs_add (a := A) (b := J) (by omega)
            rw [HE0.out] at s2
            clear hk0 hAl hTl hJl
            refine wp_region_held_drew (S := fun w' => w'.cell? ⟨Y, 0, none⟩ = some (.int .i64 kb.kind) ∧ w'.cell? ⟨Y, 1, none⟩ = some (.int .i64 kb.label) ∧ w'.cell? ⟨Y, 2, none⟩ = some (.slice ka kl kc)) (by kernel_rfl) ⟨z1, z2, z3⟩ (fun hH => ?_)
            refine wpAnyH_take (i := 0) (v := .string (bs A)) rfl (by kernel_rfl) (by kernel_rfl) (by kernel_rfl) (fun _ _ _ h => h) (.inl ⟨by rfl, fun _ _ => rfl⟩) hH ?_
            simp only [List.getElem_toArray, List.getElem_cons_succ, List.getElem_cons_zero, Act.put, List.setIfInBounds_toArray, List.set_cons_zero, List.set_cons_succ]
            refine wpAnyH_take (i := 2) (v := .int .i64 (k : Int)) rfl (by kernel_rfl) (by kernel_rfl) (by kernel_rfl) (fun _ _ _ h => h) (.inl ⟨by rfl, fun _ _ => rfl⟩) hH ?_
            simp only [List.getElem_toArray, List.getElem_cons_succ, List.getElem_cons_zero, Act.put, List.setIfInBounds_toArray, List.set_cons_zero, List.set_cons_succ]
            refine wpAnyH_take (i := 3) (v := .int .i64 1) rfl (by kernel_rfl) (by kernel_rfl) (by kernel_rfl) (fun _ _ _ h => h) (.inl ⟨by rfl, fun w' hS' => by first | (go_simp; done) | (go_simp; rfl) | (go_simp; intro h; omega) | (go_simp; omega)⟩) hH ?_
            simp only [List.getElem_toArray, List.getElem_cons_succ, List.getElem_cons_zero, Act.put, List.setIfInBounds_toArray, List.set_cons_zero, List.set_cons_succ]
            refine wpAnyH_take (i := 6) (v := .agg #[.int .i64 kb.kind, .int .i64 kb.label, .slice ka kl kc]) rfl (by kernel_rfl) (by kernel_rfl) (by kernel_rfl) (fun _ _ _ h => h) (.inl ⟨by rfl, fun w' hS' => by obtain ⟨s1, s2, s3⟩ := hS'; go_simp⟩) hH ?_
            simp only [List.getElem_toArray, List.getElem_cons_succ, List.getElem_cons_zero, Act.put, List.setIfInBounds_toArray, List.set_cons_zero, List.set_cons_succ]
            refine wpAnyH_ready (rs := [1, 7]) (by kernel_rfl) (by simp) ?_
            refine (AllReadyH.cons rfl (fun K hK => ?_) (AllReadyH.cons rfl (fun K hK => ?_) AllReadyH.nil))
            · simp only [List.getElem_toArray, List.getElem_cons_succ, List.getElem_cons_zero]
              rw [if_pos (by rfl)]
              go_wp2_with fail
              obtain ⟨_, n1, n2, n3⟩ := hx3.below (hdn)
              refine hK.out _ _ ⟨n1, n2, n3⟩ (fun hH => ?_)
              clear hK
              refine wpAnyH_take (i := 4) (v := .pointer (some ⟨w1.heap.size, 1, none⟩)) rfl (by kernel_rfl) (by kernel_rfl) (by kernel_rfl) (fun _ _ _ h => h) (.inl ⟨by rfl, fun w' hS' => by first | (go_simp; done) | (go_simp; rfl) | (go_simp; intro h; omega) | (go_simp; omega)⟩) hH ?_
              simp only [List.getElem_toArray, List.getElem_cons_succ, List.getElem_cons_zero, Act.put, List.setIfInBounds_toArray, List.set_cons_zero, List.set_cons_succ]
              refine wpAnyH_ready (rs := [5, 7]) (by kernel_rfl) (by simp) ?_
              refine (AllReadyH.cons rfl (fun K hK => ?_) (AllReadyH.cons rfl (fun K hK => ?_) AllReadyH.nil))
              · simp only [List.getElem_toArray, List.getElem_cons_succ, List.getElem_cons_zero]
                rw [if_pos (by rfl)]
                have v1 : (w1.drew.alloc (.cells #[.string ⟨#[40]⟩, .string ⟨#[44]⟩] 9)).cell? ⟨w1.heap.size, 1, none⟩ = some (.string ⟨#[44]⟩) := (box2_new w1.drew (.string ⟨#[40]⟩) (.string ⟨#[44]⟩) 9).2.2
                go_wp2_with fail
                refine hK.out _ _ ⟨n1, n2, n3⟩ (fun hH => ?_)
                clear hK
                refine wpAnyH_ready (rs := [7]) (by kernel_rfl) (by simp) ?_
                refine AllReadyH.cons rfl (fun K hK => ?_) AllReadyH.nil
                simp only [List.getElem_toArray, List.getElem_cons_succ, List.getElem_cons_zero]
                rw [if_pos (by rfl)]
                go_wp2_with (go_at_call 12; refine (hcl _ hdn).mono ?_; rintro e w2 ⟨rfl, b2⟩)
                have q2 := below_then hdn b2
                obtain ⟨_, y1, y2, y3⟩ := hx3.below q2
                refine hK.out _ _ ⟨y1, y2, y3⟩ (fun hH => ?_)
                clear hK
                refine wpAnyH_take (i := 8) (v := .string (bs J)) rfl (by kernel_rfl) (by kernel_rfl) (by kernel_rfl) (fun _ _ _ h => h) (.inl ⟨by rfl, fun w' hS' => by first | (go_simp; done) | (go_simp; rfl) | (go_simp; intro h; omega) | (go_simp; omega)⟩) hH ?_
                simp only [List.getElem_toArray, List.getElem_cons_succ, List.getElem_cons_zero, Act.put, List.setIfInBounds_toArray, List.set_cons_zero, List.set_cons_succ]
                refine wpAnyH_take (i := 9) (v := .string (bs E)) rfl (by kernel_rfl) (by kernel_rfl) (by kernel_rfl) (fun _ _ _ h => h) (.inl ⟨by rfl, fun w' hS' => by first | (go_simp; done) | (go_simp; rfl) | (go_simp; intro h; omega) | (go_simp; omega)⟩) hH ?_
                simp only [List.getElem_toArray, List.getElem_cons_succ, List.getElem_cons_zero, Act.put, List.setIfInBounds_toArray, List.set_cons_zero, List.set_cons_succ]
                refine wpAnyH_take (i := 10) (v := .string (bs E)) rfl (by kernel_rfl) (by kernel_rfl) (by kernel_rfl) (fun _ _ _ h => h) (.inl ⟨by rfl, fun _ _ => rfl⟩) hH ?_
                simp only [List.getElem_toArray, List.getElem_cons_succ, List.getElem_cons_zero, Act.put, List.setIfInBounds_toArray, List.set_cons_zero, List.set_cons_succ]
                refine wpAnyH_done (by kernel_rfl) ?_ _
                have HE1 := below_then hbn (q2)
                clear hx3 hcl s1 s2 hbn hdr hdn hmin
                go_wp2
                go_roundg (gk - 1)
                case measure => omega
                case rel => exact ⟨k + 1, by omega, by go_num, by rw [HE.out], HE1⟩
              · simp only [List.getElem_toArray, List.getElem_cons_succ, List.getElem_cons_zero]
                rw [if_pos (by rfl)]
                go_wp2_with (go_at_call 12; refine (hcl _ hdn).mono ?_; rintro e w2 ⟨rfl, b2⟩)
                have q2 := below_then hdn b2
                obtain ⟨_, y1, y2, y3⟩ := hx3.below q2
                refine hK.out _ _ ⟨y1, y2, y3⟩ (fun hH => ?_)
                clear hK
                refine wpAnyH_ready (rs := [5]) (by kernel_rfl) (by simp) ?_
                refine AllReadyH.cons rfl (fun K hK => ?_) AllReadyH.nil
                simp only [List.getElem_toArray, List.getElem_cons_succ, List.getElem_cons_zero]
                rw [if_pos (by rfl)]
                have v1 : w2.cell? ⟨w1.heap.size, 1, none⟩ = some (.string ⟨#[44]⟩) := ((box2_new w1.drew (.string ⟨#[40]⟩) (.string ⟨#[44]⟩) 9).below b2).2.2
                go_wp2_with fail
                refine hK.out _ _ ⟨y1, y2, y3⟩ (fun hH => ?_)
                clear hK
                refine wpAnyH_take (i := 8) (v := .string (bs J)) rfl (by kernel_rfl) (by kernel_rfl) (by kernel_rfl) (fun _ _ _ h => h) (.inl ⟨by rfl, fun w' hS' => by first | (go_simp; done) | (go_simp; rfl) | (go_simp; intro h; omega) | (go_simp; omega)⟩) hH ?_
                simp only [List.getElem_toArray, List.getElem_cons_succ, List.getElem_cons_zero, Act.put, List.setIfInBounds_toArray, List.set_cons_zero, List.set_cons_succ]
                refine wpAnyH_take (i := 9) (v := .string (bs E)) rfl (by kernel_rfl) (by kernel_rfl) (by kernel_rfl) (fun _ _ _ h => h) (.inl ⟨by rfl, fun w' hS' => by first | (go_simp; done) | (go_simp; rfl) | (go_simp; intro h; omega) | (go_simp; omega)⟩) hH ?_
                simp only [List.getElem_toArray, List.getElem_cons_succ, List.getElem_cons_zero, Act.put, List.setIfInBounds_toArray, List.set_cons_zero, List.set_cons_succ]
                refine wpAnyH_take (i := 10) (v := .string (bs E)) rfl (by kernel_rfl) (by kernel_rfl) (by kernel_rfl) (fun _ _ _ h => h) (.inl ⟨by rfl, fun _ _ => rfl⟩) hH ?_
                simp only [List.getElem_toArray, List.getElem_cons_succ, List.getElem_cons_zero, Act.put, List.setIfInBounds_toArray, List.set_cons_zero, List.set_cons_succ]
                refine wpAnyH_done (by kernel_rfl) ?_ _
                have HE1 := below_then hbn (q2)
                clear hx3 hcl s1 s2 hbn hdr hdn hmin
                go_wp2
                go_roundg (gk - 1)
                case measure => omega
                case rel => exact ⟨k + 1, by omega, by go_num, by rw [HE.out], HE1⟩
            · simp only [List.getElem_toArray, List.getElem_cons_succ, List.getElem_cons_zero]
              rw [if_pos (by rfl)]
              go_wp2_with (go_at_call 12; refine (hcl _ hdr).mono ?_; rintro e w2 ⟨rfl, b2⟩)
              have q2 := below_then hdr b2
              obtain ⟨_, y1, y2, y3⟩ := hx3.below q2
              refine hK.out _ _ ⟨y1, y2, y3⟩ (fun hH => ?_)
              clear hK
              refine wpAnyH_ready (rs := [1]) (by kernel_rfl) (by simp) ?_
              refine AllReadyH.cons rfl (fun K hK => ?_) AllReadyH.nil
              simp only [List.getElem_toArray, List.getElem_cons_succ, List.getElem_cons_zero]
              rw [if_pos (by rfl)]
              go_wp2_with fail
              obtain ⟨_, n1, n2, n3⟩ := hx3.below (below_then q2 (below_new w2 (.cells #[.string ⟨#[40]⟩, .string ⟨#[44]⟩] 9)))
              refine hK.out _ _ ⟨n1, n2, n3⟩ (fun hH => ?_)
              clear hK
              refine wpAnyH_take (i := 4) (v := .pointer (some ⟨w2.heap.size, 1, none⟩)) rfl (by kernel_rfl) (by kernel_rfl) (by kernel_rfl) (fun _ _ _ h => h) (.inl ⟨by rfl, fun w' hS' => by first | (go_simp; done) | (go_simp; rfl) | (go_simp; intro h; omega) | (go_simp; omega)⟩) hH ?_
              simp only [List.getElem_toArray, List.getElem_cons_succ, List.getElem_cons_zero, Act.put, List.setIfInBounds_toArray, List.set_cons_zero, List.set_cons_succ]
              refine wpAnyH_ready (rs := [5]) (by kernel_rfl) (by simp) ?_
              refine AllReadyH.cons rfl (fun K hK => ?_) AllReadyH.nil
              simp only [List.getElem_toArray, List.getElem_cons_succ, List.getElem_cons_zero]
              rw [if_pos (by rfl)]
              have v1 : (w2.alloc (.cells #[.string ⟨#[40]⟩, .string ⟨#[44]⟩] 9)).cell? ⟨w2.heap.size, 1, none⟩ = some (.string ⟨#[44]⟩) := (box2_new w2 (.string ⟨#[40]⟩) (.string ⟨#[44]⟩) 9).2.2
              go_wp2_with fail
              refine hK.out _ _ ⟨n1, n2, n3⟩ (fun hH => ?_)
              clear hK
              refine wpAnyH_take (i := 8) (v := .string (bs J)) rfl (by kernel_rfl) (by kernel_rfl) (by kernel_rfl) (fun _ _ _ h => h) (.inl ⟨by rfl, fun w' hS' => by first | (go_simp; done) | (go_simp; rfl) | (go_simp; intro h; omega) | (go_simp; omega)⟩) hH ?_
              simp only [List.getElem_toArray, List.getElem_cons_succ, List.getElem_cons_zero, Act.put, List.setIfInBounds_toArray, List.set_cons_zero, List.set_cons_succ]
              refine wpAnyH_take (i := 9) (v := .string (bs E)) rfl (by kernel_rfl) (by kernel_rfl) (by kernel_rfl) (fun _ _ _ h => h) (.inl ⟨by rfl, fun w' hS' => by first | (go_simp; done) | (go_simp; rfl) | (go_simp; intro h; omega) | (go_simp; omega)⟩) hH ?_
              simp only [List.getElem_toArray, List.getElem_cons_succ, List.getElem_cons_zero, Act.put, List.setIfInBounds_toArray, List.set_cons_zero, List.set_cons_succ]
              refine wpAnyH_take (i := 10) (v := .string (bs E)) rfl (by kernel_rfl) (by kernel_rfl) (by kernel_rfl) (fun _ _ _ h => h) (.inl ⟨by rfl, fun _ _ => rfl⟩) hH ?_
              simp only [List.getElem_toArray, List.getElem_cons_succ, List.getElem_cons_zero, Act.put, List.setIfInBounds_toArray, List.set_cons_zero, List.set_cons_succ]
              refine wpAnyH_done (by kernel_rfl) ?_ _
              have HE1 := below_then hbn (below_then q2 (below_new w2 (.cells #[.string ⟨#[40]⟩, .string ⟨#[44]⟩] 9)))
              clear hx3 hcl s1 s2 hbn hdr hdn hmin
              go_wp2
              go_roundg (gk - 1)
              case measure => omega
              case rel => exact ⟨k + 1, by omega, by go_num, by rw [HE.out], HE1⟩
        · have hkn : k = n := by omega
          subst hkn
          have s1 := bs_add1 (a := A) (b := [41]) (s := ⟨#[41]⟩) rfl (by simp; omega)
          have HF : Hid (A ++ [41] = TT) := by
            show _ = _
            rw [R.out, ← HA.out, List.take_of_length_le (Nat.le_of_eq Hn.out)]
            rfl
          rw [HF.out] at s1
          have HE1 : Hid (Below w.heap.size w wr) := below_then c hb
          clear hb hAl bA
          go_wp2
          go_ret
          exact ⟨by rw [HTT.out]; rfl, HE1.out⟩
    · have R0 : TT = 42 :: (pieceB 0 (textsB b.kids) ++ [41]) := by have := HT2.out; simpa [signB] using this
      have R : Hid (TT = 42 :: (pieceB 0 (textsB b.kids) ++ [41])) := R0
      have hPl : (pieceB 0 (textsB b.kids)).length ≤ 116 := by rw [R0] at hl; simp at hl; show (pieceB 0 (b.kids.map (textB 41))).length ≤ 116; omega
      have HPl : Hid ((pieceB 0 (textsB b.kids)).length ≤ 116) := hPl
      clear HT2 f3 R0 hPl hl
      go_upto_region 4 with fail
      have bA := below_new w0 (.cells #[.string ⟨#[62]⟩, .string ⟨#[63]⟩, .string ⟨#[38]⟩, .string ⟨#[42]⟩] 9)
      obtain ⟨wa, Ha⟩ : ∃ u, Hid (w0.alloc (.cells #[.string ⟨#[62]⟩, .string ⟨#[63]⟩, .string ⟨#[38]⟩, .string ⟨#[42]⟩] 9) = u) := ⟨_, rfl⟩
      rw [Ha.out] at bA
      rw [Ha.out]
      have hba := hbx.below bA
      clear x0 x1 x2 x3
      obtain ⟨x0, x1, x2, x3⟩ := id hba
      go_upto_region 5 with fail
      clear x0 x1 x2 x3 hba
      go_loopg [3, 32] n (fun gk r3 r32 wr => ∃ k : Nat, k + gk = n ∧ r32 = .int .i64 (k : Int) ∧ r3 = .string (bs (42 :: pieceB 0 (textsB (b.kids.take k)))) ∧ Below w0.heap.size w0 wr)
      case atStart => exact ⟨0, by omega, rfl, rfl, bA⟩
      case round =>
        obtain ⟨k, hkg, rfl, rfl, hb⟩ := hrel
        obtain ⟨A, HA⟩ := hideEx (42 :: pieceB 0 (textsB (b.kids.take k)))
        have hAl : A.length ≤ 117 := by
          rw [← HA.out]
          have h1 := piece_take_len (n := 0) (l := textsB b.kids) k
          have h2 := HPl.out
          have e : (textsB b.kids).take k = textsB (b.kids.take k) := by show (List.map _ _).take k = List.map _ _; rw [List.map_take]
          rw [e] at h1
          show (pieceB 0 (textsB (b.kids.take k))).length + 1 ≤ 117
          omega
        rw [HA.out]
        by_cases hk : k < n
        · have Hkl : Hid (k < b.kids.length) := by show k < b.kids.length; rw [Hn.out]; exact hk
          obtain ⟨bk, off, kv, rfl, hlt, c0, c1, c2, hkid⟩ := (hK.below hb).at Hkl.out
          have Hs : Hid (SaysX (b.kids[k]'Hkl.out)) := HS.out _ (List.getElem_mem _)
          have Htk : Hid (textsB (b.kids.take (k + 1)) = textsB (b.kids.take k) ++ [textB 41 (b.kids[k]'Hkl.out)]) := by
            show List.map _ _ = _
            rw [List.take_succ_eq_append_getElem Hkl.out, List.map_append]
            rfl
          have hTl : (textB 41 (b.kids[k]'Hkl.out)).length ≤ 118 := (HR.out.kid (List.getElem_mem _)).text_len
          obtain ⟨kb, Hkb⟩ : ∃ kb, Hid (b.kids[k]'Hkl.out = kb) := ⟨_, rfl⟩
          rw [Hkb.out] at c0 c1 hkid Hs Htk hTl
          obtain ⟨ka, kl, kc, rfl, _⟩ : ∃ ka kl kc, kv = .slice ka kl kc ∧ True := by obtain ⟨kv', e, hk'⟩ := blockV_iff.1 hkid; obtain ⟨ka, kc, e2, _⟩ := hk'.slice; injection e with e; simp only [Array.mk.injEq, List.cons.injEq, and_true, true_and] at e; exact ⟨ka, _, kc, by rw [e, e2], trivial⟩
          have b3 := below_new wr (.cells #[.int .i64 kb.kind, .int .i64 kb.label, .slice ka kl kc] 24)
          have hx3 := box3_new wr (.int .i64 kb.kind) (.int .i64 kb.label) (.slice ka kl kc) 24
          replace hkid := hkid.below b3
          have hbn := below_then hb b3
          obtain ⟨w1, Hw1⟩ : ∃ w1, Hid (wr.alloc (.cells #[.int .i64 kb.kind, .int .i64 kb.label, .slice ka kl kc] 24) = w1) := ⟨_, rfl⟩
          obtain ⟨Y, HY⟩ : ∃ z, Hid (wr.heap.size = z) := ⟨_, rfl⟩
          rw [Hw1.out] at hx3 hkid hbn
          rw [HY.out] at hx3
          go_upto_region 7 with fail
          rw [Hw1.out, HY.out]
          clear Hw1 c0 c1 c2 b3 hb hlt
          obtain ⟨z0, z1, z2, z3⟩ := id hx3
          obtain ⟨T, HTx⟩ := hideEx (textB 41 kb)
          obtain ⟨E, HE⟩ := hideEx (42 :: pieceB 0 (textsB (b.kids.take (k + 1))))
          have hcl : ∀ w', Below w1.heap.size w1 w' → Calls Tryd.prog 12 #[.agg #[.int .i64 kb.kind, .int .i64 kb.label, .slice ka kl kc]] w' fun e w2 => e = .returned (.string (bs T)) ∧ Below w'.heap.size w' w2 := fun w' hw => by
            have := Hs.out _ w' (hkid.below hw)
            rw [HTx.out] at this
            exact this
          rw [HTx.out] at hTl Htk
          have hdr : Below w1.heap.size w1 w1.drew := (Below.refl _ _).drew
          have hdn := below_then hdr (below_new w1.drew (.cells #[.string ⟨#[40]⟩, .string ⟨#[44]⟩] 9))
          by_cases hk0 : k = 0
          · have hmin : min (k : Int) 1 = 0 := by omega
            have HE0 : Hid (A ++ ([40] ++ T) = E) := by
              show _ = _
              rw [← HE.out, ← HA.out, Htk.out, piece_snoc]
              have hlk : (textsB (b.kids.take k)).length = k := by show (List.map _ _).length = k; rw [List.length_map, List.length_take]; have := Hkl.out; omega
              rw [hlk, if_pos (by omega)]
              simp
            have s1 := bs_add2 (a := [40]) (b := T) (s := ⟨#[40]⟩) rfl (by simp; omega)
            obtain ⟨J, HJ⟩ := hideEx ([40] ++ T)
            rw [HJ.out] at s1 HE0
            have hJl : J.length ≤ 119 := by rw [← HJ.out]; simp; omega
            have s2 := bs_add (a := A) (b := J) (by omega)
            rw [HE0.out] at s2
            clear hk0 hAl hTl hJl
            refine wp_region_held_drew (S := fun w' => w'.cell? ⟨Y, 0, none⟩ = some (.int .i64 kb.kind) ∧ w'.cell? ⟨Y, 1, none⟩ = some (.int .i64 kb.label) ∧ w'.cell? ⟨Y, 2, none⟩ = some (.slice ka kl kc)) (by kernel_rfl) ⟨z1, z2, z3⟩ (fun hH => ?_)
            refine wpAnyH_take (i := 0) (v := .string (bs A)) rfl (by kernel_rfl) (by kernel_rfl) (by kernel_rfl) (fun _ _ _ h => h) (.inl ⟨by rfl, fun _ _ => rfl⟩) hH ?_
            simp only [List.getElem_toArray, List.getElem_cons_succ, List.getElem_cons_zero, Act.put, List.setIfInBounds_toArray, List.set_cons_zero, List.set_cons_succ]
            refine wpAnyH_take (i := 2) (v := .int .i64 (k : Int)) rfl (by kernel_rfl) (by kernel_rfl) (by kernel_rfl) (fun _ _ _ h => h) (.inl ⟨by rfl, fun _ _ => rfl⟩) hH ?_
            simp only [List.getElem_toArray, List.getElem_cons_succ, List.getElem_cons_zero, Act.put, List.setIfInBounds_toArray, List.set_cons_zero, List.set_cons_succ]
            refine wpAnyH_take (i := 3) (v := .int .i64 0) rfl (by kernel_rfl) (by kernel_rfl) (by kernel_rfl) (fun _ _ _ h => h) (.inl ⟨by rfl, fun w' hS' => by first | (go_simp; done) | (go_simp; rfl) | (go_simp; intro h; omega) | (go_simp; omega)⟩) hH ?_
            simp only [List.getElem_toArray, List.getElem_cons_succ, List.getElem_cons_zero, Act.put, List.setIfInBounds_toArray, List.set_cons_zero, List.set_cons_succ]
            refine wpAnyH_take (i := 6) (v := .agg #[.int .i64 kb.kind, .int .i64 kb.label, .slice ka kl kc]) rfl (by kernel_rfl) (by kernel_rfl) (by kernel_rfl) (fun _ _ _ h => h) (.inl ⟨by rfl, fun w' hS' => by obtain ⟨s1, s2, s3⟩ := hS'; go_simp⟩) hH ?_
            simp only [List.getElem_toArray, List.getElem_cons_succ, List.getElem_cons_zero, Act.put, List.setIfInBounds_toArray, List.set_cons_zero, List.set_cons_succ]
            refine wpAnyH_ready (rs := [1, 7]) (by kernel_rfl) (by simp) ?_
            refine (AllReadyH.cons rfl (fun K hK => ?_) (AllReadyH.cons rfl (fun K hK => ?_) AllReadyH.nil))
            · simp only [List.getElem_toArray, List.getElem_cons_succ, List.getElem_cons_zero]
              rw [if_pos (by rfl)]
              go_wp2_with fail
              obtain ⟨_, n1, n2, n3⟩ := hx3.below (hdn)
              refine hK.out _ _ ⟨n1, n2, n3⟩ (fun hH => ?_)
              clear hK
              refine wpAnyH_take (i := 4) (v := .pointer (some ⟨w1.heap.size, 0, none⟩)) rfl (by kernel_rfl) (by kernel_rfl) (by kernel_rfl) (fun _ _ _ h => h) (.inl ⟨by rfl, fun w' hS' => by first | (go_simp; done) | (go_simp; rfl) | (go_simp; intro h; omega) | (go_simp; omega)⟩) hH ?_
              simp only [List.getElem_toArray, List.getElem_cons_succ, List.getElem_cons_zero, Act.put, List.setIfInBounds_toArray, List.set_cons_zero, List.set_cons_succ]
              refine wpAnyH_ready (rs := [5, 7]) (by kernel_rfl) (by simp) ?_
              refine (AllReadyH.cons rfl (fun K hK => ?_) (AllReadyH.cons rfl (fun K hK => ?_) AllReadyH.nil))
              · simp only [List.getElem_toArray, List.getElem_cons_succ, List.getElem_cons_zero]
                rw [if_pos (by rfl)]
                have v1 : (w1.drew.alloc (.cells #[.string ⟨#[40]⟩, .string ⟨#[44]⟩] 9)).cell? ⟨w1.heap.size, 0, none⟩ = some (.string ⟨#[40]⟩) := (box2_new w1.drew (.string ⟨#[40]⟩) (.string ⟨#[44]⟩) 9).2.1
                go_wp2_with fail
                refine hK.out _ _ ⟨n1, n2, n3⟩ (fun hH => ?_)
                clear hK
                refine wpAnyH_ready (rs := [7]) (by kernel_rfl) (by simp) ?_
                refine AllReadyH.cons rfl (fun K hK => ?_) AllReadyH.nil
                simp only [List.getElem_toArray, List.getElem_cons_succ, List.getElem_cons_zero]
                rw [if_pos (by rfl)]
                go_wp2_with (go_at_call 12; refine (hcl _ hdn).mono ?_; rintro e w2 ⟨rfl, b2⟩)
                have q2 := below_then hdn b2
                obtain ⟨_, y1, y2, y3⟩ := hx3.below q2
                refine hK.out _ _ ⟨y1, y2, y3⟩ (fun hH => ?_)
                clear hK
                refine wpAnyH_take (i := 8) (v := .string (bs J)) rfl (by kernel_rfl) (by kernel_rfl) (by kernel_rfl) (fun _ _ _ h => h) (.inl ⟨by rfl, fun w' hS' => by first | (go_simp; done) | (go_simp; rfl) | (go_simp; intro h; omega) | (go_simp; omega)⟩) hH ?_
                simp only [List.getElem_toArray, List.getElem_cons_succ, List.getElem_cons_zero, Act.put, List.setIfInBounds_toArray, List.set_cons_zero, List.set_cons_succ]
                refine wpAnyH_take (i := 9) (v := .string (bs E)) rfl (by kernel_rfl) (by kernel_rfl) (by kernel_rfl) (fun _ _ _ h => h) (.inl ⟨by rfl, fun w' hS' => by first | (go_simp; done) | (go_simp; rfl) | (go_simp; intro h; omega) | (go_simp; omega)⟩) hH ?_
                simp only [List.getElem_toArray, List.getElem_cons_succ, List.getElem_cons_zero, Act.put, List.setIfInBounds_toArray, List.set_cons_zero, List.set_cons_succ]
                refine wpAnyH_take (i := 10) (v := .string (bs E)) rfl (by kernel_rfl) (by kernel_rfl) (by kernel_rfl) (fun _ _ _ h => h) (.inl ⟨by rfl, fun _ _ => rfl⟩) hH ?_
                simp only [List.getElem_toArray, List.getElem_cons_succ, List.getElem_cons_zero, Act.put, List.setIfInBounds_toArray, List.set_cons_zero, List.set_cons_succ]
                refine wpAnyH_done (by kernel_rfl) ?_ _
                have HE1 := below_then hbn (q2)
                clear hx3 hcl s1 s2 hbn hdr hdn hmin
                go_wp2
                go_roundg (gk - 1)
                case measure => omega
                case rel => exact ⟨k + 1, by omega, by go_num, by rw [HE.out], HE1⟩
              · simp only [List.getElem_toArray, List.getElem_cons_succ, List.getElem_cons_zero]
                rw [if_pos (by rfl)]
                go_wp2_with (go_at_call 12; refine (hcl _ hdn).mono ?_; rintro e w2 ⟨rfl, b2⟩)
                have q2 := below_then hdn b2
                obtain ⟨_, y1, y2, y3⟩ := hx3.below q2
                refine hK.out _ _ ⟨y1, y2, y3⟩ (fun hH => ?_)
                clear hK
                refine wpAnyH_ready (rs := [5]) (by kernel_rfl) (by simp) ?_
                refine AllReadyH.cons rfl (fun K hK => ?_) AllReadyH.nil
                simp only [List.getElem_toArray, List.getElem_cons_succ, List.getElem_cons_zero]
                rw [if_pos (by rfl)]
                have v1 : w2.cell? ⟨w1.heap.size, 0, none⟩ = some (.string ⟨#[40]⟩) := ((box2_new w1.drew (.string ⟨#[40]⟩) (.string ⟨#[44]⟩) 9).below b2).2.1
                go_wp2_with fail
                refine hK.out _ _ ⟨y1, y2, y3⟩ (fun hH => ?_)
                clear hK
                refine wpAnyH_take (i := 8) (v := .string (bs J)) rfl (by kernel_rfl) (by kernel_rfl) (by kernel_rfl) (fun _ _ _ h => h) (.inl ⟨by rfl, fun w' hS' => by first | (go_simp; done) | (go_simp; rfl) | (go_simp; intro h; omega) | (go_simp; omega)⟩) hH ?_
                simp only [List.getElem_toArray, List.getElem_cons_succ, List.getElem_cons_zero, Act.put, List.setIfInBounds_toArray, List.set_cons_zero, List.set_cons_succ]
                refine wpAnyH_take (i := 9) (v := .string (bs E)) rfl (by kernel_rfl) (by kernel_rfl) (by kernel_rfl) (fun _ _ _ h => h) (.inl ⟨by rfl, fun w' hS' => by first | (go_simp; done) | (go_simp; rfl) | (go_simp; intro h; omega) | (go_simp; omega)⟩) hH ?_
                simp only [List.getElem_toArray, List.getElem_cons_succ, List.getElem_cons_zero, Act.put, List.setIfInBounds_toArray, List.set_cons_zero, List.set_cons_succ]
                refine wpAnyH_take (i := 10) (v := .string (bs E)) rfl (by kernel_rfl) (by kernel_rfl) (by kernel_rfl) (fun _ _ _ h => h) (.inl ⟨by rfl, fun _ _ => rfl⟩) hH ?_
                simp only [List.getElem_toArray, List.getElem_cons_succ, List.getElem_cons_zero, Act.put, List.setIfInBounds_toArray, List.set_cons_zero, List.set_cons_succ]
                refine wpAnyH_done (by kernel_rfl) ?_ _
                have HE1 := below_then hbn (q2)
                clear hx3 hcl s1 s2 hbn hdr hdn hmin
                go_wp2
                go_roundg (gk - 1)
                case measure => omega
                case rel => exact ⟨k + 1, by omega, by go_num, by rw [HE.out], HE1⟩
            · simp only [List.getElem_toArray, List.getElem_cons_succ, List.getElem_cons_zero]
              rw [if_pos (by rfl)]
              go_wp2_with (go_at_call 12; refine (hcl _ hdr).mono ?_; rintro e w2 ⟨rfl, b2⟩)
              have q2 := below_then hdr b2
              obtain ⟨_, y1, y2, y3⟩ := hx3.below q2
              refine hK.out _ _ ⟨y1, y2, y3⟩ (fun hH => ?_)
              clear hK
              refine wpAnyH_ready (rs := [1]) (by kernel_rfl) (by simp) ?_
              refine AllReadyH.cons rfl (fun K hK => ?_) AllReadyH.nil
              simp only [List.getElem_toArray, List.getElem_cons_succ, List.getElem_cons_zero]
              rw [if_pos (by rfl)]
              go_wp2_with fail
              obtain ⟨_, n1, n2, n3⟩ := hx3.below (below_then q2 (below_new w2 (.cells #[.string ⟨#[40]⟩, .string ⟨#[44]⟩] 9)))
              refine hK.out _ _ ⟨n1, n2, n3⟩ (fun hH => ?_)
              clear hK
              refine wpAnyH_take (i := 4) (v := .pointer (some ⟨w2.heap.size, 0, none⟩)) rfl (by kernel_rfl) (by kernel_rfl) (by kernel_rfl) (fun _ _ _ h => h) (.inl ⟨by rfl, fun w' hS' => by first | (go_simp; done) | (go_simp; rfl) | (go_simp; intro h; omega) | (go_simp; omega)⟩) hH ?_
              simp only [List.getElem_toArray, List.getElem_cons_succ, List.getElem_cons_zero, Act.put, List.setIfInBounds_toArray, List.set_cons_zero, List.set_cons_succ]
              refine wpAnyH_ready (rs := [5]) (by kernel_rfl) (by simp) ?_
              refine AllReadyH.cons rfl (fun K hK => ?_) AllReadyH.nil
              simp only [List.getElem_toArray, List.getElem_cons_succ, List.getElem_cons_zero]
              rw [if_pos (by rfl)]
              have v1 : (w2.alloc (.cells #[.string ⟨#[40]⟩, .string ⟨#[44]⟩] 9)).cell? ⟨w2.heap.size, 0, none⟩ = some (.string ⟨#[40]⟩) := (box2_new w2 (.string ⟨#[40]⟩) (.string ⟨#[44]⟩) 9).2.1
              go_wp2_with fail
              refine hK.out _ _ ⟨n1, n2, n3⟩ (fun hH => ?_)
              clear hK
              refine wpAnyH_take (i := 8) (v := .string (bs J)) rfl (by kernel_rfl) (by kernel_rfl) (by kernel_rfl) (fun _ _ _ h => h) (.inl ⟨by rfl, fun w' hS' => by first | (go_simp; done) | (go_simp; rfl) | (go_simp; intro h; omega) | (go_simp; omega)⟩) hH ?_
              simp only [List.getElem_toArray, List.getElem_cons_succ, List.getElem_cons_zero, Act.put, List.setIfInBounds_toArray, List.set_cons_zero, List.set_cons_succ]
              refine wpAnyH_take (i := 9) (v := .string (bs E)) rfl (by kernel_rfl) (by kernel_rfl) (by kernel_rfl) (fun _ _ _ h => h) (.inl ⟨by rfl, fun w' hS' => by first | (go_simp; done) | (go_simp; rfl) | (go_simp; intro h; omega) | (go_simp; omega)⟩) hH ?_
              simp only [List.getElem_toArray, List.getElem_cons_succ, List.getElem_cons_zero, Act.put, List.setIfInBounds_toArray, List.set_cons_zero, List.set_cons_succ]
              refine wpAnyH_take (i := 10) (v := .string (bs E)) rfl (by kernel_rfl) (by kernel_rfl) (by kernel_rfl) (fun _ _ _ h => h) (.inl ⟨by rfl, fun _ _ => rfl⟩) hH ?_
              simp only [List.getElem_toArray, List.getElem_cons_succ, List.getElem_cons_zero, Act.put, List.setIfInBounds_toArray, List.set_cons_zero, List.set_cons_succ]
              refine wpAnyH_done (by kernel_rfl) ?_ _
              have HE1 := below_then hbn (below_then q2 (below_new w2 (.cells #[.string ⟨#[40]⟩, .string ⟨#[44]⟩] 9)))
              clear hx3 hcl s1 s2 hbn hdr hdn hmin
              go_wp2
              go_roundg (gk - 1)
              case measure => omega
              case rel => exact ⟨k + 1, by omega, by go_num, by rw [HE.out], HE1⟩
          · have hmin : min (k : Int) 1 = 1 := by omega
            have HE0 : Hid (A ++ ([44] ++ T) = E) := by
              show _ = _
              rw [← HE.out, ← HA.out, Htk.out, piece_snoc]
              have hlk : (textsB (b.kids.take k)).length = k := by show (List.map _ _).length = k; rw [List.length_map, List.length_take]; have := Hkl.out; omega
              rw [hlk, if_neg (by omega)]
              simp
            have s1 := bs_add2 (a := [44]) (b := T) (s := ⟨#[44]⟩) rfl (by simp; omega)
            obtain ⟨J, HJ⟩ := hideEx ([44] ++ T)
            rw [HJ.out] at s1 HE0
            have hJl : J.length ≤ 119 := by rw [← HJ.out]; simp; omega
            have s2 := bs_add (a := A) (b := J) (by omega)
            rw [HE0.out] at s2
            clear hk0 hAl hTl hJl
            refine wp_region_held_drew (S := fun w' => w'.cell? ⟨Y, 0, none⟩ = some (.int .i64 kb.kind) ∧ w'.cell? ⟨Y, 1, none⟩ = some (.int .i64 kb.label) ∧ w'.cell? ⟨Y, 2, none⟩ = some (.slice ka kl kc)) (by kernel_rfl) ⟨z1, z2, z3⟩ (fun hH => ?_)
            refine wpAnyH_take (i := 0) (v := .string (bs A)) rfl (by kernel_rfl) (by kernel_rfl) (by kernel_rfl) (fun _ _ _ h => h) (.inl ⟨by rfl, fun _ _ => rfl⟩) hH ?_
            simp only [List.getElem_toArray, List.getElem_cons_succ, List.getElem_cons_zero, Act.put, List.setIfInBounds_toArray, List.set_cons_zero, List.set_cons_succ]
            refine wpAnyH_take (i := 2) (v := .int .i64 (k : Int)) rfl (by kernel_rfl) (by kernel_rfl) (by kernel_rfl) (fun _ _ _ h => h) (.inl ⟨by rfl, fun _ _ => rfl⟩) hH ?_
            simp only [List.getElem_toArray, List.getElem_cons_succ, List.getElem_cons_zero, Act.put, List.setIfInBounds_toArray, List.set_cons_zero, List.set_cons_succ]
            refine wpAnyH_take (i := 3) (v := .int .i64 1) rfl (by kernel_rfl) (by kernel_rfl) (by kernel_rfl) (fun _ _ _ h => h) (.inl ⟨by rfl, fun w' hS' => by first | (go_simp; done) | (go_simp; rfl) | (go_simp; intro h; omega) | (go_simp; omega)⟩) hH ?_
            simp only [List.getElem_toArray, List.getElem_cons_succ, List.getElem_cons_zero, Act.put, List.setIfInBounds_toArray, List.set_cons_zero, List.set_cons_succ]
            refine wpAnyH_take (i := 6) (v := .agg #[.int .i64 kb.kind, .int .i64 kb.label, .slice ka kl kc]) rfl (by kernel_rfl) (by kernel_rfl) (by kernel_rfl) (fun _ _ _ h => h) (.inl ⟨by rfl, fun w' hS' => by obtain ⟨s1, s2, s3⟩ := hS'; go_simp⟩) hH ?_
            simp only [List.getElem_toArray, List.getElem_cons_succ, List.getElem_cons_zero, Act.put, List.setIfInBounds_toArray, List.set_cons_zero, List.set_cons_succ]
            refine wpAnyH_ready (rs := [1, 7]) (by kernel_rfl) (by simp) ?_
            refine (AllReadyH.cons rfl (fun K hK => ?_) (AllReadyH.cons rfl (fun K hK => ?_) AllReadyH.nil))
            · simp only [List.getElem_toArray, List.getElem_cons_succ, List.getElem_cons_zero]
              rw [if_pos (by rfl)]
              go_wp2_with fail
              obtain ⟨_, n1, n2, n3⟩ := hx3.below (hdn)
              refine hK.out _ _ ⟨n1, n2, n3⟩ (fun hH => ?_)
              clear hK
              refine wpAnyH_take (i := 4) (v := .pointer (some ⟨w1.heap.size, 1, none⟩)) rfl (by kernel_rfl) (by kernel_rfl) (by kernel_rfl) (fun _ _ _ h => h) (.inl ⟨by rfl, fun w' hS' => by first | (go_simp; done) | (go_simp; rfl) | (go_simp; intro h; omega) | (go_simp; omega)⟩) hH ?_
              simp only [List.getElem_toArray, List.getElem_cons_succ, List.getElem_cons_zero, Act.put, List.setIfInBounds_toArray, List.set_cons_zero, List.set_cons_succ]
              refine wpAnyH_ready (rs := [5, 7]) (by kernel_rfl) (by simp) ?_
              refine (AllReadyH.cons rfl (fun K hK => ?_) (AllReadyH.cons rfl (fun K hK => ?_) AllReadyH.nil))
              · simp only [List.getElem_toArray, List.getElem_cons_succ, List.getElem_cons_zero]
                rw [if_pos (by rfl)]
                have v1 : (w1.drew.alloc (.cells #[.string ⟨#[40]⟩, .string ⟨#[44]⟩] 9)).cell? ⟨w1.heap.size, 1, none⟩ = some (.string ⟨#[44]⟩) := (box2_new w1.drew (.string ⟨#[40]⟩) (.string ⟨#[44]⟩) 9).2.2
                go_wp2_with fail
                refine hK.out _ _ ⟨n1, n2, n3⟩ (fun hH => ?_)
                clear hK
                refine wpAnyH_ready (rs := [7]) (by kernel_rfl) (by simp) ?_
                refine AllReadyH.cons rfl (fun K hK => ?_) AllReadyH.nil
                simp only [List.getElem_toArray, List.getElem_cons_succ, List.getElem_cons_zero]
                rw [if_pos (by rfl)]
                go_wp2_with (go_at_call 12; refine (hcl _ hdn).mono ?_; rintro e w2 ⟨rfl, b2⟩)
                have q2 := below_then hdn b2
                obtain ⟨_, y1, y2, y3⟩ := hx3.below q2
                refine hK.out _ _ ⟨y1, y2, y3⟩ (fun hH => ?_)
                clear hK
                refine wpAnyH_take (i := 8) (v := .string (bs J)) rfl (by kernel_rfl) (by kernel_rfl) (by kernel_rfl) (fun _ _ _ h => h) (.inl ⟨by rfl, fun w' hS' => by first | (go_simp; done) | (go_simp; rfl) | (go_simp; intro h; omega) | (go_simp; omega)⟩) hH ?_
                simp only [List.getElem_toArray, List.getElem_cons_succ, List.getElem_cons_zero, Act.put, List.setIfInBounds_toArray, List.set_cons_zero, List.set_cons_succ]
                refine wpAnyH_take (i := 9) (v := .string (bs E)) rfl (by kernel_rfl) (by kernel_rfl) (by kernel_rfl) (fun _ _ _ h => h) (.inl ⟨by rfl, fun w' hS' => by first | (go_simp; done) | (go_simp; rfl) | (go_simp; intro h; omega) | (go_simp; omega)⟩) hH ?_
                simp only [List.getElem_toArray, List.getElem_cons_succ, List.getElem_cons_zero, Act.put, List.setIfInBounds_toArray, List.set_cons_zero, List.set_cons_succ]
                refine wpAnyH_take (i := 10) (v := .string (bs E)) rfl (by kernel_rfl) (by kernel_rfl) (by kernel_rfl) (fun _ _ _ h => h) (.inl ⟨by rfl, fun _ _ => rfl⟩) hH ?_
                simp only [List.getElem_toArray, List.getElem_cons_succ, List.getElem_cons_zero, Act.put, List.setIfInBounds_toArray, List.set_cons_zero, List.set_cons_succ]
                refine wpAnyH_done (by kernel_rfl) ?_ _
                have HE1 := below_then hbn (q2)
                clear hx3 hcl s1 s2 hbn hdr hdn hmin
                go_wp2
                go_roundg (gk - 1)
                case measure => omega
                case rel => exact ⟨k + 1, by omega, by go_num, by rw [HE.out], HE1⟩
              · simp only [List.getElem_toArray, List.getElem_cons_succ, List.getElem_cons_zero]
                rw [if_pos (by rfl)]
                go_wp2_with (go_at_call 12; refine (hcl _ hdn).mono ?_; rintro e w2 ⟨rfl, b2⟩)
                have q2 := below_then hdn b2
                obtain ⟨_, y1, y2, y3⟩ := hx3.below q2
                refine hK.out _ _ ⟨y1, y2, y3⟩ (fun hH => ?_)
                clear hK
                refine wpAnyH_ready (rs := [5]) (by kernel_rfl) (by simp) ?_
                refine AllReadyH.cons rfl (fun K hK => ?_) AllReadyH.nil
                simp only [List.getElem_toArray, List.getElem_cons_succ, List.getElem_cons_zero]
                rw [if_pos (by rfl)]
                have v1 : w2.cell? ⟨w1.heap.size, 1, none⟩ = some (.string ⟨#[44]⟩) := ((box2_new w1.drew (.string ⟨#[40]⟩) (.string ⟨#[44]⟩) 9).below b2).2.2
                go_wp2_with fail
                refine hK.out _ _ ⟨y1, y2, y3⟩ (fun hH => ?_)
                clear hK
                refine wpAnyH_take (i := 8) (v := .string (bs J)) rfl (by kernel_rfl) (by kernel_rfl) (by kernel_rfl) (fun _ _ _ h => h) (.inl ⟨by rfl, fun w' hS' => by first | (go_simp; done) | (go_simp; rfl) | (go_simp; intro h; omega) | (go_simp; omega)⟩) hH ?_
                simp only [List.getElem_toArray, List.getElem_cons_succ, List.getElem_cons_zero, Act.put, List.setIfInBounds_toArray, List.set_cons_zero, List.set_cons_succ]
                refine wpAnyH_take (i := 9) (v := .string (bs E)) rfl (by kernel_rfl) (by kernel_rfl) (by kernel_rfl) (fun _ _ _ h => h) (.inl ⟨by rfl, fun w' hS' => by first | (go_simp; done) | (go_simp; rfl) | (go_simp; intro h; omega) | (go_simp; omega)⟩) hH ?_
                simp only [List.getElem_toArray, List.getElem_cons_succ, List.getElem_cons_zero, Act.put, List.setIfInBounds_toArray, List.set_cons_zero, List.set_cons_succ]
                refine wpAnyH_take (i := 10) (v := .string (bs E)) rfl (by kernel_rfl) (by kernel_rfl) (by kernel_rfl) (fun _ _ _ h => h) (.inl ⟨by rfl, fun _ _ => rfl⟩) hH ?_
                simp only [List.getElem_toArray, List.getElem_cons_succ, List.getElem_cons_zero, Act.put, List.setIfInBounds_toArray, List.set_cons_zero, List.set_cons_succ]
                refine wpAnyH_done (by kernel_rfl) ?_ _
                have HE1 := below_then hbn (q2)
                clear hx3 hcl s1 s2 hbn hdr hdn hmin
                go_wp2
                go_roundg (gk - 1)
                case measure => omega
                case rel => exact ⟨k + 1, by omega, by go_num, by rw [HE.out], HE1⟩
            · simp only [List.getElem_toArray, List.getElem_cons_succ, List.getElem_cons_zero]
              rw [if_pos (by rfl)]
              go_wp2_with (go_at_call 12; refine (hcl _ hdr).mono ?_; rintro e w2 ⟨rfl, b2⟩)
              have q2 := below_then hdr b2
              obtain ⟨_, y1, y2, y3⟩ := hx3.below q2
              refine hK.out _ _ ⟨y1, y2, y3⟩ (fun hH => ?_)
              clear hK
              refine wpAnyH_ready (rs := [1]) (by kernel_rfl) (by simp) ?_
              refine AllReadyH.cons rfl (fun K hK => ?_) AllReadyH.nil
              simp only [List.getElem_toArray, List.getElem_cons_succ, List.getElem_cons_zero]
              rw [if_pos (by rfl)]
              go_wp2_with fail
              obtain ⟨_, n1, n2, n3⟩ := hx3.below (below_then q2 (below_new w2 (.cells #[.string ⟨#[40]⟩, .string ⟨#[44]⟩] 9)))
              refine hK.out _ _ ⟨n1, n2, n3⟩ (fun hH => ?_)
              clear hK
              refine wpAnyH_take (i := 4) (v := .pointer (some ⟨w2.heap.size, 1, none⟩)) rfl (by kernel_rfl) (by kernel_rfl) (by kernel_rfl) (fun _ _ _ h => h) (.inl ⟨by rfl, fun w' hS' => by first | (go_simp; done) | (go_simp; rfl) | (go_simp; intro h; omega) | (go_simp; omega)⟩) hH ?_
              simp only [List.getElem_toArray, List.getElem_cons_succ, List.getElem_cons_zero, Act.put, List.setIfInBounds_toArray, List.set_cons_zero, List.set_cons_succ]
              refine wpAnyH_ready (rs := [5]) (by kernel_rfl) (by simp) ?_
              refine AllReadyH.cons rfl (fun K hK => ?_) AllReadyH.nil
              simp only [List.getElem_toArray, List.getElem_cons_succ, List.getElem_cons_zero]
              rw [if_pos (by rfl)]
              have v1 : (w2.alloc (.cells #[.string ⟨#[40]⟩, .string ⟨#[44]⟩] 9)).cell? ⟨w2.heap.size, 1, none⟩ = some (.string ⟨#[44]⟩) := (box2_new w2 (.string ⟨#[40]⟩) (.string ⟨#[44]⟩) 9).2.2
              go_wp2_with fail
              refine hK.out _ _ ⟨n1, n2, n3⟩ (fun hH => ?_)
              clear hK
              refine wpAnyH_take (i := 8) (v := .string (bs J)) rfl (by kernel_rfl) (by kernel_rfl) (by kernel_rfl) (fun _ _ _ h => h) (.inl ⟨by rfl, fun w' hS' => by first | (go_simp; done) | (go_simp; rfl) | (go_simp; intro h; omega) | (go_simp; omega)⟩) hH ?_
              simp only [List.getElem_toArray, List.getElem_cons_succ, List.getElem_cons_zero, Act.put, List.setIfInBounds_toArray, List.set_cons_zero, List.set_cons_succ]
              refine wpAnyH_take (i := 9) (v := .string (bs E)) rfl (by kernel_rfl) (by kernel_rfl) (by kernel_rfl) (fun _ _ _ h => h) (.inl ⟨by rfl, fun w' hS' => by first | (go_simp; done) | (go_simp; rfl) | (go_simp; intro h; omega) | (go_simp; omega)⟩) hH ?_
              simp only [List.getElem_toArray, List.getElem_cons_succ, List.getElem_cons_zero, Act.put, List.setIfInBounds_toArray, List.set_cons_zero, List.set_cons_succ]
              refine wpAnyH_take (i := 10) (v := .string (bs E)) rfl (by kernel_rfl) (by kernel_rfl) (by kernel_rfl) (fun _ _ _ h => h) (.inl ⟨by rfl, fun _ _ => rfl⟩) hH ?_
              simp only [List.getElem_toArray, List.getElem_cons_succ, List.getElem_cons_zero, Act.put, List.setIfInBounds_toArray, List.set_cons_zero, List.set_cons_succ]
              refine wpAnyH_done (by kernel_rfl) ?_ _
              have HE1 := below_then hbn (below_then q2 (below_new w2 (.cells #[.string ⟨#[40]⟩, .string ⟨#[44]⟩] 9)))
              clear hx3 hcl s1 s2 hbn hdr hdn hmin
              go_wp2
              go_roundg (gk - 1)
              case measure => omega
              case rel => exact ⟨k + 1, by omega, by go_num, by rw [HE.out], HE1⟩
        · have hkn : k = n := by omega
          subst hkn
          have s1 := bs_add1 (a := A) (b := [41]) (s := ⟨#[41]⟩) rfl (by simp; omega)
          have HF : Hid (A ++ [41] = TT) := by
            show _ = _
            rw [R.out, ← HA.out, List.take_of_length_le (Nat.le_of_eq Hn.out)]
            rfl
          rw [HF.out] at s1
          have HE1 : Hid (Below w.heap.size w wr) := below_then c hb
          clear hb hAl bA
          go_wp2
          go_ret
          exact ⟨by rw [HTT.out]; rfl, HE1.out⟩

end Go.Proofs.YtjfcfnaeinhmcaaDoor
