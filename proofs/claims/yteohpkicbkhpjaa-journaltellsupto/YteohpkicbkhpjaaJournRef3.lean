/- The document's own journal: RRead. (Made by tools/gen_rread.py.) -/
import Derived.Test.YteohpkicbkhpjaaJournRef2
import Derived.Laws.AppendOwnNone
namespace Go.Proofs.Yteohpkicbkhpjaa
open Go.RowKit
set_option linter.unusedVariables false
set_option linter.unusedSimpArgs false
set_option maxRecDepth 4000

/-- append of things to do. -/
theorem wp_append_dops {ops : Array Oper} {rest : List Oper} {o : Oper} {a : Act} {Q : Exit → Act → World → Prop} (hgd : o.guard = none) (s x : Operand)
    (ho : o.op = .call { callee := .builtin .append, args := #[s, x], argTypes := #[28, 28] }) (B : Nat) (w wr : World) (v u : Value) (l m : List DOp) (hG : OwnO B w wr v l)
    (hs : a.eval s = v) (hx : a.eval x = u) (hu : DOpsV wr u m) (hl : l.length + m.length ≤ 3518437208883)
    (h : ∀ v' w', OwnO B w w' v' (l ++ m) → wpList Try.prog ops Q rest (a.put o.dst v') w') : wpList Try.prog ops Q (o :: rest) a wr := by
  obtain ⟨i0, hi, hz0, hz1, hz2⟩ := info_parts info_dop
  obtain ⟨ax, len, cap, rfl, hlen, hmx, hsh, hr⟩ := hu
  have hG0 := hG
  obtain ⟨hown, hb, hB⟩ := hG
  cases ax with
  | none =>
    have hc0 : cap = 0 := hsh.2.2 rfl
    have hl0 : len = 0 := by have := hsh.1; omega
    subst hc0 hl0
    have hy : m = [] := List.length_eq_zero_iff.1 hlen
    subst hy
    exact wpList_append_own_none hgd s x 28 ho B 23 i0 5 Try.underlying28 hi v l.length _ hs hown hx (h v wr (by simpa using hG0))
  | some ad =>
    refine wpList_append_own _ hgd s x 28 ho B 23 i0 _ 5 40 Try.underlying28 hi hz0 hz1 hz2 rfl (by decide) v l.length _ hs hown ad len cap (doCells m) hx (by rw [doCells_length, hlen]) ?_ ?_ ?_ ?_ hB ?_
    · intro j u hj
      have hjl : j < m.length * 5 := by
        rcases Nat.lt_or_ge j (m.length * 5) with h1 | h1
        · exact h1
        · rw [List.getElem?_eq_none (by rw [doCells_length]; exact h1)] at hj; cases hj
      obtain ⟨q1, q2, q3, q4, q5⟩ := doCells_at m (j / 5) (by omega)
      obtain ⟨b, off, e, hlt, h0, h1, h2, h3, h4⟩ := hr (j / 5) (by omega)
      injection e with e
      subst e
      rw [addr_add]
      have hm : j % 5 = 0 ∨ j % 5 = 1 ∨ j % 5 = 2 ∨ j % 5 = 3 ∨ j % 5 = 4 := by omega
      rcases hm with e | e | e | e | e
      · rw [show j = j / 5 * 5 by omega] at hj ⊢
        rw [q1] at hj; rw [h0]; exact hj
      · rw [show j = j / 5 * 5 + 1 by omega, q2] at hj
        rw [show off + j = off + j / 5 * 5 + 1 by omega, h1]; exact hj
      · rw [show j = j / 5 * 5 + 2 by omega, q3] at hj
        rw [show off + j = off + j / 5 * 5 + 2 by omega, h2]; exact hj
      · rw [show j = j / 5 * 5 + 3 by omega, q4] at hj
        rw [show off + j = off + j / 5 * 5 + 3 by omega, h3]; exact hj
      · rw [show j = j / 5 * 5 + 4 by omega, q5] at hj
        rw [show off + j = off + j / 5 * 5 + 4 by omega, h4]; exact hj
    · intro u hu
      unfold doCells at hu
      obtain ⟨y, _, hy⟩ := List.mem_flatMap.1 hu
      simp only [List.mem_cons, List.not_mem_nil, or_false] at hy
      rcases hy with rfl | rfl | rfl | rfl | rfl <;> rfl
    · unfold maxLen; omega
    · omega
    · intro v' w' hown' hgrow _
      refine h v' w' ⟨by rw [doCells_append, List.length_append, hlen]; exact hown', hb.grown hgrow hB (fun k hk => (hown.lt k hk).1), Nat.le_trans hB hgrow.size⟩

theorem text_ne {a b : ByteArray} (h : ¬ a = b) : ¬ a.toList = b.toList := fun q => h (by
  rw [ByteArray.toList_eq, ByteArray.toList_eq] at q
  cases a
  cases b
  simp only [Array.toList_inj] at q
  rw [q])
theorem wrap_small {x : Int} (h0 : 0 ≤ x) (h1 : x < 1000000) : IntKind.i64.wrap x = x := by
  unfold IntKind.wrap
  simp [IntKind.bits, IntKind.signed]
  omega
/-- What Read answers. -/
def ReadV (w : World) (xs : List Int) (e : Ending) (w' : World) : Prop := ∃ r l d, e = .returned (.tuple #[r, .int .i64 ((7 * l.length : Nat) : Int), .int .i64 d]) ∧ OwnO w.heap.size w w' r l ∧ ReadOk xs l d

set_option maxHeartbeats 8000000 in
theorem rread_step (v : Value) (xs : List Int) (w : World) (hv : BytesV w v xs) (IH : ∀ v' w', BytesV w' v' (xs.drop 7) → 7 ≤ xs.length → Calls Try.prog 10 #[v'] w' (ReadV w' (xs.drop 7))) :
    Calls Try.prog 10 #[v] w (ReadV w xs) := by
  obtain ⟨a, cap, rfl, hN, hsh⟩ := hv.slice
  obtain ⟨n, Hn⟩ : ∃ n, Hid (xs.length = n) := ⟨_, rfl⟩
  have HIH : Hid _ := IH
  clear IH
  rw [Hn.out] at hv hsh hN ⊢
  by_cases h7 : 7 ≤ n
  · have hy := fun j => hv.byte j
    have HY : Hid (∀ j, isByte (nth xs j)) := hy
    obtain ⟨vb, vo, rfl, hb, c0⟩ := hv.at (k := 0) (by omega)
    have key : ∀ k, k < n → w.cell? ⟨vb, vo + k, none⟩ = some (.int .u8 (nth xs k)) := fun k hk => by
      obtain ⟨b', off', e, _, hc⟩ := hv.at hk
      injection e with e
      injection e with e1 e2
      subst e1 e2
      exact hc
    have d0 := key 0 (by omega)
    have d1 := key 1 (by omega)
    have d2 := key 2 (by omega)
    have d3 := key 3 (by omega)
    have d4 := key 4 (by omega)
    have d5 := key 5 (by omega)
    rw [Nat.add_zero] at d0
    have HJ : Hid (opJ xs = ⟨nth xs 0, nth xs 1, nth xs 2, nth xs 4 * 256 + nth xs 5, nth xs 3⟩) := rfl
    obtain ⟨p0, p0'⟩ := hy 0
    obtain ⟨p1, p1'⟩ := hy 1
    obtain ⟨p2, p2'⟩ := hy 2
    obtain ⟨p3, p3'⟩ := hy 3
    obtain ⟨p4, p4'⟩ := hy 4
    obtain ⟨p5, p5'⟩ := hy 5
    obtain ⟨y0, Hy0⟩ : ∃ y, Hid (nth xs 0 = y) := ⟨_, rfl⟩
    obtain ⟨y1, Hy1⟩ : ∃ y, Hid (nth xs 1 = y) := ⟨_, rfl⟩
    obtain ⟨y2, Hy2⟩ : ∃ y, Hid (nth xs 2 = y) := ⟨_, rfl⟩
    obtain ⟨y3, Hy3⟩ : ∃ y, Hid (nth xs 3 = y) := ⟨_, rfl⟩
    obtain ⟨y4, Hy4⟩ : ∃ y, Hid (nth xs 4 = y) := ⟨_, rfl⟩
    obtain ⟨y5, Hy5⟩ : ∃ y, Hid (nth xs 5 = y) := ⟨_, rfl⟩
    rw [Hy0.out, Hy1.out, Hy2.out, Hy3.out, Hy4.out, Hy5.out] at HJ
    rw [Hy0.out] at d0 p0 p0'
    rw [Hy1.out] at d1 p1 p1'
    rw [Hy2.out] at d2 p2 p2'
    rw [Hy3.out] at d3 p3 p3'
    rw [Hy4.out] at d4 p4 p4'
    rw [Hy5.out] at d5 p5 p5'
    clear Hy0 Hy1 Hy2 Hy3 Hy4 Hy5 hy c0 key
    have hi7 : ¬ (n : Int) < 7 := by omega
    have hcap7 : 7 ≤ cap := by have := hsh.1; omega
    have hcap8 : (7 : Int) ≤ (cap : Int) := by omega
    have hcapb := hsh.2.1
    go_enter Try.func10, Try.ntmps10
    go_upto_region 3 with fail
    have W0 := wrap_small p0 (by omega)
    have W1 := wrap_small p1 (by omega)
    have W2 := wrap_small p2 (by omega)
    have W3 := wrap_small p3 (by omega)
    have W4 := wrap_small p4 (by omega)
    have W5 := wrap_small p5 (by omega)
    have W6 := wrap_small (x := y4 * 256) (by omega) (by omega)
    have W7 := wrap_small (x := y4 * 256 + y5) (by omega) (by omega)
    go_cut [5] (fun p wc => p = .pointer (some ⟨w.heap.size, 0, none⟩) ∧ BoxJ wc w.heap.size (opJ xs) ∧ Below w.heap.size w wc)
    case first =>
      have HS6 : Hid (∀ w', Below w.heap.size w w' → w'.cell? ⟨vb, vo, none⟩ = some (.int .u8 y0) ∧ w'.cell? ⟨vb, vo + 1, none⟩ = some (.int .u8 y1) ∧ w'.cell? ⟨vb, vo + 2, none⟩ = some (.int .u8 y2) ∧ w'.cell? ⟨vb, vo + 3, none⟩ = some (.int .u8 y3) ∧ w'.cell? ⟨vb, vo + 4, none⟩ = some (.int .u8 y4) ∧ w'.cell? ⟨vb, vo + 5, none⟩ = some (.int .u8 y5)) := fun w' hb' => ⟨(hb'.cell (p := ⟨vb, vo, none⟩) hb).trans d0, (hb'.cell (p := ⟨vb, vo + 1, none⟩) hb).trans d1, (hb'.cell (p := ⟨vb, vo + 2, none⟩) hb).trans d2, (hb'.cell (p := ⟨vb, vo + 3, none⟩) hb).trans d3, (hb'.cell (p := ⟨vb, vo + 4, none⟩) hb).trans d4, (hb'.cell (p := ⟨vb, vo + 5, none⟩) hb).trans d5⟩
      refine wp_region_held_drew (S := (fun w' => w'.cell? ⟨vb, vo, none⟩ = some (.int .u8 y0) ∧ w'.cell? ⟨vb, vo + 1, none⟩ = some (.int .u8 y1) ∧ w'.cell? ⟨vb, vo + 2, none⟩ = some (.int .u8 y2) ∧ w'.cell? ⟨vb, vo + 3, none⟩ = some (.int .u8 y3) ∧ w'.cell? ⟨vb, vo + 4, none⟩ = some (.int .u8 y4) ∧ w'.cell? ⟨vb, vo + 5, none⟩ = some (.int .u8 y5))) (by kernel_rfl) (HS6.out _ (Below.refl _ _).drew) (fun hH => ?_)
      have b : Below w.heap.size w w.drew := (Below.refl _ _).drew
      have hsz0 : w.drew.heap.size = w.heap.size := rfl
      obtain ⟨v0, Hv0⟩ : ∃ v0, Hid (w.drew = v0) := ⟨_, rfl⟩
      rw [Hv0.out] at hH b hsz0 ⊢
      clear Hv0
      refine wpAnyH_take (i := 0) (v := .slice (some ⟨vb, vo, none⟩) n cap) rfl (by kernel_rfl) (by kernel_rfl) (by kernel_rfl) (fun _ _ _ h => h) (.inl ⟨by rfl, fun _ _ => rfl⟩) hH ?_
      simp only [List.getElem_toArray, List.getElem_cons_succ, List.getElem_cons_zero, Act.put, List.setIfInBounds_toArray, List.set_cons_zero, List.set_cons_succ]
      refine wpAnyH_take (i := 1) (v := .pointer (some ⟨vb, vo, none⟩)) rfl (by kernel_rfl) (by kernel_rfl) (by kernel_rfl) (fun _ _ _ h => h) (.inl ⟨by rfl, fun w' hS' => by first | (go_simp; done) | (go_simp; rfl) | (go_simp; intro h; omega) | (go_simp; omega)⟩) hH ?_
      simp only [List.getElem_toArray, List.getElem_cons_succ, List.getElem_cons_zero, Act.put, List.setIfInBounds_toArray, List.set_cons_zero, List.set_cons_succ]
      refine wpAnyH_take (i := 2) (v := .int .u8 y0) rfl (by kernel_rfl) (by kernel_rfl) (by kernel_rfl) (fun _ _ _ h => h) (.inl ⟨by rfl, fun w' hS' => by obtain ⟨s0, s1, s2, s3, s4, s5⟩ := hS'; go_simp⟩) hH ?_
      simp only [List.getElem_toArray, List.getElem_cons_succ, List.getElem_cons_zero, Act.put, List.setIfInBounds_toArray, List.set_cons_zero, List.set_cons_succ]
      refine wpAnyH_take (i := 3) (v := .int .i64 y0) rfl (by kernel_rfl) (by kernel_rfl) (by kernel_rfl) (fun _ _ _ h => h) (.inl ⟨by rfl, fun w' hS' => by first | (go_simp; done) | (go_simp; rfl) | (go_simp; intro h; omega) | (go_simp; omega)⟩) hH ?_
      simp only [List.getElem_toArray, List.getElem_cons_succ, List.getElem_cons_zero, Act.put, List.setIfInBounds_toArray, List.set_cons_zero, List.set_cons_succ]
      refine wpAnyH_take (i := 4) (v := .slice (some ⟨vb, vo, none⟩) n cap) rfl (by kernel_rfl) (by kernel_rfl) (by kernel_rfl) (fun _ _ _ h => h) (.inl ⟨by rfl, fun _ _ => rfl⟩) hH ?_
      simp only [List.getElem_toArray, List.getElem_cons_succ, List.getElem_cons_zero, Act.put, List.setIfInBounds_toArray, List.set_cons_zero, List.set_cons_succ]
      refine wpAnyH_take (i := 5) (v := .pointer (some ⟨vb, vo + 1, none⟩)) rfl (by kernel_rfl) (by kernel_rfl) (by kernel_rfl) (fun _ _ _ h => h) (.inl ⟨by rfl, fun w' hS' => by first | (go_simp; done) | (go_simp; rfl) | (go_simp; intro h; omega) | (go_simp; omega)⟩) hH ?_
      simp only [List.getElem_toArray, List.getElem_cons_succ, List.getElem_cons_zero, Act.put, List.setIfInBounds_toArray, List.set_cons_zero, List.set_cons_succ]
      refine wpAnyH_take (i := 6) (v := .int .u8 y1) rfl (by kernel_rfl) (by kernel_rfl) (by kernel_rfl) (fun _ _ _ h => h) (.inl ⟨by rfl, fun w' hS' => by obtain ⟨s0, s1, s2, s3, s4, s5⟩ := hS'; go_simp⟩) hH ?_
      simp only [List.getElem_toArray, List.getElem_cons_succ, List.getElem_cons_zero, Act.put, List.setIfInBounds_toArray, List.set_cons_zero, List.set_cons_succ]
      refine wpAnyH_take (i := 7) (v := .int .i64 y1) rfl (by kernel_rfl) (by kernel_rfl) (by kernel_rfl) (fun _ _ _ h => h) (.inl ⟨by rfl, fun w' hS' => by first | (go_simp; done) | (go_simp; rfl) | (go_simp; intro h; omega) | (go_simp; omega)⟩) hH ?_
      simp only [List.getElem_toArray, List.getElem_cons_succ, List.getElem_cons_zero, Act.put, List.setIfInBounds_toArray, List.set_cons_zero, List.set_cons_succ]
      refine wpAnyH_take (i := 8) (v := .slice (some ⟨vb, vo, none⟩) n cap) rfl (by kernel_rfl) (by kernel_rfl) (by kernel_rfl) (fun _ _ _ h => h) (.inl ⟨by rfl, fun _ _ => rfl⟩) hH ?_
      simp only [List.getElem_toArray, List.getElem_cons_succ, List.getElem_cons_zero, Act.put, List.setIfInBounds_toArray, List.set_cons_zero, List.set_cons_succ]
      refine wpAnyH_take (i := 9) (v := .pointer (some ⟨vb, vo + 2, none⟩)) rfl (by kernel_rfl) (by kernel_rfl) (by kernel_rfl) (fun _ _ _ h => h) (.inl ⟨by rfl, fun w' hS' => by first | (go_simp; done) | (go_simp; rfl) | (go_simp; intro h; omega) | (go_simp; omega)⟩) hH ?_
      simp only [List.getElem_toArray, List.getElem_cons_succ, List.getElem_cons_zero, Act.put, List.setIfInBounds_toArray, List.set_cons_zero, List.set_cons_succ]
      refine wpAnyH_take (i := 10) (v := .int .u8 y2) rfl (by kernel_rfl) (by kernel_rfl) (by kernel_rfl) (fun _ _ _ h => h) (.inl ⟨by rfl, fun w' hS' => by obtain ⟨s0, s1, s2, s3, s4, s5⟩ := hS'; go_simp⟩) hH ?_
      simp only [List.getElem_toArray, List.getElem_cons_succ, List.getElem_cons_zero, Act.put, List.setIfInBounds_toArray, List.set_cons_zero, List.set_cons_succ]
      refine wpAnyH_take (i := 11) (v := .int .i64 y2) rfl (by kernel_rfl) (by kernel_rfl) (by kernel_rfl) (fun _ _ _ h => h) (.inl ⟨by rfl, fun w' hS' => by first | (go_simp; done) | (go_simp; rfl) | (go_simp; intro h; omega) | (go_simp; omega)⟩) hH ?_
      simp only [List.getElem_toArray, List.getElem_cons_succ, List.getElem_cons_zero, Act.put, List.setIfInBounds_toArray, List.set_cons_zero, List.set_cons_succ]
      refine wpAnyH_take (i := 12) (v := .slice (some ⟨vb, vo, none⟩) n cap) rfl (by kernel_rfl) (by kernel_rfl) (by kernel_rfl) (fun _ _ _ h => h) (.inl ⟨by rfl, fun _ _ => rfl⟩) hH ?_
      simp only [List.getElem_toArray, List.getElem_cons_succ, List.getElem_cons_zero, Act.put, List.setIfInBounds_toArray, List.set_cons_zero, List.set_cons_succ]
      refine wpAnyH_take (i := 13) (v := .pointer (some ⟨vb, vo + 3, none⟩)) rfl (by kernel_rfl) (by kernel_rfl) (by kernel_rfl) (fun _ _ _ h => h) (.inl ⟨by rfl, fun w' hS' => by first | (go_simp; done) | (go_simp; rfl) | (go_simp; intro h; omega) | (go_simp; omega)⟩) hH ?_
      simp only [List.getElem_toArray, List.getElem_cons_succ, List.getElem_cons_zero, Act.put, List.setIfInBounds_toArray, List.set_cons_zero, List.set_cons_succ]
      refine wpAnyH_take (i := 14) (v := .int .u8 y3) rfl (by kernel_rfl) (by kernel_rfl) (by kernel_rfl) (fun _ _ _ h => h) (.inl ⟨by rfl, fun w' hS' => by obtain ⟨s0, s1, s2, s3, s4, s5⟩ := hS'; go_simp⟩) hH ?_
      simp only [List.getElem_toArray, List.getElem_cons_succ, List.getElem_cons_zero, Act.put, List.setIfInBounds_toArray, List.set_cons_zero, List.set_cons_succ]
      refine wpAnyH_take (i := 15) (v := .int .i64 y3) rfl (by kernel_rfl) (by kernel_rfl) (by kernel_rfl) (fun _ _ _ h => h) (.inl ⟨by rfl, fun w' hS' => by first | (go_simp; done) | (go_simp; rfl) | (go_simp; intro h; omega) | (go_simp; omega)⟩) hH ?_
      simp only [List.getElem_toArray, List.getElem_cons_succ, List.getElem_cons_zero, Act.put, List.setIfInBounds_toArray, List.set_cons_zero, List.set_cons_succ]
      refine wpAnyH_take (i := 16) (v := .slice (some ⟨vb, vo, none⟩) n cap) rfl (by kernel_rfl) (by kernel_rfl) (by kernel_rfl) (fun _ _ _ h => h) (.inl ⟨by rfl, fun _ _ => rfl⟩) hH ?_
      simp only [List.getElem_toArray, List.getElem_cons_succ, List.getElem_cons_zero, Act.put, List.setIfInBounds_toArray, List.set_cons_zero, List.set_cons_succ]
      refine wpAnyH_take (i := 17) (v := .pointer (some ⟨vb, vo + 4, none⟩)) rfl (by kernel_rfl) (by kernel_rfl) (by kernel_rfl) (fun _ _ _ h => h) (.inl ⟨by rfl, fun w' hS' => by first | (go_simp; done) | (go_simp; rfl) | (go_simp; intro h; omega) | (go_simp; omega)⟩) hH ?_
      simp only [List.getElem_toArray, List.getElem_cons_succ, List.getElem_cons_zero, Act.put, List.setIfInBounds_toArray, List.set_cons_zero, List.set_cons_succ]
      refine wpAnyH_take (i := 18) (v := .int .u8 y4) rfl (by kernel_rfl) (by kernel_rfl) (by kernel_rfl) (fun _ _ _ h => h) (.inl ⟨by rfl, fun w' hS' => by obtain ⟨s0, s1, s2, s3, s4, s5⟩ := hS'; go_simp⟩) hH ?_
      simp only [List.getElem_toArray, List.getElem_cons_succ, List.getElem_cons_zero, Act.put, List.setIfInBounds_toArray, List.set_cons_zero, List.set_cons_succ]
      refine wpAnyH_take (i := 19) (v := .int .i64 y4) rfl (by kernel_rfl) (by kernel_rfl) (by kernel_rfl) (fun _ _ _ h => h) (.inl ⟨by rfl, fun w' hS' => by first | (go_simp; done) | (go_simp; rfl) | (go_simp; intro h; omega) | (go_simp; omega)⟩) hH ?_
      simp only [List.getElem_toArray, List.getElem_cons_succ, List.getElem_cons_zero, Act.put, List.setIfInBounds_toArray, List.set_cons_zero, List.set_cons_succ]
      refine wpAnyH_take (i := 20) (v := .int .i64 (y4 * 256)) rfl (by kernel_rfl) (by kernel_rfl) (by kernel_rfl) (fun _ _ _ h => h) (.inl ⟨by rfl, fun w' hS' => by first | (go_simp; done) | (go_simp; rfl) | (go_simp; intro h; omega) | (go_simp; omega)⟩) hH ?_
      simp only [List.getElem_toArray, List.getElem_cons_succ, List.getElem_cons_zero, Act.put, List.setIfInBounds_toArray, List.set_cons_zero, List.set_cons_succ]
      refine wpAnyH_take (i := 21) (v := .slice (some ⟨vb, vo, none⟩) n cap) rfl (by kernel_rfl) (by kernel_rfl) (by kernel_rfl) (fun _ _ _ h => h) (.inl ⟨by rfl, fun _ _ => rfl⟩) hH ?_
      simp only [List.getElem_toArray, List.getElem_cons_succ, List.getElem_cons_zero, Act.put, List.setIfInBounds_toArray, List.set_cons_zero, List.set_cons_succ]
      refine wpAnyH_take (i := 22) (v := .pointer (some ⟨vb, vo + 5, none⟩)) rfl (by kernel_rfl) (by kernel_rfl) (by kernel_rfl) (fun _ _ _ h => h) (.inl ⟨by rfl, fun w' hS' => by first | (go_simp; done) | (go_simp; rfl) | (go_simp; intro h; omega) | (go_simp; omega)⟩) hH ?_
      simp only [List.getElem_toArray, List.getElem_cons_succ, List.getElem_cons_zero, Act.put, List.setIfInBounds_toArray, List.set_cons_zero, List.set_cons_succ]
      refine wpAnyH_take (i := 23) (v := .int .u8 y5) rfl (by kernel_rfl) (by kernel_rfl) (by kernel_rfl) (fun _ _ _ h => h) (.inl ⟨by rfl, fun w' hS' => by obtain ⟨s0, s1, s2, s3, s4, s5⟩ := hS'; go_simp⟩) hH ?_
      simp only [List.getElem_toArray, List.getElem_cons_succ, List.getElem_cons_zero, Act.put, List.setIfInBounds_toArray, List.set_cons_zero, List.set_cons_succ]
      refine wpAnyH_take (i := 24) (v := .int .i64 y5) rfl (by kernel_rfl) (by kernel_rfl) (by kernel_rfl) (fun _ _ _ h => h) (.inl ⟨by rfl, fun w' hS' => by first | (go_simp; done) | (go_simp; rfl) | (go_simp; intro h; omega) | (go_simp; omega)⟩) hH ?_
      simp only [List.getElem_toArray, List.getElem_cons_succ, List.getElem_cons_zero, Act.put, List.setIfInBounds_toArray, List.set_cons_zero, List.set_cons_succ]
      refine wpAnyH_take (i := 25) (v := .int .i64 (y4 * 256 + y5)) rfl (by kernel_rfl) (by kernel_rfl) (by kernel_rfl) (fun _ _ _ h => h) (.inl ⟨by rfl, fun w' hS' => by first | (go_simp; done) | (go_simp; rfl) | (go_simp; intro h; omega) | (go_simp; omega)⟩) hH ?_
      simp only [List.getElem_toArray, List.getElem_cons_succ, List.getElem_cons_zero, Act.put, List.setIfInBounds_toArray, List.set_cons_zero, List.set_cons_succ]
      refine wpAnyH_take (i := 26) (v := .agg #[.int .i64 y0, .int .i64 y1, .int .i64 y2, .int .i64 (y4 * 256 + y5), .int .i64 y3]) rfl (by kernel_rfl) (by kernel_rfl) (by kernel_rfl) (fun _ _ _ h => h) (.inl ⟨by rfl, fun w' hS' => by first | (go_simp; done) | (go_simp; rfl) | (go_simp; intro h; omega) | (go_simp; omega)⟩) hH ?_
      simp only [List.getElem_toArray, List.getElem_cons_succ, List.getElem_cons_zero, Act.put, List.setIfInBounds_toArray, List.set_cons_zero, List.set_cons_succ]
      have bl := below_new v0 (.cells (dopA ⟨0, 0, 0, 0, 0⟩) 23)
      have hBx := boxJ_new v0 ⟨0, 0, 0, 0, 0⟩
      rw [hsz0] at hBx
      obtain ⟨v1, Hv1⟩ : ∃ v, Hid (v0.alloc (.cells #[.int .i64 0, .int .i64 0, .int .i64 0, .int .i64 0, .int .i64 0] 23) = v) := ⟨_, rfl⟩
      have e0 : v0.alloc (.cells (dopA ⟨0, 0, 0, 0, 0⟩) 23) = v1 := Hv1.out
      rw [e0] at bl hBx
      clear e0
      refine wpAnyH_ready (rs := [27]) (by kernel_rfl) (by simp) ?_
      refine AllReadyH.cons rfl (fun K hK => ?_) AllReadyH.nil
      simp only [List.getElem_toArray, List.getElem_cons_succ, List.getElem_cons_zero]
      rw [if_pos (by rfl)]
      go_wp2_with fail
      rw [Hv1.out]
      replace b := below_then b bl
      refine hK.out _ _ (HS6.out _ b) (fun hH => ?_)
      clear hK Hv1
      unfold BoxJ at hBx
      have f0 : v1.frozen? ⟨w.heap.size, 0, none⟩ = false := by simp [World.frozen?, hBx]
      have f1 : v1.frozen? ⟨w.heap.size, 1, none⟩ = false := by simp [World.frozen?, hBx]
      have f2 : v1.frozen? ⟨w.heap.size, 2, none⟩ = false := by simp [World.frozen?, hBx]
      have f3 : v1.frozen? ⟨w.heap.size, 3, none⟩ = false := by simp [World.frozen?, hBx]
      have f4 : v1.frozen? ⟨w.heap.size, 4, none⟩ = false := by simp [World.frozen?, hBx]
      have z0 : v1.cell? ⟨w.heap.size, 0, none⟩ = some (.int .i64 0) := by simp [World.cell?, hBx, dopA]
      have z1 : v1.cell? ⟨w.heap.size, 1, none⟩ = some (.int .i64 0) := by simp [World.cell?, hBx, dopA]
      have z2 : v1.cell? ⟨w.heap.size, 2, none⟩ = some (.int .i64 0) := by simp [World.cell?, hBx, dopA]
      have z3 : v1.cell? ⟨w.heap.size, 3, none⟩ = some (.int .i64 0) := by simp [World.cell?, hBx, dopA]
      have z4 : v1.cell? ⟨w.heap.size, 4, none⟩ = some (.int .i64 0) := by simp [World.cell?, hBx, dopA]
      have h1 := setCell_blk hBx 0 (.int .i64 y0)
      have h2 := setCell_blk h1 1 (.int .i64 y1)
      have h3 := setCell_blk h2 2 (.int .i64 y2)
      have h4 := setCell_blk h3 3 (.int .i64 (y4 * 256 + y5))
      have h5 := setCell_blk h4 4 (.int .i64 y3)
      have bS := ((((b.setCell (p := ⟨w.heap.size, 0, none⟩) (Nat.le_refl _) (.int .i64 y0)).setCell (p := ⟨w.heap.size, 1, none⟩) (Nat.le_refl _) (.int .i64 y1)).setCell (p := ⟨w.heap.size, 2, none⟩) (Nat.le_refl _) (.int .i64 y2)).setCell (p := ⟨w.heap.size, 3, none⟩) (Nat.le_refl _) (.int .i64 (y4 * 256 + y5))).setCell (p := ⟨w.heap.size, 4, none⟩) (Nat.le_refl _) (.int .i64 y3)
      obtain ⟨v2, Hv2⟩ : ∃ v, Hid (((((v1.setCell ⟨w.heap.size, 0, none⟩ (.int .i64 y0)).setCell ⟨w.heap.size, 1, none⟩ (.int .i64 y1)).setCell ⟨w.heap.size, 2, none⟩ (.int .i64 y2)).setCell ⟨w.heap.size, 3, none⟩ (.int .i64 (y4 * 256 + y5))).setCell ⟨w.heap.size, 4, none⟩ (.int .i64 y3) = v) := ⟨_, rfl⟩
      rw [Hv2.out] at bS h5
      have hBJ : BoxJ v2 w.heap.size (opJ xs) := by rw [HJ.out]; exact h5
      refine wpAnyH_ready (rs := [28]) (by kernel_rfl) (by simp) ?_
      refine AllReadyH.cons rfl (fun K hK => ?_) AllReadyH.nil
      simp only [List.getElem_toArray, List.getElem_cons_succ, List.getElem_cons_zero]
      rw [if_pos (by rfl)]
      go_wp2_with fail
      rw [Hv2.out]
      refine hK.out _ _ (HS6.out _ bS) (fun hH => ?_)
      clear hK
      refine wpAnyH_done (by kernel_rfl) ?_ _
      go_wp2_with fail
      go_meet
      exact ⟨rfl, hBJ, bS⟩
    case rest =>
      obtain ⟨rfl, hBJ, bc⟩ := hcut
      obtain ⟨w1, rfl⟩ : ∃ w1, w1 = wc := ⟨_, rfl⟩
      clear W0 W1 W2 W3 W4 W5 W6 W7 d0 d1 d2 d3 d4 d5 p0 p0' p1 p1' p2 p2' p3 p3' p4 p4' p5 p5' HJ
      obtain ⟨o, Ho⟩ : ∃ o, Hid (opJ xs = o) := ⟨_, rfl⟩
      have Hfo : Hid (fitsO o = true) := by rw [← Ho.out]; exact op_fits HY.out
      have Hgi : Hid (goodB xs 0 ↔ seven o = xs.take 7) := by rw [← Ho.out]; exact good_iff (by rw [Hn.out]; exact h7) HY.out
      rw [Ho.out] at hBJ
      obtain ⟨q0, q1, q2, q3, q4⟩ := hBJ.cells
      go_wp2_with fail
      refine (rwrite_any o w1).mono ?_
      rintro e w2 ⟨r, rfl, hOr⟩
      have E : writeJ o = (seven o, 0) := by simp [writeJ, Hfo.out]
      rw [E] at hOr ⊢
      have b2 := hOr.2.1
      have hBr := hOr.bytes (by show 7 ≤ _; omega) (seven_byte Hfo.out)
      obtain ⟨ra, rc, rfl⟩ := hOr.slice
      have es : (seven o).length = 7 := rfl
      rw [es] at hBr ⊢
      simp only
      have c2 := below_then bc b2
      have hB2 := hBJ.below b2
      clear q0 q1 q2 q3 q4 hBJ E es hOr
      have hV7 := (hv.below c2).take (n := 7) h7
      have hl7 : (xs.take 7).length = 7 := by rw [List.length_take, Hn.out]; omega
      obtain ⟨s1, Hs1⟩ : ∃ s, Hid (strJ (seven o) = s) := ⟨_, rfl⟩
      obtain ⟨s2, Hs2⟩ : ∃ s, Hid (strJ (xs.take 7) = s) := ⟨_, rfl⟩
      have k1 : ∀ m, (convert 24 9 (.slice ra 7 rc)).run Try.prog (w2.drewN m) = .ok (.string s1) (w2.drewN m) := fun m => by
        rw [← Hs1.out]
        exact conv_bytes _ _ _ (seven o) (hBr.below (below_drewN (Below.refl _ _) m))
      have k2 : ∀ m, (convert 24 9 (.slice (some ⟨vb, vo, none⟩) 7 cap)).run Try.prog (w2.drewN m) = .ok (.string s2) (w2.drewN m) := fun m => by
        rw [← Hs2.out]
        have := conv_bytes (w2.drewN m) (some ⟨vb, vo, none⟩) cap (xs.take 7) (by rw [hl7]; exact hV7.below (below_drewN (Below.refl _ _) m))
        rw [hl7] at this
        exact this
      have c2d := c2.drew
      have hB2d := hB2.below (Below.refl _ _).drew
      have Hinj : Hid (s1 = s2 ↔ goodB xs 0) := by
        show _ ↔ _
        rw [Hgi.out, ← Hs1.out, ← Hs2.out]
        exact ⟨fun q => strJ_inj (seven_byte Hfo.out) (byte_take HY.out 7) q, fun q => by rw [q]⟩
      clear hBr hV7 hl7 Hs1 Hs2
      go_upto_region 5 with fail
      by_cases hse : s1 = s2
      · have Hg : Hid (goodB xs 0) := Hinj.out.1 hse
        subst hse
        refine wp_region_held_drew (S := (fun w' => (convert 24 9 (.slice ra 7 rc)).run Try.prog w' = .ok (.string s1) w' ∧ (convert 24 9 (.slice (some ⟨vb, vo, none⟩) 7 cap)).run Try.prog w' = .ok (.string s1) w')) (by kernel_rfl) ⟨k1 1, k2 1⟩ (fun hH => ?_)
        refine wpAnyH_take (i := 0) (v := .slice ra 7 rc) rfl (by kernel_rfl) (by kernel_rfl) (by kernel_rfl) (fun _ _ _ h => h) (.inl ⟨by rfl, fun _ _ => rfl⟩) hH ?_
        simp only [List.getElem_toArray, List.getElem_cons_succ, List.getElem_cons_zero, Act.put, List.setIfInBounds_toArray, List.set_cons_zero, List.set_cons_succ]
        refine wpAnyH_take (i := 1) (v := .string s1) rfl (by kernel_rfl) (by kernel_rfl) (by kernel_rfl) (fun _ _ _ h => h) (.inl ⟨by rfl, fun w' hS' => by obtain ⟨s0, s1⟩ := hS'; go_simp⟩) hH ?_
        simp only [List.getElem_toArray, List.getElem_cons_succ, List.getElem_cons_zero, Act.put, List.setIfInBounds_toArray, List.set_cons_zero, List.set_cons_succ]
        refine wpAnyH_take (i := 2) (v := .slice (some ⟨vb, vo, none⟩) n cap) rfl (by kernel_rfl) (by kernel_rfl) (by kernel_rfl) (fun _ _ _ h => h) (.inl ⟨by rfl, fun _ _ => rfl⟩) hH ?_
        simp only [List.getElem_toArray, List.getElem_cons_succ, List.getElem_cons_zero, Act.put, List.setIfInBounds_toArray, List.set_cons_zero, List.set_cons_succ]
        refine wpAnyH_take (i := 3) (v := .slice (some ⟨vb, vo, none⟩) 7 cap) rfl (by kernel_rfl) (by kernel_rfl) (by kernel_rfl) (fun _ _ _ h => h) (.inl ⟨by rfl, fun w' hS' => by first | (go_simp; done) | (go_simp; rfl) | (go_simp; intro h; omega) | (go_simp; omega)⟩) hH ?_
        simp only [List.getElem_toArray, List.getElem_cons_succ, List.getElem_cons_zero, Act.put, List.setIfInBounds_toArray, List.set_cons_zero, List.set_cons_succ]
        refine wpAnyH_take (i := 4) (v := .string s1) rfl (by kernel_rfl) (by kernel_rfl) (by kernel_rfl) (fun _ _ _ h => h) (.inl ⟨by rfl, fun w' hS' => by obtain ⟨s0, s1⟩ := hS'; go_simp⟩) hH ?_
        simp only [List.getElem_toArray, List.getElem_cons_succ, List.getElem_cons_zero, Act.put, List.setIfInBounds_toArray, List.set_cons_zero, List.set_cons_succ]
        refine wpAnyH_take (i := 5) (v := .bool false) rfl (by kernel_rfl) (by kernel_rfl) (by kernel_rfl) (fun _ _ _ h => h) (.inl ⟨by rfl, fun w' hS' => by first | (go_simp; done) | (go_simp; rfl) | (go_simp; intro h; omega) | (go_simp; omega)⟩) hH ?_
        simp only [List.getElem_toArray, List.getElem_cons_succ, List.getElem_cons_zero, Act.put, List.setIfInBounds_toArray, List.set_cons_zero, List.set_cons_succ]
        refine wpAnyH_done (by kernel_rfl) ?_ _

        obtain ⟨w3, Hw3⟩ : ∃ v, Hid (w2.drew = v) := ⟨_, rfl⟩
        rw [Hw3.out] at c2d hB2d ⊢
        clear Hw3 k1 k2 c2 hB2 b2 bc
        have hDr := (hv.below c2d).drop (n := 7) h7
        have h7x : 7 ≤ xs.length := by rw [Hn.out]; exact h7
        have hlim : 7 * (xs.drop 7).length ≤ 172403423235309 := by rw [List.length_drop, Hn.out]; omega
        have Hln : Hid ((xs.drop 7).length = n - 7) := by show _ = _; rw [List.length_drop, Hn.out]
        have hncap : n ≤ cap := hsh.1
        clear hsh
        by_cases hc7 : cap = 7
        · subst hc7
          rw [if_pos rfl] at hDr
          have em : n - 7 = 0 := by omega
          rw [em] at hDr
          go_wp2_with fail
          refine (HIH.out _ w3 (by exact hDr) h7x).mono ?_
          rintro e w4 ⟨r4, l4, d4, rfl, hO4, hR4⟩
          have hrm := hR4.room
          rw [Hln.out] at hrm
          have HRf : Hid (ReadOk xs (o :: l4) d4) := by rw [← Ho.out]; exact hR4.cons h7x Hg.out
          have b4 := hO4.2.1
          have c4 := below_then c2d b4
          have hB4 := hB2d.below b4
          have hD4 := hO4.dops (by omega)
          obtain ⟨la, lc, rfl⟩ := hO4.slice
          obtain ⟨k, Hk⟩ : ∃ k, Hid (l4.length = k) := ⟨_, rfl⟩
          rw [Hk.out] at hD4 hrm ⊢
          obtain ⟨q0, q1, q2, q3, q4⟩ := hB4.cells
          have bl := below_new w4 (.cells (dopA o) 23)
          have hNw := heap_new_j w4 (.cells (dopA o) 23)
          obtain ⟨w5, Hw5⟩ : ∃ v, Hid (w4.alloc (.cells #[.int .i64 o.kind, .int .i64 o.user, .int .i64 o.tran, .int .i64 o.item, .int .i64 o.hand] 23) = v) := ⟨_, rfl⟩
          have e5 : w4.alloc (.cells (dopA o) 23) = w5 := Hw5.out
          rw [e5] at bl hNw
          clear e5
          obtain ⟨Bl, HBl⟩ : ∃ v, Hid (w4.heap.size = v) := ⟨_, rfl⟩
          rw [HBl.out] at hNw
          have c5 := below_then c4 bl
          have hwB : w.heap.size ≤ Bl := by rw [← HBl.out]; exact c4.size
          have hO5 : OwnO w.heap.size w w5 (.slice (some ⟨Bl, 0, none⟩) 1 1) [o] := ⟨⟨rfl, .inr ⟨Bl, 1, dopA o, rfl, hwB, hNw, by simp, by unfold maxLen; omega, rfl, rfl⟩⟩, c5, c5.size⟩
          have hD5 := hD4.below bl
          have HL : Hid ((o :: l4).length = k + 1) := by show _ = _; rw [List.length_cons, Hk.out]
          have hk9 : k ≤ 3518437208883 := by omega
          have hk10 : (7 * (k : Int)) ≤ 24629060462187 := by omega
          have hlb : ([o] : List DOp).length + l4.length ≤ 3518437208883 := by rw [Hk.out]; show 1 + k ≤ _; omega
          clear hO4 hR4 hB4 hD4 hNw bl hDr hv
          go_wp2_with (rw [Hw5.out, HBl.out]; at_builtin; refine wp_append_dops rfl _ _ rfl w.heap.size w w5 _ _ [o] l4 hO5 ?_ ?_ hD5 hlb ?_; (focus rfl); (focus rfl); intro v' w6 hO6)
          go_ret3
          exact ⟨v', o :: l4, d4, by rw [HL.out]; go_num, hO6, HRf.out⟩
        · rw [if_neg hc7] at hDr
          go_wp2_with fail
          refine (HIH.out _ w3 (by exact hDr) h7x).mono ?_
          rintro e w4 ⟨r4, l4, d4, rfl, hO4, hR4⟩
          have hrm := hR4.room
          rw [Hln.out] at hrm
          have HRf : Hid (ReadOk xs (o :: l4) d4) := by rw [← Ho.out]; exact hR4.cons h7x Hg.out
          have b4 := hO4.2.1
          have c4 := below_then c2d b4
          have hB4 := hB2d.below b4
          have hD4 := hO4.dops (by omega)
          obtain ⟨la, lc, rfl⟩ := hO4.slice
          obtain ⟨k, Hk⟩ : ∃ k, Hid (l4.length = k) := ⟨_, rfl⟩
          rw [Hk.out] at hD4 hrm ⊢
          obtain ⟨q0, q1, q2, q3, q4⟩ := hB4.cells
          have bl := below_new w4 (.cells (dopA o) 23)
          have hNw := heap_new_j w4 (.cells (dopA o) 23)
          obtain ⟨w5, Hw5⟩ : ∃ v, Hid (w4.alloc (.cells #[.int .i64 o.kind, .int .i64 o.user, .int .i64 o.tran, .int .i64 o.item, .int .i64 o.hand] 23) = v) := ⟨_, rfl⟩
          have e5 : w4.alloc (.cells (dopA o) 23) = w5 := Hw5.out
          rw [e5] at bl hNw
          clear e5
          obtain ⟨Bl, HBl⟩ : ∃ v, Hid (w4.heap.size = v) := ⟨_, rfl⟩
          rw [HBl.out] at hNw
          have c5 := below_then c4 bl
          have hwB : w.heap.size ≤ Bl := by rw [← HBl.out]; exact c4.size
          have hO5 : OwnO w.heap.size w w5 (.slice (some ⟨Bl, 0, none⟩) 1 1) [o] := ⟨⟨rfl, .inr ⟨Bl, 1, dopA o, rfl, hwB, hNw, by simp, by unfold maxLen; omega, rfl, rfl⟩⟩, c5, c5.size⟩
          have hD5 := hD4.below bl
          have HL : Hid ((o :: l4).length = k + 1) := by show _ = _; rw [List.length_cons, Hk.out]
          have hk9 : k ≤ 3518437208883 := by omega
          have hk10 : (7 * (k : Int)) ≤ 24629060462187 := by omega
          have hlb : ([o] : List DOp).length + l4.length ≤ 3518437208883 := by rw [Hk.out]; show 1 + k ≤ _; omega
          clear hO4 hR4 hB4 hD4 hNw bl hDr hv
          go_wp2_with (rw [Hw5.out, HBl.out]; at_builtin; refine wp_append_dops rfl _ _ rfl w.heap.size w w5 _ _ [o] l4 hO5 ?_ ?_ hD5 hlb ?_; (focus rfl); (focus rfl); intro v' w6 hO6)
          go_ret3
          exact ⟨v', o :: l4, d4, by rw [HL.out]; go_num, hO6, HRf.out⟩
      · have hne : ¬ s1.toList = s2.toList := text_ne hse
        refine wp_region_held_drew (S := (fun w' => (convert 24 9 (.slice ra 7 rc)).run Try.prog w' = .ok (.string s1) w' ∧ (convert 24 9 (.slice (some ⟨vb, vo, none⟩) 7 cap)).run Try.prog w' = .ok (.string s2) w')) (by kernel_rfl) ⟨k1 1, k2 1⟩ (fun hH => ?_)
        refine wpAnyH_take (i := 0) (v := .slice ra 7 rc) rfl (by kernel_rfl) (by kernel_rfl) (by kernel_rfl) (fun _ _ _ h => h) (.inl ⟨by rfl, fun _ _ => rfl⟩) hH ?_
        simp only [List.getElem_toArray, List.getElem_cons_succ, List.getElem_cons_zero, Act.put, List.setIfInBounds_toArray, List.set_cons_zero, List.set_cons_succ]
        refine wpAnyH_take (i := 1) (v := .string s1) rfl (by kernel_rfl) (by kernel_rfl) (by kernel_rfl) (fun _ _ _ h => h) (.inl ⟨by rfl, fun w' hS' => by obtain ⟨s0, s1⟩ := hS'; go_simp⟩) hH ?_
        simp only [List.getElem_toArray, List.getElem_cons_succ, List.getElem_cons_zero, Act.put, List.setIfInBounds_toArray, List.set_cons_zero, List.set_cons_succ]
        refine wpAnyH_take (i := 2) (v := .slice (some ⟨vb, vo, none⟩) n cap) rfl (by kernel_rfl) (by kernel_rfl) (by kernel_rfl) (fun _ _ _ h => h) (.inl ⟨by rfl, fun _ _ => rfl⟩) hH ?_
        simp only [List.getElem_toArray, List.getElem_cons_succ, List.getElem_cons_zero, Act.put, List.setIfInBounds_toArray, List.set_cons_zero, List.set_cons_succ]
        refine wpAnyH_take (i := 3) (v := .slice (some ⟨vb, vo, none⟩) 7 cap) rfl (by kernel_rfl) (by kernel_rfl) (by kernel_rfl) (fun _ _ _ h => h) (.inl ⟨by rfl, fun w' hS' => by first | (go_simp; done) | (go_simp; rfl) | (go_simp; intro h; omega) | (go_simp; omega)⟩) hH ?_
        simp only [List.getElem_toArray, List.getElem_cons_succ, List.getElem_cons_zero, Act.put, List.setIfInBounds_toArray, List.set_cons_zero, List.set_cons_succ]
        refine wpAnyH_take (i := 4) (v := .string s2) rfl (by kernel_rfl) (by kernel_rfl) (by kernel_rfl) (fun _ _ _ h => h) (.inl ⟨by rfl, fun w' hS' => by obtain ⟨s0, s1⟩ := hS'; go_simp⟩) hH ?_
        simp only [List.getElem_toArray, List.getElem_cons_succ, List.getElem_cons_zero, Act.put, List.setIfInBounds_toArray, List.set_cons_zero, List.set_cons_succ]
        refine wpAnyH_take (i := 5) (v := .bool true) rfl (by kernel_rfl) (by kernel_rfl) (by kernel_rfl) (fun _ _ _ h => h) (.inl ⟨by rfl, fun w' hS' => by first | (go_simp; done) | (go_simp; exact hne)⟩) hH ?_
        simp only [List.getElem_toArray, List.getElem_cons_succ, List.getElem_cons_zero, Act.put, List.setIfInBounds_toArray, List.set_cons_zero, List.set_cons_succ]
        refine wpAnyH_done (by kernel_rfl) ?_ _

        have R : Hid (ReadOk xs [] 8) := ⟨by simp, fun j hj => absurd hj (by simp), .inr ⟨rfl, by rw [Hn.out]; simp; omega, fun q => hse (Hinj.out.2 q)⟩⟩
        clear k1 k2
        go_wp2
        go_ret3
        exact ⟨.slice none 0 0, [], 8, rfl, ⟨World.ownsRow_nil _ _ _ _, c2d, c2d.size⟩, R.out⟩
  · have hi7 : (n : Int) < 7 := by omega
    have R : Hid (ReadOk xs [] 0) := ⟨by simp, fun j hj => absurd hj (by simp), .inl ⟨rfl, by rw [Hn.out]; simp; omega⟩⟩
    go_enter Try.func10, Try.ntmps10
    go_wp2
    go_ret3
    exact ⟨.slice none 0 0, [], 0, rfl, OwnO.nil _, R.out⟩

theorem rread_all (m : Nat) : ∀ (v : Value) (xs : List Int) (w : World), BytesV w v xs → xs.length < 7 * (m + 1) → Calls Try.prog 10 #[v] w (ReadV w xs) := by
  induction m with
  | zero => intro v xs w hv hl; exact rread_step v xs w hv fun v' w' _ h => absurd h (by omega)
  | succ m ih => intro v xs w hv hl; exact rread_step v xs w hv fun v' w' h h7 => ih v' (xs.drop 7) w' h (by rw [List.length_drop]; omega)
theorem rread_any (v : Value) (xs : List Int) (w : World) (hv : BytesV w v xs) : Calls Try.prog 10 #[v] w (ReadV w xs) := rread_all (xs.length / 7) v xs w hv (by omega)

end Go.Proofs.Yteohpkicbkhpjaa
