import Derived.Test.YtaladbcocealnaaGr26
import Derived.Lib.MinMax
import Derived.Test.YtaladbcocealnaaGr01
/- Package hall as it landed: a crash. (Made by tools/gen_halldev3.py.) -/
namespace Go.Proofs.Ytaladbcocealnaa
open Go.RowKit
set_option linter.unusedVariables false
set_option linter.unusedSimpArgs false
set_option maxRecDepth 4000

/-- The first office, the other one behind it. -/
def firstS (X : Array Value) (wv sv : Value) : Spot := ⟨0, #[], X ++ #[wv, sv], 68, rfl⟩
theorem written_take (ws : List DOp) {left : Nat} (hl : left ≤ ws.length) : (writtenL ws).take (7 * left) = writtenL (ws.take left) := by
  have e : writtenL ws = writtenL (ws.take left) ++ writtenL (ws.drop left) := by
    rw [writtenL, writtenL, writtenL, ← List.flatMap_append, List.take_append_drop]
  rw [e, List.take_left']
  rw [written_length, List.length_take]
  omega
theorem ownsRow_low {w : World} {B B' : Nat} {e : TypeId} {size : Nat} {v : Value} {n : Nat} {xs : List Value} (h : w.ownsRow B e size v n xs) (hB : B' ≤ B) : w.ownsRow B' e size v n xs :=
  ⟨h.1, by
    rcases h.2 with q | ⟨g, cap, cur, e, hg, rest⟩
    · exact .inl q
    · exact .inr ⟨g, cap, cur, e, Nat.le_trans hB hg, rest⟩⟩
theorem ownBlock_len (a : Option Addr) (l c l' c' : Nat) : (Value.slice a l c).ownBlock = (Value.slice a l' c').ownBlock := by cases a <;> rfl
theorem ownsRow_len {w : World} {B : Nat} {e : TypeId} {size : Nat} {a : Option Addr} {l c n : Nat} {xs : List Value} (h : w.ownsRow B e size (.slice a l c) n xs) : l = n := by
  rcases h.2 with ⟨e, e2⟩ | ⟨g, cap, cur, e, _⟩
  · injection e with _ e _; omega
  · injection e with _ e _
theorem ownsRow_head {w : World} {B : Nat} {e : TypeId} {size : Nat} {a : Option Addr} {l c n : Nat} {xs : List Value} (h : w.ownsRow B e size (.slice a l c) n xs) (hn : 0 < n) : ∃ g, a = some ⟨g, 0, none⟩ := by
  rcases h.2 with ⟨e, e2⟩ | ⟨g, cap, cur, e, _⟩
  · omega
  · injection e with e _ _; exact ⟨_, e⟩
theorem row_taken {w : World} {B : Nat} {wa : Option Addr} {wl wc left : Nat} {ws : List DOp} (h : w.ownsRow B 5 1 (.slice wa wl wc) (writtenL ws).length ((writtenL ws).map (Value.int .u8))) (hl : left ≤ ws.length) :
    w.ownsRow B 5 1 (.slice wa (7 * left) wc) (writtenL (ws.take left)).length ((writtenL (ws.take left)).map (Value.int .u8)) := by
  have hle : 7 * left ≤ (writtenL ws).length := by rw [written_length]; omega
  have e1 : (writtenL (ws.take left)).length = 7 * left := by rw [written_length, List.length_take]; omega
  rcases id h.2 with ⟨e, h0⟩ | ⟨g, cap, cur, e, _⟩
  · injection e with ea eb ec
    have hl0 : left = 0 := by omega
    subst ea ec hl0
    exact World.ownsRow_nil _ _ _ _
  · injection e with ea eb ec
    subst ea eb ec
    have := ownsRow_short h hle
    rw [Nat.mul_one, ← List.map_take, written_take ws hl] at this
    rw [e1]
    exact this

set_option maxHeartbeats 8000000 in
theorem crash_any {L Bh B : Nat} {n : NetL} {roles : List (List Int)} {first : DeskL} {h : HallL} {F : Nat → Prop} (o : HOp) (ho : o.kind = 3) (w : World) (H : HallAt L w Bh B n roles first h F) (hInv : HallInv n roles first h) (hfirst : DeskInv n roles first) (hitems : first.items = []) (hB : B ≤ w.heap.size) (hw : 7 * h.ws.length ≤ 24629060462187) :
    Calls Try.prog 36 #[.pointer (some ⟨Bh, 0, none⟩), .int .i64 o.keep] w fun e w' => e = .returned (.tuple #[]) ∧ HallAt L w' Bh B n roles first (hallDo n roles first h o).1 F ∧ KeepH Bh B F w w' := by
  obtain ⟨iv, wv, fm, fb, ftv, hOf, hRest, hF⟩ := H
  obtain ⟨wa, wl, wc, rfl⟩ := ownsRow_slice hRest.row
  obtain ⟨WL, HWL⟩ : ∃ n, Hid ((writtenL h.ws).length = n) := ⟨_, rfl⟩
  have HWL7 : Hid (WL = 7 * h.ws.length) := by show _ = _; rw [← HWL.out, written_length]
  have hBy : BytesV w (.slice wa wl wc) (writtenL h.ws) := OwnU.bytes (w := w) (B := B) ⟨hRest.row, ⟨rfl, rfl, rfl, Nat.le_refl _, fun _ _ => rfl⟩, hB⟩ (by rw [written_length]; exact hw) (written_byte hInv.fit)
  obtain ⟨wa', wc', e, hWL, hWs⟩ := hBy.slice
  injection e with e1 e2 e3
  rw [HWL.out] at e2 hWs
  subst e1 e2 e3
  obtain ⟨SU, HSU⟩ : ∃ n, Hid (7 * h.sure = n) := ⟨_, rfl⟩
  obtain ⟨LE, HLE⟩ : ∃ n, Hid (n = min (max o.keep 0).toNat (wl - SU)) := ⟨_, rfl⟩
  obtain ⟨left, Hleft⟩ : ∃ n, Hid (leftH h o.keep = n) := ⟨_, rfl⟩
  have hsure := hInv.sure
  have hleft : (SU + LE) / 7 = left := by
    have e1 := HWL7.out; have e2 := HSU.out; have e3 := HLE.out; have e4 := Hleft.out
    unfold leftH at e4
    omega
  have hSL : SU + LE ≤ wl := by have e1 := HWL7.out; have e2 := HSU.out; have e3 := HLE.out; omega
  have HRd : Hid (ReadOk ((writtenL h.ws).take (SU + LE)) (h.ws.take left) 0) := by
    have := read_back (l := h.ws) (n := SU + LE) hInv.fit (by have := HWL7.out; omega)
    rw [hleft] at this
    exact this
  have HBh : Hid (Bh < w.heap.size) := by obtain ⟨_, _, _, _, _, _, _, h, _⟩ := hOf; exact h.cells.lt
  have HB : Hid (B ≤ w.heap.size) := hB
  have HBy : Hid (BytesV w (.slice wa (SU + LE) wc) ((writtenL h.ws).take (SU + LE))) := hBy.take hSL
  have hSLc : SU + LE ≤ wc := Nat.le_trans hSL hWs.1
  have hSU : SU ≤ wl := by have e1 := HWL7.out; have e2 := HSU.out; omega
  obtain ⟨kp, Hkp⟩ : ∃ kp, Hid (o.keep = kp) := ⟨_, rfl⟩
  have HLEi : Hid (min (max kp 0) ((wl : Int) - (SU : Int)) = (LE : Int)) := by
    have e := HLE.out
    rw [Hkp.out] at e
    show _ = _
    omega
  have Hll : Hid ((h.ws.take left).length = left) := by
    have e1 := HWL7.out
    show _ = _
    rw [List.length_take]
    omega
  have HTL : Hid (7 * left ≤ SU + LE) := by show _ ≤ _; omega
  have Hcr : Hid ((hallDo n roles first h o).1 = ⟨(deskPlay n roles first (h.ws.take left)).1, h.ws.take left, left⟩) := by
    show _ = _
    rw [crash_desk n roles first h o ho, Hleft.out]
  have Hinv0 : Hid (DeskInv n roles first) := hfirst
  have HF : Hid (∀ R, F R → Bh < R ∧ iv.ownBlock ≠ some R ∧ (Value.slice wa wl wc).ownBlock ≠ some R) := hF
  obtain ⟨ma, ba, ml, mc, bl, bc, tv, hO, hfar⟩ := hOf
  have HIv : Hid (∀ g, iv.ownBlock = some g → B ≤ g) := fun g e => (hO.row.lt g e).1
  have q442 : w.cell? ⟨Bh, 442, none⟩ = some (.slice wa wl wc) := hO.written
  have q443 : w.cell? ⟨Bh, 443, none⟩ = some (.int .i64 ((7 * h.sure : Nat) : Int)) := hO.sure
  rw [HSU.out] at q443
  obtain ⟨X, HX⟩ : ∃ X, Hid (offA (.slice ma ml mc) (.slice ba bl bc) iv (.int .i64 n.places) tv (mayG roles) = X) := ⟨_, rfl⟩
  have hXs : X.size = 221 := by rw [← HX.out]; exact offA_size _ _ _ _ _ _
  have hC : CellsAt w Bh ((hallS fm fb ftv n roles (.slice wa wl wc) h.sure).all X) 68 := by rw [← HX.out]; exact hO.cells
  have hmax : (0 : Int) ≤ max kp 0 := by omega
  have hwlb : wl ≤ 24629060462187 := by rw [← HWL.out]; exact hWL
  have hw1 : IntKind.i64.wrap ((wl : Int) - (SU : Int)) = (wl : Int) - (SU : Int) := Go.IntWalk.i64_in _ (by omega)
  have hw2 : IntKind.i64.wrap ((SU : Int) + (LE : Int)) = (SU : Int) + (LE : Int) := Go.IntWalk.i64_in _ (by omega)
  have hi1 : (SU : Int) + (LE : Int) ≤ (wc : Int) := by omega
  have HfarF : Hid (∀ R, F R → R < w.heap.size) := fun R hR => (hfar R (.inr hR)).1
  rw [Hkp.out]
  clear hO hfar hBy hB hF hfirst hInv hleft HX
  go_enter Try.func36, Try.ntmps36
  go_upto_region 0 with fail
  have HS : Hid (∀ w', Below w.heap.size w w' → w'.cell? ⟨Bh, 442, none⟩ = some (.slice wa wl wc) ∧ w'.cell? ⟨Bh, 443, none⟩ = some (.int .i64 (SU : Int))) := fun w' hb => ⟨(hb.cell (p := ⟨Bh, 442, none⟩) HBh.out).trans q442, (hb.cell (p := ⟨Bh, 443, none⟩) HBh.out).trans q443⟩
  refine wp_region_held_drew (S := (fun w' => w'.cell? ⟨Bh, 442, none⟩ = some (.slice wa wl wc) ∧ w'.cell? ⟨Bh, 443, none⟩ = some (.int .i64 (SU : Int)))) (by kernel_rfl) (HS.out _ (Below.refl _ _).drew) (fun hH => ?_)
  have b0 : Below w.heap.size w w.drew := (Below.refl _ _).drew
  obtain ⟨w1, Hw1⟩ : ∃ v0, Hid (w.drew = v0) := ⟨_, rfl⟩
  rw [Hw1.out] at hH b0 ⊢
  clear Hw1
  refine wpAnyH_take (i := 0) (v := .int .i64 kp) rfl (by kernel_rfl) (by kernel_rfl) (by kernel_rfl) (fun _ _ _ h => h) (.inl ⟨by rfl, fun _ _ => rfl⟩) hH ?_
  simp only [List.getElem_toArray, List.getElem_cons_succ, List.getElem_cons_zero, Act.put, List.setIfInBounds_toArray, List.set_cons_zero, List.set_cons_succ]
  refine wpAnyH_take (i := 1) (v := .int .i64 (max kp 0)) rfl (by kernel_rfl) (by kernel_rfl) (by kernel_rfl) (fun _ _ _ h => h) (.inl ⟨by rfl, fun w' hS' => by first | (go_simp; done) | (go_simp; rfl) | (go_simp; intro h; omega) | (go_simp; omega)⟩) hH ?_
  simp only [List.getElem_toArray, List.getElem_cons_succ, List.getElem_cons_zero, Act.put, List.setIfInBounds_toArray, List.set_cons_zero, List.set_cons_succ]
  refine wpAnyH_take (i := 2) (v := .pointer (some ⟨Bh, 0, none⟩)) rfl (by kernel_rfl) (by kernel_rfl) (by kernel_rfl) (fun _ _ _ h => h) (.inl ⟨by rfl, fun _ _ => rfl⟩) hH ?_
  simp only [List.getElem_toArray, List.getElem_cons_succ, List.getElem_cons_zero, Act.put, List.setIfInBounds_toArray, List.set_cons_zero, List.set_cons_succ]
  refine wpAnyH_take (i := 3) (v := .pointer (some ⟨Bh, 0, none⟩)) rfl (by kernel_rfl) (by kernel_rfl) (by kernel_rfl) (fun _ _ _ h => h) (.inl ⟨by rfl, fun w' hS' => by first | (go_simp; done) | (go_simp; rfl) | (go_simp; intro h; omega) | (go_simp; omega)⟩) hH ?_
  simp only [List.getElem_toArray, List.getElem_cons_succ, List.getElem_cons_zero, Act.put, List.setIfInBounds_toArray, List.set_cons_zero, List.set_cons_succ]
  refine wpAnyH_take (i := 4) (v := .pointer (some ⟨Bh, 442, none⟩)) rfl (by kernel_rfl) (by kernel_rfl) (by kernel_rfl) (fun _ _ _ h => h) (.inl ⟨by rfl, fun w' hS' => by first | (go_simp; done) | (go_simp; rfl) | (go_simp; intro h; omega) | (go_simp; omega)⟩) hH ?_
  simp only [List.getElem_toArray, List.getElem_cons_succ, List.getElem_cons_zero, Act.put, List.setIfInBounds_toArray, List.set_cons_zero, List.set_cons_succ]
  refine wpAnyH_take (i := 5) (v := .slice wa wl wc) rfl (by kernel_rfl) (by kernel_rfl) (by kernel_rfl) (fun _ _ _ h => h) (.inl ⟨by rfl, fun w' hS' => by obtain ⟨s0, s1⟩ := hS'; go_simp⟩) hH ?_
  simp only [List.getElem_toArray, List.getElem_cons_succ, List.getElem_cons_zero, Act.put, List.setIfInBounds_toArray, List.set_cons_zero, List.set_cons_succ]
  refine wpAnyH_take (i := 6) (v := .int .i64 (wl : Int)) rfl (by kernel_rfl) (by kernel_rfl) (by kernel_rfl) (fun _ _ _ h => h) (.inl ⟨by rfl, fun w' hS' => by first | (go_simp; done) | (go_simp; rfl) | (go_simp; intro h; omega) | (go_simp; omega)⟩) hH ?_
  simp only [List.getElem_toArray, List.getElem_cons_succ, List.getElem_cons_zero, Act.put, List.setIfInBounds_toArray, List.set_cons_zero, List.set_cons_succ]
  refine wpAnyH_take (i := 7) (v := .pointer (some ⟨Bh, 0, none⟩)) rfl (by kernel_rfl) (by kernel_rfl) (by kernel_rfl) (fun _ _ _ h => h) (.inl ⟨by rfl, fun _ _ => rfl⟩) hH ?_
  simp only [List.getElem_toArray, List.getElem_cons_succ, List.getElem_cons_zero, Act.put, List.setIfInBounds_toArray, List.set_cons_zero, List.set_cons_succ]
  refine wpAnyH_take (i := 8) (v := .pointer (some ⟨Bh, 0, none⟩)) rfl (by kernel_rfl) (by kernel_rfl) (by kernel_rfl) (fun _ _ _ h => h) (.inl ⟨by rfl, fun w' hS' => by first | (go_simp; done) | (go_simp; rfl) | (go_simp; intro h; omega) | (go_simp; omega)⟩) hH ?_
  simp only [List.getElem_toArray, List.getElem_cons_succ, List.getElem_cons_zero, Act.put, List.setIfInBounds_toArray, List.set_cons_zero, List.set_cons_succ]
  refine wpAnyH_take (i := 9) (v := .pointer (some ⟨Bh, 443, none⟩)) rfl (by kernel_rfl) (by kernel_rfl) (by kernel_rfl) (fun _ _ _ h => h) (.inl ⟨by rfl, fun w' hS' => by first | (go_simp; done) | (go_simp; rfl) | (go_simp; intro h; omega) | (go_simp; omega)⟩) hH ?_
  simp only [List.getElem_toArray, List.getElem_cons_succ, List.getElem_cons_zero, Act.put, List.setIfInBounds_toArray, List.set_cons_zero, List.set_cons_succ]
  refine wpAnyH_take (i := 10) (v := .int .i64 (SU : Int)) rfl (by kernel_rfl) (by kernel_rfl) (by kernel_rfl) (fun _ _ _ h => h) (.inl ⟨by rfl, fun w' hS' => by obtain ⟨s0, s1⟩ := hS'; go_simp⟩) hH ?_
  simp only [List.getElem_toArray, List.getElem_cons_succ, List.getElem_cons_zero, Act.put, List.setIfInBounds_toArray, List.set_cons_zero, List.set_cons_succ]
  refine wpAnyH_take (i := 11) (v := .int .i64 ((wl : Int) - (SU : Int))) rfl (by kernel_rfl) (by kernel_rfl) (by kernel_rfl) (fun _ _ _ h => h) (.inl ⟨by rfl, fun w' hS' => by first | (go_simp; done) | (go_simp; rfl) | (go_simp; intro h; omega) | (go_simp; omega)⟩) hH ?_
  simp only [List.getElem_toArray, List.getElem_cons_succ, List.getElem_cons_zero, Act.put, List.setIfInBounds_toArray, List.set_cons_zero, List.set_cons_succ]
  refine wpAnyH_take (i := 12) (v := .int .i64 (min (max kp 0) ((wl : Int) - (SU : Int)))) rfl (by kernel_rfl) (by kernel_rfl) (by kernel_rfl) (fun _ _ _ h => h) (.inl ⟨by rfl, fun w' hS' => by first | (go_simp; done) | (go_simp; rfl) | (go_simp; intro h; omega) | (go_simp; omega)⟩) hH ?_
  simp only [List.getElem_toArray, List.getElem_cons_succ, List.getElem_cons_zero, Act.put, List.setIfInBounds_toArray, List.set_cons_zero, List.set_cons_succ]
  refine wpAnyH_take (i := 13) (v := .int .i64 (min (max kp 0) ((wl : Int) - (SU : Int)))) rfl (by kernel_rfl) (by kernel_rfl) (by kernel_rfl) (fun _ _ _ h => h) (.inl ⟨by rfl, fun _ _ => rfl⟩) hH ?_
  simp only [List.getElem_toArray, List.getElem_cons_succ, List.getElem_cons_zero, Act.put, List.setIfInBounds_toArray, List.set_cons_zero, List.set_cons_succ]
  refine wpAnyH_done (by kernel_rfl) ?_ _
  rw [HLEi.out]
  have HS0 : Hid _ := HS.out
  clear HS
  go_upto_region 1 with fail
  have HS : Hid (∀ w', Below w1.heap.size w1 w' → w'.cell? ⟨Bh, 442, none⟩ = some (.slice wa wl wc) ∧ w'.cell? ⟨Bh, 443, none⟩ = some (.int .i64 (SU : Int))) := fun w' hb => HS0.out _ (below_then b0 hb)
  refine wp_region_held_drew (S := (fun w' => w'.cell? ⟨Bh, 442, none⟩ = some (.slice wa wl wc) ∧ w'.cell? ⟨Bh, 443, none⟩ = some (.int .i64 (SU : Int)))) (by kernel_rfl) (HS.out _ (Below.refl _ _).drew) (fun hH => ?_)
  have b : Below w1.heap.size w1 w1.drew := (Below.refl _ _).drew
  obtain ⟨v0, Hv0⟩ : ∃ v0, Hid (w1.drew = v0) := ⟨_, rfl⟩
  rw [Hv0.out] at hH b ⊢
  clear Hv0
  refine wpAnyH_take (i := 0) (v := .pointer (some ⟨Bh, 0, none⟩)) rfl (by kernel_rfl) (by kernel_rfl) (by kernel_rfl) (fun _ _ _ h => h) (.inl ⟨by rfl, fun _ _ => rfl⟩) hH ?_
  simp only [List.getElem_toArray, List.getElem_cons_succ, List.getElem_cons_zero, Act.put, List.setIfInBounds_toArray, List.set_cons_zero, List.set_cons_succ]
  refine wpAnyH_take (i := 1) (v := .pointer (some ⟨Bh, 0, none⟩)) rfl (by kernel_rfl) (by kernel_rfl) (by kernel_rfl) (fun _ _ _ h => h) (.inl ⟨by rfl, fun w' hS' => by first | (go_simp; done) | (go_simp; rfl) | (go_simp; intro h; omega) | (go_simp; omega)⟩) hH ?_
  simp only [List.getElem_toArray, List.getElem_cons_succ, List.getElem_cons_zero, Act.put, List.setIfInBounds_toArray, List.set_cons_zero, List.set_cons_succ]
  refine wpAnyH_take (i := 2) (v := .pointer (some ⟨Bh, 442, none⟩)) rfl (by kernel_rfl) (by kernel_rfl) (by kernel_rfl) (fun _ _ _ h => h) (.inl ⟨by rfl, fun w' hS' => by first | (go_simp; done) | (go_simp; rfl) | (go_simp; intro h; omega) | (go_simp; omega)⟩) hH ?_
  simp only [List.getElem_toArray, List.getElem_cons_succ, List.getElem_cons_zero, Act.put, List.setIfInBounds_toArray, List.set_cons_zero, List.set_cons_succ]
  refine wpAnyH_take (i := 3) (v := .slice wa wl wc) rfl (by kernel_rfl) (by kernel_rfl) (by kernel_rfl) (fun _ _ _ h => h) (.inl ⟨by rfl, fun w' hS' => by obtain ⟨s0, s1⟩ := hS'; go_simp⟩) hH ?_
  simp only [List.getElem_toArray, List.getElem_cons_succ, List.getElem_cons_zero, Act.put, List.setIfInBounds_toArray, List.set_cons_zero, List.set_cons_succ]
  refine wpAnyH_take (i := 4) (v := .pointer (some ⟨Bh, 0, none⟩)) rfl (by kernel_rfl) (by kernel_rfl) (by kernel_rfl) (fun _ _ _ h => h) (.inl ⟨by rfl, fun _ _ => rfl⟩) hH ?_
  simp only [List.getElem_toArray, List.getElem_cons_succ, List.getElem_cons_zero, Act.put, List.setIfInBounds_toArray, List.set_cons_zero, List.set_cons_succ]
  refine wpAnyH_take (i := 5) (v := .pointer (some ⟨Bh, 0, none⟩)) rfl (by kernel_rfl) (by kernel_rfl) (by kernel_rfl) (fun _ _ _ h => h) (.inl ⟨by rfl, fun w' hS' => by first | (go_simp; done) | (go_simp; rfl) | (go_simp; intro h; omega) | (go_simp; omega)⟩) hH ?_
  simp only [List.getElem_toArray, List.getElem_cons_succ, List.getElem_cons_zero, Act.put, List.setIfInBounds_toArray, List.set_cons_zero, List.set_cons_succ]
  refine wpAnyH_take (i := 6) (v := .pointer (some ⟨Bh, 443, none⟩)) rfl (by kernel_rfl) (by kernel_rfl) (by kernel_rfl) (fun _ _ _ h => h) (.inl ⟨by rfl, fun w' hS' => by first | (go_simp; done) | (go_simp; rfl) | (go_simp; intro h; omega) | (go_simp; omega)⟩) hH ?_
  simp only [List.getElem_toArray, List.getElem_cons_succ, List.getElem_cons_zero, Act.put, List.setIfInBounds_toArray, List.set_cons_zero, List.set_cons_succ]
  refine wpAnyH_take (i := 7) (v := .int .i64 (SU : Int)) rfl (by kernel_rfl) (by kernel_rfl) (by kernel_rfl) (fun _ _ _ h => h) (.inl ⟨by rfl, fun w' hS' => by obtain ⟨s0, s1⟩ := hS'; go_simp⟩) hH ?_
  simp only [List.getElem_toArray, List.getElem_cons_succ, List.getElem_cons_zero, Act.put, List.setIfInBounds_toArray, List.set_cons_zero, List.set_cons_succ]
  refine wpAnyH_take (i := 8) (v := .int .i64 (LE : Int)) rfl (by kernel_rfl) (by kernel_rfl) (by kernel_rfl) (fun _ _ _ h => h) (.inl ⟨by rfl, fun _ _ => rfl⟩) hH ?_
  simp only [List.getElem_toArray, List.getElem_cons_succ, List.getElem_cons_zero, Act.put, List.setIfInBounds_toArray, List.set_cons_zero, List.set_cons_succ]
  refine wpAnyH_take (i := 9) (v := .int .i64 ((SU + LE : Nat) : Int)) rfl (by kernel_rfl) (by kernel_rfl) (by kernel_rfl) (fun _ _ _ h => h) (.inl ⟨by rfl, fun w' hS' => by first | (go_simp; done) | (go_simp; rfl) | (go_simp; intro h; omega) | (go_simp; omega)⟩) hH ?_
  simp only [List.getElem_toArray, List.getElem_cons_succ, List.getElem_cons_zero, Act.put, List.setIfInBounds_toArray, List.set_cons_zero, List.set_cons_succ]
  refine wpAnyH_take (i := 10) (v := .slice wa (SU + LE) wc) rfl (by kernel_rfl) (by kernel_rfl) (by kernel_rfl) (fun _ _ _ h => h) (.inl ⟨by rfl, fun w' hS' => by first | (go_simp; done) | (go_simp; rfl) | (go_simp; intro h; omega) | (go_simp; omega)⟩) hH ?_
  simp only [List.getElem_toArray, List.getElem_cons_succ, List.getElem_cons_zero, Act.put, List.setIfInBounds_toArray, List.set_cons_zero, List.set_cons_succ]
  refine wpAnyH_ready (rs := [11]) (by kernel_rfl) (by simp) ?_
  refine AllReadyH.cons rfl (fun K hK => ?_) AllReadyH.nil
  simp only [List.getElem_toArray, List.getElem_cons_succ, List.getElem_cons_zero]
  rw [if_pos (by rfl)]
  go_wp2_with fail
  have hv0 : w.heap.size ≤ v0.heap.size := Nat.le_trans b0.size b.size
  refine (journal_read (.slice wa (SU + LE) wc) ((writtenL h.ws).take (SU + LE)) v0 (by exact (HBy.out.below b0).below b)).mono ?_
  rintro e v1 ⟨r, l, dd, rfl, hOO, hRd⟩
  obtain ⟨rfl, rfl⟩ := hRd.unique HRd.out
  replace b := below_then b hOO.2.1
  have hrow := hOO.1
  refine hK.out _ _ (HS.out _ b) (fun hH => ?_)
  clear hK
  refine wpAnyH_take (i := 12) (v := .tuple #[r, .int .i64 ((7 * (h.ws.take left).length : Nat) : Int), .int .i64 0]) rfl (by kernel_rfl) (by kernel_rfl) (by kernel_rfl) (fun _ _ _ h => h) (.inl ⟨by rfl, fun _ _ => rfl⟩) hH ?_
  simp only [List.getElem_toArray, List.getElem_cons_succ, List.getElem_cons_zero, Act.put, List.setIfInBounds_toArray, List.set_cons_zero, List.set_cons_succ]
  refine wpAnyH_take (i := 13) (v := r) rfl (by kernel_rfl) (by kernel_rfl) (by kernel_rfl) (fun _ _ _ h => h) (.inl ⟨by rfl, fun w' hS' => by first | (go_simp; done) | (go_simp; rfl) | (go_simp; intro h; omega) | (go_simp; omega)⟩) hH ?_
  simp only [List.getElem_toArray, List.getElem_cons_succ, List.getElem_cons_zero, Act.put, List.setIfInBounds_toArray, List.set_cons_zero, List.set_cons_succ]
  refine wpAnyH_take (i := 14) (v := .int .i64 ((7 * (h.ws.take left).length : Nat) : Int)) rfl (by kernel_rfl) (by kernel_rfl) (by kernel_rfl) (fun _ _ _ h => h) (.inl ⟨by rfl, fun w' hS' => by first | (go_simp; done) | (go_simp; rfl) | (go_simp; intro h; omega) | (go_simp; omega)⟩) hH ?_
  simp only [List.getElem_toArray, List.getElem_cons_succ, List.getElem_cons_zero, Act.put, List.setIfInBounds_toArray, List.set_cons_zero, List.set_cons_succ]
  refine wpAnyH_take (i := 15) (v := .int .i64 0) rfl (by kernel_rfl) (by kernel_rfl) (by kernel_rfl) (fun _ _ _ h => h) (.inl ⟨by rfl, fun w' hS' => by first | (go_simp; done) | (go_simp; rfl) | (go_simp; intro h; omega) | (go_simp; omega)⟩) hH ?_
  simp only [List.getElem_toArray, List.getElem_cons_succ, List.getElem_cons_zero, Act.put, List.setIfInBounds_toArray, List.set_cons_zero, List.set_cons_succ]
  refine wpAnyH_take (i := 16) (v := r) rfl (by kernel_rfl) (by kernel_rfl) (by kernel_rfl) (fun _ _ _ h => h) (.inl ⟨by rfl, fun _ _ => rfl⟩) hH ?_
  simp only [List.getElem_toArray, List.getElem_cons_succ, List.getElem_cons_zero, Act.put, List.setIfInBounds_toArray, List.set_cons_zero, List.set_cons_succ]
  refine wpAnyH_take (i := 17) (v := .int .i64 ((7 * (h.ws.take left).length : Nat) : Int)) rfl (by kernel_rfl) (by kernel_rfl) (by kernel_rfl) (fun _ _ _ h => h) (.inl ⟨by rfl, fun _ _ => rfl⟩) hH ?_
  simp only [List.getElem_toArray, List.getElem_cons_succ, List.getElem_cons_zero, Act.put, List.setIfInBounds_toArray, List.set_cons_zero, List.set_cons_succ]
  refine wpAnyH_take (i := 18) (v := .int .i64 0) rfl (by kernel_rfl) (by kernel_rfl) (by kernel_rfl) (fun _ _ _ h => h) (.inl ⟨by rfl, fun _ _ => rfl⟩) hH ?_
  simp only [List.getElem_toArray, List.getElem_cons_succ, List.getElem_cons_zero, Act.put, List.setIfInBounds_toArray, List.set_cons_zero, List.set_cons_succ]
  refine wpAnyH_done (by kernel_rfl) ?_ _
  rw [Hll.out] at hrow ⊢
  have hrow2 := ownsRow_low hrow hv0
  have b2 := below_then b0 b
  have q1 := (HS.out _ b).1
  have q2 := (HS.out _ b).2
  have hC2 := hC.below b2
  have hRest2 := hRest.below b2
  have f1 := hC2.frozen 442
  have f2 := hC2.frozen 443
  have hlw : left ≤ h.ws.length := by have e1 := Hll.out; rw [List.length_take] at e1; omega
  have hrowT := row_taken hRest2.row hlw
  obtain ⟨ops, Hops⟩ : ∃ l, Hid (h.ws.take left = l) := ⟨_, rfl⟩
  rw [Hops.out] at hrow2 Hcr hrowT Hll
  obtain ⟨TL, HTLe⟩ : ∃ n, Hid (7 * left = n) := ⟨_, rfl⟩
  have hTc : TL ≤ wc := by have := HTLe.out; have := HTL.out; omega
  have hTci : (TL : Int) ≤ (wc : Int) := by omega
  rw [HTLe.out] at hrowT ⊢
  have b2s := b2.size
  have KH2 : KeepH Bh B F w v1 := KeepH.of b2
  clear hrow hv0 HS0 HS b0 b HLEi HLE HBy HRd hw1 hw2 hi1 hmax q442 q443 HWL HWL7 hSL hSLc hSU hWL hWs hsure hwlb
  go_upto_region 3 with fail
  have hC3 := (hC2.put 442 (.slice wa TL wc)).put 443 (.int .i64 (TL : Int))
  have hKp3 := (hRest2.kept.set (a := ⟨Bh, 442, none⟩) (by show ¬ Bh < Bh; omega) (.slice wa TL wc)).set (a := ⟨Bh, 443, none⟩) (by show ¬ Bh < Bh; omega) (.int .i64 (TL : Int))
  have HrB : Hid (∀ g, r.ownBlock = some g → w.heap.size ≤ g) := fun g e => (hrow2.lt g e).1
  have HwB : Hid (∀ g, (Value.slice wa TL wc).ownBlock = some g → B ≤ g) := fun g e => (hrowT.lt g e).1
  have hr3 := ownsRow_aside (ownsRow_aside hrow2 (p := ⟨Bh, 442, none⟩) (fun e => by have := HrB.out Bh e; have := HBh.out; omega) (.slice wa TL wc)) (p := ⟨Bh, 443, none⟩) (fun e => by have := HrB.out Bh e; have := HBh.out; omega) (.int .i64 (TL : Int))
  have hw3 := ownsRow_aside (ownsRow_aside hrowT (p := ⟨Bh, 442, none⟩) (fun e => by have := HwB.out Bh e; have := hRest.lt; omega) (.slice wa TL wc)) (p := ⟨Bh, 443, none⟩) (fun e => by have := HwB.out Bh e; have := hRest.lt; omega) (.int .i64 (TL : Int))
  have KH3 := (KH2.set (p := ⟨Bh, 442, none⟩) (.inl rfl) (.slice wa TL wc)).set (p := ⟨Bh, 443, none⟩) (.inl rfl) (.int .i64 (TL : Int))
  obtain ⟨xa, xl, xc, rfl, _⟩ := id hRest2.kept.now.1
  obtain ⟨ya, yl, yc, rfl, _⟩ := id hRest2.kept.now.2.1
  obtain ⟨ta, tl, tc, rfl, _⟩ := id hRest2.kept.now.2.2
  obtain ⟨FA, HFA⟩ : ∃ A, Hid (firstA (.slice xa xl xc) (.slice ya yl yc) (.slice ta tl tc) n roles = A) := ⟨_, rfl⟩
  have hFs : FA.size = 221 := by rw [← HFA.out]; exact firstA_size _ _ _ _ _
  have hone : ∀ v ∈ FA.toList, v.oneCell' = true := by rw [← HFA.out]; exact offA_one rfl rfl rfl rfl rfl
  obtain ⟨SP, HSP⟩ : ∃ P, Hid (hallS (.slice xa xl xc) (.slice ya yl yc) (.slice ta tl tc) n roles (.slice wa TL wc) left = P) := ⟨_, rfl⟩
  have hoff : Hid (221 = SP.off) := by show _ = _; rw [← HSP.out]; rfl
  have hC3 : CellsAt ((v1.setCell ⟨Bh, 442, none⟩ (.slice wa TL wc)).setCell ⟨Bh, 443, none⟩ (.int .i64 (TL : Int))) Bh (SP.all X) 68 := by
    have e := hC3
    unfold hallS at e
    rw [nowS_written X hXs, nowS_sure X hXs] at e
    rw [← HSP.out]
    unfold hallS
    rw [HTLe.out]
    exact e
  have hs3 : Hid (v1.heap.size = ((v1.setCell ⟨Bh, 442, none⟩ (.slice wa TL wc)).setCell ⟨Bh, 443, none⟩ (.int .i64 (TL : Int))).heap.size) := by show _ = _; simp [World.setCell]
  obtain ⟨w3, HW3⟩ : ∃ v, Hid ((v1.setCell ⟨Bh, 442, none⟩ (.slice wa TL wc)).setCell ⟨Bh, 443, none⟩ (.int .i64 (TL : Int)) = v) := ⟨_, rfl⟩
  rw [HW3.out] at hC3 hKp3 hr3 hw3 KH3 hs3 ⊢
  obtain ⟨FS, HFS⟩ : ∃ P : Spot, Hid (P = firstS X (.slice wa TL wc) (.int .i64 (TL : Int))) := ⟨_, rfl⟩
  have hoff0 : Hid (0 = FS.off) := by show _ = _; rw [HFS.out]; rfl
  have hC3' : CellsAt w3 Bh (FS.all FA) 68 := by
    have e : FS.all FA = SP.all X := by
      rw [HFS.out, ← HSP.out]
      show #[] ++ (FA ++ (X ++ #[.slice wa TL wc, .int .i64 (TL : Int)])) = firstA (.slice xa xl xc) (.slice ya yl yc) (.slice ta tl tc) n roles ++ (X ++ #[.slice wa TL wc, .int .i64 ((7 * left : Nat) : Int)])
      rw [HFA.out, HTLe.out, Array.empty_append]
    rw [e]
    exact hC3
  obtain ⟨w4, HW4⟩ : ∃ v, Hid (w3.setRow Bh (SP.all FA) = v) := ⟨_, rfl⟩
  clear q1 q2 f1 f2 HW3 hC2 hC hRest hrow2 hrowT KH2
  go_upto_region 4 with (first | (refine wpList_load_spot rfl Try.isAgg63 offZ _ rfl Bh FS 0 hoff0.out FA 68 rfl hC3' hFs ?_) | (refine wpList_store_spot rfl offZ _ _ rfl Bh SP 221 hoff.out X FA 68 rfl rfl hC3 hXs hFs hone ?_; rw [HW4.out]))
  have hs4 : w3.heap.size ≤ w4.heap.size := by rw [← HW4.out]; simp [World.setRow]
  have hk4 : ∀ k, k ≠ Bh → w4.heap[k]? = w3.heap[k]? := fun k hk => by rw [← HW4.out]; exact setRow_other w3 Bh k _ hk
  have hC4 : CellsAt w4 Bh (SP.all FA) 68 := by rw [← HW4.out]; exact hC3.over _
  have hKp4 := hKp3.to hs4 (fun k hk hD => hk4 k (by omega))
  have hr4 := ((ownsRow_on hr3).to hs4 (fun k hk hD => hk4 k (fun e => by have := HrB.out _ hD.1; have := HBh.out; omega))).now
  have hlt := hRest2.lt
  have hold := hRest2.old
  have hw4 := ((ownsRow_on hw3).to hs4 (fun k hk hD => hk4 k (fun e => by have := HwB.out _ hD.1; omega))).now
  have KH4 : KeepH Bh B F w w4 := KH3.then ⟨⟨by rw [← HW4.out]; rfl, by rw [← HW4.out]; rfl, by rw [← HW4.out]; rfl, hs4, fun k hk => absurd hk (Nat.not_lt_zero _)⟩, fun k _ _ hk => hk4 k hk⟩
  have hsz4 : w.heap.size ≤ w4.heap.size := KH4.rest.size
  have e1 : SP.typ = 68 := by rw [← HSP.out]; rfl
  have hC5 : CellsAt w4 Bh (SP.all (firstA (.slice xa xl xc) (.slice ya yl yc) (.slice ta tl tc) n roles)) SP.typ := by rw [HFA.out, e1]; exact hC4
  clear e1
  unfold firstA at hC5
  have hOf4 : Office w4 Bh SP B n roles first (.slice none 0 0) (farH L Bh F (.slice wa TL wc)) := by
    refine ⟨xa, ya, xl, xc, yl, yc, .slice ta tl tc, ⟨?_, hKp4.now.1, hKp4.now.2.1, hKp4.mono (fun _ q => q.2.2), ?_, (fun g e => by cases e), (fun g e => by cases e), hlt⟩, fun R hR => ?_⟩
    · exact hC5
    · rw [hitems]; exact World.ownsRow_nil _ _ _ _
    · rcases hR with (q | rfl | q) | q
      · have := HwB.out _ q
        exact ⟨(hw4.lt R q).2, on_off (hKp4.mono fun _ z => z.1) (by omega), on_off (hKp4.mono fun _ z => z.2.1) (by omega)⟩
      · exact ⟨hC4.lt, on_off (hKp4.mono fun _ z => z.1) (Nat.le_refl _), on_off (hKp4.mono fun _ z => z.2.1) (Nat.le_refl _)⟩
      · have := hold.2.2; have := hC4.lt
        exact ⟨by omega, hold.1.off q, hold.2.1.off q⟩
      · have := (HF.out R q).1
        exact ⟨Nat.lt_of_lt_of_le (HfarF.out R q) hsz4, on_off (hKp4.mono fun _ z => z.1) (by omega), on_off (hKp4.mono fun _ z => z.2.1) (by omega)⟩
  have hRest4 : HallRest L w4 Bh B n first ops (.slice none 0 0) (.slice wa TL wc) (.slice xa xl xc) (.slice ya yl yc) (.slice ta tl tc) := ⟨hKp4, hw4, (fun g _ e => by cases e), hlt, hold⟩
  obtain ⟨ra, rl, rc, rfl⟩ := ownsRow_slice hr4
  obtain rfl : rl = left := ownsRow_len hr4
  have Hoff9 : Hid (221 = SP.off) := hoff.out
  have Hne0 : Hid (∀ g, (Value.slice none 0 0).ownBlock = some g → (Value.slice ra rl rc).ownBlock ≠ some g) := fun g e => by cases e
  clear hold hC5 hC3 hKp3 hr3 hw3 KH3 hs3 hC3' hs4 hk4 hC4 hKp4 hw4 HW4 hoff hoff0 HFS hone hFs hXs hRest2 HfarF b2 b2s HIv
  have Hlw : Hid (rl ≤ 3518437208883) := by show _ ≤ _; omega
  go_wp2_with fail
  go_loopg [61] rl (fun gk i' wr => ∃ (k : Nat) (iv : Value), k + gk = rl ∧ i' = .int .i64 (k : Int) ∧ Office wr Bh SP B n roles (deskAt n roles first ops k) iv (farH L Bh F (.slice wa TL wc)) ∧ HallRest L wr Bh B n first ops iv (.slice wa TL wc) (.slice xa xl xc) (.slice ya yl yc) (.slice ta tl tc) ∧ wr.ownsRow w.heap.size 45 5 (.slice ra rl rc) rl (doCells ops) ∧ Hid (∀ g, iv.ownBlock = some g → (Value.slice ra rl rc).ownBlock ≠ some g) ∧ KeepH Bh B F w wr ∧ Hid (∀ R, F R → iv.ownBlock ≠ some R))
  case atStart => exact ⟨0, _, by omega, rfl, hOf4, hRest4, hr4, Hne0, KH4, fun R _ e => by cases e⟩
  case round =>
    clear hOf4 hRest4 hr4 KH4 Hne0
    obtain ⟨k, iv2, hkg, rfl, hOfr, hRr, hrr, Hne, KHr, HFi⟩ := hrel
    by_cases hk : k < rl
    · obtain ⟨gr, rfl⟩ := ownsRow_head hrr (by omega)
      have hcl : (doCells ops).length = rl * 5 := by rw [doCells_length, Hll.out]
      obtain ⟨t0, t1, t2, t3, t4⟩ := doCells_at ops k (by rw [Hll.out]; exact hk)
      obtain ⟨op, Hop⟩ : ∃ o, Hid (dopAt ops k = o) := ⟨_, rfl⟩
      rw [Hop.out] at t0 t1 t2 t3 t4
      have Hnx : Hid (deskAt n roles first ops (k + 1) = (deskDo n roles (deskAt n roles first ops k) op).1) := by show _ = _; rw [← Hop.out]; exact deskAt_succ n roles first (by rw [Hll.out]; exact hk)
      have Hinv : Hid (DeskInv n roles (deskAt n roles first ops k)) := DeskInv.play _ Hinv0.out
      have Hfew : Hid ((deskAt n roles first ops k).items.length + 1 ≤ 5864062014805) := by
        have := deskAt_few (n := n) (roles := roles) (d := first) (os := ops) (by rw [hitems]; rfl) k (by rw [Hll.out]; omega)
        have := Hlw.out
        show _ ≤ _
        omega
      obtain ⟨dk, Hdk⟩ : ∃ d, Hid (deskAt n roles first ops k = d) := ⟨_, rfl⟩
      rw [Hdk.out] at hOfr Hinv Hfew Hnx
      obtain ⟨kd, us, tr, it, hd⟩ := op
      have p0 : wr.cell? ⟨gr, 0 + k * 5, none⟩ = some (.int .i64 kd) := by rw [Nat.zero_add, hrr.cellAt (k * 5) (by omega)]; exact t0
      have p1 : wr.cell? ⟨gr, 0 + k * 5 + 1, none⟩ = some (.int .i64 us) := by rw [Nat.zero_add, hrr.cellAt (k * 5 + 1) (by omega)]; exact t1
      have p2 : wr.cell? ⟨gr, 0 + k * 5 + 2, none⟩ = some (.int .i64 tr) := by rw [Nat.zero_add, hrr.cellAt (k * 5 + 2) (by omega)]; exact t2
      have p3 : wr.cell? ⟨gr, 0 + k * 5 + 3, none⟩ = some (.int .i64 it) := by rw [Nat.zero_add, hrr.cellAt (k * 5 + 3) (by omega)]; exact t3
      have p4 : wr.cell? ⟨gr, 0 + k * 5 + 4, none⟩ = some (.int .i64 hd) := by rw [Nat.zero_add, hrr.cellAt (k * 5 + 4) (by omega)]; exact t4
      rw [Nat.zero_add] at p0 p1 p2 p3 p4
      have HIv2 : Hid (∀ g, iv2.ownBlock = some g → B ≤ g ∧ g < wr.heap.size) := fun g e => by obtain ⟨_, _, _, _, _, _, _, h, _⟩ := hOfr; exact h.row.lt g e
      have HBhr : Hid (Bh < wr.heap.size) := by obtain ⟨_, _, _, _, _, _, _, h, _⟩ := hOfr; exact h.cells.lt
      have bo := below_new wr (.cells #[.int .i64 kd, .int .i64 us, .int .i64 tr, .int .i64 it, .int .i64 hd] 45)
      have hbx := cellsAt_new wr #[.int .i64 kd, .int .i64 us, .int .i64 tr, .int .i64 it, .int .i64 hd] 45
      obtain ⟨Bx, HBx⟩ : ∃ B, Hid (wr.heap.size = B) := ⟨_, rfl⟩
      have HnBx : Hid (Bx ≠ Bh) := by have := HBhr.out; rw [HBx.out] at this; show _ ≠ _; omega
      have HnIvx : Hid (iv2.ownBlock ≠ some Bx) := fun e => by have := (HIv2.out _ e).2; rw [HBx.out] at this; omega
      rw [HBx.out] at hbx
      obtain ⟨wo, Hwo⟩ : ∃ v, Hid (wr.alloc (.cells #[.int .i64 kd, .int .i64 us, .int .i64 tr, .int .i64 it, .int .i64 hd] 45) = v) := ⟨_, rfl⟩
      rw [Hwo.out] at bo hbx
      have HBr : Hid (B ≤ wr.heap.size) := Nat.le_trans HB.out KHr.rest.size
      go_upto_region 7 with fail
      rw [Hwo.out, HBx.out]
      clear Hwo HBx p0 p1 p2 p3 p4 t0 t1 t2 t3 t4 hcl
      have hOfo : Office wo Bh SP B n roles dk iv2 (farH L Bh F (.slice wa TL wc)) := by obtain ⟨_, _, _, _, _, _, _, h, hf⟩ := hOfr; exact ⟨_, _, _, _, _, _, _, h.below bo, hf.up bo.size⟩
      have hRo := hRr.below bo
      have hro := ((ownsRow_on hrr).below bo).now
      have KHo := KHr.then (KeepH.of bo)
      have HBo : Hid (B ≤ wo.heap.size) := Nat.le_trans HBr.out bo.size
      have HIvB : Hid (∀ g, iv2.ownBlock = some g → B ≤ g) := fun g e => (HIv2.out g e).1
      clear hOfr hRr hrr KHr bo HBr HBhr
      have HS : Hid (∀ w', CellsAt w' Bx (dopArr ⟨kd, us, tr, it, hd⟩) 45 → w'.cell? ⟨Bx, 0, none⟩ = some (.int .i64 kd) ∧ w'.cell? ⟨Bx, 1, none⟩ = some (.int .i64 us) ∧ w'.cell? ⟨Bx, 2, none⟩ = some (.int .i64 tr) ∧ w'.cell? ⟨Bx, 3, none⟩ = some (.int .i64 it) ∧ w'.cell? ⟨Bx, 4, none⟩ = some (.int .i64 hd)) := fun w' h => ⟨h.cell 0, h.cell 1, h.cell 2, h.cell 3, h.cell 4⟩
      refine wp_region_held_drew (S := (fun w' => w'.cell? ⟨Bx, 0, none⟩ = some (.int .i64 kd) ∧ w'.cell? ⟨Bx, 1, none⟩ = some (.int .i64 us) ∧ w'.cell? ⟨Bx, 2, none⟩ = some (.int .i64 tr) ∧ w'.cell? ⟨Bx, 3, none⟩ = some (.int .i64 it) ∧ w'.cell? ⟨Bx, 4, none⟩ = some (.int .i64 hd))) (by kernel_rfl) (HS.out _ (hbx.below (Below.refl _ _).drew)) (fun hH => ?_)
      have b : Below wo.heap.size wo wo.drew := (Below.refl _ _).drew
      obtain ⟨v0, Hv0⟩ : ∃ v0, Hid (wo.drew = v0) := ⟨_, rfl⟩
      rw [Hv0.out] at hH b ⊢
      clear Hv0
      refine wpAnyH_take (i := 0) (v := .pointer (some ⟨Bh, 0, none⟩)) rfl (by kernel_rfl) (by kernel_rfl) (by kernel_rfl) (fun _ _ _ h => h) (.inl ⟨by rfl, fun _ _ => rfl⟩) hH ?_
      simp only [List.getElem_toArray, List.getElem_cons_succ, List.getElem_cons_zero, Act.put, List.setIfInBounds_toArray, List.set_cons_zero, List.set_cons_succ]
      refine wpAnyH_take (i := 1) (v := .pointer (some ⟨Bh, 0, none⟩)) rfl (by kernel_rfl) (by kernel_rfl) (by kernel_rfl) (fun _ _ _ h => h) (.inl ⟨by rfl, fun w' hS' => by first | (go_simp; done) | (go_simp; rfl) | (go_simp; intro h; omega) | (go_simp; omega)⟩) hH ?_
      simp only [List.getElem_toArray, List.getElem_cons_succ, List.getElem_cons_zero, Act.put, List.setIfInBounds_toArray, List.set_cons_zero, List.set_cons_succ]
      refine wpAnyH_take (i := 2) (v := .pointer (some ⟨Bh, 221, none⟩)) rfl (by kernel_rfl) (by kernel_rfl) (by kernel_rfl) (fun _ _ _ h => h) (.inl ⟨by rfl, fun w' hS' => by first | (go_simp; done) | (go_simp; rfl) | (go_simp; intro h; omega) | (go_simp; omega)⟩) hH ?_
      simp only [List.getElem_toArray, List.getElem_cons_succ, List.getElem_cons_zero, Act.put, List.setIfInBounds_toArray, List.set_cons_zero, List.set_cons_succ]
      refine wpAnyH_take (i := 3) (v := .agg #[.int .i64 kd, .int .i64 us, .int .i64 tr, .int .i64 it, .int .i64 hd]) rfl (by kernel_rfl) (by kernel_rfl) (by kernel_rfl) (fun _ _ _ h => h) (.inl ⟨by rfl, fun w' hS' => by obtain ⟨s0, s1, s2, s3, s4⟩ := hS'; go_simp⟩) hH ?_
      simp only [List.getElem_toArray, List.getElem_cons_succ, List.getElem_cons_zero, Act.put, List.setIfInBounds_toArray, List.set_cons_zero, List.set_cons_succ]
      refine wpAnyH_ready (rs := [4]) (by kernel_rfl) (by simp) ?_
      refine AllReadyH.cons rfl (fun K hK => ?_) AllReadyH.nil
      simp only [List.getElem_toArray, List.getElem_cons_succ, List.getElem_cons_zero]
      rw [if_pos (by rfl)]
      go_wp2_with fail
      have hOfv : Office v0 Bh SP B n roles dk iv2 (farH L Bh F (.slice wa TL wc)) := by obtain ⟨_, _, _, _, _, _, _, h, hf⟩ := hOfo; exact ⟨_, _, _, _, _, _, _, h.below b, hf.up b.size⟩
      have hcall := office_do ⟨kd, us, tr, it, hd⟩ v0 hOfv Hinv.out (Nat.le_trans HBo.out b.size) Hfew.out
      rw [← Hoff9.out] at hcall
      refine hcall.mono ?_
      rintro e w4 ⟨rfl, hA⟩
      obtain ⟨iv2', hOf2, K1, hat⟩ := hA
      have hbx2 : CellsAt w4 Bx (dopArr ⟨kd, us, tr, it, hd⟩) 45 := (K1.block _ (hbx.below b).lt HnBx.out HnIvx.out).trans (hbx.below b)
      refine hK.out _ _ (HS.out _ hbx2) (fun hH => ?_)
      clear hK
      refine wpAnyH_done (by kernel_rfl) ?_ _
      have hR5 := (hRo.below b).keepO K1 HIvB.out hat
      have K5 := (KHo.then (KeepH.of b)).then (KeepH.keepO K1 (fun g e => ⟨HIvB.out g e, fun q => HFi.out g q e⟩))
      have hr5 := ((ownsRow_on ((ownsRow_on hro).below b).now).to K1.size (fun k hk hD => K1.block k hk (fun e => by have := hD.2; have := HBh.out; omega) (fun e => Hne.out _ e hD.1))).now
      have Hne5 : Hid (∀ g, iv2'.ownBlock = some g → (Value.slice (some ⟨gr, 0, none⟩) rl rc).ownBlock ≠ some g) := fun g e e2 => by
        rcases hat with q | ⟨g', q1, q2⟩
        · exact Hne.out g (by rw [← q]; exact e) e2
        · rw [q1] at e; injection e with e; have := (((ownsRow_on hro).below b).now.lt g e2).2; omega
      have HFi5 : Hid (∀ R, F R → iv2'.ownBlock ≠ some R) := fun R hR e => by
        rcases hat with q | ⟨g', q1, q2⟩
        · exact HFi.out R hR (by rw [← q]; exact e)
        · rw [q1] at e; injection e with e
          obtain ⟨_, _, _, _, _, _, _, _, hf⟩ := hOfv
          have := (hf R (.inr hR)).1
          omega
      rw [← Hnx.out] at hOf2
      clear hOfv hbx hbx2 hOfo hRo hro KHo K1 hat b hH HS
      go_wp2
      go_roundg (gk - 1)
      case measure => omega
      case rel => exact ⟨k + 1, _, by omega, by go_num, hOf2, hR5, hr5, Hne5, K5, HFi5⟩
    · obtain rfl : k = rl := by omega
      rw [deskAt_all n roles first (by rw [Hll.out]; exact Nat.le_refl _)] at hOfr
      have Hfin : Hid (HallAt L wr Bh B n roles first (hallDo n roles first h o).1 F ∧ KeepH Bh B F w wr) := by
        rw [Hcr.out]
        refine ⟨⟨iv2, .slice wa TL wc, .slice xa xl xc, .slice ya yl yc, .slice ta tl tc, ?_, hRr, fun R hR => ⟨(HF.out R hR).1, HFi.out R hR, by rw [ownBlock_len wa TL wc wl wc]; exact (HF.out R hR).2.2⟩⟩, KHr⟩
        have e := HSP.out
        show Office wr Bh (hallS _ _ _ n roles _ k) B n roles _ iv2 _
        rw [e]
        exact hOfr
      clear hOfr hRr hrr Hne KHr
      go_wp2
      go_end0
      exact ⟨rfl, Hfin.out⟩

end Go.Proofs.Ytaladbcocealnaa

/- Package hall as it landed: whatever happens. -/
namespace Go.Proofs.Ytaladbcocealnaa
open Go.RowKit
set_option linter.unusedVariables false
set_option linter.unusedSimpArgs false
set_option maxRecDepth 4000

def hopA (o : HOp) : Array Value := #[.int .i64 o.kind, .int .i64 o.keep, .int .i64 o.op.kind, .int .i64 o.op.user, .int .i64 o.op.tran, .int .i64 o.op.item, .int .i64 o.op.hand]
def hopV (o : HOp) : Value := .agg (hopA o)

theorem hall_k2 {n : NetL} {roles : List (List Int)} {first : DeskL} {h : HallL} {o : HOp} (hk : o.kind = 2) : hallDo n roles first h o = (⟨h.desk, h.ws, h.ws.length⟩, ⟨0, 0⟩) := by
  unfold hallDo; rw [if_neg (by omega), if_pos hk]
theorem hall_k3 {n : NetL} {roles : List (List Int)} {first : DeskL} {h : HallL} {o : HOp} (hk : o.kind = 3) : (hallDo n roles first h o).2 = ⟨0, 0⟩ := by
  unfold hallDo; rw [if_neg (by omega), if_neg (by omega), if_pos hk]
theorem hall_k5 {n : NetL} {roles : List (List Int)} {first : DeskL} {h : HallL} {o : HOp} (h1 : o.kind ≠ 1) (h2 : o.kind ≠ 2) (h3 : o.kind ≠ 3) : hallDo n roles first h o = (h, ⟨5, 0⟩) := by
  unfold hallDo; rw [if_neg h1, if_neg h2, if_neg h3]

section
variable {w w' : World} {L Bh B : Nat} {n : NetL} {roles : List (List Int)} {first : DeskL} {h : HallL} {F G : Nat → Prop}
theorem HallAt.below (H : HallAt L w Bh B n roles first h F) (hb : Below w.heap.size w w') : HallAt L w' Bh B n roles first h F := by
  obtain ⟨iv, wv, fm, fb, ftv, ⟨_, _, _, _, _, _, _, h1, hf⟩, h2, h3⟩ := H
  exact ⟨iv, wv, fm, fb, ftv, ⟨_, _, _, _, _, _, _, h1.below hb, hf.up hb.size⟩, h2.below hb, h3⟩
/-- One block more, made since. -/
theorem HallAt.more (H : HallAt L w Bh B n roles first h F) (hb : Below w.heap.size w w') {R0 : Nat} (h0 : w.heap.size ≤ R0) (h1 : R0 < w'.heap.size) : HallAt L w' Bh B n roles first h (fun R => F R ∨ R = R0) := by
  obtain ⟨iv, wv, fm, fb, ftv, ⟨_, _, _, _, _, _, _, g1, hf⟩, g2, g3⟩ := H
  refine ⟨iv, wv, fm, fb, ftv, ⟨_, _, _, _, _, _, _, g1.below hb, fun R hR => ?_⟩, g2.below hb, fun R hR => ?_⟩
  · rcases hR with q | q | rfl
    · exact (hf.up hb.size) R (.inl q)
    · exact (hf.up hb.size) R (.inr q)
    · exact ⟨h1, g1.mark.offHigh h0, g1.busy.offHigh h0⟩
  · rcases hR with q | rfl
    · exact g3 R q
    · exact ⟨Nat.lt_of_lt_of_le g1.cells.lt h0, fun e => by have := (g1.row.lt _ e).2; omega, fun e => by have := (g2.row.lt _ e).2; omega⟩
/-- A store into one of the blocks that are kept off. -/
theorem HallAt.put (H : HallAt L w Bh B n roles first h F) {p : Addr} (hp : F p.block) (u : Value) : HallAt L (w.setCell p u) Bh B n roles first h F := by
  obtain ⟨iv, wv, fm, fb, ftv, ⟨_, _, _, _, _, _, _, g1, hf⟩, g2, g3⟩ := H
  obtain ⟨q1, q2, q3⟩ := g3 _ hp
  obtain ⟨_, s1, s2⟩ := hf _ (.inr hp)
  exact ⟨iv, wv, fm, fb, ftv, ⟨_, _, _, _, _, _, _, g1.aside s1 s2 q2 q1 u, hf.up (by simp [World.setCell])⟩, g2.set (Nat.le_of_lt q1) q3 u, g3⟩
theorem HallAt.less (H : HallAt L w Bh B n roles first h F) (hG : ∀ R, G R → F R) : HallAt L w Bh B n roles first h G := by
  obtain ⟨iv, wv, fm, fb, ftv, ⟨_, _, _, _, _, _, _, g1, hf⟩, g2, g3⟩ := H
  refine ⟨iv, wv, fm, fb, ftv, ⟨_, _, _, _, _, _, _, g1, fun R hR => ?_⟩, g2, fun R hR => g3 R (hG R hR)⟩
  rcases hR with q | q
  · exact hf R (.inl q)
  · exact hf R (.inr (hG R q))
theorem KeepH.less (K : KeepH Bh B F w w') (hG : ∀ R, G R → F R) : KeepH Bh B G w w' := ⟨K.rest, fun k hk h1 h2 => K.block k hk (by
  rcases h1 with q | q
  · exact .inl q
  · exact .inr (hG k q)) h2⟩
/-- All that is written is sure. -/
theorem HallAt.sync (H : HallAt L w Bh B n roles first h F) : ∃ a l c, w.cell? ⟨Bh, 442, none⟩ = some (.slice a l c) ∧ l = 7 * h.ws.length ∧ l ≤ c ∧ w.cell? ⟨Bh, 443, none⟩ = some (.int .i64 ((7 * h.sure : Nat) : Int)) ∧ w.frozen? ⟨Bh, 443, none⟩ = false ∧
    HallAt L (w.setCell ⟨Bh, 443, none⟩ (.int .i64 (l : Int))) Bh B n roles first ⟨h.desk, h.ws, h.ws.length⟩ F := by
  obtain ⟨iv, wv, fm, fb, ftv, ⟨ma, ba, ml, mc, bl, bc, tv, g1, hf⟩, g2, g3⟩ := H
  obtain ⟨a, l, c, rfl⟩ := ownsRow_slice g2.row
  have hl := ownsRow_len g2.row
  rw [written_length] at hl
  obtain ⟨_, s1, s2⟩ := hf Bh (.inl (.inr (.inl rfl)))
  have hw : ∀ q, (Value.slice a l c).ownBlock = some q → B ≤ q := fun q e => (g2.row.lt q e).1
  have hlc : l ≤ c := by
    rcases g2.row.2 with ⟨e, _⟩ | ⟨g, cap, cur, e, _, _, hn, _⟩
    · injection e with _ e e2; omega
    · injection e with _ e e2; omega
  refine ⟨a, l, c, g1.written, hl, hlc, g1.sure, g1.cells.frozen 443, iv, .slice a l c, fm, fb, ftv, ⟨ma, ba, ml, mc, bl, bc, tv, ?_, hf.up (by simp [World.setCell])⟩, g2.set (p := ⟨Bh, 443, none⟩) (Nat.le_refl _) (fun e => by have := hw Bh e; have := g2.lt; omega) _, g3⟩
  have := g1.putSure (.int .i64 (l : Int)) (g1.mark.setOff s1 (p := ⟨Bh, 443, none⟩) rfl _) (g1.busy.setOff s2 (p := ⟨Bh, 443, none⟩) rfl _)
  rw [hl] at this ⊢
  exact this
theorem HallAt.lt (H : HallAt L w Bh B n roles first h F) : Bh < w.heap.size ∧ Bh < B ∧ ∀ R, F R → R < w.heap.size ∧ Bh < R := by
  obtain ⟨iv, wv, fm, fb, ftv, ⟨_, _, _, _, _, _, _, g1, hf⟩, g2, g3⟩ := H
  exact ⟨g1.cells.lt, g2.lt, fun R hR => ⟨(hf R (.inr hR)).1, (g3 R hR).1⟩⟩
end

set_option maxHeartbeats 8000000 in
theorem happen_any {L Bh B : Nat} {n : NetL} {roles : List (List Int)} {first : DeskL} {h : HallL} {F : Nat → Prop} (o : HOp) (w : World) (H : HallAt L w Bh B n roles first h F) (hInv : HallInv n roles first h) (hfirst : DeskInv n roles first) (hitems : first.items = []) (hB : B ≤ w.heap.size) (hl : h.desk.items.length + 1 ≤ 5864062014805) (hw : 7 * (h.ws.length + 1) ≤ 24629060462187) :
    Calls Try.prog 21 #[.pointer (some ⟨Bh, 0, none⟩), hopV o] w fun e w' => e = .returned (.agg #[.int .i64 (hallDo n roles first h o).2.err, .int .i64 (hallDo n roles first h o).2.item]) ∧ HallAt L w' Bh B n roles first (hallDo n roles first h o).1 F ∧ KeepH Bh B F w w' := by
  obtain ⟨kk, kp, op⟩ := o
  obtain ⟨kd, us, tr, it, hd⟩ := op
  obtain ⟨hBh, hBhB, hFlt⟩ := H.lt
  have b1 := below_new w (.cells (hopA ⟨kk, kp, ⟨kd, us, tr, it, hd⟩⟩) 47)
  have hop := cellsAt_new w (hopA ⟨kk, kp, ⟨kd, us, tr, it, hd⟩⟩) 47
  obtain ⟨wa, Hwa⟩ : ∃ v, Hid (w.alloc (.cells (hopA ⟨kk, kp, ⟨kd, us, tr, it, hd⟩⟩) 47) = v) := ⟨_, rfl⟩
  rw [Hwa.out] at b1 hop
  have s1 : wa.heap.size = w.heap.size + 1 := by rw [← Hwa.out]; simp
  have b2 := below_new wa (.cells #[.int .i64 0, .int .i64 0] 40)
  have hR := cellsAt_new wa #[.int .i64 0, .int .i64 0] 40
  rw [s1] at hR
  obtain ⟨w0, Hw0⟩ : ∃ v, Hid ((w.alloc (.cells #[.int .i64 kk, .int .i64 kp, .int .i64 kd, .int .i64 us, .int .i64 tr, .int .i64 it, .int .i64 hd] 47)).alloc (.cells #[.int .i64 0, .int .i64 0] 40) = v) := ⟨_, rfl⟩
  have hw0 : wa.alloc (.cells #[.int .i64 0, .int .i64 0] 40) = w0 := by rw [← Hwa.out]; exact Hw0.out
  rw [hw0] at b2 hR
  replace hop := hop.below b2
  have c0 := below_then b1 b2
  obtain ⟨F', HF'⟩ : ∃ F' : Nat → Prop, Hid (F' = fun R => F R ∨ R = w.heap.size + 1) := ⟨_, rfl⟩
  have H0 : HallAt L w0 Bh B n roles first h F' := by rw [HF'.out]; exact H.more c0 (by omega) hR.lt
  have HF0 : Hid (F' (w.heap.size + 1)) := by show F' _; rw [HF'.out]; exact .inr rfl
  have HFF : Hid (∀ R, F R → F' R) := fun R q => by rw [HF'.out]; exact .inl q
  have K0 : KeepH Bh B F w w0 := KeepH.of c0
  have HB : Hid (B ≤ w0.heap.size) := Nat.le_trans hB c0.size
  have HBw : Hid (B ≤ w.heap.size) := hB
  have HFlt : Hid (∀ R, F R → R < w.heap.size ∧ Bh < R) := hFlt
  have HBh : Hid (Bh < w.heap.size) := hBh
  have Hinv : Hid (HallInv n roles first h) := hInv
  have Hfirst : Hid (DeskInv n roles first) := hfirst
  have Hitems : Hid (first.items = []) := hitems
  have Hfew : Hid (h.desk.items.length + 1 ≤ 5864062014805) := hl
  have Hwl : Hid (7 * (h.ws.length + 1) ≤ 24629060462187) := hw
  clear H hw0 b1 b2 Hwa s1 hB hInv hfirst hitems hl hw hFlt hBh hBhB c0
  have o0 : w0.cell? ⟨w.heap.size, 0, none⟩ = some (.int .i64 kk) := hop.cell 0
  have o1 : w0.cell? ⟨w.heap.size, 1, none⟩ = some (.int .i64 kp) := hop.cell 1
  have o2 : w0.cell? ⟨w.heap.size, 2, none⟩ = some (.int .i64 kd) := hop.cell 2
  have o3 : w0.cell? ⟨w.heap.size, 3, none⟩ = some (.int .i64 us) := hop.cell 3
  have o4 : w0.cell? ⟨w.heap.size, 4, none⟩ = some (.int .i64 tr) := hop.cell 4
  have o5 : w0.cell? ⟨w.heap.size, 5, none⟩ = some (.int .i64 it) := hop.cell 5
  have o6 : w0.cell? ⟨w.heap.size, 6, none⟩ = some (.int .i64 hd) := hop.cell 6
  have Hput : Hid (∀ (w5 : World) (h' : HallL) (x y : Value), HallAt L w5 Bh B n roles first h' F' → KeepH Bh B F w w5 → CellsAt w5 (w.heap.size + 1) #[.int .i64 0, .int .i64 0] 40 →
      HallAt L ((w5.setCell ⟨w.heap.size + 1, 0, none⟩ x).setCell ⟨w.heap.size + 1, 1, none⟩ y) Bh B n roles first h' F ∧ KeepH Bh B F w ((w5.setCell ⟨w.heap.size + 1, 0, none⟩ x).setCell ⟨w.heap.size + 1, 1, none⟩ y) ∧ CellsAt ((w5.setCell ⟨w.heap.size + 1, 0, none⟩ x).setCell ⟨w.heap.size + 1, 1, none⟩ y) (w.heap.size + 1) #[x, y] 40) := fun w5 h' x y A K C =>
    ⟨((A.put (p := ⟨w.heap.size + 1, 0, none⟩) HF0.out x).put (p := ⟨w.heap.size + 1, 1, none⟩) HF0.out y).less HFF.out,
      (K.set (p := ⟨w.heap.size + 1, 0, none⟩) (.inr ⟨Nat.le_succ_of_le HBw.out, fun q => by have := (HFlt.out (w.heap.size + 1) q).1; omega⟩) x).set (p := ⟨w.heap.size + 1, 1, none⟩) (.inr ⟨Nat.le_succ_of_le HBw.out, fun q => by have := (HFlt.out (w.heap.size + 1) q).1; omega⟩) y,
      (C.put 0 x).put 1 y⟩
  show Calls _ _ #[_, .agg #[.int .i64 kk, .int .i64 kp, .int .i64 kd, .int .i64 us, .int .i64 tr, .int .i64 it, .int .i64 hd]] _ _
  go_enter Try.func21, Try.ntmps21
  go_upto_region 1 with fail
  rw [Hw0.out]
  clear Hw0
  by_cases k1 : kk = 1
  · subst k1
    go_wp2_with fail
    refine (hdo_any kp ⟨kd, us, tr, it, hd⟩ w0 H0 (by rw [Hinv.out.desk]; exact DeskInv.play _ Hfirst.out) Hinv.out.fit HB.out Hfew.out Hwl.out).mono ?_
    rintro e w5 ⟨rfl, A5, K5⟩
    have C5 : CellsAt w5 (w.heap.size + 1) #[.int .i64 0, .int .i64 0] 40 := (K5.block _ hR.lt (.inr HF0.out) (by have := HBh.out; omega)).trans hR
    have K6 := K0.then (K5.less HFF.out)
    obtain ⟨x, Hx⟩ : ∃ x, Hid ((hallDo n roles first h ⟨1, kp, ⟨kd, us, tr, it, hd⟩⟩).2.err = x) := ⟨_, rfl⟩
    obtain ⟨y, Hy⟩ : ∃ x, Hid ((hallDo n roles first h ⟨1, kp, ⟨kd, us, tr, it, hd⟩⟩).2.item = x) := ⟨_, rfl⟩
    rw [Hx.out, Hy.out]
    obtain ⟨A7, K7, C7⟩ := Hput.out w5 _ (.int .i64 x) (.int .i64 y) A5 K6 C5
    have f0 := C5.frozen 0
    have f1 := C5.frozen 1
    have r0 : w5.cell? ⟨w.heap.size + 1, 0, none⟩ = some (.int .i64 0) := C5.cell 0
    have r1 : w5.cell? ⟨w.heap.size + 1, 1, none⟩ = some (.int .i64 0) := C5.cell 1
    obtain ⟨W2, HW2⟩ : ∃ v, Hid ((w5.setCell ⟨w.heap.size + 1, 0, none⟩ (.int .i64 x)).setCell ⟨w.heap.size + 1, 1, none⟩ (.int .i64 y) = v) := ⟨_, rfl⟩
    rw [HW2.out] at A7 K7 C7
    clear A5 K5 C5 K6 hop hR H0 K0 o0 o1 o2 o3 o4 o5 o6 Hput
    go_wp2
    rw [HW2.out]
    exact bodyPost_ret (v := .agg #[.int .i64 x, .int .i64 y]) (results_ans rfl rfl C7) rfl ⟨by rw [Hx.out, Hy.out], A7, K7⟩
  by_cases k2 : kk = 2
  · subst k2
    have E : Hid (hallDo n roles first h ⟨2, kp, ⟨kd, us, tr, it, hd⟩⟩ = (⟨h.desk, h.ws, h.ws.length⟩, ⟨0, 0⟩)) := hall_k2 rfl
    obtain ⟨a, l, c, q442, Hl, hlc, q443, f443, A1⟩ := H0.sync
    have Hll : Hid (l = 7 * h.ws.length) := Hl
    have hl9 : l ≤ 24629060462187 := by have := Hwl.out; omega
    clear Hl
    have K1 : KeepH Bh B F w (w0.setCell ⟨Bh, 443, none⟩ (.int .i64 (l : Int))) := K0.set (p := ⟨Bh, 443, none⟩) (.inl rfl) _
    have C1 := hR.set (p := ⟨Bh, 443, none⟩) (by show Bh ≠ w.heap.size + 1; have := HBh.out; omega) (.int .i64 (l : Int))
    go_upto_region 6 with fail
    obtain ⟨w5, Hw5⟩ : ∃ v, Hid (w0.setCell ⟨Bh, 443, none⟩ (.int .i64 (l : Int)) = v) := ⟨_, rfl⟩
    rw [Hw5.out] at A1 K1 C1 ⊢
    obtain ⟨A7, K7, C7⟩ := Hput.out w5 _ (.int .i64 0) (.int .i64 0) A1 K1 C1
    have f0 := C1.frozen 0
    have f1 := C1.frozen 1
    have r0 : w5.cell? ⟨w.heap.size + 1, 0, none⟩ = some (.int .i64 0) := C1.cell 0
    have r1 : w5.cell? ⟨w.heap.size + 1, 1, none⟩ = some (.int .i64 0) := C1.cell 1
    obtain ⟨W2, HW2⟩ : ∃ v, Hid ((w5.setCell ⟨w.heap.size + 1, 0, none⟩ (.int .i64 0)).setCell ⟨w.heap.size + 1, 1, none⟩ (.int .i64 0) = v) := ⟨_, rfl⟩
    rw [HW2.out] at A7 K7 C7
    clear q442 q443 f443 A1 K1 C1 hop hR H0 K0 o0 o1 o2 o3 o4 o5 o6 Hput
    go_wp2
    rw [HW2.out]
    refine bodyPost_ret (v := .agg #[.int .i64 0, .int .i64 0]) (results_ans rfl rfl C7) rfl ?_
    rw [E.out]
    exact ⟨rfl, A7, K7⟩
  by_cases k3 : kk = 3
  · subst k3
    have E : Hid ((hallDo n roles first h ⟨3, kp, ⟨kd, us, tr, it, hd⟩⟩).2 = ⟨0, 0⟩) := hall_k3 rfl
    go_wp2_with fail
    refine (crash_any ⟨3, kp, ⟨kd, us, tr, it, hd⟩⟩ rfl w0 H0 Hinv.out Hfirst.out Hitems.out HB.out (by have := Hwl.out; omega)).mono ?_
    rintro e w5 ⟨rfl, A5, K5⟩
    have C5 : CellsAt w5 (w.heap.size + 1) #[.int .i64 0, .int .i64 0] 40 := (K5.block _ hR.lt (.inr HF0.out) (by have := HBh.out; omega)).trans hR
    have K6 := K0.then (K5.less HFF.out)
    obtain ⟨A7, K7, C7⟩ := Hput.out w5 _ (.int .i64 0) (.int .i64 0) A5 K6 C5
    have f0 := C5.frozen 0
    have f1 := C5.frozen 1
    have r0 : w5.cell? ⟨w.heap.size + 1, 0, none⟩ = some (.int .i64 0) := C5.cell 0
    have r1 : w5.cell? ⟨w.heap.size + 1, 1, none⟩ = some (.int .i64 0) := C5.cell 1
    obtain ⟨W2, HW2⟩ : ∃ v, Hid ((w5.setCell ⟨w.heap.size + 1, 0, none⟩ (.int .i64 0)).setCell ⟨w.heap.size + 1, 1, none⟩ (.int .i64 0) = v) := ⟨_, rfl⟩
    rw [HW2.out] at A7 K7 C7
    clear A5 K5 C5 K6 hop hR H0 K0 o0 o1 o2 o3 o4 o5 o6 Hput
    go_wp2
    rw [HW2.out]
    refine bodyPost_ret (v := .agg #[.int .i64 0, .int .i64 0]) (results_ans rfl rfl C7) rfl ?_
    rw [E.out]
    exact ⟨rfl, A7, K7⟩
  · have E : Hid (hallDo n roles first h ⟨kk, kp, ⟨kd, us, tr, it, hd⟩⟩ = (h, ⟨5, 0⟩)) := hall_k5 k1 k2 k3
    have e1 : (kk == 1) = false := by simpa using k1
    have e2 : (kk == 2) = false := by simpa using k2
    have e3 : (kk == 3) = false := by simpa using k3
    obtain ⟨A7, K7, C7⟩ := Hput.out w0 _ (.int .i64 5) (.int .i64 0) H0 K0 hR
    have f0 := hR.frozen 0
    have f1 := hR.frozen 1
    have r0 : w0.cell? ⟨w.heap.size + 1, 0, none⟩ = some (.int .i64 0) := hR.cell 0
    have r1 : w0.cell? ⟨w.heap.size + 1, 1, none⟩ = some (.int .i64 0) := hR.cell 1
    obtain ⟨W2, HW2⟩ : ∃ v, Hid ((w0.setCell ⟨w.heap.size + 1, 0, none⟩ (.int .i64 5)).setCell ⟨w.heap.size + 1, 1, none⟩ (.int .i64 0) = v) := ⟨_, rfl⟩
    rw [HW2.out] at A7 K7 C7
    clear hop H0 K0 o1 o2 o3 o4 o5 o6 Hput k1 k2 k3 hR
    go_wp2
    rw [HW2.out]
    refine bodyPost_ret (v := .agg #[.int .i64 5, .int .i64 0]) (results_ans rfl rfl C7) rfl ?_
    rw [E.out]
    exact ⟨rfl, A7, K7⟩

end Go.Proofs.Ytaladbcocealnaa

/- Things that happen in a hall, in memory; a hall built, made and stored whole. -/
namespace Go.Proofs.Ytaladbcocealnaa
open Go.RowKit
set_option linter.unusedVariables false
set_option linter.unusedSimpArgs false
set_option maxRecDepth 4000

def hopCells (l : List HOp) : List Value := l.flatMap fun o => (hopA o).toList
theorem hopCells_length (l : List HOp) : (hopCells l).length = l.length * 7 := by
  induction l with
  | nil => rfl
  | cons x r ih =>
    have e : hopCells (x :: r) = (hopA x).toList ++ hopCells r := rfl
    rw [e, List.length_append, ih, List.length_cons]
    show 7 + r.length * 7 = _
    omega
theorem hopCells_append (l m : List HOp) : hopCells (l ++ m) = hopCells l ++ hopCells m := by simp [hopCells]
theorem hopCells_one (l : List HOp) (v : Value) (hv : v ∈ hopCells l) : v.oneCell' = true := by
  unfold hopCells at hv
  obtain ⟨o, _, ho⟩ := List.mem_flatMap.1 hv
  simp only [hopA, List.mem_cons, List.not_mem_nil, or_false] at ho
  rcases ho with rfl | rfl | rfl | rfl | rfl | rfl | rfl <;> rfl
theorem hopCells_at : ∀ (l : List HOp) (j i : Nat), j < l.length → i < 7 → (hopCells l)[j * 7 + i]? = (hopA (hopAt l j))[i]?
  | [], j, i, h, _ => absurd h (Nat.not_lt_zero _)
  | x :: r, 0, i, _, hi => by
    have e : hopCells (x :: r) = (hopA x).toList ++ hopCells r := rfl
    rw [e, Nat.zero_mul, Nat.zero_add, List.getElem?_append_left (by simpa [hopA] using hi)]
    simp [hopAt]
  | x :: r, j + 1, i, h, hi => by
    have e : hopCells (x :: r) = (hopA x).toList ++ hopCells r := rfl
    have ih := hopCells_at r j i (by simpa using h) hi
    rw [e, List.getElem?_append_right (by simp [hopA]; omega)]
    rw [show (j + 1) * 7 + i - (hopA x).toList.length = j * 7 + i by simp [hopA]; omega]
    exact ih
/-- A slice of things that happen. -/
def HOpsV (w : World) (v : Value) (l : List HOp) : Prop := CellsV w v 7 2513169434916 l.length (hopCells l)
theorem HOpsV.below {w w' : World} {v : Value} {l : List HOp} (h : HOpsV w v l) (hb : Below w.heap.size w w') : HOpsV w' v l := CellsV.below h hb
theorem HOpsV.at {w : World} {a : Option Addr} {len cap : Nat} {l : List HOp} (h : HOpsV w (.slice a len cap) l) {k : Nat} (hk : k < l.length) :
    ∃ b off, a = some ⟨b, off, none⟩ ∧ b < w.heap.size ∧ w.cell? ⟨b, off + k * 7, none⟩ = some (.int .i64 (hopAt l k).kind) ∧ w.cell? ⟨b, off + k * 7 + 1, none⟩ = some (.int .i64 (hopAt l k).keep) ∧ w.cell? ⟨b, off + k * 7 + 2, none⟩ = some (.int .i64 (hopAt l k).op.kind) ∧ w.cell? ⟨b, off + k * 7 + 3, none⟩ = some (.int .i64 (hopAt l k).op.user) ∧
      w.cell? ⟨b, off + k * 7 + 4, none⟩ = some (.int .i64 (hopAt l k).op.tran) ∧ w.cell? ⟨b, off + k * 7 + 5, none⟩ = some (.int .i64 (hopAt l k).op.item) ∧ w.cell? ⟨b, off + k * 7 + 6, none⟩ = some (.int .i64 (hopAt l k).op.hand) := by
  obtain ⟨a', cap', e, _, _, _, _, hr⟩ := h
  injection e with e1 _ _
  subst e1
  have key : ∀ i u, i < 7 → (hopA (hopAt l k))[i]? = some u → ∃ b off, a = some ⟨b, off, none⟩ ∧ b < w.heap.size ∧ w.cell? ⟨b, off + (k * 7 + i), none⟩ = some u := fun i u hi hu => hr _ u ((hopCells_at l k i hk hi).trans hu)
  obtain ⟨b, off, rfl, hlt, h0⟩ := key 0 _ (by omega) rfl
  have all : ∀ i u, i < 7 → (hopA (hopAt l k))[i]? = some u → w.cell? ⟨b, off + k * 7 + i, none⟩ = some u := fun i u hi hu => by
    obtain ⟨b', off', e, _, hc⟩ := key i u hi hu
    injection e with e
    injection e with e1 e2
    subst e1 e2
    rw [Nat.add_assoc]; exact hc
  exact ⟨b, off, rfl, hlt, all 0 _ (by omega) rfl, all 1 _ (by omega) rfl, all 2 _ (by omega) rfl, all 3 _ (by omega) rfl, all 4 _ (by omega) rfl, all 5 _ (by omega) rfl, all 6 _ (by omega) rfl⟩

/-! ### a hall whole -/
def hallA (A B : Array Value) (x y : Value) : Array Value := A ++ (B ++ #[x, y])
theorem hallA_size {A B : Array Value} (hA : A.size = 221) (hB : B.size = 221) (x y : Value) : (hallA A B x y).size = 444 := by simp [hallA, hA, hB]
theorem info_hall : (Try.prog.info? 68).map (fun i => (i.zero, i.size, i.bytes)) = some (some (.agg (hallA zeroO zeroO (.slice none 0 0) (.int .i64 0))), 444, 672) := by kernel_rfl
theorem info_slu8 : (Try.prog.info? 66).map (fun i => (i.zero, i.size, i.bytes)) = some (some (.slice none 0 0), 1, 24) := by kernel_rfl
abbrev hallZ (w : World) : (sizeOf 68).run Try.prog w = .ok 444 w := run_sizeOf_big info_hall w
theorem hallA_one {A B : Array Value} {x y : Value} (hA : ∀ v ∈ A.toList, v.oneCell' = true) (hB : ∀ v ∈ B.toList, v.oneCell' = true) (hx : x.oneCell' = true) (hy : y.oneCell' = true) (v : Value) (hv : v ∈ (hallA A B x y).toList) : v.oneCell' = true := by
  unfold hallA at hv
  simp only [Array.toList_append, List.mem_append, List.mem_cons, List.not_mem_nil, or_false] at hv
  rcases hv with h | h | rfl | rfl
  · exact hA v h
  · exact hB v h
  · exact hx
  · exact hy
theorem build_hall (w : World) (A B : Array Value) (hA : A.size = 221) (hB : B.size = 221) :
    (Instr.build 68 #[(0, .agg A), (1, .agg B)]).run Try.prog w = .ok (.agg (hallA A B (.slice none 0 0) (.int .i64 0))) w := by
  obtain ⟨i0, h0, h1, h2, h3⟩ := info_parts info_hall
  have hu := Try.underlying68
  have hz : (zeroValue 68).run Try.prog w = .ok (.agg (hallA zeroO zeroO (.slice none 0 0) (.int .i64 0))) w := by
    simp [zeroValue, typeInfo, h0, h1]
  have s1 := run_sizeOf_big info_office w
  have s2 := run_sizeOf_big info_slu8 w
  have s3 := run_sizeOf_big info_int w
  simp only [Instr.build, Sem.run_bind, hz, Result.andThen, run_underlying hu]
  have hm : Sem.run Try.prog (Array.mapM (fun f : Field => do
            let n ← sizeOf f.type
            pure (f.offset, n))
          #[{ name := "first", type := 63, offset := 0, embedded := false, tag := "", pkgPath := "tokenhall/hall", byteOffset := 0 },
            { name := "now", type := 63, offset := 221, embedded := false, tag := "", pkgPath := "tokenhall/hall", byteOffset := 320 },
            { name := "written", type := 66, offset := 442, embedded := false, tag := "", pkgPath := "tokenhall/hall", byteOffset := 640 },
            { name := "sure", type := 3, offset := 443, embedded := false, tag := "", pkgPath := "tokenhall/hall", byteOffset := 664 }]) w = .ok #[(0, 221), (221, 221), (442, 1), (443, 1)] w := by
    simp [Sem.run_bind, s1, s2, s3, Result.andThen]
  rw [hm]
  simp only [Value.cells]
  obtain ⟨zs, Hzs⟩ : ∃ zs, Hid (hallA zeroO zeroO (.slice none 0 0) (.int .i64 0) = zs) := ⟨_, rfl⟩
  have hzs : zs.size = 444 := by rw [← Hzs.out]; exact hallA_size (offA_size _ _ _ _ _ _) (offA_size _ _ _ _ _ _) _ _
  have hz2 : zs[442]? = some (.slice none 0 0) ∧ zs[443]? = some (.int .i64 0) := by
    have e : (zeroO).size = 221 := offA_size _ _ _ _ _ _
    obtain ⟨O, HO⟩ : ∃ O, Hid (zeroO = O) := ⟨_, rfl⟩
    rw [HO.out] at e
    rw [← Hzs.out, HO.out]
    unfold hallA
    rw [Array.getElem?_append_right (by omega), Array.getElem?_append_right (by omega), Array.getElem?_append_right (by omega), Array.getElem?_append_right (by omega), e]
    exact ⟨rfl, rfl⟩
  rw [Hzs.out, fill_step (off := 0) (by rw [hA]; rfl) (by rw [hzs, hA]; omega)]
  have q1 : (laidA zs 0 A).size = 444 := by rw [laidA_size _ _ _ (by rw [hzs, hA]; omega), hzs]
  rw [fill_step (off := 221) (by rw [hB]; rfl) (by rw [q1, hB]; omega)]
  have e : laidA (laidA zs 0 A) 221 B = hallA A B (.slice none 0 0) (.int .i64 0) := by
    apply Array.ext_getElem?
    intro i
    rw [laidA_get _ _ _ _ (by rw [q1, hB]; omega), laidA_get _ _ _ _ (by rw [hzs, hA]; omega), hA, hB]
    unfold hallA
    rcases Nat.lt_or_ge i 221 with hi | hi
    · rw [if_neg (by omega), if_pos (by omega), Array.getElem?_append_left (by omega)]; rfl
    · rw [Array.getElem?_append_right (by omega), hA]
      rcases Nat.lt_or_ge i 442 with h2 | h2
      · rw [if_pos (by omega), Array.getElem?_append_left (by omega)]
      · rw [if_neg (by omega), if_neg (by omega), Array.getElem?_append_right (by omega), hB]
        rcases Nat.lt_or_ge i 444 with h3 | h3
        · obtain rfl | rfl : i = 442 ∨ i = 443 := by omega
          · exact hz2.1
          · exact hz2.2
        · rw [Array.getElem?_eq_none (by omega), Array.getElem?_eq_none (by simp; omega)]
  rw [e]
  rfl
theorem wpList_build_hall {ops : Array Oper} {rest : List Oper} {o : Oper} {a : Act} {w : World} {Q : Exit → Act → World → Prop} (hgd : o.guard = none) (x y : Operand) (ho : o.op = .build 68 #[(0, x), (1, y)]) (A B : Array Value) (hx : a.eval x = .agg A) (hy : a.eval y = .agg B) (hA : A.size = 221) (hB : B.size = 221)
    (h : wpList Try.prog ops Q rest (a.put o.dst (.agg (hallA A B (.slice none 0 0) (.int .i64 0)))) w) : wpList Try.prog ops Q (o :: rest) a w :=
  wpList_plain hgd fun _ hK => by
    have e : (#[(0, x), (1, y)] : Array (Nat × Operand)).map (fun (i, x) => (i, a.eval x)) = #[(0, .agg A), (1, .agg B)] := by
      simp [hx, hy]
    unfold Oper.wp execOp
    simp only [ho, e, Sem.run_bind, build_hall w A B hA hB, Result.andThen_ok, Sem.run_pure]
    exact hK _ _ h

/-- How much a hall holds. -/
theorem hall_few (n : NetL) (roles : List (List Int)) (first : DeskL) (os : List HOp) : ∀ k, k ≤ os.length → (hallAt n roles first ⟨first, [], 0⟩ os k).ws.length ≤ k
  | 0, _ => by simp [hallAt, hallPlay]
  | k + 1, hk => by
    have ih := hall_few n roles first os k (by omega)
    rw [hallAt_succ n roles first _ (by omega)]
    generalize hallAt n roles first ⟨first, [], 0⟩ os k = h at *
    generalize hopAt os k = o
    unfold hallDo
    by_cases h1 : o.kind = 1
    · rw [if_pos h1]
      split
      · split
        · show (h.ws ++ [o.op]).length ≤ k + 1; rw [List.length_append]; show h.ws.length + 1 ≤ k + 1; omega
        · show h.ws.length ≤ k + 1; omega
      · show h.ws.length ≤ k + 1; omega
    · rw [if_neg h1]
      by_cases h2 : o.kind = 2
      · rw [if_pos h2]; show h.ws.length ≤ _; omega
      · rw [if_neg h2]
        by_cases h3 : o.kind = 3
        · rw [if_pos h3]; show (h.ws.take _).length ≤ _; rw [List.length_take]; omega
        · rw [if_neg h3]; show h.ws.length ≤ k + 1; omega
theorem hall_items {n : NetL} {roles : List (List Int)} {first : DeskL} {h : HallL} (hI : HallInv n roles first h) (hf : first.items = []) : h.desk.items.length ≤ h.ws.length := by
  rw [hI.desk]
  have := deskAt_few (n := n) (roles := roles) (d := first) (os := h.ws) (by rw [hf]; rfl) h.ws.length (Nat.le_refl _)
  rwa [deskAt_all n roles first (Nat.le_refl _)] at this

end Go.Proofs.Ytaladbcocealnaa

/- What package hall promises, as it landed: Play. -/
namespace Go.Proofs.Ytaladbcocealnaa
open Go.RowKit
set_option linter.unusedVariables false
set_option linter.unusedSimpArgs false
set_option maxRecDepth 4000

/-- A desk whose slices lie in blocks from B on. -/
def DeskFrom (B : Nat) (r : Value) : Prop := ∃ x y z, r = .agg #[x, y, z] ∧ SlFrom B x ∧ SlFrom B y ∧ SlFrom B z
def GivesDF (w : World) (p : DeskL × List DAns × Int) (e : Ending) (w' : World) : Prop :=
  ∃ r a c, e = .returned (.tuple #[r, .slice a p.2.1.length c, .int .i64 p.2.2]) ∧ DeskV w' r p.1 ∧ OpsV w' (.slice a p.2.1.length c) (ansL p.2.1) ∧ Below w.heap.size w w' ∧ DeskFrom w.heap.size r ∧ SlFrom w.heap.size (.slice a p.2.1.length c)
theorem GivesDF.gives {w w' : World} {p : DeskL × List DAns × Int} {e : Ending} (h : GivesDF w p e w') : GivesD w p e w' := by
  obtain ⟨r, a, c, h1, h2, h3, h4, _⟩ := h
  exact ⟨r, a, c, h1, h2, h3, h4⟩
theorem from_off {L : Nat} {v : Value} (h : ∀ R, R < L → SlOff R v) : SlFrom L v := fun b off l c e hl => by
  rcases Nat.lt_or_ge b L with q | q
  · exact absurd rfl (h b q b off l c e hl)
  · exact q

set_option maxHeartbeats 8000000 in
theorem hall_own (v r u : Value) (n : NetL) (i : Int) (roles : List (List Int)) (os : List HOp) (w : World) (hv : Net w v n) (hr : Lists w r roles) (hu : HOpsV w u os) : Calls Try.prog 7 #[v, .int .i64 i, r, u] w fun e w' => GivesDF w (hallAll n i roles os) e w' := by
  obtain ⟨tv0, rfl, hT⟩ := hv
  obtain ⟨ua, ucap, rfl, hmx, hsh⟩ := CellsV.slice hu
  have b1 := below_new w (.cells #[.int .i64 n.places, tv0] 24)
  have hbn := box2_new w (.int .i64 n.places) tv0 24
  obtain ⟨wa, Hwa⟩ : ∃ v, Hid (w.alloc (.cells #[.int .i64 n.places, tv0] 24) = v) := ⟨_, rfl⟩
  rw [Hwa.out] at b1 hbn
  have s1 : wa.heap.size = w.heap.size + 1 := by rw [← Hwa.out]; simp
  have b2 := below_new wa (.cells #[.slice none 0 0, .slice none 0 0, .slice none 0 0] 32)
  have hR := cellsAt_new wa #[.slice none 0 0, .slice none 0 0, .slice none 0 0] 32
  rw [s1] at hR
  obtain ⟨w0, Hw0⟩ : ∃ v, Hid ((w.alloc (.cells #[.int .i64 n.places, tv0] 24)).alloc (.cells #[.slice none 0 0, .slice none 0 0, .slice none 0 0] 32) = v) := ⟨_, rfl⟩
  have hw0 : wa.alloc (.cells #[.slice none 0 0, .slice none 0 0, .slice none 0 0] 32) = w0 := by rw [← Hwa.out]; exact Hw0.out
  rw [hw0] at b2 hR
  replace hbn := hbn.below b2
  have c0 := below_then b1 b2
  have hv : Net w0 (.agg #[.int .i64 n.places, tv0]) n := ⟨_, rfl, hT.below c0⟩
  clear hw0 Hwa s1 b1 b2
  obtain ⟨x0, x1, x2⟩ := id hbn
  obtain ⟨len, Hlen⟩ : ∃ l, Hid (os.length = l) := ⟨_, rfl⟩
  have Hmx : Hid (len ≤ 2513169434916) := by show _ ≤ _; rw [← Hlen.out]; exact hmx
  have HU : Hid (HOpsV w (.slice ua len ucap) os) := by show HOpsV _ _ _; rw [← Hlen.out]; exact hu
  have hmx9 : len ≤ 2513169434916 := Hmx.out
  rw [Hlen.out]
  clear hu hmx hsh
  go_enter Try.func7, Try.ntmps7
  go_upto_region 1 with fail
  rw [Hw0.out]
  clear Hw0
  go_wp2_with fail
  have Hc0s : Hid (w.heap.size ≤ w0.heap.size) := c0.size
  refine (open_own _ _ n i roles w0 (by exact hv) (by exact hr.below c0)).mono ?_
  rintro e w1 ⟨cs, rfl, hOp, b, hOF⟩
  replace c0 := below_then c0 b
  replace hR := hR.below b
  clear x0 x1 x2 hv hbn b
  have hcs : cs.size = 221 := hOp.size
  have hone : ∀ v ∈ cs.toList, v.oneCell' = true := hOp.one
  obtain ⟨zs, Hzs⟩ : ∃ zs, Hid (zeroO = zs) := ⟨_, rfl⟩
  have hzs : zs.size = 221 := by rw [← Hzs.out]; exact offA_size _ _ _ _ _ _
  have hinfo : (Try.prog.info? 63).map (fun i => (i.zero, i.size, i.bytes)) = some (some (.agg zs), 221, 320) := by rw [← Hzs.out]; exact info_office
  have hinfoH : (Try.prog.info? 68).map (fun i => (i.zero, i.size, i.bytes)) = some (some (.agg (hallA zs zs (.slice none 0 0) (.int .i64 0))), 444, 672) := by rw [← Hzs.out]; exact info_hall
  obtain ⟨zh, Hzh⟩ : ∃ zh, Hid (hallA zs zs (.slice none 0 0) (.int .i64 0) = zh) := ⟨_, rfl⟩
  have hzh : zh.size = 444 := by rw [← Hzh.out]; exact hallA_size hzs hzs _ _
  rw [Hzh.out] at hinfoH
  have hz := cellsAt_new w1 zs 63
  have bz := below_new w1 (.cells zs 63)
  obtain ⟨Bo, HBo⟩ : ∃ B, Hid (w1.heap.size = B) := ⟨_, rfl⟩
  obtain ⟨wz, Hwz⟩ : ∃ v, Hid (w1.alloc (.cells zs 63) = v) := ⟨_, rfl⟩
  rw [Hwz.out] at hz bz
  have b2 := below_setRow bz (Nat.le_refl _) cs
  rw [HBo.out] at hz b2
  have hB2 := hz.over cs
  obtain ⟨W2, HW2⟩ : ∃ v, Hid (wz.setRow Bo cs = v) := ⟨_, rfl⟩
  rw [HW2.out] at hB2 b2
  go_upto_region 2 with (first | (refine wpList_alloc_big rfl hinfo rfl ?_; rw [Hwz.out, HBo.out]) | (refine wpList_store_big rfl offZ _ _ rfl Bo _ cs _ rfl rfl hz hzs hcs hone ?_; rw [HW2.out]))
  clear Hwz hz bz
  replace b2 : Below w1.heap.size w1 W2 := by rw [HBo.out]; exact b2
  replace c0 := below_then c0 b2
  replace hR := hR.below b2
  have HR0 : Hid (w.heap.size + 1 < W2.heap.size) := hR.lt
  obtain ⟨E, HE⟩ : ∃ d, Hid ((beginC n i).2 = d) := ⟨_, rfl⟩
  rw [HE.out]
  by_cases hE : E = 0
  · subst hE
    rcases hOp with ⟨hq, _⟩ | ⟨_, ma, ba, ml, mc, bl, bc, tv, ecs, hM, hBu, hN⟩
    · exact absurd HE.out hq
    have hfr : SlFrom w0.heap.size (.slice ma ml mc) ∧ SlFrom w0.heap.size (.slice ba bl bc) := hOF _ _ (by rw [ecs]; unfold offA; rw [Array.getElem?_append_left (by simp)]; rfl) (by rw [ecs]; unfold offA; rw [Array.getElem?_append_left (by simp)]; rfl)
    have hNt := hN.trans1
    obtain ⟨d0, Hd0⟩ : ∃ d, Hid (deskBegin n i = d) := ⟨_, rfl⟩
    have Hall : Hid (hallAll n i roles os = ((hallPlay n roles d0 ⟨d0, [], 0⟩ os).1.desk, (hallPlay n roles d0 ⟨d0, [], 0⟩ os).2, 0)) := by show _ = _; unfold hallAll; rw [if_pos HE.out, Hd0.out]
    have Hinv0 : Hid (DeskInv n roles d0) := by rw [← Hd0.out]; exact desk_begin roles HE.out
    have Hd1 : Hid (d0.items = [] ∧ d0.case = (beginC n i).1) := by rw [← Hd0.out]; exact ⟨rfl, rfl⟩
    -- the hall
    obtain ⟨Bh, HBh⟩ : ∃ B, Hid (W2.heap.size = B) := ⟨_, rfl⟩
    have hzH := cellsAt_new W2 zh 68
    have bzH := below_new W2 (.cells zh 68)
    obtain ⟨wy, Hwy⟩ : ∃ v, Hid (W2.alloc (.cells zh 68) = v) := ⟨_, rfl⟩
    rw [Hwy.out] at hzH bzH
    obtain ⟨hh, Hhh⟩ : ∃ hh, Hid (hallA cs cs (.slice none 0 0) (.int .i64 0) = hh) := ⟨_, rfl⟩
    have hhs : hh.size = 444 := by rw [← Hhh.out]; exact hallA_size hcs hcs _ _
    have hho : ∀ v ∈ hh.toList, v.oneCell' = true := by rw [← Hhh.out]; exact hallA_one hone hone rfl rfl
    have b3 := below_setRow bzH (Nat.le_refl _) hh
    rw [HBh.out] at hzH b3
    have hB3 := hzH.over hh
    obtain ⟨W3, HW3⟩ : ∃ v, Hid (wy.setRow Bh hh = v) := ⟨_, rfl⟩
    rw [HW3.out] at hB3 b3
    have q0 : W2.cell? ⟨w.heap.size + 1, 0, none⟩ = some (.slice none 0 0) := hR.cell 0
    go_upto_region 5 with (first | (refine wpList_load_big rfl Try.isAgg63 offZ _ rfl Bo cs _ rfl hB2 hcs ?_) | (refine wpList_build_hall rfl _ _ rfl cs cs rfl rfl hcs hcs ?_; rw [Hhh.out]) | (refine wpList_alloc_big rfl hinfoH rfl ?_; rw [Hwy.out, HBh.out]) | (refine wpList_store_big rfl hallZ _ _ rfl Bh zh hh _ rfl rfl hzH hzh hhs hho ?_; rw [HW3.out]))
    clear Hwy hzH bzH q0 hinfo hinfoH hzs hzh hhs hho
    replace b3 : Below W2.heap.size W2 W3 := by rw [HBh.out]; exact b3
    replace c0 := below_then c0 b3
    replace hR := hR.below b3
    have hBhlt : Bh < W3.heap.size := hB3.lt
    have hM3 := (hM.below b2).below b3
    have hBu3 := (hBu.below b2).below b3
    have hNt2 : Trans W2 tv n.trans := hNt.below b2
    have hM2 := hM.below b2
    have hBu2 := hBu.below b2
    obtain ⟨w4, hmk, be, hX⟩ := make_ans W3 len (by omega)
    obtain ⟨Ba, HBa⟩ : ∃ B, Hid (W3.heap.size = B) := ⟨_, rfl⟩
    have HBB : Hid (Bh < Ba) := by show _ < _; rw [← HBa.out]; exact hBhlt
    have b4 := below_then b3 be
    have hblk : ∀ w' : World, w4.heap.size ≤ w'.heap.size → (∀ k, k < w4.heap.size → k < Bh → w'.heap[k]? = w4.heap[k]?) → W2.heap.size ≤ w'.heap.size ∧ ∀ k, k < W2.heap.size → w'.heap[k]? = W2.heap[k]? := fun w' hs hk => by
      refine ⟨Nat.le_trans b4.size hs, fun k hlt => ?_⟩
      have e := HBh.out
      rw [hk k (Nat.lt_of_lt_of_le hlt b4.size) (by omega)]
      exact b4.block k hlt
    have hK4 : On (fun k => k < Bh) w4 (fun w' => Ints w' (.slice ma ml mc) d0.case.mark ∧ Ints w' (.slice ba bl bc) d0.case.busy ∧ Trans w' tv n.trans) := fun w' hs hk => by
      obtain ⟨e1, e2⟩ := hblk w' hs hk
      rw [Hd1.out.2]
      exact ⟨hM2.blocks e1 e2, hBu2.blocks e1 e2, hNt2.blocks e1 e2⟩
    have hC4 : CellsAt w4 Bh hh 68 := hB3.below be
    have hAt : HallAt w.heap.size w4 Bh (Ba + 1) n roles d0 ⟨d0, [], 0⟩ (fun R => R = Ba) := by
      refine ⟨.slice none 0 0, .slice none 0 0, .slice ma ml mc, .slice ba bl bc, tv, ⟨ma, ba, ml, mc, bl, bc, tv, ⟨?_, hK4.now.1, hK4.now.2.1, hK4.mono (fun _ q => q.2.2), ?_, (fun g e => by cases e), (fun g e => by cases e), by have := HBB.out; omega⟩, fun R hRR => ?_⟩, ⟨hK4, World.ownsRow_nil _ _ _ _, (fun g e => by cases e), by have := HBB.out; omega, hfr.1.mono Hc0s.out, hfr.2.mono Hc0s.out, by have := HR0.out; have e := HBh.out; omega⟩, fun R hRR => ⟨by have := HBB.out; omega, (fun e => by cases e), (fun e => by cases e)⟩⟩
      · have e : hh = (hallS (.slice ma ml mc) (.slice ba bl bc) tv n roles (.slice none 0 0) 0).all (firstA (.slice ma ml mc) (.slice ba bl bc) tv n roles) := by
          rw [← Hhh.out, ecs]
          rfl
        have h9 := hC4
        rw [e] at h9
        exact h9
      · show World.ownsRow _ _ _ _ _ d0.items.length _
        rw [Hd1.out.1]; exact World.ownsRow_nil _ _ _ _
      · rcases hRR with (q | rfl | q) | rfl
        · cases q
        · exact ⟨hC4.lt, on_off (hK4.mono fun _ z => z.1) (Nat.le_refl _), on_off (hK4.mono fun _ z => z.2.1) (Nat.le_refl _)⟩
        · have := HR0.out; have e := HBh.out; have := hC4.lt
          exact ⟨by omega, (hfr.1.mono Hc0s.out).off q, (hfr.2.mono Hc0s.out).off q⟩
        · have := HBB.out
          exact ⟨by rw [← HBa.out]; exact hX.lt, on_off (hK4.mono fun _ z => z.1) (by omega), on_off (hK4.mono fun _ z => z.2.1) (by omega)⟩
    rw [HBa.out] at hmk hX
    replace c0 := below_then c0 be
    replace hR := hR.below be
    have HRlt : Hid (w.heap.size + 1 < Bh) := by
      show _ < _
      rw [← HBh.out]
      exact HR0.out
    clear hfr hOF hC4 hK4 hblk hM2 hBu2 hNt2 hM3 hBu3 b4 be b2 b3 hB2 hB3 hBhlt hM hBu hN hNt ecs hcs hone
    go_wp2_with fail
    go_loopg [36] len (fun gk i' wr => ∃ (k : Nat) (l : List (Int × Int)), k + gk = len ∧ i' = .int .i64 (k : Int) ∧ Below w.heap.size w wr ∧ CellsAt wr (w.heap.size + 1) #[.slice none 0 0, .slice none 0 0, .slice none 0 0] 32 ∧ HallAt w.heap.size wr Bh (Ba + 1) n roles d0 (hallAt n roles d0 ⟨d0, [], 0⟩ os k) (fun R => R = Ba) ∧ AnsAt wr Ba len l ∧ Hid (∀ j, j < k → opAt l j = opAt (ansL (hallPlay n roles d0 ⟨d0, [], 0⟩ os).2) j))
    case atStart => exact ⟨0, _, by omega, rfl, c0, hR, hAt, hX, fun j hj => absurd hj (Nat.not_lt_zero _)⟩
    case round =>
      clear c0 hR hAt hX hmk
      obtain ⟨k, l, hkg, rfl, c0, hR, hAt, hX, HX⟩ := hrel
      have HInv : Hid (HallInv n roles d0 (hallAt n roles d0 ⟨d0, [], 0⟩ os k)) := (inv_begin n roles d0).play _
      by_cases hk : k < len
      · obtain ⟨ob, of, rfl, hol, p0, p1, p2, p3, p4, p5, p6⟩ := (HU.out.below c0).at (k := k) (by rw [Hlen.out]; exact hk)
        have Hfw : Hid ((hallAt n roles d0 ⟨d0, [], 0⟩ os k).ws.length ≤ k) := hall_few n roles d0 os k (by rw [Hlen.out]; omega)
        have Hit : Hid ((hallAt n roles d0 ⟨d0, [], 0⟩ os k).desk.items.length ≤ (hallAt n roles d0 ⟨d0, [], 0⟩ os k).ws.length) := hall_items HInv.out Hd1.out.1
        have Hnx : Hid (hallAt n roles d0 ⟨d0, [], 0⟩ os (k + 1) = (hallDo n roles d0 (hallAt n roles d0 ⟨d0, [], 0⟩ os k) (hopAt os k)).1) := hallAt_succ n roles d0 _ (by rw [Hlen.out]; exact hk)
        have Han : Hid (opAt (ansL (hallPlay n roles d0 ⟨d0, [], 0⟩ os).2) k = ((hallDo n roles d0 (hallAt n roles d0 ⟨d0, [], 0⟩ os k) (hopAt os k)).2.err, (hallDo n roles d0 (hallAt n roles d0 ⟨d0, [], 0⟩ os k) (hopAt os k)).2.item)) := by
          show _ = _
          rw [ansL_at, hallAns_at n roles d0 _ (by rw [Hlen.out]; exact hk)]
        obtain ⟨hk1, Hhk⟩ : ∃ d, Hid (hallAt n roles d0 ⟨d0, [], 0⟩ os k = d) := ⟨_, rfl⟩
        obtain ⟨op, Hop⟩ : ∃ o, Hid (hopAt os k = o) := ⟨_, rfl⟩
        rw [Hhk.out] at hAt HInv Hfw Hit Hnx Han
        rw [Hop.out] at p0 p1 p2 p3 p4 p5 p6 Hnx Han
        obtain ⟨kk, kp, ⟨kd, us, tr, it, hd⟩⟩ := op
        have bo := below_new wr (.cells #[.int .i64 kk, .int .i64 kp, .int .i64 kd, .int .i64 us, .int .i64 tr, .int .i64 it, .int .i64 hd] 47)
        have hbx := cellsAt_new wr #[.int .i64 kk, .int .i64 kp, .int .i64 kd, .int .i64 us, .int .i64 tr, .int .i64 it, .int .i64 hd] 47
        obtain ⟨Bx, HBx⟩ : ∃ B, Hid (wr.heap.size = B) := ⟨_, rfl⟩
        rw [HBx.out] at hbx
        obtain ⟨wo, Hwo⟩ : ∃ v, Hid (wr.alloc (.cells #[.int .i64 kk, .int .i64 kp, .int .i64 kd, .int .i64 us, .int .i64 tr, .int .i64 it, .int .i64 hd] 47) = v) := ⟨_, rfl⟩
        rw [Hwo.out] at bo hbx
        go_upto_region 9 with fail
        rw [Hwo.out, HBx.out]
        clear Hwo HBx p0 p1 p2 p3 p4 p5 p6 hol
        replace hAt := hAt.below bo
        replace c0 := below_then c0 bo
        replace hR := hR.below bo
        replace hX := hX.keep bo.size (bo.block Ba hX.lt)
        clear bo
        have o0 : wo.cell? ⟨Bx, 0, none⟩ = some (.int .i64 kk) := hbx.cell 0
        have o1 : wo.cell? ⟨Bx, 1, none⟩ = some (.int .i64 kp) := hbx.cell 1
        have o2 : wo.cell? ⟨Bx, 2, none⟩ = some (.int .i64 kd) := hbx.cell 2
        have o3 : wo.cell? ⟨Bx, 3, none⟩ = some (.int .i64 us) := hbx.cell 3
        have o4 : wo.cell? ⟨Bx, 4, none⟩ = some (.int .i64 tr) := hbx.cell 4
        have o5 : wo.cell? ⟨Bx, 5, none⟩ = some (.int .i64 it) := hbx.cell 5
        have o6 : wo.cell? ⟨Bx, 6, none⟩ = some (.int .i64 hd) := hbx.cell 6
        go_wp2_with fail
        refine (happen_any ⟨kk, kp, ⟨kd, us, tr, it, hd⟩⟩ wo hAt HInv.out Hinv0.out Hd1.out.1 hX.lt (by have := Hit.out; have := Hfw.out; omega) (by have := Hfw.out; omega)).mono ?_
        rintro e w5 ⟨rfl, hA2, K1⟩
        replace hX := hX.keep K1.rest.size (K1.block Ba hX.lt (.inr rfl) (by have := HBB.out; omega))
        replace hR : CellsAt w5 (w.heap.size + 1) #[.slice none 0 0, .slice none 0 0, .slice none 0 0] 32 := (K1.block _ hR.lt (.inl (by have := HRlt.out; have := HBB.out; omega)) (by have := HRlt.out; omega)).trans hR
        replace c0 : Below w.heap.size w w5 := by
          have hr := K1.rest
          refine ⟨hr.os.trans c0.os, hr.tape.trans c0.tape, hr.output.trans c0.output, Nat.le_trans c0.size hr.size, fun j hj => ?_⟩
          rw [K1.block j (Nat.lt_of_lt_of_le hj c0.size) (.inl (by have := HRlt.out; have := HBB.out; omega)) (by have := HRlt.out; omega)]
          exact c0.block j hj
        clear o0 o1 o2 o3 o4 o5 o6 hbx hAt K1
        obtain ⟨x, Hx⟩ : ∃ z, Hid ((hallDo n roles d0 hk1 ⟨kk, kp, ⟨kd, us, tr, it, hd⟩⟩).2.err = z) := ⟨_, rfl⟩
        obtain ⟨y, Hy⟩ : ∃ z, Hid ((hallDo n roles d0 hk1 ⟨kk, kp, ⟨kd, us, tr, it, hd⟩⟩).2.item = z) := ⟨_, rfl⟩
        rw [Hx.out, Hy.out] at Han ⊢
        obtain ⟨W5, HW5⟩ : ∃ v, Hid ((w5.setCell ⟨Ba, k * 2, none⟩ (.int .i64 x)).setCell ⟨Ba, k * 2 + 1, none⟩ (.int .i64 y) = v) := ⟨_, rfl⟩
        obtain ⟨c1, c2⟩ := hX.cells k hk
        have f1 := hX.frozen (k * 2)
        have f2 := hX.frozen (k * 2 + 1)
        have hX5 := hX.put hk x y HW5.out
        have hne5 : Ba ≠ w.heap.size + 1 := by have := HRlt.out; have := HBB.out; omega
        have hR5 := (hR.set (p := ⟨Ba, k * 2, none⟩) hne5 (.int .i64 x)).set (p := ⟨Ba, k * 2 + 1, none⟩) hne5 (.int .i64 y)
        have hle5 : w.heap.size ≤ Ba := by have := HRlt.out; have := HBB.out; omega
        have c5 := (c0.setCell (p := ⟨Ba, k * 2, none⟩) hle5 (.int .i64 x)).setCell (p := ⟨Ba, k * 2 + 1, none⟩) hle5 (.int .i64 y)
        have hA5 := (hA2.put (p := ⟨Ba, k * 2, none⟩) rfl (.int .i64 x)).put (p := ⟨Ba, k * 2 + 1, none⟩) rfl (.int .i64 y)
        rw [← Hnx.out] at hA5
        rw [HW5.out] at hR5 c5 hA5
        have HX5 : Hid (∀ j, j < k + 1 → opAt (l.set k (x, y)) j = opAt (ansL (hallPlay n roles d0 ⟨d0, [], 0⟩ os).2) j) := fun j hj => by
          rw [op_set (by rw [hX.len]; exact hk)]
          split
          · rename_i e; rw [e, Han.out]
          · exact HX.out j (by omega)
        clear hX hR c0 hA2 hne5 hle5
        go_upto_region 10 with fail
        rw [HW5.out]
        go_wp2
        go_roundg (gk - 1)
        case measure => omega
        case rel => exact ⟨k + 1, _, by omega, by go_num, c5, hR5, hA5, hX5, HX5⟩
      · obtain rfl : k = len := by omega
        have hall : hallAt n roles d0 ⟨d0, [], 0⟩ os k = (hallPlay n roles d0 ⟨d0, [], 0⟩ os).1 := hallAt_all n roles d0 _ (by rw [Hlen.out]; exact Nat.le_refl _)
        have hfw := hall_few n roles d0 os k (by rw [Hlen.out]; exact Nat.le_refl _)
        have hit := hall_items HInv.out Hd1.out.1
        rw [hall] at hAt hfw hit
        have Hfew : Hid ((hallPlay n roles d0 ⟨d0, [], 0⟩ os).1.desk.items.length ≤ 5864062014805) := by show _ ≤ _; omega
        clear hall hfw hit
        obtain ⟨iv, wv, fm, fb, ftv, ⟨ma9, ba9, ml9, mc9, bl9, bc9, tv9, h, hf⟩, hRt, hF⟩ := hAt
        obtain ⟨f0, f1, f2, _, _, _, _⟩ := h.facts
        have f0 : wr.cell? ⟨Bh, 221, none⟩ = some (.slice ma9 ml9 mc9) := f0
        have f1 : wr.cell? ⟨Bh, 222, none⟩ = some (.slice ba9 bl9 bc9) := f1
        have f2 : wr.cell? ⟨Bh, 223, none⟩ = some iv := f2
        have hnR : iv.ownBlock ≠ some (w.heap.size + 1) := fun e => by have := (h.row.lt _ e).1; have := HRlt.out; have := HBB.out; omega
        obtain ⟨ia, ic, rfl, _⟩ := h.items Hfew.out
        have q0 : wr.cell? ⟨w.heap.size + 1, 0, none⟩ = some (.slice none 0 0) := hR.cell 0
        have q1 : wr.cell? ⟨w.heap.size + 1, 1, none⟩ = some (.slice none 0 0) := hR.cell 1
        have q2 : wr.cell? ⟨w.heap.size + 1, 2, none⟩ = some (.slice none 0 0) := hR.cell 2
        have g0 := hR.frozen 0
        have g1 := hR.frozen 1
        have g2 := hR.frozen 2
        obtain ⟨DK, HDK⟩ : ∃ N, Hid ((hallPlay n roles d0 ⟨d0, [], 0⟩ os).1.desk = N) := ⟨_, rfl⟩
        rw [HDK.out] at h f2 hnR Hfew
        obtain ⟨N, HN⟩ : ∃ N, Hid (DK.items.length = N) := ⟨_, rfl⟩
        obtain ⟨W6, HW6⟩ : ∃ v, Hid (((wr.setCell ⟨w.heap.size + 1, 0, none⟩ (.slice ma9 ml9 mc9)).setCell ⟨w.heap.size + 1, 1, none⟩ (.slice ba9 bl9 bc9)).setCell ⟨w.heap.size + 1, 2, none⟩ (.slice ia N ic) = v) := ⟨_, rfl⟩
        rw [HN.out] at f2 h hnR
        have e1 : (wr.setCell ⟨w.heap.size + 1, 0, none⟩ (.slice ma9 ml9 mc9)).cell? ⟨w.heap.size + 1, 1, none⟩ = some (.slice none 0 0) := by rw [World.cell?_setCell_other _ _ _ _ (by simp)]; exact q1
        have e2 : ((wr.setCell ⟨w.heap.size + 1, 0, none⟩ (.slice ma9 ml9 mc9)).setCell ⟨w.heap.size + 1, 1, none⟩ (.slice ba9 bl9 bc9)).cell? ⟨w.heap.size + 1, 2, none⟩ = some (.slice none 0 0) := by rw [World.cell?_setCell_other _ _ _ _ (by simp), World.cell?_setCell_other _ _ _ _ (by simp)]; exact q2
        have hM6 := ((h.mark.putS q0 (.slice ma9 ml9 mc9)).putS e1 (.slice ba9 bl9 bc9)).putS e2 (.slice ia N ic)
        have hB6 := ((h.busy.putS q0 (.slice ma9 ml9 mc9)).putS e1 (.slice ba9 bl9 bc9)).putS e2 (.slice ia N ic)
        have hrow6 := ownsRow_aside (ownsRow_aside (ownsRow_aside h.row (p := ⟨w.heap.size + 1, 0, none⟩) hnR (.slice ma9 ml9 mc9)) (p := ⟨w.heap.size + 1, 1, none⟩) hnR (.slice ba9 bl9 bc9)) (p := ⟨w.heap.size + 1, 2, none⟩) hnR (.slice ia N ic)
        have hfM : SlFrom w.heap.size (.slice ma9 ml9 mc9) := from_off fun R q => (hf R (.inl (.inr (.inr q)))).2.1
        have hfB : SlFrom w.heap.size (.slice ba9 bl9 bc9) := from_off fun R q => (hf R (.inl (.inr (.inr q)))).2.2
        have SlFrom_it : SlFrom w.heap.size (.slice ia N ic) := fun b off l c e hl => by
          have := (h.row.lt b (by rw [e]; rfl)).1
          have := HRlt.out; have := HBB.out
          omega
        have hneA : Ba ≠ w.heap.size + 1 := by have := HRlt.out; have := HBB.out; omega
        have hX6 := hX.keep (w' := ((wr.setCell ⟨w.heap.size + 1, 0, none⟩ (.slice ma9 ml9 mc9)).setCell ⟨w.heap.size + 1, 1, none⟩ (.slice ba9 bl9 bc9)).setCell ⟨w.heap.size + 1, 2, none⟩ (.slice ia N ic)) (by simp [World.setCell]) (by rw [Below.heap_setCell _ ⟨w.heap.size + 1, 2, none⟩ _ Ba hneA, Below.heap_setCell _ ⟨w.heap.size + 1, 1, none⟩ _ Ba hneA, Below.heap_setCell _ ⟨w.heap.size + 1, 0, none⟩ _ Ba hneA])
        have hR6 := ((hR.put 0 (.slice ma9 ml9 mc9)).put 1 (.slice ba9 bl9 bc9)).put 2 (.slice ia N ic)
        have c6 := ((c0.setCell (p := ⟨w.heap.size + 1, 0, none⟩) (by show _ ≤ w.heap.size + 1; omega) (.slice ma9 ml9 mc9)).setCell (p := ⟨w.heap.size + 1, 1, none⟩) (by show _ ≤ w.heap.size + 1; omega) (.slice ba9 bl9 bc9)).setCell (p := ⟨w.heap.size + 1, 2, none⟩) (by show _ ≤ w.heap.size + 1; omega) (.slice ia N ic)
        rw [HW6.out] at hM6 hB6 hrow6 hX6 hR6 c6
        have hR6 : CellsAt W6 (w.heap.size + 1) #[.slice ma9 ml9 mc9, .slice ba9 bl9 bc9, .slice ia N ic] 32 := hR6
        have el : l = ansL (hallPlay n roles d0 ⟨d0, [], 0⟩ os).2 := by
          apply List.ext_getElem?
          intro j
          have hll : (ansL (hallPlay n roles d0 ⟨d0, [], 0⟩ os).2).length = k := by rw [ansL_length, hall_length, Hlen.out]
          rcases Nat.lt_or_ge j k with hj | hj
          · have := HX.out j hj
            unfold opAt at this
            rw [List.getD_eq_getElem?_getD, List.getD_eq_getElem?_getD, List.getElem?_eq_getElem (by rw [hX.len]; exact hj), List.getElem?_eq_getElem (by rw [hll]; exact hj)] at this
            rw [List.getElem?_eq_getElem (by rw [hX.len]; exact hj), List.getElem?_eq_getElem (by rw [hll]; exact hj)]
            simpa using this
          · rw [List.getElem?_eq_none (by rw [hX.len]; exact hj), List.getElem?_eq_none (by rw [hll]; exact hj)]
        have Hal : Hid ((hallPlay n roles d0 ⟨d0, [], 0⟩ os).2.length = k) := by show _ = _; rw [hall_length, Hlen.out]
        have Hfin : Hid (GivesDF w (hallAll n i roles os) (.returned (.tuple #[.agg #[.slice ma9 ml9 mc9, .slice ba9 bl9 bc9, .slice ia N ic], .slice (some ⟨Ba, 0, none⟩) k k, .int .i64 0])) W6) := by
          rw [Hall.out, HDK.out]
          obtain ⟨ia2, ic2, ei, hIt⟩ := items_of_row (l := DK.items) (iv := .slice ia N ic) hrow6 Hfew.out
          rw [HN.out] at ei hIt
          injection ei with ei1 _ ei3
          subst ei1 ei3
          refine ⟨_, some ⟨Ba, 0, none⟩, k, by rw [Hal.out], ⟨ma9, ml9, mc9, ba9, bl9, bc9, ia, ic, by rw [HN.out], hM6, hB6, by rw [HN.out]; exact hIt⟩, ?_, c6, ⟨_, _, _, rfl, hfM, hfB, SlFrom_it⟩, ?_⟩
          · rw [Hal.out, ← el]
            exact hX6.ops (by omega)
          · rw [Hal.out]
            exact SlFrom.at (by have := HRlt.out; have := HBB.out; omega)
        clear hfM hfB SlFrom_it hM6 hB6 hrow6 hX6 c6 hX hR c0 h hf hRt hF HX el hneA
        go_wp2
        rw [HW6.out]
        exact bodyPost_ret (results_desk3 rfl rfl rfl rfl (hR6.cell 0) (hR6.cell 1) (hR6.cell 2)) rfl Hfin.out
  · have A : Hid (hallAll n i roles os = (noDesk, [], E)) := by show _ = _; unfold hallAll; rw [if_neg (by rw [HE.out]; exact hE), HE.out]
    have hE1 : (E == 0) = false := by simpa using hE
    have hE2 : (E != 0) = true := by simpa using hE
    have f0 := hR.frozen 0
    have f1 := hR.frozen 1
    have f2 := hR.frozen 2
    have q0 : W2.cell? ⟨w.heap.size + 1, 0, none⟩ = some (.slice none 0 0) := hR.cell 0
    have q1 : W2.cell? ⟨w.heap.size + 1, 1, none⟩ = some (.slice none 0 0) := hR.cell 1
    have q2 : W2.cell? ⟨w.heap.size + 1, 2, none⟩ = some (.slice none 0 0) := hR.cell 2
    obtain ⟨W3, HW3⟩ : ∃ v, Hid (((W2.setCell ⟨w.heap.size + 1, 0, none⟩ (.slice none 0 0)).setCell ⟨w.heap.size + 1, 1, none⟩ (.slice none 0 0)).setCell ⟨w.heap.size + 1, 2, none⟩ (.slice none 0 0) = v) := ⟨_, rfl⟩
    have hR3 := ((hR.put 0 (.slice none 0 0)).put 1 (.slice none 0 0)).put 2 (.slice none 0 0)
    have c3 := ((c0.setCell (p := ⟨w.heap.size + 1, 0, none⟩) (by show _ ≤ w.heap.size + 1; omega) (.slice none 0 0)).setCell (p := ⟨w.heap.size + 1, 1, none⟩) (by show _ ≤ w.heap.size + 1; omega) (.slice none 0 0)).setCell (p := ⟨w.heap.size + 1, 2, none⟩) (by show _ ≤ w.heap.size + 1; omega) (.slice none 0 0)
    rw [HW3.out] at hR3 c3
    have hR3 : CellsAt W3 (w.heap.size + 1) #[.slice none 0 0, .slice none 0 0, .slice none 0 0] 32 := hR3
    clear hOp hB2 hR b2 hinfo hinfoH hzs hzh hone hcs
    go_wp2
    rw [HW3.out]
    refine bodyPost_ret (v := .tuple #[.agg #[.slice none 0 0, .slice none 0 0, .slice none 0 0], .slice none 0 0, .int .i64 E]) (results_desk3 rfl rfl rfl rfl (hR3.cell 0) (hR3.cell 1) (hR3.cell 2)) rfl ?_
    rw [A.out]
    exact ⟨_, none, 0, rfl, ⟨none, 0, 0, none, 0, 0, none, 0, rfl, Ints.nil _, Ints.nil _, none, 0, 0, rfl, rfl, by omega, ⟨Nat.le_refl _, by omega, fun _ => rfl⟩, fun j hj => absurd hj (Nat.not_lt_zero _)⟩, ⟨none, 0, 0, rfl, rfl, by omega, ⟨Nat.le_refl _, by omega, fun _ => rfl⟩, fun j hj => absurd hj (Nat.not_lt_zero _)⟩, c3, ⟨_, _, _, rfl, SlFrom.nil _, SlFrom.nil _, SlFrom.nil _⟩, SlFrom.nil _⟩

theorem hall_play (v r u : Value) (n : NetL) (i : Int) (roles : List (List Int)) (os : List HOp) (w : World) (hv : Net w v n) (hr : Lists w r roles) (hu : HOpsV w u os) : Calls Try.prog 7 #[v, .int .i64 i, r, u] w fun e w' => GivesD w (hallAll n i roles os) e w' :=
  (hall_own v r u n i roles os w hv hr hu).mono fun _ _ h => h.gives

end Go.Proofs.Ytaladbcocealnaa
