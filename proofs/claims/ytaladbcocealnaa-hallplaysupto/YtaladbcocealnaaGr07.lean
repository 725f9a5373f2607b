import Derived.Test.YtaladbcocealnaaGr05
import Derived.Test.YtaladbcocealnaaGr04
import Derived.Test.YtaladbcocealnaaGr01
import Derived.Deep.RegionHeld3
/- The document's own answers for cases: whether a case is right; two that are the same; where one begins. -/
namespace Go.Proofs.Ytaladbcocealnaa
open Go.RowKit
set_option linter.unusedVariables false
set_option linter.unusedSimpArgs false
set_option maxRecDepth 4000

set_option maxHeartbeats 1000000 in
theorem pright_any (v u : Value) (n : NetL) (c : CaseL) (w : World) (hv : Net w v n) (hu : CaseV w u c) (hsm : SmallNet n) :
    Calls Try.prog 52 #[v, u] w fun e w' => e = .returned (.bool (rightC n c)) ∧ Below w.heap.size w w' := by
  obtain ⟨tv, rfl, hT⟩ := hv
  obtain ⟨a, l, p, a', l', p', rfl, h1, h2⟩ := hu
  have b1 := below_new w (.cells #[.int .i64 n.places, tv] 24)
  have hbx := box2_new w (.int .i64 n.places) tv 24
  obtain ⟨wa, Hwa⟩ : ∃ wa, Hid (w.alloc (.cells #[.int .i64 n.places, tv] 24) = wa) := ⟨_, rfl⟩
  have ea : wa.heap.size = w.heap.size + 1 := by rw [← Hwa.out]; simp
  rw [Hwa.out] at b1 hbx
  have b2 := below_new wa (.cells #[.slice a l p, .slice a' l' p'] 29)
  have hby := box2_new wa (.slice a l p) (.slice a' l' p') 29
  rw [ea] at hby
  obtain ⟨w0, Hw0⟩ : ∃ w0, Hid ((w.alloc (.cells #[.int .i64 n.places, tv] 24)).alloc (.cells #[.slice a l p, .slice a' l' p'] 29) = w0) := ⟨_, rfl⟩
  have hw0 : wa.alloc (.cells #[.slice a l p, .slice a' l' p'] 29) = w0 := by rw [← Hwa.out]; exact Hw0.out
  rw [hw0] at b2 hby
  replace hbx := hbx.below b2
  have c0 := below_then b1 b2
  have hv : Net w0 (.agg #[.int .i64 n.places, tv]) n := ⟨_, rfl, hT.below c0⟩
  replace h1 := h1.below c0
  replace h2 := h2.below c0
  obtain ⟨ta, len, tc, rfl, hlen, _⟩ := id hT
  have Hr : Hid (rightC n c = (fitsL n c.mark && (c.busy.length == n.trans.length) && rightL c.busy)) := rfl
  have Hl : Hid (c.busy.length = l') := len_of_ints h2
  rw [Hl.out, hlen] at Hr
  clear hT b1 b2 Hwa ea hw0 hlen
  obtain ⟨x0, x1, x2⟩ := id hbx
  obtain ⟨y0, y1, y2⟩ := id hby
  go_enter Try.func52, Try.ntmps52
  go_upto_region 1 with fail
  rw [Hw0.out]
  clear Hw0
  go_wp2_with fail
  refine (bfits_any _ _ n c.mark w0 (by exact hv) (by exact h1) hsm).mono ?_
  rintro e w1 ⟨rfl, b⟩
  replace c0 := below_then c0 b
  replace h2 := h2.below b
  replace hbx := hbx.below b
  replace hby := hby.below b
  clear b x0 x1 x2 y0 y1 y2 hv h1
  obtain ⟨x0, x1, x2⟩ := id hbx
  obtain ⟨y0, y1, y2⟩ := id hby
  cases hf : fitsL n c.mark
  · have R : Hid (rightC n c = false) := by show _ = _; rw [Hr.out, hf]; rfl
    clear hf Hr
    go_wp2
    go_ret
    exact ⟨ret_bool R.out.symm, c0⟩
  · by_cases hll : l' = len
    · subst hll
      go_wp2_with fail
      refine (aright_any _ c.busy w1 (by exact h2)).mono ?_
      rintro e w2 ⟨rfl, rfl⟩
      have R : Hid (rightC n c = rightL c.busy) := by show _ = _; rw [Hr.out, hf]; simp
      clear hf Hr
      go_wp2
      go_ret
      exact ⟨ret_bool R.out.symm, c0⟩
    · have R : Hid (rightC n c = false) := by show _ = _; rw [Hr.out, hf]; simp [hll]
      have hll' : ((l' : Int) == (len : Int)) = false := by
        rw [beq_eq_false_iff_ne]; omega
      clear hf Hr hll
      go_wp2
      go_ret
      exact ⟨ret_bool R.out.symm, c0⟩

theorem sameints_any (v u : Value) (xs ys : List Int) (w : World) (hv : Ints w v xs) (hu : Ints w u ys) :
    Calls Try.prog 42 #[v, u] w fun e w' => e = .returned (.bool (xs == ys)) ∧ Below w.heap.size w w' := by
  go_enter Try.func42, Try.ntmps42
  go_wp2_with fail
  refine (equal_b _ _ xs ys w (by exact hv) (by exact hu)).mono ?_
  rintro e w1 ⟨rfl, b⟩
  go_wp2
  go_ret
  exact ⟨rfl, b⟩

def sameC (c d : CaseL) : Bool := (c.mark == d.mark) && (c.busy == d.busy)
theorem sameC_self (c : CaseL) : sameC c c = true := by simp [sameC]

set_option maxHeartbeats 1000000 in
theorem samecase_any (v u : Value) (c d : CaseL) (w : World) (hv : CaseV w v c) (hu : CaseV w u d) :
    Calls Try.prog 25 #[v, u] w fun e w' => e = .returned (.bool (sameC c d)) ∧ Below w.heap.size w w' := by
  obtain ⟨a, l, p, a', l', p', rfl, h1, h2⟩ := hv
  obtain ⟨d1, l1, p1, d2, l2, p2, rfl, k1, k2⟩ := hu
  have b1 := below_new w (.cells #[.slice a l p, .slice a' l' p'] 29)
  have hbx := box2_new w (.slice a l p) (.slice a' l' p') 29
  obtain ⟨wa, Hwa⟩ : ∃ wa, Hid (w.alloc (.cells #[.slice a l p, .slice a' l' p'] 29) = wa) := ⟨_, rfl⟩
  have ea : wa.heap.size = w.heap.size + 1 := by rw [← Hwa.out]; simp
  rw [Hwa.out] at b1 hbx
  have b2 := below_new wa (.cells #[.slice d1 l1 p1, .slice d2 l2 p2] 29)
  have hby := box2_new wa (.slice d1 l1 p1) (.slice d2 l2 p2) 29
  rw [ea] at hby
  obtain ⟨w0, Hw0⟩ : ∃ w0, Hid ((w.alloc (.cells #[.slice a l p, .slice a' l' p'] 29)).alloc (.cells #[.slice d1 l1 p1, .slice d2 l2 p2] 29) = w0) := ⟨_, rfl⟩
  have hw0 : wa.alloc (.cells #[.slice d1 l1 p1, .slice d2 l2 p2] 29) = w0 := by rw [← Hwa.out]; exact Hw0.out
  rw [hw0] at b2 hby
  replace hbx := hbx.below b2
  have c0 := below_then b1 b2
  replace h1 := h1.below c0
  replace h2 := h2.below c0
  replace k1 := k1.below c0
  replace k2 := k2.below c0
  clear b1 b2 Hwa ea hw0
  have Hr : Hid (sameC c d = ((c.mark == d.mark) && (c.busy == d.busy))) := rfl
  obtain ⟨x0, x1, x2⟩ := id hbx
  obtain ⟨y0, y1, y2⟩ := id hby
  go_enter Try.func25, Try.ntmps25
  go_upto_region 1 with fail
  rw [Hw0.out]
  clear Hw0
  go_wp2_with fail
  refine (sameints_any _ _ c.mark d.mark w0 (by exact h1) (by exact k1)).mono ?_
  rintro e w1 ⟨rfl, b⟩
  replace c0 := below_then c0 b
  replace h2 := h2.below b
  replace k2 := k2.below b
  replace hbx := hbx.below b
  replace hby := hby.below b
  clear b x0 x1 x2 y0 y1 y2 h1 k1
  obtain ⟨x0, x1, x2⟩ := id hbx
  obtain ⟨y0, y1, y2⟩ := id hby
  cases hm : (c.mark == d.mark)
  · have R : Hid (sameC c d = false) := by show _ = _; rw [Hr.out, hm]; rfl
    clear hm Hr
    go_wp2
    go_ret
    exact ⟨ret_bool R.out.symm, c0⟩
  · go_wp2_with fail
    refine (sameints_any _ _ c.busy d.busy w1 (by exact h2) (by exact k2)).mono ?_
    rintro e w2 ⟨rfl, b⟩
    replace c0 := below_then c0 b
    have R : Hid (sameC c d = (c.busy == d.busy)) := by show _ = _; rw [Hr.out, hm]; rfl
    clear hm Hr
    go_wp2
    go_ret
    exact ⟨ret_bool R.out.symm, c0⟩

end Go.Proofs.Ytaladbcocealnaa

/- Bytes in memory. -/
namespace Go.Proofs.Ytaladbcocealnaa
open Go.RowKit
set_option linter.unusedVariables false
set_option linter.unusedSimpArgs false
set_option maxRecDepth 4000

/-- A slice of bytes. -/
def BytesV (w : World) (v : Value) (xs : List Int) : Prop :=
  ∃ a len cap, v = .slice a len cap ∧ xs.length = len ∧ len ≤ 24629060462187 ∧ Shape a len cap ∧ (∀ j, isByte (nth xs j)) ∧
    ∀ j, j < xs.length → ∃ b off, a = some ⟨b, off, none⟩ ∧ b < w.heap.size ∧ w.cell? ⟨b, off + j, none⟩ = some (.int .u8 (nth xs j))
theorem BytesV.below {w w' : World} {v : Value} {xs : List Int} (h : BytesV w v xs) (hb : Below w.heap.size w w') : BytesV w' v xs := by
  obtain ⟨a, len, cap, e, hl, hm, hs, hy, hr⟩ := h
  refine ⟨a, len, cap, e, hl, hm, hs, hy, fun j hj => ?_⟩
  obtain ⟨b, off, ha, hlt, h0⟩ := hr j hj
  exact ⟨b, off, ha, Nat.lt_of_lt_of_le hlt hb.size, by rw [hb.cell (p := ⟨b, _, none⟩) hlt]; exact h0⟩
theorem BytesV.slice {w : World} {v : Value} {xs : List Int} (h : BytesV w v xs) : ∃ a cap, v = .slice a xs.length cap ∧ xs.length ≤ 24629060462187 ∧ Shape a xs.length cap := by
  obtain ⟨a, len, cap, e, hl, hm, hs, _, hr⟩ := h
  subst hl
  exact ⟨a, cap, e, hm, hs⟩
theorem BytesV.byte {w : World} {v : Value} {xs : List Int} (h : BytesV w v xs) (j : Nat) : isByte (nth xs j) := by
  obtain ⟨a, len, cap, e, hl, hm, hs, hy, hr⟩ := h
  exact hy j
theorem BytesV.at {w : World} {a : Option Addr} {len cap : Nat} {xs : List Int} (h : BytesV w (.slice a len cap) xs) {k : Nat} (hk : k < len) :
    ∃ b off, a = some ⟨b, off, none⟩ ∧ b < w.heap.size ∧ w.cell? ⟨b, off + k, none⟩ = some (.int .u8 (nth xs k)) := by
  obtain ⟨a', len', cap', e, hl, hm, hs, _, hr⟩ := h
  injection e with e1 e2 e3
  subst e1 e2 e3
  exact hr k (by omega)
theorem nth_take {xs : List Int} {n j : Nat} (h : j < n) : nth (xs.take n) j = nth xs j := by simp [nth, List.getD, h]
theorem nth_drop (xs : List Int) (n j : Nat) : nth (xs.drop n) j = nth xs (n + j) := by simp [nth, List.getD]
theorem byte_take {xs : List Int} (h : ∀ j, isByte (nth xs j)) (n : Nat) : ∀ j, isByte (nth (xs.take n) j) := fun j => by
  by_cases hj : j < n
  · rw [nth_take hj]; exact h j
  · rw [nth_past _ _ (by rw [List.length_take]; omega)]; exact ⟨by decide, by decide⟩
theorem byte_drop {xs : List Int} (h : ∀ j, isByte (nth xs j)) (n : Nat) : ∀ j, isByte (nth (xs.drop n) j) := fun j => by rw [nth_drop]; exact h _
/-- The first n. -/
theorem BytesV.take {w : World} {a : Option Addr} {len cap n : Nat} {xs : List Int} (h : BytesV w (.slice a len cap) xs) (hn : n ≤ len) : BytesV w (.slice a n cap) (xs.take n) := by
  obtain ⟨a', len', cap', e, hl, hm, ⟨s1, s2, s3⟩, hy, hr⟩ := h
  injection e with e1 e2 e3
  subst e1 e2 e3
  refine ⟨a, n, cap, rfl, by rw [List.length_take]; omega, by omega, ⟨by omega, s2, s3⟩, byte_take hy n, fun j hj => ?_⟩
  rw [List.length_take] at hj
  rw [nth_take (by omega)]
  exact hr j (by omega)
/-- All but the first n. -/
theorem BytesV.drop {w : World} {b off len cap n : Nat} {xs : List Int} (h : BytesV w (.slice (some ⟨b, off, none⟩) len cap) xs) (hn : n ≤ len) : BytesV w (.slice (if cap = n then some ⟨b, off, none⟩ else some ⟨b, off + n, none⟩) (len - n) (cap - n)) (xs.drop n) := by
  obtain ⟨a', len', cap', e, hl, hm, ⟨s1, s2, s3⟩, hy, hr⟩ := h
  injection e with e1 e2 e3
  subst e1 e2 e3
  refine ⟨_, _, _, rfl, by rw [List.length_drop]; omega, by omega, ⟨by omega, by omega, fun h => by split at h <;> cases h⟩, byte_drop hy n, fun j hj => ?_⟩
  rw [List.length_drop] at hj
  obtain ⟨b', o', e, hlt, hc⟩ := hr (n + j) (by omega)
  injection e with e
  injection e with e1 e2
  subst e1 e2
  have hc' : ¬ cap = n := by omega
  refine ⟨b, off + n, by rw [if_neg hc'], hlt, ?_⟩
  rw [nth_drop, Nat.add_assoc]; exact hc
theorem BytesV.nil (w : World) : BytesV w (.slice none 0 0) [] := ⟨none, 0, 0, rfl, rfl, by omega, ⟨by omega, by omega, fun _ => rfl⟩, fun j => by simp [nth, isByte], fun j hj => absurd hj (by simp)⟩

/-- A slice of bytes that the call itself made. -/
def OwnU (B : Nat) (w wr : World) (v : Value) (zs : List Int) : Prop :=
  wr.ownsRow B 5 1 v zs.length (zs.map (Value.int .u8)) ∧ Below B w wr ∧ B ≤ wr.heap.size
theorem OwnU.nil (w : World) : OwnU w.heap.size w w (.slice none 0 0) [] := ⟨World.ownsRow_nil _ _ _ _, Below.refl _ _, Nat.le_refl _⟩
theorem OwnU.bytes {B : Nat} {w wr : World} {v : Value} {zs : List Int} (h : OwnU B w wr v zs) (hl : zs.length ≤ 24629060462187) (hy : ∀ j, isByte (nth zs j)) : BytesV wr v zs := by
  obtain ⟨hown, hb, hB⟩ := h
  have hown0 := hown
  obtain ⟨_, hcase⟩ := hown
  rcases hcase with ⟨rfl, h0⟩ | ⟨g, cap', cur, rfl, hg, hh, hn, hcap, hsz, htake⟩
  · exact ⟨none, zs.length, 0, by rw [h0], rfl, hl, ⟨by omega, by omega, fun _ => rfl⟩, hy, fun j hj => absurd hj (by omega)⟩
  · refine ⟨_, _, _, rfl, rfl, hl, ⟨hn, by unfold maxLen at hcap; omega, fun h => by cases h⟩, hy, fun j hj => ⟨g, 0, rfl, ?_, ?_⟩⟩
    · rcases Nat.lt_or_ge g wr.heap.size with h | h
      · exact h
      · rw [Array.getElem?_eq_none h] at hh; cases hh
    · rw [Nat.zero_add, hown0.cellAt j (by omega)]
      simp [nth, List.getD, List.getElem?_eq_getElem hj]
theorem OwnU.trans {B : Nat} {w wr w2 : World} {v : Value} {zs : List Int} (h : OwnU B w wr v zs) (hb : Below wr.heap.size wr w2) : OwnU B w w2 v zs := by
  obtain ⟨hown, hb0, hB⟩ := h
  refine ⟨hown.kept (row := none) ⟨hb.os, hb.tape, hb.output, hb.size, fun k hk _ => hb.block k hk⟩ ?_, hb0.trans (hb.mono hB), Nat.le_trans hB hb.size⟩
  cases hv : v.ownBlock with
  | none => exact .inl rfl
  | some k => exact .inr (by simp)
theorem OwnU.slice {B : Nat} {w wr : World} {v : Value} {zs : List Int} (h : OwnU B w wr v zs) : ∃ a c, v = .slice a zs.length c := by
  rcases h.1.2 with ⟨rfl, h0⟩ | ⟨g, cap', cur, rfl, _⟩
  · exact ⟨_, _, by rw [h0]⟩
  · exact ⟨_, _, rfl⟩
theorem info_u8 : (Try.prog.info? 5).map (fun i => (i.zero, i.size, i.bytes)) = some (some (.int .u8 0), 1, 1) := by kernel_rfl
/-- append of all of another slice of bytes. -/
theorem wp_append_bytes {ops : Array Oper} {rest : List Oper} {o : Oper} {a : Act} {Q : Exit → Act → World → Prop} (hgd : o.guard = none) (s x : Operand)
    (ho : o.op = .call { callee := .builtin .append, args := #[s, x], argTypes := #[66, 66] }) (B : Nat) (w wr : World) (v : Value) (ad : Addr) (m c : Nat) (zs ys : List Int) (hG : OwnU B w wr v zs)
    (hs : a.eval s = v) (hx : a.eval x = .slice (some ad) m c) (hu : BytesV wr (.slice (some ad) m c) ys) (hl : zs.length + ys.length ≤ 24629060462187)
    (h : ∀ v' w', OwnU B w w' v' (zs ++ ys) → wpList Try.prog ops Q rest (a.put o.dst v') w') : wpList Try.prog ops Q (o :: rest) a wr := by
  obtain ⟨i0, hi, hz0, hz1, hz2⟩ := info_parts info_u8
  obtain ⟨ax, len, cap, e, hlen, hmx, hsh, hy, hr⟩ := hu
  injection e with e1 e2 e3
  subst e1 e2 e3
  obtain ⟨hown, hb, hB⟩ := hG
  refine wpList_append_own _ hgd s x 66 ho B 5 i0 (.int .u8 0) 1 1 Try.underlying66 hi hz0 hz1 hz2 rfl (by decide) v zs.length _ hs hown ad m c (ys.map (Value.int .u8)) hx (by simp [hlen]) ?_ ?_ ?_ ?_ hB ?_
  · intro j u hj
    by_cases hjl : j < ys.length
    · obtain ⟨b, off, e, _, hc⟩ := hr j hjl
      injection e with e
      subst e
      rw [addr_add, hc]
      simp [nth, List.getD, List.getElem?_eq_getElem hjl] at hj ⊢
      exact hj
    · rw [List.getElem?_eq_none (by simp; omega)] at hj; cases hj
  · intro u hu
    obtain ⟨x, _, rfl⟩ := List.mem_map.1 hu
    rfl
  · unfold maxLen; omega
  · omega
  · intro v' w' hown' hgrow _
    refine h v' w' ⟨by rw [List.map_append, List.length_append, hlen]; exact hown', hb.grown hgrow hB (fun k hk => (hown.lt k hk).1), Nat.le_trans hB hgrow.size⟩

def dopA (o : DOp) : Array Value := #[.int .i64 o.kind, .int .i64 o.user, .int .i64 o.tran, .int .i64 o.item, .int .i64 o.hand]
def dopW (o : DOp) : Value := .agg (dopA o)
/-- A box with a thing to do. -/
def BoxJ (w : World) (b : Nat) (o : DOp) : Prop := w.heap[b]? = some (.cells (dopA o) 45 (0, 0))
theorem BoxJ.lt {w : World} {b : Nat} {o : DOp} (h : BoxJ w b o) : b < w.heap.size := (Array.getElem?_eq_some_iff.1 h).1
theorem BoxJ.below {w w' : World} {b : Nat} {o : DOp} (h : BoxJ w b o) (hb : Below w.heap.size w w') : BoxJ w' b o := (hb.block b h.lt).trans h
theorem BoxJ.cells {w : World} {b : Nat} {o : DOp} (h : BoxJ w b o) : w.cell? ⟨b, 0, none⟩ = some (.int .i64 o.kind) ∧ w.cell? ⟨b, 1, none⟩ = some (.int .i64 o.user) ∧ w.cell? ⟨b, 2, none⟩ = some (.int .i64 o.tran) ∧ w.cell? ⟨b, 3, none⟩ = some (.int .i64 o.item) ∧ w.cell? ⟨b, 4, none⟩ = some (.int .i64 o.hand) := by
  unfold BoxJ at h
  simp [World.cell?, h, dopA]
theorem heap_new_j (w : World) (o : Obj) : (w.alloc o).heap[w.heap.size]? = some o := by
  show (w.heap.push o)[w.heap.size]? = _
  simp
theorem boxJ_new (w : World) (o : DOp) : BoxJ (w.alloc (.cells (dopA o) 45)) w.heap.size o := heap_new_j w _

end Go.Proofs.Ytaladbcocealnaa
