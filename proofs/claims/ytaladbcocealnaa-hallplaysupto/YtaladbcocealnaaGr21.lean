import Derived.Test.YtaladbcocealnaaGr20
import Derived.Test.YtaladbcocealnaaGr13
import Derived.Test.YtaladbcocealnaaGr00
import Derived.Laws.CopyOwn
import Derived.Test.YtaladbcocealnaaGr06
import Derived.BigQuiet
import Derived.Deep.RegionHeld3
/- Package cases as it landed: Busy. (Made by tools/gen_casedev5.py.) -/
namespace Go.Proofs.Ytaladbcocealnaa
open Go.RowKit
set_option linter.unusedVariables false
set_option linter.unusedSimpArgs false
set_option maxRecDepth 4000

theorem NetOut.after {x : Nat} {p : Int} {w0 wr W wC : World} {us : List TranL} {ov : Value} {tv : List (Int × Value × Value)} (h : NetOut x p w0 wr us ov tv) (hb : Below wr.heap.size wr W) (hg : W.grownBy wC ov.ownBlock) :
    wC.cell? ⟨x, 1, none⟩ = some ov ∧ wC.frozen? ⟨x, 1, none⟩ = false := by
  have g := h.to hb
  have hov : ∀ k, ov.ownBlock = some k → x + 1 ≤ k ∧ k < wr.heap.size := fun k hk => ownsRow_lt h.own hk
  have hcx : wC.heap[x]? = W.heap[x]? := hg.block x g.size fun e => by have := hov x e.symm; omega
  exact ⟨(World.cell?_of_block (a := ⟨x, 1, none⟩) hcx).trans g.c1, (World.frozen?_of_block (a := ⟨x, 1, none⟩) hcx).trans g.f1⟩
theorem NetOut.after0 {x : Nat} {p : Int} {w0 wr W wC : World} {us : List TranL} {ov : Value} {tv : List (Int × Value × Value)} (h : NetOut x p w0 wr us ov tv) (hb : Below wr.heap.size wr W) (hg : W.grownBy wC ov.ownBlock) :
    wC.cell? ⟨x, 0, none⟩ = some (.int .i64 p) := by
  have g := h.to hb
  have hov : ∀ k, ov.ownBlock = some k → x + 1 ≤ k ∧ k < wr.heap.size := fun k hk => ownsRow_lt h.own hk
  have hcx : wC.heap[x]? = W.heap[x]? := hg.block x g.size fun e => by have := hov x e.symm; omega
  exact (World.cell?_of_block (a := ⟨x, 0, none⟩) hcx).trans g.c0
/-- A block that was there and is not the row's. -/
theorem NetOut.afterT {x : Nat} {p : Int} {w0 wr W wC : World} {us : List TranL} {ov : Value} {tv : List (Int × Value × Value)} (h : NetOut x p w0 wr us ov tv) (hb : Below wr.heap.size wr W) (hg : W.grownBy wC ov.ownBlock) {a : Addr} (ha : a.block < wr.heap.size) (hn : some a.block ≠ ov.ownBlock) :
    wC.cell? a = W.cell? a := World.cell?_of_block (hg.block a.block (Nat.lt_of_lt_of_le ha hb.size) hn)

theorem make_zeros (w : World) (n : Nat) (hn : n ≤ 1000) : (Instr.makeSlice 27 (.int .i64 (n : Int)) (.int .i64 (n : Int))).run Try.prog w = .ok (.slice (some ⟨w.heap.size, 0, none⟩) n n) (w.alloc (.cells (List.replicate n (Value.int .i64 0)).toArray 3)) := by
  obtain ⟨i0, hi, hz0, hz1, hz2⟩ := info_parts info_int
  have h := run_make (P := Try.prog) w 27 3 i0 (.int .i64 0) Try.underlying27 hi hz0 .i64 .i64 n n (by omega) (by omega) (by rw [hz2]; omega) (by omega)
  simp only [Int.toNat_natCast] at h
  rw [h]
  congr 2
  congr 1
  apply Array.ext_getElem?
  intro j
  rcases Nat.lt_or_ge j n with hj | hj
  · simp [madeCells, hz1, Value.cells, hj, Nat.mod_one]
  · rw [Array.getElem?_eq_none (by simp [size_madeCells, hz1]; omega), Array.getElem?_eq_none (by simp; omega)]
def padT (xs : List Int) (N : Nat) : List Int := xs ++ zerosL (N - xs.length)
theorem pad_splice (xs : List Int) (N : Nat) (h : xs.length ≤ N) : splice (List.replicate N (Value.int .i64 0)) 0 (xs.map (Value.int .i64)) = (padT xs N).map (Value.int .i64) := by
  unfold splice padT zerosL
  simp [List.drop_replicate]

theorem start_between {P S sk : Nat} (h : sk < S) (hPS : P + S ≤ 16) : startL ((P + S : Nat) : Int) ((P + sk : Nat) : Int) = zerosL P ++ oneAt S sk := by
  have hl : (min ((P + S : Nat) : Int) 16).toNat = P + S := by omega
  refine eq_of_at (by rw [start_length, hl, List.length_append, zeros_length, one_length]) fun j => ?_
  rcases Nat.lt_or_ge j (P + S) with hj | hj
  · rw [start_at _ _ _ (by rw [hl]; exact hj), nth_app, zeros_length]
    by_cases hjP : j < P
    · rw [if_pos hjP, zeros_at, if_neg (by omega)]
    · rw [if_neg hjP, one_at (by omega)]
      by_cases e : j = P + sk
      · rw [if_pos (by omega), if_pos (by omega)]
      · rw [if_neg (by omega), if_neg (by omega)]
  · rw [nth_past _ _ (by rw [start_length, hl]; exact hj), nth_past _ _ (by rw [List.length_append, zeros_length, one_length]; exact hj)]

theorem boxesNPR (w : World) (x y p : Value) : ∃ w0, Hid (((w.alloc (.cells #[x, y] 24)).alloc (.cells #[p] 3)).alloc (.cells #[.int .i64 0, .slice none 0 0] 24) = w0) ∧ Box2 w0 w.heap.size x y ∧ (w.heap.size + 1 < w0.heap.size ∧ w0.cell? ⟨w.heap.size + 1, 0, none⟩ = some p) ∧
    Box2 w0 (w.heap.size + 1 + 1) (.int .i64 0) (.slice none 0 0) ∧ (∀ j, w0.frozen? ⟨w.heap.size + 1 + 1, j, none⟩ = false) ∧ w0.heap.size = w.heap.size + 1 + 1 + 1 ∧ Below w.heap.size w w0 := by
  have b1 := below_new w (.cells #[x, y] 24)
  have h1 := box2_new w x y 24
  obtain ⟨w1, H1⟩ : ∃ w1, w.alloc (.cells #[x, y] 24) = w1 := ⟨_, rfl⟩
  have s1 : w1.heap.size = w.heap.size + 1 := by rw [← H1]; simp
  rw [H1] at b1 h1 ⊢
  have b2 := below_new w1 (.cells #[p] 3)
  have h2 := box1_new w1 p 3
  rw [s1] at h2
  obtain ⟨w2, H2⟩ : ∃ w2, w1.alloc (.cells #[p] 3) = w2 := ⟨_, rfl⟩
  have s2 : w2.heap.size = w.heap.size + 1 + 1 := by rw [← H2]; simp [s1]
  rw [H2] at b2 h2 ⊢
  have b3 := below_new w2 (.cells #[.int .i64 0, .slice none 0 0] 24)
  have h3 := box2_new w2 (.int .i64 0) (.slice none 0 0) 24
  rw [s2] at h3
  refine ⟨_, rfl, h1.below (below_then b2 b3), ⟨by simp [s2], ?_⟩, h3, fun j => by rw [← s2]; exact World.frozen?_alloc_at _ _ _ _ rfl, by simp [s2], below_then b1 (below_then b2 b3)⟩
  rw [b3.cell (p := ⟨w.heap.size + 1, 0, none⟩) h2.1]; exact h2.2

theorem busyTo_succ (ts : List TranL) (P S k : Nat) : busyTo ts P S (k + 1) = busyTo ts P S k ++ busyT P S (seenTo ts k) (tranAt ts k) := rfl

end Go.Proofs.Ytaladbcocealnaa

/- Package cases as it landed: Busy. -/
namespace Go.Proofs.Ytaladbcocealnaa
open Go.RowKit
set_option linter.unusedVariables false
set_option linter.unusedSimpArgs false
set_option maxRecDepth 4000

/-- A box that a net is answered from. -/
structure ResN (w : World) (R : Nat) (a b : Value) : Prop where
  cells : w.heap[R]? = some (.cells #[a, b] 24 (0, 0))
theorem ResN.below {w w' : World} {R : Nat} {a b : Value} (h : ResN w R a b) (hb : Below w.heap.size w w') : ResN w' R a b :=
  ⟨(hb.block R (Array.getElem?_eq_some_iff.1 h.cells).1).trans h.cells⟩
theorem ResN.facts {w : World} {R : Nat} {a b : Value} (h : ResN w R a b) :
    w.cell? ⟨R, 0, none⟩ = some a ∧ w.cell? ⟨R, 1, none⟩ = some b ∧ w.frozen? ⟨R, 0, none⟩ = false ∧ w.frozen? ⟨R, 1, none⟩ = false ∧ R < w.heap.size := by
  have e := h.cells
  exact ⟨by simp [World.cell?, e], by simp [World.cell?, e], by simp [World.frozen?, e], by simp [World.frozen?, e], (Array.getElem?_eq_some_iff.1 e).1⟩
theorem ResN.fill {w W w0 : World} {B R : Nat} {a b x y : Value} (h : ResN w R a b) (hb : Below B w0 w) (hR : B ≤ R) (hW : (w.setCell ⟨R, 0, none⟩ x).setCell ⟨R, 1, none⟩ y = W) :
    W.cell? ⟨R, 0, none⟩ = some x ∧ W.cell? ⟨R, 1, none⟩ = some y ∧ Below B w0 W := by
  obtain ⟨q1, q2, _, _, _⟩ := h.facts
  have e : (w.setCell ⟨R, 0, none⟩ x).cell? ⟨R, 1, none⟩ = some b := by rw [World.cell?_setCell_other _ _ _ _ (by simp)]; exact q2
  subst hW
  refine ⟨?_, ?_, (hb.setCell (p := ⟨R, 0, none⟩) hR _).setCell (p := ⟨R, 1, none⟩) hR _⟩
  · rw [World.cell?_setCell_other _ _ _ _ (by simp)]
    exact World.cell?_setCell_same _ _ _ q1
  · exact World.cell?_setCell_same _ _ _ e
theorem results_netC {fn : Func} {p u : Tmp} {tmps : Array Value} {w : World} {b : Nat} {x y v : Value} (h : fn.results = #[.cell p 24, .tmp u]) (hp : tmps.getD p undef = .pointer (some ⟨b, 0, none⟩)) (hu : tmps.getD u undef = v) (h1 : w.cell? ⟨b, 0, none⟩ = some x) (h2 : w.cell? ⟨b, 1, none⟩ = some y) :
    (results fn tmps).run Try.prog w = .ok (.tuple #[.agg #[x, y], v]) w := by
  rw [results_cell_tmp h, hp, hu]
  simp [asAddr, go_sem, h1, h2]
theorem boxesNN (w : World) (x y : Value) : ∃ w0, Hid ((w.alloc (.cells #[x, y] 24)).alloc (.cells #[.int .i64 0, .slice none 0 0] 24) = w0) ∧ Box2 w0 w.heap.size x y ∧ ResN w0 (w.heap.size + 1) (.int .i64 0) (.slice none 0 0) ∧ Below w.heap.size w w0 := by
  have b1 := below_new w (.cells #[x, y] 24)
  have h1 := box2_new w x y 24
  obtain ⟨w1, H1⟩ : ∃ w1, w.alloc (.cells #[x, y] 24) = w1 := ⟨_, rfl⟩
  have s1 : w1.heap.size = w.heap.size + 1 := by rw [← H1]; simp
  rw [H1] at b1 h1 ⊢
  have b2 := below_new w1 (.cells #[.int .i64 0, .slice none 0 0] 24)
  refine ⟨_, rfl, h1.below b2, ⟨?_⟩, below_then b1 b2⟩
  rw [← s1]
  exact heap_alloc_new w1 _
theorem net_empty (w : World) : Net w (.agg #[.int .i64 0, .slice none 0 0]) ⟨0, []⟩ := ⟨_, rfl, none, 0, 0, rfl, rfl, by omega, ⟨Nat.le_refl _, by omega, fun _ => rfl⟩, fun j hj => absurd hj (Nat.not_lt_zero _)⟩

end Go.Proofs.Ytaladbcocealnaa

/- What package cases promises, as it landed. -/
namespace Go.Proofs.Ytaladbcocealnaa
set_option linter.unusedVariables false

end Go.Proofs.Ytaladbcocealnaa

/- Package desk as it landed: an office is opened. (Made by tools/gen_deskdev2.py.) -/
namespace Go.Proofs.Ytaladbcocealnaa
open Go.RowKit
set_option linter.unusedVariables false
set_option linter.unusedSimpArgs false
set_option maxRecDepth 4000

theorem take_snocT {ts : List TranL} {k : Nat} (h : k < ts.length) : ts.take (k + 1) = ts.take k ++ [tranAt ts k] := by
  rw [List.take_add_one, List.getElem?_eq_getElem h]
  simp [tranAt, List.getD_eq_getElem?_getD, List.getElem?_eq_getElem h]

set_option maxHeartbeats 4000000 in
theorem copied_any (v : Value) (n : NetL) (w : World) (hv : Net w v n) (hn : netOk n = true) :
    Calls Try.prog 33 #[v] w fun e w' => ∃ r, e = .returned r ∧ On (fun k => w.heap.size ≤ k) w' (fun w'' => Net w'' r n) ∧ Below w.heap.size w w' := by
  obtain ⟨tv0, rfl, hT⟩ := hv
  obtain ⟨ta, len, tc, rfl, hlen, hmx, hsh, _⟩ := id hT
  obtain ⟨W0, HW0⟩ : ∃ W0, Hid (((w.alloc (.cells #[.int .i64 n.places, .slice ta len tc] 24)).alloc (.cells #[.int .i64 0, .slice none 0 0] 24)) = W0) := ⟨_, rfl⟩
  obtain ⟨c0, hbn, hbr, hfr, hsz⟩ := two_new _ _ _ _ _ _ _ _ HW0.out
  have HL : Hid (n.trans.length = len) := hlen
  have Hn : Hid (netOk n = true) := hn
  have hst := netOut_new W0 n.places (w.heap.size + 1 + 1) hsz.symm
  have bn := below_new W0 (.cells #[.int .i64 n.places, .slice none 0 0] 24)
  obtain ⟨W1, HW1⟩ : ∃ v, Hid (W0.alloc (.cells #[.int .i64 n.places, .slice none 0 0] 24) = v) := ⟨_, rfl⟩
  rw [HW1.out] at hst bn
  have Hlen : Hid (∀ k, k < len → (tranAt n.trans k).pre.length ≤ 17592186044416 ∧ (tranAt n.trans k).post.length ≤ 17592186044416) := fun k hk => by
    have h1 := tran_length Hn.out (show k < n.trans.length by rw [HL.out]; exact hk)
    have h2 := Hn.out
    unfold netOk headOk at h2
    simp only [Bool.and_eq_true, decide_eq_true_eq] at h2
    omega
  have hl24 : len ≤ 24 := by
    have h2 := Hn.out
    unfold netOk headOk at h2
    simp only [Bool.and_eq_true, decide_eq_true_eq] at h2
    rw [HL.out] at h2
    omega
  clear hlen hn
  obtain ⟨x0, x1, x2⟩ := id hbn
  go_enter Try.func33, Try.ntmps33
  go_upto_region 1 with fail
  rw [HW0.out]
  clear HW0
  go_upto_region 2 with fail
  rw [HW1.out]
  clear HW1 x0 x1 x2
  obtain ⟨x0, x1, x2⟩ := hbn.below bn
  go_wp2_with fail
  clear x0 x1 x2
  go_loopg [12] len (fun gk i' wr => ∃ (k : Nat) (ov : Value) (tv : List (Int × Value × Value)), k + gk = len ∧ i' = .int .i64 (k : Int) ∧ NetOut (w.heap.size + 1 + 1) n.places W0 wr (n.trans.take k) ov tv)
  case atStart => exact ⟨0, _, [], by omega, rfl, by rw [List.take_zero]; exact hst⟩
  case round =>
    clear hst
    obtain ⟨k, ov, tv, hkg, rfl, hO⟩ := hrel
    have hbw : Below W0.heap.size W0 wr := by rw [hsz]; exact hO.below
    obtain ⟨av, lv, cv, rfl⟩ := ownsRow_slice hO.own
    have Htl : Hid (tv.length ≤ 1000) := by
      show _ ≤ _
      rw [← hO.len, List.length_take]
      omega
    by_cases hk : k < len
    · obtain ⟨tb, tf, d1, d2, rfl, hblt, t0, t1, t2, i1, i2⟩ := (hT.below (below_then c0 hbw)).at hk
      obtain ⟨e1, m1, q1, rfl, _⟩ := id i1
      obtain ⟨e2, m2, q2, rfl, _⟩ := id i2
      have Hlk := Hlen.out k hk
      obtain ⟨T, HT⟩ : ∃ T, Hid (tranAt n.trans k = T) := ⟨_, rfl⟩
      rw [HT.out] at t0 i1 i2 Hlk
      have Hsm1 : Hid (T.pre.length ≤ 17592186044416) := Hlk.1
      have Hsm2 : Hid (T.post.length ≤ 17592186044416) := Hlk.2
      clear Hlk
      obtain ⟨L, HLb⟩ : ∃ L, Hid (T.label = L) := ⟨_, rfl⟩
      rw [HLb.out] at t0
      have Hvs : Hid (n.trans.take k ++ [⟨L, T.pre, T.post⟩] = n.trans.take (k + 1)) := by
        show _ = _
        rw [take_snocT (by rw [HL.out]; exact hk), HT.out, ← HLb.out]
      have bt := below_new wr (.cells #[.int .i64 L, .slice e1 m1 q1, .slice e2 m2 q2] 80)
      have hbt := box3_new wr (.int .i64 L) (.slice e1 m1 q1) (.slice e2 m2 q2) 80
      obtain ⟨Bt, HBt⟩ : ∃ B, Hid (wr.heap.size = B) := ⟨_, rfl⟩
      have hBt2 : some Bt ≠ (Value.slice av lv cv).ownBlock := fun e => by have := (ownsRow_lt hO.own e.symm).2; rw [HBt.out] at this; omega
      rw [HBt.out] at hbt
      obtain ⟨w3, Hw3⟩ : ∃ v, Hid (wr.alloc (.cells #[.int .i64 L, .slice e1 m1 q1, .slice e2 m2 q2] 80) = v) := ⟨_, rfl⟩
      rw [Hw3.out] at bt hbt
      have hBt1 : Bt < w3.heap.size := hbt.1
      go_upto_region 5 with fail
      rw [Hw3.out, HBt.out]
      clear Hw3 t0 t1 t2 hblt HBt
      replace hO := hO.to bt
      replace i1 := i1.below bt
      replace i2 := i2.below bt
      clear bt
      have HS : Hid (∀ w', Below w3.heap.size w3 w' → w'.cell? ⟨w.heap.size + 1 + 1, 1, none⟩ = some (.slice av lv cv) ∧ w'.cell? ⟨Bt, 0, none⟩ = some (.int .i64 L) ∧ w'.cell? ⟨Bt, 1, none⟩ = some (.slice e1 m1 q1) ∧ w'.cell? ⟨Bt, 2, none⟩ = some (.slice e2 m2 q2)) := fun w' h => ⟨(hO.to h).c1, (hbt.below h).2.1, (hbt.below h).2.2.1, (hbt.below h).2.2.2⟩
      refine wp_region_Z (S := (fun w' => w'.cell? ⟨w.heap.size + 1 + 1, 1, none⟩ = some (.slice av lv cv) ∧ w'.cell? ⟨Bt, 0, none⟩ = some (.int .i64 L) ∧ w'.cell? ⟨Bt, 1, none⟩ = some (.slice e1 m1 q1) ∧ w'.cell? ⟨Bt, 2, none⟩ = some (.slice e2 m2 q2))) (by kernel_rfl) 14 (HS.out _ (Below.refl _ _).drew) (fun hH => ?_)
      have b : Below w3.heap.size w3 w3.drew := (Below.refl _ _).drew
      obtain ⟨v0, Hv0⟩ : ∃ v0, Hid (w3.drew = v0) := ⟨_, rfl⟩
      rw [Hv0.out] at hH b ⊢
      clear Hv0
      refine wpZ_takeP (i := 0) (v := .pointer (some ⟨w.heap.size + 1 + 1, 1, none⟩)) rfl (by kernel_rfl) (by kernel_rfl) (by kernel_rfl) (fun _ _ _ h => h) (.inl ⟨by rfl, fun w' hS' => by first | (go_simp; done) | (go_simp; rfl) | (go_simp; intro h; omega) | (go_simp; omega)⟩) hH (by decide) ?_
      simp only [List.getElem_toArray, List.getElem_cons_succ, List.getElem_cons_zero, Act.put, List.setIfInBounds_toArray, List.set_cons_zero, List.set_cons_succ]
      refine wpZ_take (i := 1) (v := .slice av lv cv) rfl (by kernel_rfl) (by kernel_rfl) (by kernel_rfl) (fun _ _ _ h => h) (.inl ⟨by rfl, fun w' hS' => by obtain ⟨s1, s2, s3, s4⟩ := hS'; go_simp⟩) hH rfl (by decide) (by kernel_rfl) (by kernel_rfl) ?_
      simp only [List.getElem_toArray, List.getElem_cons_succ, List.getElem_cons_zero, Act.put, List.setIfInBounds_toArray, List.set_cons_zero, List.set_cons_succ]
      refine wpZ_takeP (i := 2) (v := .pointer (some ⟨Bt, 0, none⟩)) rfl (by kernel_rfl) (by kernel_rfl) (by kernel_rfl) (fun _ _ _ h => h) (.inl ⟨by rfl, fun w' hS' => by first | (go_simp; done) | (go_simp; rfl) | (go_simp; intro h; omega) | (go_simp; omega)⟩) hH (by decide) ?_
      simp only [List.getElem_toArray, List.getElem_cons_succ, List.getElem_cons_zero, Act.put, List.setIfInBounds_toArray, List.set_cons_zero, List.set_cons_succ]
      refine wpZ_take (i := 3) (v := .int .i64 L) rfl (by kernel_rfl) (by kernel_rfl) (by kernel_rfl) (fun _ _ _ h => h) (.inl ⟨by rfl, fun w' hS' => by obtain ⟨s1, s2, s3, s4⟩ := hS'; go_simp⟩) hH rfl (by decide) (by kernel_rfl) (by kernel_rfl) ?_
      simp only [List.getElem_toArray, List.getElem_cons_succ, List.getElem_cons_zero, Act.put, List.setIfInBounds_toArray, List.set_cons_zero, List.set_cons_succ]
      refine wpZ_takeP (i := 4) (v := .pointer (some ⟨Bt, 1, none⟩)) rfl (by kernel_rfl) (by kernel_rfl) (by kernel_rfl) (fun _ _ _ h => h) (.inl ⟨by rfl, fun w' hS' => by first | (go_simp; done) | (go_simp; rfl) | (go_simp; intro h; omega) | (go_simp; omega)⟩) hH (by decide) ?_
      simp only [List.getElem_toArray, List.getElem_cons_succ, List.getElem_cons_zero, Act.put, List.setIfInBounds_toArray, List.set_cons_zero, List.set_cons_succ]
      refine wpZ_take (i := 5) (v := .slice e1 m1 q1) rfl (by kernel_rfl) (by kernel_rfl) (by kernel_rfl) (fun _ _ _ h => h) (.inl ⟨by rfl, fun w' hS' => by obtain ⟨s1, s2, s3, s4⟩ := hS'; go_simp⟩) hH rfl (by decide) (by kernel_rfl) (by kernel_rfl) ?_
      simp only [List.getElem_toArray, List.getElem_cons_succ, List.getElem_cons_zero, Act.put, List.setIfInBounds_toArray, List.set_cons_zero, List.set_cons_succ]
      refine wpZ_takeP (i := 7) (v := .pointer (some ⟨Bt, 2, none⟩)) rfl (by kernel_rfl) (by kernel_rfl) (by kernel_rfl) (fun _ _ _ h => h) (.inl ⟨by rfl, fun w' hS' => by first | (go_simp; done) | (go_simp; rfl) | (go_simp; intro h; omega) | (go_simp; omega)⟩) hH (by decide) ?_
      simp only [List.getElem_toArray, List.getElem_cons_succ, List.getElem_cons_zero, Act.put, List.setIfInBounds_toArray, List.set_cons_zero, List.set_cons_succ]
      refine wpZ_take (i := 8) (v := .slice e2 m2 q2) rfl (by kernel_rfl) (by kernel_rfl) (by kernel_rfl) (fun _ _ _ h => h) (.inl ⟨by rfl, fun w' hS' => by obtain ⟨s1, s2, s3, s4⟩ := hS'; go_simp⟩) hH rfl (by decide) (by kernel_rfl) (by kernel_rfl) ?_
      simp only [List.getElem_toArray, List.getElem_cons_succ, List.getElem_cons_zero, Act.put, List.setIfInBounds_toArray, List.set_cons_zero, List.set_cons_succ]
      refine wpZ_ready (rs := [6]) (by kernel_rfl) (by simp) ?_
      refine AllZ.cons rfl (fun K hK => ?_) AllZ.nil
      simp only [List.getElem_toArray, List.getElem_cons_succ, List.getElem_cons_zero]
      rw [if_pos (by rfl)]
      go_wp2_with fail
      refine (clone_any _ T.pre v0 (by exact i1.below b)).mono ?_
      rintro e v1 ⟨r1, rfl, hOw⟩
      have bs1 := hOw.2.1
      have O1 := (hOw.on Hsm1.out).weaken (D' := fun k => w3.heap.size ≤ k) fun k _ hk => Nat.le_trans b.size hk
      obtain ⟨ra1, rl1, rc1, rfl, _⟩ := id O1.now
      clear hOw
      replace b := below_then b bs1
      refine hK.out _ _ (HS.out _ b) (fun hH => ?_)
      clear hK
      refine wpZ_ready (rs := [9]) (by kernel_rfl) (by simp) ?_
      refine AllZ.cons rfl (fun K hK => ?_) AllZ.nil
      simp only [List.getElem_toArray, List.getElem_cons_succ, List.getElem_cons_zero]
      rw [if_pos (by rfl)]
      go_wp2_with fail
      refine (clone_any _ T.post v1 (by exact i2.below b)).mono ?_
      rintro e v2 ⟨r2, rfl, hOw⟩
      have bs2 := hOw.2.1
      have O2 := (hOw.on Hsm2.out).weaken (D' := fun k => w3.heap.size ≤ k) fun k _ hk => Nat.le_trans b.size hk
      obtain ⟨ra2, rl2, rc2, rfl, _⟩ := id O2.now
      clear hOw
      replace b := below_then b bs2
      refine hK.out _ _ (HS.out _ b) (fun hH => ?_)
      clear hK
      refine wpZ_takeP (i := 10) (v := .agg #[.int .i64 L, .slice ra1 rl1 rc1, .slice ra2 rl2 rc2]) rfl (by kernel_rfl) (by kernel_rfl) (by kernel_rfl) (fun _ _ _ h => h) (.inl ⟨by rfl, fun w' hS' => by first | (go_simp; done) | (go_simp; rfl) | (go_simp; intro h; omega) | (go_simp; omega)⟩) hH (by decide) ?_
      simp only [List.getElem_toArray, List.getElem_cons_succ, List.getElem_cons_zero, Act.put, List.setIfInBounds_toArray, List.set_cons_zero, List.set_cons_succ]
      have bs := below_new v2 (.cells #[.int .i64 L, .slice ra1 rl1 rc1, .slice ra2 rl2 rc2] 80)
      obtain ⟨Bb, HBb⟩ : ∃ B, Hid (v2.heap.size = B) := ⟨_, rfl⟩
      have hcell : ∀ j u, (tvCells [(L, .slice ra1 rl1 rc1, .slice ra2 rl2 rc2)])[j]? = some u → (v2.alloc (.cells #[.int .i64 L, .slice ra1 rl1 rc1, .slice ra2 rl2 rc2] 80)).cell? ⟨Bb, 0 + j, none⟩ = some u := fun j u hj => by
        rw [← HBb.out, Nat.zero_add, World.cell?_alloc_at _ _ _ _ rfl]
        simpa [tvCells] using hj
      obtain ⟨u3, Hu3⟩ : ∃ v, Hid (v2.alloc (.cells #[.int .i64 L, .slice ra1 rl1 rc1, .slice ra2 rl2 rc2] 80) = v) := ⟨_, rfl⟩
      rw [Hu3.out] at bs hcell
      refine wpZ_ready (rs := [11]) (by kernel_rfl) (by simp) ?_
      refine AllZ.cons rfl (fun K hK => ?_) AllZ.nil
      simp only [List.getElem_toArray, List.getElem_cons_succ, List.getElem_cons_zero]
      rw [if_pos (by rfl)]
      go_wp2_with fail
      rw [Hu3.out, HBb.out]
      replace b := below_then b bs
      refine hK.out _ _ (HS.out _ b) (fun hH => ?_)
      clear hK
      refine wpZ_ready (rs := [12]) (by kernel_rfl) (by simp) ?_
      refine AllZ.cons rfl (fun K hK => ?_) AllZ.nil
      simp only [List.getElem_toArray, List.getElem_cons_succ, List.getElem_cons_zero]
      refine wpr_append_net (by rfl) _ _ rfl (w.heap.size + 1 + 1 + 1) u3 (.slice av lv cv) tv [(L, .slice ra1 rl1 rc1, .slice ra2 rl2 rc2)] Bb 0 1 1 (hO.to b).own rfl rfl rfl hcell (by intro u hu; simp only [tvCells, List.flatMap_cons, List.flatMap_nil, List.append_nil, List.cons_append, List.nil_append, List.mem_cons, List.not_mem_nil, or_false] at hu; rcases hu with rfl | rfl | rfl <;> rfl) (by have := Htl.out; omega) ((hO.to b).size) ?_
      intro nv u4 hown hg hat
      obtain ⟨na, nl, nc, rfl⟩ := ownsRow_slice hown
      obtain ⟨g1, g2⟩ := hO.after b hg
      have hHS4 : u4.cell? ⟨w.heap.size + 1 + 1, 1, none⟩ = some (.slice av lv cv) ∧ u4.cell? ⟨Bt, 0, none⟩ = some (.int .i64 L) ∧ u4.cell? ⟨Bt, 1, none⟩ = some (.slice e1 m1 q1) ∧ u4.cell? ⟨Bt, 2, none⟩ = some (.slice e2 m2 q2) := by
        refine ⟨g1, ?_, ?_, ?_⟩
        · rw [hO.afterT b hg (a := ⟨Bt, 0, none⟩) hBt1 hBt2]; exact (HS.out _ b).2.1
        · rw [hO.afterT b hg (a := ⟨Bt, 1, none⟩) hBt1 hBt2]; exact (HS.out _ b).2.2.1
        · rw [hO.afterT b hg (a := ⟨Bt, 2, none⟩) hBt1 hBt2]; exact (HS.out _ b).2.2.2
      refine hK.out _ _ hHS4 (fun hH => ?_)
      clear hK
      refine wpZ_takeP (i := 13) (v := .pointer (some ⟨w.heap.size + 1 + 1, 1, none⟩)) rfl (by kernel_rfl) (by kernel_rfl) (by kernel_rfl) (fun _ _ _ h => h) (.inl ⟨by rfl, fun w' hS' => by first | (go_simp; done) | (go_simp; rfl) | (go_simp; intro h; omega) | (go_simp; omega)⟩) hH (by decide) ?_
      simp only [List.getElem_toArray, List.getElem_cons_succ, List.getElem_cons_zero, Act.put, List.setIfInBounds_toArray, List.set_cons_zero, List.set_cons_succ]
      refine wpZ_ready (rs := [14]) (by kernel_rfl) (by simp) ?_
      refine AllZ.last rfl (by kernel_rfl) (fun K hK => ?_) AllZ.nil
      simp only [List.getElem_toArray, List.getElem_cons_succ, List.getElem_cons_zero]
      rw [if_pos (by rfl)]
      go_wp2_with fail
      refine hK.out _ _ ?_
      clear hK
      refine wpZ_done (by kernel_rfl) ?_ _
      have R := hO.step (vs := [⟨L, T.pre, T.post⟩]) (xs := [(L, .slice ra1 rl1 rc1, .slice ra2 rl2 rc2)]) rfl b (fun j hj => by
        obtain rfl : j = 0 := by simp at hj; omega
        exact ⟨rfl, O1.below (below_then bs2 bs), O2.below bs⟩) hown hg hat
      rw [Hvs.out] at R
      clear hown hg hat hO g1 g2 hHS4 HS hcell i1 i2 hbt
      go_wp2
      go_roundg (gk - 1)
      case measure => omega
      case rel => exact ⟨k + 1, _, _, by omega, by go_num, R⟩
    · obtain rfl : k = len := by omega
      rw [List.take_of_length_le (by rw [HL.out]; exact Nat.le_refl _)] at hO
      obtain ⟨z0, z1⟩ := And.intro hO.c0 hO.c1
      obtain ⟨r0, r1, r2⟩ := hbr.below hbw
      have q3 : wr.frozen? ⟨w.heap.size + 1, 0, none⟩ = false := by rw [hbw.frozen (p := ⟨w.heap.size + 1, 0, none⟩) (by simp [hsz])]; exact hfr 0
      have q4 : wr.frozen? ⟨w.heap.size + 1, 1, none⟩ = false := by rw [hbw.frozen (p := ⟨w.heap.size + 1, 1, none⟩) (by simp [hsz])]; exact hfr 1
      obtain ⟨W2, HW2⟩ : ∃ W2, Hid ((wr.setCell ⟨w.heap.size + 1, 0, none⟩ (.int .i64 n.places)).setCell ⟨w.heap.size + 1, 1, none⟩ (.slice av lv cv) = W2) := ⟨_, rfl⟩
      have hTr0 := ((hO.on (by have := Htl.out; omega)).set (a := ⟨w.heap.size + 1, 0, none⟩) (by show ¬ _ < w.heap.size + 1; omega) (.int .i64 n.places)).set (a := ⟨w.heap.size + 1, 1, none⟩) (by show ¬ _ < w.heap.size + 1; omega) (.slice av lv cv)
      rw [HW2.out] at hTr0
      have hTr : On (fun k => w.heap.size ≤ k) W2 (fun w'' => Net w'' (.agg #[.int .i64 n.places, .slice av lv cv]) n) := (hTr0.weaken fun k _ hk => by omega).mono fun w'' h => ⟨_, rfl, h⟩
      clear hTr0
      have hb5 := ((below_then c0 hbw).setCell (p := ⟨w.heap.size + 1, 0, none⟩) (by show _ ≤ w.heap.size + 1; omega) (.int .i64 n.places)).setCell (p := ⟨w.heap.size + 1, 1, none⟩) (by show _ ≤ w.heap.size + 1; omega) (.slice av lv cv)
      have w1' : (wr.setCell ⟨w.heap.size + 1, 0, none⟩ (.int .i64 n.places)).cell? ⟨w.heap.size + 1, 1, none⟩ = some (.slice none 0 0) := by rw [World.cell?_setCell_other _ _ _ _ (by simp)]; exact r2
      have u0 : W2.cell? ⟨w.heap.size + 1, 0, none⟩ = some (.int .i64 n.places) := by
        rw [← HW2.out, World.cell?_setCell_other _ _ _ _ (by simp)]
        exact World.cell?_setCell_same _ _ _ r1
      have u1 : W2.cell? ⟨w.heap.size + 1, 1, none⟩ = some (.slice av lv cv) := by
        rw [← HW2.out]
        exact World.cell?_setCell_same _ _ _ w1'
      rw [HW2.out] at hb5
      clear w1' hO
      go_wp2_with fail
      rw [HW2.out]
      refine bodyPost_ret (v := .agg #[.int .i64 n.places, .slice av lv cv]) ?_ rfl ⟨_, rfl, hTr, hb5⟩
      simp [results, Try.results33, go_sem, u0, u1]

end Go.Proofs.Ytaladbcocealnaa

/- An office at work, in memory: in a block of its own or within a larger one. (To stand in DeskOffice's place; see NOTES 0-24f.) -/
namespace Go.Proofs.Ytaladbcocealnaa
open Go.RowKit
set_option linter.unusedVariables false
set_option linter.unusedSimpArgs false
set_option maxRecDepth 4000

def itC (x : ItemL) : List Value := [.int .i64 x.user, .int .i64 x.tran, .bool x.opn]
def itemCells (l : List ItemL) : List Value := l.flatMap itC
theorem itemCells_length : ∀ (l : List ItemL), (itemCells l).length = l.length * 3
  | [] => rfl
  | x :: l => by
    have := itemCells_length l
    unfold itemCells at this ⊢
    rw [List.flatMap_cons, List.length_append, this]
    simp [itC]; omega
theorem itemCells_append (l m : List ItemL) : itemCells (l ++ m) = itemCells l ++ itemCells m := by simp [itemCells]
theorem itemCells_at : ∀ (l : List ItemL) (k : Nat), k < l.length → (itemCells l)[k * 3]? = some (.int .i64 (itemAt l k).user) ∧ (itemCells l)[k * 3 + 1]? = some (.int .i64 (itemAt l k).tran) ∧ (itemCells l)[k * 3 + 2]? = some (.bool (itemAt l k).opn)
  | [], k, h => absurd h (Nat.not_lt_zero _)
  | x :: l, 0, h => ⟨rfl, rfl, rfl⟩
  | x :: l, k + 1, h => by
    obtain ⟨h1, h2, h3⟩ := itemCells_at l k (by simpa using h)
    have e : itemCells (x :: l) = .int .i64 x.user :: .int .i64 x.tran :: .bool x.opn :: itemCells l := rfl
    rw [e, show (k + 1) * 3 = k * 3 + 1 + 1 + 1 by omega]
    exact ⟨h1, h2, h3⟩
theorem itemCells_user : ∀ (l : List ItemL) (k : Nat) (u : Int), k < l.length → (itemCells l).set (k * 3) (.int .i64 u) = itemCells (l.set k ⟨u, (itemAt l k).tran, (itemAt l k).opn⟩)
  | [], k, u, h => absurd h (Nat.not_lt_zero _)
  | x :: l, 0, u, h => rfl
  | x :: l, k + 1, u, h => by
    have ih := itemCells_user l k u (by simpa using h)
    have e : itemCells (x :: l) = .int .i64 x.user :: .int .i64 x.tran :: .bool x.opn :: itemCells l := rfl
    rw [e, show (k + 1) * 3 = k * 3 + 1 + 1 + 1 by omega]
    simp only [List.set_cons_succ]
    rw [ih]
    rfl
theorem itemCells_open : ∀ (l : List ItemL) (k : Nat) (b : Bool), k < l.length → (itemCells l).set (k * 3 + 2) (.bool b) = itemCells (l.set k ⟨(itemAt l k).user, (itemAt l k).tran, b⟩)
  | [], k, b, h => absurd h (Nat.not_lt_zero _)
  | x :: l, 0, b, h => rfl
  | x :: l, k + 1, b, h => by
    have ih := itemCells_open l k b (by simpa using h)
    have e : itemCells (x :: l) = .int .i64 x.user :: .int .i64 x.tran :: .bool x.opn :: itemCells l := rfl
    rw [e, show (k + 1) * 3 + 2 = k * 3 + 2 + 1 + 1 + 1 by omega]
    simp only [List.set_cons_succ]
    rw [ih]
    rfl
theorem itemCells_one (l : List ItemL) (v : Value) (hv : v ∈ itemCells l) : v.oneCell' = true := by
  unfold itemCells at hv
  obtain ⟨x, _, hx⟩ := List.mem_flatMap.1 hv
  simp only [itC, List.mem_cons, List.not_mem_nil, or_false] at hx
  rcases hx with rfl | rfl | rfl <;> rfl

theorem ownsRow_put {B : Nat} {w : World} {e : TypeId} {size g n cap : Nat} {xs : List Value} (h : w.ownsRow B e size (.slice (some ⟨g, 0, none⟩) n cap) n xs) (j : Nat) (u : Value) :
    (w.setCell ⟨g, j, none⟩ u).ownsRow B e size (.slice (some ⟨g, 0, none⟩) n cap) n (xs.set j u) := by
  obtain ⟨h1, h2⟩ := h
  refine ⟨by simpa using h1, ?_⟩
  rcases h2 with ⟨e1, _⟩ | ⟨g', cap', cur, e1, hg, hh, r1, r2, r3, r4⟩
  · cases e1
  · injection e1 with e2 e3 e4
    injection e2 with e2
    injection e2 with e2
    subst e2 e4
    refine .inr ⟨g, cap, cur.setIfInBounds j u, rfl, hg, CellsAt.put (t := e) hh j u, r1, r2, by simpa using r3, ?_⟩
    rw [Array.toList_setIfInBounds, ← r4, List.take_set]
theorem ownsRow_aside {wr : World} {B size k : Nat} {e : TypeId} {v : Value} {xs : List Value} (h : wr.ownsRow B e size v k xs) {p : Addr} (hn : v.ownBlock ≠ some p.block) (u : Value) : (wr.setCell p u).ownsRow B e size v k xs := by
  refine ⟨h.1, ?_⟩
  rcases h.2 with hh | ⟨g, cap, cur, rfl, hb, hg, rest⟩
  · exact .inl hh
  · refine .inr ⟨g, cap, cur, rfl, hb, ?_, rest⟩
    rw [Below.heap_setCell wr p u g (fun e => hn (by show some g = _; rw [e]))]
    exact hg

/-- Where an office lies in its block: what stands ahead of it, what behind it, and what the block is. -/
structure Spot where
  off : Nat
  pre : Array Value
  suf : Array Value
  typ : TypeId
  size : pre.size = off
def Spot.own : Spot := ⟨0, #[], #[], 63, rfl⟩
/-- The whole block. -/
def Spot.all (P : Spot) (cs : Array Value) : Array Value := P.pre ++ (cs ++ P.suf)
theorem Spot.own_all (cs : Array Value) : Spot.own.all cs = cs := by simp [Spot.all, Spot.own]
theorem Spot.all_at (P : Spot) (cs : Array Value) {j : Nat} (h : j < cs.size) : (P.all cs)[P.off + j]? = cs[j]? := by
  unfold Spot.all
  rw [← P.size, Array.getElem?_append_right (Nat.le_add_right _ _), Nat.add_sub_cancel_left, Array.getElem?_append_left h]
theorem Spot.all_put (P : Spot) (cs : Array Value) {j : Nat} (h : j < cs.size) (x : Value) : (P.all cs).setIfInBounds (P.off + j) x = P.all (cs.setIfInBounds j x) := by
  unfold Spot.all
  rw [← P.size, Array.setIfInBounds_append_right (Nat.le_add_right _ _), Nat.add_sub_cancel_left, Array.setIfInBounds_append_left h]

/-- An office: at the spot P of block Bo; its items, if any, in a row of its own from block B on; its net in blocks ahead of Bo. -/
structure OffRec (w : World) (Bo : Nat) (P : Spot) (B : Nat) (n : NetL) (roles : List (List Int)) (d : DeskL) (ma ba : Option Addr) (ml mc bl bc : Nat) (iv tv : Value) : Prop where
  cells : CellsAt w Bo (P.all (offA (.slice ma ml mc) (.slice ba bl bc) iv (.int .i64 n.places) tv (mayG roles))) P.typ
  mark : Ints w (.slice ma ml mc) d.case.mark
  busy : Ints w (.slice ba bl bc) d.case.busy
  trans : On (fun k => k < Bo) w (fun w' => Trans w' tv n.trans)
  row : w.ownsRow B 78 3 iv d.items.length (itemCells d.items)
  offM : ∀ g, iv.ownBlock = some g → SlOff g (.slice ma ml mc)
  offB : ∀ g, iv.ownBlock = some g → SlOff g (.slice ba bl bc)
  lo : Bo < B

section
variable {w w' : World} {Bo B : Nat} {P : Spot} {n : NetL} {roles : List (List Int)} {d : DeskL} {ma ba : Option Addr} {ml mc bl bc : Nat} {iv tv : Value}
theorem OffRec.below (h : OffRec w Bo P B n roles d ma ba ml mc bl bc iv tv) (hb : Below w.heap.size w w') : OffRec w' Bo P B n roles d ma ba ml mc bl bc iv tv :=
  ⟨h.cells.below hb, h.mark.below hb, h.busy.below hb, h.trans.below hb, ((ownsRow_on h.row).below hb).now, h.offM, h.offB, h.lo⟩
theorem OffRec.cell (h : OffRec w Bo P B n roles d ma ba ml mc bl bc iv tv) {j : Nat} (hj : j < 221) : w.cell? ⟨Bo, P.off + j, none⟩ = (offA (.slice ma ml mc) (.slice ba bl bc) iv (.int .i64 n.places) tv (mayG roles))[j]? := by
  rw [h.cells.cell, P.all_at _ (by rw [offA_size]; exact hj)]
theorem OffRec.facts (h : OffRec w Bo P B n roles d ma ba ml mc bl bc iv tv) :
    w.cell? ⟨Bo, P.off, none⟩ = some (.slice ma ml mc) ∧ w.cell? ⟨Bo, P.off + 1, none⟩ = some (.slice ba bl bc) ∧ w.cell? ⟨Bo, P.off + 2, none⟩ = some iv ∧ w.cell? ⟨Bo, P.off + 3, none⟩ = some (.int .i64 n.places) ∧ w.cell? ⟨Bo, P.off + 4, none⟩ = some tv ∧ Bo < w.heap.size ∧ ∀ j, w.frozen? ⟨Bo, j, none⟩ = false := by
  have e := h.cells
  refine ⟨?_, ?_, ?_, ?_, ?_, e.lt, e.frozen⟩
  · have := h.cell (j := 0) (by omega)
    rw [Nat.add_zero] at this
    rw [this]; unfold offA; rw [Array.getElem?_append_left (by simp)]; rfl
  all_goals (rw [h.cell (by omega)]; unfold offA; rw [Array.getElem?_append_left (by simp)]; rfl)
theorem OffRec.facts0 (h : OffRec w Bo Spot.own B n roles d ma ba ml mc bl bc iv tv) :
    w.cell? ⟨Bo, 0, none⟩ = some (.slice ma ml mc) ∧ w.cell? ⟨Bo, 1, none⟩ = some (.slice ba bl bc) ∧ w.cell? ⟨Bo, 2, none⟩ = some iv ∧ w.cell? ⟨Bo, 3, none⟩ = some (.int .i64 n.places) ∧ w.cell? ⟨Bo, 4, none⟩ = some tv ∧ Bo < w.heap.size ∧ ∀ j, w.frozen? ⟨Bo, j, none⟩ = false := h.facts
theorem OffRec.mayCell (h : OffRec w Bo P B n roles d ma ba ml mc bl bc iv tv) {u l : Nat} (hu : u < 8) (hl : l ≤ 26) : w.cell? ⟨Bo, P.off + 5 + u * 27 + l, none⟩ = some (.bool (mayL roles (u : Int) (l : Int))) := by
  rw [show P.off + 5 + u * 27 + l = P.off + (5 + (u * 27 + l)) by omega, h.cell (by omega), offA_at _ _ _ _ _ _ (by omega), mayG_may hu hl]
theorem OffRec.net (h : OffRec w Bo P B n roles d ma ba ml mc bl bc iv tv) : Net w (.agg #[.int .i64 n.places, tv]) n := ⟨_, rfl, h.trans.now⟩
theorem OffRec.ne (h : OffRec w Bo P B n roles d ma ba ml mc bl bc iv tv) : iv.ownBlock ≠ some Bo := fun e => by
  have := (ownsRow_lt h.row e).1
  have := h.lo
  omega
theorem offA_set0 (c0 c1 c2 c3 c4 x : Value) (g : Nat → Bool) : (offA c0 c1 c2 c3 c4 g).setIfInBounds 0 x = offA x c1 c2 c3 c4 g := by
  unfold offA; rw [Array.setIfInBounds_append_left (by simp)]; rfl
theorem offA_set1 (c0 c1 c2 c3 c4 x : Value) (g : Nat → Bool) : (offA c0 c1 c2 c3 c4 g).setIfInBounds 1 x = offA c0 x c2 c3 c4 g := by
  unfold offA; rw [Array.setIfInBounds_append_left (by simp)]; rfl
theorem offA_set2 (c0 c1 c2 c3 c4 x : Value) (g : Nat → Bool) : (offA c0 c1 c2 c3 c4 g).setIfInBounds 2 x = offA c0 c1 x c3 c4 g := by
  unfold offA; rw [Array.setIfInBounds_append_left (by simp)]; rfl
theorem Spot.set0 (P : Spot) (c0 c1 c2 c3 c4 x : Value) (g : Nat → Bool) : (P.all (offA c0 c1 c2 c3 c4 g)).setIfInBounds P.off x = P.all (offA x c1 c2 c3 c4 g) := by
  have := P.all_put (offA c0 c1 c2 c3 c4 g) (j := 0) (by rw [offA_size]; omega) x
  rw [Nat.add_zero, offA_set0] at this
  exact this
theorem Spot.set1 (P : Spot) (c0 c1 c2 c3 c4 x : Value) (g : Nat → Bool) : (P.all (offA c0 c1 c2 c3 c4 g)).setIfInBounds (P.off + 1) x = P.all (offA c0 x c2 c3 c4 g) := by
  rw [P.all_put _ (by rw [offA_size]; omega), offA_set1]
theorem Spot.set2 (P : Spot) (c0 c1 c2 c3 c4 x : Value) (g : Nat → Bool) : (P.all (offA c0 c1 c2 c3 c4 g)).setIfInBounds (P.off + 2) x = P.all (offA c0 c1 x c3 c4 g) := by
  rw [P.all_put _ (by rw [offA_size]; omega), offA_set2]

/-- Another case. -/
theorem OffRec.setCase (h : OffRec w Bo P B n roles d ma ba ml mc bl bc iv tv) {c : CaseL} {xa ya : Option Addr} {xl xc yl yc : Nat} (hm : Ints w (.slice xa xl xc) c.mark) (hb : Ints w (.slice ya yl yc) c.busy)
    (oM : ∀ g, iv.ownBlock = some g → SlOff g (.slice xa xl xc)) (oB : ∀ g, iv.ownBlock = some g → SlOff g (.slice ya yl yc)) (hW : (w.setCell ⟨Bo, P.off, none⟩ (.slice xa xl xc)).setCell ⟨Bo, P.off + 1, none⟩ (.slice ya yl yc) = w') :
    OffRec w' Bo P B n roles ⟨c, d.items⟩ xa ya xl xc yl yc iv tv := by
  obtain ⟨q0, q1, q2, q3, q4, q5, _⟩ := h.facts
  have e1 : (w.setCell ⟨Bo, P.off, none⟩ (.slice xa xl xc)).cell? ⟨Bo, P.off + 1, none⟩ = some (.slice ba bl bc) := by rw [World.cell?_setCell_other _ _ _ _ (by simp)]; exact q1
  subst hW
  refine ⟨?_, (hm.putS q0 _).putS e1 _, (hb.putS q0 _).putS e1 _, (h.trans.set (a := ⟨Bo, P.off, none⟩) (by show ¬ Bo < Bo; omega) _).set (a := ⟨Bo, P.off + 1, none⟩) (by show ¬ Bo < Bo; omega) _, ownsRow_aside (ownsRow_aside h.row (p := ⟨Bo, P.off, none⟩) h.ne _) (p := ⟨Bo, P.off + 1, none⟩) h.ne _, oM, oB, h.lo⟩
  have := (h.cells.put P.off (.slice xa xl xc)).put (P.off + 1) (.slice ya yl yc)
  rw [P.set0, P.set1] at this
  exact this
end

end Go.Proofs.Ytaladbcocealnaa

/- Package desk as it landed: who may, who has what, what is worked off. (Made by tools/spot.py.) -/
namespace Go.Proofs.Ytaladbcocealnaa
open Go.RowKit
set_option linter.unusedVariables false
set_option linter.unusedSimpArgs false
set_option maxRecDepth 4000

theorem label_ok {n : NetL} (hn : netOk n = true) {k : Nat} (hk : k < n.trans.length) : 0 ≤ (tranAt n.trans k).label ∧ (tranAt n.trans k).label ≤ 26 := by
  have := net_tran hn hk
  unfold tranOk tranHead at this
  simp only [Bool.and_eq_true, decide_eq_true_eq, beq_iff_eq] at this
  omega
theorem may_low {roles : List (List Int)} {u l : Int} (h : ¬ 0 ≤ u) : mayL roles u l = false := by simp [mayL, h]
theorem may_high {roles : List (List Int)} {u l : Int} (h : ¬ u < 8) : mayL roles u l = false := by simp [mayL, h]

set_option maxHeartbeats 2000000 in
theorem allowed_any {Bo B : Nat} {P : Spot} {n : NetL} {roles : List (List Int)} {d : DeskL} {ma ba : Option Addr} {ml mc bl bc : Nat} {iv tv : Value} (user : Int) (k : Nat) (w : World) (h : OffRec w Bo P B n roles d ma ba ml mc bl bc iv tv) (hn : netOk n = true) (hk : k < n.trans.length) :
    Calls Try.prog 69 #[.pointer (some ⟨Bo, P.off, none⟩), .int .i64 user, .int .i64 (k : Int)] w fun e w' => e = .returned (.bool (mayL roles user (tranAt n.trans k).label)) ∧ ∃ m, w' = w.drewN m := by
  obtain ⟨L, HL⟩ : ∃ L, Hid ((tranAt n.trans k).label = L) := ⟨_, rfl⟩
  have hlab := label_ok hn hk
  rw [HL.out] at hlab ⊢
  obtain ⟨l, rfl⟩ := Int.eq_ofNat_of_zero_le hlab.1
  have hl : l ≤ 26 := by omega
  obtain ⟨q0, q1, q2, q3, q4, q5, q6⟩ := h.facts
  have hT := h.trans.now
  obtain ⟨ta, len, tc, rfl, hlen, hmx, _⟩ := id hT
  have hkl : k < len := by rw [← hlen]; exact hk
  obtain ⟨tb, tf, d1, d2, rfl, hblt, t0, t1, t2, i1, i2⟩ := hT.at hkl
  rw [HL.out] at t0
  clear hlen hT i1 i2 t1 t2 hlab
  by_cases h0 : 0 ≤ user
  · obtain ⟨u, rfl⟩ := Int.eq_ofNat_of_zero_le h0
    by_cases h8 : u < 8
    · have hm := h.mayCell (u := u) h8 hl
      have h0' : decide ((0 : Int) ≤ (u : Int)) = true := decide_eq_true h0
      have h8' : decide ((u : Int) < 8) = true := decide_eq_true (by omega)
      have hl27 : l < 27 := by omega
      clear h
      go_enter Try.func69, Try.ntmps69
      go_upto_region 1 with fail
      go_quiet (fail)
      go_wp2
      go_ret
      exact ⟨rfl, _, rfl⟩
    · have R : Hid (mayL roles (u : Int) (l : Int) = false) := may_high (by omega)
      have h0' : decide ((0 : Int) ≤ (u : Int)) = true := decide_eq_true h0
      have h8' : decide ((u : Int) < 8) = false := decide_eq_false (by omega)
      have h8'' : ¬ (u < 8) := h8
      clear h
      go_enter Try.func69, Try.ntmps69
      go_upto_region 1 with fail
      go_quiet (fail)
      go_wp2
      go_ret
      exact ⟨ret_bool R.out.symm, _, rfl⟩
  · have R : Hid (mayL roles user (l : Int) = false) := may_low h0
    have h0' : decide (0 ≤ user) = false := decide_eq_false h0
    clear h
    go_enter Try.func69, Try.ntmps69
    go_upto_region 1 with fail
    go_quiet (fail)
    go_wp2
    go_ret
    exact ⟨ret_bool R.out.symm, _, rfl⟩

def dopV (o : DOp) : Value := .agg #[.int .i64 o.kind, .int .i64 o.user, .int .i64 o.tran, .int .i64 o.item, .int .i64 o.hand]
def dopArr (o : DOp) : Array Value := #[.int .i64 o.kind, .int .i64 o.user, .int .i64 o.tran, .int .i64 o.item, .int .i64 o.hand]
/-- Why nobody has it who asks. -/
def heldE (d : DeskL) (o : DOp) : Int :=
  if o.item < 0 ∨ (d.items.length : Int) ≤ o.item ∨ (itemAt d.items o.item.toNat).opn = false then 3 else if (itemAt d.items o.item.toNat).user ≠ o.user then 7 else 0

/-- Where it lies. -/
def HeldAt (d : DeskL) (o : DOp) (iv : Value) (p : Option Addr) : Prop := ∃ (k g cap : Nat), o.item = (k : Int) ∧ k < d.items.length ∧ iv = .slice (some ⟨g, 0, none⟩) d.items.length cap ∧ p = some ⟨g, k * 3, none⟩ ∧ (itemAt d.items k).opn = true ∧ (itemAt d.items k).user = o.user

set_option maxHeartbeats 2000000 in
theorem held_any {Bo B : Nat} {P : Spot} {n : NetL} {roles : List (List Int)} {d : DeskL} {ma ba : Option Addr} {ml mc bl bc : Nat} {iv tv : Value} (o : DOp) (w : World) (h : OffRec w Bo P B n roles d ma ba ml mc bl bc iv tv) :
    Calls Try.prog 70 #[.pointer (some ⟨Bo, P.off, none⟩), dopV o] w fun e w' => ∃ p, e = .returned (.tuple #[.pointer p, .int .i64 (heldE d o)]) ∧ Below w.heap.size w w' ∧
      (heldE d o = 0 → HeldAt d o iv p) := by
  have c0 := below_new w (.cells (dopArr o) 45)
  have hbo := cellsAt_new w (dopArr o) 45
  obtain ⟨w0, Hw0⟩ : ∃ v, Hid (w.alloc (.cells (dopArr o) 45) = v) := ⟨_, rfl⟩
  have Hw0' : Hid (w.alloc (.cells #[.int .i64 o.kind, .int .i64 o.user, .int .i64 o.tran, .int .i64 o.item, .int .i64 o.hand] 45) = w0) := Hw0.out
  rw [Hw0.out] at c0 hbo
  replace h := h.below c0
  have o1 : w0.cell? ⟨w.heap.size, 1, none⟩ = some (.int .i64 o.user) := hbo.cell 1
  have o3 : w0.cell? ⟨w.heap.size, 3, none⟩ = some (.int .i64 o.item) := hbo.cell 3
  obtain ⟨q0, q1, q2, q3, q4, q5, q6⟩ := h.facts
  obtain ⟨ia, il, ic, rfl⟩ := ownsRow_slice h.row
  have hil : il = d.items.length := by
    rcases h.row.2 with ⟨e, e2⟩ | ⟨g, cap, cur, e, _⟩
    · injection e with _ e _; omega
    · injection e with _ e _
  subst hil
  have Hrow : Hid (w0.ownsRow B 78 3 (.slice ia d.items.length ic) d.items.length (itemCells d.items)) := h.row
  obtain ⟨kd, us, tr, it, hd⟩ := o
  have o1 : w0.cell? ⟨w.heap.size, 1, none⟩ = some (.int .i64 us) := o1
  have o3 : w0.cell? ⟨w.heap.size, 3, none⟩ = some (.int .i64 it) := o3
  have hbig : d.items.length ≤ 9223372036854775807 := by
    rcases h.row.2 with ⟨e, e2⟩ | ⟨g, cap, cur, e, _, _, e4, e5, _⟩
    · omega
    · unfold maxLen at e5; omega
  clear h q0 q1 q3 q4 q6 Hw0 hbo
  show Calls _ _ #[_, .agg #[.int .i64 kd, .int .i64 us, .int .i64 tr, .int .i64 it, .int .i64 hd]] _ _
  by_cases h1 : it < 0
  · have E : Hid (heldE d ⟨kd, us, tr, it, hd⟩ = 3) := by show _ = _; unfold heldE; rw [if_pos (.inl h1)]
    have h1' : decide (it < 0) = true := decide_eq_true h1
    go_enter Try.func70, Try.ntmps70
    go_upto_region 1 with fail
    rw [Hw0'.out]
    go_quiet (fail)
    have b := below_drewN (Below.refl w0.heap.size w0) nq
    go_wp2
    go_ret2
    exact ⟨none, by rw [E.out]; rfl, below_then c0 b, fun q => by rw [E.out] at q; cases q⟩
  · have h1' : decide (it < 0) = false := decide_eq_false h1
    obtain ⟨k, rfl⟩ := Int.eq_ofNat_of_zero_le (show 0 ≤ it by omega)
    clear h1
    by_cases h2 : d.items.length ≤ k
    · have E : Hid (heldE d ⟨kd, us, tr, (k : Int), hd⟩ = 3) := by show _ = _; unfold heldE; rw [if_pos (.inr (.inl (by show (d.items.length : Int) ≤ (k : Int); omega)))]
      have h2' : decide ((d.items.length : Int) ≤ (k : Int)) = true := decide_eq_true (by omega)
      generalize d.items.length = N at *
      go_enter Try.func70, Try.ntmps70
      go_upto_region 1 with fail
      rw [Hw0'.out]
      go_quiet (fail)
      have b := below_drewN (Below.refl w0.heap.size w0) nq
      go_wp2
      go_ret2
      exact ⟨none, by rw [E.out]; rfl, below_then c0 b, fun q => by rw [E.out] at q; cases q⟩
    · have h2' : decide ((d.items.length : Int) ≤ (k : Int)) = false := decide_eq_false (by omega)
      have hk : k < d.items.length := by omega
      obtain ⟨s1, s2, s3⟩ := itemCells_at d.items k hk
      obtain ⟨g, rfl⟩ : ∃ g, ia = some ⟨g, 0, none⟩ := by
        rcases Hrow.out.2 with ⟨e, e2⟩ | ⟨g, cap, cur, e, _⟩
        · omega
        · injection e with e _ _; exact ⟨g, e⟩
      have hrow := Hrow.out
      have c1 := hrow.cellAt (k * 3) (by omega)
      have c2 := hrow.cellAt (k * 3 + 2) (by omega)
      have hglt := (hrow.lt g rfl).2
      clear hrow
      rw [s1] at c1
      rw [s3] at c2
      have hcap : d.items.length ≤ ic := by
        rcases Hrow.out.2 with ⟨e, e2⟩ | ⟨g, cap, cur, e, _, _, e4, _⟩
        · omega
        · injection e with _ _ e; omega
      have Hx : Hid (heldE d ⟨kd, us, tr, (k : Int), hd⟩ = if (itemAt d.items k).opn = false then 3 else if (itemAt d.items k).user ≠ us then 7 else 0) := by
        show _ = _
        unfold heldE
        show (if (k : Int) < 0 ∨ (d.items.length : Int) ≤ (k : Int) ∨ (itemAt d.items (k : Int).toNat).opn = false then (3 : Int) else if (itemAt d.items (k : Int).toNat).user ≠ us then 7 else 0) = _
        rw [Int.toNat_natCast]
        by_cases ho : (itemAt d.items k).opn = false
        · rw [if_pos (.inr (.inr ho)), if_pos ho]
        · rw [if_neg (by
            rintro (q | q | q)
            · omega
            · omega
            · exact ho q), if_neg ho]
      obtain ⟨us2, Hus⟩ : ∃ z, Hid ((itemAt d.items k).user = z) := ⟨_, rfl⟩
      obtain ⟨op, Hop⟩ : ∃ z, Hid ((itemAt d.items k).opn = z) := ⟨_, rfl⟩
      rw [Hus.out] at c1 Hx
      rw [Hop.out] at c2 Hx
      clear s1 s2 s3
      obtain ⟨N, HN⟩ : ∃ N, Hid (d.items.length = N) := ⟨_, rfl⟩
      rw [HN.out] at h2 h2' hk q2 hcap hbig
      go_enter Try.func70, Try.ntmps70
      go_upto_region 1 with fail
      rw [Hw0'.out]
      go_quiet (fail)
      have b := below_drewN (Below.refl w0.heap.size w0) nq
      obtain ⟨w1, H1⟩ : ∃ w1, Hid (w0.drewN nq = w1) := ⟨_, rfl⟩
      have hg0 := hglt
      replace o1 := (b.cell (p := ⟨w.heap.size, 1, none⟩) (by have := c0.size; obtain ⟨e1, _⟩ := Array.getElem?_eq_some_iff.1 (show w0.heap[w.heap.size]? = _ from by rw [← Hw0'.out]; exact heap_alloc_new w _); exact e1)).trans o1
      replace o3 := (b.cell (p := ⟨w.heap.size, 3, none⟩) (by obtain ⟨e1, _⟩ := Array.getElem?_eq_some_iff.1 (show w0.heap[w.heap.size]? = _ from by rw [← Hw0'.out]; exact heap_alloc_new w _); exact e1)).trans o3
      replace q2 := (b.cell (p := ⟨Bo, P.off + 2, none⟩) q5).trans q2
      replace c1 := (b.cell (p := ⟨g, _, none⟩) hg0).trans c1
      replace c2 := (b.cell (p := ⟨g, _, none⟩) hg0).trans c2
      rw [H1.out] at b o1 o3 q2 c1 c2 ⊢
      clear H1 Hrow
      go_upto_region 3 with fail
      go_quiet (fail)
      have b2 := below_drewN (Below.refl w1.heap.size w1) nq
      obtain ⟨w2, H2⟩ : ∃ w2, Hid (w1.drewN nq = w2) := ⟨_, rfl⟩
      have hg1 := Nat.lt_of_lt_of_le hg0 b.size
      have hw1 : w.heap.size < w1.heap.size := Nat.lt_of_lt_of_le (by obtain ⟨e1, _⟩ := Array.getElem?_eq_some_iff.1 (show w0.heap[w.heap.size]? = _ from by rw [← Hw0'.out]; exact heap_alloc_new w _); exact e1) b.size
      replace o1 := (b2.cell (p := ⟨w.heap.size, 1, none⟩) hw1).trans o1
      replace o3 := (b2.cell (p := ⟨w.heap.size, 3, none⟩) hw1).trans o3
      replace c1 := (b2.cell (p := ⟨g, _, none⟩) hg1).trans c1
      replace c2 := (b2.cell (p := ⟨g, _, none⟩) hg1).trans c2
      replace c0 := below_then (below_then c0 b) b2
      rw [H2.out] at b2 o1 o3 c1 c2 c0 ⊢
      clear H2 b hg0 q2
      cases op with
      | false =>
        have E : Hid (heldE d ⟨kd, us, tr, (k : Int), hd⟩ = 3) := by show _ = _; rw [Hx.out]; rfl
        go_wp2
        go_ret2
        exact ⟨none, by rw [E.out]; rfl, c0, fun q => by rw [E.out] at q; cases q⟩
      | true =>
        go_upto_region 6 with fail
        go_quiet (fail)
        have b3 := below_drewN (Below.refl w2.heap.size w2) nq
        obtain ⟨w3, H3⟩ : ∃ w3, Hid (w2.drewN nq = w3) := ⟨_, rfl⟩
        rw [H3.out] at b3 ⊢
        replace c0 := below_then c0 b3
        clear H3
        by_cases hu : us2 = us
        · subst hu
          have E : Hid (heldE d ⟨kd, us2, tr, (k : Int), hd⟩ = 0) := by show _ = _; rw [Hx.out]; simp
          go_wp2
          go_ret2
          exact ⟨some ⟨g, k * 3, none⟩, by rw [E.out]; simp, c0, fun _ => ⟨k, g, ic, rfl, by rw [HN.out]; exact hk, by rw [HN.out], rfl, Hop.out, Hus.out⟩⟩
        · have E : Hid (heldE d ⟨kd, us, tr, (k : Int), hd⟩ = 7) := by show _ = _; rw [Hx.out]; simp [hu]
          have hu' : (us2 != us) = true := by simpa using hu
          have hu'' : (us2 == us) = false := by simpa using hu
          go_wp2
          go_ret2
          exact ⟨none, by rw [E.out]; rfl, c0, fun q => by rw [E.out] at q; cases q⟩

end Go.Proofs.Ytaladbcocealnaa

/- Package desk as it landed: what is worked off. (Made by tools/spot.py.) -/
namespace Go.Proofs.Ytaladbcocealnaa
open Go.RowKit
set_option linter.unusedVariables false
set_option linter.unusedSimpArgs false
set_option maxRecDepth 4000

/-- All blocks stand but the office's own, and that of its items. -/
structure KeepO (Bo : Nat) (iv : Value) (w w' : World) : Prop where
  rest : Below 0 w w'
  block : ∀ k, k < w.heap.size → k ≠ Bo → iv.ownBlock ≠ some k → w'.heap[k]? = w.heap[k]?
theorem KeepO.size {Bo : Nat} {iv : Value} {w w' : World} (h : KeepO Bo iv w w') : w.heap.size ≤ w'.heap.size := h.rest.size
theorem KeepO.of {Bo : Nat} {iv : Value} {w w' : World} (h : Below w.heap.size w w') : KeepO Bo iv w w' := ⟨h.mono (Nat.zero_le _), fun k hk _ _ => h.block k hk⟩
theorem KeepO.then {Bo : Nat} {iv : Value} {w w1 w2 : World} (h : KeepO Bo iv w w1) (g : KeepO Bo iv w1 w2) : KeepO Bo iv w w2 :=
  ⟨h.rest.trans g.rest, fun k hk h1 h2 => (g.block k (Nat.lt_of_lt_of_le hk h.size) h1 h2).trans (h.block k hk h1 h2)⟩
theorem KeepO.put {Bo : Nat} {iv : Value} {w w1 : World} (h : KeepO Bo iv w w1) (j : Nat) (u : Value) : KeepO Bo iv w (w1.setCell ⟨Bo, j, none⟩ u) :=
  ⟨h.rest.setCell (p := ⟨Bo, j, none⟩) (Nat.zero_le _) u, fun k hk h1 h2 => (Below.heap_setCell w1 ⟨Bo, j, none⟩ u k (by show k ≠ Bo; exact h1)).trans (h.block k hk h1 h2)⟩
theorem CaseV.parts {w : World} {x y : Value} {c : CaseL} (h : CaseV w (.agg #[x, y]) c) : Ints w x c.mark ∧ Ints w y c.busy := by
  obtain ⟨a, l, p, a', l', p', e, h1, h2⟩ := h
  injection e with e
  injection e with e
  injection e with e1 e
  injection e with e2 _
  rw [e1, e2]
  exact ⟨h1, h2⟩
/-- Blocks that are there, and that these two do not lie in. -/
def FarOk (w : World) (Far : Nat → Prop) (x y : Value) : Prop := ∀ R, Far R → R < w.heap.size ∧ SlOff R x ∧ SlOff R y
theorem FarOk.up {w w' : World} {Far : Nat → Prop} {x y : Value} (h : FarOk w Far x y) (hs : w.heap.size ≤ w'.heap.size) : FarOk w' Far x y := fun R hR => ⟨Nat.lt_of_lt_of_le (h R hR).1 hs, (h R hR).2⟩
/-- An office, wherever its parts lie. -/
def Office (w : World) (Bo : Nat) (P : Spot) (B : Nat) (n : NetL) (roles : List (List Int)) (d : DeskL) (iv : Value) (Far : Nat → Prop) : Prop := ∃ ma ba ml mc bl bc tv, OffRec w Bo P B n roles d ma ba ml mc bl bc iv tv ∧ FarOk w Far (.slice ma ml mc) (.slice ba bl bc)

/-- The case behind it. -/
def workD (n : NetL) (d : DeskL) (kd tr : Int) : DeskL := if (doC n d.case kd tr).2 = 0 then ⟨(doC n d.case kd tr).1, d.items⟩ else d

set_option maxHeartbeats 4000000 in
theorem work_any {Bo B : Nat} {P : Spot} {n : NetL} {roles : List (List Int)} {d : DeskL} {ma ba : Option Addr} {ml mc bl bc : Nat} {iv tv : Value} {Far : Nat → Prop} (kd tr : Int) (w : World) (h : OffRec w Bo P B n roles d ma ba ml mc bl bc iv tv) (hfar : FarOk w Far (.slice ma ml mc) (.slice ba bl bc)) :
    Calls Try.prog 58 #[.pointer (some ⟨Bo, P.off, none⟩), .int .i64 kd, .int .i64 tr] w fun e w' => e = .returned (.int .i64 (doC n d.case kd tr).2) ∧ Office w' Bo P B n roles (workD n d kd tr) iv Far ∧ KeepO Bo iv w w' ∧ (∀ g, iv.ownBlock = some g → w'.heap[g]? = w.heap[g]?) := by
  go_enter Try.func58, Try.ntmps58
  go_upto_region 1 with fail
  go_cut [7, 8] (fun x7 x8 wc => ∃ (BA : Nat) (za za2 : Option Addr) (zl zc zl2 zc2 : Nat), x7 = .pointer (some ⟨BA, 0, none⟩) ∧ x8 = .int .i64 (doC n d.case kd tr).2 ∧ ResC wc BA za zl zc za2 zl2 zc2 ∧ CaseV wc (.agg #[.slice za zl zc, .slice za2 zl2 zc2]) ⟨(doC n d.case kd tr).1.mark, (doC n d.case kd tr).1.busy⟩ ∧ SlFrom w.heap.size (.slice za zl zc) ∧ SlFrom w.heap.size (.slice za2 zl2 zc2) ∧ Below w.heap.size w wc)
  case first =>
    have HS : Hid (∀ w', Below w.heap.size w w' → w'.cell? ⟨Bo, P.off, none⟩ = some (.slice ma ml mc) ∧ w'.cell? ⟨Bo, P.off + 1, none⟩ = some (.slice ba bl bc) ∧ w'.cell? ⟨Bo, P.off + 3, none⟩ = some (.int .i64 n.places) ∧ w'.cell? ⟨Bo, P.off + 4, none⟩ = some (tv)) := fun w' hb => by
      obtain ⟨q0, q1, q2, q3, q4, q5, q6⟩ := (h.below hb).facts
      exact ⟨q0, q1, q3, q4⟩
    refine wp_region_held_drew (S := (fun w' => w'.cell? ⟨Bo, P.off, none⟩ = some (.slice ma ml mc) ∧ w'.cell? ⟨Bo, P.off + 1, none⟩ = some (.slice ba bl bc) ∧ w'.cell? ⟨Bo, P.off + 3, none⟩ = some (.int .i64 n.places) ∧ w'.cell? ⟨Bo, P.off + 4, none⟩ = some (tv))) (by kernel_rfl) (HS.out _ (Below.refl _ _).drew) (fun hH => ?_)
    have b : Below w.heap.size w w.drew := (Below.refl _ _).drew
    obtain ⟨v0, Hv0⟩ : ∃ v0, Hid (w.drew = v0) := ⟨_, rfl⟩
    rw [Hv0.out] at hH b ⊢
    clear Hv0
    refine wpAnyH_take (i := 0) (v := .pointer (some ⟨Bo, P.off, none⟩)) rfl (by kernel_rfl) (by kernel_rfl) (by kernel_rfl) (fun _ _ _ h => h) (.inl ⟨by rfl, fun _ _ => rfl⟩) hH ?_
    simp only [List.getElem_toArray, List.getElem_cons_succ, List.getElem_cons_zero, Act.put, List.setIfInBounds_toArray, List.set_cons_zero, List.set_cons_succ]
    refine wpAnyH_take (i := 1) (v := .pointer (some ⟨Bo, P.off, none⟩)) rfl (by kernel_rfl) (by kernel_rfl) (by kernel_rfl) (fun _ _ _ h => h) (.inl ⟨by rfl, fun w' hS' => by first | (go_simp; done) | (go_simp; rfl) | (go_simp; intro h; omega) | (go_simp; omega)⟩) hH ?_
    simp only [List.getElem_toArray, List.getElem_cons_succ, List.getElem_cons_zero, Act.put, List.setIfInBounds_toArray, List.set_cons_zero, List.set_cons_succ]
    refine wpAnyH_take (i := 2) (v := .pointer (some ⟨Bo, P.off + 3, none⟩)) rfl (by kernel_rfl) (by kernel_rfl) (by kernel_rfl) (fun _ _ _ h => h) (.inl ⟨by rfl, fun w' hS' => by first | (go_simp; done) | (go_simp; rfl) | (go_simp; intro h; omega) | (go_simp; omega)⟩) hH ?_
    simp only [List.getElem_toArray, List.getElem_cons_succ, List.getElem_cons_zero, Act.put, List.setIfInBounds_toArray, List.set_cons_zero, List.set_cons_succ]
    refine wpAnyH_take (i := 3) (v := .agg #[.int .i64 n.places, tv]) rfl (by kernel_rfl) (by kernel_rfl) (by kernel_rfl) (fun _ _ _ h => h) (.inl ⟨by rfl, fun w' hS' => by obtain ⟨s0, s1, s3, s4⟩ := hS'; go_simp⟩) hH ?_
    simp only [List.getElem_toArray, List.getElem_cons_succ, List.getElem_cons_zero, Act.put, List.setIfInBounds_toArray, List.set_cons_zero, List.set_cons_succ]
    refine wpAnyH_take (i := 4) (v := .pointer (some ⟨Bo, P.off, none⟩)) rfl (by kernel_rfl) (by kernel_rfl) (by kernel_rfl) (fun _ _ _ h => h) (.inl ⟨by rfl, fun _ _ => rfl⟩) hH ?_
    simp only [List.getElem_toArray, List.getElem_cons_succ, List.getElem_cons_zero, Act.put, List.setIfInBounds_toArray, List.set_cons_zero, List.set_cons_succ]
    refine wpAnyH_take (i := 5) (v := .pointer (some ⟨Bo, P.off, none⟩)) rfl (by kernel_rfl) (by kernel_rfl) (by kernel_rfl) (fun _ _ _ h => h) (.inl ⟨by rfl, fun w' hS' => by first | (go_simp; done) | (go_simp; rfl) | (go_simp; intro h; omega) | (go_simp; omega)⟩) hH ?_
    simp only [List.getElem_toArray, List.getElem_cons_succ, List.getElem_cons_zero, Act.put, List.setIfInBounds_toArray, List.set_cons_zero, List.set_cons_succ]
    refine wpAnyH_take (i := 6) (v := .pointer (some ⟨Bo, P.off, none⟩)) rfl (by kernel_rfl) (by kernel_rfl) (by kernel_rfl) (fun _ _ _ h => h) (.inl ⟨by rfl, fun w' hS' => by first | (go_simp; done) | (go_simp; rfl) | (go_simp; intro h; omega) | (go_simp; omega)⟩) hH ?_
    simp only [List.getElem_toArray, List.getElem_cons_succ, List.getElem_cons_zero, Act.put, List.setIfInBounds_toArray, List.set_cons_zero, List.set_cons_succ]
    refine wpAnyH_take (i := 7) (v := .pointer (some ⟨Bo, P.off, none⟩)) rfl (by kernel_rfl) (by kernel_rfl) (by kernel_rfl) (fun _ _ _ h => h) (.inl ⟨by rfl, fun w' hS' => by first | (go_simp; done) | (go_simp; rfl) | (go_simp; intro h; omega) | (go_simp; omega)⟩) hH ?_
    simp only [List.getElem_toArray, List.getElem_cons_succ, List.getElem_cons_zero, Act.put, List.setIfInBounds_toArray, List.set_cons_zero, List.set_cons_succ]
    refine wpAnyH_take (i := 8) (v := .agg #[.slice ma ml mc, .slice ba bl bc]) rfl (by kernel_rfl) (by kernel_rfl) (by kernel_rfl) (fun _ _ _ h => h) (.inl ⟨by rfl, fun w' hS' => by obtain ⟨s0, s1, s3, s4⟩ := hS'; go_simp⟩) hH ?_
    simp only [List.getElem_toArray, List.getElem_cons_succ, List.getElem_cons_zero, Act.put, List.setIfInBounds_toArray, List.set_cons_zero, List.set_cons_succ]
    refine wpAnyH_take (i := 9) (v := .int .i64 kd) rfl (by kernel_rfl) (by kernel_rfl) (by kernel_rfl) (fun _ _ _ h => h) (.inl ⟨by rfl, fun _ _ => rfl⟩) hH ?_
    simp only [List.getElem_toArray, List.getElem_cons_succ, List.getElem_cons_zero, Act.put, List.setIfInBounds_toArray, List.set_cons_zero, List.set_cons_succ]
    refine wpAnyH_take (i := 10) (v := .int .i64 tr) rfl (by kernel_rfl) (by kernel_rfl) (by kernel_rfl) (fun _ _ _ h => h) (.inl ⟨by rfl, fun _ _ => rfl⟩) hH ?_
    simp only [List.getElem_toArray, List.getElem_cons_succ, List.getElem_cons_zero, Act.put, List.setIfInBounds_toArray, List.set_cons_zero, List.set_cons_succ]
    refine wpAnyH_take (i := 11) (v := .agg #[.int .i64 kd, .int .i64 tr]) rfl (by kernel_rfl) (by kernel_rfl) (by kernel_rfl) (fun _ _ _ h => h) (.inl ⟨by rfl, fun w' hS' => by first | (go_simp; done) | (go_simp; rfl) | (go_simp; intro h; omega) | (go_simp; omega)⟩) hH ?_
    simp only [List.getElem_toArray, List.getElem_cons_succ, List.getElem_cons_zero, Act.put, List.setIfInBounds_toArray, List.set_cons_zero, List.set_cons_succ]
    refine wpAnyH_ready (rs := [12, 16]) (by kernel_rfl) (by simp) ?_
    refine (AllReadyH.cons rfl (fun K hK => ?_) (AllReadyH.cons rfl (fun K hK => ?_) AllReadyH.nil))
    · simp only [List.getElem_toArray, List.getElem_cons_succ, List.getElem_cons_zero]
      rw [if_pos (by rfl)]
      go_wp2_with fail
      refine (cases_do_own _ _ n d.case kd tr v0 (by exact (h.below b).net) (by exact ⟨_, _, _, _, _, _, rfl, (h.below b).mark, (h.below b).busy⟩)).mono ?_
      rintro e v1 ⟨r, rfl, hC, hCF, bs⟩
      obtain ⟨za, zl, zc, za2, zl2, zc2, rfl, hZ, hZ2⟩ := hC
      obtain ⟨hf1, hf2⟩ := (hCF.mono b.size).parts
      replace b := below_then b bs
      refine hK.out _ _ (HS.out _ b) (fun hH => ?_)
      clear hK bs
      refine wpAnyH_take (i := 13) (v := .tuple #[.agg #[.slice za zl zc, .slice za2 zl2 zc2], .int .i64 (doC n d.case kd tr).2]) rfl (by kernel_rfl) (by kernel_rfl) (by kernel_rfl) (fun _ _ _ h => h) (.inl ⟨by rfl, fun _ _ => rfl⟩) hH ?_
      simp only [List.getElem_toArray, List.getElem_cons_succ, List.getElem_cons_zero, Act.put, List.setIfInBounds_toArray, List.set_cons_zero, List.set_cons_succ]
      refine wpAnyH_take (i := 14) (v := .agg #[.slice za zl zc, .slice za2 zl2 zc2]) rfl (by kernel_rfl) (by kernel_rfl) (by kernel_rfl) (fun _ _ _ h => h) (.inl ⟨by rfl, fun w' hS' => by first | (go_simp; done) | (go_simp; rfl) | (go_simp; intro h; omega) | (go_simp; omega)⟩) hH ?_
      simp only [List.getElem_toArray, List.getElem_cons_succ, List.getElem_cons_zero, Act.put, List.setIfInBounds_toArray, List.set_cons_zero, List.set_cons_succ]
      refine wpAnyH_take (i := 15) (v := .int .i64 (doC n d.case kd tr).2) rfl (by kernel_rfl) (by kernel_rfl) (by kernel_rfl) (fun _ _ _ h => h) (.inl ⟨by rfl, fun w' hS' => by first | (go_simp; done) | (go_simp; rfl) | (go_simp; intro h; omega) | (go_simp; omega)⟩) hH ?_
      simp only [List.getElem_toArray, List.getElem_cons_succ, List.getElem_cons_zero, Act.put, List.setIfInBounds_toArray, List.set_cons_zero, List.set_cons_succ]
      have bs := below_new v1 (.cells #[.slice none 0 0, .slice none 0 0] 29)
      have hR := resC_new v1
      obtain ⟨BA, HBA⟩ : ∃ B, Hid (v1.heap.size = B) := ⟨_, rfl⟩
      have hBA : w.heap.size ≤ BA := by rw [← HBA.out]; exact b.size
      obtain ⟨v2, Hv2⟩ : ∃ v, Hid (v1.alloc (.cells #[.slice none 0 0, .slice none 0 0] 29) = v) := ⟨_, rfl⟩
      rw [Hv2.out] at bs hR
      rw [HBA.out] at hR
      replace hZ := hZ.below bs
      replace hZ2 := hZ2.below bs
      refine wpAnyH_ready (rs := [16]) (by kernel_rfl) (by simp) ?_
      refine AllReadyH.cons rfl (fun K hK => ?_) AllReadyH.nil
      simp only [List.getElem_toArray, List.getElem_cons_succ, List.getElem_cons_zero]
      rw [if_pos (by rfl)]
      go_wp2_with fail
      rw [Hv2.out, HBA.out]
      replace b := below_then b bs
      refine hK.out _ _ (HS.out _ b) (fun hH => ?_)
      clear hK bs
      obtain ⟨q1, q2, q3, q4, q5⟩ := hR.facts
      obtain ⟨W2, HW2⟩ : ∃ W2, Hid ((v2.setCell ⟨BA, 0, none⟩ (.slice za zl zc)).setCell ⟨BA, 1, none⟩ (.slice za2 zl2 zc2) = W2) := ⟨_, rfl⟩
      obtain ⟨z1, z2, z3, z4⟩ := hR.fill b hBA HW2.out hZ hZ2
      have hR2 := hR.put2 HW2.out
      refine wpAnyH_ready (rs := [17]) (by kernel_rfl) (by simp) ?_
      refine AllReadyH.cons rfl (fun K hK => ?_) AllReadyH.nil
      simp only [List.getElem_toArray, List.getElem_cons_succ, List.getElem_cons_zero]
      rw [if_pos (by rfl)]
      go_wp2_with fail
      rw [HW2.out]
      refine hK.out _ _ (HS.out _ z4) (fun hH => ?_)
      refine wpAnyH_take (i := 18) (v := .int .i64 (doC n d.case kd tr).2) rfl (by kernel_rfl) (by kernel_rfl) (by kernel_rfl) (fun _ _ _ h => h) (.inl ⟨by rfl, fun _ _ => rfl⟩) hH ?_
      simp only [List.getElem_toArray, List.getElem_cons_succ, List.getElem_cons_zero, Act.put, List.setIfInBounds_toArray, List.set_cons_zero, List.set_cons_succ]
      refine wpAnyH_done (by kernel_rfl) ?_ _
      go_wp2_with fail
      go_meet
      exact ⟨BA, za, za2, zl, zc, zl2, zc2, rfl, rfl, hR2, z3, hf1, hf2, z4⟩
    · simp only [List.getElem_toArray, List.getElem_cons_succ, List.getElem_cons_zero]
      rw [if_pos (by rfl)]
      have bs := below_new v0 (.cells #[.slice none 0 0, .slice none 0 0] 29)
      have hR := resC_new v0
      obtain ⟨BA, HBA⟩ : ∃ B, Hid (v0.heap.size = B) := ⟨_, rfl⟩
      have hBA : w.heap.size ≤ BA := by rw [← HBA.out]; exact b.size
      obtain ⟨v1, Hv1⟩ : ∃ v, Hid (v0.alloc (.cells #[.slice none 0 0, .slice none 0 0] 29) = v) := ⟨_, rfl⟩
      rw [Hv1.out] at bs hR
      rw [HBA.out] at hR
      go_wp2_with fail
      rw [Hv1.out, HBA.out]
      replace b := below_then b bs
      refine hK.out _ _ (HS.out _ b) (fun hH => ?_)
      clear hK bs
      refine wpAnyH_ready (rs := [12]) (by kernel_rfl) (by simp) ?_
      refine AllReadyH.cons rfl (fun K hK => ?_) AllReadyH.nil
      simp only [List.getElem_toArray, List.getElem_cons_succ, List.getElem_cons_zero]
      rw [if_pos (by rfl)]
      go_wp2_with fail
      refine (cases_do_own _ _ n d.case kd tr v1 (by exact (h.below b).net) (by exact ⟨_, _, _, _, _, _, rfl, (h.below b).mark, (h.below b).busy⟩)).mono ?_
      rintro e v2 ⟨r, rfl, hC, hCF, bs⟩
      obtain ⟨za, zl, zc, za2, zl2, zc2, rfl, hZ, hZ2⟩ := hC
      obtain ⟨hf1, hf2⟩ := (hCF.mono b.size).parts
      replace hR := hR.below bs
      replace b := below_then b bs
      refine hK.out _ _ (HS.out _ b) (fun hH => ?_)
      clear hK bs
      refine wpAnyH_take (i := 13) (v := .tuple #[.agg #[.slice za zl zc, .slice za2 zl2 zc2], .int .i64 (doC n d.case kd tr).2]) rfl (by kernel_rfl) (by kernel_rfl) (by kernel_rfl) (fun _ _ _ h => h) (.inl ⟨by rfl, fun _ _ => rfl⟩) hH ?_
      simp only [List.getElem_toArray, List.getElem_cons_succ, List.getElem_cons_zero, Act.put, List.setIfInBounds_toArray, List.set_cons_zero, List.set_cons_succ]
      refine wpAnyH_take (i := 14) (v := .agg #[.slice za zl zc, .slice za2 zl2 zc2]) rfl (by kernel_rfl) (by kernel_rfl) (by kernel_rfl) (fun _ _ _ h => h) (.inl ⟨by rfl, fun w' hS' => by first | (go_simp; done) | (go_simp; rfl) | (go_simp; intro h; omega) | (go_simp; omega)⟩) hH ?_
      simp only [List.getElem_toArray, List.getElem_cons_succ, List.getElem_cons_zero, Act.put, List.setIfInBounds_toArray, List.set_cons_zero, List.set_cons_succ]
      refine wpAnyH_take (i := 15) (v := .int .i64 (doC n d.case kd tr).2) rfl (by kernel_rfl) (by kernel_rfl) (by kernel_rfl) (fun _ _ _ h => h) (.inl ⟨by rfl, fun w' hS' => by first | (go_simp; done) | (go_simp; rfl) | (go_simp; intro h; omega) | (go_simp; omega)⟩) hH ?_
      simp only [List.getElem_toArray, List.getElem_cons_succ, List.getElem_cons_zero, Act.put, List.setIfInBounds_toArray, List.set_cons_zero, List.set_cons_succ]
      obtain ⟨q1, q2, q3, q4, q5⟩ := hR.facts
      obtain ⟨W2, HW2⟩ : ∃ W2, Hid ((v2.setCell ⟨BA, 0, none⟩ (.slice za zl zc)).setCell ⟨BA, 1, none⟩ (.slice za2 zl2 zc2) = W2) := ⟨_, rfl⟩
      obtain ⟨z1, z2, z3, z4⟩ := hR.fill b hBA HW2.out hZ hZ2
      have hR2 := hR.put2 HW2.out
      refine wpAnyH_ready (rs := [17]) (by kernel_rfl) (by simp) ?_
      refine AllReadyH.cons rfl (fun K hK => ?_) AllReadyH.nil
      simp only [List.getElem_toArray, List.getElem_cons_succ, List.getElem_cons_zero]
      rw [if_pos (by rfl)]
      go_wp2_with fail
      rw [HW2.out]
      refine hK.out _ _ (HS.out _ z4) (fun hH => ?_)
      refine wpAnyH_take (i := 18) (v := .int .i64 (doC n d.case kd tr).2) rfl (by kernel_rfl) (by kernel_rfl) (by kernel_rfl) (fun _ _ _ h => h) (.inl ⟨by rfl, fun _ _ => rfl⟩) hH ?_
      simp only [List.getElem_toArray, List.getElem_cons_succ, List.getElem_cons_zero, Act.put, List.setIfInBounds_toArray, List.set_cons_zero, List.set_cons_succ]
      refine wpAnyH_done (by kernel_rfl) ?_ _
      go_wp2_with fail
      go_meet
      exact ⟨BA, za, za2, zl, zc, zl2, zc2, rfl, rfl, hR2, z3, hf1, hf2, z4⟩
  case rest =>
    obtain ⟨BA, za, za2, zl, zc, zl2, zc2, rfl, rfl, hR, hC, hf1, hf2, b⟩ := hcut
    obtain ⟨w1, rfl⟩ : ∃ w1, w1 = wc := ⟨_, rfl⟩
    obtain ⟨hZ, hZ2⟩ := hC.parts
    clear hC
    have h1 := h.below b
    obtain ⟨c', Hc⟩ : ∃ c', Hid ((doC n d.case kd tr).1 = c') := ⟨_, rfl⟩
    obtain ⟨E, HE⟩ : ∃ E, Hid ((doC n d.case kd tr).2 = E) := ⟨_, rfl⟩
    have Hw : Hid (workD n d kd tr = if E = 0 then ⟨c', d.items⟩ else d) := by show _ = _; unfold workD; rw [HE.out, Hc.out]
    replace hZ : Ints w1 (.slice za zl zc) c'.mark := by rw [← Hc.out]; exact hZ
    replace hZ2 : Ints w1 (.slice za2 zl2 zc2) c'.busy := by rw [← Hc.out]; exact hZ2
    rw [HE.out]
    have oM : ∀ g, iv.ownBlock = some g → SlOff g (.slice za zl zc) := fun g e => hf1.off (h.row.lt g e).2
    have oB : ∀ g, iv.ownBlock = some g → SlOff g (.slice za2 zl2 zc2) := fun g e => hf2.off (h.row.lt g e).2
    have HG : Hid (∀ g, iv.ownBlock = some g → w1.heap[g]? = w.heap[g]?) := fun g e => b.block g (h.row.lt g e).2
    have HNe : Hid (iv.ownBlock ≠ some Bo) := h.ne
    have K1 : KeepO Bo iv w w1 := KeepO.of b
    obtain ⟨q1, q2, _, _, _⟩ := hR.facts
    by_cases hE : E = 0
    · subst hE
      rw [if_pos rfl] at Hw
      obtain ⟨f0, f1, f2, f3, f4, f5, f6⟩ := h1.facts
      have z0 := f6 P.off
      have z1 := f6 (P.off + 1)
      obtain ⟨W2, HW2⟩ : ∃ W2, Hid ((w1.setCell ⟨Bo, P.off, none⟩ (.slice za zl zc)).setCell ⟨Bo, P.off + 1, none⟩ (.slice za2 zl2 zc2) = W2) := ⟨_, rfl⟩
      have R := h1.setCase hZ hZ2 oM oB HW2.out
      have K2 := (K1.put P.off (.slice za zl zc)).put (P.off + 1) (.slice za2 zl2 zc2)
      have HG2 : Hid (∀ g, iv.ownBlock = some g → W2.heap[g]? = w.heap[g]?) := fun g e => by
        have hne : g ≠ Bo := fun q => HNe.out (by rw [e, q])
        rw [← HW2.out, Below.heap_setCell _ ⟨Bo, P.off + 1, none⟩ _ g hne, Below.heap_setCell _ ⟨Bo, P.off, none⟩ _ g hne]
        exact HG.out g e
      rw [HW2.out] at K2
      clear h h1 hZ hZ2 oM oB f2 f3 f4 f6 K1
      go_wp2
      rw [HW2.out]
      go_ret
      exact ⟨by rw [HE.out]; rfl, by rw [Hw.out]; exact ⟨_, _, _, _, _, _, _, R, fun r hr => ⟨Nat.lt_of_lt_of_le (hfar r hr).1 K2.size, hf1.off (hfar r hr).1, hf2.off (hfar r hr).1⟩⟩, K2, HG2.out⟩
    · rw [if_neg hE] at Hw
      have hE1 : (E == 0) = false := by simpa using hE
      clear h hZ hZ2 oM oB
      go_wp2
      go_ret
      exact ⟨by rw [HE.out]; rfl, by rw [Hw.out]; exact ⟨_, _, _, _, _, _, _, h1, hfar.up K1.size⟩, K1, HG.out⟩

end Go.Proofs.Ytaladbcocealnaa

/- Package desk as it landed: what is begun. (Made by tools/spot.py.) -/
namespace Go.Proofs.Ytaladbcocealnaa
open Go.RowKit
set_option linter.unusedVariables false
set_option linter.unusedSimpArgs false
set_option maxRecDepth 4000

theorem info_item : (Try.prog.info? 78).map (fun i => (i.zero, i.size, i.bytes)) = some (some (.agg #[.int .i64 0, .int .i64 0, .bool false]), 3, 24) := by kernel_rfl
theorem wpr_append_item {o : Oper} {a : Act} {K : Act → World → Prop} {Q : Exit → Act → World → Prop} {Y : Nat → Option Bool} (hwt : Region.wanted o Y = true) (s x : Operand)
    (ho : o.op = .call { callee := .builtin .append, args := #[s, x], argTypes := #[30, 30] }) (B : Nat) (wr : World) (v : Value) (l : List ItemL) (y : ItemL) (b : Nat)
    (hown : wr.ownsRow B 78 3 v l.length (itemCells l)) (hs : a.eval s = v) (hx : a.eval x = .slice (some ⟨b, 0, none⟩) 1 1) (hc : ∀ j u, (itC y)[j]? = some u → wr.cell? ⟨b, 0 + j, none⟩ = some u)
    (hl : l.length + 1 ≤ 5864062014805) (hB : B ≤ wr.heap.size)
    (h : ∀ v' w', w'.ownsRow B 78 3 v' (l ++ [y]).length (itemCells (l ++ [y])) → wr.grownBy w' v.ownBlock → (v'.ownBlock = v.ownBlock ∨ v'.ownBlock = some wr.heap.size) → K (a.put o.dst v') w') :
    if Region.wanted o Y = true then Oper.wp Try.prog o a wr K Q else K (a.put o.dst undef) wr := by
  obtain ⟨i0, hi, hz0, hz1, hz2⟩ := info_parts info_item
  refine wp_append_at _ hwt s x 30 ho B 78 i0 _ 3 24 Try.underlying30 hi hz0 hz1 hz2 rfl (by decide) v l.length _ hs hown ⟨b, 0, none⟩ 1 1 (itC y) hx rfl ?_ ?_ ?_ ?_ hB ?_
  · intro j u hj
    rw [addr_add]
    exact hc j u hj
  · intro u hu
    simp only [itC, List.mem_cons, List.not_mem_nil, or_false] at hu
    rcases hu with rfl | rfl | rfl <;> rfl
  · unfold maxLen; omega
  · omega
  · intro v' w' h2 h3 h4
    refine h v' w' ?_ h3 h4
    rw [itemCells_append, List.length_append]
    have : itemCells [y] = itC y := by simp [itemCells]
    rw [this]
    exact h2

theorem Ints.keep {w w' : World} {v ov : Value} {xs : List Int} (h : Ints w v xs) (hs : w.heap.size ≤ w'.heap.size) (hk : ∀ k, k < w.heap.size → ov.ownBlock ≠ some k → w'.heap[k]? = w.heap[k]?) (hf : ∀ g, ov.ownBlock = some g → SlOff g v) : Ints w' v xs := by
  obtain ⟨a, len, cap, rfl, hl, hm, hs', hr⟩ := h
  refine ⟨a, len, cap, rfl, hl, hm, hs', fun j hj => ?_⟩
  obtain ⟨b, off, ha, hlt, hc⟩ := hr j hj
  exact ⟨b, off, ha, Nat.lt_of_lt_of_le hlt hs, by rw [cell_kept (p := ⟨b, off + j, none⟩) (hk b hlt (fun e => hf b e b off len cap (by rw [ha]) (by omega) rfl))]; exact hc⟩

section
variable {w W wC : World} {Bo B : Nat} {P : Spot} {n : NetL} {roles : List (List Int)} {d : DeskL} {ma ba : Option Addr} {ml mc bl bc : Nat} {iv tv : Value}
/-- What an append onto the items leaves. -/
structure AfterO (Bo : Nat) (P : Spot) (iv : Value) (wC : World) : Prop where
  cell : wC.cell? ⟨Bo, P.off + 2, none⟩ = some iv
  frozen : wC.frozen? ⟨Bo, P.off + 2, none⟩ = false
theorem OffRec.after (h : OffRec w Bo P B n roles d ma ba ml mc bl bc iv tv) (hb : Below w.heap.size w W) (hg : W.grownBy wC iv.ownBlock) : AfterO Bo P iv wC := by
  have g := h.below hb
  have e : wC.heap[Bo]? = W.heap[Bo]? := hg.block Bo g.cells.lt fun e => g.ne e.symm
  exact ⟨(World.cell?_of_block (a := ⟨Bo, P.off + 2, none⟩) e).trans g.facts.2.2.1, (World.frozen?_of_block (a := ⟨Bo, P.off + 2, none⟩) e).trans (g.facts.2.2.2.2.2.2 (P.off + 2))⟩
theorem OffRec.add (h : OffRec w Bo P B n roles d ma ba ml mc bl bc iv tv) (hb : Below w.heap.size w W) {v' : Value} {x : ItemL} (hown : wC.ownsRow B 78 3 v' (d.items ++ [x]).length (itemCells (d.items ++ [x]))) (hg : W.grownBy wC iv.ownBlock)
    (hat : v'.ownBlock = iv.ownBlock ∨ v'.ownBlock = some W.heap.size) : OffRec (wC.setCell ⟨Bo, P.off + 2, none⟩ v') Bo P B n roles ⟨d.case, d.items ++ [x]⟩ ma ba ml mc bl bc v' tv := by
  have g := h.below hb
  have hlo := h.lo
  have hk : ∀ k, k < W.heap.size → iv.ownBlock ≠ some k → wC.heap[k]? = W.heap[k]? := fun k hk hne => hg.block k hk (fun e => hne e.symm)
  have hC : CellsAt wC Bo _ _ := (hk Bo g.cells.lt g.ne).trans g.cells
  obtain ⟨ia, il, ic, hiv⟩ := ownsRow_slice h.row
  have c2 := (h.after hb hg).cell
  rw [hiv] at c2
  have hnB : v'.ownBlock ≠ some Bo := fun e => by have := (hown.lt Bo e).1; omega
  have hsz := hb.size
  refine ⟨?_, (g.mark.keep hg.size hk h.offM).putS c2 _, (g.busy.keep hg.size hk h.offB).putS c2 _, ?_, ownsRow_aside hown (p := ⟨Bo, P.off + 2, none⟩) hnB _, ?_, ?_, hlo⟩
  · have := hC.put (P.off + 2) v'
    rw [P.set2] at this
    exact this
  · exact (g.trans.grown hg (fun k hlt hD e => by have := (g.row.lt k e.symm).1; have hD : k < Bo := hD; omega)).set (a := ⟨Bo, P.off + 2, none⟩) (by show ¬ Bo < Bo; omega) _
  · intro g' e
    rcases hat with q | q
    · exact h.offM g' (by rw [← q]; exact e)
    · rw [q] at e; injection e with e; exact g.mark.offHigh (by omega)
  · intro g' e
    rcases hat with q | q
    · exact h.offB g' (by rw [← q]; exact e)
    · rw [q] at e; injection e with e; exact g.busy.offHigh (by omega)
end
theorem KeepO.grow {Bo : Nat} {P : Spot} {iv v' : Value} {w W wC : World} (hb : Below w.heap.size w W) (hg : W.grownBy wC iv.ownBlock) : KeepO Bo iv w (wC.setCell ⟨Bo, P.off + 2, none⟩ v') := by
  refine KeepO.put ⟨(hb.mono (Nat.zero_le _)).grown hg (Nat.zero_le _) (fun k _ => Nat.zero_le _), fun k hk h1 h2 => ?_⟩ (P.off + 2) v'
  rw [hg.block k (Nat.lt_of_lt_of_le hk hb.size) (fun e => h2 e.symm)]
  exact hb.block k hk

/-- What a thing done at an office comes to. -/
def OffAns (w : World) (Bo : Nat) (P : Spot) (B : Nat) (n : NetL) (roles : List (List Int)) (iv : Value) (Far : Nat → Prop) (p : DeskL × DAns) (w' : World) : Prop :=
  ∃ iv', Office w' Bo P B n roles p.1 iv' Far ∧ KeepO Bo iv w w' ∧ (iv'.ownBlock = iv.ownBlock ∨ ∃ g, iv'.ownBlock = some g ∧ w.heap.size ≤ g)

theorem do_begin1 {n : NetL} {roles : List (List Int)} {d : DeskL} {o : DOp} (h1 : o.kind = 1) (ht : o.tran < 0 ∨ (n.trans.length : Int) ≤ o.tran) : deskDo n roles d o = (d, ⟨3, 0⟩) := by
  have e : deskErr n roles d o = 3 := by unfold deskErr; rw [if_neg (by omega), if_neg (by omega), if_pos h1, if_pos ht]
  unfold deskDo; rw [e, if_pos (by decide)]
theorem do_begin6 {n : NetL} {roles : List (List Int)} {d : DeskL} {o : DOp} (h1 : o.kind = 1) {k : Nat} (ht : o.tran = (k : Int)) (hk : k < n.trans.length) (hm : mayL roles o.user (tranAt n.trans k).label = false) : deskDo n roles d o = (d, ⟨6, 0⟩) := by
  have e : deskErr n roles d o = 6 := by unfold deskErr; rw [if_neg (by omega), if_neg (by omega), if_pos h1, if_neg (by omega), ht, Int.toNat_natCast, hm]; rfl
  unfold deskDo; rw [e, if_pos (by decide)]
theorem do_begin0 {n : NetL} {roles : List (List Int)} {d : DeskL} {o : DOp} (h1 : o.kind = 1) {k : Nat} (ht : o.tran = (k : Int)) (hk : k < n.trans.length) (hm : mayL roles o.user (tranAt n.trans k).label = true) :
    deskDo n roles d o = if (doC n d.case 2 k).2 = 0 then (⟨(doC n d.case 2 k).1, d.items ++ [⟨o.user, (k : Int), true⟩]⟩, ⟨0, d.items.length⟩) else (d, ⟨(doC n d.case 2 k).2, 0⟩) := by
  have e : deskErr n roles d o = 0 := by unfold deskErr; rw [if_neg (by omega), if_neg (by omega), if_pos h1, if_neg (by omega), ht, Int.toNat_natCast, hm]; rfl
  have ec : caseOp d o = (2, (k : Int)) := by unfold caseOp; rw [if_pos h1, ht]
  unfold deskDo
  rw [e, if_neg (by decide), if_neg (by omega), ec]
  by_cases hz : (doC n d.case 2 k).2 = 0
  · rw [if_neg (fun q => q hz), if_pos hz]
    unfold newItems toldItem
    rw [if_pos h1, if_pos h1, ht]
  · rw [if_pos hz, if_neg hz]

set_option maxHeartbeats 8000000 in
theorem begin_any {Bo B : Nat} {P : Spot} {n : NetL} {roles : List (List Int)} {d : DeskL} {iv : Value} {Far : Nat → Prop} (o : DOp) (w : World) (h : Office w Bo P B n roles d iv Far) (hn : netOk n = true) (hkd : o.kind = 1) (hB : B ≤ w.heap.size) (hl : d.items.length + 1 ≤ 5864062014805) :
    Calls Try.prog 55 #[.pointer (some ⟨Bo, P.off, none⟩), dopV o] w fun e w' => e = .returned (.tuple #[.int .i64 (deskDo n roles d o).2.item, .int .i64 (deskDo n roles d o).2.err]) ∧ OffAns w Bo P B n roles iv Far (deskDo n roles d o) w' := by
  obtain ⟨ma, ba, ml, mc, bl, bc, tv, h, hfar⟩ := h
  obtain ⟨kd, us, tr, it, hd⟩ := o
  have hkd : kd = 1 := hkd
  subst hkd
  have c0 := below_new w (.cells (dopArr ⟨1, us, tr, it, hd⟩) 45)
  have hop := cellsAt_new w (dopArr ⟨1, us, tr, it, hd⟩) 45
  obtain ⟨w0, Hw0⟩ : ∃ v, Hid (w.alloc (.cells #[.int .i64 1, .int .i64 us, .int .i64 tr, .int .i64 it, .int .i64 hd] 45) = v) := ⟨_, rfl⟩
  have hw0 : w.alloc (.cells (dopArr ⟨1, us, tr, it, hd⟩) 45) = w0 := Hw0.out
  rw [hw0] at c0 hop
  have h0 := h.below c0
  have HNop : Hid (iv.ownBlock ≠ some w.heap.size) := fun e => by have := (h.row.lt _ e).2; omega
  have o1 : w0.cell? ⟨w.heap.size, 1, none⟩ = some (.int .i64 us) := hop.cell 1
  have o2 : w0.cell? ⟨w.heap.size, 2, none⟩ = some (.int .i64 tr) := hop.cell 2
  obtain ⟨q0, q1, q2, q3, q4, q5, q6⟩ := h0.facts
  obtain ⟨ta, len, tc, rfl, hlen, hmx, _⟩ := id h0.trans.now
  have HL : Hid (n.trans.length = len) := hlen
  have Hn : Hid (netOk n = true) := hn
  have HB : Hid (B ≤ w.heap.size) := hB
  clear hlen hn hB hw0 q0 q1 q2 q3 q6
  show Calls _ _ #[_, .agg #[.int .i64 1, .int .i64 us, .int .i64 tr, .int .i64 it, .int .i64 hd]] _ _
  go_enter Try.func55, Try.ntmps55
  go_upto_region 1 with fail
  rw [Hw0.out]
  clear Hw0
  by_cases ht : 0 ≤ tr ∧ tr < (len : Int)
  · obtain ⟨k, rfl⟩ := Int.eq_ofNat_of_zero_le ht.1
    have hk : k < len := by omega
    have HK : Hid (k < n.trans.length) := by show _ < _; rw [HL.out]; exact hk
    have t1 : decide ((k : Int) < 0) = false := decide_eq_false (by omega)
    have t2 : decide ((len : Int) ≤ (k : Int)) = false := decide_eq_false (by omega)
    have t3 : ¬ len ≤ k := by omega
    clear ht
    go_quiet (fail)
    have b := below_drewN (Below.refl w0.heap.size w0) nq
    obtain ⟨w1, H1⟩ : ∃ v, Hid (w0.drewN nq = v) := ⟨_, rfl⟩
    rw [H1.out] at b ⊢
    clear H1 o1 o2 q4 q5
    replace c0 := below_then c0 b
    have hr1 := h0.below b
    replace hop := hop.below b
    clear b h0
    have o1 : w1.cell? ⟨w.heap.size, 1, none⟩ = some (.int .i64 us) := hop.cell 1
    have o2 : w1.cell? ⟨w.heap.size, 2, none⟩ = some (.int .i64 (k : Int)) := hop.cell 2
    go_wp2_with fail
    refine (allowed_any us k w1 hr1 Hn.out HK.out).mono ?_
    rintro e w2 ⟨rfl, hd2⟩
    have b := below_of_drewN hd2
    clear hd2 o1 o2
    replace c0 := below_then c0 b
    have h2 := hr1.below b
    replace hop := hop.below b
    clear b hr1
    have o2 : w2.cell? ⟨w.heap.size, 2, none⟩ = some (.int .i64 (k : Int)) := hop.cell 2
    cases hm : mayL roles us (tranAt n.trans k).label with
    | false =>
      have E : Hid (deskDo n roles d ⟨1, us, (k : Int), it, hd⟩ = (d, ⟨6, 0⟩)) := do_begin6 rfl rfl HK.out hm
      go_wp2
      go_ret2
      rw [E.out]
      exact ⟨rfl, iv, ⟨_, _, _, _, _, _, _, h2, hfar.up c0.size⟩, KeepO.of c0, .inl rfl⟩
    | true =>
      have E0 : Hid _ := do_begin0 (d := d) (o := ⟨1, us, (k : Int), it, hd⟩) rfl rfl HK.out hm
      go_wp2_with fail
      refine (work_any (Far := Far) 2 (k : Int) w2 h2 (hfar.up c0.size)).mono ?_
      rintro e w3 ⟨rfl, hOf, K3, hg3⟩
      clear o2 hm
      obtain ⟨E, HE⟩ : ∃ E, Hid ((doC n d.case 2 k).2 = E) := ⟨_, rfl⟩
      have Hwd : Hid (workD n d 2 k = if E = 0 then ⟨(doC n d.case 2 k).1, d.items⟩ else d) := by show _ = _; unfold workD; rw [HE.out]
      rw [HE.out] at E0 ⊢
      have KO := (KeepO.of (Bo := Bo) (iv := iv) c0).then K3
      have hopn : w.heap.size ≠ Bo := fun e => by have := h.cells.lt; omega
      replace hop : CellsAt w3 w.heap.size (dopArr ⟨1, us, (k : Int), it, hd⟩) 45 := (K3.block _ hop.lt hopn HNop.out).trans hop
      by_cases hE : E = 0
      · subst hE
        rw [if_pos rfl] at E0 Hwd
        rw [Hwd.out] at hOf
        obtain ⟨ma3, ba3, ml3, mc3, bl3, bc3, tv3, h3, hfar3⟩ := hOf
        obtain ⟨ia, il, ic, rfl⟩ := ownsRow_slice h3.row
        have Hlen : Hid (d.items.length + 1 ≤ 5864062014805) := hl
        replace HB : Hid (B ≤ w3.heap.size) := by show _ ≤ _; exact Nat.le_trans HB.out KO.size
        obtain ⟨c', Hc'⟩ : ∃ c', Hid ((doC n d.case 2 k).1 = c') := ⟨_, rfl⟩
        rw [Hc'.out] at h3 E0
        clear h h2 K3 hg3 c0
        go_upto_region 8 with fail
        have HS : Hid (∀ w', Below w3.heap.size w3 w' → w'.cell? ⟨Bo, P.off + 2, none⟩ = some (.slice ia il ic) ∧ w'.cell? ⟨w.heap.size, 1, none⟩ = some (.int .i64 us) ∧ w'.cell? ⟨w.heap.size, 2, none⟩ = some (.int .i64 (k : Int))) := fun w' hb => ⟨(h3.below hb).facts.2.2.1, (hop.below hb).cell 1, (hop.below hb).cell 2⟩
        refine wp_region_Z (S := (fun w' => w'.cell? ⟨Bo, P.off + 2, none⟩ = some (.slice ia il ic) ∧ w'.cell? ⟨w.heap.size, 1, none⟩ = some (.int .i64 us) ∧ w'.cell? ⟨w.heap.size, 2, none⟩ = some (.int .i64 (k : Int)))) (by kernel_rfl) 16 (HS.out _ (Below.refl _ _).drew) (fun hH => ?_)
        have b : Below w3.heap.size w3 w3.drew := (Below.refl _ _).drew
        obtain ⟨v0, Hv0⟩ : ∃ v0, Hid (w3.drew = v0) := ⟨_, rfl⟩
        rw [Hv0.out] at hH b ⊢
        clear Hv0
        refine wpZ_takeP (i := 0) (v := .pointer (some ⟨Bo, P.off, none⟩)) rfl (by kernel_rfl) (by kernel_rfl) (by kernel_rfl) (fun _ _ _ h => h) (.inl ⟨by rfl, fun _ _ => rfl⟩) hH (by decide) ?_
        simp only [List.getElem_toArray, List.getElem_cons_succ, List.getElem_cons_zero, Act.put, List.setIfInBounds_toArray, List.set_cons_zero, List.set_cons_succ]
        refine wpZ_takeP (i := 1) (v := .pointer (some ⟨Bo, P.off, none⟩)) rfl (by kernel_rfl) (by kernel_rfl) (by kernel_rfl) (fun _ _ _ h => h) (.inl ⟨by rfl, fun _ _ => rfl⟩) hH (by decide) ?_
        simp only [List.getElem_toArray, List.getElem_cons_succ, List.getElem_cons_zero, Act.put, List.setIfInBounds_toArray, List.set_cons_zero, List.set_cons_succ]
        refine wpZ_takeP (i := 2) (v := .pointer (some ⟨Bo, P.off, none⟩)) rfl (by kernel_rfl) (by kernel_rfl) (by kernel_rfl) (fun _ _ _ h => h) (.inl ⟨by rfl, fun w' hS' => by first | (go_simp; done) | (go_simp; rfl) | (go_simp; intro h; omega) | (go_simp; omega)⟩) hH (by decide) ?_
        simp only [List.getElem_toArray, List.getElem_cons_succ, List.getElem_cons_zero, Act.put, List.setIfInBounds_toArray, List.set_cons_zero, List.set_cons_succ]
        refine wpZ_takeP (i := 3) (v := .pointer (some ⟨Bo, P.off, none⟩)) rfl (by kernel_rfl) (by kernel_rfl) (by kernel_rfl) (fun _ _ _ h => h) (.inl ⟨by rfl, fun w' hS' => by first | (go_simp; done) | (go_simp; rfl) | (go_simp; intro h; omega) | (go_simp; omega)⟩) hH (by decide) ?_
        simp only [List.getElem_toArray, List.getElem_cons_succ, List.getElem_cons_zero, Act.put, List.setIfInBounds_toArray, List.set_cons_zero, List.set_cons_succ]
        refine wpZ_takeP (i := 4) (v := .pointer (some ⟨Bo, P.off + 2, none⟩)) rfl (by kernel_rfl) (by kernel_rfl) (by kernel_rfl) (fun _ _ _ h => h) (.inl ⟨by rfl, fun w' hS' => by first | (go_simp; done) | (go_simp; rfl) | (go_simp; intro h; omega) | (go_simp; omega)⟩) hH (by decide) ?_
        simp only [List.getElem_toArray, List.getElem_cons_succ, List.getElem_cons_zero, Act.put, List.setIfInBounds_toArray, List.set_cons_zero, List.set_cons_succ]
        refine wpZ_take (i := 5) (v := .slice ia il ic) rfl (by kernel_rfl) (by kernel_rfl) (by kernel_rfl) (fun _ _ _ h => h) (.inl ⟨by rfl, fun w' hS' => by obtain ⟨s0, s1, s2⟩ := hS'; go_simp⟩) hH rfl (by decide) (by kernel_rfl) (by kernel_rfl) ?_
        simp only [List.getElem_toArray, List.getElem_cons_succ, List.getElem_cons_zero, Act.put, List.setIfInBounds_toArray, List.set_cons_zero, List.set_cons_succ]
        refine wpZ_takeP (i := 6) (v := .pointer (some ⟨w.heap.size, 1, none⟩)) rfl (by kernel_rfl) (by kernel_rfl) (by kernel_rfl) (fun _ _ _ h => h) (.inl ⟨by rfl, fun w' hS' => by first | (go_simp; done) | (go_simp; rfl) | (go_simp; intro h; omega) | (go_simp; omega)⟩) hH (by decide) ?_
        simp only [List.getElem_toArray, List.getElem_cons_succ, List.getElem_cons_zero, Act.put, List.setIfInBounds_toArray, List.set_cons_zero, List.set_cons_succ]
        refine wpZ_take (i := 7) (v := .int .i64 us) rfl (by kernel_rfl) (by kernel_rfl) (by kernel_rfl) (fun _ _ _ h => h) (.inl ⟨by rfl, fun w' hS' => by obtain ⟨s0, s1, s2⟩ := hS'; go_simp⟩) hH rfl (by decide) (by kernel_rfl) (by kernel_rfl) ?_
        simp only [List.getElem_toArray, List.getElem_cons_succ, List.getElem_cons_zero, Act.put, List.setIfInBounds_toArray, List.set_cons_zero, List.set_cons_succ]
        refine wpZ_takeP (i := 8) (v := .pointer (some ⟨w.heap.size, 2, none⟩)) rfl (by kernel_rfl) (by kernel_rfl) (by kernel_rfl) (fun _ _ _ h => h) (.inl ⟨by rfl, fun w' hS' => by first | (go_simp; done) | (go_simp; rfl) | (go_simp; intro h; omega) | (go_simp; omega)⟩) hH (by decide) ?_
        simp only [List.getElem_toArray, List.getElem_cons_succ, List.getElem_cons_zero, Act.put, List.setIfInBounds_toArray, List.set_cons_zero, List.set_cons_succ]
        refine wpZ_take (i := 9) (v := .int .i64 (k : Int)) rfl (by kernel_rfl) (by kernel_rfl) (by kernel_rfl) (fun _ _ _ h => h) (.inl ⟨by rfl, fun w' hS' => by obtain ⟨s0, s1, s2⟩ := hS'; go_simp⟩) hH rfl (by decide) (by kernel_rfl) (by kernel_rfl) ?_
        simp only [List.getElem_toArray, List.getElem_cons_succ, List.getElem_cons_zero, Act.put, List.setIfInBounds_toArray, List.set_cons_zero, List.set_cons_succ]
        refine wpZ_takeP (i := 10) (v := .agg #[.int .i64 us, .int .i64 (k : Int), .bool true]) rfl (by kernel_rfl) (by kernel_rfl) (by kernel_rfl) (fun _ _ _ h => h) (.inl ⟨by rfl, fun w' hS' => by first | (go_simp; done) | (go_simp; rfl) | (go_simp; intro h; omega) | (go_simp; omega)⟩) hH (by decide) ?_
        simp only [List.getElem_toArray, List.getElem_cons_succ, List.getElem_cons_zero, Act.put, List.setIfInBounds_toArray, List.set_cons_zero, List.set_cons_succ]
        have bs := below_new v0 (.cells #[.int .i64 us, .int .i64 (k : Int), .bool true] 78)
        obtain ⟨Bb, HBb⟩ : ∃ B, Hid (v0.heap.size = B) := ⟨_, rfl⟩
        have hcell : ∀ j u, (itC ⟨us, (k : Int), true⟩)[j]? = some u → (v0.alloc (.cells #[.int .i64 us, .int .i64 (k : Int), .bool true] 78)).cell? ⟨Bb, 0 + j, none⟩ = some u := fun j u hj => by
          rw [← HBb.out, Nat.zero_add, World.cell?_alloc_at _ _ _ _ rfl]
          simpa [itC] using hj
        obtain ⟨u3, Hu3⟩ : ∃ v, Hid (v0.alloc (.cells #[.int .i64 us, .int .i64 (k : Int), .bool true] 78) = v) := ⟨_, rfl⟩
        rw [Hu3.out] at bs hcell
        refine wpZ_ready (rs := [11]) (by kernel_rfl) (by simp) ?_
        refine AllZ.cons rfl (fun K hK => ?_) AllZ.nil
        simp only [List.getElem_toArray, List.getElem_cons_succ, List.getElem_cons_zero]
        rw [if_pos (by rfl)]
        go_wp2_with fail
        rw [Hu3.out, HBb.out]
        replace b := below_then b bs
        refine hK.out _ _ (HS.out _ b) (fun hH => ?_)
        clear hK
        refine wpZ_ready (rs := [12]) (by kernel_rfl) (by simp) ?_
        refine AllZ.cons rfl (fun K hK => ?_) AllZ.nil
        simp only [List.getElem_toArray, List.getElem_cons_succ, List.getElem_cons_zero]
        refine wpr_append_item (by rfl) _ _ rfl B u3 (.slice ia il ic) d.items ⟨us, (k : Int), true⟩ Bb (h3.below b).row rfl rfl hcell Hlen.out (Nat.le_trans HB.out b.size) ?_
        intro nv u4 hown hg hat
        obtain ⟨na, nl, nc, rfl⟩ := ownsRow_slice hown
        have A := h3.after b hg
        have hHS4 : u4.cell? ⟨Bo, P.off + 2, none⟩ = some (.slice ia il ic) ∧ u4.cell? ⟨w.heap.size, 1, none⟩ = some (.int .i64 us) ∧ u4.cell? ⟨w.heap.size, 2, none⟩ = some (.int .i64 (k : Int)) := by
          refine ⟨A.cell, ?_, ?_⟩
          · rw [World.cell?_of_block (a := ⟨w.heap.size, 1, none⟩) (hg.block w.heap.size (Nat.lt_of_lt_of_le hop.lt b.size) (fun e => HNop.out e.symm))]; exact (HS.out _ b).2.1
          · rw [World.cell?_of_block (a := ⟨w.heap.size, 2, none⟩) (hg.block w.heap.size (Nat.lt_of_lt_of_le hop.lt b.size) (fun e => HNop.out e.symm))]; exact (HS.out _ b).2.2
        have A0 := A.cell
        have A1 := A.frozen
        refine hK.out _ _ hHS4 (fun hH => ?_)
        clear hK
        refine wpZ_takeP (i := 13) (v := .pointer (some ⟨Bo, P.off, none⟩)) rfl (by kernel_rfl) (by kernel_rfl) (by kernel_rfl) (fun _ _ _ h => h) (.inl ⟨by rfl, fun w' hS' => by first | (go_simp; done) | (go_simp; rfl) | (go_simp; intro h; omega) | (go_simp; omega)⟩) hH (by decide) ?_
        simp only [List.getElem_toArray, List.getElem_cons_succ, List.getElem_cons_zero, Act.put, List.setIfInBounds_toArray, List.set_cons_zero, List.set_cons_succ]
        refine wpZ_takeP (i := 14) (v := .pointer (some ⟨Bo, P.off, none⟩)) rfl (by kernel_rfl) (by kernel_rfl) (by kernel_rfl) (fun _ _ _ h => h) (.inl ⟨by rfl, fun w' hS' => by first | (go_simp; done) | (go_simp; rfl) | (go_simp; intro h; omega) | (go_simp; omega)⟩) hH (by decide) ?_
        simp only [List.getElem_toArray, List.getElem_cons_succ, List.getElem_cons_zero, Act.put, List.setIfInBounds_toArray, List.set_cons_zero, List.set_cons_succ]
        refine wpZ_takeP (i := 15) (v := .pointer (some ⟨Bo, P.off + 2, none⟩)) rfl (by kernel_rfl) (by kernel_rfl) (by kernel_rfl) (fun _ _ _ h => h) (.inl ⟨by rfl, fun w' hS' => by first | (go_simp; done) | (go_simp; rfl) | (go_simp; intro h; omega) | (go_simp; omega)⟩) hH (by decide) ?_
        simp only [List.getElem_toArray, List.getElem_cons_succ, List.getElem_cons_zero, Act.put, List.setIfInBounds_toArray, List.set_cons_zero, List.set_cons_succ]
        refine wpZ_ready (rs := [16]) (by kernel_rfl) (by simp) ?_
        refine AllZ.last rfl (by kernel_rfl) (fun K hK => ?_) AllZ.nil
        simp only [List.getElem_toArray, List.getElem_cons_succ, List.getElem_cons_zero]
        rw [if_pos (by rfl)]
        go_wp2_with fail
        refine hK.out _ _ ?_
        clear hK
        refine wpZ_done (by kernel_rfl) ?_ _
        have R := h3.add (x := ⟨us, (k : Int), true⟩) b hown hg hat
        have K4 := KO.then (KeepO.grow (P := P) (v' := .slice na nl nc) b hg)
        have hsz : w.heap.size ≤ w3.heap.size := KO.size
        have hnl : nl = (d.items ++ [(⟨us, (k : Int), true⟩ : ItemL)]).length := by
          rcases R.row.2 with ⟨e, e2⟩ | ⟨g, cap, cur, e, _⟩
          · exfalso; simp at e2
          · injection e with _ e _
        have hnl2 : nl = d.items.length + 1 := by rw [hnl]; simp
        subst hnl2
        obtain ⟨W9, HW9⟩ : ∃ v, Hid (u4.setCell ⟨Bo, P.off + 2, none⟩ (.slice na (d.items.length + 1) nc) = v) := ⟨_, rfl⟩
        rw [HW9.out] at R K4 ⊢
        have f2 := R.facts.2.2.1
        have Hfin : Hid (OffAns w Bo P B n roles (.slice ia il ic) Far (deskDo n roles d ⟨1, us, (k : Int), it, hd⟩) W9) := by
          rw [E0.out]
          refine ⟨_, ⟨_, _, _, _, _, _, _, R, hfar3.up (KeepO.grow (Bo := Bo) (P := P) (v' := .slice na (d.items.length + 1) nc) b hg |>.size |> fun q => by rw [HW9.out] at q; exact q)⟩, K4, ?_⟩
          rcases hat with q | q
          · exact .inl q
          · exact .inr ⟨_, q, Nat.le_trans hsz b.size⟩
        have E1 : Hid ((deskDo n roles d ⟨1, us, (k : Int), it, hd⟩).2.item = (d.items.length : Int) ∧ (deskDo n roles d ⟨1, us, (k : Int), it, hd⟩).2.err = 0) := by rw [E0.out]; exact ⟨rfl, rfl⟩
        obtain ⟨N, HN⟩ : ∃ N, Hid (d.items.length = N) := ⟨_, rfl⟩
        rw [HN.out] at f2 hl E1 ⊢
        clear hown hg hat A A0 A1 hHS4 HS hcell R K4 KO HW9 h3 hop
        go_wp2
        go_ret2
        exact ⟨by rw [E1.out.1, E1.out.2]; simp, Hfin.out⟩
      · rw [if_neg hE] at E0 Hwd
        rw [Hwd.out] at hOf
        have hE1 : (E == 0) = false := by simpa using hE
        have hE2 : (E != 0) = true := by simpa using hE
        go_wp2
        go_ret2
        rw [E0.out]
        exact ⟨rfl, iv, hOf, KO, .inl rfl⟩
  · have E : Hid (deskDo n roles d ⟨1, us, tr, it, hd⟩ = (d, ⟨3, 0⟩)) := do_begin1 rfl (by rw [HL.out]; show tr < 0 ∨ (len : Int) ≤ tr; omega)
    by_cases t0 : tr < 0
    · have t1 : decide (tr < 0) = true := decide_eq_true t0
      clear ht
      go_quiet (fail)
      have b := below_drewN (Below.refl w0.heap.size w0) nq
      go_wp2
      go_ret2
      rw [E.out]
      exact ⟨rfl, iv, ⟨_, _, _, _, _, _, _, h0.below b, hfar.up (below_then c0 b).size⟩, KeepO.of (below_then c0 b), .inl rfl⟩
    · have t1 : decide (tr < 0) = false := decide_eq_false t0
      have t2 : decide ((len : Int) ≤ tr) = true := decide_eq_true (by omega)
      clear ht
      go_quiet (fail)
      have b := below_drewN (Below.refl w0.heap.size w0) nq
      go_wp2
      go_ret2
      rw [E.out]
      exact ⟨rfl, iv, ⟨_, _, _, _, _, _, _, h0.below b, hfar.up (below_then c0 b).size⟩, KeepO.of (below_then c0 b), .inl rfl⟩

end Go.Proofs.Ytaladbcocealnaa
