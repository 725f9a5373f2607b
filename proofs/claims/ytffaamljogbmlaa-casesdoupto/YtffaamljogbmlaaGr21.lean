import Derived.Test.YtffaamljogbmlaaGr20
import Derived.Test.YtffaamljogbmlaaGr08
import Derived.Test.YtffaamljogbmlaaGr00
import Derived.Laws.CopyOwn
/- Package cases as it landed: Busy. (Made by tools/gen_casedev5.py.) -/
namespace Go.Proofs.Ytffaamljogbmlaa
open Go.RowKit
set_option linter.unusedVariables false
set_option linter.unusedSimpArgs false
set_option maxRecDepth 4000

theorem NetOut.after {x : Nat} {p : Int} {w0 wr W wC : World} {us : List TranL} {ov : Value} {tv : List (Int × Value × Value)} (h : NetOut x p w0 wr us ov tv) (hb : Below wr.heap.size wr W) (hg : W.grownBy wC ov.ownBlock) :
    wC.cell? ⟨x, 1, none⟩ = some ov ∧ wC.frozen? ⟨x, 1, none⟩ = false := by
  have g := h.to hb
  have hov : ∀ k, ov.ownBlock = some k → x + 1 ≤ k ∧ k < wr.heap.size := fun k hk => ownsRow_lt h.own hk
  have hcx : wC.heap[x]? = W.heap[x]? := hg.block x g.size fun e => by have := hov x e.symm; omega
  exact ⟨(World.cell?_of_block (a := ⟨x, 1, none⟩) hcx).trans g.c1, (World.frozen?_of_block (a := ⟨x, 1, none⟩) hcx).trans g.f1⟩
theorem NetOut.after0 {x : Nat} {p : Int} {w0 wr W wC : World} {us : List TranL} {ov : Value} {tv : List (Int × Value × Value)} (h : NetOut x p w0 wr us ov tv) (hb : Below wr.heap.size wr W) (hg : W.grownBy wC ov.ownBlock) :
    wC.cell? ⟨x, 0, none⟩ = some (.int .i64 p) := by
  have g := h.to hb
  have hov : ∀ k, ov.ownBlock = some k → x + 1 ≤ k ∧ k < wr.heap.size := fun k hk => ownsRow_lt h.own hk
  have hcx : wC.heap[x]? = W.heap[x]? := hg.block x g.size fun e => by have := hov x e.symm; omega
  exact (World.cell?_of_block (a := ⟨x, 0, none⟩) hcx).trans g.c0
/-- A block that was there and is not the row's. -/
theorem NetOut.afterT {x : Nat} {p : Int} {w0 wr W wC : World} {us : List TranL} {ov : Value} {tv : List (Int × Value × Value)} (h : NetOut x p w0 wr us ov tv) (hb : Below wr.heap.size wr W) (hg : W.grownBy wC ov.ownBlock) {a : Addr} (ha : a.block < wr.heap.size) (hn : some a.block ≠ ov.ownBlock) :
    wC.cell? a = W.cell? a := World.cell?_of_block (hg.block a.block (Nat.lt_of_lt_of_le ha hb.size) hn)

theorem make_zeros (w : World) (n : Nat) (hn : n ≤ 1000) : (Instr.makeSlice 25 (.int .i64 (n : Int)) (.int .i64 (n : Int))).run Try.prog w = .ok (.slice (some ⟨w.heap.size, 0, none⟩) n n) (w.alloc (.cells (List.replicate n (Value.int .i64 0)).toArray 3)) := by
  obtain ⟨i0, hi, hz0, hz1, hz2⟩ := info_parts info_int
  have h := run_make (P := Try.prog) w 25 3 i0 (.int .i64 0) Try.underlying25 hi hz0 .i64 .i64 n n (by omega) (by omega) (by rw [hz2]; omega) (by omega)
  simp only [Int.toNat_natCast] at h
  rw [h]
  congr 2
  congr 1
  apply Array.ext_getElem?
  intro j
  rcases Nat.lt_or_ge j n with hj | hj
  · simp [madeCells, hz1, Value.cells, hj, Nat.mod_one]
  · rw [Array.getElem?_eq_none (by simp [size_madeCells, hz1]; omega), Array.getElem?_eq_none (by simp; omega)]
def padT (xs : List Int) (N : Nat) : List Int := xs ++ zerosL (N - xs.length)
theorem pad_splice (xs : List Int) (N : Nat) (h : xs.length ≤ N) : splice (List.replicate N (Value.int .i64 0)) 0 (xs.map (Value.int .i64)) = (padT xs N).map (Value.int .i64) := by
  unfold splice padT zerosL
  simp [List.drop_replicate]

set_option maxHeartbeats 1000000 in
theorem wide_any (u : Value) (xs : List Int) (bp N : Nat) (w : World) (hu : Ints w u xs) (hpl : bp < w.heap.size) (hp : w.cell? ⟨bp, 0, none⟩ = some (.int .i64 (N : Int))) (hle : xs.length ≤ N) (hN : N ≤ 1000) :
    Calls Try.prog 51 #[u, .pointer (some ⟨bp, 0, none⟩)] w fun e w' => ∃ r, e = .returned r ∧ On (fun k => w.heap.size ≤ k) w' (fun w'' => Ints w'' r (xs ++ zerosL (N - xs.length))) ∧ Below w.heap.size w w' := by
  obtain ⟨a, len, cap, rfl, hlen, hmx, hsh, hr⟩ := hu
  have hmk := make_zeros w N hN
  obtain ⟨wa, Hwa⟩ : ∃ wa, Hid (w.alloc (.cells (List.replicate N (Value.int .i64 0)).toArray 3) = wa) := ⟨_, rfl⟩
  rw [Hwa.out] at hmk
  have ba : Below w.heap.size w wa := by rw [← Hwa.out]; exact below_new _ _
  have hg : wa.heap[w.heap.size]? = some (.cells (List.replicate N (Value.int .i64 0)).toArray 3 (0, 0)) := by rw [← Hwa.out]; exact heap_alloc_new w _
  obtain ⟨cs, Hcs⟩ : ∃ cs, Hid (cs = xs.map (Value.int .i64)) := ⟨_, rfl⟩
  have hcl : cs.length = min len N := by rw [Hcs.out]; simp; omega
  have hcl2 : cs.length = len := by rw [Hcs.out]; simp; omega
  have h1 : ∀ v ∈ cs, v.oneCell' = true := by
    intro v hv
    rw [Hcs.out] at hv
    obtain ⟨z, _, rfl⟩ := List.mem_map.1 hv
    rfl
  have hrun : ∃ w2, (Builtin.copy_ #[25, 25] 3 #[.slice (some ⟨w.heap.size, 0, none⟩) N N, .slice a len cap]).run Try.prog wa = .ok (.int .i64 (cs.length : Nat)) w2 ∧
      w2.heap[w.heap.size]? = some (.cells ((padT xs N).map (Value.int .i64)).toArray 3 (0, 0)) ∧ Below w.heap.size w w2 ∧ w.heap.size < w2.heap.size := by
    rw [← pad_splice xs N hle, ← Hcs.out]
    by_cases h0 : cs.length = 0
    · obtain rfl : cs = [] := List.eq_nil_of_length_eq_zero h0
      exact ⟨wa, run_copy_none (P := Try.prog) wa 25 25 3 3 _ _ _ _ _ _ Try.underlying25 (by kernel_rfl) (by simpa using hcl.symm), by simpa [splice] using hg, ba, (Array.getElem?_eq_some_iff.1 hg).1⟩
    · obtain ⟨b0, off0, ha, _, _⟩ := hr 0 (by rw [hlen, ← hcl2]; omega)
      subst ha
      have hs : ∀ j v, cs[j]? = some v → wa.cell? ((⟨b0, off0, none⟩ : Addr).add j) = some v := fun j v hj => by
        rw [Hcs.out] at hj
        have hjl : j < xs.length := by
          rcases Nat.lt_or_ge j xs.length with h | h
          · exact h
          · rw [List.getElem?_eq_none (by simpa using h)] at hj; cases hj
        obtain ⟨b1, off1, ha1, hlt, hc⟩ := hr j hjl
        injection ha1 with ha1
        injection ha1 with e1 e2
        subst e1 e2
        rw [addr_add, ba.cell (p := ⟨b0, _, none⟩) hlt, hc]
        rw [List.getElem?_map, List.getElem?_eq_getElem hjl] at hj
        rw [← hj]
        simp [nth, List.getD_eq_getElem?_getD, List.getElem?_eq_getElem hjl]
      have q := run_copy_row (P := Try.prog) wa 25 25 3 3 w.heap.size 0 N N ⟨b0, off0, none⟩ len cap _ 3 cs Try.underlying25 (by kernel_rfl) hg hcl hs (by rw [hcl]; simp; omega) h1
      have hg2 := setRow_heap wa w.heap.size _ (splice (List.replicate N (Value.int .i64 0)) 0 cs).toArray 3 _ hg
      refine ⟨_, q, by simpa [splice] using hg2, below_setRow ba (Nat.le_refl _) _, ?_⟩
      have hg3 := setRow_heap wa w.heap.size _ ((List.take 0 (List.replicate N (Value.int .i64 0)).toArray.toList) ++ cs ++ List.drop (0 + cs.length) (List.replicate N (Value.int .i64 0)).toArray.toList).toArray 3 _ hg
      exact (Array.getElem?_eq_some_iff.1 hg3).1
  obtain ⟨w2, hrun, hg2, b2, hsz⟩ := hrun
  have hpad : (padT xs N).length = N := by unfold padT; simp [zeros_length]; omega
  have R : On (fun k => w.heap.size ≤ k) w2 (fun w'' => Ints w'' (.slice (some ⟨w.heap.size, 0, none⟩) N N) (padT xs N)) := by
    intro w3 hs hk
    have hb := hk w.heap.size hsz (Nat.le_refl _)
    refine ⟨_, _, _, rfl, hpad, by omega, ⟨Nat.le_refl _, by omega, fun q => by cases q⟩, fun j hj => ⟨w.heap.size, 0, rfl, Nat.lt_of_lt_of_le hsz hs, ?_⟩⟩
    rw [Nat.zero_add, World.cell?_of_block (a := ⟨w.heap.size, j, none⟩) hb]
    simp only [World.cell?, hg2]
    simp [nth, List.getD_eq_getElem?_getD, List.getElem?_eq_getElem hj]
  clear hr hg hg2 hcl hcl2 h1 Hcs hsz hpad ba
  go_enter Try.func51, Try.ntmps51
  go_wp2
  go_ret
  exact ⟨_, rfl, R, b2⟩

set_option maxHeartbeats 1000000 in
theorem seen_any (v : Value) (n : NetL) (w : World) (hv : Net w v n) :
    Calls Try.prog 34 #[v] w fun e w' => e = .returned (.int .i64 (seenTo n.trans n.trans.length : Int)) ∧ Below w.heap.size w w' := by
  obtain ⟨tv, rfl, hT⟩ := hv
  obtain ⟨ta, len, tc, rfl, hlen, hmx, hsh, _⟩ := id hT
  have c0 := below_new w (.cells #[.int .i64 n.places, .slice ta len tc] 24)
  have hbx := box2_new w (.int .i64 n.places) (.slice ta len tc) 24
  obtain ⟨w0, Hw0⟩ : ∃ w0, Hid (w.alloc (.cells #[.int .i64 n.places, .slice ta len tc] 24) = w0) := ⟨_, rfl⟩
  rw [Hw0.out] at c0 hbx
  obtain ⟨x0, x1, x2⟩ := id hbx
  have HL : Hid (n.trans.length = len) := hlen
  clear hlen
  go_enter Try.func34, Try.ntmps34
  go_upto_region 1 with fail
  rw [Hw0.out]
  clear Hw0
  go_wp2_with fail
  go_loopg [3, 9] len (fun gk m i' wr => ∃ k : Nat, k + gk = len ∧ i' = .int .i64 (k : Int) ∧ m = .int .i64 (seenTo n.trans k : Int) ∧ Below w.heap.size w wr)
  case atStart => exact ⟨0, by omega, rfl, rfl, c0⟩
  case round =>
    clear c0 x0 x1 x2 hbx
    obtain ⟨k, hkg, rfl, rfl, c0⟩ := hrel
    have hs := seen_le n.trans k
    by_cases hk : k < len
    · obtain ⟨tb, tf, d1, d2, rfl, hblt, t0, t1, t2, i1, i2⟩ := (hT.below c0).at hk
      obtain ⟨e1, m1, q1, rfl, _⟩ := id i1
      obtain ⟨e2, m2, q2, rfl, _⟩ := id i2
      obtain ⟨L, HLb⟩ : ∃ L, Hid ((tranAt n.trans k).label = L) := ⟨_, rfl⟩
      rw [HLb.out] at t0
      have Hs : Hid (seenTo n.trans (k + 1) = seenTo n.trans k + (if L = 0 then 0 else 1)) := by show _ = _; rw [← HLb.out]; rfl
      have bt := below_new wr (.cells #[.int .i64 L, .slice e1 m1 q1, .slice e2 m2 q2] 54)
      obtain ⟨y0, y1, y2, y3⟩ := box3_new wr (.int .i64 L) (.slice e1 m1 q1) (.slice e2 m2 q2) 54
      obtain ⟨w1, Hw1⟩ : ∃ v, Hid (wr.alloc (.cells #[.int .i64 L, .slice e1 m1 q1, .slice e2 m2 q2] 54) = v) := ⟨_, rfl⟩
      rw [Hw1.out] at bt y0 y1 y2 y3
      obtain ⟨sk, Hsk⟩ : ∃ s, Hid (seenTo n.trans k = s) := ⟨_, rfl⟩
      rw [Hsk.out] at Hs hs ⊢
      go_upto_region 5 with fail
      rw [Hw1.out]
      clear Hw1 t0 t1 t2 i1 i2 hblt
      replace c0 := below_then c0 bt
      by_cases hL : L = 0
      · subst hL
        have e : Hid (seenTo n.trans (k + 1) = sk) := by show _ = _; rw [Hs.out]; simp
        go_wp2
        go_roundg (gk - 1)
        case measure => omega
        case rel => exact ⟨k + 1, by omega, by go_num, by rw [e.out], c0⟩
      · have hL1 : (L != 0) = true := by simpa using hL
        have e : Hid (seenTo n.trans (k + 1) = sk + 1) := by show _ = _; rw [Hs.out, if_neg hL]
        go_wp2
        go_roundg (gk - 1)
        case measure => omega
        case rel => exact ⟨k + 1, by omega, by go_num, by rw [e.out]; go_num, c0⟩
    · obtain rfl : k = len := by omega
      go_wp2
      go_ret
      exact ⟨by rw [HL.out]; rfl, c0⟩

theorem start_between {P S sk : Nat} (h : sk < S) (hPS : P + S ≤ 16) : startL ((P + S : Nat) : Int) ((P + sk : Nat) : Int) = zerosL P ++ oneAt S sk := by
  have hl : (min ((P + S : Nat) : Int) 16).toNat = P + S := by omega
  refine eq_of_at (by rw [start_length, hl, List.length_append, zeros_length, one_length]) fun j => ?_
  rcases Nat.lt_or_ge j (P + S) with hj | hj
  · rw [start_at _ _ _ (by rw [hl]; exact hj), nth_app, zeros_length]
    by_cases hjP : j < P
    · rw [if_pos hjP, zeros_at, if_neg (by omega)]
    · rw [if_neg hjP, one_at (by omega)]
      by_cases e : j = P + sk
      · rw [if_pos (by omega), if_pos (by omega)]
      · rw [if_neg (by omega), if_neg (by omega)]
  · rw [nth_past _ _ (by rw [start_length, hl]; exact hj), nth_past _ _ (by rw [List.length_append, zeros_length, one_length]; exact hj)]

theorem boxesNPR (w : World) (x y p : Value) : ∃ w0, Hid (((w.alloc (.cells #[x, y] 24)).alloc (.cells #[p] 3)).alloc (.cells #[.int .i64 0, .slice none 0 0] 24) = w0) ∧ Box2 w0 w.heap.size x y ∧ (w.heap.size + 1 < w0.heap.size ∧ w0.cell? ⟨w.heap.size + 1, 0, none⟩ = some p) ∧
    Box2 w0 (w.heap.size + 1 + 1) (.int .i64 0) (.slice none 0 0) ∧ (∀ j, w0.frozen? ⟨w.heap.size + 1 + 1, j, none⟩ = false) ∧ w0.heap.size = w.heap.size + 1 + 1 + 1 ∧ Below w.heap.size w w0 := by
  have b1 := below_new w (.cells #[x, y] 24)
  have h1 := box2_new w x y 24
  obtain ⟨w1, H1⟩ : ∃ w1, w.alloc (.cells #[x, y] 24) = w1 := ⟨_, rfl⟩
  have s1 : w1.heap.size = w.heap.size + 1 := by rw [← H1]; simp
  rw [H1] at b1 h1 ⊢
  have b2 := below_new w1 (.cells #[p] 3)
  have h2 := box1_new w1 p 3
  rw [s1] at h2
  obtain ⟨w2, H2⟩ : ∃ w2, w1.alloc (.cells #[p] 3) = w2 := ⟨_, rfl⟩
  have s2 : w2.heap.size = w.heap.size + 1 + 1 := by rw [← H2]; simp [s1]
  rw [H2] at b2 h2 ⊢
  have b3 := below_new w2 (.cells #[.int .i64 0, .slice none 0 0] 24)
  have h3 := box2_new w2 (.int .i64 0) (.slice none 0 0) 24
  rw [s2] at h3
  refine ⟨_, rfl, h1.below (below_then b2 b3), ⟨by simp [s2], ?_⟩, h3, fun j => by rw [← s2]; exact World.frozen?_alloc_at _ _ _ _ rfl, by simp [s2], below_then b1 (below_then b2 b3)⟩
  rw [b3.cell (p := ⟨w.heap.size + 1, 0, none⟩) h2.1]; exact h2.2

theorem busyTo_succ (ts : List TranL) (P S k : Nat) : busyTo ts P S (k + 1) = busyTo ts P S k ++ busyT P S (seenTo ts k) (tranAt ts k) := rfl

set_option maxHeartbeats 4000000 in
theorem parted_any (v : Value) (n : NetL) (PL P S : Nat) (w : World) (hv : Net w v n) (hn : netOk n = true) (hP : n.places = (P : Int)) (hS : S = seenTo n.trans n.trans.length) (hPL : PL = P + S) (h16 : P + S ≤ 16) (h24 : n.trans.length + S ≤ 24) :
    Calls Try.prog 35 #[v, .int .i64 (PL : Int)] w fun e w' => ∃ r, e = .returned r ∧ On (fun k => w.heap.size ≤ k) w' (fun w'' => Net w'' r ⟨(PL : Int), busyTo n.trans P S n.trans.length⟩) ∧ Below w.heap.size w w' := by
  obtain ⟨tv0, rfl, hT⟩ := hv
  obtain ⟨ta, len, tc, rfl, hlen, hmx, hsh, _⟩ := id hT
  obtain ⟨W0, HW0, hbn, hbp, hbr, hfr, hsz, c0⟩ := boxesNPR w (.int .i64 n.places) (.slice ta len tc) (.int .i64 (PL : Int))
  have HL : Hid (n.trans.length = len) := hlen
  rw [HL.out] at hS h24
  have hst := netOut_new W0 (PL : Int) (w.heap.size + 1 + 1 + 1) hsz.symm
  have bn := below_new W0 (.cells #[.int .i64 (PL : Int), .slice none 0 0] 24)
  obtain ⟨W1, HW1⟩ : ∃ v, Hid (W0.alloc (.cells #[.int .i64 (PL : Int), .slice none 0 0] 24) = v) := ⟨_, rfl⟩
  rw [HW1.out] at hst bn
  have hp1 := hbp.2
  have Hn : Hid (netOk n = true) := hn
  have Hlen : Hid (∀ k, k < len → (tranAt n.trans k).pre.length = P ∧ (tranAt n.trans k).post.length = P) := fun k hk => by
    have := tran_length Hn.out (show k < n.trans.length by rw [HL.out]; exact hk)
    rw [hP] at this
    omega
  have Hs : Hid (S = seenTo n.trans len) := hS
  have hS' : S ≤ 24 := by omega
  have hmf : ∀ (fn : Fn) (first cap : Array Value) (w : World), (Instr.makeFunc fn first cap).run Try.prog w = .ok (.func fn first cap) w := fun _ _ _ _ => rfl
  have HP : Hid (n.places = (P : Int)) := hP
  have HPL : Hid (PL = P + S) := hPL
  have hPL2 : PL ≤ 16 := by omega
  clear hlen hn hS hP hPL
  rw [HP.out] at hbn HW0
  obtain ⟨x0, x1, x2⟩ := id hbn
  rw [HP.out]
  go_enter Try.func35, Try.ntmps35
  go_upto_region 1 with fail
  rw [HW0.out]
  clear HW0
  go_upto_region 2 with fail
  rw [HW1.out]
  clear HW1 x0 x1 x2 hp1
  obtain ⟨x0, x1, x2⟩ := hbn.below bn
  have hTW := hT.below (below_then c0 bn)
  go_wp2_with fail
  clear x0 x1 x2
  go_loopg [7, 18] len (fun gk m i' wr => ∃ (k : Nat) (us : List TranL) (ov : Value) (tv : List (Int × Value × Value)), k + gk = len ∧ i' = .int .i64 (k : Int) ∧ m = .int .i64 ((P + seenTo n.trans k : Nat) : Int) ∧ Hid (us = busyTo n.trans P S k) ∧ NetOut (w.heap.size + 1 + 1 + 1) (PL : Int) W0 wr us ov tv)
  case atStart => exact ⟨0, [], _, [], by omega, rfl, by simp [seenTo], rfl, hst⟩
  case round =>
    obtain ⟨k, us, ov, tv, hkg, rfl, rfl, Hus, hO⟩ := hrel
    have hs := seen_le n.trans k
    have hbw : Below W0.heap.size W0 wr := by rw [hsz]; exact hO.below
    obtain ⟨av, lv, cv, rfl⟩ := ownsRow_slice hO.own
    have Htl0 : tv.length = k + seenTo n.trans k := by rw [← hO.len, Hus.out, busyTo_length]
    have Htl : Hid (tv.length ≤ 2513169434916) := by show _ ≤ _; omega
    have Htl2 : Hid (tv.length ≤ 1000) := by show _ ≤ _; omega
    clear Htl0
    by_cases hk : k < len
    · obtain ⟨tb, tf, d1, d2, rfl, hblt, t0, t1, t2, i1, i2⟩ := (hT.below (below_then c0 hbw)).at hk
      obtain ⟨e1, m1, q1, rfl, _⟩ := id i1
      obtain ⟨e2, m2, q2, rfl, _⟩ := id i2
      obtain ⟨T, HT⟩ : ∃ T, Hid (tranAt n.trans k = T) := ⟨_, rfl⟩
      have Hl : Hid (T.pre.length = P ∧ T.post.length = P) := by rw [← HT.out]; exact Hlen.out k hk
      rw [HT.out] at t0 i1 i2
      obtain ⟨L, HLb⟩ : ∃ L, Hid (T.label = L) := ⟨_, rfl⟩
      rw [HLb.out] at t0
      have Hnx : Hid (busyTo n.trans P S (k + 1) = us ++ busyT P S (seenTo n.trans k) T) := by show _ = _; rw [busyTo_succ, ← Hus.out, HT.out]
      have Hsn : Hid (seenTo n.trans (k + 1) = seenTo n.trans k + (if L = 0 then 0 else 1)) := by show _ = _; rw [← HLb.out, ← HT.out]; rfl
      have Hlt : Hid (L ≠ 0 → seenTo n.trans k < S) := fun h => by rw [Hs.out]; exact seen_lt n.trans hk (by rw [HT.out, HLb.out]; exact h)
      obtain ⟨sk, Hsk⟩ : ∃ s, Hid (seenTo n.trans k = s) := ⟨_, rfl⟩
      rw [Hsk.out] at hs Hnx Hsn Hlt ⊢
      have bt := below_new wr (.cells #[.int .i64 L, .slice e1 m1 q1, .slice e2 m2 q2] 54)
      have hbt := box3_new wr (.int .i64 L) (.slice e1 m1 q1) (.slice e2 m2 q2) 54
      obtain ⟨Bt, HBt⟩ : ∃ B, Hid (wr.heap.size = B) := ⟨_, rfl⟩
      have hBt2 : some Bt ≠ (Value.slice av lv cv).ownBlock := fun e => by have := (ownsRow_lt hO.own e.symm).2; rw [HBt.out] at this; omega
      rw [HBt.out] at hbt
      obtain ⟨w3, Hw3⟩ : ∃ v, Hid (wr.alloc (.cells #[.int .i64 L, .slice e1 m1 q1, .slice e2 m2 q2] 54) = v) := ⟨_, rfl⟩
      rw [Hw3.out] at bt hbt
      obtain ⟨y0, y1, y2, y3⟩ := id hbt
      have hBt1 : Bt < w3.heap.size := y0
      go_upto_region 7 with fail
      rw [Hw3.out, HBt.out]
      clear Hw3 t0 t1 t2 hblt HBt
      replace hO := hO.to bt
      replace i1 := i1.below bt
      replace i2 := i2.below bt
      replace hbp := And.intro (Nat.lt_of_lt_of_le hbp.1 (below_then hbw bt).size) (((below_then hbw bt).cell (p := ⟨w.heap.size + 1, 0, none⟩) hbp.1).trans hbp.2)
      replace hbp : w.heap.size + 1 < w3.heap.size ∧ w3.cell? ⟨w.heap.size + 1, 0, none⟩ = some (.int .i64 (PL : Int)) := hbp
      have hbpB : ∀ {w' : World}, Below w3.heap.size w3 w' → w.heap.size + 1 < w'.heap.size ∧ w'.cell? ⟨w.heap.size + 1, 0, none⟩ = some (.int .i64 (PL : Int)) := fun h => ⟨Nat.lt_of_lt_of_le hbp.1 h.size, (h.cell (p := ⟨w.heap.size + 1, 0, none⟩) hbp.1).trans hbp.2⟩
      have HbpB : Hid (∀ w' : World, Below w3.heap.size w3 w' → w.heap.size + 1 < w'.heap.size ∧ w'.cell? ⟨w.heap.size + 1, 0, none⟩ = some (.int .i64 (PL : Int))) := fun w' h => hbpB h
      clear bt hbp hbpB
      by_cases hL : L = 0
      · subst hL
        have e : Hid (seenTo n.trans (k + 1) = sk) := by show _ = _; rw [Hsn.out]; simp
        have Hvs : Hid (us ++ [⟨0, T.pre ++ zerosL S, T.post ++ zerosL S⟩] = busyTo n.trans P S (k + 1)) := by
          show _ = _
          rw [Hnx.out, busyT, if_pos HLb.out]
        go_upto_region 8 with fail
        clear y0 y1 y2 y3
        have HS : Hid (∀ w', Below w3.heap.size w3 w' → w'.cell? ⟨w.heap.size + 1 + 1 + 1, 0, none⟩ = some (.int .i64 (PL : Int)) ∧ w'.cell? ⟨w.heap.size + 1 + 1 + 1, 1, none⟩ = some (.slice av lv cv) ∧ w'.cell? ⟨Bt, 0, none⟩ = some (.int .i64 0) ∧ w'.cell? ⟨Bt, 1, none⟩ = some (.slice e1 m1 q1) ∧ w'.cell? ⟨Bt, 2, none⟩ = some (.slice e2 m2 q2)) := fun w' h => ⟨(hO.to h).c0, (hO.to h).c1, (hbt.below h).2.1, (hbt.below h).2.2.1, (hbt.below h).2.2.2⟩
        refine wp_region_Z (S := (fun w' => w'.cell? ⟨w.heap.size + 1 + 1 + 1, 0, none⟩ = some (.int .i64 (PL : Int)) ∧ w'.cell? ⟨w.heap.size + 1 + 1 + 1, 1, none⟩ = some (.slice av lv cv) ∧ w'.cell? ⟨Bt, 0, none⟩ = some (.int .i64 0) ∧ w'.cell? ⟨Bt, 1, none⟩ = some (.slice e1 m1 q1) ∧ w'.cell? ⟨Bt, 2, none⟩ = some (.slice e2 m2 q2))) (by kernel_rfl) 14 (HS.out _ (Below.refl _ _).drew) (fun hH => ?_)
        have b : Below w3.heap.size w3 w3.drew := (Below.refl _ _).drew
        obtain ⟨v0, Hv0⟩ : ∃ v0, Hid (w3.drew = v0) := ⟨_, rfl⟩
        rw [Hv0.out] at hH b ⊢
        clear Hv0
        refine wpZ_takeP (i := 0) (v := .pointer (some ⟨w.heap.size + 1 + 1 + 1, 1, none⟩)) rfl (by kernel_rfl) (by kernel_rfl) (by kernel_rfl) (fun _ _ _ h => h) (.inl ⟨by rfl, fun w' hS' => by first | (go_simp; done) | (go_simp; rfl) | (go_simp; intro h; omega) | (go_simp; omega)⟩) hH (by decide) ?_
        simp only [List.getElem_toArray, List.getElem_cons_succ, List.getElem_cons_zero, Act.put, List.setIfInBounds_toArray, List.set_cons_zero, List.set_cons_succ]
        refine wpZ_take (i := 1) (v := .slice av lv cv) rfl (by kernel_rfl) (by kernel_rfl) (by kernel_rfl) (fun _ _ _ h => h) (.inl ⟨by rfl, fun w' hS' => by obtain ⟨s0, s1, s2, s3, s4⟩ := hS'; go_simp⟩) hH rfl (by decide) (by kernel_rfl) (by kernel_rfl) ?_
        simp only [List.getElem_toArray, List.getElem_cons_succ, List.getElem_cons_zero, Act.put, List.setIfInBounds_toArray, List.set_cons_zero, List.set_cons_succ]
        refine wpZ_takeP (i := 2) (v := .func (.func 51) #[] #[.pointer (some ⟨w.heap.size + 1, 0, none⟩)]) rfl (by kernel_rfl) (by kernel_rfl) (by kernel_rfl) (fun _ _ _ h => h) (.inl ⟨by rfl, fun _ _ => rfl⟩) hH (by decide) ?_
        simp only [List.getElem_toArray, List.getElem_cons_succ, List.getElem_cons_zero, Act.put, List.setIfInBounds_toArray, List.set_cons_zero, List.set_cons_succ]
        refine wpZ_takeP (i := 3) (v := .pointer (some ⟨Bt, 1, none⟩)) rfl (by kernel_rfl) (by kernel_rfl) (by kernel_rfl) (fun _ _ _ h => h) (.inl ⟨by rfl, fun w' hS' => by first | (go_simp; done) | (go_simp; rfl) | (go_simp; intro h; omega) | (go_simp; omega)⟩) hH (by decide) ?_
        simp only [List.getElem_toArray, List.getElem_cons_succ, List.getElem_cons_zero, Act.put, List.setIfInBounds_toArray, List.set_cons_zero, List.set_cons_succ]
        refine wpZ_take (i := 4) (v := .slice e1 m1 q1) rfl (by kernel_rfl) (by kernel_rfl) (by kernel_rfl) (fun _ _ _ h => h) (.inl ⟨by rfl, fun w' hS' => by obtain ⟨s0, s1, s2, s3, s4⟩ := hS'; go_simp⟩) hH rfl (by decide) (by kernel_rfl) (by kernel_rfl) ?_
        simp only [List.getElem_toArray, List.getElem_cons_succ, List.getElem_cons_zero, Act.put, List.setIfInBounds_toArray, List.set_cons_zero, List.set_cons_succ]
        refine wpZ_takeP (i := 6) (v := .func (.func 51) #[] #[.pointer (some ⟨w.heap.size + 1, 0, none⟩)]) rfl (by kernel_rfl) (by kernel_rfl) (by kernel_rfl) (fun _ _ _ h => h) (.inl ⟨by rfl, fun _ _ => rfl⟩) hH (by decide) ?_
        simp only [List.getElem_toArray, List.getElem_cons_succ, List.getElem_cons_zero, Act.put, List.setIfInBounds_toArray, List.set_cons_zero, List.set_cons_succ]
        refine wpZ_takeP (i := 7) (v := .pointer (some ⟨Bt, 2, none⟩)) rfl (by kernel_rfl) (by kernel_rfl) (by kernel_rfl) (fun _ _ _ h => h) (.inl ⟨by rfl, fun w' hS' => by first | (go_simp; done) | (go_simp; rfl) | (go_simp; intro h; omega) | (go_simp; omega)⟩) hH (by decide) ?_
        simp only [List.getElem_toArray, List.getElem_cons_succ, List.getElem_cons_zero, Act.put, List.setIfInBounds_toArray, List.set_cons_zero, List.set_cons_succ]
        refine wpZ_take (i := 8) (v := .slice e2 m2 q2) rfl (by kernel_rfl) (by kernel_rfl) (by kernel_rfl) (fun _ _ _ h => h) (.inl ⟨by rfl, fun w' hS' => by obtain ⟨s0, s1, s2, s3, s4⟩ := hS'; go_simp⟩) hH rfl (by decide) (by kernel_rfl) (by kernel_rfl) ?_
        simp only [List.getElem_toArray, List.getElem_cons_succ, List.getElem_cons_zero, Act.put, List.setIfInBounds_toArray, List.set_cons_zero, List.set_cons_succ]
        refine wpZ_ready (rs := [5]) (by kernel_rfl) (by simp) ?_
        refine AllZ.cons rfl (fun K hK => ?_) AllZ.nil
        simp only [List.getElem_toArray, List.getElem_cons_succ, List.getElem_cons_zero]
        rw [if_pos (by rfl)]
        go_wp2_with fail
        refine (wide_any _ T.pre (w.heap.size + 1) PL v0 (by exact i1.below b) ((HbpB.out _ b).1) ((HbpB.out _ b).2) (by rw [Hl.out.1, HPL.out]; omega) (by omega)).mono ?_
        rintro e v1 ⟨r1, rfl, O1, bs1⟩
        obtain ⟨ra1, rl1, rc1, rfl, _⟩ := id O1.now
        replace O1 := O1.weaken (D' := fun k => w3.heap.size ≤ k) fun k _ hk => Nat.le_trans b.size hk
        rw [show PL - T.pre.length = S by rw [Hl.out.1, HPL.out]; omega] at O1
        replace b := below_then b bs1
        refine hK.out _ _ (HS.out _ b) (fun hH => ?_)
        clear hK
        refine wpZ_ready (rs := [9]) (by kernel_rfl) (by simp) ?_
        refine AllZ.cons rfl (fun K hK => ?_) AllZ.nil
        simp only [List.getElem_toArray, List.getElem_cons_succ, List.getElem_cons_zero]
        rw [if_pos (by rfl)]
        go_wp2_with fail
        refine (wide_any _ T.post (w.heap.size + 1) PL v1 (by exact i2.below b) ((HbpB.out _ b).1) ((HbpB.out _ b).2) (by rw [Hl.out.2, HPL.out]; omega) (by omega)).mono ?_
        rintro e v2 ⟨r2, rfl, O2, bs2⟩
        obtain ⟨ra2, rl2, rc2, rfl, _⟩ := id O2.now
        replace O2 := O2.weaken (D' := fun k => w3.heap.size ≤ k) fun k _ hk => Nat.le_trans b.size hk
        rw [show PL - T.post.length = S by rw [Hl.out.2, HPL.out]; omega] at O2
        replace b := below_then b bs2
        refine hK.out _ _ (HS.out _ b) (fun hH => ?_)
        clear hK
        refine wpZ_takeP (i := 10) (v := .agg #[.int .i64 0, .slice ra1 rl1 rc1, .slice ra2 rl2 rc2]) rfl (by kernel_rfl) (by kernel_rfl) (by kernel_rfl) (fun _ _ _ h => h) (.inl ⟨by rfl, fun w' hS' => by first | (go_simp; done) | (go_simp; rfl) | (go_simp; intro h; omega) | (go_simp; omega)⟩) hH (by decide) ?_
        simp only [List.getElem_toArray, List.getElem_cons_succ, List.getElem_cons_zero, Act.put, List.setIfInBounds_toArray, List.set_cons_zero, List.set_cons_succ]
        have bs := below_new v2 (.cells #[.int .i64 0, .slice ra1 rl1 rc1, .slice ra2 rl2 rc2] 54)
        obtain ⟨Bb, HBb⟩ : ∃ B, Hid (v2.heap.size = B) := ⟨_, rfl⟩
        have hcell : ∀ j u, (tvCells [(0, .slice ra1 rl1 rc1, .slice ra2 rl2 rc2)])[j]? = some u → (v2.alloc (.cells #[.int .i64 0, .slice ra1 rl1 rc1, .slice ra2 rl2 rc2] 54)).cell? ⟨Bb, 0 + j, none⟩ = some u := fun j u hj => by
          rw [← HBb.out, Nat.zero_add, World.cell?_alloc_at _ _ _ _ rfl]
          simpa [tvCells] using hj
        obtain ⟨u3, Hu3⟩ : ∃ v, Hid (v2.alloc (.cells #[.int .i64 0, .slice ra1 rl1 rc1, .slice ra2 rl2 rc2] 54) = v) := ⟨_, rfl⟩
        rw [Hu3.out] at bs hcell
        refine wpZ_ready (rs := [11]) (by kernel_rfl) (by simp) ?_
        refine AllZ.cons rfl (fun K hK => ?_) AllZ.nil
        simp only [List.getElem_toArray, List.getElem_cons_succ, List.getElem_cons_zero]
        rw [if_pos (by rfl)]
        go_wp2_with fail
        rw [Hu3.out, HBb.out]
        replace b := below_then b bs
        refine hK.out _ _ (HS.out _ b) (fun hH => ?_)
        clear hK
        refine wpZ_ready (rs := [12]) (by kernel_rfl) (by simp) ?_
        refine AllZ.cons rfl (fun K hK => ?_) AllZ.nil
        simp only [List.getElem_toArray, List.getElem_cons_succ, List.getElem_cons_zero]
        refine wpr_append_net (by rfl) _ _ rfl (w.heap.size + 1 + 1 + 1 + 1) u3 (.slice av lv cv) tv [(0, .slice ra1 rl1 rc1, .slice ra2 rl2 rc2)] Bb 0 1 1 (hO.to b).own rfl rfl rfl hcell (by intro u hu; simp only [tvCells, List.flatMap_cons, List.flatMap_nil, List.append_nil, List.cons_append, List.nil_append, List.mem_cons, List.not_mem_nil, or_false] at hu; rcases hu with rfl | rfl | rfl <;> rfl) (by have := Htl2.out; omega) ((hO.to b).size) ?_
        intro nv u4 hown hg hat
        obtain ⟨na, nl, nc, rfl⟩ := ownsRow_slice hown
        obtain ⟨g1, g2⟩ := hO.after b hg
        have hHS4 : u4.cell? ⟨w.heap.size + 1 + 1 + 1, 0, none⟩ = some (.int .i64 (PL : Int)) ∧ u4.cell? ⟨w.heap.size + 1 + 1 + 1, 1, none⟩ = some (.slice av lv cv) ∧ u4.cell? ⟨Bt, 0, none⟩ = some (.int .i64 0) ∧ u4.cell? ⟨Bt, 1, none⟩ = some (.slice e1 m1 q1) ∧ u4.cell? ⟨Bt, 2, none⟩ = some (.slice e2 m2 q2) := by
          refine ⟨?_, g1, ?_, ?_, ?_⟩
          · exact hO.after0 b hg
          · rw [hO.afterT b hg (a := ⟨Bt, 0, none⟩) hBt1 hBt2]; exact (HS.out _ b).2.2.1
          · rw [hO.afterT b hg (a := ⟨Bt, 1, none⟩) hBt1 hBt2]; exact (HS.out _ b).2.2.2.1
          · rw [hO.afterT b hg (a := ⟨Bt, 2, none⟩) hBt1 hBt2]; exact (HS.out _ b).2.2.2.2
        refine hK.out _ _ hHS4 (fun hH => ?_)
        clear hK
        refine wpZ_takeP (i := 13) (v := .pointer (some ⟨w.heap.size + 1 + 1 + 1, 1, none⟩)) rfl (by kernel_rfl) (by kernel_rfl) (by kernel_rfl) (fun _ _ _ h => h) (.inl ⟨by rfl, fun w' hS' => by first | (go_simp; done) | (go_simp; rfl) | (go_simp; intro h; omega) | (go_simp; omega)⟩) hH (by decide) ?_
        simp only [List.getElem_toArray, List.getElem_cons_succ, List.getElem_cons_zero, Act.put, List.setIfInBounds_toArray, List.set_cons_zero, List.set_cons_succ]
        refine wpZ_ready (rs := [14]) (by kernel_rfl) (by simp) ?_
        refine AllZ.last rfl (by kernel_rfl) (fun K hK => ?_) AllZ.nil
        simp only [List.getElem_toArray, List.getElem_cons_succ, List.getElem_cons_zero]
        rw [if_pos (by rfl)]
        go_wp2_with fail
        refine hK.out _ _ ?_
        clear hK
        refine wpZ_done (by kernel_rfl) ?_ _
        have R := hO.step (vs := [⟨0, T.pre ++ zerosL S, T.post ++ zerosL S⟩]) (xs := [(0, .slice ra1 rl1 rc1, .slice ra2 rl2 rc2)]) rfl b (fun j hj => by
          obtain rfl : j = 0 := by simp at hj; omega
          exact ⟨rfl, O1.below (below_then bs2 bs), O2.below bs⟩
          ) hown hg hat
        rw [Hvs.out] at R
        clear hown hg hat hO g1 g2 hHS4 HS hcell HbpB i1 i2 hbt
        go_wp2
        go_roundg (gk - 1)
        case measure => omega
        case rel => exact ⟨k + 1, _, _, _, by omega, by go_num, by rw [e.out]; go_num, rfl, R⟩
      · have hL1 : (L == 0) = false := by simpa using hL
        have hlt := Hlt.out hL
        have e : Hid (seenTo n.trans (k + 1) = sk + 1) := by show _ = _; rw [Hsn.out, if_neg hL]
        have Hvs : Hid (us ++ [⟨0, T.pre ++ zerosL S, zerosL P ++ oneAt S sk⟩, ⟨L, zerosL P ++ oneAt S sk, T.post ++ zerosL S⟩] = busyTo n.trans P S (k + 1)) := by
          show _ = _
          rw [Hnx.out, busyT, if_neg (by rw [HLb.out]; exact hL), HLb.out]
        have Hst : Hid (startL ((PL : Nat) : Int) ((P + sk : Nat) : Int) = zerosL P ++ oneAt S sk) := by show _ = _; rw [HPL.out]; exact start_between hlt h16
        go_upto_region 9 with fail
        clear y0 y1 y2 y3
        have HS : Hid (∀ w', Below w3.heap.size w3 w' → w'.cell? ⟨w.heap.size + 1 + 1 + 1, 0, none⟩ = some (.int .i64 (PL : Int)) ∧ w'.cell? ⟨w.heap.size + 1 + 1 + 1, 1, none⟩ = some (.slice av lv cv) ∧ w'.cell? ⟨Bt, 0, none⟩ = some (.int .i64 L) ∧ w'.cell? ⟨Bt, 1, none⟩ = some (.slice e1 m1 q1) ∧ w'.cell? ⟨Bt, 2, none⟩ = some (.slice e2 m2 q2)) := fun w' h => ⟨(hO.to h).c0, (hO.to h).c1, (hbt.below h).2.1, (hbt.below h).2.2.1, (hbt.below h).2.2.2⟩
        refine wp_region_Z (S := (fun w' => w'.cell? ⟨w.heap.size + 1 + 1 + 1, 0, none⟩ = some (.int .i64 (PL : Int)) ∧ w'.cell? ⟨w.heap.size + 1 + 1 + 1, 1, none⟩ = some (.slice av lv cv) ∧ w'.cell? ⟨Bt, 0, none⟩ = some (.int .i64 L) ∧ w'.cell? ⟨Bt, 1, none⟩ = some (.slice e1 m1 q1) ∧ w'.cell? ⟨Bt, 2, none⟩ = some (.slice e2 m2 q2))) (by kernel_rfl) 23 (HS.out _ (Below.refl _ _).drew) (fun hH => ?_)
        have b : Below w3.heap.size w3 w3.drew := (Below.refl _ _).drew
        obtain ⟨v0, Hv0⟩ : ∃ v0, Hid (w3.drew = v0) := ⟨_, rfl⟩
        rw [Hv0.out] at hH b ⊢
        clear Hv0
        refine wpZ_takeP (i := 0) (v := .pointer (some ⟨w.heap.size + 1 + 1 + 1, 1, none⟩)) rfl (by kernel_rfl) (by kernel_rfl) (by kernel_rfl) (fun _ _ _ h => h) (.inl ⟨by rfl, fun w' hS' => by first | (go_simp; done) | (go_simp; rfl) | (go_simp; intro h; omega) | (go_simp; omega)⟩) hH (by decide) ?_
        simp only [List.getElem_toArray, List.getElem_cons_succ, List.getElem_cons_zero, Act.put, List.setIfInBounds_toArray, List.set_cons_zero, List.set_cons_succ]
        refine wpZ_take (i := 1) (v := .slice av lv cv) rfl (by kernel_rfl) (by kernel_rfl) (by kernel_rfl) (fun _ _ _ h => h) (.inl ⟨by rfl, fun w' hS' => by obtain ⟨s0, s1, s2, s3, s4⟩ := hS'; go_simp⟩) hH rfl (by decide) (by kernel_rfl) (by kernel_rfl) ?_
        simp only [List.getElem_toArray, List.getElem_cons_succ, List.getElem_cons_zero, Act.put, List.setIfInBounds_toArray, List.set_cons_zero, List.set_cons_succ]
        refine wpZ_takeP (i := 2) (v := .func (.func 51) #[] #[.pointer (some ⟨w.heap.size + 1, 0, none⟩)]) rfl (by kernel_rfl) (by kernel_rfl) (by kernel_rfl) (fun _ _ _ h => h) (.inl ⟨by rfl, fun _ _ => rfl⟩) hH (by decide) ?_
        simp only [List.getElem_toArray, List.getElem_cons_succ, List.getElem_cons_zero, Act.put, List.setIfInBounds_toArray, List.set_cons_zero, List.set_cons_succ]
        refine wpZ_takeP (i := 3) (v := .pointer (some ⟨Bt, 1, none⟩)) rfl (by kernel_rfl) (by kernel_rfl) (by kernel_rfl) (fun _ _ _ h => h) (.inl ⟨by rfl, fun w' hS' => by first | (go_simp; done) | (go_simp; rfl) | (go_simp; intro h; omega) | (go_simp; omega)⟩) hH (by decide) ?_
        simp only [List.getElem_toArray, List.getElem_cons_succ, List.getElem_cons_zero, Act.put, List.setIfInBounds_toArray, List.set_cons_zero, List.set_cons_succ]
        refine wpZ_take (i := 4) (v := .slice e1 m1 q1) rfl (by kernel_rfl) (by kernel_rfl) (by kernel_rfl) (fun _ _ _ h => h) (.inl ⟨by rfl, fun w' hS' => by obtain ⟨s0, s1, s2, s3, s4⟩ := hS'; go_simp⟩) hH rfl (by decide) (by kernel_rfl) (by kernel_rfl) ?_
        simp only [List.getElem_toArray, List.getElem_cons_succ, List.getElem_cons_zero, Act.put, List.setIfInBounds_toArray, List.set_cons_zero, List.set_cons_succ]
        refine wpZ_take (i := 6) (v := .agg #[.int .i64 (PL : Int), .slice av lv cv]) rfl (by kernel_rfl) (by kernel_rfl) (by kernel_rfl) (fun _ _ _ h => h) (.inl ⟨by rfl, fun w' hS' => by obtain ⟨s0, s1, s2, s3, s4⟩ := hS'; go_simp⟩) hH rfl (by decide) (by kernel_rfl) (by kernel_rfl) ?_
        simp only [List.getElem_toArray, List.getElem_cons_succ, List.getElem_cons_zero, Act.put, List.setIfInBounds_toArray, List.set_cons_zero, List.set_cons_succ]
        refine wpZ_takeP (i := 7) (v := .int .i64 ((P + sk : Nat) : Int)) rfl (by kernel_rfl) (by kernel_rfl) (by kernel_rfl) (fun _ _ _ h => h) (.inl ⟨by rfl, fun _ _ => rfl⟩) hH (by decide) ?_
        simp only [List.getElem_toArray, List.getElem_cons_succ, List.getElem_cons_zero, Act.put, List.setIfInBounds_toArray, List.set_cons_zero, List.set_cons_succ]
        refine wpZ_takeP (i := 10) (v := .pointer (some ⟨Bt, 0, none⟩)) rfl (by kernel_rfl) (by kernel_rfl) (by kernel_rfl) (fun _ _ _ h => h) (.inl ⟨by rfl, fun w' hS' => by first | (go_simp; done) | (go_simp; rfl) | (go_simp; intro h; omega) | (go_simp; omega)⟩) hH (by decide) ?_
        simp only [List.getElem_toArray, List.getElem_cons_succ, List.getElem_cons_zero, Act.put, List.setIfInBounds_toArray, List.set_cons_zero, List.set_cons_succ]
        refine wpZ_take (i := 11) (v := .int .i64 L) rfl (by kernel_rfl) (by kernel_rfl) (by kernel_rfl) (fun _ _ _ h => h) (.inl ⟨by rfl, fun w' hS' => by obtain ⟨s0, s1, s2, s3, s4⟩ := hS'; go_simp⟩) hH rfl (by decide) (by kernel_rfl) (by kernel_rfl) ?_
        simp only [List.getElem_toArray, List.getElem_cons_succ, List.getElem_cons_zero, Act.put, List.setIfInBounds_toArray, List.set_cons_zero, List.set_cons_succ]
        refine wpZ_take (i := 12) (v := .agg #[.int .i64 (PL : Int), .slice av lv cv]) rfl (by kernel_rfl) (by kernel_rfl) (by kernel_rfl) (fun _ _ _ h => h) (.inl ⟨by rfl, fun w' hS' => by obtain ⟨s0, s1, s2, s3, s4⟩ := hS'; go_simp⟩) hH rfl (by decide) (by kernel_rfl) (by kernel_rfl) ?_
        simp only [List.getElem_toArray, List.getElem_cons_succ, List.getElem_cons_zero, Act.put, List.setIfInBounds_toArray, List.set_cons_zero, List.set_cons_succ]
        refine wpZ_takeP (i := 13) (v := .int .i64 ((P + sk : Nat) : Int)) rfl (by kernel_rfl) (by kernel_rfl) (by kernel_rfl) (fun _ _ _ h => h) (.inl ⟨by rfl, fun _ _ => rfl⟩) hH (by decide) ?_
        simp only [List.getElem_toArray, List.getElem_cons_succ, List.getElem_cons_zero, Act.put, List.setIfInBounds_toArray, List.set_cons_zero, List.set_cons_succ]
        refine wpZ_takeP (i := 15) (v := .func (.func 51) #[] #[.pointer (some ⟨w.heap.size + 1, 0, none⟩)]) rfl (by kernel_rfl) (by kernel_rfl) (by kernel_rfl) (fun _ _ _ h => h) (.inl ⟨by rfl, fun _ _ => rfl⟩) hH (by decide) ?_
        simp only [List.getElem_toArray, List.getElem_cons_succ, List.getElem_cons_zero, Act.put, List.setIfInBounds_toArray, List.set_cons_zero, List.set_cons_succ]
        refine wpZ_takeP (i := 16) (v := .pointer (some ⟨Bt, 2, none⟩)) rfl (by kernel_rfl) (by kernel_rfl) (by kernel_rfl) (fun _ _ _ h => h) (.inl ⟨by rfl, fun w' hS' => by first | (go_simp; done) | (go_simp; rfl) | (go_simp; intro h; omega) | (go_simp; omega)⟩) hH (by decide) ?_
        simp only [List.getElem_toArray, List.getElem_cons_succ, List.getElem_cons_zero, Act.put, List.setIfInBounds_toArray, List.set_cons_zero, List.set_cons_succ]
        refine wpZ_take (i := 17) (v := .slice e2 m2 q2) rfl (by kernel_rfl) (by kernel_rfl) (by kernel_rfl) (fun _ _ _ h => h) (.inl ⟨by rfl, fun w' hS' => by obtain ⟨s0, s1, s2, s3, s4⟩ := hS'; go_simp⟩) hH rfl (by decide) (by kernel_rfl) (by kernel_rfl) ?_
        simp only [List.getElem_toArray, List.getElem_cons_succ, List.getElem_cons_zero, Act.put, List.setIfInBounds_toArray, List.set_cons_zero, List.set_cons_succ]
        refine wpZ_ready (rs := [5]) (by kernel_rfl) (by simp) ?_
        refine AllZ.cons rfl (fun K hK => ?_) AllZ.nil
        simp only [List.getElem_toArray, List.getElem_cons_succ, List.getElem_cons_zero]
        rw [if_pos (by rfl)]
        go_wp2_with fail
        refine (wide_any _ T.pre (w.heap.size + 1) PL v0 (by exact i1.below b) ((HbpB.out _ b).1) ((HbpB.out _ b).2) (by rw [Hl.out.1, HPL.out]; omega) (by omega)).mono ?_
        rintro e v1 ⟨r1, rfl, O1, bs1⟩
        obtain ⟨ra1, rl1, rc1, rfl, _⟩ := id O1.now
        replace O1 := O1.weaken (D' := fun k => w3.heap.size ≤ k) fun k _ hk => Nat.le_trans b.size hk
        rw [show PL - T.pre.length = S by rw [Hl.out.1, HPL.out]; omega] at O1
        replace b := below_then b bs1
        refine hK.out _ _ (HS.out _ b) (fun hH => ?_)
        clear hK
        refine wpZ_ready (rs := [8]) (by kernel_rfl) (by simp) ?_
        refine AllZ.cons rfl (fun K hK => ?_) AllZ.nil
        simp only [List.getElem_toArray, List.getElem_cons_succ, List.getElem_cons_zero]
        rw [if_pos (by rfl)]
        go_wp2_with fail
        refine (shape_start_own _ ⟨(PL : Int), us⟩ ((P + sk : Nat) : Int) v1 (by exact ⟨_, rfl, (hO.to b).trans Htl.out⟩)).mono ?_
        rintro e v2 ⟨r2, rfl, O2, bs2⟩
        obtain ⟨ra2, rl2, rc2, rfl, _⟩ := id O2.now
        replace O2 := O2.weaken (D' := fun k => w3.heap.size ≤ k) fun k _ hk => Nat.le_trans b.size hk
        rw [show startL (NetL.places ⟨(PL : Int), us⟩) ((P + sk : Nat) : Int) = zerosL P ++ oneAt S sk from Hst.out] at O2
        replace b := below_then b bs2
        refine hK.out _ _ (HS.out _ b) (fun hH => ?_)
        clear hK
        refine wpZ_takeP (i := 9) (v := .agg #[.int .i64 0, .slice ra1 rl1 rc1, .slice ra2 rl2 rc2]) rfl (by kernel_rfl) (by kernel_rfl) (by kernel_rfl) (fun _ _ _ h => h) (.inl ⟨by rfl, fun w' hS' => by first | (go_simp; done) | (go_simp; rfl) | (go_simp; intro h; omega) | (go_simp; omega)⟩) hH (by decide) ?_
        simp only [List.getElem_toArray, List.getElem_cons_succ, List.getElem_cons_zero, Act.put, List.setIfInBounds_toArray, List.set_cons_zero, List.set_cons_succ]
        refine wpZ_ready (rs := [14]) (by kernel_rfl) (by simp) ?_
        refine AllZ.cons rfl (fun K hK => ?_) AllZ.nil
        simp only [List.getElem_toArray, List.getElem_cons_succ, List.getElem_cons_zero]
        rw [if_pos (by rfl)]
        go_wp2_with fail
        refine (shape_start_own _ ⟨(PL : Int), us⟩ ((P + sk : Nat) : Int) v2 (by exact ⟨_, rfl, (hO.to b).trans Htl.out⟩)).mono ?_
        rintro e v3 ⟨r3, rfl, O3, bs3⟩
        obtain ⟨ra3, rl3, rc3, rfl, _⟩ := id O3.now
        replace O3 := O3.weaken (D' := fun k => w3.heap.size ≤ k) fun k _ hk => Nat.le_trans b.size hk
        rw [show startL (NetL.places ⟨(PL : Int), us⟩) ((P + sk : Nat) : Int) = zerosL P ++ oneAt S sk from Hst.out] at O3
        replace b := below_then b bs3
        refine hK.out _ _ (HS.out _ b) (fun hH => ?_)
        clear hK
        refine wpZ_ready (rs := [18]) (by kernel_rfl) (by simp) ?_
        refine AllZ.cons rfl (fun K hK => ?_) AllZ.nil
        simp only [List.getElem_toArray, List.getElem_cons_succ, List.getElem_cons_zero]
        rw [if_pos (by rfl)]
        go_wp2_with fail
        refine (wide_any _ T.post (w.heap.size + 1) PL v3 (by exact i2.below b) ((HbpB.out _ b).1) ((HbpB.out _ b).2) (by rw [Hl.out.2, HPL.out]; omega) (by omega)).mono ?_
        rintro e v4 ⟨r4, rfl, O4, bs4⟩
        obtain ⟨ra4, rl4, rc4, rfl, _⟩ := id O4.now
        replace O4 := O4.weaken (D' := fun k => w3.heap.size ≤ k) fun k _ hk => Nat.le_trans b.size hk
        rw [show PL - T.post.length = S by rw [Hl.out.2, HPL.out]; omega] at O4
        replace b := below_then b bs4
        refine hK.out _ _ (HS.out _ b) (fun hH => ?_)
        clear hK
        refine wpZ_takeP (i := 19) (v := .agg #[.int .i64 L, .slice ra3 rl3 rc3, .slice ra4 rl4 rc4]) rfl (by kernel_rfl) (by kernel_rfl) (by kernel_rfl) (fun _ _ _ h => h) (.inl ⟨by rfl, fun w' hS' => by first | (go_simp; done) | (go_simp; rfl) | (go_simp; intro h; omega) | (go_simp; omega)⟩) hH (by decide) ?_
        simp only [List.getElem_toArray, List.getElem_cons_succ, List.getElem_cons_zero, Act.put, List.setIfInBounds_toArray, List.set_cons_zero, List.set_cons_succ]
        have bs := below_new v4 (.cells #[.int .i64 0, .slice ra1 rl1 rc1, .slice ra2 rl2 rc2, .int .i64 L, .slice ra3 rl3 rc3, .slice ra4 rl4 rc4] 54)
        obtain ⟨Bb, HBb⟩ : ∃ B, Hid (v4.heap.size = B) := ⟨_, rfl⟩
        have hcell : ∀ j u, (tvCells [(0, .slice ra1 rl1 rc1, .slice ra2 rl2 rc2), (L, .slice ra3 rl3 rc3, .slice ra4 rl4 rc4)])[j]? = some u → (v4.alloc (.cells #[.int .i64 0, .slice ra1 rl1 rc1, .slice ra2 rl2 rc2, .int .i64 L, .slice ra3 rl3 rc3, .slice ra4 rl4 rc4] 54)).cell? ⟨Bb, 0 + j, none⟩ = some u := fun j u hj => by
          rw [← HBb.out, Nat.zero_add, World.cell?_alloc_at _ _ _ _ rfl]
          simpa [tvCells] using hj
        obtain ⟨u3, Hu3⟩ : ∃ v, Hid (v4.alloc (.cells #[.int .i64 0, .slice ra1 rl1 rc1, .slice ra2 rl2 rc2, .int .i64 L, .slice ra3 rl3 rc3, .slice ra4 rl4 rc4] 54) = v) := ⟨_, rfl⟩
        rw [Hu3.out] at bs hcell
        refine wpZ_ready (rs := [20]) (by kernel_rfl) (by simp) ?_
        refine AllZ.cons rfl (fun K hK => ?_) AllZ.nil
        simp only [List.getElem_toArray, List.getElem_cons_succ, List.getElem_cons_zero]
        rw [if_pos (by rfl)]
        go_wp2_with fail
        rw [Hu3.out, HBb.out]
        replace b := below_then b bs
        refine hK.out _ _ (HS.out _ b) (fun hH => ?_)
        clear hK
        refine wpZ_ready (rs := [21]) (by kernel_rfl) (by simp) ?_
        refine AllZ.cons rfl (fun K hK => ?_) AllZ.nil
        simp only [List.getElem_toArray, List.getElem_cons_succ, List.getElem_cons_zero]
        refine wpr_append_net (by rfl) _ _ rfl (w.heap.size + 1 + 1 + 1 + 1) u3 (.slice av lv cv) tv [(0, .slice ra1 rl1 rc1, .slice ra2 rl2 rc2), (L, .slice ra3 rl3 rc3, .slice ra4 rl4 rc4)] Bb 0 2 2 (hO.to b).own rfl rfl rfl hcell (by intro u hu; simp only [tvCells, List.flatMap_cons, List.flatMap_nil, List.append_nil, List.cons_append, List.nil_append, List.mem_cons, List.not_mem_nil, or_false] at hu; rcases hu with rfl | rfl | rfl | rfl | rfl | rfl <;> rfl) (by have := Htl2.out; omega) ((hO.to b).size) ?_
        intro nv u4 hown hg hat
        obtain ⟨na, nl, nc, rfl⟩ := ownsRow_slice hown
        obtain ⟨g1, g2⟩ := hO.after b hg
        have hHS4 : u4.cell? ⟨w.heap.size + 1 + 1 + 1, 0, none⟩ = some (.int .i64 (PL : Int)) ∧ u4.cell? ⟨w.heap.size + 1 + 1 + 1, 1, none⟩ = some (.slice av lv cv) ∧ u4.cell? ⟨Bt, 0, none⟩ = some (.int .i64 L) ∧ u4.cell? ⟨Bt, 1, none⟩ = some (.slice e1 m1 q1) ∧ u4.cell? ⟨Bt, 2, none⟩ = some (.slice e2 m2 q2) := by
          refine ⟨?_, g1, ?_, ?_, ?_⟩
          · exact hO.after0 b hg
          · rw [hO.afterT b hg (a := ⟨Bt, 0, none⟩) hBt1 hBt2]; exact (HS.out _ b).2.2.1
          · rw [hO.afterT b hg (a := ⟨Bt, 1, none⟩) hBt1 hBt2]; exact (HS.out _ b).2.2.2.1
          · rw [hO.afterT b hg (a := ⟨Bt, 2, none⟩) hBt1 hBt2]; exact (HS.out _ b).2.2.2.2
        refine hK.out _ _ hHS4 (fun hH => ?_)
        clear hK
        refine wpZ_takeP (i := 22) (v := .pointer (some ⟨w.heap.size + 1 + 1 + 1, 1, none⟩)) rfl (by kernel_rfl) (by kernel_rfl) (by kernel_rfl) (fun _ _ _ h => h) (.inl ⟨by rfl, fun w' hS' => by first | (go_simp; done) | (go_simp; rfl) | (go_simp; intro h; omega) | (go_simp; omega)⟩) hH (by decide) ?_
        simp only [List.getElem_toArray, List.getElem_cons_succ, List.getElem_cons_zero, Act.put, List.setIfInBounds_toArray, List.set_cons_zero, List.set_cons_succ]
        refine wpZ_ready (rs := [23]) (by kernel_rfl) (by simp) ?_
        refine AllZ.last rfl (by kernel_rfl) (fun K hK => ?_) AllZ.nil
        simp only [List.getElem_toArray, List.getElem_cons_succ, List.getElem_cons_zero]
        rw [if_pos (by rfl)]
        go_wp2_with fail
        refine hK.out _ _ ?_
        clear hK
        refine wpZ_done (by kernel_rfl) ?_ _
        have R := hO.step (vs := [⟨0, T.pre ++ zerosL S, zerosL P ++ oneAt S sk⟩, ⟨L, zerosL P ++ oneAt S sk, T.post ++ zerosL S⟩]) (xs := [(0, .slice ra1 rl1 rc1, .slice ra2 rl2 rc2), (L, .slice ra3 rl3 rc3, .slice ra4 rl4 rc4)]) rfl b (fun j hj => by
          rcases (show j = 0 ∨ j = 1 by simp at hj; omega) with rfl | rfl
          · exact ⟨rfl, O1.below (below_then bs2 (below_then bs3 (below_then bs4 bs))), O2.below (below_then bs3 (below_then bs4 bs))⟩
          · exact ⟨rfl, O3.below (below_then bs4 bs), O4.below bs⟩
          ) hown hg hat
        rw [Hvs.out] at R
        clear hown hg hat hO g1 g2 hHS4 HS hcell HbpB i1 i2 hbt
        go_wp2
        go_roundg (gk - 1)
        case measure => omega
        case rel => exact ⟨k + 1, _, _, _, by omega, by go_num, by rw [e.out]; go_num, rfl, R⟩
    · obtain rfl : k = len := by omega
      obtain ⟨z0, z1⟩ := And.intro hO.c0 hO.c1
      obtain ⟨r0, r1, r2⟩ := hbr.below hbw
      have q3 : wr.frozen? ⟨w.heap.size + 1 + 1, 0, none⟩ = false := by rw [hbw.frozen (p := ⟨w.heap.size + 1 + 1, 0, none⟩) (by simp [hsz])]; exact hfr 0
      have q4 : wr.frozen? ⟨w.heap.size + 1 + 1, 1, none⟩ = false := by rw [hbw.frozen (p := ⟨w.heap.size + 1 + 1, 1, none⟩) (by simp [hsz])]; exact hfr 1
      obtain ⟨W2, HW2⟩ : ∃ W2, Hid ((wr.setCell ⟨w.heap.size + 1 + 1, 0, none⟩ (.int .i64 (PL : Int))).setCell ⟨w.heap.size + 1 + 1, 1, none⟩ (.slice av lv cv) = W2) := ⟨_, rfl⟩
      have hTr0 := ((hO.on Htl.out).set (a := ⟨w.heap.size + 1 + 1, 0, none⟩) (by show ¬ _ < w.heap.size + 1 + 1; omega) (.int .i64 (PL : Int))).set (a := ⟨w.heap.size + 1 + 1, 1, none⟩) (by show ¬ _ < w.heap.size + 1 + 1; omega) (.slice av lv cv)
      rw [HW2.out, Hus.out, ← HL.out] at hTr0
      have hTr : On (fun k => w.heap.size ≤ k) W2 (fun w'' => Net w'' (.agg #[.int .i64 (PL : Int), .slice av lv cv]) ⟨(PL : Int), busyTo n.trans P S n.trans.length⟩) := (hTr0.weaken fun k _ hk => by omega).mono fun w'' h => ⟨_, rfl, h⟩
      clear hTr0
      have hb5 := ((below_then c0 hbw).setCell (p := ⟨w.heap.size + 1 + 1, 0, none⟩) (by show _ ≤ w.heap.size + 1 + 1; omega) (.int .i64 (PL : Int))).setCell (p := ⟨w.heap.size + 1 + 1, 1, none⟩) (by show _ ≤ w.heap.size + 1 + 1; omega) (.slice av lv cv)
      have w1' : (wr.setCell ⟨w.heap.size + 1 + 1, 0, none⟩ (.int .i64 (PL : Int))).cell? ⟨w.heap.size + 1 + 1, 1, none⟩ = some (.slice none 0 0) := by rw [World.cell?_setCell_other _ _ _ _ (by simp)]; exact r2
      have u0 : W2.cell? ⟨w.heap.size + 1 + 1, 0, none⟩ = some (.int .i64 (PL : Int)) := by
        rw [← HW2.out, World.cell?_setCell_other _ _ _ _ (by simp)]
        exact World.cell?_setCell_same _ _ _ r1
      have u1 : W2.cell? ⟨w.heap.size + 1 + 1, 1, none⟩ = some (.slice av lv cv) := by
        rw [← HW2.out]
        exact World.cell?_setCell_same _ _ _ w1'
      rw [HW2.out] at hb5
      clear w1' hO
      go_wp2_with fail
      rw [HW2.out]
      refine bodyPost_ret (v := .agg #[.int .i64 (PL : Int), .slice av lv cv]) ?_ rfl ⟨_, rfl, hTr, hb5⟩
      simp [results, Try.results35, go_sem, u0, u1]

end Go.Proofs.Ytffaamljogbmlaa

/- Package cases as it landed: Busy. -/
namespace Go.Proofs.Ytffaamljogbmlaa
open Go.RowKit
set_option linter.unusedVariables false
set_option linter.unusedSimpArgs false
set_option maxRecDepth 4000

/-- A box that a net is answered from. -/
structure ResN (w : World) (R : Nat) (a b : Value) : Prop where
  cells : w.heap[R]? = some (.cells #[a, b] 24 (0, 0))
theorem ResN.below {w w' : World} {R : Nat} {a b : Value} (h : ResN w R a b) (hb : Below w.heap.size w w') : ResN w' R a b :=
  ⟨(hb.block R (Array.getElem?_eq_some_iff.1 h.cells).1).trans h.cells⟩
theorem ResN.facts {w : World} {R : Nat} {a b : Value} (h : ResN w R a b) :
    w.cell? ⟨R, 0, none⟩ = some a ∧ w.cell? ⟨R, 1, none⟩ = some b ∧ w.frozen? ⟨R, 0, none⟩ = false ∧ w.frozen? ⟨R, 1, none⟩ = false ∧ R < w.heap.size := by
  have e := h.cells
  exact ⟨by simp [World.cell?, e], by simp [World.cell?, e], by simp [World.frozen?, e], by simp [World.frozen?, e], (Array.getElem?_eq_some_iff.1 e).1⟩
theorem ResN.fill {w W w0 : World} {B R : Nat} {a b x y : Value} (h : ResN w R a b) (hb : Below B w0 w) (hR : B ≤ R) (hW : (w.setCell ⟨R, 0, none⟩ x).setCell ⟨R, 1, none⟩ y = W) :
    W.cell? ⟨R, 0, none⟩ = some x ∧ W.cell? ⟨R, 1, none⟩ = some y ∧ Below B w0 W := by
  obtain ⟨q1, q2, _, _, _⟩ := h.facts
  have e : (w.setCell ⟨R, 0, none⟩ x).cell? ⟨R, 1, none⟩ = some b := by rw [World.cell?_setCell_other _ _ _ _ (by simp)]; exact q2
  subst hW
  refine ⟨?_, ?_, (hb.setCell (p := ⟨R, 0, none⟩) hR _).setCell (p := ⟨R, 1, none⟩) hR _⟩
  · rw [World.cell?_setCell_other _ _ _ _ (by simp)]
    exact World.cell?_setCell_same _ _ _ q1
  · exact World.cell?_setCell_same _ _ _ e
theorem results_netC {fn : Func} {p u : Tmp} {tmps : Array Value} {w : World} {b : Nat} {x y v : Value} (h : fn.results = #[.cell p 24, .tmp u]) (hp : tmps.getD p undef = .pointer (some ⟨b, 0, none⟩)) (hu : tmps.getD u undef = v) (h1 : w.cell? ⟨b, 0, none⟩ = some x) (h2 : w.cell? ⟨b, 1, none⟩ = some y) :
    (results fn tmps).run Try.prog w = .ok (.tuple #[.agg #[x, y], v]) w := by
  rw [results_cell_tmp h, hp, hu]
  simp [asAddr, go_sem, h1, h2]
theorem boxesNN (w : World) (x y : Value) : ∃ w0, Hid ((w.alloc (.cells #[x, y] 24)).alloc (.cells #[.int .i64 0, .slice none 0 0] 24) = w0) ∧ Box2 w0 w.heap.size x y ∧ ResN w0 (w.heap.size + 1) (.int .i64 0) (.slice none 0 0) ∧ Below w.heap.size w w0 := by
  have b1 := below_new w (.cells #[x, y] 24)
  have h1 := box2_new w x y 24
  obtain ⟨w1, H1⟩ : ∃ w1, w.alloc (.cells #[x, y] 24) = w1 := ⟨_, rfl⟩
  have s1 : w1.heap.size = w.heap.size + 1 := by rw [← H1]; simp
  rw [H1] at b1 h1 ⊢
  have b2 := below_new w1 (.cells #[.int .i64 0, .slice none 0 0] 24)
  refine ⟨_, rfl, h1.below b2, ⟨?_⟩, below_then b1 b2⟩
  rw [← s1]
  exact heap_alloc_new w1 _
theorem net_empty (w : World) : Net w (.agg #[.int .i64 0, .slice none 0 0]) ⟨0, []⟩ := ⟨_, rfl, none, 0, 0, rfl, rfl, by omega, ⟨Nat.le_refl _, by omega, fun _ => rfl⟩, fun j hj => absurd hj (Nat.not_lt_zero _)⟩

set_option maxHeartbeats 2000000 in
theorem cases_busy_own (v : Value) (n : NetL) (w : World) (hv : Net w v n) : Calls Try.prog 12 #[v] w fun e w' => ∃ r, e = .returned (.tuple #[r, .int .i64 (busyN n).2]) ∧ On (fun k => w.heap.size ≤ k) w' (fun w'' => Net w'' r (busyN n).1) ∧ Below w.heap.size w w' := by
  obtain ⟨tv, rfl, hT⟩ := hv
  obtain ⟨ta, len, tc, rfl, hlen, hmx, _⟩ := id hT
  obtain ⟨w0, Hw0, hbn, hR, c0⟩ := boxesNN w (.int .i64 n.places) (.slice ta len tc)
  have hv : Net w0 (.agg #[.int .i64 n.places, .slice ta len tc]) n := ⟨_, rfl, hT.below c0⟩
  have HL : Hid (n.trans.length = len) := hlen
  clear hlen hT
  obtain ⟨x0, x1, x2⟩ := id hbn
  go_enter Try.func12, Try.ntmps12
  go_upto_region 1 with fail
  rw [Hw0.out]
  clear Hw0
  go_wp2_with fail
  refine (net_wrong _ n w0 (by exact hv)).mono ?_
  rintro e w1 ⟨rfl, b⟩
  replace c0 := below_then c0 b
  replace hv := hv.below b
  replace hbn := hbn.below b
  replace hR := hR.below b
  clear b x0 x1 x2
  obtain ⟨x0, x1, x2⟩ := id hbn
  obtain ⟨q1, q2, q3, q4, q5⟩ := hR.facts
  cases hn : netOk n
  · have E : Hid (busyN n = (⟨0, []⟩, 2)) := busy_bad hn
    rw [wrongL_not hn]
    clear hn
    obtain ⟨W2, HW2⟩ : ∃ W2, Hid ((w1.setCell ⟨w.heap.size + 1, 0, none⟩ (.int .i64 0)).setCell ⟨w.heap.size + 1, 1, none⟩ (.slice none 0 0) = W2) := ⟨_, rfl⟩
    obtain ⟨z1, z2, z3⟩ := hR.fill c0 (by omega) HW2.out
    go_wp2
    rw [HW2.out]
    exact bodyPost_ret (v := .tuple #[.agg #[.int .i64 0, .slice none 0 0], .int .i64 2]) (results_netC rfl rfl rfl z1 z2) rfl ⟨_, by rw [E.out], fun w' _ _ => by rw [E.out]; exact net_empty w', z3⟩
  · rw [wrongL_ok hn]
    have hp : 0 ≤ n.places ∧ n.places ≤ 16 ∧ len ≤ 24 := by
      have hn' := hn
      unfold netOk headOk at hn'
      simp only [Bool.and_eq_true, decide_eq_true_eq] at hn'
      rw [HL.out] at hn'
      omega
    go_wp2_with fail
    refine (seen_any _ n w1 (by exact hv)).mono ?_
    rintro e w2 ⟨rfl, b⟩
    replace c0 := below_then c0 b
    replace hv := hv.below b
    replace hbn := hbn.below b
    replace hR := hR.below b
    clear b x0 x1 x2 q1 q2 q3 q4 q5
    obtain ⟨x0, x1, x2⟩ := id hbn
    obtain ⟨q1, q2, q3, q4, q5⟩ := hR.facts
    have hs0 := seen_le n.trans n.trans.length
    obtain ⟨S, HS⟩ : ∃ S, Hid (seenTo n.trans n.trans.length = S) := ⟨_, rfl⟩
    obtain ⟨P, HP⟩ : ∃ P : Nat, n.places = (P : Int) := ⟨n.places.toNat, by omega⟩
    have Hn : Hid (netOk n = true) := hn
    rw [HS.out] at hs0 ⊢
    rw [HL.out] at hs0
    rw [HP] at hp
    have HP' : Hid (n.places = (P : Int)) := HP
    rw [HP] at x1 hbn hv ⊢
    clear hn HP
    by_cases hf : (P : Int) + (S : Int) > 16 ∨ len + S > 24
    · have E : Hid (busyN n = (⟨0, []⟩, 4)) := busy_full Hn.out (by rw [HS.out, HP'.out, HL.out]; exact hf)
      obtain ⟨W2, HW2⟩ : ∃ W2, Hid ((w2.setCell ⟨w.heap.size + 1, 0, none⟩ (.int .i64 0)).setCell ⟨w.heap.size + 1, 1, none⟩ (.slice none 0 0) = W2) := ⟨_, rfl⟩
      obtain ⟨z1, z2, z3⟩ := hR.fill c0 (by omega) HW2.out
      by_cases hf1 : (16 : Int) < (P : Int) + (S : Int)
      · clear hf
        go_wp2
        rw [HW2.out]
        exact bodyPost_ret (v := .tuple #[.agg #[.int .i64 0, .slice none 0 0], .int .i64 4]) (results_netC rfl rfl rfl z1 z2) rfl ⟨_, by rw [E.out], fun w' _ _ => by rw [E.out]; exact net_empty w', z3⟩
      · have hf1' : decide ((16 : Int) < (P : Int) + (S : Int)) = false := decide_eq_false hf1
        have hf2 : (24 : Int) < (len : Int) + (S : Int) := by omega
        have hf3 : ¬ (16 < P + S) := by omega
        have hf4 : 24 < len + S := by omega
        clear hf hf1
        go_wp2
        rw [HW2.out]
        exact bodyPost_ret (v := .tuple #[.agg #[.int .i64 0, .slice none 0 0], .int .i64 4]) (results_netC rfl rfl rfl z1 z2) rfl ⟨_, by rw [E.out], fun w' _ _ => by rw [E.out]; exact net_empty w', z3⟩
    · have hf1' : decide ((16 : Int) < (P : Int) + (S : Int)) = false := decide_eq_false (by omega)
      have hf2' : decide ((24 : Int) < (len : Int) + (S : Int)) = false := decide_eq_false (by omega)
      have hf3 : ¬ (16 < P + S) := by omega
      have hf4 : ¬ (24 < len + S) := by omega
      have E : Hid (busyN n = (⟨((P + S : Nat) : Int), busyTo n.trans P S n.trans.length⟩, 0)) := by
        show _ = _
        rw [busy_ok Hn.out (by rw [HS.out, HP'.out, HL.out]; exact hf), HS.out, HP'.out]
        congr 2
      have hv2 : Net w2 (.agg #[.int .i64 n.places, .slice ta len tc]) n := by rw [HP'.out]; exact hv
      clear hf
      go_wp2_with fail
      have hcall := parted_any (.agg #[.int .i64 n.places, .slice ta len tc]) n (P + S) P S w2 hv2 Hn.out HP'.out HS.out.symm rfl (by omega) (by rw [HL.out]; omega)
      rw [HP'.out, show (((P + S : Nat) : Int)) = (P : Int) + (S : Int) by omega] at hcall
      refine hcall.mono ?_
      clear hcall
      rintro e w3 ⟨r, rfl, hO, b⟩
      obtain ⟨tv', rfl, hT'⟩ := id hO.now
      obtain ⟨ta', len', tc', rfl, _⟩ := id hT'
      have hDr : ¬ (fun k => w2.heap.size ≤ k) (w.heap.size + 1) := by show ¬ _ ≤ w.heap.size + 1; omega
      replace c0 := below_then c0 b
      replace hR := hR.below b
      clear b x0 x1 x2 q1 q2 q3 q4 q5 hT'
      obtain ⟨q1, q2, q3, q4, q5⟩ := hR.facts
      obtain ⟨W2, HW2⟩ : ∃ W2, Hid ((w3.setCell ⟨w.heap.size + 1, 0, none⟩ (.int .i64 ((P : Int) + (S : Int)))).setCell ⟨w.heap.size + 1, 1, none⟩ (.slice ta' len' tc') = W2) := ⟨_, rfl⟩
      obtain ⟨z1, z2, z3⟩ := hR.fill c0 (by omega) HW2.out
      have hN := (hO.set (a := ⟨w.heap.size + 1, 0, none⟩) hDr (.int .i64 ((P : Int) + (S : Int)))).set (a := ⟨w.heap.size + 1, 1, none⟩) hDr (.slice ta' len' tc')
      rw [HW2.out] at hN
      go_wp2
      rw [HW2.out]
      exact bodyPost_ret (v := .tuple #[.agg #[.int .i64 ((P : Int) + (S : Int)), .slice ta' len' tc'], .int .i64 0]) (results_netC rfl rfl rfl z1 z2) rfl ⟨_, by rw [E.out], (hN.weaken fun k _ hk => by have : w2.heap.size ≤ k := hk; omega).mono fun w'' h => by rw [E.out]; exact h, z3⟩
theorem cases_busy (v : Value) (n : NetL) (w : World) (hv : Net w v n) : Calls Try.prog 12 #[v] w fun e w' => GivesN w (busyN n) e w' :=
  (cases_busy_own v n w hv).mono fun _ _ ⟨r, h1, h2, h3⟩ => ⟨r, h1, h2.now, h3⟩

end Go.Proofs.Ytffaamljogbmlaa

/- What package cases promises, as it landed. -/
namespace Go.Proofs.Ytffaamljogbmlaa
set_option linter.unusedVariables false

end Go.Proofs.Ytffaamljogbmlaa
