/- Package cover as it landed: which has more, which is below, what firing comes to, where a mark outgrew another. -/
import Derived.Test.YtbpkebkblkjdhaaKnotAt
import Derived.Test.YtbpkebkblkjdhaaPlain5
import Derived.Test.YtbpkebkblkjdhaaNet6
import Derived.BigRegion
namespace Go.Proofs.Ytbpkebkblkjdhaa
open Go.RowKit
set_option linter.unusedVariables false

set_option maxHeartbeats 400000 in
theorem cmore_any (x y : Int) (w : World) :
    Calls Try.prog 33 #[.int .i64 x, .int .i64 y] w fun e w' => e = .returned (.bool (moreL x y)) ∧ w' = w := by
  by_cases h1 : y = -1
  · subst h1
    go_enter Try.func33, Try.ntmps33
    go_wp2
    go_ret
    exact ⟨rfl, rfl⟩
  · have n1 : (y != -1) = true := by simpa using h1
    by_cases h2 : x = -1
    · subst h2
      go_enter Try.func33, Try.ntmps33
      go_wp2
      go_ret
      exact ⟨ret_bool (by simp [moreL, h1]), rfl⟩
    · have n2 : (x == -1) = false := by simpa using h2
      by_cases h3 : y < x
      · go_enter Try.func33, Try.ntmps33
        go_wp2
        go_ret
        exact ⟨ret_bool (by simp [moreL, h1, h3]), rfl⟩
      · go_enter Try.func33, Try.ntmps33
        go_wp2
        go_ret
        exact ⟨ret_bool (by simp [moreL, h1, h2, h3]), rfl⟩

set_option maxHeartbeats 1000000 in
theorem cbelow_any (v u : Value) (xs ys : List Int) (w : World) (hv : Ints w v xs) (hu : Ints w u ys) (hl : xs.length = ys.length) :
    Calls Try.prog 44 #[v, u] w fun e w' => e = .returned (.bool (belowL xs ys)) ∧ ∃ m, w' = w.drewN m := by
  obtain ⟨a, la, ca, rfl, hla, hma, hsa, hra⟩ := hv
  obtain ⟨b, lb, cb, rfl, hlb, hmb, hsb, hrb⟩ := hu
  rw [hla, hlb] at hl
  have Hno : Hid (∀ k, k < la → moreL (nth xs k) (nth ys k) = true → belowL xs ys = false) := fun k hk h => belowTo_no (by omega) h
  have Hst : Hid _ := belowTo_succ xs ys
  have HA : Hid (belowTo xs ys la = belowL xs ys) := by show _ = _; rw [belowL, hlb, hl]
  have Hl : Hid (la = lb) := hl
  clear hl
  go_enter Try.func44, Try.ntmps44
  go_wp2_with fail
  go_loopw [8] (fun i wr => ∃ k : Nat, k ≤ la ∧ i = .int .i64 k ∧ Hid (belowTo xs ys k = true) ∧ ∃ m, wr = w.drewN m) (fun i _ => la - (intOf i).toNat)
  case atStart => exact ⟨0, Nat.zero_le _, rfl, rfl, 0, rfl⟩
  case round =>
    obtain ⟨k, hk, rfl, hB, m, rfl⟩ := hrel
    by_cases hkn : k < la
    · obtain ⟨b1, o1, rfl, hb1, hc1⟩ := hra k (by omega)
      obtain ⟨b2, o2, rfl, hb2, hc2⟩ := hrb k (by have := Hl.out; omega)
      have hk1 : k < lb := by have := Hl.out; omega
      have hc1' : (w.drewN m).cell? ⟨b1, o1 + k, none⟩ = some (.int .i64 (nth xs k)) := by simpa using hc1
      have hc2' : (w.drewN m).cell? ⟨b2, o2 + k, none⟩ = some (.int .i64 (nth ys k)) := by simpa using hc2
      have Hs : Hid _ := Hst.out k
      have Hn : Hid _ := Hno.out k hkn
      clear hra hrb Hst Hno hc1 hc2
      obtain ⟨wd, Hwd⟩ : ∃ wd, Hid (w.drewN m = wd) := ⟨_, rfl⟩
      rw [Hwd.out] at hc1' hc2' ⊢
      go_wp2_with fail
      go_quiet ((go_at_call 33; exact Calls.quiet_of_same (cmore_any _ _ _)))
      have Hd : Hid (wd.drewN nq = w.drewN (m + nq)) := by show _ = _; rw [← Hwd.out]; exact World.drewN_drewN _ _ _
      rw [Hd.out]
      clear hc1' hc2' Hwd
      cases hm : moreL (nth xs k) (nth ys k)
      · have E : Hid (belowTo xs ys (k + 1) = true) := by show _ = _; rw [Hs.out, hB.out, hm]; rfl
        clear Hs Hn hm
        go_wp2
        go_roundw
        case rel => exact ⟨k + 1, by omega, by go_num, E, _, rfl⟩
        case measure => simp [intOf]; omega
      · have E : Hid _ := Hn.out hm
        clear Hs Hn hm
        go_wp2
        go_ret
        exact ⟨ret_bool E.out.symm, _, rfl⟩
    · obtain rfl : k = la := by omega
      have E : Hid (belowL xs ys = true) := by show _ = _; rw [← HA.out]; exact hB.out
      go_wp2
      go_ret
      exact ⟨ret_bool E.out.symm, _, rfl⟩

theorem heap_alloc_at (w : World) (o : Obj) : (w.alloc o).heap[w.heap.size]? = some o := by
  show (w.heap.push o)[w.heap.size]? = some o
  simp

theorem cell_new_k (W : World) (v : Value) (t : TypeId) : (W.alloc (.cells #[v] t)).cell? ⟨W.heap.size, 0, none⟩ = some v := by
  rw [World.cell?_alloc_at _ _ _ _ rfl]
  rfl
theorem cell_alloc_k {W : World} {b off : Nat} {v : Value} {o : Obj} (h : W.cell? ⟨b, off, none⟩ = some v) : (W.alloc o).cell? ⟨b, off, none⟩ = some v := by
  have hlt : b < W.heap.size := by
    rcases Nat.lt_or_ge b W.heap.size with h1 | h1
    · exact h1
    · simp [World.cell?, Array.getElem?_eq_none h1] at h
  exact ((below_new W o).cell (p := ⟨b, off, none⟩) hlt).trans h

/-- 'make' of a row of the call's own. -/
theorem make_own (w : World) (n : Nat) (hn : n ≤ 17592186044416) :
    ∃ w1, (Instr.makeSlice 25 (.int .i64 (n : Int)) (.int .i64 (n : Int))).run Try.prog w = .ok (.slice (some ⟨w.heap.size, 0, none⟩) n n) w1 ∧
      Own w.heap.size w w1 (.slice (some ⟨w.heap.size, 0, none⟩) n n) (mapTo n fun _ => 0) := by
  obtain ⟨i0, hi, hz0, hz1, hz2⟩ := info_parts info_int
  have h := run_make (P := Try.prog) w 25 3 i0 (.int .i64 0) Try.underlying25 hi hz0 .i64 .i64 n n (by omega) (by omega) (by rw [hz2]; omega) (by omega)
  simp only [Int.toNat_natCast] at h
  refine ⟨_, h, ⟨by simp [mapTo], .inr ⟨w.heap.size, n, _, by rw [mapTo_length], Nat.le_refl _, heap_alloc_at w _, by rw [mapTo_length]; exact Nat.le_refl _, by unfold maxLen; omega, by simp [size_madeCells, hz1], ?_⟩⟩, (Below.refl _ _).alloc (Nat.le_refl _) _, by simp⟩
  rw [hz1, Nat.mul_one, Nat.mul_one, mapTo_length]
  refine List.ext_getElem? fun i => ?_
  by_cases hin : i < n
  · simp [madeCells, mapTo, Value.cells, hin, Nat.mod_one]
  · simp [madeCells, mapTo, hin]

theorem mapTo_set (n : Nat) (f : Nat → Int) {k : Nat} (x : Int) {g : Nat → Int} (hx : g k = x) (hg : ∀ j, j < n → j ≠ k → g j = f j) : (mapTo n f).set k x = mapTo n g := by
  refine List.ext_getElem? fun i => ?_
  rw [List.getElem?_set, mapTo_length]
  by_cases hin : i < n
  · by_cases e : k = i
    · subst e
      simp [mapTo, hin, hx]
    · simp only [e, if_false]
      simp [mapTo, hin, hg i hin (fun q => e q.symm)]
  · simp [mapTo, hin]
    omega

theorem mapTo_congr {n : Nat} {f g : Nat → Int} (h : ∀ j, j < n → f j = g j) : mapTo n f = mapTo n g := by
  unfold mapTo
  exact List.map_congr_left fun j hj => h j (List.mem_range.1 hj)
theorem mapTo_self (xs : List Int) : mapTo xs.length (nth xs) = xs := eq_of_at (mapTo_length _ _) fun p => by
  by_cases hp : p < xs.length
  · rw [mapTo_nth _ _ _ hp]
  · rw [nth_past _ p (by rw [mapTo_length]; omega), nth_past xs p (by omega)]

set_option maxHeartbeats 1000000 in
theorem cfired_any (v c1 c2 : Value) (m : List Int) (t : TranL) (w : World) (hv : Ints w v m) (h1 : Ints w c1 t.pre) (h2 : Ints w c2 t.post) (hl1 : t.pre.length = m.length) (hl2 : t.post.length = m.length)
    (hb : ∀ p, (-1 ≤ nth m p ∧ nth m p ≤ 2000000) ∧ (0 ≤ nth t.pre p ∧ nth t.pre p ≤ 9) ∧ 0 ≤ nth t.post p ∧ nth t.post p ≤ 9) :
    Calls Try.prog 45 #[v, .agg #[.int .i64 t.label, c1, c2]] w fun e w' => ∃ g, e = .returned (.slice (some ⟨g, 0, none⟩) m.length m.length) ∧ Own w.heap.size w w' (.slice (some ⟨g, 0, none⟩) m.length m.length) (omFire t m) := by
  have b1 := below_new w (.cells #[.int .i64 t.label, c1, c2] 62)
  have hbx := box3_new w (.int .i64 t.label) c1 c2 62
  replace hv := hv.below b1
  replace h1 := h1.below b1
  replace h2 := h2.below b1
  obtain ⟨w0, Hw0⟩ : ∃ w0, Hid (w.alloc (.cells #[.int .i64 t.label, c1, c2] 62) = w0) := ⟨_, rfl⟩
  rw [Hw0.out] at b1 hbx hv h1 h2
  obtain ⟨a, len, cap, rfl, hlen, hmx, hsh, hr⟩ := id hv
  obtain ⟨a1, l1, k1, rfl, hlen1, _, _, hr1⟩ := id h1
  obtain ⟨a2, l2, k2, rfl, hlen2, _, _, hr2⟩ := id h2
  have Hm1 : Hid (l1 = len) := by show _ = _; omega
  have Hm2 : Hid (l2 = len) := by show _ = _; omega
  obtain ⟨w1, hmk, hO⟩ := make_own w0 len hmx
  have hO0 : Own w0.heap.size w0 w1 (.slice (some ⟨w0.heap.size, 0, none⟩) len len) (mapTo len fun p => if p < 0 then omAt t m p else 0) := by simpa using hO
  clear hO
  have hml : m.length = len := hlen
  have HF : Hid (omFire t m = mapTo len (omAt t m)) := by show _ = _; rw [omFire, hml]
  rw [HF.out, hml]
  have HL : Hid (m.length = len ∧ t.pre.length = len ∧ t.post.length = len) := ⟨hml, by omega, by omega⟩
  clear hv h1 h2 hsh hml hlen hlen1 hlen2 hl1 hl2
  obtain ⟨g, Hg⟩ : ∃ g, Hid (w0.heap.size = g) := ⟨_, rfl⟩
  rw [Hg.out] at hmk hO0
  go_enter Try.func45, Try.ntmps45
  go_upto_region 1 with fail
  rw [Hw0.out]
  go_wp2_with fail
  go_loopg [13] len (fun gk i wr => ∃ k : Nat, k + gk = len ∧ i = .int .i64 k ∧ Own g w0 wr (.slice (some ⟨g, 0, none⟩) len len) (mapTo len fun p => if p < k then omAt t m p else 0))
  case atStart => exact ⟨0, by omega, rfl, hO0⟩
  case round =>
    clear hO0 hmk
    obtain ⟨k, hkg, rfl, hO⟩ := hrel
    by_cases hk : k < len
    · have hbW := hO.2.1
      have hgW : g < wr.heap.size := (hO.cell (mapTo_length _ _) hk).2.2
      have hsz : w0.heap.size ≤ wr.heap.size := by have := Hg.out; omega
      have hbW' : Below w0.heap.size w0 wr := by have := Hg.out; rw [this]; exact hbW
      obtain ⟨x0, x1, x2, x3⟩ := hbx.below hbW'
      obtain ⟨bm, om, rfl, hm0, hm1⟩ := hr.below hbW' k (by have := HL.out; omega)
      obtain ⟨bp, op, rfl, hp0, hp1⟩ := hr1.below hbW' k (by have := HL.out; omega)
      obtain ⟨bq, oq, rfl, hq0, hq1⟩ := hr2.below hbW' k (by have := HL.out; omega)
      obtain ⟨y0, y1, _⟩ := hO.cell (mapTo_length _ _) hk
      have hkl1 : k < l1 := by have := Hm1.out; omega
      have hkl2 : k < l2 := by have := Hm2.out; omega
      have hbk := hb k
      clear hr hr1 hr2 hbW hbW' hb
      by_cases hM : nth m k = -1
      · have hO2 := hO.put (mapTo_length _ _) hk (-1)
        rw [mapTo_set len _ (-1) (g := fun p => if p < k + 1 then omAt t m p else 0) (by simp [omAt, hM]) (fun j hj hne => by by_cases e : j < k <;> simp [e, show j < k + 1 ↔ j < k by omega])] at hO2
        rw [hM] at hm1
        clear hO
        go_wp2
        go_roundg (gk - 1)
        case measure => omega
        case rel => exact ⟨k + 1, by omega, by go_num, hO2⟩
      · have hO2 := (hO.put (mapTo_length _ _) hk (nth m k - nth t.pre k + nth t.post k))
        rw [mapTo_set len _ _ (g := fun p => if p < k + 1 then omAt t m p else 0) (by simp [omAt, hM]) (fun j hj hne => by by_cases e : j < k <;> simp [e, show j < k + 1 ↔ j < k by omega])] at hO2
        have hne : (nth m k == -1) = false := by simpa using hM
        have HO2 : Hid _ := hO2
        have W1 : wrap64 (nth m k - nth t.pre k) = nth m k - nth t.pre k := by unfold wrap64; omega
        have W2 : wrap64 (nth m k - nth t.pre k + nth t.post k) = nth m k - nth t.pre k + nth t.post k := by unfold wrap64; omega
        clear hO hO2
        go_wp2
        go_region
        all_goals
          go_wp2
          go_roundg (gk - 1)
          case measure => omega
          case rel => exact ⟨k + 1, by omega, by go_num, Own.trans HO2.out (below_drewN (Below.refl _ _) 1)⟩
    · obtain rfl : k = len := by omega
      rw [mapTo_congr (g := omAt t m) (fun j hj => by simp [hj])] at hO
      have R : Own w.heap.size w wr (.slice (some ⟨g, 0, none⟩) k k) (mapTo k (omAt t m)) := by
        obtain ⟨q1, q2, q3⟩ := hO
        have e1 := b1.size
        have e2 := Hg.out
        refine ⟨⟨q1.1, ?_⟩, b1.trans (q2.mono (by omega)), by omega⟩
        rcases q1.2 with h | ⟨g', cap', cur, z1, z2, z3⟩
        · exact .inl h
        · exact .inr ⟨g', cap', cur, z1, by omega, z3⟩
      clear hO
      go_wp2
      go_ret
      exact ⟨g, rfl, R⟩

theorem cell_lt0 {w : World} {b off : Nat} {v : Value} (h : w.cell? ⟨b, off, none⟩ = some v) : b < w.heap.size := by
  rcases Nat.lt_or_ge b w.heap.size with h1 | h1
  · exact h1
  · simp [World.cell?, Array.getElem?_eq_none h1] at h

/-- All but one block are as they were. -/
structure OnlyB (g : Nat) (w w' : World) : Prop where
  below : Below g w w'
  size : w.heap.size ≤ w'.heap.size
  block : ∀ k, k < w.heap.size → k ≠ g → w'.heap[k]? = w.heap[k]?

theorem OnlyB.refl (g : Nat) (w : World) : OnlyB g w w := ⟨Below.refl _ _, Nat.le_refl _, fun _ _ _ => rfl⟩
theorem OnlyB.trans {g : Nat} {a b c : World} (h : OnlyB g a b) (k : OnlyB g b c) : OnlyB g a c := ⟨h.below.trans k.below, Nat.le_trans h.size k.size, fun i hi hne => (k.block i (Nat.lt_of_lt_of_le hi h.size) hne).trans (h.block i hi hne)⟩
theorem OnlyB.set (g off : Nat) (w : World) (u : Value) : OnlyB g w (w.setCell ⟨g, off, none⟩ u) := ⟨(Below.refl _ _).setCell (p := ⟨g, off, none⟩) (Nat.le_refl _) u, by simp [World.setCell], fun k _ hne => Below.heap_setCell w ⟨g, off, none⟩ u k (fun e => hne e)⟩
theorem OnlyB.drewN (g : Nat) (w : World) (m : Nat) : OnlyB g w (w.drewN m) := by
  have h := below_drewN (Below.refl w.heap.size w) m
  exact ⟨below_drewN (Below.refl _ _) m, h.size, fun k hk _ => h.block k hk⟩
theorem OnlyB.cell {g : Nat} {w w' : World} (h : OnlyB g w w') {b off : Nat} {v : Value} (hb : b ≠ g) (hc : w.cell? ⟨b, off, none⟩ = some v) : w'.cell? ⟨b, off, none⟩ = some v := by
  have hlt : b < w.heap.size := cell_lt0 hc
  exact (World.cell?_of_block (a := ⟨b, off, none⟩) (h.block b hlt hb)).trans hc

/-- The first k places raised. -/
def upTo (ys zs : List Int) (k p : Nat) : Int := if p < k then raiseAt ys zs p else nth zs p
theorem upTo_zero (ys zs : List Int) (n : Nat) (hn : zs.length = n) : mapTo n (upTo ys zs 0) = zs := by
  subst hn
  rw [mapTo_congr (g := nth zs) (fun j _ => by simp [upTo])]
  exact mapTo_self zs
theorem upTo_all (ys zs : List Int) (n : Nat) : mapTo n (upTo ys zs n) = mapTo n (raiseAt ys zs) := mapTo_congr fun j hj => by simp [upTo, hj]

set_option maxHeartbeats 1000000 in
theorem coutgrow_any (W0 w : World) (g n cap : Nat) (zs ys : List Int) (lv : Value) (hO : Own W0.heap.size W0 w (.slice (some ⟨g, 0, none⟩) n cap) zs) (hn : zs.length = n) (hl : ys.length = n) (hv : Ints W0 lv ys) :
    Calls Try.prog 56 #[.slice (some ⟨g, 0, none⟩) n cap, lv] w fun e w' => ∃ b, e = .returned (.bool b) ∧ Own W0.heap.size W0 w' (.slice (some ⟨g, 0, none⟩) n cap) (mapTo n (raiseAt ys zs)) ∧ OnlyB g w w' ∧ (b = false ↔ mapTo n (raiseAt ys zs) = zs) := by
  obtain ⟨a, len, cp, rfl, hlen, hmx, hsh, hr⟩ := id hv
  have Hlen : Hid (len = n) := by show _ = _; omega
  have Hn : Hid (zs.length = n ∧ ys.length = n) := ⟨hn, hl⟩
  have hO0 : Own W0.heap.size W0 w (.slice (some ⟨g, 0, none⟩) n cap) (mapTo n (upTo ys zs 0)) := by rw [upTo_zero ys zs n hn]; exact hO
  have Hz : Hid (mapTo n (upTo ys zs 0) = zs) := upTo_zero ys zs n hn
  rw [← upTo_all ys zs n]
  clear hO hn hl hv hsh hlen
  go_enter Try.func56, Try.ntmps56
  go_wp2_with fail
  go_loopg [5, 9] n (fun gk c i wr => ∃ (k : Nat) (b : Bool), k + gk = n ∧ i = .int .i64 k ∧ c = .bool b ∧ Own W0.heap.size W0 wr (.slice (some ⟨g, 0, none⟩) n cap) (mapTo n (upTo ys zs k)) ∧ OnlyB g w wr ∧ Hid (b = false ↔ mapTo n (upTo ys zs k) = zs))
  case atStart => exact ⟨0, false, by omega, rfl, rfl, hO0, OnlyB.refl _ _, ⟨fun _ => Hz.out, fun _ => rfl⟩⟩
  case round =>
    clear hO0
    obtain ⟨k, b, hkg, rfl, rfl, hO, hB, Hb⟩ := hrel
    by_cases hk : k < n
    · have hbW := hO.2.1
      obtain ⟨y0, y1, y2⟩ := hO.cell (mapTo_length _ _) hk
      obtain ⟨bm, om, rfl, hm0, hm1⟩ := hr.below hbW k (by have := Hn.out; omega)
      have hkl : k < len := by have := Hlen.out; omega
      have Hy : Hid (nth (mapTo n (upTo ys zs k)) k = nth zs k) := by show _ = _; rw [mapTo_nth _ _ _ hk, upTo, if_neg (by omega)]
      rw [Hy.out] at y0
      have Hzk : Hid (k < zs.length) := by show _ < _; have := Hn.out; omega
      clear hr hbW
      by_cases hM : nth zs k = -1
      · have E : Hid (mapTo n (upTo ys zs (k + 1)) = mapTo n (upTo ys zs k)) := by
          refine mapTo_congr fun j hj => ?_
          by_cases e : j = k
          · subst e; simp [upTo, raiseAt, hM]
          · simp [upTo, show j < k + 1 ↔ j < k by omega]
        have hd : (nth zs k != -1) = false := by simp [hM]
        have R : Own W0.heap.size W0 wr (.slice (some ⟨g, 0, none⟩) n cap) (mapTo n (upTo ys zs (k + 1))) := by rw [E.out]; exact hO
        have Rb : Hid (b = false ↔ mapTo n (upTo ys zs (k + 1)) = zs) := by show _ ↔ _; rw [E.out]; exact Hb.out
        clear hO Hb
        go_wp2_with fail
        go_quiet ((go_at_call 33; exact Calls.quiet_of_same (cmore_any _ _ _)))
        go_wp2
        go_roundg (gk - 1)
        case measure => omega
        case rel => exact ⟨k + 1, b, by omega, by go_num, rfl, R.trans (below_drewN (Below.refl _ _) _), hB.trans (OnlyB.drewN _ _ _), Rb⟩
      · have hd : (nth zs k != -1) = true := by simpa using hM
        go_wp2_with fail
        go_quiet ((go_at_call 33; exact Calls.quiet_of_same (cmore_any _ _ _)))
        have hOd := hO.trans (below_drewN (Below.refl _ _) nq)
        have hBd := hB.trans (OnlyB.drewN g wr nq)
        clear hO hB y0 y1 y2 hm0 hm1
        obtain ⟨wd, Hwd⟩ : ∃ wd, Hid (wr.drewN nq = wd) := ⟨_, rfl⟩
        rw [Hwd.out] at hOd hBd ⊢
        clear Hwd
        obtain ⟨y0, y1, y2⟩ := hOd.cell (mapTo_length _ _) hk
        cases hm : moreL (nth zs k) (nth ys k)
        · have E : Hid (mapTo n (upTo ys zs (k + 1)) = mapTo n (upTo ys zs k)) := by
            refine mapTo_congr fun j hj => ?_
            by_cases e : j = k
            · subst e; simp [upTo, raiseAt, hm]
            · simp [upTo, show j < k + 1 ↔ j < k by omega]
          have R : Own W0.heap.size W0 wd (.slice (some ⟨g, 0, none⟩) n cap) (mapTo n (upTo ys zs (k + 1))) := by rw [E.out]; exact hOd
          have Rb : Hid (b = false ↔ mapTo n (upTo ys zs (k + 1)) = zs) := by show _ ↔ _; rw [E.out]; exact Hb.out
          clear hOd Hb
          go_wp2
          go_roundg (gk - 1)
          case measure => omega
          case rel => exact ⟨k + 1, b, by omega, by go_num, rfl, R, hBd, Rb⟩
        · have hO2 := hOd.put (mapTo_length _ _) hk (-1)
          rw [mapTo_set n _ (-1) (g := upTo ys zs (k + 1)) (by simp [upTo, raiseAt, hm]) (fun j hj hne => by simp [upTo, show j < k + 1 ↔ j < k by omega])] at hO2
          have Rb : Hid (true = false ↔ mapTo n (upTo ys zs (k + 1)) = zs) := by
            refine ⟨fun h => (by cases h), fun h => ?_⟩
            have h1 := mapTo_nth n (upTo ys zs (k + 1)) k hk
            rw [h, upTo, if_pos (by omega), raiseAt, hm] at h1
            exact absurd h1 hM
          have hB2 := hBd.trans (OnlyB.set g k wd (.int .i64 (-1)))
          clear hOd Hb
          go_wp2
          go_roundg (gk - 1)
          case measure => omega
          case rel => exact ⟨k + 1, true, by omega, by go_num, rfl, hO2, hB2, Rb⟩
    · obtain rfl : k = n := by omega
      clear hr
      go_wp2
      go_ret
      exact ⟨b, rfl, hO, hB, Hb.out⟩

end Go.Proofs.Ytbpkebkblkjdhaa
