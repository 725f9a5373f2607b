import Derived.Test.YtaladbcocealnaaGr09
import Derived.Laws.BytesString
import Derived.Laws.Cells
import Derived.Maps.AppendAt
/- The text of some bytes. -/
namespace Go.Proofs.Ytaladbcocealnaa
open Go.RowKit
set_option linter.unusedVariables false
set_option linter.unusedSimpArgs false
set_option maxRecDepth 4000

/-- The text of some bytes. -/
def strJ (xs : List Int) : ByteArray := xs.foldl (fun r n => r.push (UInt8.ofNat n.toNat)) ByteArray.empty
theorem conv_bytes (w : World) (a : Option Addr) (cap : Nat) (xs : List Int) (h : BytesV w (.slice a xs.length cap) xs) : (convert 66 9 (.slice a xs.length cap)).run Try.prog w = .ok (.string (strJ xs)) w := by
  rw [run_convert_bytes_string w 66 9 5 a _ cap Try.underlying66 Try.underlying5 Try.underlying9]
  obtain ⟨a', len', cap', e, hl, hm, hs, hy, hr⟩ := h
  injection e with e1 e2 e3
  subst e1 e3
  cases a with
  | none =>
    have h0 : xs = [] := by
      cases xs with
      | nil => rfl
      | cons x r => obtain ⟨b, off, e, _⟩ := hr 0 (by simp); cases e
    subst h0
    rfl
  | some ad =>
    have hl2 := run_loadCells_list (P := Try.prog) w ad (xs.map (Value.int .u8)) (fun j u hj => by
      by_cases hjl : j < xs.length
      · obtain ⟨b, off, e, _, hc⟩ := hr j hjl
        injection e with e
        subst e
        rw [addr_add, hc]
        simp [nth, List.getD, List.getElem?_eq_getElem hjl] at hj ⊢
        exact hj
      · rw [List.getElem?_eq_none (by simp; omega)] at hj; cases hj)
    rw [List.length_map] at hl2
    exact run_bytesToString w ad xs.length cap xs hl2

end Go.Proofs.Ytaladbcocealnaa

/- The document's own journal: what is written. -/
namespace Go.Proofs.Ytaladbcocealnaa
open Go.RowKit
set_option linter.unusedVariables false
set_option linter.unusedSimpArgs false
set_option maxRecDepth 4000

/-- Turned so often by one. -/
def turnN (x : Nat) : Nat → Nat
  | 0 => x
  | k + 1 => (turnN x k * 2) % 256 + turnN x k / 128
theorem turn_rot : ∀ x, x < 256 → ∀ k, k < 7 → turnN x k = rotN x k := by decide
theorem turn_lt {x : Nat} (hx : x < 256) : ∀ k, turnN x k < 256
  | 0 => hx
  | k + 1 => by have := turn_lt hx k; rw [turnN]; omega

set_option maxHeartbeats 1000000 in
theorem rturn_any (x : Int) (k : Nat) (w : World) (hx : isByte x) (hk : k < 7) :
    Calls Try.prog 38 #[.int .u8 x, .int .i64 (k : Int)] w fun e w' => e = .returned (.int .u8 (rotI x k)) ∧ w' = w := by
  obtain ⟨n, rfl⟩ := Int.eq_ofNat_of_zero_le hx.1
  have hn : n < 256 := by have := hx.2; omega
  have HR : Hid (rotI ((n : Nat) : Int) k = ((turnN n k : Nat) : Int)) := by
    show _ = _
    unfold rotI
    rw [Int.toNat_natCast, turn_rot n hn k hk]
  rw [HR.out]
  have HL : Hid (∀ j, turnN n j < 256) := turn_lt hn
  clear hx
  go_enter Try.func38, Try.ntmps38
  go_wp2_with fail
  go_loopg [0, 6] k (fun gk c ix wr => ∃ j : Nat, j + gk = k ∧ ix = .int .i64 j ∧ c = .int .u8 ((turnN n j : Nat) : Int) ∧ wr = w)
  case atStart => exact ⟨0, by omega, rfl, rfl, rfl⟩
  case round =>
    obtain ⟨j, hjg, rfl, rfl, rfl⟩ := hrel
    by_cases hjk : j < k
    · have h1 := HL.out j
      have h2 := HL.out (j + 1)
      have HN : Hid (turnN n (j + 1) = (turnN n j * 2) % 256 + turnN n j / 128) := rfl
      obtain ⟨t, Ht⟩ : ∃ t, Hid (turnN n j = t) := ⟨_, rfl⟩
      obtain ⟨t', Ht'⟩ : ∃ t, Hid (turnN n (j + 1) = t) := ⟨_, rfl⟩
      rw [Ht.out] at h1 HN ⊢
      rw [Ht'.out] at h2 HN
      go_wp2
      go_roundg (gk - 1)
      case measure => omega
      case rel => exact ⟨j + 1, by omega, by go_num, by rw [Ht'.out]; exact congrArg (Value.int IntKind.u8) (by have := HN.out; omega), rfl⟩
    · obtain rfl : j = k := by omega
      go_wp2
      go_ret
      exact ⟨rfl, rfl⟩

/-- append of bytes, with what else stands. -/
theorem wp_append_bytesK {ops : Array Oper} {rest : List Oper} {o : Oper} {a : Act} {Q : Exit → Act → World → Prop} (hgd : o.guard = none) (s x : Operand)
    (ho : o.op = .call { callee := .builtin .append, args := #[s, x], argTypes := #[66, 66] }) (B : Nat) (w wr : World) (v : Value) (ad : Addr) (m c : Nat) (zs ys : List Int) (hG : OwnU B w wr v zs)
    (hs : a.eval s = v) (hx : a.eval x = .slice (some ad) m c) (hu : BytesV wr (.slice (some ad) m c) ys) (hl : zs.length + ys.length ≤ 24629060462187)
    (h : ∀ v' w', OwnU B w w' v' (zs ++ ys) → wr.grownBy w' v.ownBlock → (v'.ownBlock = v.ownBlock ∨ v'.ownBlock = some wr.heap.size) → wpList Try.prog ops Q rest (a.put o.dst v') w') : wpList Try.prog ops Q (o :: rest) a wr := by
  obtain ⟨i0, hi, hz0, hz1, hz2⟩ := info_parts info_u8
  obtain ⟨ax, len, cap, e, hlen, hmx, hsh, hy, hr⟩ := hu
  injection e with e1 e2 e3
  subst e1 e2 e3
  obtain ⟨hown, hb, hB⟩ := hG
  refine wpList_append_own_at _ hgd s x 66 ho B 5 i0 (.int .u8 0) 1 1 Try.underlying66 hi hz0 hz1 hz2 rfl (by decide) v zs.length _ hs hown ad m c (ys.map (Value.int .u8)) hx (by simp [hlen]) ?_ ?_ ?_ ?_ hB ?_
  · intro j u hj
    by_cases hjl : j < ys.length
    · obtain ⟨b, off, e, _, hc⟩ := hr j hjl
      injection e with e
      subst e
      rw [addr_add, hc]
      simp [nth, List.getD, List.getElem?_eq_getElem hjl] at hj ⊢
      exact hj
    · rw [List.getElem?_eq_none (by simp; omega)] at hj; cases hj
  · intro u hu
    obtain ⟨x, _, rfl⟩ := List.mem_map.1 hu
    rfl
  · unfold maxLen; omega
  · omega
  · intro v' w' hown' hgrow _ hat
    refine h v' w' ⟨by rw [List.map_append, List.length_append, hlen]; exact hown', hb.grown hgrow hB (fun k hk => (hown.lt k hk).1), Nat.le_trans hB hgrow.size⟩ hgrow hat

theorem lit_bytes {w : World} {b n : Nat} {ys : List Int} (h : w.heap[b]? = some (.cells (ys.map (Value.int .u8)).toArray 5 (0, 0))) (hn : ys.length = n) (hl : n ≤ 100) (hy : ∀ j, isByte (nth ys j)) : BytesV w (.slice (some ⟨b, 0, none⟩) n n) ys := by
  refine ⟨_, _, _, rfl, hn, by omega, ⟨by omega, by omega, fun h => by cases h⟩, hy, fun j hj => ⟨b, 0, rfl, (Array.getElem?_eq_some_iff.1 h).1, ?_⟩⟩
  rw [Nat.zero_add]
  simp [World.cell?, h, nth, List.getD, List.getElem?_eq_getElem hj]
def four (o : DOp) : List Int := [o.kind, o.user, o.tran, o.hand]
theorem four_succ (o : DOp) {k : Nat} (h : k < 4) : (four o).take (k + 1) = (four o).take k ++ [nth (four o) k] := by
  match k, h with
  | 0, _ => rfl
  | 1, _ => rfl
  | 2, _ => rfl
  | 3, _ => rfl
theorem byte_one {x : Int} (h : isByte x) (j : Nat) : isByte (nth [x] j) := by
  match j with
  | 0 => exact h
  | j + 1 => rw [nth_past _ _ (by show 1 ≤ j + 1; omega)]; exact ⟨by decide, by decide⟩
theorem not_fits_four {o : DOp} {k : Nat} (hk : k < 4) (h : ¬ isByte (nth (four o) k)) : fitsO o = false := by
  cases hf : fitsO o with
  | false => rfl
  | true =>
    obtain ⟨h1, h2, h3, h4, _⟩ := (fits_iff o).1 hf
    match k, hk with
    | 0, _ => exact absurd h1 h
    | 1, _ => exact absurd h2 h
    | 2, _ => exact absurd h3 h
    | 3, _ => exact absurd h4 h

set_option maxHeartbeats 4000000 in
theorem rwrite_any (o : DOp) (w : World) :
    Calls Try.prog 23 #[dopW o] w fun e w' => ∃ r, e = .returned (.tuple #[r, .int .i64 (writeJ o).2]) ∧ OwnU w.heap.size w w' r (writeJ o).1 := by
  have b1 := below_new w (.cells (dopA o) 45)
  have hB := boxJ_new w o
  unfold dopW
  obtain ⟨wa, Hwa⟩ : ∃ v, Hid (w.alloc (.cells (dopA o) 45) = v) := ⟨_, rfl⟩
  have sa : wa.heap.size = w.heap.size + 1 := by rw [← Hwa.out]; simp
  rw [Hwa.out] at b1 hB
  have b2 := below_new wa (.cells #[] 5)
  have hE := heap_new_j wa (.cells #[] 5)
  obtain ⟨wb, Hwb⟩ : ∃ v, Hid (wa.alloc (.cells #[] 5) = v) := ⟨_, rfl⟩
  have sb : wb.heap.size = w.heap.size + 1 + 1 := by rw [← Hwb.out]; simp [sa]
  rw [Hwb.out] at b2 hE
  rw [sa] at hE
  have hBb := hB.below b2
  obtain ⟨c0, c1, c2, c3, c4⟩ := hBb.cells
  have b3 := below_new wb (.cells #[.int .i64 o.kind, .int .i64 o.user, .int .i64 o.tran, .int .i64 o.hand] 3)
  have hF := heap_new_j wb (.cells #[.int .i64 o.kind, .int .i64 o.user, .int .i64 o.tran, .int .i64 o.hand] 3)
  obtain ⟨wc, Hwc⟩ : ∃ v, Hid (wb.alloc (.cells #[.int .i64 o.kind, .int .i64 o.user, .int .i64 o.tran, .int .i64 o.hand] 3) = v) := ⟨_, rfl⟩
  have sc : wc.heap.size = w.heap.size + 1 + 1 + 1 := by rw [← Hwc.out]; simp [sb]
  rw [Hwc.out] at b3 hF
  rw [sb] at hF
  go_enter Try.func23, Try.ntmps23
  go_upto_region 1 with fail
  rw [Hwa.out]
  go_upto_region 2 with fail
  first | rw [sa, Hwb.out] | rw [Hwb.out]
  go_upto_region 3 with fail
  first | rw [sb, Hwc.out] | rw [Hwc.out]
  have cc := below_then (below_then b1 b2) b3
  have hBc := hBb.below b3
  have hO0 : OwnU w.heap.size w wc (.slice (some ⟨w.heap.size + 1, 0, none⟩) 0 0) [] := ⟨⟨rfl, .inr ⟨w.heap.size + 1, 0, #[], rfl, by omega, (b3.block _ (by omega)).trans hE, by simp, by unfold maxLen; omega, rfl, rfl⟩⟩, cc, by omega⟩
  clear Hwa Hwb Hwc hB hBb hE b1 b2 b3 c0 c1 c2 c3 c4 sa sb
  go_loopg [4, 20] 4 (fun gk bv ix wr => ∃ k : Nat, k + gk = 4 ∧ ix = .int .i64 k ∧ OwnU w.heap.size w wr bv ((four o).take k) ∧ bv.ownBlock ≠ some w.heap.size ∧ bv.ownBlock ≠ some (w.heap.size + 1 + 1) ∧ BoxJ wr w.heap.size o ∧ wr.heap[w.heap.size + 1 + 1]? = some (.cells #[.int .i64 o.kind, .int .i64 o.user, .int .i64 o.tran, .int .i64 o.hand] 3 (0, 0)) ∧ Hid (∀ j, j < k → isByte (nth (four o) j)))
  case atStart => exact ⟨0, by omega, rfl, hO0, by simp [Value.ownBlock], by simp [Value.ownBlock], hBc, hF, fun j hj => absurd hj (Nat.not_lt_zero _)⟩
  case round =>
    clear hO0 hBc hF cc sc
    obtain ⟨k, hkg, rfl, hO, hn1, hn2, hB, hF, HB⟩ := hrel
    obtain ⟨oa, oc, rfl⟩ := hO.slice
    obtain ⟨ol, Hol⟩ : ∃ n, Hid (((four o).take k).length = n) := ⟨_, rfl⟩
    have hO' : OwnU w.heap.size w wr (.slice oa ol oc) ((four o).take k) := by rw [← Hol.out]; exact hO
    rw [Hol.out] at hn1 hn2 ⊢
    clear hO
    by_cases hk4 : k < 4
    · have Hsn := four_succ o hk4
      have hol : ol ≤ 4 := by rw [← Hol.out, List.length_take]; omega
      have hc : wr.cell? ⟨w.heap.size + 1 + 1, k, none⟩ = some (.int .i64 (nth (four o) k)) := by
        match k, hk4 with
        | 0, _ => simp [World.cell?, hF, four, nth]
        | 1, _ => simp [World.cell?, hF, four, nth]
        | 2, _ => simp [World.cell?, hF, four, nth]
        | 3, _ => simp [World.cell?, hF, four, nth]
      have Hnf := fun h => not_fits_four (o := o) hk4 h
      obtain ⟨z, Hz⟩ : ∃ z, Hid (nth (four o) k = z) := ⟨_, rfl⟩
      rw [Hz.out] at hc Hsn Hnf
      have HSn : Hid _ := Hsn
      clear Hsn
      have hslt : w.heap.size + 1 + 1 < wr.heap.size := (Array.getElem?_eq_some_iff.1 hF).1
      by_cases hz0 : z < 0
      · have E : Hid (writeJ o = ([], 2)) := by show _ = _; simp [writeJ, Hnf (fun q => by have := q.1; omega)]
        have R := hO'.2.1
        clear Hnf hO'
        go_wp2
        go_ret2
        exact ⟨.slice none 0 0, by rw [E.out]; rfl, by rw [E.out]; exact ⟨World.ownsRow_nil _ _ _ _, R, R.size⟩⟩
      · by_cases hz1 : 256 ≤ z
        · have E : Hid (writeJ o = ([], 2)) := by show _ = _; simp [writeJ, Hnf (fun q => by have := q.2; omega)]
          have R := hO'.2.1
          clear Hnf hO'
          go_wp2
          go_ret2
          exact ⟨.slice none 0 0, by rw [E.out]; rfl, by rw [E.out]; exact ⟨World.ownsRow_nil _ _ _ _, R, R.size⟩⟩
        · have hzb : isByte z := ⟨by omega, by omega⟩
          have bl := below_new wr (.cells #[.int .u8 z] 5)
          have hNw := heap_new_j wr (.cells #[.int .u8 z] 5)
          obtain ⟨wl, Hwl⟩ : ∃ v, Hid (wr.alloc (.cells #[.int .u8 z] 5) = v) := ⟨_, rfl⟩
          obtain ⟨Bl, HBl⟩ : ∃ v, Hid (wr.heap.size = v) := ⟨_, rfl⟩
          rw [Hwl.out] at bl hNw
          rw [HBl.out] at hNw
          have hLit := lit_bytes (ys := [z]) (n := 1) hNw rfl (by omega) (byte_one hzb)
          have hO2 := hO'.trans bl
          have hB2 := hB.below bl
          have hF2 := (bl.block _ hslt).trans hF
          have HB2 : Hid (∀ j, j < k + 1 → isByte (nth (four o) j)) := fun j hj => by
            by_cases e : j = k
            · subst e; rw [Hz.out]; exact hzb
            · exact HB.out j (by omega)
          have hlw : w.heap.size < wl.heap.size := hB2.lt
          have hlw2 : w.heap.size + 1 + 1 < wl.heap.size := (Array.getElem?_eq_some_iff.1 hF2).1
          have hlb : ((four o).take k).length + [z].length ≤ 24629060462187 := by rw [Hol.out]; show ol + 1 ≤ _; omega
          clear hO' hB hF bl HB Hnf
          go_wp2_with (rw [Hwl.out, HBl.out]; at_builtin; refine wp_append_bytesK rfl _ _ rfl w.heap.size w wl _ ⟨Bl, 0, none⟩ 1 1 ((four o).take k) [z] hO2 rfl rfl hLit hlb ?_; intro v' w6 hO6 hg6 hat6)
          have hB6 : BoxJ w6 w.heap.size o := (hg6.block _ hlw (fun e => hn1 e.symm)).trans hB2
          have hF6 := (hg6.block _ hlw2 (fun e => hn2 e.symm)).trans hF2
          have q1 : v'.ownBlock ≠ some w.heap.size := by
            rcases hat6 with e | e
            · rw [e]; exact hn1
            · rw [e]; intro q; injection q with q; omega
          have q2 : v'.ownBlock ≠ some (w.heap.size + 1 + 1) := by
            rcases hat6 with e | e
            · rw [e]; exact hn2
            · rw [e]; intro q; injection q with q; omega
          go_roundg (gk - 1)
          case measure => omega
          case rel => exact ⟨k + 1, by omega, by go_num, by rw [HSn.out]; exact hO6, q1, q2, hB6, hF6, HB2⟩
    · obtain rfl : k = 4 := by omega
      obtain ⟨c0, c1, c2, c3, c4⟩ := hB.cells
      have h4 : (four o).take 4 = four o := rfl
      rw [h4] at hO'
      have e4 : ol = 4 := by rw [← Hol.out]; rfl
      subst e4
      clear h4 Hol hF
      by_cases hi0 : o.item < 0
      · have E : Hid (writeJ o = ([], 2)) := by
          show _ = _
          have : fitsO o = false := by
            cases hf : fitsO o with
            | false => rfl
            | true => have := ((fits_iff o).1 hf).2.2.2.2; omega
          simp [writeJ, this]
        have R := hO'.2.1
        clear hO' HB
        go_wp2
        go_ret2
        exact ⟨.slice none 0 0, by rw [E.out]; rfl, by rw [E.out]; exact ⟨World.ownsRow_nil _ _ _ _, R, R.size⟩⟩
      · by_cases hi1 : 65536 ≤ o.item
        · have E : Hid (writeJ o = ([], 2)) := by
            show _ = _
            have : fitsO o = false := by
              cases hf : fitsO o with
              | false => rfl
              | true => have := ((fits_iff o).1 hf).2.2.2.2; omega
            simp [writeJ, this]
          have R := hO'.2.1
          clear hO' HB
          go_wp2
          go_ret2
          exact ⟨.slice none 0 0, by rw [E.out]; rfl, by rw [E.out]; exact ⟨World.ownsRow_nil _ _ _ _, R, R.size⟩⟩
        · have hf : fitsO o = true := (fits_iff o).2 ⟨HB.out 0 (by omega), HB.out 1 (by omega), HB.out 2 (by omega), HB.out 3 (by omega), by omega, by omega⟩
          have E : Hid (writeJ o = (seven o, 0)) := by show _ = _; simp [writeJ, hf]
          have H6 : Hid (∀ j, isByte (nth (six o) j)) := six_byte hf
          have hd0 : 0 ≤ o.item / 256 ∧ o.item / 256 < 256 := by omega
          have hd1 : 0 ≤ o.item % 256 ∧ o.item % 256 < 256 := by omega
          have ht1 : Int.tdiv o.item 256 = o.item / 256 := Int.tdiv_eq_ediv_of_nonneg (by omega)
          have ht2 : Int.tmod o.item 256 = o.item % 256 := Int.tmod_eq_emod_of_nonneg (by omega)
          clear HB hf hn1 hn2
          have bl := below_new wr (.cells #[.int .u8 (o.item / 256), .int .u8 (o.item % 256)] 5)
          have hNw := heap_new_j wr (.cells #[.int .u8 (o.item / 256), .int .u8 (o.item % 256)] 5)
          obtain ⟨wl, Hwl⟩ : ∃ v, Hid (wr.alloc (.cells #[.int .u8 (o.item / 256), .int .u8 (o.item % 256)] 5) = v) := ⟨_, rfl⟩
          obtain ⟨Bl, HBl⟩ : ∃ v, Hid (wr.heap.size = v) := ⟨_, rfl⟩
          rw [Hwl.out] at bl hNw
          rw [HBl.out] at hNw
          have hLit := lit_bytes (ys := [o.item / 256, o.item % 256]) (n := 2) hNw rfl (by omega) (fun j => by
            match j with
            | 0 => exact hd0
            | 1 => exact hd1
            | j + 2 => rw [nth_past _ _ (by show 2 ≤ j + 2; omega)]; exact ⟨by decide, by decide⟩)
          have hO2 := hO'.trans bl
          clear hO' bl hB
          go_wp2_with (rw [Hwl.out, HBl.out]; at_builtin; refine wp_append_bytes rfl _ _ rfl w.heap.size w wl _ ⟨Bl, 0, none⟩ 2 2 (four o) [o.item / 256, o.item % 256] hO2 rfl rfl hLit (by show 4 + 2 ≤ _; omega) ?_; intro v' w6 hO6; obtain ⟨va, vc, hve⟩ := hO6.slice; rw [show (four o ++ [o.item / 256, o.item % 256]).length = 6 from rfl] at hve; subst hve)
          have e6 : four o ++ [o.item / 256, o.item % 256] = six o := rfl
          rw [e6] at hO6
          have hB6 := hO6.bytes (by show 6 ≤ _; omega) H6.out
          have hO7 : OwnU w.heap.size w w6 (.slice va 6 vc) (six o) := hO6
          have hB7 : BytesV w6 (.slice va 6 vc) (six o) := hB6
          clear hO6 hB6 e6 hO2 hLit hNw Hwl HBl c0 c1 c2 c3 c4 hd0 hd1 ht1 ht2
          go_loopg [7, 57] 6 (fun gk sm ix wr => ∃ k : Nat, k + gk = 6 ∧ ix = .int .i64 k ∧ sm = .int .u8 (sumJ (six o) k) ∧ wr = w6)
          case atStart => exact ⟨0, by omega, rfl, rfl, rfl⟩
          case round =>
            obtain ⟨k, hkg, rfl, rfl, rfl⟩ := hrel
            by_cases hkn : k < 6
            · obtain ⟨b, off, rfl, _, hc⟩ := hB7.at hkn
              have hx := H6.out k
              have hS : isByte (sumJ (six o) k) := sumJ_byte H6.out (by omega)
              have hR : isByte (rotI (nth (six o) k) k) := rotI_byte hx (by omega)
              have HN : Hid (sumJ (six o) (k + 1) = xorI (sumJ (six o) k) (rotI (nth (six o) k) k)) := rfl
              obtain ⟨S, HS⟩ : ∃ S, Hid (sumJ (six o) k = S) := ⟨_, rfl⟩
              obtain ⟨x, Hx⟩ : ∃ S, Hid (nth (six o) k = S) := ⟨_, rfl⟩
              rw [HS.out] at HN hS ⊢
              rw [Hx.out] at HN hx hR hc
              go_wp2_with fail
              refine (rturn_any x k _ hx (by omega)).mono ?_
              rintro e _ ⟨rfl, rfl⟩
              obtain ⟨r, Hr⟩ : ∃ S, Hid (rotI x k = S) := ⟨_, rfl⟩
              rw [Hr.out] at HN hR ⊢
              have hX : Hid (bits BinOp.xor IntKind.u8 S r = xorI S r) := xor_bits hS hR
              obtain ⟨q1, q2⟩ := hS
              obtain ⟨q3, q4⟩ := hR
              go_wp2
              go_roundg (gk - 1)
              case measure => omega
              case rel => exact ⟨k + 1, by omega, by go_num, by rw [HN.out, hX.out], rfl⟩
            · obtain rfl : k = 6 := by omega
              have hS : isByte (sumJ (six o) 6) := sumJ_byte H6.out (by omega)
              have e8 : six o ++ [sumJ (six o) 6] = seven o := rfl
              have HE8 : Hid _ := e8
              obtain ⟨S, HS⟩ : ∃ S, Hid (sumJ (six o) 6 = S) := ⟨_, rfl⟩
              rw [HS.out] at hS HE8 ⊢
              have bl := below_new wr (.cells #[.int .u8 S] 5)
              have hNw := heap_new_j wr (.cells #[.int .u8 S] 5)
              obtain ⟨wl, Hwl⟩ : ∃ v, Hid (wr.alloc (.cells #[.int .u8 S] 5) = v) := ⟨_, rfl⟩
              obtain ⟨Bl, HBl⟩ : ∃ v, Hid (wr.heap.size = v) := ⟨_, rfl⟩
              rw [Hwl.out] at bl hNw
              rw [HBl.out] at hNw
              have hLit := lit_bytes (ys := [S]) (n := 1) hNw rfl (by omega) (byte_one hS)
              have hO2 := hO7.trans bl
              clear hO7 hB7 bl hS e8
              go_wp2_with (rw [Hwl.out, HBl.out]; at_builtin; refine wp_append_bytes rfl _ _ rfl w.heap.size w wl _ ⟨Bl, 0, none⟩ 1 1 (six o) [S] hO2 rfl rfl hLit (by show 6 + 1 ≤ _; omega) ?_; intro v' w9 hO9)
              go_ret2
              exact ⟨v', by rw [E.out]; rfl, by rw [E.out, ← HE8.out]; exact hO9⟩

end Go.Proofs.Ytaladbcocealnaa
