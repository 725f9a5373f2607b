import Derived.Test.YtlknegihhcdhbaaGr00
import Derived.Test.YtlknegihhcdhbaaGr06
import Derived.Carry
/- Package tracks as it landed: sets, and Onto. -/
namespace Go.Proofs.Ytlknegihhcdhbaa
open Go.RowKit
set_option linter.unusedVariables false
set_option linter.unusedSimpArgs false
set_option maxRecDepth 4000

theorem nth_get {xs : List Int} {k : Nat} (h : k < xs.length) : nth xs k = xs[k] := by simp [nth, List.getD, List.getElem?_eq_getElem h]
theorem take_succ_nth {xs : List Int} {k : Nat} (h : k < xs.length) : xs.take (k + 1) = xs.take k ++ [nth xs k] := by
  rw [List.take_add_one, List.getElem?_eq_getElem h, nth_get h]; rfl
abbrev SetI (w : World) (b n : Nat) (S : Int → Prop) : Prop := SetA 3 (Lit.int .i64) okI w b n S
abbrev SetP (w : World) (b n : Nat) (S : Int × Int → Prop) : Prop := SetA 38 pairLit okP w b n S

set_option maxHeartbeats 400000 in
theorem addI_any (b n : Nat) (x : Int) (S : Int → Prop) (w : World) (h : SetI w b n S) (hx : okI x) (hn : n < 17592186044416) :
    Calls Try.prog 57 #[.map (some b), .int .i64 x] w fun e w' => e = .returned (.tuple #[]) ∧ SetI w' b (n + 1) (fun y => S y ∨ y = x) ∧ w.grownBy w' (some b) := by
  have Hn : Hid (n < maxLen) := by show _ < _; unfold maxLen; omega
  go_enter Try.func57, Try.ntmps57
  go_wp2_with (at_mapUpdate; refine wp_set_add keyI Try.underlying54 rfl _ _ _ rfl w b n S x h hx Hn.out rfl rfl rfl ?_; intro w1 h1 g1 v1)
  go_end0
  exact ⟨rfl, h1, g1⟩

set_option maxHeartbeats 400000 in
theorem addP_any (b n : Nat) (x : Int × Int) (S : Int × Int → Prop) (w : World) (h : SetP w b n S) (hx : okP x) (hn : n < 17592186044416) :
    Calls Try.prog 58 #[.map (some b), .agg #[.int .i64 x.1, .int .i64 x.2]] w fun e w' => e = .returned (.tuple #[]) ∧ SetP w' b (n + 1) (fun y => S y ∨ y = x) ∧ w.grownBy w' (some b) := by
  have Hn : Hid (n < maxLen) := by show _ < _; unfold maxLen; omega
  obtain ⟨p, q⟩ := x
  have b1 := below_new w (.cells #[.int .i64 p, .int .i64 q] 38)
  have g0 := World.grownBy_alloc w (.cells #[.int .i64 p, .int .i64 q] 38) none
  obtain ⟨c0, c1⟩ : (w.alloc (.cells #[.int .i64 p, .int .i64 q] 38)).cell? ⟨w.heap.size, 0, none⟩ = some (.int .i64 p) ∧ (w.alloc (.cells #[.int .i64 p, .int .i64 q] 38)).cell? ⟨w.heap.size, 1, none⟩ = some (.int .i64 q) := ⟨by rw [World.cell?_alloc_at _ _ _ _ rfl]; rfl, by rw [World.cell?_alloc_at _ _ _ _ rfl]; rfl⟩
  obtain ⟨w0, Hw0⟩ : ∃ v, Hid (w.alloc (.cells #[.int .i64 p, .int .i64 q] 38) = v) := ⟨_, rfl⟩
  rw [Hw0.out] at b1 g0 c0 c1
  have h0 := h.below b1
  show Calls _ _ #[_, .agg #[.int .i64 p, .int .i64 q]] _ _
  go_enter Try.func58, Try.ntmps58
  go_upto_region 1 with fail
  rw [Hw0.out]
  go_wp2_with (at_mapUpdate; refine wp_set_add keyP Try.underlying56 rfl _ _ _ rfl w0 b n S (p, q) h0 hx Hn.out rfl rfl rfl ?_; intro w1 h1 g1 v1)
  go_end0
  exact ⟨rfl, h1, (g0.but (some b)).andThen g1 (fun j e => .inr e)⟩

theorem zeroU (w : World) : (zeroValue 85).run Try.prog w = .ok (.agg #[]) w := by kernel_rfl

set_option maxHeartbeats 400000 in
theorem hasI_any (b n : Nat) (x : Int) (S : Int → Prop) [DecidablePred S] (w : World) (h : SetI w b n S) (hx : okI x) :
    Calls Try.prog 44 #[.map (some b), .int .i64 x] w fun e w' => e = .returned (.bool (decide (S x))) ∧ Below w.heap.size w w' := by
  obtain ⟨D, h1, h2⟩ := h
  have hh : Hid (Maps.has D (.int .i64 x) = decide (S x)) := by
    show _ = _
    rw [Bool.eq_iff_iff, setA_has keyI h2 hx, decide_eq_true_eq]
  go_enter Try.func44, Try.ntmps44
  go_wp2_with (at_lookup; refine wpList_lookup_own_unit _ rfl _ _ 54 rfl 3 85 keyI.keyed Try.underlying54 (zeroU _) b n D rfl h1 _ _ rfl (keyI.key x hx) ?_; rw [hh.out])
  go_ret
  exact ⟨rfl, below_new w _⟩

theorem below_grown {B b : Nat} {w w1 w2 : World} (hb : Below B w w1) (hB : B ≤ b) (hB1 : B ≤ w1.heap.size) (hg : w1.grownBy w2 (some b)) : Below B w w2 := hb.grown hg hB1 (fun j e => by injection e with e; omega)

set_option maxHeartbeats 1000000 in
theorem setOf_any (v : Value) (xs : List Int) (w : World) (hv : Ints w v xs) (hx : ∀ x ∈ xs, okI x) (hl : xs.length ≤ 17592186044416) :
    Calls Try.prog 43 #[v] w fun e w' => e = .returned (.map (some w.heap.size)) ∧ SetI w' w.heap.size xs.length (fun y => y ∈ xs) ∧ Below w.heap.size w w' := by
  obtain ⟨a, len, cap, rfl, hlen, hmx, hsh, hr⟩ := id hv
  have Hlen : Hid (xs.length = len) := hlen
  rw [Hlen.out] at hl ⊢
  clear hlen hsh hr
  have Hx : Hid (∀ x ∈ xs, okI x) := hx
  clear hx
  have hmm := @run_makeMap Try.prog
  have b1 := below_new w (.map #[] 0)
  have h0 : SetI (w.alloc (.map #[] 0)) w.heap.size 0 (fun y => y ∈ xs.take 0) := (setA_made w).same (fun x _ => by simp)
  obtain ⟨B, HB⟩ : ∃ B, Hid (w.heap.size = B) := ⟨_, rfl⟩
  obtain ⟨w0, Hw0⟩ : ∃ v, Hid (w.alloc (.map #[] 0) = v) := ⟨_, rfl⟩
  rw [Hw0.out, HB.out] at h0
  rw [Hw0.out] at b1
  rw [HB.out] at b1 ⊢
  go_enter Try.func43, Try.ntmps43
  go_upto_region 2 with fail
  rw [Hw0.out, HB.out]
  clear hmm
  go_wp2_with fail
  go_loopg [9] len (fun gk i' wr => ∃ k : Nat, k + gk = len ∧ i' = .int .i64 (k : Int) ∧ SetI wr B k (fun y => y ∈ xs.take k) ∧ Below B w wr)
  case atStart => exact ⟨0, by omega, rfl, h0, b1⟩
  case round =>
    clear h0 b1
    obtain ⟨k, hkg, rfl, h0, b1⟩ := hrel
    by_cases hk : k < len
    · have hvr : Ints wr (.slice a len cap) xs := hv.below (by rw [HB.out]; exact b1)
      obtain ⟨b2, o2, rfl, hlt2, c2⟩ := ints_atL hvr hk
      have Hkx : Hid (k < xs.length) := by show _ < _; rw [Hlen.out]; exact hk
      have Hz : Hid (okI (nth xs k)) := Hx.out _ (by rw [nth_get Hkx.out]; exact List.getElem_mem _)
      have Hnx : Hid (∀ y : Int, (y ∈ xs.take k ∨ y = nth xs k) ↔ y ∈ xs.take (k + 1)) := fun y => by
        rw [take_succ_nth Hkx.out, List.mem_append, List.mem_singleton]
      obtain ⟨z, HZ⟩ : ∃ z, Hid (nth xs k = z) := ⟨_, rfl⟩
      rw [HZ.out] at c2 Hz Hnx
      go_wp2_with fail
      refine (addI_any B k z _ wr h0 Hz.out (by omega)).mono ?_
      rintro e w1 ⟨rfl, h1, g1⟩
      have h2 : SetI w1 B (k + 1) (fun y => y ∈ xs.take (k + 1)) := h1.same (fun x _ => Hnx.out x)
      have b3 := below_grown b1 (Nat.le_refl _) (Nat.le_of_lt h0.lt) g1
      clear h0 h1 b1 g1 c2
      go_wp2
      go_roundg (gk - 1)
      case measure => omega
      case rel => exact ⟨k + 1, by omega, by go_num, h2, b3⟩
    · obtain rfl : k = len := by omega
      have h1 : SetI wr B k (fun y => y ∈ xs) := h0.same (fun x _ => by rw [List.take_of_length_le (by rw [Hlen.out]; exact Nat.le_refl _)])
      go_wp2
      go_ret
      exact ⟨rfl, h1, b1⟩

end Go.Proofs.Ytlknegihhcdhbaa

/- Package tracks as it landed: Onto. -/
namespace Go.Proofs.Ytlknegihhcdhbaa
open Go.RowKit
set_option linter.unusedVariables false
set_option linter.unusedSimpArgs false
set_option maxRecDepth 4000

theorem lists_at {w : World} {a : Option Addr} {len cap : Nat} {ls : List (List Int)} (h : Lists w (.slice a len cap) ls) {k : Nat} (hk : k < len) :
    ∃ b off u, a = some ⟨b, off, none⟩ ∧ b < w.heap.size ∧ w.cell? ⟨b, off + k, none⟩ = some u ∧ Ints w u (ls.getD k []) := by
  obtain ⟨a', len', cap', e, hl, hm, hs, hr⟩ := h
  injection e with e1 e2 e3
  subst e1 e2 e3
  exact hr k (by omega)
theorem at_lists {ls : List (List Int)} {k : Nat} (h : k < ls.length) : ls.getD k [] ∈ ls := by
  rw [List.getD_eq_getElem?_getD, List.getElem?_eq_getElem h]; exact List.getElem_mem h
theorem ontoT_succ (ls t : List Int) {j : Nat} (h : j < t.length) : ontoT ls (t.take (j + 1)) = if ls.contains (nth t j) then ontoT ls (t.take j) ++ [nth t j] else ontoT ls (t.take j) := by
  rw [take_succ_nth h]
  unfold ontoT
  rw [List.filter_append, List.filter_cons, List.filter_nil]
  split
  · rfl
  · simp
theorem ontoT_le (ls t : List Int) : (ontoT ls t).length ≤ t.length := List.length_filter_le _ _
/-- The rows while trace k is gone through, up to j. -/
def rowsTo (log : List (List Int)) (ls : List Int) (k j : Nat) (i : Nat) : List Int := if i < k then ontoT ls (log.getD i []) else if i = k then ontoT ls ((log.getD i []).take j) else []
theorem rows_start (log : List (List Int)) (ls : List Int) : rowsTo log ls 0 0 = fun _ => [] := by
  funext i
  unfold rowsTo
  rw [if_neg (by omega)]
  split
  · rfl
  · rfl
theorem rows_next (log : List (List Int)) (ls : List Int) (k j : Nat) (h : (log.getD k []).length ≤ j) : rowsTo log ls k j = rowsTo log ls (k + 1) 0 := by
  funext i
  unfold rowsTo
  by_cases e : i = k
  · subst e
    rw [if_neg (by omega), if_pos rfl, if_pos (by omega), List.take_of_length_le h]
  · by_cases e2 : i < k
    · rw [if_pos e2, if_pos (by omega)]
    · rw [if_neg e2, if_neg e, if_neg (by omega)]
      by_cases e3 : i = k + 1
      · rw [if_pos e3]; rfl
      · rw [if_neg e3]
theorem rows_at (log : List (List Int)) (ls : List Int) (k j : Nat) : rowsTo log ls k j k = ontoT ls ((log.getD k []).take j) := by
  unfold rowsTo; rw [if_neg (by omega), if_pos rfl]
theorem rows_other (log : List (List Int)) (ls : List Int) (k j j' i : Nat) (h : i ≠ k) : rowsTo log ls k j' i = rowsTo log ls k j i := by
  unfold rowsTo
  by_cases e : i < k
  · rw [if_pos e, if_pos e]
  · rw [if_neg e, if_neg e, if_neg h, if_neg h]
theorem rows_end (log : List (List Int)) (ls : List Int) : (List.range log.length).map (rowsTo log ls log.length 0) = ontoL log ls := by
  unfold ontoL
  refine List.ext_getElem (by simp) fun i h1 h2 => ?_
  have hi : i < log.length := by simpa using h1
  simp only [List.getElem_map, List.getElem_range]
  unfold rowsTo
  rw [if_pos hi, List.getD_eq_getElem?_getD, List.getElem?_eq_getElem hi]
  rfl

set_option maxHeartbeats 4000000 in
theorem onto_any (v u : Value) (log : List (List Int)) (ls : List Int) (w : World) (hv : Lists w v log) (hu : Ints w u ls) (hx : ∀ x ∈ ls, okI x) (hy : ∀ t ∈ log, ∀ x ∈ t, okI x) (hlog : log.length ≤ 5864062014805) :
    Calls Try.prog 13 #[v, u] w fun e w' => ∃ r, e = .returned r ∧ Lists w' r (ontoL log ls) ∧ Below w.heap.size w w' := by
  obtain ⟨a, len, cap, rfl, hlen, hmx, hsh, hr⟩ := id hv
  have hls : ls.length ≤ 17592186044416 := by obtain ⟨_, _, _, _, h1, h2, _⟩ := id hu; omega
  have Hlen : Hid (log.length = len) := hlen
  rw [Hlen.out] at hlog
  have Hy : Hid (∀ t ∈ log, ∀ x ∈ t, okI x) := hy
  clear hlen hr hsh hy
  go_enter Try.func13, Try.ntmps13
  go_wp2_with fail
  refine (setOf_any u ls w (by exact hu) hx hls).mono ?_
  rintro e w1 ⟨rfl, hS, b1⟩
  have hmk := make_rows w1 len (by omega)
  obtain ⟨w2, hmk, hR⟩ := hmk
  have hSlt := hS.lt
  replace hS := hS.below hR.below
  have hw1 : w.heap.size < w1.heap.size := hSlt
  obtain ⟨X, HX⟩ : ∃ x, Hid (w1.heap.size = x) := ⟨_, rfl⟩
  rw [HX.out] at hmk hR hw1
  rw [← rows_start log ls] at hR
  go_upto_region 3 with fail
  clear hmk
  go_wp2_with fail
  go_loopg [18] len (fun gk i' wr => ∃ (k : Nat) (rv : Nat → Value), k + gk = len ∧ i' = .int .i64 (k : Int) ∧ SetI wr w.heap.size ls.length (fun y => y ∈ ls) ∧ StepsAt X w1 wr len rv (rowsTo log ls k 0))
  case atStart => exact ⟨0, _, by omega, rfl, hS, hR⟩
  case round =>
    clear hS hR
    obtain ⟨k, rv, hkg, rfl, hS, hR⟩ := hrel
    obtain ⟨g1, rfl⟩ : ∃ g1, g1 = gk := ⟨_, rfl⟩
    by_cases hk : k < len
    · obtain ⟨b2, o2, uv, rfl, hlt2, c2w, iu⟩ := lists_at hv hk
      have hbk := below_then b1 (by rw [HX.out]; exact hR.below)
      have c2 := (hbk.cell (p := ⟨b2, o2 + k, none⟩) hlt2).trans c2w
      clear c2w hbk
      obtain ⟨t, HT⟩ : ∃ t, Hid (log.getD k [] = t) := ⟨_, rfl⟩
      have HTm : Hid (t ∈ log) := by rw [← HT.out]; exact at_lists (by rw [Hlen.out]; exact hk)
      rw [HT.out] at iu
      obtain ⟨ua, ul, uc, rfl, eul, hum, _⟩ := id iu
      have Hul : Hid (t.length = ul) := eul
      clear eul
      go_upto_region 7 with fail
      clear c2 hlt2
      obtain ⟨wk, rfl⟩ : ∃ z, z = wr := ⟨_, rfl⟩
      go_loopg [25] ul (fun gk i' wr => ∃ (j : Nat) (rv : Nat → Value), j + gk = ul ∧ i' = .int .i64 (j : Int) ∧ SetI wr w.heap.size ls.length (fun y => y ∈ ls) ∧ StepsAt X w1 wr len rv (rowsTo log ls k j))
      case atStart => exact ⟨0, _, by omega, rfl, hS, hR⟩
      case round =>
        clear hS hR
        obtain ⟨j, rv, hjg, rfl, hS, hR⟩ := hrel
        by_cases hj : j < ul
        · obtain ⟨b3, o3, rfl, hlt3, c3⟩ := ints_atL (iu.below (below_then b1 (by rw [HX.out]; exact hR.below))) hj
          have Hjl : Hid (j < t.length) := by show _ < _; rw [Hul.out]; exact hj
          have Hz : Hid (okI (nth t j)) := Hy.out t HTm.out _ (by rw [nth_get Hjl.out]; exact List.getElem_mem _)
          have Hsucc : Hid (ontoT ls (t.take (j + 1)) = if ls.contains (nth t j) then ontoT ls (t.take j) ++ [nth t j] else ontoT ls (t.take j)) := ontoT_succ ls t Hjl.out
          have Hle : Hid ((ontoT ls (t.take j)).length ≤ j) := by show _ ≤ _; have := ontoT_le ls (t.take j); rw [List.length_take] at this; omega
          obtain ⟨z, HZ⟩ : ∃ z, Hid (nth t j = z) := ⟨_, rfl⟩
          rw [HZ.out] at c3 Hz Hsucc
          go_wp2_with fail
          refine (hasI_any w.heap.size ls.length z (fun y => y ∈ ls) wr hS Hz.out).mono ?_
          rintro e w3 ⟨rfl, b3'⟩
          replace hS := hS.below b3'
          replace hR := hR.to b3'
          clear b3' c3
          have Hdec : Hid (decide (z ∈ ls) = ls.contains z) := by show _ = _; rw [Bool.eq_iff_iff]; simp
          by_cases hz : z ∈ ls
          · have hzd : decide (z ∈ ls) = true := decide_eq_true hz
            rw [hzd]
            have Hs2 : Hid (rowsTo log ls k (j + 1) k = rowsTo log ls k j k ++ [z]) := by show _ = _; rw [rows_at, rows_at, HT.out, Hsucc.out, ← Hdec.out, hzd]; rfl
            have Hso : Hid (∀ i, i ≠ k → rowsTo log ls k (j + 1) i = rowsTo log ls k j i) := fun i hi => rows_other log ls k j (j + 1) i hi
            have HlenR : Hid ((rowsTo log ls k j k).length + 1 ≤ 17592186044416) := by show _ ≤ _; rw [rows_at, HT.out]; have := Hle.out; omega
            obtain ⟨ra, rc, hrv⟩ := hR.slice hk
            have y0 := hR.cells k hk
            have y1 := hR.frozen k hk
            have hown := hR.own k hk
            have hsz : X + 1 ≤ w3.heap.size := hR.size
            rw [hrv] at y0 hown
            clear hz hzd Hdec
            go_wp2_with (at_builtin; refine wp_append_int_at rfl _ _ rfl (X + 1) w3 _ _ z hown rfl rfl HlenR.out hsz ?_; intro v' w4 hO3 hg3 hat3; obtain ⟨a', l', c', rfl⟩ := ownsRow_slice hO3; have hS3 := hR.to (below_new w3 (.cells #[.int .i64 z] 3)); rw [← hrv] at hg3 hat3; have hS4 := hS3.put hk hO3 hg3 hat3 Hs2.out Hso.out; obtain ⟨u0, u1⟩ := hS3.grown hk hg3)
            have hrk : ∀ q, (rv k).ownBlock = some q → X + 1 ≤ q := fun q e => (ownsRow_lt (hR.own k hk) e).1
            have hS5 : SetI (w4.setCell ⟨X, k, none⟩ (.slice a' l' c')) w.heap.size ls.length (fun y => y ∈ ls) := hS.block (by
              rw [Below.heap_setCell _ ⟨X, k, none⟩ _ _ (by show w.heap.size ≠ X; omega), hg3.block _ (by simp; have := hS.lt; omega) (fun e => by have := hrk _ e.symm; omega)]
              exact (below_new w3 (.cells #[.int .i64 z] 3)).block _ hS.lt)
            clear hS hR hS3 y0 y1 hown hO3 hg3 hat3 u0 u1 hrk
            go_wp2
            go_roundg (gk - 1)
            case measure => omega
            case rel => exact ⟨j + 1, _, by omega, by go_num, hS5, hS4⟩
          · have hzd : decide (z ∈ ls) = false := decide_eq_false hz
            rw [hzd]
            have Hs2 : Hid (rowsTo log ls k j = rowsTo log ls k (j + 1)) := by
              show _ = _
              funext i
              by_cases e : i = k
              · subst e; rw [rows_at, rows_at, HT.out, Hsucc.out, ← Hdec.out, hzd]; rfl
              · exact rows_other log ls k (j + 1) j i e
            rw [Hs2.out] at hR
            clear hz hzd Hdec
            go_wp2
            go_roundg (gk - 1)
            case measure => omega
            case rel => exact ⟨j + 1, rv, by omega, by go_num, hS, hR⟩
        · rw [rows_next log ls k j (by rw [HT.out, Hul.out]; omega)] at hR
          go_wp2
          go_roundg (g1 - 1)
          case measure => omega
          case rel => exact ⟨k + 1, rv, by omega, by go_num, hS, hR⟩
    · obtain rfl : k = len := by omega
      have R := hR.lists (by omega) (fun i hi => by
        have h1 := lists_at hv hi
        obtain ⟨_, _, _, _, _, _, h2⟩ := h1
        obtain ⟨_, _, _, _, h3, h4, _⟩ := h2
        have h5 := ontoT_le ls (log.getD i [])
        unfold rowsTo
        rw [if_pos hi]
        omega)
      have R2 := rows_end log ls
      rw [Hlen.out] at R2
      rw [R2] at R
      have b5 := below_then b1 (by rw [HX.out]; exact hR.below)
      clear hR hS
      go_wp2
      go_ret
      exact ⟨_, rfl, R, b5⟩

end Go.Proofs.Ytlknegihhcdhbaa
