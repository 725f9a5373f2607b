import Derived.Test.YtaladbcocealnaaGr08
import Derived.OwnWalk
/- Package journal as it landed: Read. -/
namespace Go.Proofs.Ytaladbcocealnaa
open Go.RowKit
set_option linter.unusedVariables false
set_option linter.unusedSimpArgs false
set_option maxRecDepth 4000

/-- The cells of some things to do. -/
def doCells (l : List DOp) : List Value := l.flatMap fun o => [.int .i64 o.kind, .int .i64 o.user, .int .i64 o.tran, .int .i64 o.item, .int .i64 o.hand]
theorem doCells_length (l : List DOp) : (doCells l).length = l.length * 5 := by
  unfold doCells
  induction l with
  | nil => rfl
  | cons x r ih => simp only [List.flatMap_cons, List.length_append, ih, List.length_cons, List.length_nil]; omega
theorem doCells_append (l m : List DOp) : doCells (l ++ m) = doCells l ++ doCells m := by simp [doCells]
theorem doCells_at (l : List DOp) (j : Nat) (h : j < l.length) :
    (doCells l)[j * 5]? = some (.int .i64 (dopAt l j).kind) ∧ (doCells l)[j * 5 + 1]? = some (.int .i64 (dopAt l j).user) ∧ (doCells l)[j * 5 + 2]? = some (.int .i64 (dopAt l j).tran) ∧ (doCells l)[j * 5 + 3]? = some (.int .i64 (dopAt l j).item) ∧ (doCells l)[j * 5 + 4]? = some (.int .i64 (dopAt l j).hand) := by
  induction l generalizing j with
  | nil => simp at h
  | cons x r ih =>
    have ec : doCells (x :: r) = .int .i64 x.kind :: .int .i64 x.user :: .int .i64 x.tran :: .int .i64 x.item :: .int .i64 x.hand :: doCells r := rfl
    match j, h with
    | 0, _ => exact ⟨rfl, rfl, rfl, rfl, rfl⟩
    | j + 1, h =>
      obtain ⟨q1, q2, q3, q4, q5⟩ := ih j (by simpa using h)
      rw [ec, show (j + 1) * 5 = j * 5 + 5 by omega]
      exact ⟨q1, q2, q3, q4, q5⟩
/-- Things to do that the call itself has laid one behind the other. -/
def OwnO (B : Nat) (w wr : World) (v : Value) (l : List DOp) : Prop := wr.ownsRow B 45 5 v l.length (doCells l) ∧ Below B w wr ∧ B ≤ wr.heap.size
theorem OwnO.nil (w : World) : OwnO w.heap.size w w (.slice none 0 0) [] := ⟨World.ownsRow_nil _ _ _ _, Below.refl _ _, Nat.le_refl _⟩
theorem OwnO.trans {B : Nat} {w wr w2 : World} {v : Value} {l : List DOp} (h : OwnO B w wr v l) (hb : Below wr.heap.size wr w2) : OwnO B w w2 v l := by
  obtain ⟨hown, hb0, hB⟩ := h
  refine ⟨hown.kept (row := none) ⟨hb.os, hb.tape, hb.output, hb.size, fun k hk _ => hb.block k hk⟩ ?_, hb0.trans (hb.mono hB), Nat.le_trans hB hb.size⟩
  cases hv : v.ownBlock with
  | none => exact .inl rfl
  | some k => exact .inr (by simp)
theorem OwnO.slice {B : Nat} {w wr : World} {v : Value} {l : List DOp} (h : OwnO B w wr v l) : ∃ a c, v = .slice a l.length c := by
  rcases h.1.2 with ⟨rfl, h0⟩ | ⟨g, cap', cur, rfl, _⟩
  · exact ⟨_, _, by rw [h0]⟩
  · exact ⟨_, _, rfl⟩
theorem OwnO.dops {B : Nat} {w wr : World} {v : Value} {l : List DOp} (h : OwnO B w wr v l) (hl : l.length ≤ 3518437208883) : DOpsV wr v l := by
  obtain ⟨hown, hb, hB⟩ := h
  have hown0 := hown
  obtain ⟨_, hcase⟩ := hown
  rcases hcase with ⟨rfl, h0⟩ | ⟨g, cap', cur, rfl, hg, hh, hn, hcap, hsz, htake⟩
  · exact ⟨none, l.length, 0, by rw [h0], rfl, hl, ⟨by omega, by omega, fun _ => rfl⟩, fun j hj => absurd hj (by omega)⟩
  · refine ⟨_, _, _, rfl, rfl, hl, ⟨hn, by unfold maxLen at hcap; omega, fun h => by cases h⟩, fun j hj => ?_⟩
    obtain ⟨q1, q2, q3, q4, q5⟩ := doCells_at l j hj
    refine ⟨g, 0, rfl, (Array.getElem?_eq_some_iff.1 hh).1, ?_, ?_, ?_, ?_, ?_⟩
    · rw [Nat.zero_add, hown0.cellAt (j * 5) (by omega), q1]
    · rw [Nat.zero_add, hown0.cellAt (j * 5 + 1) (by omega), q2]
    · rw [Nat.zero_add, hown0.cellAt (j * 5 + 2) (by omega), q3]
    · rw [Nat.zero_add, hown0.cellAt (j * 5 + 3) (by omega), q4]
    · rw [Nat.zero_add, hown0.cellAt (j * 5 + 4) (by omega), q5]
theorem info_dop : (Try.prog.info? 45).map (fun i => (i.zero, i.size, i.bytes)) = some (some (.agg #[.int .i64 0, .int .i64 0, .int .i64 0, .int .i64 0, .int .i64 0]), 5, 40) := by kernel_rfl
theorem wp_append_dop {ops : Array Oper} {rest : List Oper} {o : Oper} {a : Act} {Q : Exit → Act → World → Prop} (hgd : o.guard = none) (s x : Operand)
    (ho : o.op = .call { callee := .builtin .append, args := #[s, x], argTypes := #[52, 52] }) (B : Nat) (w wr : World) (v : Value) (l : List DOp)
    (d : DOp) (hG : OwnO B w wr v l) (hs : a.eval s = v) (hx : a.eval x = .slice (some ⟨wr.heap.size, 0, none⟩) 1 1) (hl : l.length + 1 ≤ 3518437208883)
    (h : ∀ v' w', OwnO B w w' v' (l ++ [d]) → wpList Try.prog ops Q rest (a.put o.dst v') w') :
    wpList Try.prog ops Q (o :: rest) a (wr.alloc (.cells (dopA d) 45)) := by
  obtain ⟨i0, hi, hz0, hz1, hz2⟩ := info_parts info_dop
  obtain ⟨hown, hb, hB⟩ := hG
  refine wpList_append_own _ hgd s x 52 ho B 45 i0 _ 5 40 Try.underlying52 hi hz0 hz1 hz2 rfl (by decide) v l.length _ hs (hown.alloc _) ⟨wr.heap.size, 0, none⟩ 1 1 (doCells [d]) hx rfl ?_ ?_ ?_ ?_ ?_ ?_
  · intro j u hj
    rw [addr_add, World.cell?_alloc_at _ _ _ _ rfl]
    match j, hj with
    | 0, hj => simpa [doCells, dopA] using hj
    | 1, hj => simpa [doCells, dopA] using hj
    | 2, hj => simpa [doCells, dopA] using hj
    | 3, hj => simpa [doCells, dopA] using hj
    | 4, hj => simpa [doCells, dopA] using hj
  · intro u hu
    simp only [doCells, List.flatMap_cons, List.flatMap_nil, List.append_nil, List.mem_cons, List.not_mem_nil, or_false] at hu
    rcases hu with rfl | rfl | rfl | rfl | rfl <;> rfl
  · unfold maxLen; omega
  · omega
  · simp; omega
  · intro v' w' hown' hgrow _
    refine h v' w' ⟨by rw [doCells_append, List.length_append]; exact hown', (hb.alloc hB _).grown hgrow (by simp; omega) (fun k hk => (hown.lt k hk).1), ?_⟩
    have := hgrow.size; simp at this; omega

theorem blk_sum (xs : List Int) (k : Nat) : sumJ ((xs.drop (7 * k)).take 6) 6 = sumJ (blk xs k) 6 := sumJ_congr fun j hj => by rw [nth_take hj, nth_drop, blk_at _ _ _ (by omega)]
theorem blk_op (xs : List Int) (k : Nat) : opJ (xs.drop (7 * k)) = opJ (blk xs k) := by
  unfold opJ
  simp only [nth_drop]
  rw [blk_at _ _ 0 (by omega), blk_at _ _ 1 (by omega), blk_at _ _ 2 (by omega), blk_at _ _ 3 (by omega), blk_at _ _ 4 (by omega), blk_at _ _ 5 (by omega)]

set_option maxHeartbeats 4000000 in
theorem journal_read (v : Value) (xs : List Int) (w : World) (hv : BytesV w v xs) :
    Calls Try.prog 48 #[v] w fun e w' => ∃ r l d, e = .returned (.tuple #[r, .int .i64 ((7 * l.length : Nat) : Int), .int .i64 d]) ∧ OwnO w.heap.size w w' r l ∧ ReadOk xs l d := by
  obtain ⟨a0, cap0, rfl, hN, hsh⟩ := hv.slice
  obtain ⟨N, HN⟩ : ∃ n, Hid (xs.length = n) := ⟨_, rfl⟩
  have HB : Hid (∀ j, isByte (nth xs j)) := fun j => hv.byte j
  have hv0 := hv
  rw [HN.out] at hv hN hsh ⊢
  go_enter Try.func48, Try.ntmps48
  go_upto_region 3 with fail
  go_loopg [5, 6] (N / 7) (fun gk lv rv wr => ∃ (k : Nat) (l : List DOp), k + gk = N / 7 ∧ l.length = k ∧ BytesV w rv (xs.drop (7 * k)) ∧ OwnO w.heap.size w wr lv l ∧ Hid (∀ j, j < k → goodB xs j ∧ dopAt l j = opJ (blk xs j)))
  case atStart => exact ⟨0, [], by omega, rfl, by rw [Nat.mul_zero, List.drop_zero]; exact hv, OwnO.nil _, fun j hj => absurd hj (Nat.not_lt_zero _)⟩
  case round =>
    clear hv hsh
    obtain ⟨k, l, hkg, hlk, hRw, hO, HG⟩ := hrel
    have hR := hRw.below hO.2.1
    obtain ⟨ra, rc, rfl, _, hrs⟩ := hR.slice
    obtain ⟨la, lc, rfl⟩ := hO.slice
    have Hlk : Hid (l.length = k) := hlk
    rw [hlk]
    have hO' : OwnO w.heap.size w wr (.slice la k lc) l := by rw [← hlk]; exact hO
    clear hO hlk
    have hdl : (xs.drop (7 * k)).length = N - 7 * k := by rw [List.length_drop, HN.out]
    rw [hdl] at hR hRw hrs ⊢
    obtain ⟨m, Hm⟩ : ∃ m, Hid (N - 7 * k = m) := ⟨_, rfl⟩
    rw [Hm.out] at hR hRw hrs ⊢
    clear hdl
    by_cases hkn : k < N / 7
    · have hm7 : 7 ≤ m := by have := Hm.out; omega
      obtain ⟨rb, ro, rfl, hrb, _⟩ := hR.at (k := 0) (by omega)
      obtain ⟨rb', ro', e', _, c6⟩ := hR.at (k := 6) (by omega)
      injection e' with e'
      injection e' with e1 e2
      subst e1 e2
      have hV6 := hR.take (n := 6) (by omega)
      have Hbs : Hid (sumJ ((xs.drop (7 * k)).take 6) ((xs.drop (7 * k)).take 6).length = sumJ (blk xs k) 6) := by
        show _ = _
        have : ((xs.drop (7 * k)).take 6).length = 6 := by rw [List.length_take, List.length_drop, HN.out]; have := Hm.out; omega
        rw [this]; exact blk_sum xs k
      have hl8 : ((xs.drop (7 * k)).take 6).length ≤ 8 := by rw [List.length_take]; omega
      rw [nth_drop] at c6
      obtain ⟨s6, Hs6⟩ : ∃ s, Hid (sumJ (blk xs k) 6 = s) := ⟨_, rfl⟩
      obtain ⟨x6, Hx6⟩ : ∃ s, Hid (nth xs (7 * k + 6) = s) := ⟨_, rfl⟩
      rw [Hx6.out] at c6
      rw [Hs6.out] at Hbs
      have hwb := hO'.2.1
      obtain ⟨hrc1, hrc2, _⟩ := hrs
      have hm6 : 6 ≤ rc := by omega
      have hi1 : (6 : Int) ≤ (rc : Int) := by omega
      have hi2 : (6 : Int) < (m : Int) := by omega
      have hi3 : 6 < m := by omega
      have c6d : wr.drew.cell? ⟨rb, ro + 6, none⟩ = some (.int .u8 x6) := by simpa using c6
      go_upto_region 5 with fail
      have hV6d : BytesV wr.drew (.slice (some ⟨rb, ro, none⟩) 6 rc) ((xs.drop (7 * k)).take 6) := hV6.below (Below.refl _ _).drew
      go_region_held3 (fun w' => w'.cell? ⟨rb, ro + 6, none⟩ = some (.int .u8 x6))
        (go_keep)
        (first
          | (go_at_call 62; refine (sum_any _ ((xs.drop (7 * k)).take 6) _ ?_ hl8).mono ?_; exact hV6d; rintro e wS ⟨rfl, hwS⟩; rw [Hbs.out]; subst hwS))
      all_goals
        have hOd := hO'.trans (Below.refl wr.heap.size wr).drew
        have hRd := hR.below (Below.refl wr.heap.size wr).drew
        obtain ⟨wd, Hwd⟩ : ∃ v, Hid (wr.drew = v) := ⟨_, rfl⟩
        rw [Hwd.out] at hOd hRd ⊢
        clear Hwd c6 c6d hV6 hV6d hO' hR hwb
        by_cases hs : s6 = x6
        · have Hg : Hid (goodB xs k) := by show _ = _; rw [Hs6.out, Hx6.out, hs]
          have hs' : (s6 != x6) = false := by simpa using hs
          have Hop : Hid (opJ (xs.drop (7 * k)) = opJ (blk xs k)) := blk_op xs k
          have hl7 : 7 ≤ (xs.drop (7 * k)).length := by rw [List.length_drop, HN.out, Hm.out]; exact hm7
          have hDr := hRw.drop (n := 7) (by omega)
          rw [List.drop_drop, show 7 * k + 7 = 7 * (k + 1) by omega] at hDr
          clear hs
          go_wp2_with fail
          refine (op_any _ (xs.drop (7 * k)) wd (by exact hRd) hl7).mono ?_
          rintro e w5 ⟨rfl, b5⟩
          rw [Hop.out]
          obtain ⟨d, Hd⟩ : ∃ d, Hid (opJ (blk xs k) = d) := ⟨_, rfl⟩
          rw [Hd.out]
          have hO5 := hOd.trans b5
          have hD5 := hDr
          have HG2 : Hid (∀ j, j < k + 1 → goodB xs j ∧ dopAt (l ++ [d]) j = opJ (blk xs j)) := fun j hj => by
            by_cases e : j = k
            · subst e
              refine ⟨Hg.out, ?_⟩
              rw [Hd.out]
              simp [dopAt, List.getD, ← Hlk.out]
            · obtain ⟨g1, g2⟩ := HG.out j (by omega)
              refine ⟨g1, ?_⟩
              rw [← g2]
              have : j < l.length := by rw [Hlk.out]; omega
              simp [dopAt, List.getD, List.getElem?_append_left this]
          have hlb : l.length + 1 ≤ 3518437208883 := by have := Hlk.out; omega
          have HL2 : Hid ((l ++ [d]).length = k + 1) := by show _ = _; rw [List.length_append, Hlk.out]; rfl
          obtain ⟨d1, d2, d3, d4, d5⟩ := d
          simp only [dopW, dopA]
          clear hOd hDr hRd b5 HG Hg Hop hl7 Hd
          by_cases hc7 : rc = 7
          · subst hc7
            have em : m - 7 = 0 := by omega
            rw [if_pos rfl, em] at hD5
            clear em
            go_wp2_with (at_builtin; refine wp_append_dop rfl _ _ rfl w.heap.size w w5 _ l ⟨d1, d2, d3, d4, d5⟩ hO5 rfl rfl hlb ?_; intro v' w6 hO6)
            go_roundg (gk - 1)
            case measure => omega
            case rel => exact ⟨k + 1, _, by omega, HL2.out, hD5, hO6, HG2⟩
          · rw [if_neg hc7] at hD5
            go_wp2_with (at_builtin; refine wp_append_dop rfl _ _ rfl w.heap.size w w5 _ l ⟨d1, d2, d3, d4, d5⟩ hO5 rfl rfl hlb ?_; intro v' w6 hO6)
            go_roundg (gk - 1)
            case measure => omega
            case rel => exact ⟨k + 1, _, by omega, HL2.out, hD5, hO6, HG2⟩
        · have hs' : (s6 != x6) = true := by simpa using hs
          have Hg : Hid (¬ goodB xs k) := fun q => hs (by rw [← Hs6.out, ← Hx6.out]; exact q)
          have HRk : Hid (ReadOk xs l 8) := ⟨by rw [HN.out, Hlk.out]; omega, fun j hj => HG.out j (by rw [← Hlk.out]; exact hj), .inr ⟨rfl, by rw [HN.out, Hlk.out]; have := Hm.out; omega, by rw [Hlk.out]; exact Hg.out⟩⟩
          clear hs Hg HG
          have hk9 : k ≤ 3518437208883 := by omega
          go_wp2
          go_ret3
          exact ⟨_, l, 8, by rw [Hlk.out]; go_num, hOd, HRk.out⟩
    · have hm7 : ¬ 7 ≤ m := by have := Hm.out; omega
      have HRk : Hid (ReadOk xs l 0) := ⟨by rw [HN.out, Hlk.out]; omega, fun j hj => HG.out j (by rw [← Hlk.out]; exact hj), .inl ⟨rfl, by rw [HN.out, Hlk.out]; have := Hm.out; omega⟩⟩
      have hk9 : k ≤ 3518437208883 := by omega
      clear HG
      go_wp2
      go_ret3
      exact ⟨_, l, 0, by rw [Hlk.out]; go_num, hO', HRk.out⟩

end Go.Proofs.Ytaladbcocealnaa

/- What the laws on the journal ask: all of some written, one behind the other; whether two lists are the same; the small trial. -/
namespace Go.Proofs.Ytaladbcocealnaa
open Go.RowKit
set_option linter.unusedVariables false
set_option linter.unusedSimpArgs false
set_option maxRecDepth 4000

theorem DOpsV.take {w : World} {a : Option Addr} {len cap n : Nat} {l : List DOp} (h : DOpsV w (.slice a len cap) l) (hn : n ≤ len) : DOpsV w (.slice a n cap) (l.take n) := by
  obtain ⟨a', len', cap', e, hl, hm, ⟨s1, s2, s3⟩, hr⟩ := h
  injection e with e1 e2 e3
  subst e1 e2 e3
  refine ⟨a, n, cap, rfl, by rw [List.length_take]; omega, by omega, ⟨by omega, s2, s3⟩, fun j hj => ?_⟩
  rw [List.length_take] at hj
  rw [dop_take (by omega)]
  exact hr j (by omega)

theorem dtake_succ {l : List DOp} {k : Nat} (hk : k < l.length) : l.take (k + 1) = l.take k ++ [dopAt l k] := by
  rw [List.take_add_one]
  simp [dopAt, List.getD, List.getElem?_eq_getElem hk]

/-- What 'written' answers. -/
def WrittenV (w : World) (l : List DOp) (e : Ending) (w' : World) : Prop :=
  (AllFit l ∧ ∃ r, e = .returned (.tuple #[r, .bool true]) ∧ OwnU w.heap.size w w' r (writtenL l)) ∨ (¬ AllFit l ∧ e = .returned (.tuple #[.slice none 0 0, .bool false]) ∧ Below w.heap.size w w')

def op18 : DOp := ⟨2, 0, 0, 300, 0⟩
theorem fit18 : fitsO op18 = true := by decide
theorem read18 {l : List DOp} {e : Int} (h : ReadOk (seven op18 ++ [1, 2]) l e) : l = [op18] ∧ e = 0 := by
  refine h.unique ⟨by decide, fun j hj => ?_, .inl ⟨rfl, by decide⟩⟩
  obtain rfl : j = 0 := by simp at hj; omega
  have hb : blk (seven op18 ++ [1, 2]) 0 = seven op18 := rfl
  exact ⟨good_of hb, by rw [hb, op_seven fit18]; rfl⟩

end Go.Proofs.Ytaladbcocealnaa
