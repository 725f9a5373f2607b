/- The document's own replay: place by place. (Made by tools/gen_treplay.py.) -/
import Derived.Test.YtfaehomopgichaaGr05
import Derived.Test.YtfaehomopgichaaReplayMem
import Derived.Test.YtfaehomopgichaaGr01
import Derived.Test.YtfaehomopgichaaGr06
import Derived.Test.YtfaehomopgichaaGr04
import Derived.Test.YtfaehomopgichaaGr00
import Derived.Lib.MinMax
import Derived.BigRegion
namespace Go.Proofs.Ytfaehomopgichaa
open Go.RowKit
set_option linter.unusedVariables false
set_option linter.unusedSimpArgs false
set_option maxRecDepth 4000

theorem ownsRow_sl {B : Nat} {w : World} {e : TypeId} {size : Nat} {v : Value} {n : Nat} {xs : List Value} (h : w.ownsRow B e size v n xs) : ∃ a c, v = .slice a n c := by
  rcases h.2 with ⟨rfl, rfl⟩ | ⟨g, cap', cur, rfl, _⟩
  · exact ⟨_, _, rfl⟩
  · exact ⟨_, _, rfl⟩
theorem tk_succ {xs : List Int} {k : Nat} (hk : k < xs.length) : xs.take (k + 1) = xs.take k ++ [nth xs k] := by
  rw [List.take_add_one]
  simp [nth, List.getD, List.getElem?_eq_getElem hk]
theorem tk_split {xs : List Int} {k : Nat} (hk : k < xs.length) : xs = xs.take k ++ nth xs k :: xs.drop (k + 1) := by
  have := List.take_append_drop k xs
  rw [List.drop_eq_getElem_cons hk] at this
  rw [show nth xs k = xs[k] by simp [nth, List.getD, List.getElem?_eq_getElem hk]]
  exact this.symm
theorem tkT_succ {xs : List TranL} {k : Nat} (hk : k < xs.length) : xs.take (k + 1) = xs.take k ++ [tranAt xs k] := by
  rw [List.take_add_one]
  simp [tranAt, List.getD, List.getElem?_eq_getElem hk]

/-- The transitions of a trace, laid one behind the other; their lists are older. -/
structure SeqT (W wr : World) (v : Value) (ts : List TranL) (tv : List (Int × Value × Value)) : Prop where
  own : OwnT W.heap.size W wr v tv
  len : ts.length = tv.length
  elems : ∀ j (hj : j < tv.length), tv[j].1 = (tranAt ts j).label ∧ Ints W tv[j].2.1 (tranAt ts j).pre ∧ Ints W tv[j].2.2 (tranAt ts j).post
theorem SeqT.snoc {W wr w' : World} {v v' : Value} {ts : List TranL} {tv : List (Int × Value × Value)} (h : SeqT W wr v ts tv) {t : TranL} {c1 c2 : Value} (i1 : Ints W c1 t.pre) (i2 : Ints W c2 t.post) (ho : OwnT W.heap.size W w' v' (tv ++ [(t.label, c1, c2)])) : SeqT W w' v' (ts ++ [t]) (tv ++ [(t.label, c1, c2)]) := by
  refine ⟨ho, by simp [h.len], fun j hj => ?_⟩
  by_cases hl : j < tv.length
  · rw [List.getElem_append_left hl]
    have e : tranAt (ts ++ [t]) j = tranAt ts j := by simp [tranAt, List.getD, List.getElem?_append_left (show j < ts.length by rw [h.len]; exact hl)]
    rw [e]
    exact h.elems j hl
  · have : j = tv.length := by simp at hj; omega
    subst this
    have e : tranAt (ts ++ [t]) tv.length = t := by rw [← h.len]; simp [tranAt, List.getD]
    rw [e]
    simp only [List.getElem_concat_length]
    exact ⟨trivial, i1, i2⟩
/-- What is gone through at a place: the transitions, and the last one. -/
def LaidL (W wq : World) (n : NetL) (o : Int) (P : Nat) (sv : Value) (tv : List (Int × Value × Value)) (lv : Value) (wc : World) : Prop :=
  ∃ c1 c2, wc.ownsRow W.heap.size 35 3 lv (tv ++ [(0, c1, c2)]).length (tvCells (tv ++ [(0, c1, c2)])) ∧ wc.ownsRow W.heap.size 35 3 sv tv.length (tvCells tv) ∧ (∃ u, Below wq.heap.size wq u ∧ u.grownBy wc sv.ownBlock) ∧
    On (fun k => wq.heap.size ≤ k) wc (fun w' => Ints w' c1 (startL n.places o)) ∧ On (fun k => wq.heap.size ≤ k) wc (fun w' => Ints w' c2 (List.replicate P 0))
theorem LaidL.read {W wq wc wr : World} {n : NetL} {o : Int} {P B : Nat} {sv lv : Value} {ts : List TranL} {tv : List (Int × Value × Value)} (h : LaidL W wq n o P sv tv lv wc) (hs : ts.length = tv.length) (he : ∀ j (hj : j < tv.length), tv[j].1 = (tranAt ts j).label ∧ Ints W tv[j].2.1 (tranAt ts j).pre ∧ Ints W tv[j].2.2 (tranAt ts j).post)
    (hW : Below W.heap.size W wc) (hB : W.heap.size ≤ B) (hBq : B < wq.heap.size) (hlb : lv.ownBlock ≠ some B) (hl : tv.length ≤ 100) (ho : OnlyB B wc wr) : Trans wr lv (ts ++ [lastT n o P]) := by
  obtain ⟨c1, c2, hown, _, _, O1, O2⟩ := h
  have hWr : Below W.heap.size W wr := hW.trans (ho.below.mono hB)
  have hown2 : wr.ownsRow W.heap.size 35 3 lv (tv ++ [(0, c1, c2)]).length (tvCells (tv ++ [(0, c1, c2)])) := ((ownsRow_on hown).to ho.size (fun k hk hD => ho.block k hk (fun e => hlb (by rw [hD.1, e])))).now
  have I1 := (O1.to ho.size (fun k hk hD => ho.block k hk (by have hD : wq.heap.size ≤ k := hD; omega))).now
  have I2 := (O2.to ho.size (fun k hk hD => ho.block k hk (by have hD : wq.heap.size ≤ k := hD; omega))).now
  refine tran_read hown2 (by simp; omega) (by simp [hs]) fun j hj => ?_
  by_cases hjl : j < tv.length
  · rw [List.getElem_append_left hjl]
    have e : tranAt (ts ++ [lastT n o P]) j = tranAt ts j := by simp [tranAt, List.getD, List.getElem?_append_left (show j < ts.length by rw [hs]; exact hjl)]
    rw [e]
    obtain ⟨e1, e2, e3⟩ := he j hjl
    exact ⟨e1, e2.below hWr, e3.below hWr⟩
  · have : j = tv.length := by simp at hj; omega
    subst this
    have e : tranAt (ts ++ [lastT n o P]) tv.length = lastT n o P := by rw [← hs]; simp [tranAt, List.getD]
    rw [e]
    simp only [List.getElem_concat_length]
    exact ⟨rfl, I1, I2⟩

theorem sums_bnd {n : NetL} {i : Int} {L : List TranL} {P k : Nat} (hT : ∀ t ∈ L, TokT P t) (hL : L.length ≤ 61) (hk : k ≤ 16) : 0 ≤ (sumsH n i L k).put ∧ (sumsH n i L k).put ≤ 20000 ∧ 0 ≤ (sumsH n i L k).taken ∧ (sumsH n i L k).taken ≤ 20000 ∧ 0 ≤ (sumsH n i L k).lacked ∧ (sumsH n i L k).lacked ≤ 20000 ∧ 0 ≤ (sumsH n i L k).left ∧ (sumsH n i L k).left ≤ 20000 := by
  have key : ∀ f : Nat → Int, (∀ p, 0 ≤ f p ∧ f p ≤ 1000) → 0 ≤ sumTo f k ∧ sumTo f k ≤ 20000 := by
    intro f hf
    have a1 := sumTo_nonneg (f := f) (k := k) fun m _ => (hf m).1
    have a2 := sumTo_le (f := f) (g := fun _ => 1000) (k := k) fun m _ => (hf m).2
    rw [sumTo_const] at a2
    exact ⟨a1, by omega⟩
  have hb := fun p => hist_bnd (P := P) (p := p) L (nth (startL n.places i) p) hT (start_bounds _ _ _).1
  have h1 := key (fun p => nth (startL n.places i) p + postS p L) fun p => by have := hb p; have := start_bounds n.places i p; omega
  have h2 := key (fun p => preS p L) fun p => by have := hb p; omega
  have h3 := key (fun p => lackS p L (nth (startL n.places i) p)) fun p => by have := hb p; omega
  have h4 := key (fun p => haveH p L (nth (startL n.places i) p)) fun p => by have := hb p; have := start_bounds n.places i p; omega
  exact ⟨h1.1, h1.2, h2.1, h2.2, h3.1, h3.2, h4.1, h4.2⟩
theorem OnlyB.ofBelow {B : Nat} {w w' : World} (h : Below w.heap.size w w') (hB : B ≤ w.heap.size) : OnlyB B w w' := ⟨h.mono hB, h.size, fun k hk _ => h.block k hk⟩
theorem laid_ne {w : World} {B b n : Nat} {v : Value} {xs : List Value} {p : PlayL} (h : w.ownsRow B 35 3 v n xs) (hp : PlayAt w b p) : v.ownBlock ≠ some b := by
  rcases h.2 with ⟨rfl, _⟩ | ⟨g, cap', cur, rfl, _, hg, _⟩
  · simp [Value.ownBlock]
  · intro e
    have e : g = b := by simpa [Value.ownBlock] using e
    subst e
    unfold PlayAt at hp
    rw [hg] at hp
    injection hp with hp
    injection hp with _ hp
    revert hp
    decide
/-- What is read wherever all but one block stand does not lie there. -/
theorem off_spoilt {w : World} {B b k : Nat} {x : Value} (h : w.cell? ⟨b, k, none⟩ = some x) (hx : ∀ w', OnlyB B w w' → ∃ z, w'.cell? ⟨b, k, none⟩ = some (.int .i64 z)) : b ≠ B := by
  rintro rfl
  obtain ⟨z, hz⟩ := hx _ (OnlyB.set b k w (.bool true))
  rw [World.cell?_setCell_same _ _ _ h] at hz
  cases hz
theorem elem_off {wc wr : World} {B tb tf l c j : Nat} {L : List TranL} {c1 c2 : Value} (hR : ∀ w', OnlyB B wc w' → Trans w' (.slice (some ⟨tb, tf, none⟩) l c) L) (htb : tb ≠ B) (ho : OnlyB B wc wr) (hj : j < l)
    (h1 : wr.cell? ⟨tb, tf + j * 3 + 1, none⟩ = some c1) (h2 : wr.cell? ⟨tb, tf + j * 3 + 2, none⟩ = some c2) : ∀ w', OnlyB B wr w' → Ints w' c1 (tranAt L j).pre ∧ Ints w' c2 (tranAt L j).post := by
  intro w' hw
  obtain ⟨b, off, d1, d2, e, _, _, q1, q2, i1, i2⟩ := (hR w' (ho.trans hw)).at hj
  injection e with e
  injection e with e1 e2
  subst e1 e2
  rw [hw.cell htb h1] at q1
  rw [hw.cell htb h2] at q2
  injection q1 with q1
  injection q2 with q2
  subst q1 q2
  exact ⟨i1, i2⟩
theorem ints_off {wr : World} {B p : Nat} {c : Value} {xs : List Int} (h : ∀ w', OnlyB B wr w' → Ints w' c xs) (hp : p < xs.length) : ∃ b o l q, c = .slice (some ⟨b, o, none⟩) l q ∧ p < l ∧ b ≠ B ∧ wr.cell? ⟨b, o + p, none⟩ = some (.int .i64 (nth xs p)) := by
  obtain ⟨a, l, q, rfl, hl, _, _, hr⟩ := h wr (OnlyB.refl _ _)
  obtain ⟨b, o, rfl, hlt, hc⟩ := hr p hp
  refine ⟨b, o, l, q, rfl, by omega, off_spoilt hc fun w' hw => ?_, hc⟩
  obtain ⟨a', l', q', e, _, _, _, hr'⟩ := h w' hw
  injection e with e1 e2 e3
  subst e1
  obtain ⟨b', o', e, _, hc'⟩ := hr' p hp
  injection e with e
  injection e with e1 e2
  subst e1 e2
  exact ⟨_, hc'⟩
theorem PlayAt.fld {w : World} {b k : Nat} {p p' : PlayL} {u : Value} (h : PlayAt w b p) (e : (playA p).setIfInBounds k u = playA p') : PlayAt (w.setCell ⟨b, k, none⟩ u) b p' := by
  unfold PlayAt
  rw [setCell_blockM h, e]

set_option maxHeartbeats 16000000 in
theorem treplay_any (v u : Value) (n : NetL) (i o : Int) (tr : List Int) (w : World) (hv : Net w v n) (hu : Ints w u tr) (hsm : SmallNet n) :
    Calls Try.prog 7 #[v, .int .i64 i, .int .i64 o, u] w fun e w' => ∃ r d, e = .returned (.tuple #[playV r, .int .i64 d]) ∧ Replayed n i o tr r d ∧ Below w.heap.size w w' := by
  obtain ⟨tv0, rfl, hT⟩ := hv
  obtain ⟨ta, tlen, tc, rfl, htl, htm, htsh, _⟩ := id hT
  obtain ⟨ua, ul, uc, rfl, hul, hum, hush, _⟩ := id hu
  have htc := htsh.1
  have htc2 := htsh.2.1
  have Hul : Hid (tr.length = ul) := hul
  have Htl : Hid (n.trans.length = tlen) := htl
  clear hul htl
  have b1 := below_new w (.cells #[.int .i64 n.places, .slice ta tlen tc] 24)
  have hbx := box2_new w (.int .i64 n.places) (.slice ta tlen tc) 24
  obtain ⟨wa, Hwa⟩ : ∃ v, Hid (w.alloc (.cells #[.int .i64 n.places, .slice ta tlen tc] 24) = v) := ⟨_, rfl⟩
  rw [Hwa.out] at b1 hbx
  have s1 : wa.heap.size = w.heap.size + 1 := by rw [← Hwa.out]; simp
  have b2 := below_new wa (.cells (playA noPlay) 27)
  have hPl := playAt_new wa noPlay
  rw [s1] at hPl
  obtain ⟨w0, Hw0⟩ : ∃ v, Hid (wa.alloc (.cells #[.int .i64 0, .int .i64 0, .int .i64 0, .int .i64 0] 27) = v) := ⟨_, rfl⟩
  have e0 : wa.alloc (.cells (playA noPlay) 27) = w0 := Hw0.out
  rw [e0] at b2 hPl
  clear e0
  replace hbx := hbx.below b2
  have c0 := below_then b1 b2
  replace hT := hT.below c0
  replace hu := hu.below c0
  have hv : Net w0 (.agg #[.int .i64 n.places, .slice ta tlen tc]) n := ⟨_, rfl, hT⟩
  obtain ⟨x0, x1, x2⟩ := id hbx
  go_enter Try.func7, Try.ntmps7
  go_upto_region 1 with fail
  rw [Hwa.out]
  first | rw [s1, Hw0.out] | rw [Hw0.out]
  clear Hwa Hw0 s1 b1 b2
  go_wp2_with fail
  refine (hwrong_any _ n i o w0 (by exact hv) hsm).mono ?_
  rintro e w1 ⟨d, rfl, hd, b⟩
  have hltP := hPl.lt
  replace hPl := hPl.below b hltP
  replace hbx := hbx.below b
  replace hT := hT.below b
  replace hu := hu.below b
  replace hv := hv.below b
  replace c0 := below_then c0 b
  clear x0 x1 x2 b hltP
  by_cases hd0 : d = 0
  · subst hd0
    have HS : Hid (ShapeOk n i o) := hd.zero
    clear hd
    obtain ⟨P, HP, hP0, hP1⟩ : ∃ P : Nat, Hid (n.places = (P : Int)) ∧ 0 < P ∧ P ≤ 16 := shape_places HS.out
    obtain ⟨x0, x1, x2⟩ := id hbx
    have hltP := hPl.lt
    go_upto_region 5 with fail
    go_loopg [38] tlen (fun gk ix wr => ∃ k : Nat, k + gk = tlen ∧ ix = .int .i64 k ∧ Below w1.heap.size w1 wr ∧ Hid (∀ a, a < k → (tranAt n.trans a).label ≠ 0 ∧ ∀ j, j < a → (tranAt n.trans j).label ≠ (tranAt n.trans a).label))
    case atStart => exact ⟨0, by omega, rfl, Below.refl _ _, fun a ha => absurd ha (Nat.not_lt_zero _)⟩
    case round =>
      obtain ⟨k, hkg, rfl, hb, HN⟩ := hrel
      by_cases hkn : k < tlen
      · have Hkl : Hid (k < n.trans.length) := by show k < n.trans.length; rw [Htl.out]; exact hkn
        obtain ⟨tb, tf, k1, k2, rfl, hblt, t0, t1, t2, i1, i2⟩ := hT.at hkn
        obtain ⟨L, HL⟩ : ∃ L, Hid ((tranAt n.trans k).label = L) := ⟨_, rfl⟩
        rw [HL.out] at t0
        obtain ⟨a1, l1, p1, rfl, _⟩ := id i1
        obtain ⟨a2, l2, p2, rfl, _⟩ := id i2
        have T0 := (hb.cell (p := ⟨tb, tf + k * 3, none⟩) hblt).trans t0
        have T1 := (hb.cell (p := ⟨tb, tf + k * 3 + 1, none⟩) hblt).trans t1
        have T2 := (hb.cell (p := ⟨tb, tf + k * 3 + 2, none⟩) hblt).trans t2
        clear i1 i2 t0 t1 t2
        have bb := below_new wr (.cells #[.int .i64 L, .slice a1 l1 p1, .slice a2 l2 p2] 35)
        have hB3 := box3_new wr (.int .i64 L) (.slice a1 l1 p1) (.slice a2 l2 p2) 35
        obtain ⟨wk, Hwk⟩ : ∃ v, Hid (wr.alloc (.cells #[.int .i64 L, .slice a1 l1 p1, .slice a2 l2 p2] 35) = v) := ⟨_, rfl⟩
        obtain ⟨Bt, HBt⟩ : ∃ B, Hid (wr.heap.size = B) := ⟨_, rfl⟩
        rw [Hwk.out] at bb hB3
        rw [HBt.out] at hB3
        have hb2 := below_then hb bb
        have hbw := hbx.below hb2
        obtain ⟨y0, y1, y2⟩ := id hbw
        go_upto_region 7 with fail
        rw [Hwk.out, HBt.out]
        clear Hwk HBt T0 T1 T2
        have hkc : k ≤ tc := by omega
        go_upto_region 8 with fail
        clear hkc
        obtain ⟨g1, rfl⟩ : ∃ g1, g1 = gk := ⟨_, rfl⟩
        obtain ⟨wO, rfl⟩ : ∃ wO, wO = wr := ⟨_, rfl⟩
        go_loopg [48] k (fun gk2 ix2 wr2 => ∃ j : Nat, j + gk2 = k ∧ ix2 = .int .i64 j ∧ Below wk.heap.size wk wr2 ∧ Hid (∀ q, q < j → (tranAt n.trans q).label ≠ L))
        case atStart => exact ⟨0, by omega, rfl, Below.refl _ _, fun a ha => absurd ha (Nat.not_lt_zero _)⟩
        case round =>
          obtain ⟨j, hjg, rfl, hbj, HNj⟩ := hrel
          have hB3j := hB3.below hbj
          obtain ⟨z0, z1, z2, z3⟩ := id hB3j
          by_cases hjk : j < k
          · have hb3 := hb2.trans (hbj.mono hb2.size)
            obtain ⟨tb', tf', k1', k2', e', _, s0, s1, s2, i1, i2⟩ := (hT.below hb3).at (show j < tlen by omega)
            injection e' with e'
            injection e' with e1 e2
            subst e1 e2
            obtain ⟨M, HM⟩ : ∃ L, Hid ((tranAt n.trans j).label = L) := ⟨_, rfl⟩
            rw [HM.out] at s0
            obtain ⟨a3, l3, p3, rfl, _⟩ := id i1
            obtain ⟨a4, l4, p4, rfl, _⟩ := id i2
            clear i1 i2
            have bb2 := below_new wr (.cells #[.int .i64 M, .slice a3 l3 p3, .slice a4 l4 p4] 35)
            have hB4 := box3_new wr (.int .i64 M) (.slice a3 l3 p3) (.slice a4 l4 p4) 35
            obtain ⟨wj, Hwj⟩ : ∃ v, Hid (wr.alloc (.cells #[.int .i64 M, .slice a3 l3 p3, .slice a4 l4 p4] 35) = v) := ⟨_, rfl⟩
            obtain ⟨Bj, HBj⟩ : ∃ B, Hid (wr.heap.size = B) := ⟨_, rfl⟩
            rw [Hwj.out] at bb2 hB4
            rw [HBj.out] at hB4
            have hbj2 := below_then hbj bb2
            go_upto_region 10 with fail
            rw [Hwj.out, HBj.out]
            clear Hwj HBj s0 s1 s2 z0 z1 z2 z3
            obtain ⟨z0, z1, z2, z3⟩ := hB3j.below bb2
            obtain ⟨z4, z5, z6, z7⟩ := id hB4
            by_cases hLM : L = M
            · have hN : ¬ NamedN n := fun q => (q k Hkl.out).2 j hjk (by rw [HM.out, HL.out, hLM])
              have HV : Hid (Replayed n i o tr noPlay 1) := Replayed.of_form HS.out hN
              have hPlj := hPl.below (hb2.trans (hbj2.mono hb2.size)) hltP
              obtain ⟨W, HW, y1, bz⟩ := hPlj.put noPlay
              obtain ⟨q1, q2, q3, q4, f1, f2, f3, f4⟩ := hPlj.cells
              have R : Below w.heap.size w W := (below_then c0 (hb2.trans (hbj2.mono hb2.size))).trans (bz.mono (by omega))
              simp only [noPlay] at HW q1 q2 q3 q4
              subst hLM
              clear hPl hPlj hv hbx hT hu bz c0 hN hb hb2 hbj hbj2 hb3 hB3 hB3j hB4 bb bb2 hbw HL HM HN HNj
              go_wp2_with fail
              rw [HW.out]
              exact bodyPost_ret (v := .tuple #[playV noPlay, .int .i64 1]) (results_play rfl rfl rfl y1) rfl ⟨_, _, rfl, HV.out, R⟩
            · have e1 : (L == M) = false := by rw [beq_eq_false_iff_ne]; exact hLM
              have HN2 : Hid (∀ q, q < j + 1 → (tranAt n.trans q).label ≠ L) := fun q hq => by
                by_cases e : q = j
                · subst e; rw [HM.out]; exact fun e => hLM e.symm
                · exact HNj.out q (by omega)
              clear hLM HM HNj hB4 hB3j bb2 hb3 hbj
              go_wp2
              go_roundg (gk - 1)
              case measure => omega
              case rel => exact ⟨j + 1, by omega, by go_num, hbj2, HN2⟩
          · obtain rfl : j = k := by omega
            have hb3 := hb2.trans (hbj.mono hb2.size)
            by_cases hL0 : L = 0
            · have hN : ¬ NamedN n := fun q => (q j Hkl.out).1 (by rw [HL.out, hL0])
              have HV : Hid (Replayed n i o tr noPlay 1) := Replayed.of_form HS.out hN
              have hPlj := hPl.below hb3 hltP
              obtain ⟨W, HW, y1, bz⟩ := hPlj.put noPlay
              obtain ⟨q1, q2, q3, q4, f1, f2, f3, f4⟩ := hPlj.cells
              have R : Below w.heap.size w W := (below_then c0 hb3).trans (bz.mono (by omega))
              simp only [noPlay] at HW q1 q2 q3 q4
              subst hL0
              clear hPl hPlj hv hbx hT hu bz c0 hN hb hb2 hbj hb3 hB3 hB3j bb hbw HL HN HNj
              go_wp2_with fail
              rw [HW.out]
              exact bodyPost_ret (v := .tuple #[playV noPlay, .int .i64 1]) (results_play rfl rfl rfl y1) rfl ⟨_, _, rfl, HV.out, R⟩
            · have e1 : (L == 0) = false := by rw [beq_eq_false_iff_ne]; exact hL0
              have HN2 : Hid (∀ a, a < j + 1 → (tranAt n.trans a).label ≠ 0 ∧ ∀ q, q < a → (tranAt n.trans q).label ≠ (tranAt n.trans a).label) := fun a ha => by
                by_cases e : a = j
                · subst e; rw [HL.out]; exact ⟨hL0, HNj.out⟩
                · exact HN.out a (by omega)
              clear hL0 HL HNj HN hB3 hB3j bb hbj hb hb2
              go_wp2
              go_roundg (g1 - 1)
              case measure => omega
              case rel => exact ⟨j + 1, by omega, by go_num, hb3, HN2⟩
      · obtain rfl : k = tlen := by omega
        have HNn : Hid (NamedN n) := fun a ha => HN.out a (by rw [← Htl.out]; exact ha)
        clear HN
        have hbN := hb
        replace hPl := hPl.below hb hltP
        replace hbx := hbx.below hb
        replace hT := hT.below hb
        replace hu := hu.below hb
        replace hv := hv.below hb
        replace c0 := below_then c0 hb
        clear hb hbN x0 x1 x2
        obtain ⟨W3, rfl⟩ : ∃ W3, W3 = wr := ⟨_, rfl⟩
        have hltP := hPl.lt
        by_cases hl60 : 60 < ul
        · have HV : Hid (Replayed n i o tr noPlay 2) := Replayed.of_many HS.out HNn.out (by rw [Hul.out]; exact hl60)
          obtain ⟨W, HW, z1, bz⟩ := hPl.put noPlay
          obtain ⟨q1, q2, q3, q4, f1, f2, f3, f4⟩ := hPl.cells
          have R : Below w.heap.size w W := c0.trans (bz.mono (by omega))
          simp only [noPlay] at HW q1 q2 q3 q4
          clear hPl hv hbx hT hu bz c0
          go_wp2_with fail
          rw [HW.out]
          exact bodyPost_ret (v := .tuple #[playV noPlay, .int .i64 2]) (results_play rfl rfl rfl z1) rfl ⟨_, _, rfl, HV.out, R⟩
        · have hl60' : ¬ ((60 : Int) < (ul : Int)) := by omega
          obtain ⟨x0, x1, x2⟩ := id hbx
          rw [HP.out] at x1
          go_upto_region 20 with fail
          clear hl60'
          have hcw : ul ≤ 60 := by omega
          go_loopg [15, 70] ul (fun gk sv ix wr => ∃ (k : Nat) (tv : List (Int × Value × Value)), k + gk = ul ∧ ix = .int .i64 k ∧ SeqT W3 wr sv (trL n (tr.take k)) tv ∧ Hid (FoundL n (tr.take k)))
          case atStart => exact ⟨0, [], by omega, rfl, ⟨OwnT.nil_of (Below.refl _ _) (Nat.le_refl _), rfl, fun j hj => absurd hj (Nat.not_lt_zero _)⟩, by rw [List.take_zero]; exact fun a ha => absurd ha (by simp)⟩
          case round =>
            obtain ⟨q, tv, hkg, rfl, hSq, HF⟩ := hrel
            have hb := hSq.own.2.1
            obtain ⟨sa, sc, rfl⟩ := ownsRow_sl hSq.own.1
            have HQ : Hid (tv.length = q) := by show _ = _; rw [← hSq.len, trL_len HF.out, List.length_take, Hul.out]; omega
            obtain ⟨m, Hm⟩ : ∃ m, Hid (tv.length = m) := ⟨_, rfl⟩
            rw [Hm.out]
            have hbw := hbx.below hb
            obtain ⟨y0, y1, y2⟩ := id hbw
            by_cases hqn : q < ul
            · obtain ⟨ua', ul', uc', e, _, _, _, hr⟩ := (hu.below hb)
              injection e with e1 e2 e3
              subst e1 e2 e3
              have hqt : q < tr.length := by rw [Hul.out]; exact hqn
              obtain ⟨ub, uo, rfl, hublt, hc⟩ := hr q hqt
              have Hnx : Hid (tr.take (q + 1) = tr.take q ++ [nth tr q]) := tk_succ hqt
              have Hsp : Hid (tr = tr.take q ++ nth tr q :: tr.drop (q + 1)) := tk_split hqt
              clear hr hqt
              obtain ⟨l, Hl⟩ : ∃ l, Hid (nth tr q = l) := ⟨_, rfl⟩
              rw [Hl.out] at hc Hnx Hsp
              clear Hl
              go_upto_region 24 with fail
              clear hc y0 y1 y2
              obtain ⟨g1, rfl⟩ : ∃ g1, g1 = gk := ⟨_, rfl⟩
              obtain ⟨wO, rfl⟩ : ∃ wO, wO = wr := ⟨_, rfl⟩
              go_loopg [15, 79] k (fun gk sv ix wr => ∃ (j : Nat) (tv' : List (Int × Value × Value)), j + gk = k ∧ ix = .int .i64 j ∧ SeqT W3 wr sv (trL n (tr.take q) ++ filtTo n l j) tv')
              case atStart => exact ⟨0, tv, by omega, rfl, by rw [filt_zero, List.append_nil, ← Hm.out]; exact hSq⟩
              case round =>
                obtain ⟨j, tv', hjg, rfl, hSj⟩ := hrel
                have hbj := hSj.own.2.1
                have hl1 := filt_len n l j
                have HLj : Hid (tv'.length = q + (filtTo n l j).length) := by show _ = _; rw [← hSj.len, List.length_append, hSq.len, HQ.out]
                have hlb : tv'.length ≤ 100 := by have := HLj.out; omega
                obtain ⟨sa', sc', rfl⟩ := ownsRow_sl hSj.own.1
                obtain ⟨m', Hm'⟩ : ∃ m', Hid (tv'.length = m') := ⟨_, rfl⟩
                have HSv : Hid (SeqT W3 wr (.slice sa' m' sc') (trL n (tr.take q) ++ filtTo n l j) tv') := by rw [← Hm'.out]; exact hSj
                rw [Hm'.out]
                replace hSj := HSv.out
                clear HSv
                by_cases hjk : j < k
                · have Hjl : Hid (j < n.trans.length) := by show j < n.trans.length; rw [Htl.out]; exact hjk
                  obtain ⟨tb, tf, k1, k2, rfl, hblt, t0, t1, t2, i1, i2⟩ := hT.at hjk
                  have Hyes := fun h => filt_yes (a := l) HNn.out Hjl.out h
                  have Hno := fun h => filt_no (n := n) (a := l) (j := j) h
                  obtain ⟨T, HTt⟩ : ∃ T, Hid (tranAt n.trans j = T) := ⟨_, rfl⟩
                  rw [HTt.out] at t0 i1 i2 Hyes Hno
                  obtain ⟨M, HM⟩ : ∃ L, Hid (T.label = L) := ⟨_, rfl⟩
                  rw [HM.out] at t0 Hyes Hno
                  obtain ⟨a3, l3, p3, rfl, _⟩ := id i1
                  obtain ⟨a4, l4, p4, rfl, _⟩ := id i2
                  have T0 := (hbj.cell (p := ⟨tb, tf + j * 3, none⟩) hblt).trans t0
                  have T1 := (hbj.cell (p := ⟨tb, tf + j * 3 + 1, none⟩) hblt).trans t1
                  have T2 := (hbj.cell (p := ⟨tb, tf + j * 3 + 2, none⟩) hblt).trans t2
                  have bb2 := below_new wr (.cells #[.int .i64 M, .slice a3 l3 p3, .slice a4 l4 p4] 35)
                  have hB4 := box3_new wr (.int .i64 M) (.slice a3 l3 p3) (.slice a4 l4 p4) 35
                  obtain ⟨wj, Hwj⟩ : ∃ v, Hid (wr.alloc (.cells #[.int .i64 M, .slice a3 l3 p3, .slice a4 l4 p4] 35) = v) := ⟨_, rfl⟩
                  obtain ⟨Bj, HBj⟩ : ∃ B, Hid (wr.heap.size = B) := ⟨_, rfl⟩
                  rw [Hwj.out] at bb2 hB4
                  rw [HBj.out] at hB4
                  have HO := hSj.own.trans bb2
                  go_upto_region 26 with fail
                  rw [Hwj.out, HBj.out]
                  clear Hwj HBj T0 T1 T2 t0 t1 t2
                  obtain ⟨z4, z5, z6, z7⟩ := id hB4
                  by_cases hML : M = l
                  · have R := Hyes hML
                    have Hst : Hid (∀ v' w', OwnT W3.heap.size W3 w' v' (tv' ++ [(M, .slice a3 l3 p3, .slice a4 l4 p4)]) → SeqT W3 w' v' (trL n (tr.take q) ++ filtTo n l (j + 1)) (tv' ++ [(M, .slice a3 l3 p3, .slice a4 l4 p4)])) := fun v' w' h => by
                      rw [R, ← List.append_assoc]
                      have := hSj.snoc (t := T) i1 i2 (w' := w') (v' := v') (by rw [HM.out]; exact h)
                      rw [HM.out] at this
                      exact this
                    have e1 : (M == l) = true := by rw [beq_iff_eq]; exact hML
                    clear hML Hyes Hno R i1 i2 hSj HM HTt hB4 bb2 hbj hl1
                    go_wp2_with (at_builtin; refine wp_append_tran rfl _ _ rfl W3.heap.size W3 _ _ tv' M a3 a4 l3 l4 p3 p4 _ HO rfl rfl rfl (by omega) ?_; intro v' w5 hO5)
                    go_roundg (gk - 1)
                    case measure => omega
                    case rel => exact ⟨j + 1, _, by omega, by go_num, Hst.out _ _ hO5⟩
                  · have e1 : (M == l) = false := by rw [beq_eq_false_iff_ne]; exact hML
                    have R : SeqT W3 wj (.slice sa' m' sc') (trL n (tr.take q) ++ filtTo n l (j + 1)) tv' := by rw [Hno hML]; exact ⟨HO, hSj.len, hSj.elems⟩
                    clear hML Hyes Hno i1 i2 hSj HM HTt hB4 bb2 hbj HO
                    go_wp2
                    go_roundg (gk - 1)
                    case measure => omega
                    case rel => exact ⟨j + 1, _, by omega, by go_num, R⟩
                · obtain rfl : j = k := by omega
                  have hfa : filtTo n l j = pickT n l := by rw [← filt_all n l, Htl.out]
                  rw [hfa] at hSj HLj
                  cases hq : labIdx n l with
                  | none =>
                    have HV : Hid (Replayed n i o tr noPlay 3) := Replayed.of_none HS.out HNn.out (by rw [Hul.out]; exact hcw) (game_lost _ HF.out Hsp.out hq)
                    have hp0 : (pickT n l).length = 0 := by simp [pickT, hq]
                    obtain rfl : m' = m := by have h1 := HLj.out; have h2 := Hm'.out; have h3 := Hm.out; have h4 := HQ.out; omega
                    have hPlj := hPl.below hbj hltP
                    obtain ⟨W, HW, y1, bz⟩ := hPlj.put noPlay
                    obtain ⟨q1, q2, q3, q4, f1, f2, f3, f4⟩ := hPlj.cells
                    have R : Below w.heap.size w W := (below_then c0 hbj).trans (bz.mono (by omega))
                    simp only [noPlay] at HW q1 q2 q3 q4
                    clear hPl hPlj hv hbx hT hu bz c0 hb hbj hbw hSq hSj HF HNn hp0 hfa hq Hnx Hsp hl1 hlb
                    go_wp2_with fail
                    rw [HW.out]
                    exact bodyPost_ret (v := .tuple #[playV noPlay, .int .i64 3]) (results_play rfl rfl rfl y1) rfl ⟨_, _, rfl, HV.out, R⟩
                  | some kk =>
                    have hp1 : (pickT n l).length = 1 := by simp [pickT, hq]
                    have hll : ¬ m' = m := by have h1 := HLj.out; have h2 := Hm'.out; have h3 := Hm.out; have h4 := HQ.out; omega
                    have hll2 : ((m' : Int) == (m : Int)) = false := by rw [beq_eq_false_iff_ne]; omega
                    have R : SeqT W3 wr (.slice sa' m' sc') (trL n (tr.take (q + 1))) tv' := by
                      rw [Hnx.out]
                      have e : trL n (tr.take q ++ [l]) = trL n (tr.take q) ++ pickT n l := by simp [trL, List.flatMap_append]
                      rw [e]
                      exact hSj
                    have HF2 : Hid (FoundL n (tr.take (q + 1))) := by
                      show FoundL n _
                      rw [Hnx.out]
                      intro a ha
                      rcases List.mem_append.1 ha with h | h
                      · exact HF.out a h
                      · rw [List.mem_singleton.1 h, hq]; simp
                    clear hSq hSj HF hp1 hfa hq Hnx Hsp hl1 hbj hb hbw hlb
                    go_wp2
                    go_roundg (g1 - 1)
                    case measure => omega
                    case rel => exact ⟨q + 1, _, by omega, by go_num, R, HF2⟩
            · obtain rfl : q = ul := by omega
              have htk : tr.take q = tr := List.take_of_length_le (by rw [Hul.out]; exact Nat.le_refl _)
              rw [htk] at hSq HF
              clear htk
              obtain ⟨g9, hg9, eg9⟩ := ref_sums HS.out HP.out hP1 HF.out
              have HV : Hid (Replayed n i o tr (sumsH n i (trL n tr ++ [lastT n o P]) P) 0) := by
                have := Replayed.of_ok HS.out HNn.out (by rw [Hul.out]; exact hcw) hg9
                rw [eg9] at this
                exact this
              clear hg9 eg9
              have HTk : Hid (∀ t ∈ trL n tr ++ [lastT n o P], TokT P t) := by
                intro t h
                rcases List.mem_append.1 h with h | h
                · exact trL_tok HS.out.ok HP.out tr t h
                · rw [List.mem_singleton.1 h]; exact ⟨by show Toks P (startL n.places o); rw [HP.out]; exact tok_of_start hP1 o, zeros_tok P⟩
              have HLl : Hid ((trL n tr ++ [lastT n o P]).length = m + 1) := by
                show _ = _
                rw [List.length_append, hSq.len, Hm.out]; rfl
              obtain ⟨L, HL⟩ : ∃ L, Hid (trL n tr ++ [lastT n o P] = L) := ⟨_, rfl⟩
              rw [HL.out] at HV HTk HLl
              have hm60 : m ≤ 60 := by have h1 := Hm.out; have h2 := HQ.out; omega
              have hown0 := hSq.own.1
              rw [Hm.out] at hown0
              have HE : Hid _ := hSq.elems
              have HEl : Hid ((trL n tr).length = tv.length) := hSq.len
              have bP := below_new wr (.cells (playA noPlay) 27)
              have hR0 := playAt_new wr noPlay
              have hlt0 := hSq.own.1.lt
              obtain ⟨W5, HW5⟩ : ∃ v, Hid (wr.alloc (.cells #[.int .i64 0, .int .i64 0, .int .i64 0, .int .i64 0] 27) = v) := ⟨_, rfl⟩
              obtain ⟨B, HB⟩ : ∃ B, Hid (wr.heap.size = B) := ⟨_, rfl⟩
              have e0 : wr.alloc (.cells (playA noPlay) 27) = W5 := HW5.out
              rw [e0] at bP hR0
              rw [HB.out] at hR0
              clear e0
              have hWB : W3.heap.size ≤ B := by rw [← HB.out]; exact hb.size
              have hsvB : ∀ k', (Value.slice sa m sc).ownBlock = some k' → W3.heap.size ≤ k' ∧ k' < B := fun k' h => by rw [← HB.out]; exact hlt0 k' (by rw [Hm.out]; exact h)
              have hb5 := below_then hb bP
              have hown5 : W5.ownsRow W3.heap.size 35 3 (.slice sa m sc) tv.length (tvCells tv) := by
                have := hSq.own.trans bP
                rw [Hm.out] at this
                exact this.1
              have hbx5 := hbx.below hb5
              obtain ⟨y0', y1', y2'⟩ := id hbx5
              rw [HP.out] at y1'
              go_upto_region 33 with fail
              rw [HW5.out, HB.out]
              clear HW5 HB y0 y1 y2 hlt0 hown0 hb hbw hSq bP
              go_upto_region 34 with fail
              clear y0' y1' y2' hbx5
              go_loopg [100] P (fun gk ix wr => ∃ p : Nat, p + gk = P ∧ ix = .int .i64 p ∧ PlayAt wr B (sumsH n i L p) ∧ Below W3.heap.size W3 wr ∧ wr.ownsRow W3.heap.size 35 3 (.slice sa m sc) tv.length (tvCells tv))
              case atStart => exact ⟨0, by omega, rfl, hR0, hb5, hown5⟩
              case round =>
                clear hR0 hb5 hown5
                obtain ⟨p, hpg, rfl, hRp, hb, hown⟩ := hrel
                have hvp := hv.below hb
                have hbxp := hbx.below hb
                obtain ⟨y0, y1, y2⟩ := id hbxp
                by_cases hpn : p < P
                · obtain ⟨h0, Hh0⟩ : ∃ h, Hid (nth (startL n.places i) p = h) := ⟨_, rfl⟩
                  have hh0 : 0 ≤ h0 ∧ h0 ≤ 1 := by rw [← Hh0.out]; exact start_bounds _ _ _
                  have HBd : Hid (∀ j, 0 ≤ haveH p (L.take j) h0 ∧ haveH p (L.take j) h0 ≤ 600 ∧ 0 ≤ lackS p (L.take j) h0 ∧ lackS p (L.take j) h0 ≤ 600 ∧ 0 ≤ preS p (L.take j) ∧ preS p (L.take j) ≤ 600 ∧ 0 ≤ postS p (L.take j) ∧ postS p (L.take j) ≤ 600) := fun j => by
                    obtain ⟨a1, a2, a3, a4, a5, a6, a7, a8⟩ := hist_bnd (P := P) (p := p) (L.take j) h0 (fun t ht => HTk.out t (List.mem_of_mem_take ht)) hh0.1
                    have hl : (L.take j).length ≤ 61 := by rw [List.length_take, HLl.out]; omega
                    refine ⟨a1, by omega, a3, by omega, a5, by omega, a7, by omega⟩
                  have HSm : Hid (0 ≤ (sumsH n i L p).put ∧ (sumsH n i L p).put ≤ 20000 ∧ 0 ≤ (sumsH n i L p).taken ∧ (sumsH n i L p).taken ≤ 20000 ∧ 0 ≤ (sumsH n i L p).lacked ∧ (sumsH n i L p).lacked ≤ 20000 ∧ 0 ≤ (sumsH n i L p).left ∧ (sumsH n i L p).left ≤ 20000) := sums_bnd (P := P) HTk.out (by rw [HLl.out]; omega) (by omega)
                  have HNx : Hid (sumsH n i L (p + 1) = ⟨(sumsH n i L p).put + (h0 + postS p L), (sumsH n i L p).taken + preS p L, (sumsH n i L p).lacked + lackS p L h0, (sumsH n i L p).left + haveH p L h0⟩) := by
                    show _ = _
                    rw [← Hh0.out]; rfl
                  obtain ⟨r, Hr⟩ : ∃ r, Hid (sumsH n i L p = r) := ⟨_, rfl⟩
                  rw [Hr.out] at hRp HSm HNx
                  clear Hr
                  obtain ⟨rA, rB, rC, rD⟩ := r
                  simp only at HSm HNx
                  obtain ⟨m1, m2, m3, m4, m5, m6, m7, m8⟩ := HSm.out
                  clear HSm
                  go_wp2_with fail
                  refine (hstart_own _ n i wr (by exact hvp)).mono ?_
                  rintro e wA ⟨r1, rfl, hOw⟩
                  have bA := hOw.2.1
                  have hIA := hOw.ints (by rw [start_length]; omega)
                  clear hOw
                  obtain ⟨ra, rl, rc, rfl, hrl, _, _, hrr⟩ := hIA
                  obtain ⟨rb, ro, rfl, _, hrc⟩ := hrr p (by rw [start_length, HP.out]; omega)
                  rw [Hh0.out] at hrc
                  have hprl : p < rl := by rw [← hrl, start_length, HP.out]; omega
                  clear hrr hrl
                  have hRA := hRp.below bA hRp.lt
                  have hbA := below_then hb bA
                  have hownA := ((ownsRow_on hown).to bA.size (fun k' hk' _ => bA.block k' hk')).now
                  obtain ⟨d1, d2, d3, d4, f1, f2, f3, f4⟩ := hRA.cells
                  simp only at d1 d2 d3 d4
                  have hRq := hRA.fld (k := 0) (u := .int .i64 (rA + h0)) (p' := ⟨rA + h0, rB, rC, rD⟩) rfl
                  have hbq : Below W3.heap.size W3 (wA.setCell ⟨B, 0, none⟩ (.int .i64 (rA + h0))) := hbA.setCell (p := ⟨B, 0, none⟩) hWB _
                  have hownq := ((ownsRow_on hownA).to (w' := wA.setCell ⟨B, 0, none⟩ (.int .i64 (rA + h0))) (by simp [World.setCell]) (fun k' _ hD => Below.heap_setCell wA ⟨B, 0, none⟩ _ k' (by have := (hsvB k' hD.1).2; show k' ≠ B; omega))).now
                  go_upto_region 38 with fail
                  obtain ⟨wq, Hwq⟩ : ∃ v, Hid (wA.setCell ⟨B, 0, none⟩ (.int .i64 (rA + h0)) = v) := ⟨_, rfl⟩
                  rw [Hwq.out] at hRq hbq hownq ⊢
                  clear Hwq d1 d2 d3 d4 f1 f2 f3 f4 hrc hownA hbA hRA bA y0 y1 y2 hbxp hvp hb hown hRp hprl
                  have hvq := hv.below hbq
                  have hbxq := hbx.below hbq
                  rw [HP.out] at hbxq
                  have hTq := hownq
                  have hWq := hbq.size
                  have hBq := hRq.lt
                  go_cut [123, 124, 125] (fun lv ln z wc => ∃ na nc, lv = .slice na (m + 1) nc ∧ ln = .int .i64 ((m + 1 : Nat) : Int) ∧ z = .int .i64 0 ∧ LaidL W3 wq n o P (.slice sa m sc) tv (.slice na (m + 1) nc) wc)
                  case first =>
                    have HS0 : Hid (∀ w', Below wq.heap.size wq w' → w'.cell? ⟨w.heap.size, 0, none⟩ = some (.int .i64 (P : Int)) ∧ w'.cell? ⟨w.heap.size, 1, none⟩ = some (.slice ta k tc)) := fun w' hb => ⟨(hbxq.below hb).2.1, (hbxq.below hb).2.2⟩
                    refine wp_region_held_drew (S := (fun w' => w'.cell? ⟨w.heap.size, 0, none⟩ = some (.int .i64 (P : Int)) ∧ w'.cell? ⟨w.heap.size, 1, none⟩ = some (.slice ta k tc))) (by kernel_rfl) (HS0.out _ (Below.refl _ _).drew) (fun hH => ?_)
                    have b : Below wq.heap.size wq wq.drew := (Below.refl _ _).drew
                    obtain ⟨v0, Hv0⟩ : ∃ v0, Hid (wq.drew = v0) := ⟨_, rfl⟩
                    rw [Hv0.out] at hH b ⊢
                    clear Hv0
                    refine wpAnyH_take (i := 0) (v := .slice sa m sc) rfl (by kernel_rfl) (by kernel_rfl) (by kernel_rfl) (fun _ _ _ h => h) (.inl ⟨by rfl, fun _ _ => rfl⟩) hH ?_
                    simp only [List.getElem_toArray, List.getElem_cons_succ, List.getElem_cons_zero, Act.put, List.setIfInBounds_toArray, List.set_cons_zero, List.set_cons_succ]
                    refine wpAnyH_take (i := 1) (v := .agg #[.int .i64 (P : Int), .slice ta k tc]) rfl (by kernel_rfl) (by kernel_rfl) (by kernel_rfl) (fun _ _ _ h => h) (.inl ⟨by rfl, fun w' hS' => by obtain ⟨s0, s1⟩ := hS'; go_simp⟩) hH ?_
                    simp only [List.getElem_toArray, List.getElem_cons_succ, List.getElem_cons_zero, Act.put, List.setIfInBounds_toArray, List.set_cons_zero, List.set_cons_succ]
                    refine wpAnyH_take (i := 2) (v := .int .i64 o) rfl (by kernel_rfl) (by kernel_rfl) (by kernel_rfl) (fun _ _ _ h => h) (.inl ⟨by rfl, fun _ _ => rfl⟩) hH ?_
                    simp only [List.getElem_toArray, List.getElem_cons_succ, List.getElem_cons_zero, Act.put, List.setIfInBounds_toArray, List.set_cons_zero, List.set_cons_succ]
                    refine wpAnyH_take (i := 4) (v := .pointer (some ⟨w.heap.size, 0, none⟩)) rfl (by kernel_rfl) (by kernel_rfl) (by kernel_rfl) (fun _ _ _ h => h) (.inl ⟨by rfl, fun w' hS' => by first | (go_simp; done) | (go_simp; rfl) | (go_simp; intro h; omega) | (go_simp; omega)⟩) hH ?_
                    simp only [List.getElem_toArray, List.getElem_cons_succ, List.getElem_cons_zero, Act.put, List.setIfInBounds_toArray, List.set_cons_zero, List.set_cons_succ]
                    refine wpAnyH_take (i := 5) (v := .int .i64 (P : Int)) rfl (by kernel_rfl) (by kernel_rfl) (by kernel_rfl) (fun _ _ _ h => h) (.inl ⟨by rfl, fun w' hS' => by obtain ⟨s0, s1⟩ := hS'; go_simp⟩) hH ?_
                    simp only [List.getElem_toArray, List.getElem_cons_succ, List.getElem_cons_zero, Act.put, List.setIfInBounds_toArray, List.set_cons_zero, List.set_cons_succ]
                    refine wpAnyH_take (i := 11) (v := .int .i64 0) rfl (by kernel_rfl) (by kernel_rfl) (by kernel_rfl) (fun _ _ _ h => h) (.inl ⟨by rfl, fun _ _ => rfl⟩) hH ?_
                    simp only [List.getElem_toArray, List.getElem_cons_succ, List.getElem_cons_zero, Act.put, List.setIfInBounds_toArray, List.set_cons_zero, List.set_cons_succ]
                    refine wpAnyH_ready (rs := [3, 6]) (by kernel_rfl) (by simp) ?_
                    refine (AllReadyH.cons rfl (fun K hK => ?_) (AllReadyH.cons rfl (fun K hK => ?_) AllReadyH.nil))
                    · simp only [List.getElem_toArray, List.getElem_cons_succ, List.getElem_cons_zero]
                      rw [if_pos (by rfl)]
                      go_wp2_with fail
                      refine (hstart_own _ n o v0 (by rw [← HP.out]; exact hvq.below b)).mono ?_
                      rintro e v1 ⟨r1, rfl, hOw⟩
                      have bs1 := hOw.2.1
                      have O1 := (hOw.on (by rw [start_length]; omega)).weaken (D' := fun k => wq.heap.size ≤ k) fun k _ hk => Nat.le_trans b.size hk
                      obtain ⟨ra1, rl1, rc1, rfl, _⟩ := id O1.now
                      clear hOw
                      replace b := below_then b bs1
                      refine hK.out _ _ (HS0.out _ b) (fun hH => ?_)
                      clear hK
                      obtain ⟨v2, hmk, hZ⟩ := make_intsZ v1 P (P : Int) rfl (by omega)
                      refine wpAnyH_ready (rs := [6]) (by kernel_rfl) (by simp) ?_
                      refine AllReadyH.cons rfl (fun K hK => ?_) AllReadyH.nil
                      simp only [List.getElem_toArray, List.getElem_cons_succ, List.getElem_cons_zero]
                      rw [if_pos (by rfl)]
                      go_wp2_with fail
                      have bs2 : Below v1.heap.size v1 v2 := hZ.below
                      have O2 := (hZ.on (zs := List.replicate P 0) (by simp) (fun j hj => nth_zeros P j) (by omega) (Nat.le_refl P) (by omega)).weaken (D' := fun k => wq.heap.size ≤ k) fun k _ hk => Nat.le_trans b.size hk
                      obtain ⟨z2, Hz2⟩ : ∃ z, Hid (v1.heap.size = z) := ⟨_, rfl⟩
                      rw [Hz2.out] at O2 ⊢
                      clear Hz2 hZ hmk
                      replace b := below_then b bs2
                      refine hK.out _ _ (HS0.out _ b) (fun hH => ?_)
                      clear hK
                      replace O1 := O1.below bs2
                      refine wpAnyH_take (i := 7) (v := .agg #[.int .i64 0, .slice ra1 rl1 rc1, .slice (some ⟨z2, 0, none⟩) P P]) rfl (by kernel_rfl) (by kernel_rfl) (by kernel_rfl) (fun _ _ _ h => h) (.inl ⟨by rfl, fun w' hS' => by first | (go_simp; done) | (go_simp; rfl) | (go_simp; intro h; omega) | (go_simp; omega)⟩) hH ?_
                      simp only [List.getElem_toArray, List.getElem_cons_succ, List.getElem_cons_zero, Act.put, List.setIfInBounds_toArray, List.set_cons_zero, List.set_cons_succ]
                      have bs := below_new v2 (.cells #[.int .i64 0, .slice ra1 rl1 rc1, .slice (some ⟨z2, 0, none⟩) P P] 35)
                      obtain ⟨Bb, HBb⟩ : ∃ B, Hid (v2.heap.size = B) := ⟨_, rfl⟩
                      have hcell : ∀ j u, (tvCells [((0 : Int), Value.slice ra1 rl1 rc1, Value.slice (some ⟨z2, 0, none⟩) P P)])[j]? = some u → (v2.alloc (.cells #[.int .i64 0, .slice ra1 rl1 rc1, .slice (some ⟨z2, 0, none⟩) P P] 35)).cell? ⟨Bb, 0 + j, none⟩ = some u := fun j u hj => by
                        rw [← HBb.out, Nat.zero_add, World.cell?_alloc_at _ _ _ _ rfl]
                        simpa [tvCells] using hj
                      obtain ⟨u3, Hu3⟩ : ∃ v, Hid (v2.alloc (.cells #[.int .i64 0, .slice ra1 rl1 rc1, .slice (some ⟨z2, 0, none⟩) P P] 35) = v) := ⟨_, rfl⟩
                      rw [Hu3.out] at bs hcell
                      refine wpAnyH_ready (rs := [8]) (by kernel_rfl) (by simp) ?_
                      refine AllReadyH.cons rfl (fun K hK => ?_) AllReadyH.nil
                      simp only [List.getElem_toArray, List.getElem_cons_succ, List.getElem_cons_zero]
                      rw [if_pos (by rfl)]
                      go_wp2_with fail
                      rw [Hu3.out, HBb.out]
                      replace b := below_then b bs
                      refine hK.out _ _ (HS0.out _ b) (fun hH => ?_)
                      clear hK
                      replace O1 := O1.below bs
                      replace O2 := O2.below bs
                      refine wpAnyH_ready (rs := [9]) (by kernel_rfl) (by simp) ?_
                      refine AllReadyH.cons rfl (fun K hK => ?_) AllReadyH.nil
                      simp only [List.getElem_toArray, List.getElem_cons_succ, List.getElem_cons_zero]
                      refine wpr_append_keepT (by rfl) _ _ rfl W3.heap.size u3 (.slice sa m sc) tv [((0 : Int), Value.slice ra1 rl1 rc1, Value.slice (some ⟨z2, 0, none⟩) P P)] Bb 0 1 1 ((ownsRow_on hTq).to b.size (fun k hk _ => b.block k hk)).now rfl rfl rfl hcell (by intro u hu; simp only [tvCells, List.flatMap_cons, List.flatMap_nil, List.append_nil, List.cons_append, List.nil_append, List.mem_cons, List.not_mem_nil, or_false] at hu; rcases hu with rfl | rfl | rfl <;> rfl) (by have := Hm.out; omega) (Nat.le_trans hWq b.size) ?_
                      intro nv u4 hown hold hg
                      have hnl : (tv ++ [((0 : Int), Value.slice ra1 rl1 rc1, Value.slice (some ⟨z2, 0, none⟩) P P)]).length = m + 1 := by rw [List.length_append, Hm.out]; rfl
                      obtain ⟨na, nc, rfl⟩ := ownsRow_sl hown
                      have R : LaidL W3 wq n o P (.slice sa m sc) tv (.slice na ((tv ++ [((0 : Int), Value.slice ra1 rl1 rc1, Value.slice (some ⟨z2, 0, none⟩) P P)]).length) nc) u4 := ⟨_, _, hown, hold, ⟨u3, b, hg⟩, O1.grown hg (fun k hk hD e => by have := (hTq.lt k e.symm).2; have hD : wq.heap.size ≤ k := hD; omega), O2.grown hg (fun k hk hD e => by have := (hTq.lt k e.symm).2; have hD : wq.heap.size ≤ k := hD; omega)⟩
                      rw [hnl] at R ⊢
                      have hS4 : u4.cell? ⟨w.heap.size, 0, none⟩ = some (.int .i64 (P : Int)) ∧ u4.cell? ⟨w.heap.size, 1, none⟩ = some (.slice ta k tc) := by
                        obtain ⟨y0, y1⟩ := HS0.out _ b
                        have hne : some w.heap.size ≠ (Value.slice sa m sc).ownBlock := fun e => by have := (hTq.lt _ e.symm).1; omega
                        exact ⟨(World.cell?_of_block (a := ⟨w.heap.size, 0, none⟩) (hg.block _ (cell_lt0 y0) hne)).trans y0, (World.cell?_of_block (a := ⟨w.heap.size, 1, none⟩) (hg.block _ (cell_lt0 y1) hne)).trans y1⟩
                      refine hK.out _ _ hS4 (fun hH => ?_)
                      clear hK
                      refine wpAnyH_take (i := 10) (v := .int .i64 ((m + 1 : Nat) : Int)) rfl (by kernel_rfl) (by kernel_rfl) (by kernel_rfl) (fun _ _ _ h => h) (.inl ⟨by rfl, fun w' hS' => by first | (go_simp; done) | (go_simp; rfl) | (go_simp; intro h; omega) | (go_simp; omega)⟩) hH ?_
                      simp only [List.getElem_toArray, List.getElem_cons_succ, List.getElem_cons_zero, Act.put, List.setIfInBounds_toArray, List.set_cons_zero, List.set_cons_succ]
                      refine wpAnyH_done (by kernel_rfl) ?_ _
                      go_wp2_with fail
                      go_meet
                      exact ⟨_, _, rfl, by go_num, rfl, R⟩
                    · simp only [List.getElem_toArray, List.getElem_cons_succ, List.getElem_cons_zero]
                      rw [if_pos (by rfl)]
                      obtain ⟨v1, hmk, hZ⟩ := make_intsZ v0 P (P : Int) rfl (by omega)
                      go_wp2_with fail
                      have bs2 : Below v0.heap.size v0 v1 := hZ.below
                      have O2 := (hZ.on (zs := List.replicate P 0) (by simp) (fun j hj => nth_zeros P j) (by omega) (Nat.le_refl P) (by omega)).weaken (D' := fun k => wq.heap.size ≤ k) fun k _ hk => Nat.le_trans b.size hk
                      obtain ⟨z2, Hz2⟩ : ∃ z, Hid (v0.heap.size = z) := ⟨_, rfl⟩
                      rw [Hz2.out] at O2 ⊢
                      clear Hz2 hZ hmk
                      replace b := below_then b bs2
                      refine hK.out _ _ (HS0.out _ b) (fun hH => ?_)
                      clear hK
                      refine wpAnyH_ready (rs := [3]) (by kernel_rfl) (by simp) ?_
                      refine AllReadyH.cons rfl (fun K hK => ?_) AllReadyH.nil
                      simp only [List.getElem_toArray, List.getElem_cons_succ, List.getElem_cons_zero]
                      rw [if_pos (by rfl)]
                      go_wp2_with fail
                      refine (hstart_own _ n o v1 (by rw [← HP.out]; exact hvq.below b)).mono ?_
                      rintro e v2 ⟨r1, rfl, hOw⟩
                      have bs1 := hOw.2.1
                      have O1 := (hOw.on (by rw [start_length]; omega)).weaken (D' := fun k => wq.heap.size ≤ k) fun k _ hk => Nat.le_trans b.size hk
                      obtain ⟨ra1, rl1, rc1, rfl, _⟩ := id O1.now
                      clear hOw
                      replace b := below_then b bs1
                      refine hK.out _ _ (HS0.out _ b) (fun hH => ?_)
                      clear hK
                      replace O2 := O2.below bs1
                      refine wpAnyH_take (i := 7) (v := .agg #[.int .i64 0, .slice ra1 rl1 rc1, .slice (some ⟨z2, 0, none⟩) P P]) rfl (by kernel_rfl) (by kernel_rfl) (by kernel_rfl) (fun _ _ _ h => h) (.inl ⟨by rfl, fun w' hS' => by first | (go_simp; done) | (go_simp; rfl) | (go_simp; intro h; omega) | (go_simp; omega)⟩) hH ?_
                      simp only [List.getElem_toArray, List.getElem_cons_succ, List.getElem_cons_zero, Act.put, List.setIfInBounds_toArray, List.set_cons_zero, List.set_cons_succ]
                      have bs := below_new v2 (.cells #[.int .i64 0, .slice ra1 rl1 rc1, .slice (some ⟨z2, 0, none⟩) P P] 35)
                      obtain ⟨Bb, HBb⟩ : ∃ B, Hid (v2.heap.size = B) := ⟨_, rfl⟩
                      have hcell : ∀ j u, (tvCells [((0 : Int), Value.slice ra1 rl1 rc1, Value.slice (some ⟨z2, 0, none⟩) P P)])[j]? = some u → (v2.alloc (.cells #[.int .i64 0, .slice ra1 rl1 rc1, .slice (some ⟨z2, 0, none⟩) P P] 35)).cell? ⟨Bb, 0 + j, none⟩ = some u := fun j u hj => by
                        rw [← HBb.out, Nat.zero_add, World.cell?_alloc_at _ _ _ _ rfl]
                        simpa [tvCells] using hj
                      obtain ⟨u3, Hu3⟩ : ∃ v, Hid (v2.alloc (.cells #[.int .i64 0, .slice ra1 rl1 rc1, .slice (some ⟨z2, 0, none⟩) P P] 35) = v) := ⟨_, rfl⟩
                      rw [Hu3.out] at bs hcell
                      refine wpAnyH_ready (rs := [8]) (by kernel_rfl) (by simp) ?_
                      refine AllReadyH.cons rfl (fun K hK => ?_) AllReadyH.nil
                      simp only [List.getElem_toArray, List.getElem_cons_succ, List.getElem_cons_zero]
                      rw [if_pos (by rfl)]
                      go_wp2_with fail
                      rw [Hu3.out, HBb.out]
                      replace b := below_then b bs
                      refine hK.out _ _ (HS0.out _ b) (fun hH => ?_)
                      clear hK
                      replace O1 := O1.below bs
                      replace O2 := O2.below bs
                      refine wpAnyH_ready (rs := [9]) (by kernel_rfl) (by simp) ?_
                      refine AllReadyH.cons rfl (fun K hK => ?_) AllReadyH.nil
                      simp only [List.getElem_toArray, List.getElem_cons_succ, List.getElem_cons_zero]
                      refine wpr_append_keepT (by rfl) _ _ rfl W3.heap.size u3 (.slice sa m sc) tv [((0 : Int), Value.slice ra1 rl1 rc1, Value.slice (some ⟨z2, 0, none⟩) P P)] Bb 0 1 1 ((ownsRow_on hTq).to b.size (fun k hk _ => b.block k hk)).now rfl rfl rfl hcell (by intro u hu; simp only [tvCells, List.flatMap_cons, List.flatMap_nil, List.append_nil, List.cons_append, List.nil_append, List.mem_cons, List.not_mem_nil, or_false] at hu; rcases hu with rfl | rfl | rfl <;> rfl) (by have := Hm.out; omega) (Nat.le_trans hWq b.size) ?_
                      intro nv u4 hown hold hg
                      have hnl : (tv ++ [((0 : Int), Value.slice ra1 rl1 rc1, Value.slice (some ⟨z2, 0, none⟩) P P)]).length = m + 1 := by rw [List.length_append, Hm.out]; rfl
                      obtain ⟨na, nc, rfl⟩ := ownsRow_sl hown
                      have R : LaidL W3 wq n o P (.slice sa m sc) tv (.slice na ((tv ++ [((0 : Int), Value.slice ra1 rl1 rc1, Value.slice (some ⟨z2, 0, none⟩) P P)]).length) nc) u4 := ⟨_, _, hown, hold, ⟨u3, b, hg⟩, O1.grown hg (fun k hk hD e => by have := (hTq.lt k e.symm).2; have hD : wq.heap.size ≤ k := hD; omega), O2.grown hg (fun k hk hD e => by have := (hTq.lt k e.symm).2; have hD : wq.heap.size ≤ k := hD; omega)⟩
                      rw [hnl] at R ⊢
                      have hS4 : u4.cell? ⟨w.heap.size, 0, none⟩ = some (.int .i64 (P : Int)) ∧ u4.cell? ⟨w.heap.size, 1, none⟩ = some (.slice ta k tc) := by
                        obtain ⟨y0, y1⟩ := HS0.out _ b
                        have hne : some w.heap.size ≠ (Value.slice sa m sc).ownBlock := fun e => by have := (hTq.lt _ e.symm).1; omega
                        exact ⟨(World.cell?_of_block (a := ⟨w.heap.size, 0, none⟩) (hg.block _ (cell_lt0 y0) hne)).trans y0, (World.cell?_of_block (a := ⟨w.heap.size, 1, none⟩) (hg.block _ (cell_lt0 y1) hne)).trans y1⟩
                      refine hK.out _ _ hS4 (fun hH => ?_)
                      clear hK
                      refine wpAnyH_take (i := 10) (v := .int .i64 ((m + 1 : Nat) : Int)) rfl (by kernel_rfl) (by kernel_rfl) (by kernel_rfl) (fun _ _ _ h => h) (.inl ⟨by rfl, fun w' hS' => by first | (go_simp; done) | (go_simp; rfl) | (go_simp; intro h; omega) | (go_simp; omega)⟩) hH ?_
                      simp only [List.getElem_toArray, List.getElem_cons_succ, List.getElem_cons_zero, Act.put, List.setIfInBounds_toArray, List.set_cons_zero, List.set_cons_succ]
                      refine wpAnyH_done (by kernel_rfl) ?_ _
                      go_wp2_with fail
                      go_meet
                      exact ⟨_, _, rfl, by go_num, rfl, R⟩

                  case rest =>
                    obtain ⟨na, nc, rfl, rfl, rfl, hLd⟩ := hcut
                    obtain ⟨wl, rfl⟩ : ∃ wl, wl = wc := ⟨_, rfl⟩
                    have hLd0 := hLd
                    obtain ⟨c1, c2, hownL, hownS, ⟨u9, hu9, hg9⟩, _, _⟩ := hLd0
                    have hBne : some B ≠ (Value.slice sa m sc).ownBlock := fun e => by have := (hsvB B e.symm).2; omega
                    have hRl : PlayAt wl B ⟨rA + h0, rB, rC, rD⟩ := (hg9.block B (Nat.lt_of_lt_of_le hBq hu9.size) hBne).trans (hRq.below hu9 hBq)
                    have hbl : Below W3.heap.size W3 wl := (hbq.trans (hu9.mono hbq.size)).grown hg9 (Nat.le_trans hWq hu9.size) (fun k' e => (hsvB k' e).1)
                    have HRd : Hid (∀ w', OnlyB B wl w' → Trans w' (.slice na (m + 1) nc) L) := fun w' hw => by
                      rw [← HL.out]
                      exact hLd.read HEl.out HE.out hbl hWB hBq (laid_ne hownL hRl) (by have := Hm.out; omega) hw
                    have hneL := laid_ne hownL hRl
                    clear hLd hownL hu9 hg9 hRq hbq hownq hvq hbxq hTq
                    go_upto_region 39 with fail
                    obtain ⟨g2, rfl⟩ : ∃ g2, g2 = gk := ⟨_, rfl⟩
                    obtain ⟨wO, rfl⟩ : ∃ wO, wO = wr := ⟨_, rfl⟩
                    go_loopg [23, 125] (m + 1) (fun gk hv ix wr => ∃ j : Nat, j + gk = m + 1 ∧ ix = .int .i64 j ∧ hv = .int .i64 (haveH p (L.take j) h0) ∧ OnlyB B wl wr ∧ PlayAt wr B ⟨rA + h0 + postS p (L.take j), rB + preS p (L.take j), rC + lackS p (L.take j) h0, rD⟩)
                    case atStart => exact ⟨0, by omega, rfl, by rw [List.take_zero]; rfl, OnlyB.refl _ _, by rw [List.take_zero]; simp only [postS, preS, lackS, Int.add_zero]; exact hRl⟩
                    case round =>
                      obtain ⟨j, hjg, rfl, rfl, hOj, hRj⟩ := hrel
                      have hBj := HBd.out j
                      by_cases hjm : j < m + 1
                      · have hjL : j < L.length := by rw [HLl.out]; exact hjm
                        have HtS : Hid (L.take (j + 1) = L.take j ++ [tranAt L j]) := tkT_succ hjL
                        obtain ⟨tk1, tk2⟩ := HTk.out (tranAt L j) (by rw [show tranAt L j = L[j] by simp [tranAt, List.getD, List.getElem?_eq_getElem hjL]]; exact List.getElem_mem hjL)
                        clear hjL
                        obtain ⟨tb, tf, k1, k2, rfl, hblt, t0, t1, t2, i1, i2⟩ := (HRd.out wr hOj).at hjm
                        have htb : tb ≠ B := by simpa [Value.ownBlock] using hneL
                        have hEo := elem_off HRd.out htb hOj hjm t1 t2
                        clear i1 i2
                        obtain ⟨T, HTt⟩ : ∃ T, Hid (tranAt L j = T) := ⟨_, rfl⟩
                        rw [HTt.out] at t0 hEo HtS tk1 tk2
                        clear HTt
                        obtain ⟨b1, o1, l1, p1, rfl, hp1, hb1B, cx⟩ := ints_off (p := p) (fun w' hw => (hEo w' hw).1) (by rw [tk1.len]; exact hpn)
                        obtain ⟨b2, o2, l2, p2, rfl, hp2, hb2B, cy⟩ := ints_off (p := p) (fun w' hw => (hEo w' hw).2) (by rw [tk2.len]; exact hpn)
                        clear hEo
                        have hx := tk1.lo p
                        have hx9 := tk1.hi p
                        have hy := tk2.lo p
                        have hy9 := tk2.hi p
                        obtain ⟨x, Hx⟩ : ∃ x, Hid (nth T.pre p = x) := ⟨_, rfl⟩
                        obtain ⟨y, Hy⟩ : ∃ x, Hid (nth T.post p = x) := ⟨_, rfl⟩
                        obtain ⟨M, HM⟩ : ∃ x, Hid (T.label = x) := ⟨_, rfl⟩
                        rw [Hx.out] at cx hx hx9
                        rw [Hy.out] at cy hy hy9
                        rw [HM.out] at t0
                        clear tk1 tk2 HM
                        obtain ⟨h, Hh⟩ : ∃ x, Hid (haveH p (L.take j) h0 = x) := ⟨_, rfl⟩
                        obtain ⟨sA, HsA⟩ : ∃ x, Hid (postS p (L.take j) = x) := ⟨_, rfl⟩
                        obtain ⟨sB, HsB⟩ : ∃ x, Hid (preS p (L.take j) = x) := ⟨_, rfl⟩
                        obtain ⟨sC, HsC⟩ : ∃ x, Hid (lackS p (L.take j) h0 = x) := ⟨_, rfl⟩
                        rw [Hh.out, HsA.out, HsB.out, HsC.out] at hBj
                        rw [HsA.out, HsB.out, HsC.out] at hRj
                        rw [Hh.out]
                        obtain ⟨n1, n2, n3, n4, n5, n6, n7, n8⟩ := hBj
                        have hBw := hRj.lt
                        have bb := below_new wr (.cells #[.int .i64 M, .slice (some ⟨b1, o1, none⟩) l1 p1, .slice (some ⟨b2, o2, none⟩) l2 p2] 35)
                        have hB4 := box3_new wr (.int .i64 M) (.slice (some ⟨b1, o1, none⟩) l1 p1) (.slice (some ⟨b2, o2, none⟩) l2 p2) 35
                        obtain ⟨wj, Hwj⟩ : ∃ v, Hid (wr.alloc (.cells #[.int .i64 M, .slice (some ⟨b1, o1, none⟩) l1 p1, .slice (some ⟨b2, o2, none⟩) l2 p2] 35) = v) := ⟨_, rfl⟩
                        obtain ⟨Bj, HBj⟩ : ∃ B, Hid (wr.heap.size = B) := ⟨_, rfl⟩
                        rw [Hwj.out] at bb hB4
                        have hBjB : Bj ≠ B := by have := HBj.out; omega
                        rw [HBj.out] at hB4
                        have hOk : OnlyB B wl wj := hOj.trans (OnlyB.ofBelow bb (Nat.le_of_lt hBw))
                        have hRk := hRj.below bb hBw
                        have cx2 := (bb.cell (p := ⟨b1, o1 + p, none⟩) (cell_lt0 cx)).trans cx
                        have cy2 := (bb.cell (p := ⟨b2, o2 + p, none⟩) (cell_lt0 cy)).trans cy
                        have HX : Hid (∀ w', OnlyB B wj w' → w'.cell? ⟨Bj, 1, none⟩ = some (.slice (some ⟨b1, o1, none⟩) l1 p1) ∧ w'.cell? ⟨Bj, 2, none⟩ = some (.slice (some ⟨b2, o2, none⟩) l2 p2) ∧ w'.cell? ⟨b1, o1 + p, none⟩ = some (.int .i64 x) ∧ w'.cell? ⟨b2, o2 + p, none⟩ = some (.int .i64 y)) := fun w' hw => ⟨hw.cell hBjB hB4.2.2.1, hw.cell hBjB hB4.2.2.2, hw.cell hb1B cx2, hw.cell hb2B cy2⟩
                        go_upto_region 41 with fail
                        rw [Hwj.out, HBj.out]
                        clear Hwj HBj t0 t1 t2 cx cy cx2 cy2 hB4 bb hRj hBw
                        obtain ⟨e1, e2, e3, e4⟩ := HX.out wj (OnlyB.refl _ _)
                        have hBk := hRk.lt
                        go_upto_region 42 with fail
                        obtain ⟨lk, Hlk⟩ : ∃ x', Hid (max (x - h) 0 = x') := ⟨_, rfl⟩
                        have hlk : 0 ≤ lk ∧ lk ≤ 9 := by have := Hlk.out; omega
                        rw [Hlk.out]
                        go_region
                        have bd : Below wj.heap.size wj wj.drew := (Below.refl _ _).drew
                        have hO2 : OnlyB B wj wj.drew := OnlyB.ofBelow bd (Nat.le_of_lt hBk)
                        have hR2 := hRk.below bd hBk
                        obtain ⟨w42, Hw42⟩ : ∃ v, Hid (wj.drew = v) := ⟨_, rfl⟩
                        rw [Hw42.out] at hO2 hR2 ⊢
                        clear Hw42 bd hRk hBk e1 e2 e3 e4
                        obtain ⟨d1, d2, d3, d4, f1, f2, f3, f4⟩ := hR2.cells
                        simp only at d1 d2 d3 d4
                        have hR3 := hR2.fld (k := 2) (u := .int .i64 (rC + sC + lk)) (p' := ⟨rA + h0 + sA, rB + sB, rC + sC + lk, rD⟩) rfl
                        have hO3 := hO2.trans (OnlyB.set B 2 w42 (.int .i64 (rC + sC + lk)))
                        go_upto_region 44 with fail
                        obtain ⟨w43, Hw43⟩ : ∃ v, Hid (w42.setCell ⟨B, 2, none⟩ (.int .i64 (rC + sC + lk)) = v) := ⟨_, rfl⟩
                        rw [Hw43.out] at hO3 hR3 ⊢
                        clear Hw43 hO2 hR2 d1 d2 d3 d4 f1 f2 f3 f4
                        obtain ⟨e1, e2, e3, e4⟩ := HX.out _ hO3
                        obtain ⟨d1, d2, d3, d4, f1, f2, f3, f4⟩ := hR3.cells
                        simp only at d1 d2 d3 d4
                        have hR4 := hR3.fld (k := 1) (u := .int .i64 (rB + sB + x)) (p' := ⟨rA + h0 + sA, rB + sB + x, rC + sC + lk, rD⟩) rfl
                        have hO4 := hO3.trans (OnlyB.set B 1 w43 (.int .i64 (rB + sB + x)))
                        have bd : Below (w43.setCell ⟨B, 1, none⟩ (.int .i64 (rB + sB + x))).heap.size (w43.setCell ⟨B, 1, none⟩ (.int .i64 (rB + sB + x))) (w43.setCell ⟨B, 1, none⟩ (.int .i64 (rB + sB + x))).drew := (Below.refl _ _).drew
                        have hB5 := hR4.lt
                        have hO5 := hO4.trans (OnlyB.ofBelow bd (Nat.le_of_lt hB5))
                        have hR5 := hR4.below bd hB5
                        clear hR4 hO4 bd hB5
                        go_region
                        obtain ⟨w44, Hw44⟩ : ∃ v, Hid ((w43.setCell ⟨B, 1, none⟩ (.int .i64 (rB + sB + x))).drew = v) := ⟨_, rfl⟩
                        rw [Hw44.out] at hO5 hR5 ⊢
                        clear Hw44 hO3 hR3 d1 d2 d3 d4 f1 f2 f3 f4 e1 e2 e3 e4
                        obtain ⟨e1, e2, e3, e4⟩ := HX.out _ hO5
                        obtain ⟨d1, d2, d3, d4, f1, f2, f3, f4⟩ := hR5.cells
                        simp only at d1 d2 d3 d4
                        have hR6 := hR5.fld (k := 0) (u := .int .i64 (rA + h0 + sA + y)) (p' := ⟨rA + h0 + sA + y, rB + sB + x, rC + sC + lk, rD⟩) rfl
                        have hO6 := hO5.trans (OnlyB.set B 0 w44 (.int .i64 (rA + h0 + sA + y)))
                        have bd : Below (w44.setCell ⟨B, 0, none⟩ (.int .i64 (rA + h0 + sA + y))).heap.size (w44.setCell ⟨B, 0, none⟩ (.int .i64 (rA + h0 + sA + y))) (w44.setCell ⟨B, 0, none⟩ (.int .i64 (rA + h0 + sA + y))).drew := (Below.refl _ _).drew
                        have hB7 := hR6.lt
                        have hO7 := hOk.trans (hO6.trans (OnlyB.ofBelow bd (Nat.le_of_lt hB7)))
                        have hR7 := hR6.below bd hB7
                        clear hR6 hO6 bd hB7
                        go_upto_region 45 with fail
                        go_region
                        obtain ⟨w45, Hw45⟩ : ∃ v, Hid ((w44.setCell ⟨B, 0, none⟩ (.int .i64 (rA + h0 + sA + y))).drew = v) := ⟨_, rfl⟩
                        rw [Hw45.out] at hO7 hR7 ⊢
                        clear Hw45 hO5 hR5 d1 d2 d3 d4 f1 f2 f3 f4 e1 e2 e3 e4 HX hOk hOj
                        have R1 : Hid (h + lk - x + y = haveH p (L.take (j + 1)) h0) := by
                          show _ = _
                          rw [HtS.out, haveH_snoc, Hh.out, ← Hlk.out, ← Hx.out, ← Hy.out]; rfl
                        have R2 : PlayAt w45 B ⟨rA + h0 + postS p (L.take (j + 1)), rB + preS p (L.take (j + 1)), rC + lackS p (L.take (j + 1)) h0, rD⟩ := by
                          rw [HtS.out, postS_snoc, preS_snoc, lackS_snoc, Hh.out, HsA.out, HsB.out, HsC.out, Hx.out, Hy.out, Hlk.out, ← Int.add_assoc, ← Int.add_assoc, ← Int.add_assoc]
                          exact hR7
                        clear hR7
                        go_wp2
                        go_roundg (gk - 1)
                        case measure => omega
                        case rel => exact ⟨j + 1, by omega, by go_num, by rw [R1.out], hO7, R2⟩
                      · obtain rfl : j = m + 1 := by omega
                        have htk : L.take (m + 1) = L := List.take_of_length_le (by rw [HLl.out]; exact Nat.le_refl _)
                        rw [htk] at hRj hBj ⊢
                        clear htk
                        obtain ⟨d1, d2, d3, d4, f1, f2, f3, f4⟩ := hRj.cells
                        simp only at d1 d2 d3 d4
                        have hR9 := hRj.fld (k := 3) (u := .int .i64 (rD + haveH p L h0)) (p' := ⟨rA + h0 + postS p L, rB + preS p L, rC + lackS p L h0, rD + haveH p L h0⟩) rfl
                        have R1 : PlayAt (wr.setCell ⟨B, 3, none⟩ (.int .i64 (rD + haveH p L h0))) B (sumsH n i L (p + 1)) := by rw [HNx.out, ← Int.add_assoc]; exact hR9
                        have R2 : Below W3.heap.size W3 (wr.setCell ⟨B, 3, none⟩ (.int .i64 (rD + haveH p L h0))) := (hbl.trans (hOj.below.mono hWB)).setCell (p := ⟨B, 3, none⟩) hWB _
                        have hO9 := hOj.trans (OnlyB.set B 3 wr (.int .i64 (rD + haveH p L h0)))
                        have R3 := ((ownsRow_on hownS).to hO9.size (fun k' hk' hD => hO9.block k' hk' (fun e => hBne (by rw [hD.1, e])))).now
                        obtain ⟨hf, Hhf⟩ : ∃ x, Hid (haveH p L h0 = x) := ⟨_, rfl⟩
                        rw [Hhf.out] at R1 R2 R3 hBj ⊢
                        clear hRj hR9 hO9 HRd hRl hbl hownS Hhf hOj
                        go_wp2
                        go_roundg (g2 - 1)
                        case measure => omega
                        case rel => exact ⟨p + 1, by omega, by go_num, R1, R2, R3⟩
                · obtain rfl : p = P := by omega
                  have hPl9 := hPl.below hb hltP
                  obtain ⟨r1, r2, r3, r4, _, _, _, _⟩ := hRp.cells
                  obtain ⟨r, Hr⟩ : ∃ r, Hid (sumsH n i L p = r) := ⟨_, rfl⟩
                  rw [Hr.out] at r1 r2 r3 r4 HV
                  obtain ⟨W, HW, z1, bz⟩ := hPl9.put r
                  obtain ⟨q1, q2, q3, q4, f1, f2, f3, f4⟩ := hPl9.cells
                  have R : Below w.heap.size w W := (below_then c0 hb).trans (bz.mono (by omega))
                  clear hPl hPl9 hv hbx hT hu bz c0 hb hvp hbxp hown hRp y0 y1 y2
                  go_wp2_with fail
                  rw [HW.out]
                  exact bodyPost_ret (v := .tuple #[playV r, .int .i64 0]) (results_play rfl rfl rfl z1) rfl ⟨_, _, rfl, HV.out, R⟩
  · have hdd : (d != 0) = true := by simpa using hd0
    have HV : Hid (Replayed n i o tr noPlay d) := Replayed.of_bad hd hd0
    obtain ⟨W, HW, z1, bz⟩ := hPl.put noPlay
    obtain ⟨q1, q2, q3, q4, f1, f2, f3, f4⟩ := hPl.cells
    have R : Below w.heap.size w W := c0.trans (bz.mono (by omega))
    simp only [noPlay] at HW q1 q2 q3 q4
    clear hPl hv hbx hT hu bz c0 hd hd0
    go_wp2_with fail
    rw [HW.out]
    exact bodyPost_ret (v := .tuple #[playV noPlay, .int .i64 d]) (results_play rfl rfl rfl z1) rfl ⟨_, _, rfl, HV.out, R⟩

end Go.Proofs.Ytfaehomopgichaa
