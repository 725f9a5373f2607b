import Derived.Test.YtakgppoeikcepaaDoorGr31
import Derived.Test.YtakgppoeikcepaaDoorGr09
/- Package tongue as it landed: longer. -/
namespace Go.Proofs.YtakgppoeikcepaaDoor
open Go.RowKit Go.Shelf
set_option linter.unusedVariables false
set_option linter.unusedSimpArgs false
set_option maxRecDepth 4000

/-- append of all of another slice, inside a region that draws its order. -/
theorem wpr_app_ints {o : Oper} {a : Act} {K : Act → World → Prop} {Q : Exit → Act → World → Prop} {Y : Nat → Option Bool} (hwt : Region.wanted o Y = true) (s x : Operand)
    (ho : o.op = .call { callee := .builtin .append, args := #[s, x], argTypes := #[25, 25] }) (B : Nat) (w wr : World) (v : Value) (ad : Addr) (m c : Nat) (zs ys : List Int) (hG : Own B w wr v zs)
    (hs : a.eval s = v) (hx : a.eval x = .slice (some ad) m c) (hu : Ints wr (.slice (some ad) m c) ys) (hl : zs.length + ys.length ≤ 17592186044416)
    (h : ∀ v' w', Own B w w' v' (zs ++ ys) → K (a.put o.dst v') w') :
    if Region.wanted o Y = true then Oper.wp Tryd.prog o a wr K Q else K (a.put o.dst undef) wr := by
  obtain ⟨i0, hi, hz0, hz1, hz2⟩ := info_parts info_int
  obtain ⟨ax, len, cap, e, hlen, hmx, hsh, hr⟩ := hu
  injection e with e1 e2 e3
  subst e1 e2 e3
  obtain ⟨hown, hb, hB⟩ := hG
  refine wp_append_at _ hwt s x 25 ho B 3 i0 (.int .i64 0) 1 8 Tryd.underlying25 hi hz0 hz1 hz2 rfl (by decide) v zs.length _ hs hown ad m c (ys.map (Value.int .i64)) hx (by simp [hlen]) ?_ ?_ ?_ ?_ hB ?_
  · intro j u hj
    have hjl : j < ys.length := by
      rcases Nat.lt_or_ge j ys.length with h1 | h1
      · exact h1
      · rw [List.getElem?_eq_none (by simpa using h1)] at hj; cases hj
    obtain ⟨b, off, e, hlt, hc⟩ := hr j hjl
    injection e with e
    subst e
    rw [addr_add, hc]
    simp [List.getElem?_eq_getElem hjl] at hj
    subst hj
    simp [nth, List.getD, List.getElem?_eq_getElem hjl]
  · intro u hu
    obtain ⟨z, _, rfl⟩ := List.mem_map.1 hu
    rfl
  · unfold maxLen; omega
  · omega
  · intro v' w' hown' hgrow _
    exact h v' w' ⟨by simpa [hlen] using hown', hb.grown hgrow hB (fun k hk => (hown.lt k hk).1), Nat.le_trans hB hgrow.size⟩

theorem own_apart {v v' : Value} {b m : Nat} (hat : v'.ownBlock = v.ownBlock ∨ v'.ownBlock = some m) (h : some b ≠ v.ownBlock) (hb : b < m) : some b ≠ v'.ownBlock := by
  rcases hat with e | e
  · rw [e]; exact h
  · rw [e]; simp; omega

/-- A beginning in a box of its own. -/
def BegBox (w : World) (b : Nat) (u : Value) (q : SetL) : Prop := w.heap[b]? = some (.cells #[u, .int .u64 (q.at_ 0 : Nat), .int .u64 (q.at_ 1 : Nat), .int .u64 (q.at_ 2 : Nat), .int .u64 (q.at_ 3 : Nat), .int .u64 (q.at_ 4 : Nat)] 101 (0, 0))
theorem BegBox.cells {w : World} {b : Nat} {u : Value} {q : SetL} (h : BegBox w b u q) : w.cell? ⟨b, 0, none⟩ = some u ∧ w.cell? ⟨b, 1, none⟩ = some (.int .u64 (q.at_ 0 : Nat)) ∧ w.cell? ⟨b, 2, none⟩ = some (.int .u64 (q.at_ 1 : Nat)) ∧ w.cell? ⟨b, 3, none⟩ = some (.int .u64 (q.at_ 2 : Nat)) ∧ w.cell? ⟨b, 4, none⟩ = some (.int .u64 (q.at_ 3 : Nat)) ∧ w.cell? ⟨b, 5, none⟩ = some (.int .u64 (q.at_ 4 : Nat)) := by
  unfold BegBox at h
  refine ⟨?_, ?_, ?_, ?_, ?_, ?_⟩ <;> simp [World.cell?, h]
theorem BegBox.below {w w' : World} {b : Nat} {u : Value} {q : SetL} (h : BegBox w b u q) (hb : Below w.heap.size w w') : BegBox w' b u q := (hb.block b (Array.getElem?_eq_some_iff.1 h).1).trans h
theorem BegBox.lt {w : World} {b : Nat} {u : Value} {q : SetL} (h : BegBox w b u q) : b < w.heap.size := (Array.getElem?_eq_some_iff.1 h).1

set_option maxRecDepth 100000 in
set_option maxHeartbeats 8000000 in
theorem longer_any (T bn : Nat) (lv bv : Value) (t : TalkL) (n : NetL) (S E : List Int) (s : SpaceL) (most : Int) (k : Nat) (L : List (List Int × SetL)) (w : World) (hT : TalkAt w T bn lv t) (hTab : Tab w) (hW : Whole n S s) (hN : s.marks.length ≤ 300) (hok : netOk n = true) (hTk : TalkOk n s E t) (hm : 0 ≤ most ∧ most ≤ 8)
    (hLv : Level n s E t most k L) (hk8 : (k : Int) ≤ most) (hLl : L.length ≤ 400) (hB : Begs w bv L) :
    Calls Tryd.prog 37 #[.pointer (some ⟨T, 0, none⟩), bv, .int .i64 (most - k - 1)] w fun e w' => ∃ r bs, e = .returned r ∧ On (fun j => w.heap.size ≤ j) w' (fun w'' => BegsV w'' r bs) ∧ Level n s E t most (k + 1) (bs.map (·.2)) ∧ bs.length ≤ 10400 ∧ Below w.heap.size w w' := by
  obtain ⟨ab, cb, rfl⟩ := hB.slice
  obtain ⟨lb, Hlb⟩ : ∃ lb, Hid (L.length = lb) := ⟨_, rfl⟩
  have hlb : lb ≤ 400 := by rw [← Hlb.out]; exact hLl
  rw [Hlb.out] at hB ⊢
  have hsz := hTk.size
  have hn0 : 0 < t.n := by rw [hsz]; exact hW.here.1
  go_enter Tryd.func37, Tryd.ntmps37
  go_wp2_with fail
  refine (near_any T bn lv t (most - k - 1) w hT hn0).mono ?_
  rintro e w1 ⟨nr, rfl, hnr, b1⟩
  have a2 := setAt_new w1 nr
  have b2 := below_new w1 (.cells (setC nr) 68)
  obtain ⟨w2, Hw2⟩ : ∃ w2, Hid (w1.alloc (.cells (setC nr) 68) = w2) := ⟨_, rfl⟩
  rw [Hw2.out] at a2 b2
  have e2 : w1.alloc (.cells #[.int .u64 (nr.at_ 0 : Nat), .int .u64 (nr.at_ 1 : Nat), .int .u64 (nr.at_ 2 : Nat), .int .u64 (nr.at_ 3 : Nat), .int .u64 (nr.at_ 4 : Nat)] 68) = w2 := Hw2.out
  have He2 : Hid _ := e2
  clear Hw2 e2
  have c := below_then b1 b2
  obtain ⟨nb, Hnb⟩ : ∃ nb, Hid (w1.heap.size = nb) := ⟨_, rfl⟩
  have hnb0 : w.heap.size ≤ nb := by rw [← Hnb.out]; exact b1.size
  rw [Hnb.out] at a2
  clear b1 b2
  go_upto_region 2 with fail
  rw [He2.out, Hnb.out]
  clear He2 Hnb
  go_wp2_with fail
  go_loopg [8, 18] lb (fun g v x wr => ∃ (i : Nat) (bs : List (Value × List Int × SetL)), i + g = lb ∧ x = .int .i64 (i : Int) ∧ BegOut w.heap.size w wr v bs ∧ NextL n s E t most k L i 1 (bs.map (·.2)) ∧ SetAt wr nb nr ∧ some nb ≠ v.ownBlock)
  case atStart => exact ⟨0, [], by omega, rfl, BegOut.start _ c c.size, NextL.start, a2, by simp [Value.ownBlock]⟩
  case round =>
    clear a2 c
    obtain ⟨i, bs, hig, rfl, hO, hX, hNr, hnb1⟩ := hrel
    obtain ⟨g1, rfl⟩ : ∃ g1, g1 = gk := ⟨_, rfl⟩
    by_cases hi : i < lb
    · have hi' : decide ((i : Int) < (lb : Int)) = true := by rw [decide_eq_true_eq]; omega
      have hiL : i < L.length := by rw [Hlb.out]; exact hi
      obtain ⟨b0, o0, u0, rfl, hb0, d0, hu0, hq0⟩ := (hB.below hO.below).at hiL
      obtain ⟨_, d1, d2', d3', d4', d5'⟩ := hq0
      have d2 : wr.cell? ⟨b0, o0 + i * 6 + 2, none⟩ = _ := d2'
      have d3 : wr.cell? ⟨b0, o0 + i * 6 + 3, none⟩ = _ := d3'
      have d4 : wr.cell? ⟨b0, o0 + i * 6 + 4, none⟩ = _ := d4'
      have d5 : wr.cell? ⟨b0, o0 + i * 6 + 5, none⟩ = _ := d5'
      clear d2' d3' d4' d5'
      obtain ⟨X, HX⟩ : ∃ X, Hid (L[i] = X) := ⟨L[i], (rfl : L[i] = L[i])⟩
      rw [HX.out] at hu0 d1 d2 d3 d4 d5
      obtain ⟨xa, xl, xc, rfl, _⟩ := id hu0
      have hXat : AtN n s t most X.1 X.2 := by rw [← HX.out]; exact hLv.at_ _ (List.getElem_mem hiL)
      have hXk : X.1.length = k := by rw [← HX.out]; exact ((hLv.mem _).1 (List.mem_map_of_mem (List.getElem_mem hiL))).1
      have bx := below_new wr (.cells #[.slice xa xl xc, .int .u64 (X.2.at_ 0 : Nat), .int .u64 (X.2.at_ 1 : Nat), .int .u64 (X.2.at_ 2 : Nat), .int .u64 (X.2.at_ 3 : Nat), .int .u64 (X.2.at_ 4 : Nat)] 101)
      have hx1 : BegBox (wr.alloc (.cells #[.slice xa xl xc, .int .u64 (X.2.at_ 0 : Nat), .int .u64 (X.2.at_ 1 : Nat), .int .u64 (X.2.at_ 2 : Nat), .int .u64 (X.2.at_ 3 : Nat), .int .u64 (X.2.at_ 4 : Nat)] 101)) wr.heap.size (.slice xa xl xc) X.2 := heap_alloc_at _ _
      obtain ⟨wr1, Hwr1⟩ : ∃ wr1, Hid (wr.alloc (.cells #[.slice xa xl xc, .int .u64 (X.2.at_ 0 : Nat), .int .u64 (X.2.at_ 1 : Nat), .int .u64 (X.2.at_ 2 : Nat), .int .u64 (X.2.at_ 3 : Nat), .int .u64 (X.2.at_ 4 : Nat)] 101) = wr1) := ⟨_, rfl⟩
      rw [Hwr1.out] at bx hx1
      have hO1 := hO.to bx
      have hN1 := hNr.below bx
      obtain ⟨xb, Hxb⟩ : ∃ xb, Hid (wr.heap.size = xb) := ⟨_, rfl⟩
      have hxo : some xb ≠ u8.ownBlock := fun e => by have := ownsRow_lt hO.own e.symm; have := Hxb.out; omega
      have hxB : w.heap.size ≤ xb := by rw [← Hxb.out]; exact hO.size
      rw [Hxb.out] at hx1
      go_upto_region 6 with fail
      rw [Hwr1.out, Hxb.out]
      have Hu0 : Hid (∀ w8 : World, Below w.heap.size w w8 → Ints w8 (.slice xa xl xc) X.1) := fun w8 hb8 => by
        obtain ⟨b0', o0', u0', e0, hb0', d0', hu0', _⟩ := hB.at hiL
        injection e0 with e0
        injection e0 with e0 e1
        subst e0 e1
        have e2 := (hO.below.cell (p := ⟨b0, o0 + i * 6, none⟩) hb0').trans d0'
        rw [d0] at e2
        injection e2 with e2
        rw [HX.out] at hu0'
        rw [e2]
        exact hu0'.below hb8
      clear Hwr1 d0 d1 d2 d3 d4 d5 hO hNr hu0
      go_wp2_with fail
      go_loopg [8, 11] 27 (fun g v x wq => ∃ (c : Nat) (bs : List (Value × List Int × SetL)), c + g = 28 ∧ 1 ≤ c ∧ c ≤ 27 ∧ x = .int .i64 (c : Int) ∧ BegOut w.heap.size w wq v bs ∧ NextL n s E t most k L i c (bs.map (·.2)) ∧ SetAt wq nb nr ∧ some nb ≠ v.ownBlock ∧ BegBox wq xb (.slice xa xl xc) X.2 ∧ some xb ≠ v.ownBlock)
      case atStart => exact ⟨1, bs, by omega, by omega, by omega, rfl, hO1, hX, hN1, hnb1, hx1, hxo⟩
      case round =>
        clear hO1 hX hN1 hnb1 hx1 hxo bs
        obtain ⟨c, bs, hcg, hc1, hc27, rfl, hO, hX, hNr, hnb1, hx1, hxo⟩ := hrel
        obtain ⟨wq, rfl⟩ : ∃ wq, wq = wr := ⟨_, rfl⟩
        by_cases hc26 : c ≤ 26
        · have hc' : decide ((c : Int) ≤ 26) = true := by rw [decide_eq_true_eq]; omega
          have hXn : ∀ m, m < 320 → X.2.has m = true → m < t.n := fun m h1 h2 => by rw [hsz]; exact hXat.lt hW m h1 h2
          have Hnx : Hid (∀ u1, BehindT t X.2 (c : Int) u1 → AtN n s t most (X.1 ++ [(c : Int)]) (andS u1 nr)) := fun u1 h1 => hXat.next hW hN hok hTk h1 (by rw [hXk]; exact hnr)
          obtain ⟨xq, Hxq⟩ : ∃ xq, Hid (X.2 = xq) := ⟨_, rfl⟩
          rw [Hxq.out] at hx1 hXn Hnx
          have Hall : Hid (∀ w' : World, Below wq.heap.size wq w' → (fun w' => (w'.cell? ⟨xb, 1, none⟩ = some (.int .u64 (xq.at_ 0 : Nat)) ∧ w'.cell? ⟨xb, 2, none⟩ = some (.int .u64 (xq.at_ 1 : Nat)) ∧ w'.cell? ⟨xb, 3, none⟩ = some (.int .u64 (xq.at_ 2 : Nat)) ∧ w'.cell? ⟨xb, 4, none⟩ = some (.int .u64 (xq.at_ 3 : Nat)) ∧ w'.cell? ⟨xb, 5, none⟩ = some (.int .u64 (xq.at_ 4 : Nat))) ∧ w'.cell? ⟨nb, 0, none⟩ = some (.int .u64 (nr.at_ 0 : Nat)) ∧ w'.cell? ⟨nb, 1, none⟩ = some (.int .u64 (nr.at_ 1 : Nat)) ∧ w'.cell? ⟨nb, 2, none⟩ = some (.int .u64 (nr.at_ 2 : Nat)) ∧ w'.cell? ⟨nb, 3, none⟩ = some (.int .u64 (nr.at_ 3 : Nat)) ∧ w'.cell? ⟨nb, 4, none⟩ = some (.int .u64 (nr.at_ 4 : Nat))) w') := fun w' hb => by
            obtain ⟨_, y1, y2, y3, y4, y5⟩ := (hx1.below hb).cells
            obtain ⟨_, r0, r1, r2, r3, r4⟩ := (hNr.below hb).c
            simp only [Nat.zero_add] at r1 r2 r3 r4
            exact ⟨⟨y1, y2, y3, y4, y5⟩, r0, r1, r2, r3, r4⟩
          have hdr : Below wq.heap.size wq wq.drew := (Below.refl _ _).drew
          go_upto_region 9 with fail
          go_cut [12] (fun p wc => ∃ sb q, p = .pointer (some ⟨sb, 0, none⟩) ∧ SetAt wc sb q ∧ AtN n s t most (X.1 ++ [(c : Int)]) q ∧ wq.heap.size ≤ sb ∧ Below wq.heap.size wq wc)
          case first =>
            refine wp_region_held_drew (S := (fun w' => (w'.cell? ⟨xb, 1, none⟩ = some (.int .u64 (xq.at_ 0 : Nat)) ∧ w'.cell? ⟨xb, 2, none⟩ = some (.int .u64 (xq.at_ 1 : Nat)) ∧ w'.cell? ⟨xb, 3, none⟩ = some (.int .u64 (xq.at_ 2 : Nat)) ∧ w'.cell? ⟨xb, 4, none⟩ = some (.int .u64 (xq.at_ 3 : Nat)) ∧ w'.cell? ⟨xb, 5, none⟩ = some (.int .u64 (xq.at_ 4 : Nat))) ∧ w'.cell? ⟨nb, 0, none⟩ = some (.int .u64 (nr.at_ 0 : Nat)) ∧ w'.cell? ⟨nb, 1, none⟩ = some (.int .u64 (nr.at_ 1 : Nat)) ∧ w'.cell? ⟨nb, 2, none⟩ = some (.int .u64 (nr.at_ 2 : Nat)) ∧ w'.cell? ⟨nb, 3, none⟩ = some (.int .u64 (nr.at_ 3 : Nat)) ∧ w'.cell? ⟨nb, 4, none⟩ = some (.int .u64 (nr.at_ 4 : Nat)))) (by kernel_rfl) (Hall.out _ hdr) (fun hH => ?_)
            refine wpAnyH_take (i := 0) rfl (by kernel_rfl) (by kernel_rfl) (by kernel_rfl) (fun _ _ _ h => h) (.inl ⟨by rfl, fun _ _ => rfl⟩) hH ?_
            simp only [List.getElem_toArray, List.getElem_cons_succ, List.getElem_cons_zero, Act.put, List.setIfInBounds_toArray, List.set_cons_zero, List.set_cons_succ]
            refine wpAnyH_take (i := 1) (v := .pointer (some ⟨xb, 1, none⟩)) rfl (by kernel_rfl) (by kernel_rfl) (by kernel_rfl) (fun _ _ _ h => h) (.inl ⟨by rfl, fun w' hS' => by first | (go_simp; done) | (go_simp; rfl) | (go_simp; intro h; omega)⟩) hH ?_
            simp only [List.getElem_toArray, List.getElem_cons_succ, List.getElem_cons_zero, Act.put, List.setIfInBounds_toArray, List.set_cons_zero, List.set_cons_succ]
            refine wpAnyH_take (i := 2) (v := setV xq) rfl (by kernel_rfl) (by kernel_rfl) (by kernel_rfl) (fun _ _ _ h => h) (.inl ⟨by rfl, fun w' hS' => by obtain ⟨⟨x0, x1, x2, x3, x4⟩, n0, n1, n2, n3, n4⟩ := hS'; go_simp⟩) hH ?_
            simp only [List.getElem_toArray, List.getElem_cons_succ, List.getElem_cons_zero, Act.put, List.setIfInBounds_toArray, List.set_cons_zero, List.set_cons_succ]
            refine wpAnyH_take (i := 3) rfl (by kernel_rfl) (by kernel_rfl) (by kernel_rfl) (fun _ _ _ h => h) (.inl ⟨by rfl, fun _ _ => rfl⟩) hH ?_
            simp only [List.getElem_toArray, List.getElem_cons_succ, List.getElem_cons_zero, Act.put, List.setIfInBounds_toArray, List.set_cons_zero, List.set_cons_succ]
            refine wpAnyH_take (i := 5) (v := setV nr) rfl (by kernel_rfl) (by kernel_rfl) (by kernel_rfl) (fun _ _ _ h => h) (.inl ⟨by rfl, fun w' hS' => by obtain ⟨⟨x0, x1, x2, x3, x4⟩, n0, n1, n2, n3, n4⟩ := hS'; go_simp⟩) hH ?_
            simp only [List.getElem_toArray, List.getElem_cons_succ, List.getElem_cons_zero, Act.put, List.setIfInBounds_toArray, List.set_cons_zero, List.set_cons_succ]
            refine wpAnyH_ready (rs := [4, 7]) (by kernel_rfl) (by simp) ?_
            refine AllReadyH.cons rfl (fun K hK => ?_) (AllReadyH.cons rfl (fun K hK => ?_) AllReadyH.nil)
            · simp only [List.getElem_toArray, List.getElem_cons_succ, List.getElem_cons_zero]
              rw [if_pos (by rfl)]
              go_wp2_with fail
              refine (tbehind_any T bn lv t xq (c : Int) _ ((hT.below hO.below).below (hdr)) ((hTab.below hO.below).below (hdr)) hXn).mono ?_
              rintro e w4 ⟨u1, rfl, hBe, bw4⟩
              have qw4 := below_then hdr bw4
              refine hK.out _ _ (Hall.out _ qw4) (fun hH => ?_)
              refine wpAnyH_ready (rs := [6, 7]) (by kernel_rfl) (by simp) ?_
              refine AllReadyH.cons rfl (fun K hK => ?_) (AllReadyH.cons rfl (fun K hK => ?_) AllReadyH.nil)
              · simp only [List.getElem_toArray, List.getElem_cons_succ, List.getElem_cons_zero]
                rw [if_pos (by rfl)]
                go_wp2_with fail
                refine (and_any u1 nr _).mono ?_
                rintro e w5 ⟨rfl, bw5⟩
                have qw5 := below_then qw4 bw5
                refine hK.out _ _ (Hall.out _ qw5) (fun hH => ?_)
                refine wpAnyH_ready (rs := [7]) (by kernel_rfl) (by simp) ?_
                refine AllReadyH.cons rfl (fun K hK => ?_) AllReadyH.nil
                simp only [List.getElem_toArray, List.getElem_cons_succ, List.getElem_cons_zero]
                rw [if_pos (by rfl)]
                go_wp2_with fail
                have bw6 := below_new w5 (.cells #[.int .u64 0, .int .u64 0, .int .u64 0, .int .u64 0, .int .u64 0] 68)
                have zw6 : SetAt (w5.alloc (.cells #[.int .u64 0, .int .u64 0, .int .u64 0, .int .u64 0, .int .u64 0] 68)) w5.heap.size noneS := setAt_new w5 noneS
                obtain ⟨w6, Hw6⟩ : ∃ w6, Hid (w5.alloc (.cells #[.int .u64 0, .int .u64 0, .int .u64 0, .int .u64 0, .int .u64 0] 68) = w6) := ⟨_, rfl⟩
                rw [Hw6.out] at bw6 zw6 ⊢
                have qw6 := below_then qw5 bw6
                refine hK.out _ _ (Hall.out _ qw6) (fun hH => ?_)
                have zz : SetAt w6 w5.heap.size noneS := zw6
                obtain ⟨_, p0, p1, p2, p3, p4⟩ := zz.c
                simp only [Nat.zero_add] at p1 p2 p3 p4
                have f0 := zz.frozen 0
                have f1 := zz.frozen 1
                have f2 := zz.frozen 2
                have f3 := zz.frozen 3
                have f4 := zz.frozen 4
                obtain ⟨W5, HW5, hS5, hB5, ho5, hz5⟩ := zz.store (andS u1 nr)
                refine wpAnyH_ready (rs := [8]) (by kernel_rfl) (by simp) ?_
                refine AllReadyH.cons rfl (fun K hK => ?_) AllReadyH.nil
                simp only [List.getElem_toArray, List.getElem_cons_succ, List.getElem_cons_zero]
                rw [if_pos (by rfl)]
                go_wp2_with fail
                rw [HW5.out]
                have q5 : Below wq.heap.size wq W5 := qw6.trans (hB5.mono (by have h1 := qw4.size; have h2 := qw5.size; have h3 := qw6.size; have h4 : wq.drew.heap.size = wq.heap.size := rfl; omega))
                refine hK.out _ _ (Hall.out _ q5) (fun hH => ?_)
                refine wpAnyH_done (by kernel_rfl) ?_ _
                go_wp2_with fail
                go_meet
                exact ⟨_, andS u1 nr, rfl, hS5, Hnx.out u1 hBe, by have h1 := qw4.size; have h2 := qw5.size; have h3 := qw6.size; have h4 : wq.drew.heap.size = wq.heap.size := rfl; omega, q5⟩
              · simp only [List.getElem_toArray, List.getElem_cons_succ, List.getElem_cons_zero]
                rw [if_pos (by rfl)]
                go_wp2_with fail
                have bw5 := below_new w4 (.cells #[.int .u64 0, .int .u64 0, .int .u64 0, .int .u64 0, .int .u64 0] 68)
                have zw5 : SetAt (w4.alloc (.cells #[.int .u64 0, .int .u64 0, .int .u64 0, .int .u64 0, .int .u64 0] 68)) w4.heap.size noneS := setAt_new w4 noneS
                obtain ⟨w5, Hw5⟩ : ∃ w5, Hid (w4.alloc (.cells #[.int .u64 0, .int .u64 0, .int .u64 0, .int .u64 0, .int .u64 0] 68) = w5) := ⟨_, rfl⟩
                rw [Hw5.out] at bw5 zw5 ⊢
                have qw5 := below_then qw4 bw5
                refine hK.out _ _ (Hall.out _ qw5) (fun hH => ?_)
                refine wpAnyH_ready (rs := [6]) (by kernel_rfl) (by simp) ?_
                refine AllReadyH.cons rfl (fun K hK => ?_) AllReadyH.nil
                simp only [List.getElem_toArray, List.getElem_cons_succ, List.getElem_cons_zero]
                rw [if_pos (by rfl)]
                go_wp2_with fail
                refine (and_any u1 nr _).mono ?_
                rintro e w6 ⟨rfl, bw6⟩
                have qw6 := below_then qw5 bw6
                refine hK.out _ _ (Hall.out _ qw6) (fun hH => ?_)
                have zz : SetAt w6 w4.heap.size noneS := zw5.below bw6
                obtain ⟨_, p0, p1, p2, p3, p4⟩ := zz.c
                simp only [Nat.zero_add] at p1 p2 p3 p4
                have f0 := zz.frozen 0
                have f1 := zz.frozen 1
                have f2 := zz.frozen 2
                have f3 := zz.frozen 3
                have f4 := zz.frozen 4
                obtain ⟨W5, HW5, hS5, hB5, ho5, hz5⟩ := zz.store (andS u1 nr)
                refine wpAnyH_ready (rs := [8]) (by kernel_rfl) (by simp) ?_
                refine AllReadyH.cons rfl (fun K hK => ?_) AllReadyH.nil
                simp only [List.getElem_toArray, List.getElem_cons_succ, List.getElem_cons_zero]
                rw [if_pos (by rfl)]
                go_wp2_with fail
                rw [HW5.out]
                have q5 : Below wq.heap.size wq W5 := qw6.trans (hB5.mono (by have h1 := qw4.size; have h2 := qw5.size; have h3 := qw6.size; have h4 : wq.drew.heap.size = wq.heap.size := rfl; omega))
                refine hK.out _ _ (Hall.out _ q5) (fun hH => ?_)
                refine wpAnyH_done (by kernel_rfl) ?_ _
                go_wp2_with fail
                go_meet
                exact ⟨_, andS u1 nr, rfl, hS5, Hnx.out u1 hBe, by have h1 := qw4.size; have h2 := qw5.size; have h3 := qw6.size; have h4 : wq.drew.heap.size = wq.heap.size := rfl; omega, q5⟩
            · simp only [List.getElem_toArray, List.getElem_cons_succ, List.getElem_cons_zero]
              rw [if_pos (by rfl)]
              go_wp2_with fail
              have qw4' : Below wq.heap.size wq (wq.alloc (.cells #[.int .u64 0, .int .u64 0, .int .u64 0, .int .u64 0, .int .u64 0] 68)).drew := (below_new wq (.cells #[.int .u64 0, .int .u64 0, .int .u64 0, .int .u64 0, .int .u64 0] 68)).drew
              have zw4 : SetAt (wq.alloc (.cells #[.int .u64 0, .int .u64 0, .int .u64 0, .int .u64 0, .int .u64 0] 68)).drew wq.heap.size noneS := setAt_new wq noneS
              obtain ⟨w4, Hw4⟩ : ∃ w4, Hid ((wq.alloc (.cells #[.int .u64 0, .int .u64 0, .int .u64 0, .int .u64 0, .int .u64 0] 68)).drew = w4) := ⟨_, rfl⟩
              rw [Hw4.out] at qw4' zw4 ⊢
              have qw4 := qw4'
              refine hK.out _ _ (Hall.out _ qw4) (fun hH => ?_)
              refine wpAnyH_ready (rs := [4]) (by kernel_rfl) (by simp) ?_
              refine AllReadyH.cons rfl (fun K hK => ?_) AllReadyH.nil
              simp only [List.getElem_toArray, List.getElem_cons_succ, List.getElem_cons_zero]
              rw [if_pos (by rfl)]
              go_wp2_with fail
              refine (tbehind_any T bn lv t xq (c : Int) _ ((hT.below hO.below).below (qw4)) ((hTab.below hO.below).below (qw4)) hXn).mono ?_
              rintro e w5 ⟨u1, rfl, hBe, bw5⟩
              have qw5 := below_then qw4 bw5
              refine hK.out _ _ (Hall.out _ qw5) (fun hH => ?_)
              refine wpAnyH_ready (rs := [6]) (by kernel_rfl) (by simp) ?_
              refine AllReadyH.cons rfl (fun K hK => ?_) AllReadyH.nil
              simp only [List.getElem_toArray, List.getElem_cons_succ, List.getElem_cons_zero]
              rw [if_pos (by rfl)]
              go_wp2_with fail
              refine (and_any u1 nr _).mono ?_
              rintro e w6 ⟨rfl, bw6⟩
              have qw6 := below_then qw5 bw6
              refine hK.out _ _ (Hall.out _ qw6) (fun hH => ?_)
              have zz : SetAt w6 wq.heap.size noneS := (zw4.below bw5).below bw6
              obtain ⟨_, p0, p1, p2, p3, p4⟩ := zz.c
              simp only [Nat.zero_add] at p1 p2 p3 p4
              have f0 := zz.frozen 0
              have f1 := zz.frozen 1
              have f2 := zz.frozen 2
              have f3 := zz.frozen 3
              have f4 := zz.frozen 4
              obtain ⟨W5, HW5, hS5, hB5, ho5, hz5⟩ := zz.store (andS u1 nr)
              refine wpAnyH_ready (rs := [8]) (by kernel_rfl) (by simp) ?_
              refine AllReadyH.cons rfl (fun K hK => ?_) AllReadyH.nil
              simp only [List.getElem_toArray, List.getElem_cons_succ, List.getElem_cons_zero]
              rw [if_pos (by rfl)]
              go_wp2_with fail
              rw [HW5.out]
              have q5 : Below wq.heap.size wq W5 := qw6.trans (hB5.mono (by have h4 : wq.drew.heap.size = wq.heap.size := rfl; omega))
              refine hK.out _ _ (Hall.out _ q5) (fun hH => ?_)
              refine wpAnyH_done (by kernel_rfl) ?_ _
              go_wp2_with fail
              go_meet
              exact ⟨_, andS u1 nr, rfl, hS5, Hnx.out u1 hBe, by omega, q5⟩

          obtain ⟨sb, q, rfl, hS, hq, hsb, bC⟩ := hcut
          obtain ⟨w7, rfl⟩ : ∃ w0, w0 = wc := ⟨_, rfl⟩
          obtain ⟨_, p0, p1, p2, p3, p4⟩ := hS.c
          simp only [Nat.zero_add] at p1 p2 p3 p4
          have hsbo : some sb ≠ u8.ownBlock := fun e => by have := ownsRow_lt hO.own e.symm; omega
          have hsome := hq.some (E := E) hW hN (by omega) hTk
          go_wp2_with fail
          refine (empty_any q w7).mono ?_
          rintro e w8 ⟨rfl, b8⟩
          have q8 := below_then bC b8
          have hO8 := hO.to q8
          have hN8 := hNr.below q8
          have hx8 := hx1.below q8
          have hS8 := hS.below b8
          have HeX : Hid (L[i].1 = X.1) := by show _ = _; rw [HX.out]
          clear p0 p1 p2 p3 p4
          cases hem : emptyS q
          · have hb : BeginI n s E most (X.1 ++ [(c : Int)]) := hsome.1 hem
            have Hadd : Hid (NextL n s E t most k L i (c + 1) (bs.map (·.2) ++ [(X.1 ++ [(c : Int)], q)])) := by
              have := hX.add hLv hiL hc1 hc26 (by rw [HeX.out]; exact hb) (q := q) (by rw [HeX.out]; exact hq)
              rw [HeX.out] at this
              exact this
            have hu8 : Ints w8 (.slice xa xl xc) X.1 := Hu0.out w8 hO8.below
            have Hall2 : Hid (∀ w' : World, Below w8.heap.size w8 w' → (fun w' => w'.cell? ⟨xb, 0, none⟩ = some (.slice xa xl xc) ∧ w'.cell? ⟨sb, 0, none⟩ = some (.int .u64 (q.at_ 0 : Nat)) ∧ w'.cell? ⟨sb, 1, none⟩ = some (.int .u64 (q.at_ 1 : Nat)) ∧ w'.cell? ⟨sb, 2, none⟩ = some (.int .u64 (q.at_ 2 : Nat)) ∧ w'.cell? ⟨sb, 3, none⟩ = some (.int .u64 (q.at_ 3 : Nat)) ∧ w'.cell? ⟨sb, 4, none⟩ = some (.int .u64 (q.at_ 4 : Nat))) w') := fun w' hb => by
              obtain ⟨y0, _⟩ := (hx8.below hb).cells
              obtain ⟨_, r0, r1, r2, r3, r4⟩ := (hS8.below hb).c
              simp only [Nat.zero_add] at r1 r2 r3 r4
              exact ⟨y0, r0, r1, r2, r3, r4⟩
            have hdr8 : Below w8.heap.size w8 w8.drew := (Below.refl _ _).drew
            clear hO hNr hx1 hS hsome Hall Hnx
            go_upto_region 11 with fail
            refine wp_region_held_drew (S := (fun w' => w'.cell? ⟨xb, 0, none⟩ = some (.slice xa xl xc) ∧ w'.cell? ⟨sb, 0, none⟩ = some (.int .u64 (q.at_ 0 : Nat)) ∧ w'.cell? ⟨sb, 1, none⟩ = some (.int .u64 (q.at_ 1 : Nat)) ∧ w'.cell? ⟨sb, 2, none⟩ = some (.int .u64 (q.at_ 2 : Nat)) ∧ w'.cell? ⟨sb, 3, none⟩ = some (.int .u64 (q.at_ 3 : Nat)) ∧ w'.cell? ⟨sb, 4, none⟩ = some (.int .u64 (q.at_ 4 : Nat)))) (by kernel_rfl) (Hall2.out _ hdr8) (fun hH => ?_)
            refine wpAnyH_take (i := 0) (v := u8) rfl (by kernel_rfl) (by kernel_rfl) (by kernel_rfl) (fun _ _ _ h => h) (.inl ⟨by rfl, fun _ _ => rfl⟩) hH ?_
            simp only [List.getElem_toArray, List.getElem_cons_succ, List.getElem_cons_zero, Act.put, List.setIfInBounds_toArray, List.set_cons_zero, List.set_cons_succ]
            refine wpAnyH_take (i := 1) (v := .pointer (some ⟨xb, 0, none⟩)) rfl (by kernel_rfl) (by kernel_rfl) (by kernel_rfl) (fun _ _ _ h => h) (.inl ⟨by rfl, fun w' hS' => by first | (go_simp; done) | (go_simp; rfl) | (go_simp; intro h; omega)⟩) hH ?_
            simp only [List.getElem_toArray, List.getElem_cons_succ, List.getElem_cons_zero, Act.put, List.setIfInBounds_toArray, List.set_cons_zero, List.set_cons_succ]
            refine wpAnyH_take (i := 2) (v := .slice xa xl xc) rfl (by kernel_rfl) (by kernel_rfl) (by kernel_rfl) (fun _ _ _ h => h) (.inl ⟨by rfl, fun w' hS' => by obtain ⟨x0, n0, n1, n2, n3, n4⟩ := hS'; go_simp⟩) hH ?_
            simp only [List.getElem_toArray, List.getElem_cons_succ, List.getElem_cons_zero, Act.put, List.setIfInBounds_toArray, List.set_cons_zero, List.set_cons_succ]
            refine wpAnyH_take (i := 4) (v := .int .i64 (c : Int)) rfl (by kernel_rfl) (by kernel_rfl) (by kernel_rfl) (fun _ _ _ h => h) (.inl ⟨by rfl, fun _ _ => rfl⟩) hH ?_
            simp only [List.getElem_toArray, List.getElem_cons_succ, List.getElem_cons_zero, Act.put, List.setIfInBounds_toArray, List.set_cons_zero, List.set_cons_succ]
            refine wpAnyH_take (i := 7) (v := setV q) rfl (by kernel_rfl) (by kernel_rfl) (by kernel_rfl) (fun _ _ _ h => h) (.inl ⟨by rfl, fun w' hS' => by obtain ⟨x0, n0, n1, n2, n3, n4⟩ := hS'; go_simp⟩) hH ?_
            simp only [List.getElem_toArray, List.getElem_cons_succ, List.getElem_cons_zero, Act.put, List.setIfInBounds_toArray, List.set_cons_zero, List.set_cons_succ]
            refine wpAnyH_ready (rs := [3, 5]) (by kernel_rfl) (by simp) ?_
            refine AllReadyH.cons rfl (fun K hK => ?_) (AllReadyH.cons rfl (fun K hK => ?_) AllReadyH.nil)
            · simp only [List.getElem_toArray, List.getElem_cons_succ, List.getElem_cons_zero]
              rw [if_pos (by rfl)]
              go_wp2_with fail
              refine (clone_any _ X.1 _ ((hu8.below hdr8))).mono ?_
              rintro e w9 ⟨r, rfl, hOw⟩
              have q9 : Below w8.heap.size w8 w9 := hdr8.trans hOw.2.1
              refine hK.out _ _ (Hall2.out _ q9) (fun hH => ?_)
              refine wpAnyH_ready (rs := [5]) (by kernel_rfl) (by simp) ?_
              refine AllReadyH.cons rfl (fun K hK => ?_) AllReadyH.nil
              simp only [List.getElem_toArray, List.getElem_cons_succ, List.getElem_cons_zero]
              rw [if_pos (by rfl)]
              go_wp2_with fail
              have bi := below_new w9 (.cells #[.int .i64 (c : Int)] 3)
              refine hK.out _ _ (Hall2.out _ (below_then q9 bi)) (fun hH => ?_)
              refine wpAnyH_ready (rs := [6]) (by kernel_rfl) (by simp) ?_
              refine AllReadyH.cons rfl (fun K hK => ?_) AllReadyH.nil
              simp only [List.getElem_toArray, List.getElem_cons_succ, List.getElem_cons_zero]
              refine wpr_append_int (by rfl) _ _ rfl w8.drew.heap.size w8.drew w9 r X.1 (c : Int) hOw rfl rfl (by rw [hXk]; omega) ?_
              intro v1 w10 hV
              have q10 : Below w8.heap.size w8 w10 := hdr8.trans hV.2.1
              have hVon : On (fun k => w8.heap.size ≤ k) w10 (fun w' => Ints w' v1 (X.1 ++ [(c : Int)])) := hV.on (by simp [hXk]; omega)
              obtain ⟨va, vl, vc, rfl⟩ := hV.slice
              refine hK.out _ _ (Hall2.out _ q10) (fun hH => ?_)
              refine wpAnyH_take (i := 8) (v := .agg #[.slice va vl vc, .int .u64 (q.at_ 0 : Nat), .int .u64 (q.at_ 1 : Nat), .int .u64 (q.at_ 2 : Nat), .int .u64 (q.at_ 3 : Nat), .int .u64 (q.at_ 4 : Nat)]) rfl (by kernel_rfl) (by kernel_rfl) (by kernel_rfl) (fun _ _ _ h => h) (.inl ⟨by rfl, fun w' hS' => by first | (go_simp; done) | (go_simp; rfl) | (go_simp; intro h; omega)⟩) hH ?_
              simp only [List.getElem_toArray, List.getElem_cons_succ, List.getElem_cons_zero, Act.put, List.setIfInBounds_toArray, List.set_cons_zero, List.set_cons_succ]
              refine wpAnyH_ready (rs := [9]) (by kernel_rfl) (by simp) ?_
              refine AllReadyH.cons rfl (fun K hK => ?_) AllReadyH.nil
              simp only [List.getElem_toArray, List.getElem_cons_succ, List.getElem_cons_zero]
              rw [if_pos (by rfl)]
              go_wp2_with fail
              have bg := below_new w10 (.cells #[.slice va vl vc, .int .u64 (q.at_ 0 : Nat), .int .u64 (q.at_ 1 : Nat), .int .u64 (q.at_ 2 : Nat), .int .u64 (q.at_ 3 : Nat), .int .u64 (q.at_ 4 : Nat)] 101)
              refine hK.out _ _ (Hall2.out _ (below_then q10 bg)) (fun hH => ?_)
              refine wpAnyH_ready (rs := [10]) (by kernel_rfl) (by simp) ?_
              refine AllReadyH.cons rfl (fun K hK => ?_) AllReadyH.nil
              simp only [List.getElem_toArray, List.getElem_cons_succ, List.getElem_cons_zero]
              refine wpr_append_beg (by rfl) _ _ rfl w.heap.size w10 u8 bs va vl vc (X.1 ++ [(c : Int)]) q (hO8.to q10).own rfl rfl (by have := hX.len; simp only [List.length_map] at this; omega) (hO8.to q10).size ?_
              intro v' w' hown hg hat
              have hOn : BegOut w.heap.size w w' v' (bs ++ [(.slice va vl vc, X.1 ++ [(c : Int)], q)]) := hO8.step q10 (hVon) bg hown hg hat
              have hlt10 := q10.size
              have hblk : ∀ b, b < w8.heap.size → some b ≠ u8.ownBlock → w'.heap[b]? = w8.heap[b]? := fun b h1 h2 => (hg.block b (by simp; omega) h2).trans ((bg.block b (by omega)).trans (q10.block b h1))
              have hx9 : BegBox w' xb (.slice xa xl xc) xq := (hblk xb hx8.lt hxo).trans hx8
              have hn9 : SetAt w' nb nr := (hblk nb hN8.lt hnb1).trans hN8
              have hs9 : SetAt w' sb q := (hblk sb hS8.lt hsbo).trans hS8
              have hxo9 : some xb ≠ v'.ownBlock := own_apart hat hxo (by simp; have := hx8.lt; omega)
              have hno9 : some nb ≠ v'.ownBlock := own_apart hat hnb1 (by simp; have := hN8.lt; omega)
              refine hK.out _ _ ?_ (fun hH => ?_)
              · obtain ⟨y0, _⟩ := hx9.cells
                obtain ⟨_, r0, r1, r2, r3, r4⟩ := hs9.c
                simp only [Nat.zero_add] at r1 r2 r3 r4
                exact ⟨y0, r0, r1, r2, r3, r4⟩
              refine wpAnyH_take (i := 11) rfl (by kernel_rfl) (by kernel_rfl) (by kernel_rfl) (fun _ _ _ h => h) (.inl ⟨by rfl, fun _ _ => rfl⟩) hH ?_
              simp only [List.getElem_toArray, List.getElem_cons_succ, List.getElem_cons_zero, Act.put, List.setIfInBounds_toArray, List.set_cons_zero, List.set_cons_succ]
              refine wpAnyH_done (by kernel_rfl) ?_ _
              have hXn9 : NextL n s E t most k L i (c + 1) ((bs ++ [(Value.slice va vl vc, X.1 ++ [(c : Int)], q)]).map (·.2)) := by rw [List.map_append]; exact Hadd.out
              clear hO8 hN8 hx8 hS8 hX Hall2 hH hown hg hat hblk hs9
              go_wp2
              go_roundg (gk - 1)
              case measure => omega
              case rel => exact ⟨c + 1, _, by omega, by omega, by omega, by go_num, hOn, hXn9, hn9, hno9, by rw [Hxq.out]; exact hx9, hxo9⟩
            · simp only [List.getElem_toArray, List.getElem_cons_succ, List.getElem_cons_zero]
              rw [if_pos (by rfl)]
              go_wp2_with fail
              have bi : Below w8.heap.size w8 (w8.alloc (.cells #[.int .i64 (c : Int)] 3)).drew := (below_new w8 (.cells #[.int .i64 (c : Int)] 3)).drew
              have hi1 : Ints (w8.alloc (.cells #[.int .i64 (c : Int)] 3)).drew (.slice (some ⟨w8.heap.size, 0, none⟩) 1 1) [(c : Int)] := (ints_lit w8 _ [(c : Int)] 3 1 rfl (by omega) rfl).below ((Below.refl _ _).drew)
              obtain ⟨w9, Hw9⟩ : ∃ w9, Hid ((w8.alloc (.cells #[.int .i64 (c : Int)] 3)).drew = w9) := ⟨_, rfl⟩
              rw [Hw9.out] at bi hi1 ⊢
              refine hK.out _ _ (Hall2.out _ bi) (fun hH => ?_)
              refine wpAnyH_ready (rs := [3]) (by kernel_rfl) (by simp) ?_
              refine AllReadyH.cons rfl (fun K hK => ?_) AllReadyH.nil
              simp only [List.getElem_toArray, List.getElem_cons_succ, List.getElem_cons_zero]
              rw [if_pos (by rfl)]
              go_wp2_with fail
              refine (clone_any _ X.1 _ ((hu8.below bi))).mono ?_
              rintro e w9b ⟨r, rfl, hOw⟩
              have q9 : Below w8.heap.size w8 w9b := below_then bi hOw.2.1
              refine hK.out _ _ (Hall2.out _ q9) (fun hH => ?_)
              refine wpAnyH_ready (rs := [6]) (by kernel_rfl) (by simp) ?_
              refine AllReadyH.cons rfl (fun K hK => ?_) AllReadyH.nil
              simp only [List.getElem_toArray, List.getElem_cons_succ, List.getElem_cons_zero]
              refine wpr_app_ints (by rfl) _ _ rfl w9.heap.size w9 w9b r _ 1 1 X.1 [(c : Int)] hOw rfl rfl (hi1.below hOw.2.1) (by rw [hXk]; simp; omega) ?_
              intro v1 w10 hV
              have q10 : Below w8.heap.size w8 w10 := below_then bi hV.2.1
              have hVon : On (fun k => w8.heap.size ≤ k) w10 (fun w' => Ints w' v1 (X.1 ++ [(c : Int)])) := (hV.on (by simp [hXk]; omega)).weaken (fun k _ hk => Nat.le_trans bi.size hk)
              obtain ⟨va, vl, vc, rfl⟩ := hV.slice
              refine hK.out _ _ (Hall2.out _ q10) (fun hH => ?_)
              refine wpAnyH_take (i := 8) (v := .agg #[.slice va vl vc, .int .u64 (q.at_ 0 : Nat), .int .u64 (q.at_ 1 : Nat), .int .u64 (q.at_ 2 : Nat), .int .u64 (q.at_ 3 : Nat), .int .u64 (q.at_ 4 : Nat)]) rfl (by kernel_rfl) (by kernel_rfl) (by kernel_rfl) (fun _ _ _ h => h) (.inl ⟨by rfl, fun w' hS' => by first | (go_simp; done) | (go_simp; rfl) | (go_simp; intro h; omega)⟩) hH ?_
              simp only [List.getElem_toArray, List.getElem_cons_succ, List.getElem_cons_zero, Act.put, List.setIfInBounds_toArray, List.set_cons_zero, List.set_cons_succ]
              refine wpAnyH_ready (rs := [9]) (by kernel_rfl) (by simp) ?_
              refine AllReadyH.cons rfl (fun K hK => ?_) AllReadyH.nil
              simp only [List.getElem_toArray, List.getElem_cons_succ, List.getElem_cons_zero]
              rw [if_pos (by rfl)]
              go_wp2_with fail
              have bg := below_new w10 (.cells #[.slice va vl vc, .int .u64 (q.at_ 0 : Nat), .int .u64 (q.at_ 1 : Nat), .int .u64 (q.at_ 2 : Nat), .int .u64 (q.at_ 3 : Nat), .int .u64 (q.at_ 4 : Nat)] 101)
              refine hK.out _ _ (Hall2.out _ (below_then q10 bg)) (fun hH => ?_)
              refine wpAnyH_ready (rs := [10]) (by kernel_rfl) (by simp) ?_
              refine AllReadyH.cons rfl (fun K hK => ?_) AllReadyH.nil
              simp only [List.getElem_toArray, List.getElem_cons_succ, List.getElem_cons_zero]
              refine wpr_append_beg (by rfl) _ _ rfl w.heap.size w10 u8 bs va vl vc (X.1 ++ [(c : Int)]) q (hO8.to q10).own rfl rfl (by have := hX.len; simp only [List.length_map] at this; omega) (hO8.to q10).size ?_
              intro v' w' hown hg hat
              have hOn : BegOut w.heap.size w w' v' (bs ++ [(.slice va vl vc, X.1 ++ [(c : Int)], q)]) := hO8.step q10 (hVon) bg hown hg hat
              have hlt10 := q10.size
              have hblk : ∀ b, b < w8.heap.size → some b ≠ u8.ownBlock → w'.heap[b]? = w8.heap[b]? := fun b h1 h2 => (hg.block b (by simp; omega) h2).trans ((bg.block b (by omega)).trans (q10.block b h1))
              have hx9 : BegBox w' xb (.slice xa xl xc) xq := (hblk xb hx8.lt hxo).trans hx8
              have hn9 : SetAt w' nb nr := (hblk nb hN8.lt hnb1).trans hN8
              have hs9 : SetAt w' sb q := (hblk sb hS8.lt hsbo).trans hS8
              have hxo9 : some xb ≠ v'.ownBlock := own_apart hat hxo (by simp; have := hx8.lt; omega)
              have hno9 : some nb ≠ v'.ownBlock := own_apart hat hnb1 (by simp; have := hN8.lt; omega)
              refine hK.out _ _ ?_ (fun hH => ?_)
              · obtain ⟨y0, _⟩ := hx9.cells
                obtain ⟨_, r0, r1, r2, r3, r4⟩ := hs9.c
                simp only [Nat.zero_add] at r1 r2 r3 r4
                exact ⟨y0, r0, r1, r2, r3, r4⟩
              refine wpAnyH_take (i := 11) rfl (by kernel_rfl) (by kernel_rfl) (by kernel_rfl) (fun _ _ _ h => h) (.inl ⟨by rfl, fun _ _ => rfl⟩) hH ?_
              simp only [List.getElem_toArray, List.getElem_cons_succ, List.getElem_cons_zero, Act.put, List.setIfInBounds_toArray, List.set_cons_zero, List.set_cons_succ]
              refine wpAnyH_done (by kernel_rfl) ?_ _
              have hXn9 : NextL n s E t most k L i (c + 1) ((bs ++ [(Value.slice va vl vc, X.1 ++ [(c : Int)], q)]).map (·.2)) := by rw [List.map_append]; exact Hadd.out
              clear hO8 hN8 hx8 hS8 hX Hall2 hH hown hg hat hblk hs9
              go_wp2
              go_roundg (gk - 1)
              case measure => omega
              case rel => exact ⟨c + 1, _, by omega, by omega, by omega, by go_num, hOn, hXn9, hn9, hno9, by rw [Hxq.out]; exact hx9, hxo9⟩
          · have hb : ¬ BeginI n s E most (X.1 ++ [(c : Int)]) := fun h => by rw [hsome.2 h] at hem; cases hem
            have hX9 := hX.skip hiL hc1 (by rw [HeX.out]; exact hb)
            clear hO hNr hx1 hS hsome Hall Hnx hX
            go_wp2
            go_roundg (gk - 1)
            case measure => omega
            case rel => exact ⟨c + 1, bs, by omega, by omega, by omega, by go_num, hO8, hX9, hN8, hnb1, by rw [Hxq.out]; exact hx8, hxo⟩
        · obtain rfl : c = 27 := by omega
          have hX9 := hX.row
          go_wp2
          go_roundg (g1 - 1)
          case measure => omega
          case rel => exact ⟨i + 1, bs, by omega, by go_num, hO, hX9, hNr, hnb1⟩
    · obtain rfl : i = lb := by omega
      clear hi
      have hkk : decide ((i : Int) < (i : Int)) = false := by simp
      rw [← Hlb.out] at hX
      have R := hX.done hLv hW hok
      have Rl := hX.len
      have Ro := hO.begsV
      rw [List.length_map] at Rl
      go_wp2
      go_ret
      exact ⟨_, _, rfl, Ro, R, by omega, hO.below⟩

end Go.Proofs.YtakgppoeikcepaaDoor

/- Package tongue as it landed: listed, Words. -/
namespace Go.Proofs.YtakgppoeikcepaaDoor
open Go.RowKit Go.Shelf
set_option linter.unusedVariables false
set_option linter.unusedSimpArgs false
set_option maxRecDepth 4000

/-- Words that the call itself lists; they lie elsewhere. -/
structure WordsOut (B : Nat) (w0 wr : World) (v : Value) (cs : List (Value × List Int)) : Prop where
  own : wr.ownsRow B 25 1 v cs.length (cs.map (·.1))
  below : Below B w0 wr
  size : B ≤ wr.heap.size
  row : ∀ j (hj : j < cs.length), On (fun k => B ≤ k ∧ some k ≠ v.ownBlock) wr (fun w' => Ints w' cs[j].1 cs[j].2)
theorem WordsOut.start {w : World} (B : Nat) {w0 : World} (hb : Below B w0 w) (hB : B ≤ w.heap.size) : WordsOut B w0 w (.slice none 0 0) [] := ⟨World.ownsRow_nil _ _ _ _, hb, hB, fun j hj => absurd hj (by simp)⟩
theorem WordsOut.to {B : Nat} {w0 wr w' : World} {v : Value} {cs : List (Value × List Int)} (h : WordsOut B w0 wr v cs) (hb : Below wr.heap.size wr w') : WordsOut B w0 w' v cs :=
  ⟨((ownsRow_on h.own).below hb).now, h.below.trans (hb.mono h.size), Nat.le_trans h.size hb.size, fun j hj => (h.row j hj).below hb⟩
/-- What hangs on blocks beside the row stands while it grows. -/
theorem On.row_grown {B : Nat} {W wC : World} {v v' : Value} {R : World → Prop} (hR : On (fun k => B ≤ k ∧ some k ≠ v.ownBlock) W R) (hg : W.grownBy wC v.ownBlock) (hat : v'.ownBlock = v.ownBlock ∨ v'.ownBlock = some W.heap.size) : On (fun k => B ≤ k ∧ some k ≠ v'.ownBlock) wC R := by
  intro w2 hs hk
  refine hR w2 (Nat.le_trans hg.size hs) fun k hlt ⟨hkx, hkr⟩ => ?_
  rw [hk k (Nat.lt_of_lt_of_le hlt hg.size) ⟨hkx, own_apart hat hkr hlt⟩]
  exact hg.block k hlt hkr
theorem WordsOut.step {B : Nat} {w0 W wC : World} {v v' c : Value} {cs : List (Value × List Int)} {xs : List Int} (h : WordsOut B w0 W v cs)
    (k1 : On (fun k => B ≤ k ∧ some k ≠ v.ownBlock) W (fun w' => Ints w' c xs))
    (hown : wC.ownsRow B 25 1 v' (cs.length + 1) (cs.map (·.1) ++ [c])) (hg : W.grownBy wC v.ownBlock)
    (hat : v'.ownBlock = v.ownBlock ∨ v'.ownBlock = some W.heap.size) : WordsOut B w0 wC v' (cs ++ [(c, xs)]) := by
  refine ⟨?_, h.below.grown hg h.size (fun k hk => (ownsRow_lt h.own hk).1), Nat.le_trans h.size hg.size, fun j hj => ?_⟩
  · rw [List.map_append, List.length_append]
    simpa using hown
  · by_cases hjl : j < cs.length
    · rw [List.getElem_append_left hjl]
      exact (h.row j hjl).row_grown hg hat
    · have e : j = cs.length := by simp at hj; omega
      subst e
      rw [List.getElem_append_right (Nat.le_refl _)]
      simp only [Nat.sub_self, List.getElem_cons_zero]
      exact k1.row_grown hg hat
theorem WordsOut.lists {B : Nat} {w0 wr : World} {v : Value} {cs : List (Value × List Int)} (h : WordsOut B w0 wr v cs) (hl : cs.length ≤ 1000000) : Lists wr v (cs.map (·.2)) := by
  have hown0 := h.own
  obtain ⟨_, hcase⟩ := id h.own
  rcases hcase with ⟨rfl, h0⟩ | ⟨g, cap', cur, rfl, hg, hh, hn, hcap, hsz, htake⟩
  · have e : cs = [] := List.length_eq_zero_iff.1 h0
    subst e
    exact ⟨none, 0, 0, rfl, rfl, by omega, ⟨by omega, by omega, fun _ => rfl⟩, fun j hj => absurd hj (by simp)⟩
  · refine ⟨_, _, _, rfl, by simp, by omega, ⟨hn, by unfold maxLen at hcap; omega, fun h => by cases h⟩, fun j hj => ?_⟩
    have hj' : j < cs.length := by simpa using hj
    refine ⟨g, 0, cs[j].1, rfl, (Array.getElem?_eq_some_iff.1 hh).1, ?_, ?_⟩
    · rw [Nat.zero_add, hown0.cellAt j (by omega)]
      simp [hj']
    · have := (h.row j hj').now
      simpa [markAt, List.getD, hj'] using this

theorem info_list : (Tryd.prog.info? 25).map (fun i => (i.zero, i.size, i.bytes)) = some (some (.slice none 0 0), 1, 24) := by kernel_rfl
theorem wpr_append_word {o : Oper} {a : Act} {K : Act → World → Prop} {Q : Exit → Act → World → Prop} {Y : Nat → Option Bool} (hwt : Region.wanted o Y = true) (s x : Operand)
    (ho : o.op = .call { callee := .builtin .append, args := #[s, x], argTypes := #[34, 34] }) (B : Nat) (wr : World) (v : Value) (cs : List (Value × List Int))
    (a1 : Option Addr) (l1 p1 : Nat) (hown : wr.ownsRow B 25 1 v cs.length (cs.map (·.1)))
    (hs : a.eval s = v) (hx : a.eval x = .slice (some ⟨wr.heap.size, 0, none⟩) 1 1) (hl : cs.length + 1 ≤ 1000000) (hB : B ≤ wr.heap.size)
    (h : ∀ v' w', w'.ownsRow B 25 1 v' (cs.length + 1) (cs.map (·.1) ++ [.slice a1 l1 p1]) → (wr.alloc (.cells #[.slice a1 l1 p1] 25)).grownBy w' v.ownBlock →
      (v'.ownBlock = v.ownBlock ∨ v'.ownBlock = some (wr.alloc (.cells #[.slice a1 l1 p1] 25)).heap.size) → K (a.put o.dst v') w') :
    if Region.wanted o Y = true then Oper.wp Tryd.prog o a (wr.alloc (.cells #[.slice a1 l1 p1] 25)) K Q else K (a.put o.dst undef) (wr.alloc (.cells #[.slice a1 l1 p1] 25)) := by
  obtain ⟨i0, hi, hz0, hz1, hz2⟩ := info_parts info_list
  refine wp_append_at _ hwt s x 34 ho B 25 i0 _ 1 24 Tryd.underlying34 hi hz0 hz1 hz2 rfl (by decide) v cs.length _ hs (hown.alloc _) ⟨wr.heap.size, 0, none⟩ 1 1 [.slice a1 l1 p1] hx rfl ?_ ?_ ?_ ?_ ?_ h
  · intro j u hj
    rw [addr_add, World.cell?_alloc_at _ _ _ _ rfl]
    match j, hj with
    | 0, hj => simpa using hj
  · intro u hu
    simp only [List.mem_cons, List.not_mem_nil, or_false] at hu
    rcases hu with rfl <;> rfl
  · unfold maxLen; omega
  · omega
  · simp; omega

theorem row_lenT {w : World} {B : Nat} {t : TypeId} {a : Option Addr} {l c n : Nat} {xs : List Value} (h : w.ownsRow B t 1 (.slice a l c) n xs) : l = n := by
  rcases h.2 with ⟨e, h0⟩ | ⟨g, cap, cur, e, _⟩
  · injection e with _ e; omega
  · injection e with _ e

/-- The first level. -/
theorem level_first {n : NetL} {S E : List Int} {s : SpaceL} {t : TalkL} {most : Int} {q : SetL} (hq : AtN n s t most [] q) (hb : BeginI n s E most []) : Level n s E t most 0 [([], q)] := by
  refine ⟨by simp, fun ws => ?_, fun x hx => by rw [List.mem_singleton.1 hx]; exact hq⟩
  simp only [List.map_cons, List.map_nil, List.mem_singleton]
  constructor
  · rintro rfl; exact ⟨rfl, hb⟩
  · rintro ⟨h, _⟩; exact List.length_eq_zero_iff.1 h
theorem level_none {n : NetL} {S E : List Int} {s : SpaceL} {t : TalkL} {most : Int} (hb : ¬ BeginI n s E most []) : Level n s E t most 0 [] := by
  refine ⟨by simp, fun ws => ⟨fun h => by simp at h, ?_⟩, by simp⟩
  rintro ⟨h, h2⟩
  rw [List.length_eq_zero_iff.1 h] at h2
  exact absurd h2 hb

set_option maxRecDepth 100000 in
set_option maxHeartbeats 8000000 in
theorem listed_any (T bn : Nat) (lv : Value) (t : TalkL) (n : NetL) (S E : List Int) (s : SpaceL) (most : Int) (w : World) (hT : TalkAt w T bn lv t) (hTab : Tab w) (hW : Whole n S s) (hN : s.marks.length ≤ 300) (hok : netOk n = true) (hTk : TalkOk n s E t) (hm : 0 ≤ most ∧ most ≤ 8) :
    Calls Tryd.prog 23 #[.pointer (some ⟨T, 0, none⟩), .int .i64 most] w fun e w' => ∃ r l d, e = .returned (.tuple #[r, .int .i64 d]) ∧ Lists w' r l ∧ ListsW (ToEnd n s E 0) most l d ∧ Below w.heap.size w w' := by
  have hsz := hTk.size
  have hn0 : 0 < t.n := by rw [hsz]; exact hW.here.1
  have Hall : Hid (∀ w' : World, Below w.heap.size w w' → (fun w' => w'.cell? ⟨T, 0, none⟩ = some (.int .u64 (t.bg.at_ 0 : Nat)) ∧ w'.cell? ⟨T, 1, none⟩ = some (.int .u64 (t.bg.at_ 1 : Nat)) ∧ w'.cell? ⟨T, 2, none⟩ = some (.int .u64 (t.bg.at_ 2 : Nat)) ∧ w'.cell? ⟨T, 3, none⟩ = some (.int .u64 (t.bg.at_ 3 : Nat)) ∧ w'.cell? ⟨T, 4, none⟩ = some (.int .u64 (t.bg.at_ 4 : Nat))) w') := fun w' hb => by
    have h := (hT.below hb).cells
    refine ⟨?_, ?_, ?_, ?_, ?_⟩ <;> simp [World.cell?, h]
  have hdr : Below w.heap.size w w.drew := (Below.refl _ _).drew
  go_enter Tryd.func23, Tryd.ntmps23
  go_upto_region 3 with fail
  go_cut [8] (fun p wc => ∃ sb q, p = .pointer (some ⟨sb, 0, none⟩) ∧ SetAt wc sb q ∧ AtN n s t most [] q ∧ w.heap.size ≤ sb ∧ Below w.heap.size w wc)
  case first =>
    refine wp_region_held_drew (S := (fun w' => w'.cell? ⟨T, 0, none⟩ = some (.int .u64 (t.bg.at_ 0 : Nat)) ∧ w'.cell? ⟨T, 1, none⟩ = some (.int .u64 (t.bg.at_ 1 : Nat)) ∧ w'.cell? ⟨T, 2, none⟩ = some (.int .u64 (t.bg.at_ 2 : Nat)) ∧ w'.cell? ⟨T, 3, none⟩ = some (.int .u64 (t.bg.at_ 3 : Nat)) ∧ w'.cell? ⟨T, 4, none⟩ = some (.int .u64 (t.bg.at_ 4 : Nat)))) (by kernel_rfl) (Hall.out _ hdr) (fun hH => ?_)
    refine wpAnyH_take (i := 0) (v := .pointer (some ⟨T, 0, none⟩)) rfl (by kernel_rfl) (by kernel_rfl) (by kernel_rfl) (fun _ _ _ h => h) (.inl ⟨by rfl, fun _ _ => rfl⟩) hH ?_
    simp only [List.getElem_toArray, List.getElem_cons_succ, List.getElem_cons_zero, Act.put, List.setIfInBounds_toArray, List.set_cons_zero, List.set_cons_succ]
    refine wpAnyH_take (i := 1) (v := .pointer (some ⟨T, 0, none⟩)) rfl (by kernel_rfl) (by kernel_rfl) (by kernel_rfl) (fun _ _ _ h => h) (.inl ⟨by rfl, fun w' hS' => by first | (go_simp; done) | (go_simp; rfl) | (go_simp; intro h; omega)⟩) hH ?_
    simp only [List.getElem_toArray, List.getElem_cons_succ, List.getElem_cons_zero, Act.put, List.setIfInBounds_toArray, List.set_cons_zero, List.set_cons_succ]
    refine wpAnyH_take (i := 2) (v := .pointer (some ⟨T, 0, none⟩)) rfl (by kernel_rfl) (by kernel_rfl) (by kernel_rfl) (fun _ _ _ h => h) (.inl ⟨by rfl, fun w' hS' => by first | (go_simp; done) | (go_simp; rfl) | (go_simp; intro h; omega)⟩) hH ?_
    simp only [List.getElem_toArray, List.getElem_cons_succ, List.getElem_cons_zero, Act.put, List.setIfInBounds_toArray, List.set_cons_zero, List.set_cons_succ]
    refine wpAnyH_take (i := 3) (v := setV t.bg) rfl (by kernel_rfl) (by kernel_rfl) (by kernel_rfl) (fun _ _ _ h => h) (.inl ⟨by rfl, fun w' hS' => by obtain ⟨n0, n1, n2, n3, n4⟩ := hS'; go_simp⟩) hH ?_
    simp only [List.getElem_toArray, List.getElem_cons_succ, List.getElem_cons_zero, Act.put, List.setIfInBounds_toArray, List.set_cons_zero, List.set_cons_succ]
    refine wpAnyH_take (i := 4) (v := .pointer (some ⟨T, 0, none⟩)) rfl (by kernel_rfl) (by kernel_rfl) (by kernel_rfl) (fun _ _ _ h => h) (.inl ⟨by rfl, fun _ _ => rfl⟩) hH ?_
    simp only [List.getElem_toArray, List.getElem_cons_succ, List.getElem_cons_zero, Act.put, List.setIfInBounds_toArray, List.set_cons_zero, List.set_cons_succ]
    refine wpAnyH_take (i := 5) (v := .int .i64 most) rfl (by kernel_rfl) (by kernel_rfl) (by kernel_rfl) (fun _ _ _ h => h) (.inl ⟨by rfl, fun _ _ => rfl⟩) hH ?_
    simp only [List.getElem_toArray, List.getElem_cons_succ, List.getElem_cons_zero, Act.put, List.setIfInBounds_toArray, List.set_cons_zero, List.set_cons_succ]
    refine wpAnyH_ready (rs := [6, 8]) (by kernel_rfl) (by simp) ?_
    refine AllReadyH.cons rfl (fun K hK => ?_) (AllReadyH.cons rfl (fun K hK => ?_) AllReadyH.nil)
    · simp only [List.getElem_toArray, List.getElem_cons_succ, List.getElem_cons_zero]
      rw [if_pos (by rfl)]
      go_wp2_with fail
      refine (near_any T bn lv t most _ (hT.below (hdr)) hn0).mono ?_
      rintro e w4 ⟨u1, rfl, hNe, bw4⟩
      have qw4 := below_then hdr bw4
      refine hK.out _ _ (Hall.out _ qw4) (fun hH => ?_)
      refine wpAnyH_ready (rs := [7, 8]) (by kernel_rfl) (by simp) ?_
      refine AllReadyH.cons rfl (fun K hK => ?_) (AllReadyH.cons rfl (fun K hK => ?_) AllReadyH.nil)
      · simp only [List.getElem_toArray, List.getElem_cons_succ, List.getElem_cons_zero]
        rw [if_pos (by rfl)]
        go_wp2_with fail
        refine (and_any t.bg u1 _).mono ?_
        rintro e w5 ⟨rfl, bw5⟩
        have qw5 := below_then qw4 bw5
        refine hK.out _ _ (Hall.out _ qw5) (fun hH => ?_)
        refine wpAnyH_ready (rs := [8]) (by kernel_rfl) (by simp) ?_
        refine AllReadyH.cons rfl (fun K hK => ?_) AllReadyH.nil
        simp only [List.getElem_toArray, List.getElem_cons_succ, List.getElem_cons_zero]
        rw [if_pos (by rfl)]
        go_wp2_with fail
        have bw6 := below_new w5 (.cells #[.int .u64 0, .int .u64 0, .int .u64 0, .int .u64 0, .int .u64 0] 68)
        have zw6 : SetAt (w5.alloc (.cells #[.int .u64 0, .int .u64 0, .int .u64 0, .int .u64 0, .int .u64 0] 68)) w5.heap.size noneS := setAt_new w5 noneS
        obtain ⟨w6, Hw6⟩ : ∃ w6, Hid (w5.alloc (.cells #[.int .u64 0, .int .u64 0, .int .u64 0, .int .u64 0, .int .u64 0] 68) = w6) := ⟨_, rfl⟩
        rw [Hw6.out] at bw6 zw6 ⊢
        have qw6 := below_then qw5 bw6
        refine hK.out _ _ (Hall.out _ qw6) (fun hH => ?_)
        have zz : SetAt w6 w5.heap.size noneS := zw6
        obtain ⟨_, p0, p1, p2, p3, p4⟩ := zz.c
        simp only [Nat.zero_add] at p1 p2 p3 p4
        have f0 := zz.frozen 0
        have f1 := zz.frozen 1
        have f2 := zz.frozen 2
        have f3 := zz.frozen 3
        have f4 := zz.frozen 4
        obtain ⟨W5, HW5, hS5, hB5, ho5, hz5⟩ := zz.store (andS t.bg u1)
        refine wpAnyH_ready (rs := [9]) (by kernel_rfl) (by simp) ?_
        refine AllReadyH.cons rfl (fun K hK => ?_) AllReadyH.nil
        simp only [List.getElem_toArray, List.getElem_cons_succ, List.getElem_cons_zero]
        rw [if_pos (by rfl)]
        go_wp2_with fail
        rw [HW5.out]
        have q5 : Below w.heap.size w W5 := qw6.trans (hB5.mono (by have h1 := qw4.size; have h2 := qw5.size; have h3 := qw6.size; omega))
        refine hK.out _ _ (Hall.out _ q5) (fun hH => ?_)
        refine wpAnyH_done (by kernel_rfl) ?_ _
        go_wp2_with fail
        go_meet
        exact ⟨_, andS t.bg u1, rfl, hS5, AtN.first hW hN hTk hNe, by have h1 := qw4.size; have h2 := qw5.size; have h3 := qw6.size; omega, q5⟩
      · simp only [List.getElem_toArray, List.getElem_cons_succ, List.getElem_cons_zero]
        rw [if_pos (by rfl)]
        go_wp2_with fail
        have bw5 := below_new w4 (.cells #[.int .u64 0, .int .u64 0, .int .u64 0, .int .u64 0, .int .u64 0] 68)
        have zw5 : SetAt (w4.alloc (.cells #[.int .u64 0, .int .u64 0, .int .u64 0, .int .u64 0, .int .u64 0] 68)) w4.heap.size noneS := setAt_new w4 noneS
        obtain ⟨w5, Hw5⟩ : ∃ w5, Hid (w4.alloc (.cells #[.int .u64 0, .int .u64 0, .int .u64 0, .int .u64 0, .int .u64 0] 68) = w5) := ⟨_, rfl⟩
        rw [Hw5.out] at bw5 zw5 ⊢
        have qw5 := below_then qw4 bw5
        refine hK.out _ _ (Hall.out _ qw5) (fun hH => ?_)
        refine wpAnyH_ready (rs := [7]) (by kernel_rfl) (by simp) ?_
        refine AllReadyH.cons rfl (fun K hK => ?_) AllReadyH.nil
        simp only [List.getElem_toArray, List.getElem_cons_succ, List.getElem_cons_zero]
        rw [if_pos (by rfl)]
        go_wp2_with fail
        refine (and_any t.bg u1 _).mono ?_
        rintro e w6 ⟨rfl, bw6⟩
        have qw6 := below_then qw5 bw6
        refine hK.out _ _ (Hall.out _ qw6) (fun hH => ?_)
        have zz : SetAt w6 w4.heap.size noneS := zw5.below bw6
        obtain ⟨_, p0, p1, p2, p3, p4⟩ := zz.c
        simp only [Nat.zero_add] at p1 p2 p3 p4
        have f0 := zz.frozen 0
        have f1 := zz.frozen 1
        have f2 := zz.frozen 2
        have f3 := zz.frozen 3
        have f4 := zz.frozen 4
        obtain ⟨W5, HW5, hS5, hB5, ho5, hz5⟩ := zz.store (andS t.bg u1)
        refine wpAnyH_ready (rs := [9]) (by kernel_rfl) (by simp) ?_
        refine AllReadyH.cons rfl (fun K hK => ?_) AllReadyH.nil
        simp only [List.getElem_toArray, List.getElem_cons_succ, List.getElem_cons_zero]
        rw [if_pos (by rfl)]
        go_wp2_with fail
        rw [HW5.out]
        have q5 : Below w.heap.size w W5 := qw6.trans (hB5.mono (by have h1 := qw4.size; have h2 := qw5.size; have h3 := qw6.size; omega))
        refine hK.out _ _ (Hall.out _ q5) (fun hH => ?_)
        refine wpAnyH_done (by kernel_rfl) ?_ _
        go_wp2_with fail
        go_meet
        exact ⟨_, andS t.bg u1, rfl, hS5, AtN.first hW hN hTk hNe, by have h1 := qw4.size; have h2 := qw5.size; have h3 := qw6.size; omega, q5⟩
    · simp only [List.getElem_toArray, List.getElem_cons_succ, List.getElem_cons_zero]
      rw [if_pos (by rfl)]
      go_wp2_with fail
      have qw4 : Below w.heap.size w (w.alloc (.cells #[.int .u64 0, .int .u64 0, .int .u64 0, .int .u64 0, .int .u64 0] 68)).drew := (below_new w (.cells #[.int .u64 0, .int .u64 0, .int .u64 0, .int .u64 0, .int .u64 0] 68)).drew
      have zw4 : SetAt (w.alloc (.cells #[.int .u64 0, .int .u64 0, .int .u64 0, .int .u64 0, .int .u64 0] 68)).drew w.heap.size noneS := setAt_new w noneS
      obtain ⟨w4, Hw4⟩ : ∃ w4, Hid ((w.alloc (.cells #[.int .u64 0, .int .u64 0, .int .u64 0, .int .u64 0, .int .u64 0] 68)).drew = w4) := ⟨_, rfl⟩
      rw [Hw4.out] at qw4 zw4 ⊢
      refine hK.out _ _ (Hall.out _ qw4) (fun hH => ?_)
      refine wpAnyH_ready (rs := [6]) (by kernel_rfl) (by simp) ?_
      refine AllReadyH.cons rfl (fun K hK => ?_) AllReadyH.nil
      simp only [List.getElem_toArray, List.getElem_cons_succ, List.getElem_cons_zero]
      rw [if_pos (by rfl)]
      go_wp2_with fail
      refine (near_any T bn lv t most _ (hT.below (qw4)) hn0).mono ?_
      rintro e w5 ⟨u1, rfl, hNe, bw5⟩
      have qw5 := below_then qw4 bw5
      refine hK.out _ _ (Hall.out _ qw5) (fun hH => ?_)
      refine wpAnyH_ready (rs := [7]) (by kernel_rfl) (by simp) ?_
      refine AllReadyH.cons rfl (fun K hK => ?_) AllReadyH.nil
      simp only [List.getElem_toArray, List.getElem_cons_succ, List.getElem_cons_zero]
      rw [if_pos (by rfl)]
      go_wp2_with fail
      refine (and_any t.bg u1 _).mono ?_
      rintro e w6 ⟨rfl, bw6⟩
      have qw6 := below_then qw5 bw6
      refine hK.out _ _ (Hall.out _ qw6) (fun hH => ?_)
      have zz : SetAt w6 w.heap.size noneS := (zw4.below bw5).below bw6
      obtain ⟨_, p0, p1, p2, p3, p4⟩ := zz.c
      simp only [Nat.zero_add] at p1 p2 p3 p4
      have f0 := zz.frozen 0
      have f1 := zz.frozen 1
      have f2 := zz.frozen 2
      have f3 := zz.frozen 3
      have f4 := zz.frozen 4
      obtain ⟨W5, HW5, hS5, hB5, ho5, hz5⟩ := zz.store (andS t.bg u1)
      refine wpAnyH_ready (rs := [9]) (by kernel_rfl) (by simp) ?_
      refine AllReadyH.cons rfl (fun K hK => ?_) AllReadyH.nil
      simp only [List.getElem_toArray, List.getElem_cons_succ, List.getElem_cons_zero]
      rw [if_pos (by rfl)]
      go_wp2_with fail
      rw [HW5.out]
      have q5 : Below w.heap.size w W5 := qw6.trans (hB5.mono (by omega))
      refine hK.out _ _ (Hall.out _ q5) (fun hH => ?_)
      refine wpAnyH_done (by kernel_rfl) ?_ _
      go_wp2_with fail
      go_meet
      exact ⟨_, andS t.bg u1, rfl, hS5, AtN.first hW hN hTk hNe, by omega, q5⟩
  obtain ⟨sb, q, rfl, hS, hq, hsb, bC⟩ := hcut
  obtain ⟨w1, rfl⟩ : ∃ w0, w0 = wc := ⟨_, rfl⟩
  have hsome := hq.some (E := E) hW hN (by omega) hTk
  obtain ⟨_, p0, p1, p2, p3, p4⟩ := hS.c
  simp only [Nat.zero_add] at p1 p2 p3 p4
  go_wp2_with fail
  refine (empty_any q w1).mono ?_
  rintro e w2 ⟨rfl, b2⟩
  have q2 := below_then bC b2
  have hS2 := hS.below b2
  clear p0 p1 p2 p3 p4 hS Hall
  cases hem : emptyS q
  · have hb0 : BeginI n s E most [] := hsome.1 hem
    have hLv0 := level_first (S := S) hq hb0
    have hBO := BegOut.start (w := w2) w.heap.size q2 q2.size
    obtain ⟨_, p0, p1, p2, p3, p4⟩ := hS2.c
    simp only [Nat.zero_add] at p1 p2 p3 p4
    go_upto_region 6 with (at_builtin; refine wpList_step (fun K hK => wpr_append_beg (by rfl) _ _ rfl w.heap.size w2 (.slice none 0 0) [] none 0 0 [] q hBO.own rfl rfl (by simp) hBO.size ?_); intro v7 w3 hown hg hat; refine hK _ _ ?_)
    have bg := below_new w2 (.cells #[.slice none 0 0, .int .u64 (q.at_ 0 : Nat), .int .u64 (q.at_ 1 : Nat), .int .u64 (q.at_ 2 : Nat), .int .u64 (q.at_ 3 : Nat), .int .u64 (q.at_ 4 : Nat)] 101)
    have hB3 := hBO.step (c := .slice none 0 0) (xs := []) (q := q) (Below.refl _ _) (fun w' _ _ => Ints.nil w') bg hown hg hat
    have hOn3 := hB3.begsV
    have hc3 := hB3.below
    have hz3 := hB3.size
    clear p0 p1 p2 p3 p4 hS2 hBO hown hg hat bg hB3
    go_wp2_with fail
    go_loopg [6, 7, 9] 9 (fun g v6 v7 x9 wr => ∃ (k : Nat) (bs : List (Value × List Int × SetL)) (cs : List (Value × List Int)), k + g = 9 ∧ x9 = .int .i64 (most - (k : Int)) ∧ WordsOut w.heap.size w wr v6 cs ∧ On (fun j => w.heap.size ≤ j ∧ some j ≠ v6.ownBlock) wr (fun w' => BegsV w' v7 bs) ∧ Level n s E t most k (bs.map (·.2)) ∧ Got n s E most k (bs.map (·.2)) 0 (cs.map (·.2)) ∧ cs.length ≤ 400 ∧ bs.length ≤ 10400)
    case atStart => exact ⟨0, _, [], by omega, by simp, WordsOut.start _ hc3 hz3, hOn3.weaken (fun j _ h => ⟨h, by simp [Value.ownBlock]⟩), hLv0, Got.start, by simp, by simp⟩
    case round =>
      clear hOn3 hc3 hz3 hLv0
      obtain ⟨k, bs, cs, hkg, rfl, hWo, hLe, hLv, hGo, hcs, hbs⟩ := hrel
      obtain ⟨g1, rfl⟩ : ∃ g1, g1 = gk := ⟨_, rfl⟩
      obtain ⟨al, cl, rfl⟩ := hLe.now.slice
      obtain ⟨ll, Hll⟩ : ∃ ll, Hid (bs.length = ll) := ⟨_, rfl⟩
      rw [Hll.out] at hLe hbs ⊢
      by_cases hl0 : ll = 0
      · subst hl0
        obtain rfl : bs = [] := List.length_eq_zero_iff.1 Hll.out
        have R : ListsW (ToEnd n s E 0) most (cs.map (·.2)) 0 := .inr ⟨by simpa using hcs, rfl, hGo.up, hGo.done hLv⟩
        have Rl := hWo.lists (by omega)
        have Rb := hWo.below
        clear hLe hLv hGo hWo
        go_wp2
        go_ret2
        exact ⟨_, _, _, rfl, Rl, R, Rb⟩
      · have hl1 : decide ((ll : Int) > 0) = true := by rw [decide_eq_true_eq]; omega
        have hk8 : (k : Int) ≤ most := by
          have h0 : 0 < bs.length := by have := Hll.out; omega
          obtain ⟨h1, r, _, h3⟩ := (hLv.mem bs[0].2.1).1 (List.mem_map.2 ⟨bs[0].2, List.mem_map_of_mem (List.getElem_mem h0), rfl⟩)
          simp only [List.length_append] at h3
          omega
        go_wp2_with fail
        go_loopg [6, 36] ll (fun g v6 x wq => ∃ (i : Nat) (cs : List (Value × List Int)), i + g = ll ∧ x = .int .i64 (i : Int) ∧ WordsOut w.heap.size w wq v6 cs ∧ On (fun j => w.heap.size ≤ j ∧ some j ≠ v6.ownBlock) wq (fun w' => BegsV w' (.slice al ll cl) bs) ∧ Got n s E most k (bs.map (·.2)) i (cs.map (·.2)) ∧ cs.length ≤ 400 + i)
        case atStart => exact ⟨0, cs, by omega, rfl, hWo, hLe, hGo, by omega⟩
        case round =>
          clear hWo hLe hGo hcs cs
          obtain ⟨i, cs, hig, rfl, hWo, hLe, hGo, hcs⟩ := hrel
          obtain ⟨wq, rfl⟩ : ∃ wq, wq = wr := ⟨_, rfl⟩
          by_cases hi : i < ll
          · have hi' : decide ((i : Int) < (ll : Int)) = true := by rw [decide_eq_true_eq]; omega
            have hiL : i < bs.length := by have := Hll.out; omega
            obtain ⟨b0, o0, rfl, hb0', d0, hu0, _, d1, d2', d3', d4', d5'⟩ := hLe.now.at hiL
            have d2 : wq.cell? ⟨b0, o0 + i * 6 + 2, none⟩ = _ := d2'
            have d3 : wq.cell? ⟨b0, o0 + i * 6 + 3, none⟩ = _ := d3'
            have d4 : wq.cell? ⟨b0, o0 + i * 6 + 4, none⟩ = _ := d4'
            have d5 : wq.cell? ⟨b0, o0 + i * 6 + 5, none⟩ = _ := d5'
            clear d2' d3' d4' d5'
            have Hu : Hid (On (fun j => w.heap.size ≤ j ∧ some j ≠ u6.ownBlock) wq (fun w' => Ints w' bs[i].1 bs[i].2.1)) := hLe.mono (fun w' h => (h.at hiL).choose_spec.choose_spec.2.2.2.1)
            have hat := hLv.at_ bs[i].2 (List.mem_map_of_mem (List.getElem_mem hiL))
            have hlen : bs[i].2.1.length = k := ((hLv.mem bs[i].2.1).1 (List.mem_map.2 ⟨bs[i].2, List.mem_map_of_mem (List.getElem_mem hiL), rfl⟩)).1
            have HgA : Hid (ToEnd n s E 0 bs[i].2.1 → Got n s E most k (bs.map (·.2)) (i + 1) (cs.map (·.2) ++ [bs[i].2.1])) := fun h => by
              have hi2 : i < (bs.map (·.2)).length := by simpa using hiL
              have := hGo.add hLv hi2 (by simpa using h)
              simpa using this
            have HgS : Hid (¬ ToEnd n s E 0 bs[i].2.1 → Got n s E most k (bs.map (·.2)) (i + 1) (cs.map (·.2))) := fun h => by
              have hi2 : i < (bs.map (·.2)).length := by simpa using hiL
              exact hGo.skip hi2 (by simpa using h)
            obtain ⟨⟨xu, xs, xq⟩, HX⟩ : ∃ X, Hid (bs[i] = X) := ⟨bs[i], (rfl : bs[i] = bs[i])⟩
            rw [HX.out] at d0 hu0 d1 d2 d3 d4 d5 Hu hat hlen HgA HgS
            simp only at d0 hu0 d1 d2 d3 d4 d5 Hu hat hlen HgA HgS
            obtain ⟨xa, xl, xc, rfl, _⟩ := id hu0
            have bx := below_new wq (.cells #[.slice xa xl xc, .int .u64 (xq.at_ 0 : Nat), .int .u64 (xq.at_ 1 : Nat), .int .u64 (xq.at_ 2 : Nat), .int .u64 (xq.at_ 3 : Nat), .int .u64 (xq.at_ 4 : Nat)] 101)
            have hx1 : BegBox (wq.alloc (.cells #[.slice xa xl xc, .int .u64 (xq.at_ 0 : Nat), .int .u64 (xq.at_ 1 : Nat), .int .u64 (xq.at_ 2 : Nat), .int .u64 (xq.at_ 3 : Nat), .int .u64 (xq.at_ 4 : Nat)] 101)) wq.heap.size (.slice xa xl xc) xq := heap_alloc_at _ _
            obtain ⟨w4, Hw4⟩ : ∃ w4, Hid (wq.alloc (.cells #[.slice xa xl xc, .int .u64 (xq.at_ 0 : Nat), .int .u64 (xq.at_ 1 : Nat), .int .u64 (xq.at_ 2 : Nat), .int .u64 (xq.at_ 3 : Nat), .int .u64 (xq.at_ 4 : Nat)] 101) = w4) := ⟨_, rfl⟩
            rw [Hw4.out] at bx hx1
            have hW4 := hWo.to bx
            have hL4 := hLe.below bx
            have hU4 := Hu.out.below bx
            go_upto_region 12 with fail
            rw [Hw4.out]
            clear Hw4 d0 d1 d2 d3 d4 d5 hu0 Hu
            obtain ⟨y0, y1, y2, y3, y4, y5⟩ := hx1.cells
            go_wp2_with fail
            refine (mayEnd_any T bn lv t xq w4 (hT.below hW4.below) (hTab.below hW4.below) (fun m h1 h2 => by rw [hsz]; exact hat.lt hW m h1 h2)).mono ?_
            rintro e w5 ⟨b, rfl, hEn, b5⟩
            have hE := hat.ends hW hN (by rw [hlen]; exact hk8) hTk hEn
            have hW5 := hW4.to b5
            have hL5 := hL4.below b5
            have hU5 := hU4.below b5
            have hx5 := hx1.below b5
            clear y0 y1 y2 y3 y4 y5 hW4 hL4 hU4 hx1 hWo hLe hGo
            cases b
            · have hG5 := HgS.out (fun h => by have := hE.2 h; cases this)
              go_wp2
              go_roundg (gk - 1)
              case measure => omega
              case rel => exact ⟨i + 1, cs, by omega, by go_num, hW5, hL5, hG5, by omega⟩
            · have hG5 := HgA.out (hE.1 rfl)
              obtain ⟨y0, _⟩ := hx5.cells
              have bl := below_new w5 (.cells #[.slice xa xl xc] 25)
              have hfz : ∀ (a b : Field), [a, b][0]? = some a := fun _ _ => rfl
              go_wp2_with (at_builtin; refine wpList_step (fun K hK => wpr_append_word (by rfl) _ _ rfl w.heap.size w5 u6 cs xa xl xc hW5.own rfl rfl (by omega) hW5.size ?_); intro v6 w6 hown hg hatt; refine hK _ _ ?_)
              have hW6 := (hW5.to bl).step (hU5.below bl) hown hg hatt
              have hL6 := (hL5.below bl).row_grown hg hatt
              clear hW5 hL5 hU5 hx5 y0 hown hg hatt bl
              go_roundg (gk - 1)
              case measure => omega
              case rel => exact ⟨i + 1, _, by omega, by go_num, hW6, hL6, by rw [List.map_append]; exact hG5, by simp; omega⟩
          · obtain rfl : i = ll := by omega
            clear hi
            have hkk : decide ((i : Int) < (i : Int)) = false := by simp
            have hov := fun b (e : u6.ownBlock = some b) => ownsRow_lt hWo.own e
            obtain ⟨a6, l6, c6, rfl⟩ := ownsRow_slice hWo.own
            have hl6 : l6 = cs.length := row_lenT hWo.own
            subst hl6
            have HL : Hid _ := hLv
            have hGi : Got n s E most k (bs.map (·.2)) (bs.map (·.2)).length (cs.map (·.2)) := by rw [List.length_map, Hll.out]; exact hGo
            have Rb := hWo.below
            by_cases hf1 : cs.length > 400
            · have t1 : decide (((cs.length : Nat) : Int) > 400) = true := by rw [decide_eq_true_eq]; omega
              have R : ListsW (ToEnd n s E 0) most [] 4 := .inl ⟨got_full hGi (by simpa using hf1), rfl, rfl⟩
              go_wp2
              go_ret2
              exact ⟨_, [], 4, rfl, ⟨none, 0, 0, rfl, rfl, by omega, ⟨by omega, by omega, fun _ => rfl⟩, fun j hj => absurd hj (by simp)⟩, R, Rb⟩
            · have t1 : decide (((cs.length : Nat) : Int) > 400) = false := by rw [decide_eq_false_iff_not]; omega
              by_cases hf2 : i > 400
              · have t2 : decide ((i : Int) > 400) = true := by rw [decide_eq_true_eq]; omega
                have R : ListsW (ToEnd n s E 0) most [] 4 := .inl ⟨level_full HL.out (by rw [List.length_map, Hll.out]; exact hf2), rfl, rfl⟩
                go_wp2
                go_ret2
                exact ⟨_, [], 4, rfl, ⟨none, 0, 0, rfl, rfl, by omega, ⟨by omega, by omega, fun _ => rfl⟩, fun j hj => absurd hj (by simp)⟩, R, Rb⟩
              · have t2 : decide ((i : Int) > 400) = false := by rw [decide_eq_false_iff_not]; omega
                have hBg : Begs wq (.slice al i cl) (bs.map (·.2)) := hLe.now.begs
                go_wp2_with fail
                refine (longer_any T bn lv (.slice al i cl) t n S E s most k (bs.map (·.2)) wq (hT.below hWo.below) (hTab.below hWo.below) hW hN hok hTk hm HL.out hk8 (by rw [List.length_map, Hll.out]; omega) hBg).mono ?_
                rintro e w5 ⟨r, bs', rfl, hOn', hLv', hbl', b5⟩
                have hW5 := hWo.to b5
                have hL5 : On (fun j => w.heap.size ≤ j ∧ some j ≠ (Value.slice a6 cs.length c6).ownBlock) w5 (fun w' => BegsV w' r bs') := hOn'.weaken (fun j _ hj => ⟨Nat.le_trans hWo.size hj, fun e => by have := hov j e.symm; omega⟩)
                have hG5 := hGi.next (M := bs'.map (·.2)) HL.out
                clear hWo hLe hGo hGi hOn' hBg
                go_wp2
                go_roundg (g1 - 1)
                case measure => omega
                case rel => exact ⟨k + 1, bs', cs, by omega, by go_num, hW5, hL5, hLv', hG5, by omega, hbl'⟩
  · have hb0 : ¬ BeginI n s E most [] := fun h => by rw [hsome.2 h] at hem; cases hem
    have hLv0 := level_none (S := S) (t := t) hb0
    have R : ListsW (ToEnd n s E 0) most [] 0 := .inr ⟨by simp, rfl, List.Pairwise.nil, fun x => ⟨fun h => by simp at h, fun h => absurd ⟨x, by simpa using h.1, by simpa using h.2⟩ hb0⟩⟩
    go_wp2_with fail
    go_loopg [6, 7, 9] 9 (fun g v6 v7 x9 wr => v6 = .slice none 0 0 ∧ v7 = .slice none 0 0 ∧ wr = w2)
    case atStart => exact ⟨rfl, rfl, rfl⟩
    case round =>
      obtain ⟨rfl, rfl, rfl⟩ := hrel
      go_wp2
      go_ret2
      exact ⟨_, [], 0, rfl, ⟨none, 0, 0, rfl, rfl, by omega, ⟨by omega, by omega, fun _ => rfl⟩, fun j hj => absurd hj (by simp)⟩, R, q2⟩

end Go.Proofs.YtakgppoeikcepaaDoor

/- Package tongue as it landed: Words. -/
namespace Go.Proofs.YtakgppoeikcepaaDoor
open Go.RowKit
set_option linter.unusedVariables false
set_option maxRecDepth 4000

theorem lists_none (w : World) : Lists w (.slice none 0 0) [] := ⟨none, 0, 0, rfl, rfl, by omega, ⟨by omega, by omega, fun _ => rfl⟩, fun j hj => absurd hj (by simp)⟩

set_option maxRecDepth 100000 in
set_option maxHeartbeats 4000000 in
theorem tongue_words (v : Value) (n : NetL) (i o most : Int) (w : World) (hv : Net w v n) (hTab : Tab w) :
    Calls Tryd.prog 8 #[v, .int .i64 i, .int .i64 o, .int .i64 most] w fun e w' => ∃ r l d, e = .returned (.tuple #[r, .int .i64 d]) ∧ (Lists w' r l ∧ WordsAns n i o most l d) ∧ Below w.heap.size w w' := by
  obtain ⟨tv, rfl, hT⟩ := hv
  have c : Below w.heap.size w (w.alloc (.cells #[.int .i64 n.places, tv] 24)) := below_new _ _
  have hbx := box2_new w (.int .i64 n.places) tv 24
  obtain ⟨w0, Hw0⟩ : ∃ w0, Hid (w.alloc (.cells #[.int .i64 n.places, tv] 24) = w0) := ⟨_, rfl⟩
  rw [Hw0.out] at c hbx
  have hv : Net w0 (.agg #[.int .i64 n.places, tv]) n := ⟨_, rfl, hT.below c⟩
  obtain ⟨x0, x1, x2⟩ := id hbx
  go_enter Tryd.func8, Tryd.ntmps8
  go_upto_region 1 with fail
  rw [Hw0.out]
  clear Hw0
  go_wp2_with fail
  clear x0 x1 x2
  refine (heard_any _ n i o _ (by exact hv)).mono ?_
  rintro e w1 ⟨p, d, rfl, hH, b⟩
  have HE := heard_err hH
  replace c := below_then c b
  clear b hv hbx
  rcases hH with ⟨hd0, rfl, _⟩ | ⟨rfl, hS, s, hG, T, bn, lv, t, rfl, hTa, hTk⟩
  · have hdd : (d != 0) = true := by simpa using hd0
    go_wp2
    go_ret2
    exact ⟨_, [], d, rfl, ⟨lists_none _, ⟨d, HE, fun _ => ⟨rfl, rfl⟩, fun h => absurd h hd0⟩⟩, c⟩
  · have hW := graphL_whole hG
    have hN : s.marks.length ≤ 300 := by have := graphL_small n (startL n.places i) 300; rw [hG] at this; exact this
    have hwd : ∀ ws, ToEnd n s (startL n.places o) 0 ws ↔ WordI n i o ws := fun ws => hW.word.symm
    by_cases hm : 0 ≤ most ∧ most ≤ 8
    · have t1 : decide (most < 0) = false := by rw [decide_eq_false_iff_not]; omega
      have t2 : decide (most > 8) = false := by rw [decide_eq_false_iff_not]; omega
      go_wp2_with fail
      refine (listed_any T bn lv t n (startL n.places i) (startL n.places o) s most w1 hTa (hTab.below c) hW hN hS.ok hTk hm).mono ?_
      rintro e w2 ⟨r, l, d, rfl, hl, hA, b2⟩
      go_wp2
      go_ret2
      exact ⟨r, l, d, rfl, ⟨hl, ⟨0, HE, fun h => absurd rfl h, fun _ => ⟨fun h => absurd hm h, fun _ => hA.congr hwd⟩⟩⟩, below_then c b2⟩
    · have R : WordsAns n i o most [] 2 := ⟨0, HE, fun h => absurd rfl h, fun _ => ⟨fun _ => ⟨rfl, rfl⟩, fun h => absurd h hm⟩⟩
      by_cases h1 : most < 0
      · have t1 : decide (most < 0) = true := by simpa using h1
        go_wp2
        go_ret2
        exact ⟨_, [], 2, rfl, ⟨lists_none _, R⟩, c⟩
      · have t1 : decide (most < 0) = false := by simpa using h1
        have t2 : decide (most > 8) = true := by rw [decide_eq_true_eq]; omega
        clear h1
        go_wp2
        go_ret2
        exact ⟨_, [], 2, rfl, ⟨lists_none _, R⟩, c⟩

end Go.Proofs.YtakgppoeikcepaaDoor
