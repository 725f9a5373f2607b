/- Package cover as it landed: lift, walked. -/
import Derived.Test.YtbpkebkblkjdhaaCoverDev4
namespace Go.Proofs.Ytbpkebkblkjdhaa
open Go.RowKit Go.Shelf
set_option linter.unusedVariables false

attribute [local go_sem] Oper.semAt_some

/-- What holds at the head of lift's loop. -/
def LiftI (W0 w : World) (g n cap : Nat) (mine : List (List Int)) (zs : List Int) (k b6 : Nat) (ds : List Deferred) (wr : World) : Prop :=
  ∃ (c : Bool) (z : List Int) (Ds : List Nat), k = 2 * fewF z + (if c then 1 else 0) ∧ wr.heap[b6]? = some (.cells #[.bool c] 4 (0, 0)) ∧ w.heap.size < b6 ∧
    wr.heap[w.heap.size]? = some (.cells #[.slice (some ⟨g, 0, none⟩) n cap] 25 (0, 0)) ∧ Own W0.heap.size W0 wr (.slice (some ⟨g, 0, none⟩) n cap) z ∧ Comes5 mine zs z ∧ (c = false → Still mine z) ∧ OnlyB g w wr ∧ Marked w.heap.size ds Ds wr ∧ z.length = n

theorem lift_start {W0 w : World} {g n cap : Nat} {zs : List Int} {mine : List (List Int)} (hO : Own W0.heap.size W0 w (.slice (some ⟨g, 0, none⟩) n cap) zs) (hn : zs.length = n) :
    ∃ w1, Hid (((w.alloc (.cells #[.slice (some ⟨g, 0, none⟩) n cap] 25)).alloc (.cells #[.bool true] 4)) = w1) ∧ LiftI W0 w g n cap mine zs (2 * fewF zs + 1) (w.heap.size + 1) [] w1 := by
  obtain ⟨hl1, hl2⟩ := hO.lt
  have b1 := below_new w (.cells #[.slice (some ⟨g, 0, none⟩) n cap] 25)
  have b2 := below_new (w.alloc (.cells #[.slice (some ⟨g, 0, none⟩) n cap] 25)) (.cells #[.bool true] 4)
  have hx := heap_alloc_at (w.alloc (.cells #[.slice (some ⟨g, 0, none⟩) n cap] 25)) (.cells #[.bool true] 4)
  have hy : ((w.alloc (.cells #[.slice (some ⟨g, 0, none⟩) n cap] 25)).alloc (.cells #[.bool true] 4)).heap[w.heap.size]? = some (.cells #[.slice (some ⟨g, 0, none⟩) n cap] 25 (0, 0)) := by
    rw [b2.block w.heap.size (by simp), heap_alloc_at]
  simp only [World.size_alloc] at hx
  have b3 := below_then b1 b2
  exact ⟨_, rfl, true, zs, [], rfl, hx, by omega, hy, hO.trans b3, .here, by simp, ⟨b3.mono (by omega), b3.size, fun k hk _ => b3.block k hk⟩, ⟨rfl, List.nodup_nil, by simp⟩, hn⟩

theorem lift_round {wr : World} {b6 x : Nat} {up : Int} {c : Bool} (h : wr.heap[b6]? = some (.cells #[.bool c] 4 (0, 0))) :
    ∃ w5, Hid ((((wr.setCell ⟨b6, 0, none⟩ (.bool false)).alloc (.cells #[.pointer (some ⟨x, 0, none⟩)] 76)).alloc (.cells #[.int .i64 up] 3)) = w5) ∧ w5.heap.size = wr.heap.size + 2 ∧ w5.heap[b6]? = some (.cells #[.bool false] 4 (0, 0)) ∧
      Below b6 wr w5 ∧ (∀ k, k < wr.heap.size → k ≠ b6 → w5.heap[k]? = wr.heap[k]?) ∧ w5.heap[wr.heap.size]? = some (.cells #[.pointer (some ⟨x, 0, none⟩)] 76 (0, 0)) ∧ w5.cell? ⟨wr.heap.size + 1, 0, none⟩ = some (.int .i64 up) := by
  have hlt : b6 < wr.heap.size := (Array.getElem?_eq_some_iff.1 h).1
  obtain ⟨w2, hw2⟩ : ∃ w2, wr.setCell ⟨b6, 0, none⟩ (.bool false) = w2 := ⟨_, rfl⟩
  have hs : w2.heap.size = wr.heap.size := by rw [← hw2]; simp [World.setCell]
  have h2 : w2.heap[b6]? = some (.cells #[.bool false] 4 (0, 0)) := by rw [← hw2]; exact setBox h
  have hb2 : Below b6 wr w2 := by rw [← hw2]; exact (Below.refl _ _).setCell (p := ⟨b6, 0, none⟩) (Nat.le_refl _) _
  have ho : ∀ k, k ≠ b6 → w2.heap[k]? = wr.heap[k]? := fun k hk => by rw [← hw2]; exact Below.heap_setCell _ _ _ _ hk
  rw [hw2]
  have b1 := below_new w2 (.cells #[.pointer (some ⟨x, 0, none⟩)] 76)
  have b2 := below_new (w2.alloc (.cells #[.pointer (some ⟨x, 0, none⟩)] 76)) (.cells #[.int .i64 up] 3)
  have b3 := below_then b1 b2
  refine ⟨_, rfl, by simp [hs], (b3.block b6 (by omega)).trans h2, hb2.trans (b3.mono (by omega)), fun k hk hne => (b3.block k (by omega)).trans (ho k hne), ?_, ?_⟩
  · rw [← hs, b2.block w2.heap.size (by simp), heap_alloc_at]
  · have := cell_new_k (w2.alloc (.cells #[.pointer (some ⟨x, 0, none⟩)] 76)) (.int .i64 up) 3
    simpa [hs] using this

set_option maxRecDepth 100000 in
set_option maxHeartbeats 2000000 in
theorem tree_lift (W0 w : World) (x : Nat) (M : Int) (s : List KnotX) (kv : Value) (hT : TreeR W0 x M s kv) (hL : Linked s) (up : Nat) (hup : up < s.length) (hsl : s.length ≤ 300) (g n cap : Nat) (zs : List Int)
    (hO : Own W0.heap.size W0 w (.slice (some ⟨g, 0, none⟩) n cap) zs) (hn : zs.length = n) (hsz : ∀ y ∈ upMarks s up, y.length = n) (hn16 : n ≤ 16) :
    Calls Try.prog 46 #[.pointer (some ⟨x, 0, none⟩), .slice (some ⟨g, 0, none⟩) n cap, .int .i64 up] w fun e w' =>
      (∃ v, e = .returned v) ∧ ∃ z, Comes5 (upMarks s up) zs z ∧ Still (upMarks s up) z ∧ Own W0.heap.size W0 w' (.slice (some ⟨g, 0, none⟩) n cap) z ∧ OnlyB g w w' := by
  refine (callsIn_wide (n := 5)).1 ?_
  refine callsIn_of_wp_marks Try.func46 rfl trivial ?_ rfl
  simp only [Try.ntmps46, List.size_toArray, List.length_cons, List.length_nil, Nat.reduceAdd, Nat.reduceSub, Array.replicate_succ, Array.replicate_zero, List.push_toArray, List.append_toArray, List.nil_append, List.cons_append]
  refine wpIn_wide.2 ?_
  obtain ⟨w1, Hw1, hI1⟩ := lift_start (mine := upMarks s up) hO hn
  go_wp2_with fail
  rw [Hw1.out]
  refine wp_loop_ghost_k (fun k a wr => ∃ (u7 u8 u9 u10 u11 u12 u13 u14 u15 u16 u17 u18 u19 u20 u21 : Value) (b6 : Nat) (ds : List Deferred), LiftI W0 w g n cap (upMarks s up) zs k b6 ds wr ∧
    a = { tmps := #[.pointer (some ⟨x, 0, none⟩), .slice (some ⟨g, 0, none⟩) n cap, .int .i64 up, undef, .pointer (some ⟨w.heap.size, 0, none⟩), undef, .pointer (some ⟨b6, 0, none⟩), u7, u8, u9, u10, u11, u12, u13, u14, u15, u16, u17, u18, u19, u20, u21], defers := ds }) (2 * fewF zs + 1) ?_ ?_
  · exact ⟨_, _, _, _, _, _, _, _, _, _, _, _, _, _, _, _, _, hI1, rfl⟩
  · rintro k _ wr ⟨u7, u8, u9, u10, u11, u12, u13, u14, u15, u16, u17, u18, u19, u20, u21, b6, ds, hI, rfl⟩ J K hJ hK
    clear hI1 Hw1
    obtain ⟨c, z, Ds, hk, hb6, hlt6, hb4, hOr, hCo, hSt, hOn, hMk, hzl⟩ := hI
    obtain ⟨e6, f6⟩ := box_cell hb6
    obtain ⟨e4, f4⟩ := box_cell hb4
    cases c
    · have Hend : Hid (∀ W, Own W0.heap.size W0 W (.slice (some ⟨g, 0, none⟩) n cap) z ∧ OnlyB g w W → ∃ z, Comes5 (upMarks s up) zs z ∧ Still (upMarks s up) z ∧ Own W0.heap.size W0 W (.slice (some ⟨g, 0, none⟩) n cap) z ∧ OnlyB g w W) :=
        fun W h => ⟨z, hCo, hSt rfl, h.1, h.2⟩
      have hgw : W0.heap.size ≤ g ∧ g < w.heap.size := ⟨hOr.lt.1, hO.lt.2⟩
      clear hk hSt hCo hT hL
      go_wp2
      refine leaves_marks (B := w.heap.size) (fun W => Own W0.heap.size W0 W (.slice (some ⟨g, 0, none⟩) n cap) z ∧ OnlyB g w W) ?_ ?_ hMk ⟨hOr, hOn⟩
      · rintro W D hD hW ⟨q1, q2⟩
        have hne : g ≠ D := by omega
        refine ⟨q1.grown (grownBy_putObj' W D _) (fun r e => by cases e; exact ⟨by omega, _, hW, rfl⟩), ⟨q2.below.trans (belowK_b (w := w) (by omega) W D _ _ hD hW rfl rfl), by simpa using q2.size, fun k hk hne => (World.putObj_heap_other (by omega)).trans (q2.block k hk hne)⟩⟩
      · intro W hW
        exact ⟨_, results_none rfl _ _ _, ⟨_, rfl⟩, Hend.out W hW⟩
    · have Hk : Hid (k = 2 * fewF z + 1) := hk
      clear hk hSt
      obtain ⟨w5, Hw5, hs5, hb6', hB5, ho5, hbt5, hck5⟩ := lift_round (x := x) (up := (up : Int)) hb6
      go_wp2_with fail
      refine (marksUp_any x up _).mono ?_
      rintro e w2 ⟨rfl, rfl⟩
      go_wp2_with fail
      rw [Hw5.out]
      have hgw : W0.heap.size ≤ g ∧ g < w.heap.size := ⟨hOr.lt.1, hO.lt.2⟩
      have hw0 : W0.heap.size ≤ w.heap.size := hO.2.2
      have hlt6' : b6 < wr.heap.size := (Array.getElem?_eq_some_iff.1 hb6).1
      have hO5 : Own W0.heap.size W0 w5 (.slice (some ⟨g, 0, none⟩) n cap) z := hOr.keep (hB5.mono (by omega)) (ho5 g hOr.lt.2 (by omega))
      have h45 : w5.heap[w.heap.size]? = some (.cells #[.slice (some ⟨g, 0, none⟩) n cap] 25 (0, 0)) := (ho5 _ (Array.getElem?_eq_some_iff.1 hb4).1 (by omega)).trans hb4
      have hMk5 : Marked w.heap.size ds Ds w5 := hMk.to fun k o hk ho => (ho5 k (Array.getElem?_eq_some_iff.1 hk).1 (fun e => by subst e; rw [hb6] at hk; injection hk with hk; subst hk; cases ho)).trans hk
      have hDs : ∀ D ∈ Ds, D < w5.heap.size := fun D hD => (Array.getElem?_eq_some_iff.1 (hMk5.all D hD).2).1
      have hOn5 : ∀ k, k < w.heap.size → k ≠ g → w5.heap[k]? = w.heap[k]? := fun k hk hne => (ho5 k (Nat.lt_of_lt_of_le hk hOn.size) (by omega)).trans (hOn.block k hk hne)
      have hs1 := hOn.size
      obtain ⟨cur, hgc⟩ := hO5.row
      clear Hw5 hb6 hb4 e6 f6 e4 f4 hOr hB5 ho5 hMk hOn
      refine (wpIn_wide (n := 5)).1 ?_
      refine wpIn_rangeFunc_ownF rfl (by omega) (gf := 55) (lb := #[.pointer (some ⟨wr.heap.size + 1, 0, none⟩), .pointer (some ⟨wr.heap.size, 0, none⟩)]) rfl trivial (enters_of Try.func55 (by kernel_rfl) rfl)
        (marksUp_stops (5 - 1) (by omega) W0 x M s _ hT hL (up : Int) ⟨by omega, by omega⟩ hsl (fun y => y.length = n) hsz (wr.heap.size + 1) wr.heap.size w5 hO5.2.1 hck5 hbt5) keepT_t (keepT_b (by omega) (by omega)) (Below.refl _ _) (fun _ => rfl)
        (fun pre W => (∃ b : Bool, W.heap[b6]? = some (.cells #[.bool b] 4 (0, 0)) ∧ Own W0.heap.size W0 W (.slice (some ⟨g, 0, none⟩) n cap) (raiseAll (marksOf pre) z) ∧ (b = false ↔ raiseAll (marksOf pre) z = z)) ∧ Only2 g b6 w5 W)
        (fun _ _ _ => False)
        (OwnFrom.and (fun pre A B row hs hg hr => by
          obtain ⟨b, h1, h2, h3⟩ := hs
          refine ⟨b, ?_, h2.grown hg (fun r e => ⟨by have := (hr r e).1; omega, (hr r e).2⟩), h3⟩
          rw [hg.block b6 (Array.getElem?_eq_some_iff.1 h1).1 (fun e => by
            obtain ⟨_, o, q1, q2⟩ := hr b6 e.symm
            rw [h1] at q1
            injection q1 with q1
            subst q1
            cases q2)]
          exact h1) (only2_own (Nat.le_refl _)))
        (fun _ _ _ _ _ hs _ _ => hs)
        ⟨⟨false, hb6', hO5, ⟨fun _ => rfl, fun _ => rfl⟩⟩, Nat.le_refl _, fun _ _ _ _ => rfl⟩
        (fun y => { tmps := #[.pointer (some ⟨x, 0, none⟩), .slice (some ⟨g, 0, none⟩) n cap, .int .i64 up, undef, .pointer (some ⟨w.heap.size, 0, none⟩), undef, .pointer (some ⟨b6, 0, none⟩), y.1.1, .bool true, .pointer (some ⟨x, 0, none⟩), .int .i64 up, .func (.func 55) #[] #[.pointer (some ⟨wr.heap.size + 1, 0, none⟩), .pointer (some ⟨wr.heap.size, 0, none⟩)], y.1.1, u13, u14, u15, u16, u17, u18, u19, u20, u21], defers := [] }) ?assign ?body ?done ?stop
      case assign =>
        intro l y W K hK
        gi_wp2
        exact hK
      case stop =>
        rintro D c pre W _ _ h _
        exact h.elim
      case done =>
        rintro D ys W hD hys ⟨⟨b, h1, h2, h3⟩, h4⟩ hKD
        rw [hys] at h2 h3
        obtain ⟨e6, f6⟩ := box_cell h1
        have hs2 := h4.1
        have hC : Hid (LiftI W0 w g n cap (upMarks s up) zs (2 * fewF (raiseAll (upMarks s up) z) + (if b then 1 else 0)) W.heap.size ({ target := .collected D, args := #[] } :: ds) (W.alloc (.cells #[.bool b] 4))) := by
          have bn := below_new W (.cells #[.bool b] 4)
          refine ⟨b, raiseAll (upMarks s up) z, D :: Ds, rfl, heap_alloc_at _ _, by omega, ?_, h2.trans bn, comes_all _ (fun _ h => h) hCo, fun e => by rw [h3.1 e]; exact all_still (h3.1 e), ⟨?_, by simp; omega, ?_⟩, ?_, by rw [(raiseAll_raised _ _).1]; exact hzl⟩
          · rw [bn.block w.heap.size (by omega), h4.2 w.heap.size (by omega) (by omega) (by omega)]; exact h45
          · have q1 := hO.2.1
            have q2 := h2.2.1
            refine ⟨(q2.os.trans q1.os.symm), (q2.tape.trans q1.tape.symm), (q2.output.trans q1.output.symm), by simp; omega, fun k hk => ?_⟩
            rw [bn.block k (by omega), h4.2 k (by omega) (by omega) (by omega)]
            exact hOn5 k (by omega) (by omega)
          · intro k hk hne
            rw [bn.block k (by omega), h4.2 k (by omega) hne (by omega)]
            exact hOn5 k hk hne
          · refine Marked.cons (hMk5.to fun k o hk ho => ?_) (by omega) (fun h => by have := hDs D h; omega) ?_
            · have hkl := (Array.getElem?_eq_some_iff.1 hk).1
              rw [bn.block k (by omega), h4.2 k hkl (fun e => by subst e; rw [hgc] at hk; injection hk with hk; subst hk; cases ho) (fun e => by subst e; rw [hb6'] at hk; injection hk with hk; subst hk; cases ho)]
              exact hk
            · rw [bn.block D (Array.getElem?_eq_some_iff.1 hKD).1]; exact hKD
        have hM : Hid (2 * fewF (raiseAll (upMarks s up) z) + (if b then 1 else 0) < k) := by
          show _ < _
          rw [Hk.out]
          cases b
          · rw [h3.1 rfl]; simp
          · have := few_lt (raiseAll_raised (upMarks s up) z) (fun e => by have := h3.2 e; cases this)
            simp; omega
        clear h2 h3 hck5 hbt5 h45 hMk5 hDs hOn5 hO5
        go_wp2
        refine Handed.intro _ hM.out (hJ _ _ _ ⟨_, _, _, _, _, _, _, _, _, _, _, _, _, _, _, _, _, hC.out, rfl⟩)
      case body =>
        rintro l pre y W ⟨⟨b, h1, h2, h3⟩, h4⟩ _
        have hsn := marksOf_snoc pre y
        have hyl : y.1.2.length = n := y.2.2
        obtain ⟨zc, Hzc⟩ : ∃ zc, Hid (raiseAll (marksOf pre) z = zc) := ⟨_, rfl⟩
        have Hnx : Hid (raiseAll (marksOf (pre ++ [y])) z = raise1 y.1.2 zc) := by show _ = _; rw [hsn, raiseAll_snoc, Hzc.out]
        rw [Hzc.out] at h2 h3
        have hzcl : zc.length = n := by rw [← Hzc.out, (raiseAll_raised _ _).1]; exact hzl
        have hyW : Ints W y.1.1 y.1.2 := y.2.1.below h2.2.1
        have hmW : Ints W (.slice (some ⟨g, 0, none⟩) n cap) zc := h2.ints (by omega)
        have hs2 := h4.1
        obtain ⟨e6, f6⟩ := box_cell h1
        have hb4W : W.heap[w.heap.size]? = some (.cells #[.slice (some ⟨g, 0, none⟩) n cap] 25 (0, 0)) := (h4.2 w.heap.size (by omega) (by omega) (by omega)).trans h45
        obtain ⟨e4, f4⟩ := box_cell hb4W
        obtain ⟨curW, hgW⟩ := h2.row
        have Hr1 : Hid (Raised z zc) := by show Raised _ _; rw [← Hzc.out]; exact raiseAll_raised _ _
        clear hsn Hzc
        cases hbl : belowL y.1.2 zc
        · have E : Hid (raise1 y.1.2 zc = zc) := by show _ = _; rw [raise1, hbl]; rfl
          rw [E.out] at Hnx
          gi_wp2_with (refine ⟨trivial, ?_⟩; gi_at_call 44; refine (CallsIn.inRound l (callsIn_wide.2 (cbelow_any y.1.1 _ y.1.2 zc _ hyW hmW (by omega)))).mono ?_; rintro e w' ⟨rfl, m, rfl⟩; rw [hbl])
          refine ⟨trivial, ?_⟩
          have hbd : Below W.heap.size W (W.drewN m) := below_drewN (Below.refl _ _) m
          have R1 : Hid (KeepsOthers W (W.drewN m)) := keepsOthers_drewN W m
          have R2 : Hid (KeepT W0.heap.size wr.heap.size W (W.drewN m)) := ⟨hbd.mono h2.2.2, by simp⟩
          have R3 : Hid ((W.drewN m).heap[b6]? = some (.cells #[.bool b] 4 (0, 0))) := by show _ = _; simpa using h1
          have R4 : Hid (Own W0.heap.size W0 (W.drewN m) (.slice (some ⟨g, 0, none⟩) n cap) (raiseAll (marksOf (pre ++ [y])) z)) := by show Own _ _ _ _ _; rw [Hnx.out]; exact h2.trans hbd
          have R5 : Hid (b = false ↔ raiseAll (marksOf (pre ++ [y])) z = z) := by show _ ↔ _; rw [Hnx.out]; exact h3
          have R6 : Hid (Only2 g b6 w5 (W.drewN m)) := h4.trans (Only2.ofB (OnlyB.drewN g W m))
          obtain ⟨wd, Hwd⟩ : ∃ wd, Hid (W.drewN m = wd) := ⟨_, rfl⟩
          rw [Hwd.out] at R1 R2 R3 R4 R6 ⊢
          clear h1 h2 h3 h4 hyW hmW e6 f6 e4 f4 hb4W hgW Hwd hbd
          gi_wp2
          exact ⟨R1.out, R2.out, ⟨b, R3.out, R4.out, R5.out⟩, R6.out⟩
        · have E : Hid (raise1 y.1.2 zc = mapTo n (raiseAt y.1.2 zc)) := by show _ = _; rw [raise1_below hbl, hzcl]
          rw [E.out] at Hnx
          gi_wp2_with (refine ⟨trivial, ?_⟩; gi_at_call 44; refine (CallsIn.inRound l (callsIn_wide.2 (cbelow_any y.1.1 _ y.1.2 zc _ hyW hmW (by omega)))).mono ?_; rintro e w' ⟨rfl, m, rfl⟩; rw [hbl])
          refine ⟨trivial, ?_⟩
          have hbd : Below W.heap.size W (W.drewN m) := below_drewN (Below.refl _ _) m
          have K1 := keepsOthers_drewN W m
          have K2 := OnlyB.drewN g W m
          have h2d := h2.trans hbd
          have h1d : (W.drewN m).heap[b6]? = some (.cells #[.bool b] 4 (0, 0)) := by simpa using h1
          have htd : (W.drewN m).heap[wr.heap.size]? = W.heap[wr.heap.size]? := by simp
          have hwt : wr.heap.size < (W.drewN m).heap.size := by have := hbd.size; omega
          obtain ⟨wd, Hwd⟩ : ∃ wd, Hid (W.drewN m = wd) := ⟨_, rfl⟩
          rw [Hwd.out] at hbd K1 K2 h2d h1d htd hwt ⊢
          obtain ⟨curd, hgd⟩ := h2d.row
          have hb6d : b6 ≠ g := by omega
          clear h1 e6 f6 e4 f4 hb4W hgW Hwd hmW
          refine (CallsIn.inRound l (callsIn_wide.2 (coutgrow_any W0 wd g n cap zc y.1.2 y.1.1 h2d hzcl hyl y.2.1))).mono ?_
          rintro e w3 ⟨b2, rfl, hO3, hB3, hb3⟩
          have L1 := K1.trans (onlyB_others hB3 hgd)
          have L2 : KeepT W0.heap.size wr.heap.size W w3 := ⟨(hbd.mono h2.2.2).trans (hB3.below.mono hgw.1), (hB3.block _ hwt (by omega)).trans htd⟩
          have L3 : w3.heap[b6]? = some (.cells #[.bool b] 4 (0, 0)) := (hB3.block b6 (Array.getElem?_eq_some_iff.1 h1d).1 hb6d).trans h1d
          have L4 : Own W0.heap.size W0 w3 (.slice (some ⟨g, 0, none⟩) n cap) (raiseAll (marksOf (pre ++ [y])) z) := by rw [Hnx.out]; exact hO3
          have L6 : Only2 g b6 w5 w3 := h4.trans ((Only2.ofB K2).trans (Only2.ofB hB3))
          obtain ⟨c6, d6⟩ := box_cell L3
          cases b2
          · have R5 : Hid (b = false ↔ raiseAll (marksOf (pre ++ [y])) z = z) := by show _ ↔ _; rw [Hnx.out, hb3.1 rfl]; exact h3
            have HL : Hid _ := And.intro L1 (And.intro L2 (And.intro L3 (And.intro L4 L6)))
            clear h2 h3 h4 hyW hbd K1 K2 h2d h1d htd hgd hB3 hO3 hb3 L1 L2 L3 L4 L6
            gi_wp2
            obtain ⟨L1, L2, L3, L4, L6⟩ := HL.out
            exact ⟨L1, L2, ⟨b, L3, L4, R5.out⟩, L6⟩
          · have R5 : Hid (true = false ↔ raiseAll (marksOf (pre ++ [y])) z = z) := by
              refine ⟨fun h => (by cases h), fun h => ?_⟩
              rw [Hnx.out] at h
              have q1 := raised_few Hr1.out
              have q2 := raised_few (raise1_raised y.1.2 zc)
              rw [E.out, h] at q2
              have q3 : zc = z := q1.2 (by omega)
              rw [q3] at hb3 h
              exact hb3.2 (by rw [← q3]; rw [q3]; exact h)
            have M1 := L1.trans (KeepsOthers.setCell w3 ⟨b6, 0, none⟩ (.bool true))
            have M2 : KeepT W0.heap.size wr.heap.size W (w3.setCell ⟨b6, 0, none⟩ (.bool true)) := ⟨L2.1.setCell (p := ⟨b6, 0, none⟩) (by show W0.heap.size ≤ b6; omega) _, (Below.heap_setCell w3 ⟨b6, 0, none⟩ _ _ (by show wr.heap.size ≠ b6; omega)).trans L2.2⟩
            have M3 := setBox (u := .bool true) L3
            have M4 : Own W0.heap.size W0 (w3.setCell ⟨b6, 0, none⟩ (.bool true)) (.slice (some ⟨g, 0, none⟩) n cap) (raiseAll (marksOf (pre ++ [y])) z) := L4.keep ((Below.refl _ _).setCell (p := ⟨b6, 0, none⟩) (by show W0.heap.size ≤ b6; omega) _) (Below.heap_setCell w3 ⟨b6, 0, none⟩ _ _ (by show g ≠ b6; omega))
            have M6 := L6.trans (Only2.set g b6 w3 (.bool true))
            have HL : Hid _ := And.intro M1 (And.intro M2 (And.intro M3 (And.intro M4 M6)))
            clear h2 h3 h4 hyW hbd K1 K2 h2d h1d htd hgd hB3 hO3 hb3 L1 L2 L3 L4 L6 M1 M2 M3 M4 M6
            gi_wp2
            obtain ⟨L1, L2, L3, L4, L6⟩ := HL.out
            exact ⟨L1, L2, ⟨true, L3, L4, R5.out⟩, L6⟩

end Go.Proofs.Ytbpkebkblkjdhaa
