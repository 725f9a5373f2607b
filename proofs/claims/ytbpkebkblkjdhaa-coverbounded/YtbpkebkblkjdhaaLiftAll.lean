import Derived.RangeFuncBox
import Derived.Test.YtbpkebkblkjdhaaCoverDev2
/- Package cover as it landed: where a mark outgrew one that it comes of, it has Many. -/
namespace Go.Proofs.Ytbpkebkblkjdhaa
open Go.RowKit Go.Shelf
set_option linter.unusedVariables false

attribute [local go_sem] Oper.semAt_some

/-- Marks of loops over functions that have ended. -/
def markD (D : Nat) : Deferred := { target := .collected D, args := #[] }
structure Marked (B : Nat) (ds : List Deferred) (Ds : List Nat) (W : World) : Prop where
  eq : ds = Ds.map markD
  nodup : Ds.Nodup
  all : ∀ D ∈ Ds, B ≤ D ∧ W.heap[D]? = some (.deferred (some []))

theorem Marked.to {B : Nat} {ds : List Deferred} {Ds : List Nat} {W W' : World} (h : Marked B ds Ds W) (hk : ∀ (k : Nat) (o : Obj), W.heap[k]? = some o → o.isCells = false → W'.heap[k]? = some o) : Marked B ds Ds W' :=
  ⟨h.eq, h.nodup, fun D hD => ⟨(h.all D hD).1, hk D _ (h.all D hD).2 rfl⟩⟩
theorem Marked.cons {B D : Nat} {ds : List Deferred} {Ds : List Nat} {W : World} (h : Marked B ds Ds W) (hB : B ≤ D) (hD : D ∉ Ds) (hW : W.heap[D]? = some (.deferred (some []))) : Marked B ({ target := .collected D, args := #[] } :: ds) (D :: Ds) W :=
  ⟨by rw [h.eq]; rfl, List.nodup_cons.2 ⟨hD, h.nodup⟩, fun E hE => by
    rcases List.mem_cons.1 hE with rfl | hE
    · exact ⟨hB, hW⟩
    · exact h.all E hE⟩

/-- On the way out these marks are taken up. -/
theorem leaves_marks {n : Nat} {fn : Func} {tmps : Array Value} {R : Ending → World → Prop} {B : Nat} (Pr : World → Prop) (hPr : ∀ W D, B ≤ D → W.heap[D]? = some (.deferred (some [])) → Pr W → Pr (W.putObj D (.deferred none)))
    (hend : ∀ W, Pr W → ∃ v, (results fn tmps).run Try.prog W = .ok v W ∧ R (.returned v) W) :
    ∀ {Ds : List Nat} {ds : List Deferred} {W : World}, Marked B ds Ds W → Pr W → LeavesInM Fence.wide n Try.prog fn tmps R ds .returning W
  | [], ds, W, h, hW => by
    have e : ds = [] := h.eq
    subst e
    exact hend W hW
  | D :: Ds, ds, W, h, hW => by
    have e : ds = markD D :: Ds.map markD := h.eq
    subst e
    obtain ⟨h1, h2⟩ := h.all D (by simp)
    have hn := List.nodup_cons.1 h.nodup
    refine ⟨by simp, .inl ⟨D, _, rfl, run_takeDeferred h2, ?_⟩⟩
    refine leaves_marks Pr hPr hend (Ds := Ds) ⟨rfl, hn.2, fun E hE => ⟨(h.all E (by simp [hE])).1, ?_⟩⟩ (hPr W D h1 h2 hW)
    have hne : E ≠ D := by intro e; subst e; exact hn.1 hE
    exact (World.putObj_heap_other hne).trans (h.all E (by simp [hE])).2

/-- All but two blocks are as they were. -/
def Only2 (g b : Nat) (w w' : World) : Prop := w.heap.size ≤ w'.heap.size ∧ ∀ k, k < w.heap.size → k ≠ g → k ≠ b → w'.heap[k]? = w.heap[k]?

theorem Own.lt {B : Nat} {w wr : World} {g n cap : Nat} {zs : List Int} (h : Own B w wr (.slice (some ⟨g, 0, none⟩) n cap) zs) : B ≤ g ∧ g < wr.heap.size := ownsRow_lt h.1 rfl

theorem Own.row {B : Nat} {w wr : World} {g n cap : Nat} {zs : List Int} (h : Own B w wr (.slice (some ⟨g, 0, none⟩) n cap) zs) : ∃ cur, wr.heap[g]? = some (.cells cur 3 (0, 0)) := by
  rcases h.1.2 with ⟨e, _⟩ | ⟨g', cap', cur, e, _, hh, _⟩
  · cases e
  · injection e with e1
    injection e1 with e1
    injection e1 with e1
    subst e1
    exact ⟨cur, hh⟩

/-- Its row stands as long as its block does. -/
theorem Own.keep {B : Nat} {w wr w' : World} {g n cap : Nat} {zs : List Int} (h : Own B w wr (.slice (some ⟨g, 0, none⟩) n cap) zs) (hb : Below B wr w') (hg : w'.heap[g]? = wr.heap[g]?) : Own B w w' (.slice (some ⟨g, 0, none⟩) n cap) zs := by
  refine ⟨⟨h.1.1, ?_⟩, h.2.1.trans hb, Nat.le_trans h.2.2 hb.size⟩
  rcases h.1.2 with ⟨e, _⟩ | ⟨g', cap', cur, e, z1, hh, z2⟩
  · cases e
  · injection e with e1 e2 e3
    injection e1 with e1
    injection e1 with e1
    subst e1 e3
    exact .inr ⟨g, cap, cur, by rw [← e2], z1, hg.trans hh, z2⟩

theorem Own.grown {B : Nat} {w wr w' : World} {g n cap : Nat} {zs : List Int} {row : Option Nat} (h : Own B w wr (.slice (some ⟨g, 0, none⟩) n cap) zs) (hg : wr.grownBy w' row) (hr : ∀ r, row = some r → B ≤ r ∧ ∃ o : Obj, wr.heap[r]? = some o ∧ o.isCells = false) : Own B w w' (.slice (some ⟨g, 0, none⟩) n cap) zs := by
  refine h.keep ((Below.refl _ _).grown hg h.2.2 fun k e => (hr k e).1) (hg.block g h.lt.2 fun e => ?_)
  obtain ⟨_, o, h1, h2⟩ := hr g e.symm
  obtain ⟨cur, h3⟩ := h.row
  rw [h3] at h1
  injection h1 with h1
  subst h1
  cases h2

theorem only2_own {α : Type} {g b B : Nat} {w : World} (hB : w.heap.size ≤ B) : OwnFrom B (fun (_ : List α) W => Only2 g b w W) := by
  intro s W W' row hs hg hr
  refine ⟨Nat.le_trans hs.1 hg.size, fun k hk h1 h2 => ?_⟩
  rw [hg.block k (Nat.lt_of_lt_of_le hk hs.1) (fun e => by have := (hr k e.symm).1; omega)]
  exact hs.2 k hk h1 h2

theorem Only2.trans {g b : Nat} {a c d : World} (h : Only2 g b a c) (k : Only2 g b c d) : Only2 g b a d := ⟨Nat.le_trans h.1 k.1, fun i hi h1 h2 => (k.2 i (Nat.lt_of_lt_of_le hi h.1) h1 h2).trans (h.2 i hi h1 h2)⟩
theorem Only2.ofB {g b : Nat} {a c : World} (h : OnlyB g a c) : Only2 g b a c := ⟨h.size, fun k hk h1 _ => h.block k hk h1⟩
theorem Only2.set (g b : Nat) (w : World) (u : Value) : Only2 g b w (w.setCell ⟨b, 0, none⟩ u) := ⟨by simp [World.setCell], fun k _ _ hne => Below.heap_setCell w ⟨b, 0, none⟩ u k (fun e => hne e)⟩

theorem setBox {w : World} {b : Nat} {v u : Value} {t : TypeId} (h : w.heap[b]? = some (.cells #[v] t (0, 0))) : (w.setCell ⟨b, 0, none⟩ u).heap[b]? = some (.cells #[u] t (0, 0)) := by
  rw [setCell_blockK h]; rfl
theorem box_cell {w : World} {b : Nat} {v : Value} {t : TypeId} (h : w.heap[b]? = some (.cells #[v] t (0, 0))) : w.cell? ⟨b, 0, none⟩ = some v ∧ w.frozen? ⟨b, 0, none⟩ = false := by
  constructor <;> simp [World.cell?, World.frozen?, h]

theorem onlyB_others {g : Nat} {w w' : World} (h : OnlyB g w w') {cur : Array Value} {t : TypeId} {fz : Nat × Nat} (hg : w.heap[g]? = some (.cells cur t fz)) : KeepsOthers w w' := by
  refine ⟨h.size, fun k o hk ho => ?_⟩
  rw [h.block k (Array.getElem?_eq_some_iff.1 hk).1 (fun e => by subst e; rw [hg] at hk; injection hk with hk; subst hk; cases ho)]
  exact hk

theorem raiseAll_snoc (l : List (List Int)) (y z : List Int) : raiseAll (l ++ [y]) z = raise1 y (raiseAll l z) := by simp [raiseAll]

theorem raise1_below {y z : List Int} (h : belowL y z = true) : raise1 y z = mapTo z.length (raiseAt y z) := by rw [raise1, if_pos h]

/-- If something was raised, fewer have not Many. -/
theorem few_lt {x z : List Int} (h : Raised x z) (hne : z ≠ x) : fewF z < fewF x := by
  obtain ⟨h1, h2⟩ := raised_few h
  rcases Nat.lt_or_ge (fewF z) (fewF x) with h3 | h3
  · exact h3
  · exact absurd (h2 (by omega)) hne

end Go.Proofs.Ytbpkebkblkjdhaa

/- Package cover as it landed: lift, walked. -/
namespace Go.Proofs.Ytbpkebkblkjdhaa
open Go.RowKit Go.Shelf
set_option linter.unusedVariables false

attribute [local go_sem] Oper.semAt_some

/-- What holds at the head of lift's loop. -/
def LiftI (W0 w : World) (g n cap : Nat) (mine : List (List Int)) (zs : List Int) (k b6 : Nat) (ds : List Deferred) (wr : World) : Prop :=
  ∃ (c : Bool) (z : List Int) (Ds : List Nat), k = 2 * fewF z + (if c then 1 else 0) ∧ wr.heap[b6]? = some (.cells #[.bool c] 4 (0, 0)) ∧ w.heap.size < b6 ∧
    wr.heap[w.heap.size]? = some (.cells #[.slice (some ⟨g, 0, none⟩) n cap] 25 (0, 0)) ∧ Own W0.heap.size W0 wr (.slice (some ⟨g, 0, none⟩) n cap) z ∧ Comes5 mine zs z ∧ (c = false → Still mine z) ∧ OnlyB g w wr ∧ Marked w.heap.size ds Ds wr ∧ z.length = n

theorem lift_start {W0 w : World} {g n cap : Nat} {zs : List Int} {mine : List (List Int)} (hO : Own W0.heap.size W0 w (.slice (some ⟨g, 0, none⟩) n cap) zs) (hn : zs.length = n) :
    ∃ w1, Hid (((w.alloc (.cells #[.slice (some ⟨g, 0, none⟩) n cap] 25)).alloc (.cells #[.bool true] 4)) = w1) ∧ LiftI W0 w g n cap mine zs (2 * fewF zs + 1) (w.heap.size + 1) [] w1 := by
  obtain ⟨hl1, hl2⟩ := hO.lt
  have b1 := below_new w (.cells #[.slice (some ⟨g, 0, none⟩) n cap] 25)
  have b2 := below_new (w.alloc (.cells #[.slice (some ⟨g, 0, none⟩) n cap] 25)) (.cells #[.bool true] 4)
  have hx := heap_alloc_at (w.alloc (.cells #[.slice (some ⟨g, 0, none⟩) n cap] 25)) (.cells #[.bool true] 4)
  have hy : ((w.alloc (.cells #[.slice (some ⟨g, 0, none⟩) n cap] 25)).alloc (.cells #[.bool true] 4)).heap[w.heap.size]? = some (.cells #[.slice (some ⟨g, 0, none⟩) n cap] 25 (0, 0)) := by
    rw [b2.block w.heap.size (by simp), heap_alloc_at]
  simp only [World.size_alloc] at hx
  have b3 := below_then b1 b2
  exact ⟨_, rfl, true, zs, [], rfl, hx, by omega, hy, hO.trans b3, .here, by simp, ⟨b3.mono (by omega), b3.size, fun k hk _ => b3.block k hk⟩, ⟨rfl, List.nodup_nil, by simp⟩, hn⟩

theorem lift_round {wr : World} {b6 x : Nat} {up : Int} {c : Bool} (h : wr.heap[b6]? = some (.cells #[.bool c] 4 (0, 0))) :
    ∃ w5, Hid ((((wr.setCell ⟨b6, 0, none⟩ (.bool false)).alloc (.cells #[.pointer (some ⟨x, 0, none⟩)] 76)).alloc (.cells #[.int .i64 up] 3)) = w5) ∧ w5.heap.size = wr.heap.size + 2 ∧ w5.heap[b6]? = some (.cells #[.bool false] 4 (0, 0)) ∧
      Below b6 wr w5 ∧ (∀ k, k < wr.heap.size → k ≠ b6 → w5.heap[k]? = wr.heap[k]?) ∧ w5.heap[wr.heap.size]? = some (.cells #[.pointer (some ⟨x, 0, none⟩)] 76 (0, 0)) ∧ w5.cell? ⟨wr.heap.size + 1, 0, none⟩ = some (.int .i64 up) := by
  have hlt : b6 < wr.heap.size := (Array.getElem?_eq_some_iff.1 h).1
  obtain ⟨w2, hw2⟩ : ∃ w2, wr.setCell ⟨b6, 0, none⟩ (.bool false) = w2 := ⟨_, rfl⟩
  have hs : w2.heap.size = wr.heap.size := by rw [← hw2]; simp [World.setCell]
  have h2 : w2.heap[b6]? = some (.cells #[.bool false] 4 (0, 0)) := by rw [← hw2]; exact setBox h
  have hb2 : Below b6 wr w2 := by rw [← hw2]; exact (Below.refl _ _).setCell (p := ⟨b6, 0, none⟩) (Nat.le_refl _) _
  have ho : ∀ k, k ≠ b6 → w2.heap[k]? = wr.heap[k]? := fun k hk => by rw [← hw2]; exact Below.heap_setCell _ _ _ _ hk
  rw [hw2]
  have b1 := below_new w2 (.cells #[.pointer (some ⟨x, 0, none⟩)] 76)
  have b2 := below_new (w2.alloc (.cells #[.pointer (some ⟨x, 0, none⟩)] 76)) (.cells #[.int .i64 up] 3)
  have b3 := below_then b1 b2
  refine ⟨_, rfl, by simp [hs], (b3.block b6 (by omega)).trans h2, hb2.trans (b3.mono (by omega)), fun k hk hne => (b3.block k (by omega)).trans (ho k hne), ?_, ?_⟩
  · rw [← hs, b2.block w2.heap.size (by simp), heap_alloc_at]
  · have := cell_new_k (w2.alloc (.cells #[.pointer (some ⟨x, 0, none⟩)] 76)) (.int .i64 up) 3
    simpa [hs] using this

set_option maxRecDepth 100000 in
set_option maxHeartbeats 2000000 in
theorem tree_lift (W0 w : World) (x : Nat) (M : Int) (s : List KnotX) (kv : Value) (hT : TreeR W0 x M s kv) (hL : Linked s) (up : Nat) (hup : up < s.length) (hsl : s.length ≤ 300) (g n cap : Nat) (zs : List Int)
    (hO : Own W0.heap.size W0 w (.slice (some ⟨g, 0, none⟩) n cap) zs) (hn : zs.length = n) (hsz : ∀ y ∈ upMarks s up, y.length = n) (hn16 : n ≤ 16) :
    Calls Try.prog 46 #[.pointer (some ⟨x, 0, none⟩), .slice (some ⟨g, 0, none⟩) n cap, .int .i64 up] w fun e w' =>
      (∃ v, e = .returned v) ∧ ∃ z, Comes5 (upMarks s up) zs z ∧ Still (upMarks s up) z ∧ Own W0.heap.size W0 w' (.slice (some ⟨g, 0, none⟩) n cap) z ∧ OnlyB g w w' := by
  refine (callsIn_wide (n := 5)).1 ?_
  refine callsIn_of_wp_marks Try.func46 rfl trivial ?_ rfl
  simp only [Try.ntmps46, List.size_toArray, List.length_cons, List.length_nil, Nat.reduceAdd, Nat.reduceSub, Array.replicate_succ, Array.replicate_zero, List.push_toArray, List.append_toArray, List.nil_append, List.cons_append]
  refine wpIn_wide.2 ?_
  obtain ⟨w1, Hw1, hI1⟩ := lift_start (mine := upMarks s up) hO hn
  go_wp2_with fail
  rw [Hw1.out]
  refine wp_loop_ghost_k (fun k a wr => ∃ (u7 u8 u9 u10 u11 u12 u13 u14 u15 u16 u17 u18 u19 u20 u21 : Value) (b6 : Nat) (ds : List Deferred), LiftI W0 w g n cap (upMarks s up) zs k b6 ds wr ∧
    a = { tmps := #[.pointer (some ⟨x, 0, none⟩), .slice (some ⟨g, 0, none⟩) n cap, .int .i64 up, undef, .pointer (some ⟨w.heap.size, 0, none⟩), undef, .pointer (some ⟨b6, 0, none⟩), u7, u8, u9, u10, u11, u12, u13, u14, u15, u16, u17, u18, u19, u20, u21], defers := ds }) (2 * fewF zs + 1) ?_ ?_
  · exact ⟨_, _, _, _, _, _, _, _, _, _, _, _, _, _, _, _, _, hI1, rfl⟩
  · rintro k _ wr ⟨u7, u8, u9, u10, u11, u12, u13, u14, u15, u16, u17, u18, u19, u20, u21, b6, ds, hI, rfl⟩ J K hJ hK
    clear hI1 Hw1
    obtain ⟨c, z, Ds, hk, hb6, hlt6, hb4, hOr, hCo, hSt, hOn, hMk, hzl⟩ := hI
    obtain ⟨e6, f6⟩ := box_cell hb6
    obtain ⟨e4, f4⟩ := box_cell hb4
    cases c
    · have Hend : Hid (∀ W, Own W0.heap.size W0 W (.slice (some ⟨g, 0, none⟩) n cap) z ∧ OnlyB g w W → ∃ z, Comes5 (upMarks s up) zs z ∧ Still (upMarks s up) z ∧ Own W0.heap.size W0 W (.slice (some ⟨g, 0, none⟩) n cap) z ∧ OnlyB g w W) :=
        fun W h => ⟨z, hCo, hSt rfl, h.1, h.2⟩
      have hgw : W0.heap.size ≤ g ∧ g < w.heap.size := ⟨hOr.lt.1, hO.lt.2⟩
      clear hk hSt hCo hT hL
      go_wp2
      refine leaves_marks (B := w.heap.size) (fun W => Own W0.heap.size W0 W (.slice (some ⟨g, 0, none⟩) n cap) z ∧ OnlyB g w W) ?_ ?_ hMk ⟨hOr, hOn⟩
      · rintro W D hD hW ⟨q1, q2⟩
        have hne : g ≠ D := by omega
        refine ⟨q1.grown (grownBy_putObj' W D _) (fun r e => by cases e; exact ⟨by omega, _, hW, rfl⟩), ⟨q2.below.trans (belowK_b (w := w) (by omega) W D _ _ hD hW rfl rfl), by simpa using q2.size, fun k hk hne => (World.putObj_heap_other (by omega)).trans (q2.block k hk hne)⟩⟩
      · intro W hW
        exact ⟨_, results_none rfl _ _ _, ⟨_, rfl⟩, Hend.out W hW⟩
    · have Hk : Hid (k = 2 * fewF z + 1) := hk
      clear hk hSt
      obtain ⟨w5, Hw5, hs5, hb6', hB5, ho5, hbt5, hck5⟩ := lift_round (x := x) (up := (up : Int)) hb6
      go_wp2_with fail
      refine (marksUp_any x up _).mono ?_
      rintro e w2 ⟨rfl, rfl⟩
      go_wp2_with fail
      rw [Hw5.out]
      have hgw : W0.heap.size ≤ g ∧ g < w.heap.size := ⟨hOr.lt.1, hO.lt.2⟩
      have hw0 : W0.heap.size ≤ w.heap.size := hO.2.2
      have hlt6' : b6 < wr.heap.size := (Array.getElem?_eq_some_iff.1 hb6).1
      have hO5 : Own W0.heap.size W0 w5 (.slice (some ⟨g, 0, none⟩) n cap) z := hOr.keep (hB5.mono (by omega)) (ho5 g hOr.lt.2 (by omega))
      have h45 : w5.heap[w.heap.size]? = some (.cells #[.slice (some ⟨g, 0, none⟩) n cap] 25 (0, 0)) := (ho5 _ (Array.getElem?_eq_some_iff.1 hb4).1 (by omega)).trans hb4
      have hMk5 : Marked w.heap.size ds Ds w5 := hMk.to fun k o hk ho => (ho5 k (Array.getElem?_eq_some_iff.1 hk).1 (fun e => by subst e; rw [hb6] at hk; injection hk with hk; subst hk; cases ho)).trans hk
      have hDs : ∀ D ∈ Ds, D < w5.heap.size := fun D hD => (Array.getElem?_eq_some_iff.1 (hMk5.all D hD).2).1
      have hOn5 : ∀ k, k < w.heap.size → k ≠ g → w5.heap[k]? = w.heap[k]? := fun k hk hne => (ho5 k (Nat.lt_of_lt_of_le hk hOn.size) (by omega)).trans (hOn.block k hk hne)
      have hs1 := hOn.size
      obtain ⟨cur, hgc⟩ := hO5.row
      clear Hw5 hb6 hb4 e6 f6 e4 f4 hOr hB5 ho5 hMk hOn
      refine (wpIn_wide (n := 5)).1 ?_
      refine wpIn_rangeFunc_ownF rfl (by omega) (gf := 55) (lb := #[.pointer (some ⟨wr.heap.size + 1, 0, none⟩), .pointer (some ⟨wr.heap.size, 0, none⟩)]) rfl trivial (enters_of Try.func55 (by kernel_rfl) rfl)
        (marksUp_stops (5 - 1) (by omega) W0 x M s _ hT hL (up : Int) ⟨by omega, by omega⟩ hsl (fun y => y.length = n) hsz (wr.heap.size + 1) wr.heap.size w5 hO5.2.1 hck5 hbt5) keepT_t (keepT_b (by omega) (by omega)) (Below.refl _ _) (fun _ => rfl)
        (fun pre W => (∃ b : Bool, W.heap[b6]? = some (.cells #[.bool b] 4 (0, 0)) ∧ Own W0.heap.size W0 W (.slice (some ⟨g, 0, none⟩) n cap) (raiseAll (marksOf pre) z) ∧ (b = false ↔ raiseAll (marksOf pre) z = z)) ∧ Only2 g b6 w5 W)
        (fun _ _ _ => False)
        (OwnFrom.and (fun pre A B row hs hg hr => by
          obtain ⟨b, h1, h2, h3⟩ := hs
          refine ⟨b, ?_, h2.grown hg (fun r e => ⟨by have := (hr r e).1; omega, (hr r e).2⟩), h3⟩
          rw [hg.block b6 (Array.getElem?_eq_some_iff.1 h1).1 (fun e => by
            obtain ⟨_, o, q1, q2⟩ := hr b6 e.symm
            rw [h1] at q1
            injection q1 with q1
            subst q1
            cases q2)]
          exact h1) (only2_own (Nat.le_refl _)))
        (fun _ _ _ _ _ hs _ _ => hs)
        ⟨⟨false, hb6', hO5, ⟨fun _ => rfl, fun _ => rfl⟩⟩, Nat.le_refl _, fun _ _ _ _ => rfl⟩
        (fun y => { tmps := #[.pointer (some ⟨x, 0, none⟩), .slice (some ⟨g, 0, none⟩) n cap, .int .i64 up, undef, .pointer (some ⟨w.heap.size, 0, none⟩), undef, .pointer (some ⟨b6, 0, none⟩), y.1.1, .bool true, .pointer (some ⟨x, 0, none⟩), .int .i64 up, .func (.func 55) #[] #[.pointer (some ⟨wr.heap.size + 1, 0, none⟩), .pointer (some ⟨wr.heap.size, 0, none⟩)], y.1.1, u13, u14, u15, u16, u17, u18, u19, u20, u21], defers := [] }) ?assign ?body ?done ?stop
      case assign =>
        intro l y W K hK
        gi_wp2
        exact hK
      case stop =>
        rintro D c pre W _ _ h _
        exact h.elim
      case done =>
        rintro D ys W hD hys ⟨⟨b, h1, h2, h3⟩, h4⟩ hKD
        rw [hys] at h2 h3
        obtain ⟨e6, f6⟩ := box_cell h1
        have hs2 := h4.1
        have hC : Hid (LiftI W0 w g n cap (upMarks s up) zs (2 * fewF (raiseAll (upMarks s up) z) + (if b then 1 else 0)) W.heap.size ({ target := .collected D, args := #[] } :: ds) (W.alloc (.cells #[.bool b] 4))) := by
          have bn := below_new W (.cells #[.bool b] 4)
          refine ⟨b, raiseAll (upMarks s up) z, D :: Ds, rfl, heap_alloc_at _ _, by omega, ?_, h2.trans bn, comes_all _ (fun _ h => h) hCo, fun e => by rw [h3.1 e]; exact all_still (h3.1 e), ⟨?_, by simp; omega, ?_⟩, ?_, by rw [(raiseAll_raised _ _).1]; exact hzl⟩
          · rw [bn.block w.heap.size (by omega), h4.2 w.heap.size (by omega) (by omega) (by omega)]; exact h45
          · have q1 := hO.2.1
            have q2 := h2.2.1
            refine ⟨(q2.os.trans q1.os.symm), (q2.tape.trans q1.tape.symm), (q2.output.trans q1.output.symm), by simp; omega, fun k hk => ?_⟩
            rw [bn.block k (by omega), h4.2 k (by omega) (by omega) (by omega)]
            exact hOn5 k (by omega) (by omega)
          · intro k hk hne
            rw [bn.block k (by omega), h4.2 k (by omega) hne (by omega)]
            exact hOn5 k hk hne
          · refine Marked.cons (hMk5.to fun k o hk ho => ?_) (by omega) (fun h => by have := hDs D h; omega) ?_
            · have hkl := (Array.getElem?_eq_some_iff.1 hk).1
              rw [bn.block k (by omega), h4.2 k hkl (fun e => by subst e; rw [hgc] at hk; injection hk with hk; subst hk; cases ho) (fun e => by subst e; rw [hb6'] at hk; injection hk with hk; subst hk; cases ho)]
              exact hk
            · rw [bn.block D (Array.getElem?_eq_some_iff.1 hKD).1]; exact hKD
        have hM : Hid (2 * fewF (raiseAll (upMarks s up) z) + (if b then 1 else 0) < k) := by
          show _ < _
          rw [Hk.out]
          cases b
          · rw [h3.1 rfl]; simp
          · have := few_lt (raiseAll_raised (upMarks s up) z) (fun e => by have := h3.2 e; cases this)
            simp; omega
        clear h2 h3 hck5 hbt5 h45 hMk5 hDs hOn5 hO5
        go_wp2
        refine Handed.intro _ hM.out (hJ _ _ _ ⟨_, _, _, _, _, _, _, _, _, _, _, _, _, _, _, _, _, hC.out, rfl⟩)
      case body =>
        rintro l pre y W ⟨⟨b, h1, h2, h3⟩, h4⟩ _
        have hsn := marksOf_snoc pre y
        have hyl : y.1.2.length = n := y.2.2
        obtain ⟨zc, Hzc⟩ : ∃ zc, Hid (raiseAll (marksOf pre) z = zc) := ⟨_, rfl⟩
        have Hnx : Hid (raiseAll (marksOf (pre ++ [y])) z = raise1 y.1.2 zc) := by show _ = _; rw [hsn, raiseAll_snoc, Hzc.out]
        rw [Hzc.out] at h2 h3
        have hzcl : zc.length = n := by rw [← Hzc.out, (raiseAll_raised _ _).1]; exact hzl
        have hyW : Ints W y.1.1 y.1.2 := y.2.1.below h2.2.1
        have hmW : Ints W (.slice (some ⟨g, 0, none⟩) n cap) zc := h2.ints (by omega)
        have hs2 := h4.1
        obtain ⟨e6, f6⟩ := box_cell h1
        have hb4W : W.heap[w.heap.size]? = some (.cells #[.slice (some ⟨g, 0, none⟩) n cap] 25 (0, 0)) := (h4.2 w.heap.size (by omega) (by omega) (by omega)).trans h45
        obtain ⟨e4, f4⟩ := box_cell hb4W
        obtain ⟨curW, hgW⟩ := h2.row
        have Hr1 : Hid (Raised z zc) := by show Raised _ _; rw [← Hzc.out]; exact raiseAll_raised _ _
        clear hsn Hzc
        cases hbl : belowL y.1.2 zc
        · have E : Hid (raise1 y.1.2 zc = zc) := by show _ = _; rw [raise1, hbl]; rfl
          rw [E.out] at Hnx
          gi_wp2_with (refine ⟨trivial, ?_⟩; gi_at_call 44; refine (CallsIn.inRound l (callsIn_wide.2 (cbelow_any y.1.1 _ y.1.2 zc _ hyW hmW (by omega)))).mono ?_; rintro e w' ⟨rfl, m, rfl⟩; rw [hbl])
          refine ⟨trivial, ?_⟩
          have hbd : Below W.heap.size W (W.drewN m) := below_drewN (Below.refl _ _) m
          have R1 : Hid (KeepsOthers W (W.drewN m)) := keepsOthers_drewN W m
          have R2 : Hid (KeepT W0.heap.size wr.heap.size W (W.drewN m)) := ⟨hbd.mono h2.2.2, by simp⟩
          have R3 : Hid ((W.drewN m).heap[b6]? = some (.cells #[.bool b] 4 (0, 0))) := by show _ = _; simpa using h1
          have R4 : Hid (Own W0.heap.size W0 (W.drewN m) (.slice (some ⟨g, 0, none⟩) n cap) (raiseAll (marksOf (pre ++ [y])) z)) := by show Own _ _ _ _ _; rw [Hnx.out]; exact h2.trans hbd
          have R5 : Hid (b = false ↔ raiseAll (marksOf (pre ++ [y])) z = z) := by show _ ↔ _; rw [Hnx.out]; exact h3
          have R6 : Hid (Only2 g b6 w5 (W.drewN m)) := h4.trans (Only2.ofB (OnlyB.drewN g W m))
          obtain ⟨wd, Hwd⟩ : ∃ wd, Hid (W.drewN m = wd) := ⟨_, rfl⟩
          rw [Hwd.out] at R1 R2 R3 R4 R6 ⊢
          clear h1 h2 h3 h4 hyW hmW e6 f6 e4 f4 hb4W hgW Hwd hbd
          gi_wp2
          exact ⟨R1.out, R2.out, ⟨b, R3.out, R4.out, R5.out⟩, R6.out⟩
        · have E : Hid (raise1 y.1.2 zc = mapTo n (raiseAt y.1.2 zc)) := by show _ = _; rw [raise1_below hbl, hzcl]
          rw [E.out] at Hnx
          gi_wp2_with (refine ⟨trivial, ?_⟩; gi_at_call 44; refine (CallsIn.inRound l (callsIn_wide.2 (cbelow_any y.1.1 _ y.1.2 zc _ hyW hmW (by omega)))).mono ?_; rintro e w' ⟨rfl, m, rfl⟩; rw [hbl])
          refine ⟨trivial, ?_⟩
          have hbd : Below W.heap.size W (W.drewN m) := below_drewN (Below.refl _ _) m
          have K1 := keepsOthers_drewN W m
          have K2 := OnlyB.drewN g W m
          have h2d := h2.trans hbd
          have h1d : (W.drewN m).heap[b6]? = some (.cells #[.bool b] 4 (0, 0)) := by simpa using h1
          have htd : (W.drewN m).heap[wr.heap.size]? = W.heap[wr.heap.size]? := by simp
          have hwt : wr.heap.size < (W.drewN m).heap.size := by have := hbd.size; omega
          obtain ⟨wd, Hwd⟩ : ∃ wd, Hid (W.drewN m = wd) := ⟨_, rfl⟩
          rw [Hwd.out] at hbd K1 K2 h2d h1d htd hwt ⊢
          obtain ⟨curd, hgd⟩ := h2d.row
          have hb6d : b6 ≠ g := by omega
          clear h1 e6 f6 e4 f4 hb4W hgW Hwd hmW
          refine (CallsIn.inRound l (callsIn_wide.2 (coutgrow_any W0 wd g n cap zc y.1.2 y.1.1 h2d hzcl hyl y.2.1))).mono ?_
          rintro e w3 ⟨b2, rfl, hO3, hB3, hb3⟩
          have L1 := K1.trans (onlyB_others hB3 hgd)
          have L2 : KeepT W0.heap.size wr.heap.size W w3 := ⟨(hbd.mono h2.2.2).trans (hB3.below.mono hgw.1), (hB3.block _ hwt (by omega)).trans htd⟩
          have L3 : w3.heap[b6]? = some (.cells #[.bool b] 4 (0, 0)) := (hB3.block b6 (Array.getElem?_eq_some_iff.1 h1d).1 hb6d).trans h1d
          have L4 : Own W0.heap.size W0 w3 (.slice (some ⟨g, 0, none⟩) n cap) (raiseAll (marksOf (pre ++ [y])) z) := by rw [Hnx.out]; exact hO3
          have L6 : Only2 g b6 w5 w3 := h4.trans ((Only2.ofB K2).trans (Only2.ofB hB3))
          obtain ⟨c6, d6⟩ := box_cell L3
          cases b2
          · have R5 : Hid (b = false ↔ raiseAll (marksOf (pre ++ [y])) z = z) := by show _ ↔ _; rw [Hnx.out, hb3.1 rfl]; exact h3
            have HL : Hid _ := And.intro L1 (And.intro L2 (And.intro L3 (And.intro L4 L6)))
            clear h2 h3 h4 hyW hbd K1 K2 h2d h1d htd hgd hB3 hO3 hb3 L1 L2 L3 L4 L6
            gi_wp2
            obtain ⟨L1, L2, L3, L4, L6⟩ := HL.out
            exact ⟨L1, L2, ⟨b, L3, L4, R5.out⟩, L6⟩
          · have R5 : Hid (true = false ↔ raiseAll (marksOf (pre ++ [y])) z = z) := by
              refine ⟨fun h => (by cases h), fun h => ?_⟩
              rw [Hnx.out] at h
              have q1 := raised_few Hr1.out
              have q2 := raised_few (raise1_raised y.1.2 zc)
              rw [E.out, h] at q2
              have q3 : zc = z := q1.2 (by omega)
              rw [q3] at hb3 h
              exact hb3.2 (by rw [← q3]; rw [q3]; exact h)
            have M1 := L1.trans (KeepsOthers.setCell w3 ⟨b6, 0, none⟩ (.bool true))
            have M2 : KeepT W0.heap.size wr.heap.size W (w3.setCell ⟨b6, 0, none⟩ (.bool true)) := ⟨L2.1.setCell (p := ⟨b6, 0, none⟩) (by show W0.heap.size ≤ b6; omega) _, (Below.heap_setCell w3 ⟨b6, 0, none⟩ _ _ (by show wr.heap.size ≠ b6; omega)).trans L2.2⟩
            have M3 := setBox (u := .bool true) L3
            have M4 : Own W0.heap.size W0 (w3.setCell ⟨b6, 0, none⟩ (.bool true)) (.slice (some ⟨g, 0, none⟩) n cap) (raiseAll (marksOf (pre ++ [y])) z) := L4.keep ((Below.refl _ _).setCell (p := ⟨b6, 0, none⟩) (by show W0.heap.size ≤ b6; omega) _) (Below.heap_setCell w3 ⟨b6, 0, none⟩ _ _ (by show g ≠ b6; omega))
            have M6 := L6.trans (Only2.set g b6 w3 (.bool true))
            have HL : Hid _ := And.intro M1 (And.intro M2 (And.intro M3 (And.intro M4 M6)))
            clear h2 h3 h4 hyW hbd K1 K2 h2d h1d htd hgd hB3 hO3 hb3 L1 L2 L3 L4 L6 M1 M2 M3 M4 M6
            gi_wp2
            obtain ⟨L1, L2, L3, L4, L6⟩ := HL.out
            exact ⟨L1, L2, ⟨true, L3, L4, R5.out⟩, L6⟩

end Go.Proofs.Ytbpkebkblkjdhaa

/- Package cover as it landed: a tree while it grows, where it lies. -/
namespace Go.Proofs.Ytbpkebkblkjdhaa
open Go.RowKit
set_option linter.unusedVariables false

/-- A tree that grows: its struct at block x, its knots in a row of its own, each mark in a row of its own, all made since W. -/
structure TreeW (x : Nat) (M : Int) (W wr : World) (s : List KnotX) (kv : Value) (ms : List Value) : Prop where
  below : Below W.heap.size W wr
  hx : W.heap.size ≤ x
  lt : x < wr.heap.size
  cells : wr.heap[x]? = some (.cells #[.int .i64 M, kv] 56 (0, 0))
  rowK : wr.ownsRow W.heap.size 39 3 kv s.length (knotCells s ms)
  apx : kv.ownBlock ≠ some x
  lenM : ms.length = s.length
  marks : ∀ j, j < s.length → (knotAt s j).mark.length ≤ 16 ∧ wr.ownsRow W.heap.size 3 1 (valAt ms j) (knotAt s j).mark.length ((knotAt s j).mark.map (Value.int .i64))
  apM : ∀ j, j < s.length → ∀ b, (valAt ms j).ownBlock = some b → b ≠ x ∧ kv.ownBlock ≠ some b ∧ ∀ i, i < s.length → i ≠ j → (valAt ms i).ownBlock ≠ some b

section
variable {x : Nat} {M : Int} {W wr : World} {s : List KnotX} {kv : Value} {ms : List Value}

theorem TreeW.size (h : TreeW x M W wr s kv ms) : W.heap.size ≤ wr.heap.size := Nat.le_trans h.hx (Nat.le_of_lt h.lt)

theorem TreeW.to {w' : World} (h : TreeW x M W wr s kv ms) (hb : Below wr.heap.size wr w') : TreeW x M W w' s kv ms :=
  { h with
    below := h.below.trans (hb.mono h.size)
    lt := Nat.lt_of_lt_of_le h.lt hb.size
    cells := by rw [hb.block x h.lt]; exact h.cells
    rowK := ((ownsRow_on h.rowK).below hb).now
    marks := fun j hj => ⟨(h.marks j hj).1, ((ownsRow_on (h.marks j hj).2).below hb).now⟩ }

theorem TreeW.mark (h : TreeW x M W wr s kv ms) {j : Nat} (hj : j < s.length) : Ints wr (valAt ms j) (knotAt s j).mark := ownsRow_ints (h.marks j hj).2 (by have := (h.marks j hj).1; omega)

theorem TreeW.knots (h : TreeW x M W wr s kv ms) (hl : s.length ≤ 300) : Knots wr kv (s.map KnotX.knot) := by
  rcases h.rowK.2 with ⟨e, h0⟩ | ⟨g, cap, cur, e, hg, hh, hn, hcap, _⟩
  · exact ⟨none, 0, 0, e, by simp [h0], by omega, ⟨by omega, by omega, fun _ => rfl⟩, fun j hj => absurd hj (by simp [h0])⟩
  · refine ⟨_, s.length, _, e, by simp, by omega, ⟨hn, by unfold maxLen at hcap; omega, fun h => by cases h⟩, fun j hj => ?_⟩
    have hj' : j < s.length := by simpa using hj
    have ho := h.rowK
    rw [e] at ho
    obtain ⟨q1, q2, q3⟩ := triTo_at (fun j => .int .i64 (knotAt s j).up) (fun j => .int .i64 (knotAt s j).tran) (valAt ms) hj'
    refine ⟨g, 0, valAt ms j, rfl, (Array.getElem?_eq_some_iff.1 hh).1, ?_, ?_, ?_, ?_⟩
    · rw [Nat.zero_add, ho.cellAt (j * 3) (by omega), knotOf_map hj']; exact q1
    · rw [Nat.zero_add, ho.cellAt (j * 3 + 1) (by omega), knotOf_map hj']; exact q2
    · rw [Nat.zero_add, ho.cellAt (j * 3 + 2) (by omega)]; exact q3
    · rw [knotOf_map hj']; exact h.mark hj'

theorem TreeW.read (h : TreeW x M W wr s kv ms) (hl : s.length ≤ 300) : TreeR wr x M s kv := ⟨h.lt, h.cells, h.knots hl⟩

theorem TreeW.at (h : TreeW x M W wr s kv ms) : wr.cell? ⟨x, 0, none⟩ = some (.int .i64 M) ∧ wr.cell? ⟨x, 1, none⟩ = some kv ∧ wr.frozen? ⟨x, 1, none⟩ = false := by
  refine ⟨?_, ?_, ?_⟩ <;> simp [World.cell?, World.frozen?, h.cells]

theorem TreeW.slice (h : TreeW x M W wr s kv ms) : ∃ a c, kv = .slice a s.length c := by
  rcases h.rowK.2 with ⟨e, h0⟩ | ⟨g, cap', cur, e, _⟩
  · exact ⟨none, 0, by rw [e, h0]⟩
  · exact ⟨_, _, e⟩

theorem TreeW.elem (h : TreeW x M W wr s kv ms) {k : Nat} (hk : k < s.length) : ∃ g c, kv = .slice (some ⟨g, 0, none⟩) s.length c ∧ g < wr.heap.size ∧ wr.cell? ⟨g, k * 3 + 2, none⟩ = some (valAt ms k) := by
  rcases h.rowK.2 with ⟨e, h0⟩ | ⟨g, c, cur, e, _⟩
  · omega
  · have ho := h.rowK
    rw [e] at ho
    refine ⟨g, c, e, (ownsRow_lt h.rowK (k := g) (by rw [e]; rfl)).2, ?_⟩
    rw [ho.cellAt (k * 3 + 2) (by omega)]
    exact (triTo_at _ _ _ hk).2.2

/-- One more knot. -/
theorem TreeW.grow {wB wC : World} {kv' mv : Value} (h : TreeW x M W wr s kv ms) (y : KnotX) (o : Obj) (hB : Below wr.heap.size wr wB) (hl : y.mark.length ≤ 16)
    (hO : wB.ownsRow wr.heap.size 3 1 mv y.mark.length (y.mark.map (Value.int .i64)))
    (hown : wC.ownsRow W.heap.size 39 3 kv' (s.length + 1) (knotCells s ms ++ [.int .i64 y.up, .int .i64 y.tran, mv])) (hg : (wB.alloc o).grownBy wC kv.ownBlock)
    (hat : kv'.ownBlock = kv.ownBlock ∨ kv'.ownBlock = some (wB.alloc o).heap.size) :
    TreeW x M W (wC.setCell ⟨x, 1, none⟩ kv') (s ++ [y]) kv' (ms ++ [mv]) := by
  have hb := below_then hB (below_new wB o)
  have h1 := h.to hb
  have hs1 : wr.heap.size ≤ wB.heap.size := hB.size
  have hs2 : (wB.alloc o).heap.size = wB.heap.size + 1 := by simp
  have hs3 := hg.size
  have hsW := h.size
  have hxl := h.lt
  have hkv : ∀ k, kv.ownBlock = some k → W.heap.size ≤ k ∧ k < wr.heap.size := fun k hk => ownsRow_lt h.rowK hk
  have hmv : ∀ k, mv.ownBlock = some k → wr.heap.size ≤ k ∧ k < wB.heap.size := fun k hk => ownsRow_lt hO hk
  have hms : ∀ j, j < s.length → ∀ k, (valAt ms j).ownBlock = some k → W.heap.size ≤ k ∧ k < wr.heap.size := fun j hj k hk => ownsRow_lt (h.marks j hj).2 hk
  have hkv' : ∀ k, k < wB.heap.size → kv.ownBlock ≠ some k → kv'.ownBlock ≠ some k := by
    intro k hlt hne
    rcases hat with e | e <;> rw [e]
    · exact hne
    · intro e; injection e with e; omega
  have keep : ∀ k, k < wB.heap.size → k ≠ x → kv.ownBlock ≠ some k → (wC.setCell ⟨x, 1, none⟩ kv').heap[k]? = wB.heap[k]? := by
    intro k hlt hne hnr
    rw [Below.heap_setCell wC ⟨x, 1, none⟩ kv' k hne, hg.block k (by omega) (fun e => hnr e.symm), (below_new wB o).block k hlt]
  have hxx : wC.heap[x]? = some (.cells #[.int .i64 M, kv] 56 (0, 0)) := by
    rw [hg.block x (by omega) (fun e => h.apx e.symm), (below_new wB o).block x (by omega), hB.block x h.lt]; exact h.cells
  have hsC : wB.heap.size ≤ (wC.setCell ⟨x, 1, none⟩ kv').heap.size := by simp [World.setCell]; omega
  have rows : ∀ {v : Value} {B n : Nat} {zs : List Value}, wB.ownsRow B 3 1 v n zs → (∀ k, v.ownBlock = some k → k ≠ x ∧ kv.ownBlock ≠ some k) → (wC.setCell ⟨x, 1, none⟩ kv').ownsRow B 3 1 v n zs := by
    intro v B n zs hv hne
    exact ((ownsRow_on hv).to hsC fun k hlt hd => keep k hlt (hne k hd.1).1 (hne k hd.1).2).now
  have hlen : (s ++ [y]).length = s.length + 1 := by simp
  refine ⟨?_, h.hx, by simp [World.setCell]; omega, ?_, ?_, hkv' x (by omega) h.apx, by simp [h.lenM], fun j hj => ?_, fun j hj b hbk => ?_⟩
  · have b1 : Below W.heap.size W wC := h1.below.grown hg (by omega) (fun k hk => (hkv k hk).1)
    exact b1.setCell (p := ⟨x, 1, none⟩) h.hx _
  · rw [setCell_blockK hxx]; rfl
  · rw [knotCells_append s ms y mv h.lenM, hlen]
    have := (ownsRow_on hown).set (a := ⟨x, 1, none⟩) (fun e => hkv' x (by omega) h.apx e.1) kv'
    exact this.now
  · by_cases hjl : j < s.length
    · rw [knotAt_append hjl, valAt_append (by rw [h.lenM]; exact hjl)]
      refine ⟨(h.marks j hjl).1, rows ((ownsRow_on (h.marks j hjl).2).below hB).now (fun k hk => ?_)⟩
      have := h.apM j hjl k hk
      exact ⟨this.1, this.2.1⟩
    · have e : j = s.length := by omega
      subst e
      rw [knotAt_last]
      have ev : valAt (ms ++ [mv]) s.length = mv := by rw [← h.lenM]; exact valAt_last ms mv
      rw [ev]
      refine ⟨hl, ?_⟩
      have q := rows hO (fun k hk => by have := hmv k hk; exact ⟨by omega, fun e => by have := hkv k e; omega⟩)
      refine ⟨q.1, ?_⟩
      rcases q.2 with e | ⟨g, cap, cur, e, z1, z2⟩
      · exact .inl e
      · exact .inr ⟨g, cap, cur, e, by omega, z2⟩
  · have evn : valAt (ms ++ [mv]) s.length = mv := by rw [← h.lenM]; exact valAt_last ms mv
    have evo : ∀ i, i < s.length → valAt (ms ++ [mv]) i = valAt ms i := fun i hi => valAt_append (by rw [h.lenM]; exact hi)
    by_cases hjl : j < s.length
    · rw [evo j hjl] at hbk
      obtain ⟨q1, q2, q3⟩ := h.apM j hjl b hbk
      have hlt := hms j hjl b hbk
      refine ⟨q1, hkv' b (by omega) q2, fun i hi hne => ?_⟩
      by_cases hil : i < s.length
      · rw [evo i hil]; exact q3 i hil hne
      · have e : i = s.length := by omega
        subst e
        rw [evn]
        intro e
        have := hmv b e
        omega
    · have e : j = s.length := by omega
      subst e
      rw [evn] at hbk
      have hlt := hmv b hbk
      refine ⟨by omega, hkv' b (by omega) (fun e => by have := hkv b e; omega), fun i hi hne => ?_⟩
      have hil : i < s.length := by omega
      rw [evo i hil]
      intro e
      have := hms i hil b e
      omega

/-- As it is answered: each mark in a row of its own. -/
theorem TreeW.own {B : Nat} (h : TreeW x M W wr s kv ms) (hl : s.length ≤ 300) (hB : B ≤ W.heap.size) : Knots wr kv (s.map KnotX.knot) ∧ wr.ownsRow B 39 3 kv s.length (knotCells s ms) := by
  refine ⟨h.knots hl, h.rowK.1, ?_⟩
  rcases h.rowK.2 with e | ⟨g, cap, cur, e, z1, z2⟩
  · exact .inl e
  · exact .inr ⟨g, cap, cur, e, by omega, z2⟩

end

end Go.Proofs.Ytbpkebkblkjdhaa
